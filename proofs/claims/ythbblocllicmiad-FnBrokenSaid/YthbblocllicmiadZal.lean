/- The specification's reader of a pattern: a set, and small laws on what a part leaves. The specification's reader of a pattern: a thing. -/
import Derived.Test.YthbblocllicmiadZaj
import Derived.Test.YthbblocllicmiadZak
namespace Go.Proofs.Ythbblocllicmiad
section PartRdF
open Go.RowKit

theorem conv1 (W : World) (c : UInt8) : (convert 22 9 (.slice (some ⟨W.heap.size, 0, none⟩) 1 1)).run Try.prog (W.alloc (.cells #[.int .u8 (c.toNat : Int)] 5)) = .ok (.string ⟨[c].toArray⟩) (W.alloc (.cells #[.int .u8 (c.toNat : Int)] 5)) := by
  have h : Row W.heap.size (W.alloc (.cells #[.int .u8 (c.toNat : Int)] 5)) (.slice (some ⟨W.heap.size, 0, none⟩) 1 1) [c] :=
    World.ownsRow_lit (base := W.heap.size) (e := 5) (size := 1) W #[.int .u8 (c.toNat : Int)] 1 (Nat.le_refl _) (by decide) rfl
  exact h.str

theorem ext_take (s : ByteArray) (b e : Nat) : s.extract b e = ⟨((s.data.toList.drop b).take (e - b)).toArray⟩ := by
  apply ByteArray.ext
  apply Array.ext'
  rw [ByteArray.data_extract, Array.toList_extract]

theorem RP.setg {B g : Nat} {w : World} {v : Value} {ps : List Pp.Pc} (h : RP B w v ps) (hg : g < B) (o : Nat) (u : Value) : RP B (w.setCell ⟨g, o, none⟩ u) v ps :=
  h.keep fun q hq _ => Below.heap_setCell _ _ _ _ (by show q ≠ g; omega)
theorem RP.draw {B : Nat} {w : World} {v : Value} {ps : List Pp.Pc} (h : RP B w v ps) (k : Nat) : RP B (w.drewN k) v ps := h.keep fun _ _ _ => rfl
theorem FB.setg {g B : Nat} {w w' : World} (h : FB g B w w') (o : Nat) (u : Value) : FB g B w (w'.setCell ⟨g, o, none⟩ u) :=
  ⟨by simpa [World.setCell] using h.1, fun k hk hkg => by rw [Below.heap_setCell _ _ _ _ (by show k ≠ g; exact hkg)]; exact h.2.1 k hk hkg, h.2.2⟩
theorem FB.draw {g B : Nat} {w w' : World} (h : FB g B w w') (k : Nat) : FB g B w (w'.drewN k) := h

end PartRdF
section PartRdG
open Go.RowKit

set_option maxRecDepth 100000 in
theorem conv2 (w : World) (g k : Nat) (z : Int) (b : UInt8) : (convert 22 9 (.slice (some ⟨w.heap.size, 0, none⟩) 1 1)).run Try.prog (((w.drewN k).setCell ⟨g, 1, none⟩ (.int .i64 z)).alloc (.cells #[.int .u8 (b.toNat : Int)] 5)) =
    .ok (.string ⟨[b].toArray⟩) (((w.drewN k).setCell ⟨g, 1, none⟩ (.int .i64 z)).alloc (.cells #[.int .u8 (b.toNat : Int)] 5)) := by
  have h := conv1 ((w.drewN k).setCell ⟨g, 1, none⟩ (.int .i64 z)) b
  have e : ((w.drewN k).setCell ⟨g, 1, none⟩ (.int .i64 z)).heap.size = w.heap.size := by simp [World.setCell]
  rwa [e] at h
set_option maxRecDepth 100000 in
theorem conv3 (w : World) (g k k2 : Nat) (z z2 : Int) (b : UInt8) : (convert 22 9 (.slice (some ⟨w.heap.size, 0, none⟩) 1 1)).run Try.prog (((((w.drewN k).setCell ⟨g, 1, none⟩ (.int .i64 z)).drewN k2).setCell ⟨g, 1, none⟩ (.int .i64 z2)).alloc (.cells #[.int .u8 (b.toNat : Int)] 5)) =
    .ok (.string ⟨[b].toArray⟩) (((((w.drewN k).setCell ⟨g, 1, none⟩ (.int .i64 z)).drewN k2).setCell ⟨g, 1, none⟩ (.int .i64 z2)).alloc (.cells #[.int .u8 (b.toNat : Int)] 5)) := by
  have h := conv2 ((w.drewN k).setCell ⟨g, 1, none⟩ (.int .i64 z)) g k2 z2 b
  have e : ((w.drewN k).setCell ⟨g, 1, none⟩ (.int .i64 z)).heap.size = w.heap.size := by simp [World.setCell]
  rwa [e] at h
theorem getAt (s : ByteArray) (a : Nat) (h : a < s.size) : s.data.toList[a]? = some s[a] := by
  rw [List.getElem?_eq_getElem (by simpa using h)]; rfl

end PartRdG
end Go.Proofs.Ythbblocllicmiad
