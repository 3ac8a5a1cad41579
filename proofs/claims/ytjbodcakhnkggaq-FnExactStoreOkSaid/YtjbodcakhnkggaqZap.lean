/- The specification's reader of a pattern: a thing. The specification's reader of a pattern: a thing with its signs behind it. -/
import Derived.Test.YtjbodcakhnkggaqZao
namespace Go.Proofs.Ytjbodcakhnkggaq
section PartRdG
open Go.RowKit

set_option maxRecDepth 100000 in
theorem conv2 (w : World) (g k : Nat) (z : Int) (b : UInt8) : (convert 71 9 (.slice (some ⟨w.heap.size, 0, none⟩) 1 1)).run Try.prog (((w.drewN k).setCell ⟨g, 1, none⟩ (.int .i64 z)).alloc (.cells #[.int .u8 (b.toNat : Int)] 5)) =
    .ok (.string ⟨[b].toArray⟩) (((w.drewN k).setCell ⟨g, 1, none⟩ (.int .i64 z)).alloc (.cells #[.int .u8 (b.toNat : Int)] 5)) := by
  have h := conv1 ((w.drewN k).setCell ⟨g, 1, none⟩ (.int .i64 z)) b
  have e : ((w.drewN k).setCell ⟨g, 1, none⟩ (.int .i64 z)).heap.size = w.heap.size := by simp [World.setCell]
  rwa [e] at h
set_option maxRecDepth 100000 in
theorem conv3 (w : World) (g k k2 : Nat) (z z2 : Int) (b : UInt8) : (convert 71 9 (.slice (some ⟨w.heap.size, 0, none⟩) 1 1)).run Try.prog (((((w.drewN k).setCell ⟨g, 1, none⟩ (.int .i64 z)).drewN k2).setCell ⟨g, 1, none⟩ (.int .i64 z2)).alloc (.cells #[.int .u8 (b.toNat : Int)] 5)) =
    .ok (.string ⟨[b].toArray⟩) (((((w.drewN k).setCell ⟨g, 1, none⟩ (.int .i64 z)).drewN k2).setCell ⟨g, 1, none⟩ (.int .i64 z2)).alloc (.cells #[.int .u8 (b.toNat : Int)] 5)) := by
  have h := conv2 ((w.drewN k).setCell ⟨g, 1, none⟩ (.int .i64 z)) g k2 z2 b
  have e : ((w.drewN k).setCell ⟨g, 1, none⟩ (.int .i64 z)).heap.size = w.heap.size := by simp [World.setCell]
  rwa [e] at h
theorem getAt (s : ByteArray) (a : Nat) (h : a < s.size) : s.data.toList[a]? = some s[a] := by
  rw [List.getElem?_eq_getElem (by simpa using h)]; rfl

end PartRdG
section PartRdH
open Go.RowKit

/-- The sign's kind. -/
def mop (b : UInt8) : Nat := if b = 43 then 8 else if b = 63 then 9 else 7

theorem more_end (l : List UInt8) (f a : Nat) (ps : List Pp.Pc) (k : Nat) (h : ∀ b, l[a]? = some b → ¬ (b = 42 ∨ b = 43 ∨ b = 63)) : Pp.more l (f + 1) a ps k = some (a, ps, k) := by
  rw [Pp.more]
  cases hb : l[a]? with
  | none => rfl
  | some b => simp only [h b hb, ↓reduceIte]
theorem more_go (l : List UInt8) (f a : Nat) (ps : List Pp.Pc) (k : Nat) (b : UInt8) (hb : l[a]? = some b) (h : b = 42 ∨ b = 43 ∨ b = 63) : Pp.more l (f + 1) a ps k = match Pp.put ps ⟨mop b, [], [k]⟩ with
    | none => none
    | some (o, j) => Pp.more l f (a + 1) o j := by
  rw [Pp.more, hb]
  simp only [h, ↓reduceIte]
  rfl

/-- The kids of a piece, as they are written down just ahead of it. -/
theorem rkids1 (W : World) (k : Nat) : KidsBlk (W.alloc (.cells #[.int .i64 (k : Int)] 3)) W.heap.size ([k].map Int.ofNat) := heap_alloc_new W _
theorem rkids2 (W : World) (k j : Nat) : KidsBlk (W.alloc (.cells #[.int .i64 (k : Int), .int .i64 (j : Int)] 3)) W.heap.size ([k, j].map Int.ofNat) := heap_alloc_new W _

/-- How much is left to read, as the world holds it. -/
def leftOf (g : Nat) (s : ByteArray) (w : World) : Nat := match w.cell? ⟨g, 2, none⟩ with
  | some (.bool true) => 0
  | _ => s.size + 1 - placeOf g w
theorem put_at {o : List Pp.Pc} {p : Pp.Pc} {a1 : Nat} : ∀ a x k, ((Pp.put o p).map fun (o, k) => (a1, o, k)) = some (a, x, k) → a1 ≤ a := by
  intro a x k h
  cases hp : Pp.put o p with
  | none => rw [hp] at h; simp at h
  | some r => rw [hp] at h; simp at h; omega

end PartRdH
end Go.Proofs.Ytjbodcakhnkggaq
