/- The specification's reader of a pattern: a set, and small laws on what a part leaves. -/
import Derived.Test.YtnlbbomejpopnaaRdE
import Derived.Test.YtnlbbomejpopnaaKit
namespace Go.Proofs.Ytnlbbomejpopnaa
open Go.RowKit

theorem conv1 (W : World) (c : UInt8) : (convert 22 9 (.slice (some ⟨W.heap.size, 0, none⟩) 1 1)).run Try.prog (W.alloc (.cells #[.int .u8 (c.toNat : Int)] 5)) = .ok (.string ⟨[c].toArray⟩) (W.alloc (.cells #[.int .u8 (c.toNat : Int)] 5)) := by
  have h : Row W.heap.size (W.alloc (.cells #[.int .u8 (c.toNat : Int)] 5)) (.slice (some ⟨W.heap.size, 0, none⟩) 1 1) [c] :=
    World.ownsRow_lit (base := W.heap.size) (e := 5) (size := 1) W #[.int .u8 (c.toNat : Int)] 1 (Nat.le_refl _) (by decide) rfl
  exact h.str

theorem ext_take (s : ByteArray) (b e : Nat) : s.extract b e = ⟨((s.data.toList.drop b).take (e - b)).toArray⟩ := by
  apply ByteArray.ext
  apply Array.ext'
  rw [ByteArray.data_extract, Array.toList_extract]

theorem FB.setg {g B : Nat} {w w' : World} (h : FB g B w w') (o : Nat) (u : Value) : FB g B w (w'.setCell ⟨g, o, none⟩ u) :=
  ⟨by simpa [World.setCell] using h.1, fun k hk hkg => by rw [Below.heap_setCell _ _ _ _ (by show k ≠ g; exact hkg)]; exact h.2.1 k hk hkg, h.2.2⟩
theorem FB.draw {g B : Nat} {w w' : World} (h : FB g B w w') (k : Nat) : FB g B w (w'.drewN k) := h

end Go.Proofs.Ytnlbbomejpopnaa
