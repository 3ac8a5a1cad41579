/- Small laws for the walks over decimal figures: the string of one byte, a byte ahead of a text, the next figure. -/
import Derived.Test.YtmobohkcocidhaaKit
import Derived.Test.YtmobohkcocidhaaPlainF
namespace Go.Proofs.Ytmobohkcocidhaa
open Go.RowKit

/-- The string of one byte that was just laid. -/
theorem conv1 (W : World) (c : UInt8) : (convert 22 9 (.slice (some ⟨W.heap.size, 0, none⟩) 1 1)).run Try.prog (W.alloc (.cells #[.int .u8 (c.toNat : Int)] 5)) = .ok (.string ⟨[c].toArray⟩) (W.alloc (.cells #[.int .u8 (c.toNat : Int)] 5)) := by
  have h : Row W.heap.size (W.alloc (.cells #[.int .u8 (c.toNat : Int)] 5)) (.slice (some ⟨W.heap.size, 0, none⟩) 1 1) [c] :=
    World.ownsRow_lit (base := W.heap.size) (e := 5) (size := 1) W #[.int .u8 (c.toNat : Int)] 1 (Nat.le_refl _) (by decide) rfl
  exact h.str

theorem cat1 (c : UInt8) (t : List UInt8) : (⟨[c].toArray⟩ : ByteArray) ++ (⟨t.toArray⟩ : ByteArray) = ⟨(c :: t).toArray⟩ := by
  apply ByteArray.ext
  simp

theorem dg_round (n f m : Nat) (t : List UInt8) (hf : m < 10 ^ f) (he : Pl.dg f m ++ t = Pl.dg 20 n) (h : m ≠ 0) :
    ∃ g, f = g + 1 ∧ m / 10 < 10 ^ g ∧ Pl.dg g (m / 10) ++ (Pl.ch (m % 10) :: t) = Pl.dg 20 n := by
  cases f with
  | zero => simp at hf; omega
  | succ g =>
    refine ⟨g, rfl, ?_, ?_⟩
    · rw [Nat.pow_succ] at hf; omega
    · rw [Pl.dg_more g m h] at he; simpa using he

theorem ret_str {a b : ByteArray} (h : a = b) : Ending.returned (.string a) = Ending.returned (.string b) := by rw [h]

end Go.Proofs.Ytmobohkcocidhaa
