/- Which of two cells is ahead. -/
import Derived.Test.YtmofljfffcnlbaaMPSxZae
import Derived.Test.YtmofljfffcnlbaaMPSxZaj
namespace Go.Proofs.Ytmofljfffcnlbaa
open Go.RowKit

set_option maxHeartbeats 1600000 in
theorem spAhead (a0 a1 a2 b0 b1 b2 : ByteArray) (w : World) :
    Calls Try.prog 28 #[.agg #[.string a0, .string a1, .string a2], .agg #[.string b0, .string b1, .string b2]] w fun e w' => e = .returned (.bool (St.lt2 a0 a1 b0 b1)) ∧ Below w.heap.size w w' := by
  have HB : Hid (∀ A B : Obj, Below w.heap.size w ((w.alloc A).alloc B)) := fun A B => ((Below.refl _ _).alloc (Nat.le_refl _) _).alloc (by simp) _
  obtain ⟨V, hV⟩ : ∃ V, V = St.lt2 a0 a1 b0 b1 := ⟨_, rfl⟩
  have HV : Hid (V = (Op.bytesLess a0.toList b0.toList || ((a0.toList == b0.toList) && Op.bytesLess a1.toList b1.toList))) := hV
  rw [← hV]
  clear hV
  cases h0 : Op.bytesLess a0.toList b0.toList with
  | true =>
    have HR : Hid (V = true) := HV.out.trans (by rw [h0]; rfl)
    clear HV
    go_enter Try.func28, Try.ntmps28
    go_wp2
    go_ret
    exact ⟨by rw [HR.out]; rfl, HB.out _ _⟩
  | false =>
    cases h1 : (a0.toList == b0.toList) with
    | false =>
      have HR : Hid (V = false) := HV.out.trans (by rw [h0, h1]; rfl)
      clear HV
      go_enter Try.func28, Try.ntmps28
      go_wp2
      go_ret
      exact ⟨by rw [HR.out]; rfl, HB.out _ _⟩
    | true =>
      have HR : Hid (V = Op.bytesLess a1.toList b1.toList) := HV.out.trans (by rw [h0, h1]; rfl)
      clear HV
      go_enter Try.func28, Try.ntmps28
      go_wp2
      go_ret
      exact ⟨by rw [HR.out]; rfl, HB.out _ _⟩
end Go.Proofs.Ytmofljfffcnlbaa
