/- The specification of ProgramOk: a node's text. -/
import Derived.Test.YtehagonaacbmiaaGreatMPRjZai
import Derived.Test.YtehagonaacbmiaaGreatMPRjZae
namespace Go.Proofs.YtehagonaacbmiaaGreat
open Go.RowKit

/-- The specification's ReadPattern: whether it is read. -/
theorem spReadOk (t : ByteArray) (w : World) (ht : t.size ≤ 1048576) :
    Calls Tryz.prog 97 #[.string t] w fun e w' => ∃ va vn vc, e = .returned (.tuple #[.agg #[.slice va vn vc], .bool (Pp.read t.data.toList).isSome]) ∧ Below w.heap.size w w' := by
  refine (specRead_any t w ht).mono ?_
  rintro e w' ⟨b, k⟩
  cases h : Pp.read t.data.toList with
  | none =>
    rw [h] at k
    obtain rfl : e = _ := k
    exact ⟨_, _, _, rfl, b⟩
  | some p =>
    rw [h] at k
    obtain ⟨v, rfl, k1, k2, k3⟩ := k
    obtain ⟨va, vn, vc, rfl⟩ := k1.form
    exact ⟨va, vn, vc, rfl, b⟩

end Go.Proofs.YtehagonaacbmiaaGreat
