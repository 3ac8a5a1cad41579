/- What is a number: the program's IsNum and the specification's, at every text. The specification of ProgramOk: how many kids; expressions; a node's text. -/
import Derived.Test.YtjbodcakhnkggaqProg
import Derived.Test.YtjbodcakhnkggaqZah
import Derived.WalkKit
import Derived.WalkSpells
import Derived.WalkLawsBesides
import Derived.Handy
import Derived.Lib.Strings
import Derived.Test.YtjbodcakhnkggaqZak
import Derived.Test.YtjbodcakhnkggaqZaj
namespace Go.Proofs.Ytjbodcakhnkggaq
section PartVNum
open Go.RowKit

theorem str_ne (s : ByteArray) (h : 0 < s.size) : s.toList.isEmpty = false := by
  rw [Lib.toList_data]
  have e : s.data.toList.length = s.size := by simp
  cases hd : s.data.toList with
  | nil => rw [hd] at e; simp at e; omega
  | cons a l => rfl
theorem str_nil (s : ByteArray) (h : ¬ 0 < s.size) : s = (⟨#[]⟩ : ByteArray) := by
  apply ByteArray.ext
  apply Array.eq_empty_of_size_eq_zero
  have : s.data.size = s.size := rfl
  omega

set_option maxHeartbeats 400000 in
theorem l01In_any (x : Nat) (w : World) (h : x ≤ 2097152) :
    Calls Try.prog 28 #[.int .i64 (x : Int), .int .i64 1, .int .i64 6] w fun e w' => e = .returned (.bool (decide (1 ≤ x ∧ x ≤ 6))) ∧ w' = w := by
  by_cases h1 : 1 ≤ x
  · by_cases h2 : x ≤ 6
    · have d1 : decide ((1 : Int) ≤ (x : Int)) = true := by simp; omega
      have d2 : decide ((x : Int) ≤ 6) = true := by simp; omega
      have e : decide (1 ≤ x ∧ x ≤ 6) = true := by simp; omega
      rw [e]; clear e
      go_enter Try.func28, Try.ntmps28
      go_wp2
      go_ret
      exact ⟨rfl, rfl⟩
    · have d1 : decide ((1 : Int) ≤ (x : Int)) = true := by simp; omega
      have d2 : decide ((x : Int) ≤ 6) = false := by simp; omega
      have e : decide (1 ≤ x ∧ x ≤ 6) = false := by simp; omega
      rw [e]; clear e
      go_enter Try.func28, Try.ntmps28
      go_wp2
      go_ret
      exact ⟨rfl, rfl⟩
  · have d1 : decide ((1 : Int) ≤ (x : Int)) = false := by simp; omega
    have e : decide (1 ≤ x ∧ x ≤ 6) = false := by simp; omega
    rw [e]; clear e
    go_enter Try.func28, Try.ntmps28
    go_wp2
    go_ret
    exact ⟨rfl, rfl⟩

end PartVNum
section PartPgC
open Go.RowKit

end PartPgC
end Go.Proofs.Ytjbodcakhnkggaq
