/- What NumText answers, the program's and the specification's, at every int: the decimal numeral of it modulo 1000000, not below nought. -/
import Derived.Test.YtchieahfellcbaaDoorDecI
import Derived.Test.YtchieahfellcbaaDoorWDec3
namespace Go.Proofs.YtchieahfellcbaaDoor
open Go.RowKit

theorem ret_int {a b : Int} (h : a = b) : Ending.returned (.int .i64 a) = Ending.returned (.int .i64 b) := by rw [h]

set_option maxHeartbeats 400000 in
theorem rounded_any (n : Int) (w : World) (h1 : -9223372036854775808 ≤ n) (h2 : n ≤ 9223372036854775807) :
    Calls Tryd.prog 54 #[.int .i64 n] w fun e w' => e = .returned (.int .i64 (n % 1000000)) ∧ w' = w := by
  by_cases h : 0 ≤ n
  · obtain ⟨k, rfl⟩ := Int.eq_ofNat_of_zero_le h
    go_enter Tryd.func54, Tryd.ntmps54
    go_wp2
    go_ret
    exact ⟨ret_int (by omega), rfl⟩
  · obtain ⟨k, rfl⟩ : ∃ k : Nat, n = -(k : Int) := ⟨n.natAbs, by omega⟩
    go_enter Tryd.func54, Tryd.ntmps54
    go_wp2
    go_ret
    exact ⟨ret_int (by omega), rfl⟩

/-- What NumText answers. -/
def ntL (n : Int) : List UInt8 := Pl.decL (n % 1000000)

set_option maxHeartbeats 400000 in
theorem implNumText_any (n : Int) (w : World) (h1 : -9223372036854775808 ≤ n) (h2 : n ≤ 9223372036854775807) (ht : Lib.TabIs Tryd.prog w "internal/strconv.uint64pow10" .u64 Lib.pow10Tab) :
    Calls Tryd.prog 27 #[.int .i64 n] w fun e w' => e = .returned (.string ⟨(ntL n).toArray⟩) ∧ Below w.heap.size w w' := by
  have C1 : Hid (∀ w, Calls Tryd.prog 54 #[.int .i64 n] w fun e w' => e = .returned (.int .i64 (n % 1000000)) ∧ w' = w) := fun w => rounded_any n w h1 h2
  have C2 : Hid (Calls Tryd.prog 13 #[.int .i64 (n % 1000000)] w fun e w' => e = .returned (.string ⟨(ntL n).toArray⟩) ∧ Below w.heap.size w w') := implDecimal_any (n % 1000000) w (by omega) (by omega) ht
  have hm1 : 0 ≤ n % 1000000 := by omega
  have hm2 : n % 1000000 < 1000000 := by omega
  generalize n % 1000000 = m at *
  clear ht
  go_enter Tryd.func27, Tryd.ntmps27
  go_wp2_with fail
  refine (C1.out _).mono ?_
  rintro e w' ⟨rfl, rfl⟩
  go_wp2_with fail
  refine C2.out.mono ?_
  rintro e w' ⟨rfl, hb⟩
  go_wp2
  go_ret
  exact ⟨rfl, hb⟩

set_option maxHeartbeats 400000 in
theorem specNumText_any (n : Int) (w : World) (h1 : -9223372036854775808 ≤ n) (h2 : n ≤ 9223372036854775807) :
    Calls Tryd.prog 31 #[.int .i64 n] w fun e w' => e = .returned (.string ⟨(ntL n).toArray⟩) ∧ Below w.heap.size w w' := by
  have CD : Hid (∀ z, z = n % 1000000 → Calls Tryd.prog 34 #[.int .i64 z] w fun e w' => e = .returned (.string ⟨(ntL n).toArray⟩) ∧ Below w.heap.size w w') := by
    intro z hz
    subst hz
    exact specDecimal_any (n % 1000000) w (by omega) (by omega)
  generalize ntL n = t at *
  by_cases h : 0 ≤ n
  · obtain ⟨k, rfl⟩ := Int.eq_ofNat_of_zero_le h
    have d : decide ((k : Int) % 1000000 < 0) = false := by simp; omega
    go_enter Tryd.func31, Tryd.ntmps31
    go_wp2_with (go_at_call 34; refine (CD.out _ (by omega)).mono ?_; rintro e w' ⟨rfl, hb⟩)
    go_ret
    exact ⟨rfl, hb⟩
  · obtain ⟨k, rfl⟩ : ∃ k : Nat, n = -(k : Int) := ⟨n.natAbs, by omega⟩
    by_cases hk : k % 1000000 = 0
    · have d : decide (-((k : Int) % 1000000) < 0) = false := by simp; omega
      go_enter Tryd.func31, Tryd.ntmps31
      go_wp2_with (go_at_call 34; refine (CD.out _ (by omega)).mono ?_; rintro e w' ⟨rfl, hb⟩)
      go_ret
      exact ⟨rfl, hb⟩
    · have d : decide (-((k : Int) % 1000000) < 0) = true := by simp; omega
      go_enter Tryd.func31, Tryd.ntmps31
      go_wp2_with (go_at_call 34; refine (CD.out _ (by omega)).mono ?_; rintro e w' ⟨rfl, hb⟩)
      go_ret
      exact ⟨rfl, hb⟩
#print axioms specNumText_any
end Go.Proofs.YtchieahfellcbaaDoor
