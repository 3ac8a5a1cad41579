/- A message: when it is right; the specification of MessageOk. -/
import Derived.Test.YtdkenmpdgadcpaaDoorMPRmVrA
import Derived.Test.YtdkenmpdgadcpaaDoorMPRmCoS
import Derived.Lib.Strings
import Derived.Deep.RegionHeld3
import Derived.Deep.RegionWith
namespace Go.Proofs.YtdkenmpdgadcpaaDoor
open Go.RowKit

/-- A message, plain. -/
structure Ms where
  kind : Int
  worker : Int
  task : Int
  try_ : Int
  body : ByteArray
namespace Ms
def val (m : Ms) : Value := .agg #[.int .i64 m.kind, .int .i64 m.worker, .int .i64 m.task, .int .i64 m.try_, .string m.body]
/-- When it is right. -/
def ok (m : Ms) : Bool := decide (1 ≤ m.kind ∧ m.kind ≤ 4) && (decide (1 ≤ m.worker ∧ m.worker ≤ 3) && (decide (0 ≤ m.task ∧ m.task ≤ 20) && (decide (0 ≤ m.try_ ∧ m.try_ ≤ 1000000000) && (decide (m.body.size ≤ 15000) && (decide (m.kind = 2) || (decide (m.kind = 3) || decide (m.body.size = 0)))))))
end Ms
theorem l01In_is (x a b : Int) (w : World) : Calls Tryd.prog 28 #[.int .i64 x, .int .i64 a, .int .i64 b] w fun e w' => e = .returned (.bool (decide (a ≤ x ∧ x ≤ b))) ∧ w' = w := by
  by_cases h : a ≤ x ∧ x ≤ b
  · rw [decide_eq_true h]
    exact l01In_yes x a b w h.1 h.2
  · rw [decide_eq_false h]
    exact l01In_no x a b w (by omega)

set_option maxHeartbeats 4000000 in
set_option maxRecDepth 100000 in
theorem spMessageOk (m : Ms) (w : World) :
    Calls Tryd.prog 12 #[m.val] w fun e w' => e = .returned (.bool m.ok) ∧ Below w.heap.size w w' := by
  obtain ⟨kd, wk, tk, tr, bo⟩ := m
  have C1 : Hid (∀ W, Calls Tryd.prog 28 #[.int .i64 kd, .int .i64 1, .int .i64 4] W fun e w' => e = .returned (.bool (decide (1 ≤ kd ∧ kd ≤ 4))) ∧ w' = W) := fun W => l01In_is _ _ _ W
  have C2 : Hid (∀ W, Calls Tryd.prog 28 #[.int .i64 wk, .int .i64 1, .int .i64 3] W fun e w' => e = .returned (.bool (decide (1 ≤ wk ∧ wk ≤ 3))) ∧ w' = W) := fun W => l01In_is _ _ _ W
  have C3 : Hid (∀ W, Calls Tryd.prog 28 #[.int .i64 tk, .int .i64 0, .int .i64 20] W fun e w' => e = .returned (.bool (decide (0 ≤ tk ∧ tk ≤ 20))) ∧ w' = W) := fun W => l01In_is _ _ _ W
  have C4 : Hid (∀ W, Calls Tryd.prog 28 #[.int .i64 tr, .int .i64 0, .int .i64 1000000000] W fun e w' => e = .returned (.bool (decide (0 ≤ tr ∧ tr ≤ 1000000000))) ∧ w' = W) := fun W => l01In_is _ _ _ W
  have HA : Hid (Below w.heap.size w (w.alloc (.cells #[.int .i64 kd, .int .i64 wk, .int .i64 tk, .int .i64 tr, .string bo] 27))) := (Below.refl _ _).alloc (Nat.le_refl _) _
  have hbody : bo.toList.isEmpty = decide (bo.size = 0) := by
    have h2 : bo.data.toList.length = bo.size := by simp
    rw [Lib.toList_data, Bool.eq_iff_iff]
    simp only [List.isEmpty_iff, decide_eq_true_eq]
    constructor
    · intro h; rw [h] at h2; simpa using h2.symm
    · intro h; rw [h] at h2; exact List.eq_nil_of_length_eq_zero h2
  have HO : Hid ((⟨kd, wk, tk, tr, bo⟩ : Ms).ok = (decide (1 ≤ kd ∧ kd ≤ 4) && (decide (1 ≤ wk ∧ wk ≤ 3) && (decide (0 ≤ tk ∧ tk ≤ 20) && (decide (0 ≤ tr ∧ tr ≤ 1000000000) && (decide (bo.size ≤ 15000) && (decide (kd = 2) || (decide (kd = 3) || decide (bo.size = 0))))))))) := rfl
  generalize decide (1 ≤ kd ∧ kd ≤ 4) = b1 at *
  generalize decide (1 ≤ wk ∧ wk ≤ 3) = b2 at *
  generalize decide (0 ≤ tk ∧ tk ≤ 20) = b3 at *
  generalize decide (0 ≤ tr ∧ tr ≤ 1000000000) = b4 at *
  obtain ⟨b5, h5⟩ : ∃ b5, b5 = decide (bo.size ≤ 15000) := ⟨_, rfl⟩
  have d5 : decide ((15000 : Int) < (bo.size : Int)) = !b5 := by
    rw [h5]
    by_cases h : bo.size ≤ 15000
    · rw [decide_eq_true h, decide_eq_false (by omega)]; rfl
    · rw [decide_eq_false h, decide_eq_true (by omega)]; rfl
  rw [← h5] at HO
  have k2 : (kd == 2) = decide (kd = 2) := by rw [Bool.eq_iff_iff]; simp
  have k3 : (kd == 3) = decide (kd = 3) := by rw [Bool.eq_iff_iff]; simp
  obtain ⟨c2, hc2⟩ : ∃ c2, c2 = decide (kd = 2) := ⟨_, rfl⟩
  obtain ⟨c3, hc3⟩ : ∃ c3, c3 = decide (kd = 3) := ⟨_, rfl⟩
  obtain ⟨c0, hc0⟩ : ∃ c0, c0 = decide (bo.size = 0) := ⟨_, rfl⟩
  rw [← hc2] at HO k2
  rw [← hc3] at HO k3
  rw [← hc0] at HO hbody
  clear h5 hc2 hc3 hc0
  unfold Ms.val
  simp only
  cases b1
  · go_enter Tryd.func12, Tryd.ntmps12
    go_wp2_with (go_at_call_of 28 (Value.int IntKind.i64 kd); refine (C1.out _).mono ?_; rintro e w1 ⟨rfl, rfl⟩)
    go_ret
    exact ⟨by rw [HO.out]; rfl, HA.out⟩
  cases b2
  · go_enter Tryd.func12, Tryd.ntmps12
    go_wp2_with (first | (go_at_call_of 28 (Value.int IntKind.i64 kd); refine (C1.out _).mono ?_; rintro e w1 ⟨rfl, rfl⟩) | (go_at_call_of 28 (Value.int IntKind.i64 wk); refine (C2.out _).mono ?_; rintro e w2 ⟨rfl, rfl⟩))
    go_ret
    exact ⟨by rw [HO.out]; rfl, HA.out⟩
  cases b3
  · go_enter Tryd.func12, Tryd.ntmps12
    go_wp2_with (first | (go_at_call_of 28 (Value.int IntKind.i64 kd); refine (C1.out _).mono ?_; rintro e w1 ⟨rfl, rfl⟩) | (go_at_call_of 28 (Value.int IntKind.i64 wk); refine (C2.out _).mono ?_; rintro e w2 ⟨rfl, rfl⟩) | (go_at_call_of 28 (Value.int IntKind.i64 tk); refine (C3.out _).mono ?_; rintro e w3 ⟨rfl, rfl⟩))
    go_ret
    exact ⟨by rw [HO.out]; rfl, HA.out⟩
  cases b4
  · go_enter Tryd.func12, Tryd.ntmps12
    go_wp2_with (first | (go_at_call_of 28 (Value.int IntKind.i64 kd); refine (C1.out _).mono ?_; rintro e w1 ⟨rfl, rfl⟩) | (go_at_call_of 28 (Value.int IntKind.i64 wk); refine (C2.out _).mono ?_; rintro e w2 ⟨rfl, rfl⟩) | (go_at_call_of 28 (Value.int IntKind.i64 tk); refine (C3.out _).mono ?_; rintro e w3 ⟨rfl, rfl⟩) | (go_at_call_of 28 (Value.int IntKind.i64 tr); refine (C4.out _).mono ?_; rintro e w4 ⟨rfl, rfl⟩))
    go_ret
    exact ⟨by rw [HO.out]; rfl, HA.out⟩
  cases b5 <;> cases c2 <;> cases c3 <;> cases c0
  all_goals
    simp only [Bool.not_true, Bool.not_false] at d5
    go_enter Tryd.func12, Tryd.ntmps12
    go_wp2_with (first | (go_at_call_of 28 (Value.int IntKind.i64 kd); refine (C1.out _).mono ?_; rintro e w1 ⟨rfl, rfl⟩) | (go_at_call_of 28 (Value.int IntKind.i64 wk); refine (C2.out _).mono ?_; rintro e w2 ⟨rfl, rfl⟩) | (go_at_call_of 28 (Value.int IntKind.i64 tk); refine (C3.out _).mono ?_; rintro e w3 ⟨rfl, rfl⟩) | (go_at_call_of 28 (Value.int IntKind.i64 tr); refine (C4.out _).mono ?_; rintro e w4 ⟨rfl, rfl⟩))
    go_ret
    exact ⟨by rw [HO.out]; rfl, HA.out⟩
end Go.Proofs.YtdkenmpdgadcpaaDoor
