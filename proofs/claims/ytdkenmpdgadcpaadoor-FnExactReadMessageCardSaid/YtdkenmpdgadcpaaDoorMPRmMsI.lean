/- When a message is right: the program; the law on MessageOk. -/
import Derived.Test.YtdkenmpdgadcpaaDoorMPRmMsL
namespace Go.Proofs.YtdkenmpdgadcpaaDoor
open Go.RowKit

theorem body_empty (bo : ByteArray) : bo.toList.isEmpty = decide (bo.size = 0) := by
  have h2 : bo.data.toList.length = bo.size := by simp
  rw [Lib.toList_data, Bool.eq_iff_iff]
  simp only [List.isEmpty_iff, decide_eq_true_eq]
  constructor
  · intro h; rw [h] at h2; simpa using h2.symm
  · intro h; rw [h] at h2; exact List.eq_nil_of_length_eq_zero h2

set_option maxHeartbeats 20000000 in
set_option maxRecDepth 100000 in
theorem imMessageOk (m : Ms) (w : World) (hb : m.body.size ≤ 1048576) :
    Calls Tryd.prog 15 #[m.val] w fun e w' => e = .returned (.bool m.ok) ∧ Below w.heap.size w w' := by
  obtain ⟨kd, wk, tk, tr, bo⟩ := m
  have HA : Hid (Below w.heap.size w (w.alloc (.cells #[.int .i64 kd, .int .i64 wk, .int .i64 tk, .int .i64 tr, .string bo] 27))) := (Below.refl _ _).alloc (Nat.le_refl _) _
  have hbe := body_empty bo
  simp only at hb
  unfold Ms.val
  simp only
  by_cases k2 : kd = 2
  · subst k2
    clear hbe
    by_cases c0 : 1 ≤ wk
    · have d0 : decide (1 ≤ wk) = true := decide_eq_true c0
      by_cases c1 : wk ≤ 3
      · have d1 : decide (wk ≤ 3) = true := decide_eq_true c1
        by_cases c2 : 0 ≤ tk
        · have d2 : decide (0 ≤ tk) = true := decide_eq_true c2
          by_cases c3 : tk ≤ 20
          · have d3 : decide (tk ≤ 20) = true := decide_eq_true c3
            by_cases c4 : 0 ≤ tr
            · have d4 : decide (0 ≤ tr) = true := decide_eq_true c4
              by_cases c5 : tr ≤ 1000000000
              · have d5 : decide (tr ≤ 1000000000) = true := decide_eq_true c5
                by_cases c6 : (bo.size : Int) ≤ 15000
                · have d6 : decide ((bo.size : Int) ≤ 15000) = true := decide_eq_true c6
                  have HO : Hid (Ms.ok ⟨2, wk, tk, tr, bo⟩ = true) := by
                    show _ = _
                    unfold Ms.ok
                    simp only [Bool.and_eq_true, Bool.or_eq_true, decide_eq_true_eq]
                    refine ⟨by omega, by omega, by omega, by omega, by omega, ?_⟩
                    first | (simp; done) | omega | (right; right; omega)
                  clear hb
                  go_enter Tryd.func15, Tryd.ntmps15
                  go_wp2
                  go_ret
                  exact ⟨by rw [HO.out]; rfl, HA.out⟩
                · have d6 : decide ((bo.size : Int) ≤ 15000) = false := decide_eq_false c6
                  have HO : Hid (Ms.ok ⟨2, wk, tk, tr, bo⟩ = false) := by
                    show _ = _
                    unfold Ms.ok
                    rw [Bool.eq_false_iff]
                    simp only [ne_eq, Bool.and_eq_true, Bool.or_eq_true, decide_eq_true_eq]
                    omega
                  clear hb
                  go_enter Tryd.func15, Tryd.ntmps15
                  go_wp2
                  go_ret
                  exact ⟨by rw [HO.out]; rfl, HA.out⟩
              · have d5 : decide (tr ≤ 1000000000) = false := decide_eq_false c5
                have HO : Hid (Ms.ok ⟨2, wk, tk, tr, bo⟩ = false) := by
                  show _ = _
                  unfold Ms.ok
                  rw [Bool.eq_false_iff]
                  simp only [ne_eq, Bool.and_eq_true, Bool.or_eq_true, decide_eq_true_eq]
                  omega
                clear hb
                go_enter Tryd.func15, Tryd.ntmps15
                go_wp2
                go_ret
                exact ⟨by rw [HO.out]; rfl, HA.out⟩
            · have d4 : decide (0 ≤ tr) = false := decide_eq_false c4
              have HO : Hid (Ms.ok ⟨2, wk, tk, tr, bo⟩ = false) := by
                show _ = _
                unfold Ms.ok
                rw [Bool.eq_false_iff]
                simp only [ne_eq, Bool.and_eq_true, Bool.or_eq_true, decide_eq_true_eq]
                omega
              clear hb
              go_enter Tryd.func15, Tryd.ntmps15
              go_wp2
              go_ret
              exact ⟨by rw [HO.out]; rfl, HA.out⟩
          · have d3 : decide (tk ≤ 20) = false := decide_eq_false c3
            have HO : Hid (Ms.ok ⟨2, wk, tk, tr, bo⟩ = false) := by
              show _ = _
              unfold Ms.ok
              rw [Bool.eq_false_iff]
              simp only [ne_eq, Bool.and_eq_true, Bool.or_eq_true, decide_eq_true_eq]
              omega
            clear hb
            go_enter Tryd.func15, Tryd.ntmps15
            go_wp2
            go_ret
            exact ⟨by rw [HO.out]; rfl, HA.out⟩
        · have d2 : decide (0 ≤ tk) = false := decide_eq_false c2
          have HO : Hid (Ms.ok ⟨2, wk, tk, tr, bo⟩ = false) := by
            show _ = _
            unfold Ms.ok
            rw [Bool.eq_false_iff]
            simp only [ne_eq, Bool.and_eq_true, Bool.or_eq_true, decide_eq_true_eq]
            omega
          clear hb
          go_enter Tryd.func15, Tryd.ntmps15
          go_wp2
          go_ret
          exact ⟨by rw [HO.out]; rfl, HA.out⟩
      · have d1 : decide (wk ≤ 3) = false := decide_eq_false c1
        have HO : Hid (Ms.ok ⟨2, wk, tk, tr, bo⟩ = false) := by
          show _ = _
          unfold Ms.ok
          rw [Bool.eq_false_iff]
          simp only [ne_eq, Bool.and_eq_true, Bool.or_eq_true, decide_eq_true_eq]
          omega
        clear hb
        go_enter Tryd.func15, Tryd.ntmps15
        go_wp2
        go_ret
        exact ⟨by rw [HO.out]; rfl, HA.out⟩
    · have d0 : decide (1 ≤ wk) = false := decide_eq_false c0
      have HO : Hid (Ms.ok ⟨2, wk, tk, tr, bo⟩ = false) := by
        show _ = _
        unfold Ms.ok
        rw [Bool.eq_false_iff]
        simp only [ne_eq, Bool.and_eq_true, Bool.or_eq_true, decide_eq_true_eq]
        omega
      clear hb
      go_enter Tryd.func15, Tryd.ntmps15
      go_wp2
      go_ret
      exact ⟨by rw [HO.out]; rfl, HA.out⟩
  by_cases k3 : kd = 3
  · subst k3
    clear hbe
    by_cases c0 : 1 ≤ wk
    · have d0 : decide (1 ≤ wk) = true := decide_eq_true c0
      by_cases c1 : wk ≤ 3
      · have d1 : decide (wk ≤ 3) = true := decide_eq_true c1
        by_cases c2 : 0 ≤ tk
        · have d2 : decide (0 ≤ tk) = true := decide_eq_true c2
          by_cases c3 : tk ≤ 20
          · have d3 : decide (tk ≤ 20) = true := decide_eq_true c3
            by_cases c4 : 0 ≤ tr
            · have d4 : decide (0 ≤ tr) = true := decide_eq_true c4
              by_cases c5 : tr ≤ 1000000000
              · have d5 : decide (tr ≤ 1000000000) = true := decide_eq_true c5
                by_cases c6 : (bo.size : Int) ≤ 15000
                · have d6 : decide ((bo.size : Int) ≤ 15000) = true := decide_eq_true c6
                  have HO : Hid (Ms.ok ⟨3, wk, tk, tr, bo⟩ = true) := by
                    show _ = _
                    unfold Ms.ok
                    simp only [Bool.and_eq_true, Bool.or_eq_true, decide_eq_true_eq]
                    refine ⟨by omega, by omega, by omega, by omega, by omega, ?_⟩
                    first | (simp; done) | omega | (right; right; omega)
                  clear hb
                  go_enter Tryd.func15, Tryd.ntmps15
                  go_wp2
                  go_ret
                  exact ⟨by rw [HO.out]; rfl, HA.out⟩
                · have d6 : decide ((bo.size : Int) ≤ 15000) = false := decide_eq_false c6
                  have HO : Hid (Ms.ok ⟨3, wk, tk, tr, bo⟩ = false) := by
                    show _ = _
                    unfold Ms.ok
                    rw [Bool.eq_false_iff]
                    simp only [ne_eq, Bool.and_eq_true, Bool.or_eq_true, decide_eq_true_eq]
                    omega
                  clear hb
                  go_enter Tryd.func15, Tryd.ntmps15
                  go_wp2
                  go_ret
                  exact ⟨by rw [HO.out]; rfl, HA.out⟩
              · have d5 : decide (tr ≤ 1000000000) = false := decide_eq_false c5
                have HO : Hid (Ms.ok ⟨3, wk, tk, tr, bo⟩ = false) := by
                  show _ = _
                  unfold Ms.ok
                  rw [Bool.eq_false_iff]
                  simp only [ne_eq, Bool.and_eq_true, Bool.or_eq_true, decide_eq_true_eq]
                  omega
                clear hb
                go_enter Tryd.func15, Tryd.ntmps15
                go_wp2
                go_ret
                exact ⟨by rw [HO.out]; rfl, HA.out⟩
            · have d4 : decide (0 ≤ tr) = false := decide_eq_false c4
              have HO : Hid (Ms.ok ⟨3, wk, tk, tr, bo⟩ = false) := by
                show _ = _
                unfold Ms.ok
                rw [Bool.eq_false_iff]
                simp only [ne_eq, Bool.and_eq_true, Bool.or_eq_true, decide_eq_true_eq]
                omega
              clear hb
              go_enter Tryd.func15, Tryd.ntmps15
              go_wp2
              go_ret
              exact ⟨by rw [HO.out]; rfl, HA.out⟩
          · have d3 : decide (tk ≤ 20) = false := decide_eq_false c3
            have HO : Hid (Ms.ok ⟨3, wk, tk, tr, bo⟩ = false) := by
              show _ = _
              unfold Ms.ok
              rw [Bool.eq_false_iff]
              simp only [ne_eq, Bool.and_eq_true, Bool.or_eq_true, decide_eq_true_eq]
              omega
            clear hb
            go_enter Tryd.func15, Tryd.ntmps15
            go_wp2
            go_ret
            exact ⟨by rw [HO.out]; rfl, HA.out⟩
        · have d2 : decide (0 ≤ tk) = false := decide_eq_false c2
          have HO : Hid (Ms.ok ⟨3, wk, tk, tr, bo⟩ = false) := by
            show _ = _
            unfold Ms.ok
            rw [Bool.eq_false_iff]
            simp only [ne_eq, Bool.and_eq_true, Bool.or_eq_true, decide_eq_true_eq]
            omega
          clear hb
          go_enter Tryd.func15, Tryd.ntmps15
          go_wp2
          go_ret
          exact ⟨by rw [HO.out]; rfl, HA.out⟩
      · have d1 : decide (wk ≤ 3) = false := decide_eq_false c1
        have HO : Hid (Ms.ok ⟨3, wk, tk, tr, bo⟩ = false) := by
          show _ = _
          unfold Ms.ok
          rw [Bool.eq_false_iff]
          simp only [ne_eq, Bool.and_eq_true, Bool.or_eq_true, decide_eq_true_eq]
          omega
        clear hb
        go_enter Tryd.func15, Tryd.ntmps15
        go_wp2
        go_ret
        exact ⟨by rw [HO.out]; rfl, HA.out⟩
    · have d0 : decide (1 ≤ wk) = false := decide_eq_false c0
      have HO : Hid (Ms.ok ⟨3, wk, tk, tr, bo⟩ = false) := by
        show _ = _
        unfold Ms.ok
        rw [Bool.eq_false_iff]
        simp only [ne_eq, Bool.and_eq_true, Bool.or_eq_true, decide_eq_true_eq]
        omega
      clear hb
      go_enter Tryd.func15, Tryd.ntmps15
      go_wp2
      go_ret
      exact ⟨by rw [HO.out]; rfl, HA.out⟩
  by_cases k1 : kd = 1
  · subst k1
    by_cases ce : bo.size = 0
    · rw [decide_eq_true ce] at hbe
      by_cases c0 : 1 ≤ wk
      · have d0 : decide (1 ≤ wk) = true := decide_eq_true c0
        by_cases c1 : wk ≤ 3
        · have d1 : decide (wk ≤ 3) = true := decide_eq_true c1
          by_cases c2 : 0 ≤ tk
          · have d2 : decide (0 ≤ tk) = true := decide_eq_true c2
            by_cases c3 : tk ≤ 20
            · have d3 : decide (tk ≤ 20) = true := decide_eq_true c3
              by_cases c4 : 0 ≤ tr
              · have d4 : decide (0 ≤ tr) = true := decide_eq_true c4
                by_cases c5 : tr ≤ 1000000000
                · have d5 : decide (tr ≤ 1000000000) = true := decide_eq_true c5
                  by_cases c6 : (bo.size : Int) ≤ 15000
                  · have d6 : decide ((bo.size : Int) ≤ 15000) = true := decide_eq_true c6
                    have HO : Hid (Ms.ok ⟨1, wk, tk, tr, bo⟩ = true) := by
                      show _ = _
                      unfold Ms.ok
                      simp only [Bool.and_eq_true, Bool.or_eq_true, decide_eq_true_eq]
                      refine ⟨by omega, by omega, by omega, by omega, by omega, ?_⟩
                      first | (simp; done) | omega | (right; right; omega)
                    clear hb
                    go_enter Tryd.func15, Tryd.ntmps15
                    go_wp2
                    go_ret
                    exact ⟨by rw [HO.out]; rfl, HA.out⟩
                  · exact absurd ce (by omega)
                · have d5 : decide (tr ≤ 1000000000) = false := decide_eq_false c5
                  have HO : Hid (Ms.ok ⟨1, wk, tk, tr, bo⟩ = false) := by
                    show _ = _
                    unfold Ms.ok
                    rw [Bool.eq_false_iff]
                    simp only [ne_eq, Bool.and_eq_true, Bool.or_eq_true, decide_eq_true_eq]
                    omega
                  clear hb
                  go_enter Tryd.func15, Tryd.ntmps15
                  go_wp2
                  go_ret
                  exact ⟨by rw [HO.out]; rfl, HA.out⟩
              · have d4 : decide (0 ≤ tr) = false := decide_eq_false c4
                have HO : Hid (Ms.ok ⟨1, wk, tk, tr, bo⟩ = false) := by
                  show _ = _
                  unfold Ms.ok
                  rw [Bool.eq_false_iff]
                  simp only [ne_eq, Bool.and_eq_true, Bool.or_eq_true, decide_eq_true_eq]
                  omega
                clear hb
                go_enter Tryd.func15, Tryd.ntmps15
                go_wp2
                go_ret
                exact ⟨by rw [HO.out]; rfl, HA.out⟩
            · have d3 : decide (tk ≤ 20) = false := decide_eq_false c3
              have HO : Hid (Ms.ok ⟨1, wk, tk, tr, bo⟩ = false) := by
                show _ = _
                unfold Ms.ok
                rw [Bool.eq_false_iff]
                simp only [ne_eq, Bool.and_eq_true, Bool.or_eq_true, decide_eq_true_eq]
                omega
              clear hb
              go_enter Tryd.func15, Tryd.ntmps15
              go_wp2
              go_ret
              exact ⟨by rw [HO.out]; rfl, HA.out⟩
          · have d2 : decide (0 ≤ tk) = false := decide_eq_false c2
            have HO : Hid (Ms.ok ⟨1, wk, tk, tr, bo⟩ = false) := by
              show _ = _
              unfold Ms.ok
              rw [Bool.eq_false_iff]
              simp only [ne_eq, Bool.and_eq_true, Bool.or_eq_true, decide_eq_true_eq]
              omega
            clear hb
            go_enter Tryd.func15, Tryd.ntmps15
            go_wp2
            go_ret
            exact ⟨by rw [HO.out]; rfl, HA.out⟩
        · have d1 : decide (wk ≤ 3) = false := decide_eq_false c1
          have HO : Hid (Ms.ok ⟨1, wk, tk, tr, bo⟩ = false) := by
            show _ = _
            unfold Ms.ok
            rw [Bool.eq_false_iff]
            simp only [ne_eq, Bool.and_eq_true, Bool.or_eq_true, decide_eq_true_eq]
            omega
          clear hb
          go_enter Tryd.func15, Tryd.ntmps15
          go_wp2
          go_ret
          exact ⟨by rw [HO.out]; rfl, HA.out⟩
      · have d0 : decide (1 ≤ wk) = false := decide_eq_false c0
        have HO : Hid (Ms.ok ⟨1, wk, tk, tr, bo⟩ = false) := by
          show _ = _
          unfold Ms.ok
          rw [Bool.eq_false_iff]
          simp only [ne_eq, Bool.and_eq_true, Bool.or_eq_true, decide_eq_true_eq]
          omega
        clear hb
        go_enter Tryd.func15, Tryd.ntmps15
        go_wp2
        go_ret
        exact ⟨by rw [HO.out]; rfl, HA.out⟩
    · rw [decide_eq_false ce] at hbe
      have HO : Hid (Ms.ok ⟨1, wk, tk, tr, bo⟩ = false) := by
        show _ = _
        unfold Ms.ok
        rw [Bool.eq_false_iff]
        simp only [ne_eq, Bool.and_eq_true, Bool.or_eq_true, decide_eq_true_eq]
        omega
      clear hb
      go_enter Tryd.func15, Tryd.ntmps15
      go_wp2
      go_ret
      exact ⟨by rw [HO.out]; rfl, HA.out⟩
  by_cases k4 : kd = 4
  · subst k4
    by_cases ce : bo.size = 0
    · rw [decide_eq_true ce] at hbe
      by_cases c0 : 1 ≤ wk
      · have d0 : decide (1 ≤ wk) = true := decide_eq_true c0
        by_cases c1 : wk ≤ 3
        · have d1 : decide (wk ≤ 3) = true := decide_eq_true c1
          by_cases c2 : 0 ≤ tk
          · have d2 : decide (0 ≤ tk) = true := decide_eq_true c2
            by_cases c3 : tk ≤ 20
            · have d3 : decide (tk ≤ 20) = true := decide_eq_true c3
              by_cases c4 : 0 ≤ tr
              · have d4 : decide (0 ≤ tr) = true := decide_eq_true c4
                by_cases c5 : tr ≤ 1000000000
                · have d5 : decide (tr ≤ 1000000000) = true := decide_eq_true c5
                  by_cases c6 : (bo.size : Int) ≤ 15000
                  · have d6 : decide ((bo.size : Int) ≤ 15000) = true := decide_eq_true c6
                    have HO : Hid (Ms.ok ⟨4, wk, tk, tr, bo⟩ = true) := by
                      show _ = _
                      unfold Ms.ok
                      simp only [Bool.and_eq_true, Bool.or_eq_true, decide_eq_true_eq]
                      refine ⟨by omega, by omega, by omega, by omega, by omega, ?_⟩
                      first | (simp; done) | omega | (right; right; omega)
                    clear hb
                    go_enter Tryd.func15, Tryd.ntmps15
                    go_wp2
                    go_ret
                    exact ⟨by rw [HO.out]; rfl, HA.out⟩
                  · exact absurd ce (by omega)
                · have d5 : decide (tr ≤ 1000000000) = false := decide_eq_false c5
                  have HO : Hid (Ms.ok ⟨4, wk, tk, tr, bo⟩ = false) := by
                    show _ = _
                    unfold Ms.ok
                    rw [Bool.eq_false_iff]
                    simp only [ne_eq, Bool.and_eq_true, Bool.or_eq_true, decide_eq_true_eq]
                    omega
                  clear hb
                  go_enter Tryd.func15, Tryd.ntmps15
                  go_wp2
                  go_ret
                  exact ⟨by rw [HO.out]; rfl, HA.out⟩
              · have d4 : decide (0 ≤ tr) = false := decide_eq_false c4
                have HO : Hid (Ms.ok ⟨4, wk, tk, tr, bo⟩ = false) := by
                  show _ = _
                  unfold Ms.ok
                  rw [Bool.eq_false_iff]
                  simp only [ne_eq, Bool.and_eq_true, Bool.or_eq_true, decide_eq_true_eq]
                  omega
                clear hb
                go_enter Tryd.func15, Tryd.ntmps15
                go_wp2
                go_ret
                exact ⟨by rw [HO.out]; rfl, HA.out⟩
            · have d3 : decide (tk ≤ 20) = false := decide_eq_false c3
              have HO : Hid (Ms.ok ⟨4, wk, tk, tr, bo⟩ = false) := by
                show _ = _
                unfold Ms.ok
                rw [Bool.eq_false_iff]
                simp only [ne_eq, Bool.and_eq_true, Bool.or_eq_true, decide_eq_true_eq]
                omega
              clear hb
              go_enter Tryd.func15, Tryd.ntmps15
              go_wp2
              go_ret
              exact ⟨by rw [HO.out]; rfl, HA.out⟩
          · have d2 : decide (0 ≤ tk) = false := decide_eq_false c2
            have HO : Hid (Ms.ok ⟨4, wk, tk, tr, bo⟩ = false) := by
              show _ = _
              unfold Ms.ok
              rw [Bool.eq_false_iff]
              simp only [ne_eq, Bool.and_eq_true, Bool.or_eq_true, decide_eq_true_eq]
              omega
            clear hb
            go_enter Tryd.func15, Tryd.ntmps15
            go_wp2
            go_ret
            exact ⟨by rw [HO.out]; rfl, HA.out⟩
        · have d1 : decide (wk ≤ 3) = false := decide_eq_false c1
          have HO : Hid (Ms.ok ⟨4, wk, tk, tr, bo⟩ = false) := by
            show _ = _
            unfold Ms.ok
            rw [Bool.eq_false_iff]
            simp only [ne_eq, Bool.and_eq_true, Bool.or_eq_true, decide_eq_true_eq]
            omega
          clear hb
          go_enter Tryd.func15, Tryd.ntmps15
          go_wp2
          go_ret
          exact ⟨by rw [HO.out]; rfl, HA.out⟩
      · have d0 : decide (1 ≤ wk) = false := decide_eq_false c0
        have HO : Hid (Ms.ok ⟨4, wk, tk, tr, bo⟩ = false) := by
          show _ = _
          unfold Ms.ok
          rw [Bool.eq_false_iff]
          simp only [ne_eq, Bool.and_eq_true, Bool.or_eq_true, decide_eq_true_eq]
          omega
        clear hb
        go_enter Tryd.func15, Tryd.ntmps15
        go_wp2
        go_ret
        exact ⟨by rw [HO.out]; rfl, HA.out⟩
    · rw [decide_eq_false ce] at hbe
      have HO : Hid (Ms.ok ⟨4, wk, tk, tr, bo⟩ = false) := by
        show _ = _
        unfold Ms.ok
        rw [Bool.eq_false_iff]
        simp only [ne_eq, Bool.and_eq_true, Bool.or_eq_true, decide_eq_true_eq]
        omega
      clear hb
      go_enter Tryd.func15, Tryd.ntmps15
      go_wp2
      go_ret
      exact ⟨by rw [HO.out]; rfl, HA.out⟩
  have e1 : (kd == 1) = false := by simp; exact k1
  have e2 : (kd == 2) = false := by simp; exact k2
  have e3 : (kd == 3) = false := by simp; exact k3
  have e4 : (kd == 4) = false := by simp; exact k4
  clear hbe
  have HO : Hid (Ms.ok ⟨kd, wk, tk, tr, bo⟩ = false) := by
    show _ = _
    unfold Ms.ok
    rw [Bool.eq_false_iff]
    simp only [ne_eq, Bool.and_eq_true, Bool.or_eq_true, decide_eq_true_eq]
    omega
  clear hb
  go_enter Tryd.func15, Tryd.ntmps15
  go_wp2
  go_ret
  exact ⟨by rw [HO.out]; rfl, HA.out⟩

end Go.Proofs.YtdkenmpdgadcpaaDoor
