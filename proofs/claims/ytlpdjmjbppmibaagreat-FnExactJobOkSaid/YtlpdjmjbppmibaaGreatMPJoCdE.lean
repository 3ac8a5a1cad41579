/- The program's CodeOk: is an instruction right? -/
import Derived.Test.YtlpdjmjbppmibaaGreatMPJoCdD
namespace Go.Proofs.YtlpdjmjbppmibaaGreat
open Go.RowKit

namespace Cd
theorem ins_named {ts : List ByteArray} {x : Ins} {a to : Int} (h : named x.op = true) (h1 : ts.length ≤ 255) :
    ins ts x a to = (decide (0 ≤ x.arg) && (decide (x.arg < (ts.length : Int)) && fits x.op (text ts x.arg).data.toList)) := by
  have h := of_decide_eq_true h
  unfold ins
  rw [decide_eq_true (by omega), Bool.true_and]
  by_cases hr : 0 ≤ x.arg ∧ x.arg < (ts.length : Int)
  · rw [decide_eq_true (by omega), decide_eq_true hr.1, Bool.true_and, Bool.true_and]
    unfold arg fits
    by_cases e1 : x.op = 1
    · rw [if_pos e1, if_pos e1, Bool.and_true]
    · rw [if_neg e1, if_neg e1]
      by_cases e2 : x.op = 15
      · rw [if_pos e2, if_pos e2]
      · rw [if_neg e2, if_neg e2, if_pos (by omega)]
  · have hR : (decide (0 ≤ x.arg) && (decide (x.arg < (ts.length : Int)) && fits x.op (text ts x.arg).data.toList)) = false := by
      by_cases h0 : 0 ≤ x.arg
      · rw [decide_eq_false (show ¬ x.arg < (ts.length : Int) by omega), Bool.false_and, Bool.and_false]
      · rw [decide_eq_false h0, Bool.false_and]
    rw [hR]
    by_cases h0 : 0 ≤ x.arg
    · have hlt : decide (x.arg < (ts.length : Int)) = false := decide_eq_false (by omega)
      unfold arg
      rw [hlt, Bool.false_and, Bool.false_and]
      split
      · exact Bool.and_false _
      · split
        · exact Bool.and_false _
        · rw [if_pos (by omega)]; exact Bool.and_false _
    · rw [decide_eq_false (by omega), Bool.false_and]
theorem ins_print {ts : List ByteArray} {x : Ins} {a to : Int} (h : x.op = 16) : ins ts x a to = (decide (1 ≤ x.arg) && decide (x.arg ≤ 4)) := by
  unfold ins arg
  rw [decide_eq_true (by omega), Bool.true_and, if_neg (by omega), if_neg (by omega), if_neg (by omega), if_pos h]
  by_cases h1 : 1 ≤ x.arg <;> by_cases h2 : x.arg ≤ 4
  · rw [decide_eq_true (by omega), decide_eq_true (by omega), decide_eq_true (by omega), decide_eq_true (by omega)]
  · rw [decide_eq_false (show ¬ (1 ≤ x.arg ∧ x.arg ≤ 4) by omega), decide_eq_false h2, Bool.and_false, Bool.and_false]
  · rw [decide_eq_false (show ¬ (1 ≤ x.arg ∧ x.arg ≤ 4) by omega), decide_eq_false h1, Bool.and_false, Bool.false_and]
  · rw [decide_eq_false (show ¬ (1 ≤ x.arg ∧ x.arg ≤ 4) by omega), decide_eq_false h1, Bool.and_false, Bool.false_and]
theorem ins_jump {ts : List ByteArray} {x : Ins} {a to : Int} (h : x.op = 21 ∨ x.op = 22) (h2 : 0 ≤ a) (h3 : to ≤ 255) : ins ts x a to = (decide (a < x.arg) && decide (x.arg ≤ to)) := by
  unfold ins arg
  rw [decide_eq_true (by omega), Bool.true_and, if_neg (by omega), if_neg (by omega), if_neg (by omega), if_neg (by omega), if_pos h]
  by_cases h4 : a < x.arg <;> by_cases h5 : x.arg ≤ to
  · rw [decide_eq_true (by omega), decide_eq_true (by omega), decide_eq_true (by omega)]; rfl
  · rw [decide_eq_false h5, Bool.and_false, Bool.and_false]
  · rw [decide_eq_false h4, Bool.false_and, Bool.and_false]
  · rw [decide_eq_false h4, Bool.false_and, Bool.and_false]
theorem ins_else {ts : List ByteArray} {x : Ins} {a to : Int} (h : named x.op = false) (h1 : x.op ≠ 16) (h2 : x.op ≠ 21) (h3 : x.op ≠ 22) :
    ins ts x a to = (decide (1 ≤ x.op) && (decide (x.op ≤ 24) && decide (x.arg = 0))) := by
  have h := of_decide_eq_false h
  unfold ins arg
  rw [if_neg (by omega), if_neg (by omega), if_neg (by omega), if_neg (by omega), if_neg (by omega)]
  by_cases h4 : 1 ≤ x.op <;> by_cases h5 : x.op ≤ 24
  · rw [decide_eq_true (by omega), decide_eq_true h4, decide_eq_true h5]
    by_cases h6 : x.arg = 0
    · rw [decide_eq_true (by omega), decide_eq_true h6]; rfl
    · rw [decide_eq_false h6]; simp
  · rw [decide_eq_false (show ¬ (1 ≤ x.op ∧ x.op ≤ 24) by omega), decide_eq_false h5]; simp
  · rw [decide_eq_false (show ¬ (1 ≤ x.op ∧ x.op ≤ 24) by omega), decide_eq_false h4]; simp
  · rw [decide_eq_false (show ¬ (1 ≤ x.op ∧ x.op ≤ 24) by omega), decide_eq_false h4]; simp
end Cd

set_option maxHeartbeats 8000000 in
set_option maxRecDepth 100000 in
theorem instrOk_any (tv lv : Value) (bg ln en : Int) (ts : List ByteArray) (xs : List Ins) (a to : Nat) (w : World) (h : TsAt w tv ts) (hl : InsAt w lv xs) (hs : TsSmall ts ts.length) (hk : ts.length ≤ 60) (ha : a < xs.length) (hto : to ≤ 250) :
    Calls Tryz.prog 88 #[.agg #[tv, lv, .int .i64 bg, .int .i64 ln, .int .i64 en], .int .i64 (a : Int), .int .i64 (to : Int)] w fun e w' => e = .returned (.bool (Cd.ins ts (xs.getD a Ins.no) (a : Int) (to : Int))) ∧ Below w.heap.size w w' := by
  have HT : Hid (∀ z, z < ts.length → ∃ b o, (∃ c, tv = .slice (some ⟨b, o, none⟩) ts.length c) ∧ b < w.heap.size ∧ w.cell? ⟨b, o + z, none⟩ = some (.string (ts.getD z ByteArray.empty)) ∧ (ts.getD z ByteArray.empty).size ≤ 1048576) := by
    intro z hz
    have h2 := h
    obtain ⟨ad, c, rfl, -⟩ := h
    obtain ⟨b, o, rfl, hc⟩ := h2.cell rfl hz
    exact ⟨b, o, ⟨c, rfl⟩, World.block_lt_of_cell? w _ hc, hc, hs z hz⟩
  have hl2 := hl
  obtain ⟨ta, tc, rfl, -⟩ := h
  obtain ⟨la, lc, rfl, -⟩ := hl
  obtain ⟨lb, lo, rfl, hlb, x0, x1⟩ := hl2.cell rfl ha
  clear hl2 hs
  obtain ⟨n, hn⟩ : ∃ n, n = ts.length := ⟨_, rfl⟩
  obtain ⟨m, hm⟩ : ∃ m, m = xs.length := ⟨_, rfl⟩
  have HN : Hid (n = ts.length) := hn
  rw [← hn] at HT hk ⊢
  rw [← hm] at ha ⊢
  clear hn hm
  generalize xs.getD a Ins.no = x at *
  obtain ⟨V, hV⟩ : ∃ V, V = Cd.ins ts x (a : Int) (to : Int) := ⟨_, rfl⟩
  rw [← hV]
  have HV : Hid (V = Cd.ins ts x (a : Int) (to : Int)) := hV
  clear hV
  obtain ⟨op, arg⟩ := x
  simp only at x0 x1
  have HA : Hid (Below w.heap.size w (w.alloc (.cells #[.slice ta n tc, .slice (some ⟨lb, lo, none⟩) m lc, .int .i64 bg, .int .i64 ln, .int .i64 en] 36))) := (Below.refl _ _).alloc (Nat.le_refl _) _
  have y0 : (w.alloc (.cells #[.slice ta n tc, .slice (some ⟨lb, lo, none⟩) m lc, .int .i64 bg, .int .i64 ln, .int .i64 en] 36)).cell? ⟨lb, lo + a * 2, none⟩ = some (.int .i64 op) := (HA.out.cell hlb).trans x0
  have y1 : (w.alloc (.cells #[.slice ta n tc, .slice (some ⟨lb, lo, none⟩) m lc, .int .i64 bg, .int .i64 ln, .int .i64 en] 36)).cell? ⟨lb, lo + a * 2 + 1, none⟩ = some (.int .i64 arg) := (HA.out.cell hlb).trans x1
  have ha1 : (a : Int) < (m : Int) := by omega
  obtain ⟨N, hN⟩ : ∃ N, N = Cd.named op := ⟨_, rfl⟩
  have CN : Hid (∀ w, Calls Tryz.prog 99 #[.int .i64 op] w fun e w' => e = .returned (.bool N) ∧ w' = w) := fun w => by rw [hN]; exact namesText_any op w
  clear x0 x1
  cases N
  · by_cases h16 : op = 16
    · subst h16
      obtain ⟨A, hA⟩ : ∃ A, A = decide ((1 : Int) ≤ arg) := ⟨_, rfl⟩
      obtain ⟨B, hB⟩ : ∃ B, B = decide (arg ≤ (4 : Int)) := ⟨_, rfl⟩
      have HV2 : Hid (V = (A && B)) := by show _ = _; rw [HV.out, Cd.ins_print rfl, hA, hB]
      have hA2 := hA.symm
      have hB2 := hB.symm
      clear hA hB HV HT hN
      cases A <;> cases B
      all_goals
        go_enter Tryz.func88, Tryz.ntmps88
        go_wp2_with fail
        go_quiet (fail)
        go_wp2_with (go_at_call 99; refine (CN.out _).mono ?_; rintro e w2 ⟨rfl, rfl⟩)
        go_ret
        exact ⟨by rw [HV2.out]; rfl, below_drewN HA.out _⟩
    · by_cases hj : op = 21 ∨ op = 22
      · obtain ⟨A, hA⟩ : ∃ A, A = decide ((a : Int) < arg) := ⟨_, rfl⟩
        obtain ⟨B, hB⟩ : ∃ B, B = decide (arg ≤ (to : Int)) := ⟨_, rfl⟩
        have HV2 : Hid (V = (A && B)) := by show _ = _; rw [HV.out, Cd.ins_jump hj (by omega) (by omega), hA, hB]
        have hA2 := hA.symm
        have hB2 := hB.symm
        clear hA hB HV HT hN h16
        rcases hj with rfl | rfl
        all_goals
          cases A <;> cases B
          all_goals
            go_enter Tryz.func88, Tryz.ntmps88
            go_wp2_with fail
            go_quiet (fail)
            go_wp2_with (go_at_call 99; refine (CN.out _).mono ?_; rintro e w2 ⟨rfl, rfl⟩)
            go_ret
            exact ⟨by rw [HV2.out]; rfl, below_drewN HA.out _⟩
      · obtain ⟨A, hA⟩ : ∃ A, A = decide ((1 : Int) ≤ op) := ⟨_, rfl⟩
        obtain ⟨B, hB⟩ : ∃ B, B = decide (op ≤ (24 : Int)) := ⟨_, rfl⟩
        obtain ⟨C, hC⟩ : ∃ C, C = (arg == 0) := ⟨_, rfl⟩
        have HV2 : Hid (V = (A && (B && C))) := by
          show _ = _
          rw [HV.out, Cd.ins_else hN.symm h16 (by simp only; omega) (by simp only; omega), hA, hB, hC]
          simp only
          rw [show decide (arg = 0) = (arg == 0) by rw [Bool.eq_iff_iff]; simp]
        have hA2 := hA.symm
        have hB2 := hB.symm
        have hC2 := hC.symm
        have e16 : (op == 16) = false := beq_eq_false_iff_ne.2 h16
        have e21 : (op == 21) = false := beq_eq_false_iff_ne.2 (by omega)
        have e22 : (op == 22) = false := beq_eq_false_iff_ne.2 (by omega)
        clear hA hB hC HV HT hN h16 hj
        cases A <;> cases B <;> cases C
        all_goals
          go_enter Tryz.func88, Tryz.ntmps88
          go_wp2_with fail
          go_quiet (fail)
          go_wp2_with (go_at_call 99; refine (CN.out _).mono ?_; rintro e w2 ⟨rfl, rfl⟩)
          go_ret
          exact ⟨by rw [HV2.out]; rfl, below_drewN HA.out _⟩
  · have HV2 : Hid (V = (decide (0 ≤ arg) && (decide (arg < (n : Int)) && Cd.fits op (Cd.text ts arg).data.toList))) := by
      show _ = _
      rw [HV.out, Cd.ins_named hN.symm (by rw [← HN.out]; omega), HN.out]
    clear HV hN
    by_cases h0 : 0 ≤ arg
    · obtain ⟨z, rfl⟩ : ∃ z : Nat, arg = (z : Int) := ⟨arg.toNat, by omega⟩
      by_cases hz : z < n
      · obtain ⟨b, o, ⟨c, e⟩, hb, hc, hsz⟩ := HT.out z hz
        simp only [Value.slice.injEq] at e
        obtain ⟨rfl, -, rfl⟩ := e
        have HV3 : Hid (V = Cd.fits op (ts.getD z ByteArray.empty).data.toList) := by
          show _ = _
          rw [HV2.out, decide_eq_true h0, decide_eq_true (by omega), Bool.true_and, Bool.true_and, Cd.text, Int.toNat_natCast]
        generalize ts.getD z ByteArray.empty = t at *
        have CF : Hid (∀ w, Calls Tryz.prog 100 #[.int .i64 op, .string t] w fun e w' => e = .returned (.bool V) ∧ Below w.heap.size w w') := fun w => by rw [HV3.out]; exact textFits_any op t w hsz
        have d1 : decide ((z : Int) < (n : Int)) = true := decide_eq_true (by omega)
        have d0 : decide ((0 : Int) ≤ (z : Int)) = true := decide_eq_true h0
        have hz1 : (z : Int) < (n : Int) := by omega
        have y2 := (HA.out.cell hb).trans hc
        clear HV2 HV3 HT hc
        go_enter Tryz.func88, Tryz.ntmps88
        go_wp2_with fail
        go_quiet (fail)
        go_wp2_with (first | (go_at_call 99; refine (CN.out _).mono ?_; rintro e w2 ⟨rfl, rfl⟩) | (go_at_call 100; refine (CF.out _).mono ?_; rintro e w3 ⟨rfl, b3⟩))
        go_ret
        exact ⟨rfl, (below_drewN HA.out _).trans (b3.mono (below_drewN HA.out _).size)⟩
      · have HV3 : Hid (V = false) := by show _ = _; rw [HV2.out, decide_eq_false (show ¬ (z : Int) < (n : Int) by omega), Bool.false_and, Bool.and_false]
        have d1 : decide ((z : Int) < (n : Int)) = false := decide_eq_false (by omega)
        have d0 : decide ((0 : Int) ≤ (z : Int)) = true := decide_eq_true h0
        clear HV2 HT
        go_enter Tryz.func88, Tryz.ntmps88
        go_wp2_with fail
        go_quiet (fail)
        go_wp2_with (go_at_call 99; refine (CN.out _).mono ?_; rintro e w2 ⟨rfl, rfl⟩)
        go_ret
        exact ⟨by rw [HV3.out]; rfl, below_drewN HA.out _⟩
    · have HV3 : Hid (V = false) := by show _ = _; rw [HV2.out, decide_eq_false h0, Bool.false_and]
      have d0 : decide ((0 : Int) ≤ arg) = false := decide_eq_false h0
      clear HV2 HT
      go_enter Tryz.func88, Tryz.ntmps88
      go_wp2_with fail
      go_quiet (fail)
      go_wp2_with (go_at_call 99; refine (CN.out _).mono ?_; rintro e w2 ⟨rfl, rfl⟩)
      go_ret
      exact ⟨by rw [HV3.out]; rfl, below_drewN HA.out _⟩
end Go.Proofs.YtlpdjmjbppmibaaGreat
