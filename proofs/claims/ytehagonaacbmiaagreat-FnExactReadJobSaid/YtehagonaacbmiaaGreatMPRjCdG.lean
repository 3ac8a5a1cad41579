/- The program's CodeOk. -/
import Derived.Test.YtehagonaacbmiaaGreatMPRjZaw
import Derived.Test.YtehagonaacbmiaaGreatMPRjZaj
import Derived.Deep.RegionWith
namespace Go.Proofs.YtehagonaacbmiaaGreat
open Go.RowKit

set_option maxHeartbeats 2000000 in
set_option maxRecDepth 100000 in
theorem isSorted4_any (b : Nat) (X : Nat → Int) (w : World) (h : ∀ j, j < 4 → w.cell? ⟨b, j, none⟩ = some (.int .i64 (X j))) :
    Calls Tryz.prog 56 #[.slice (some ⟨b, 0, none⟩) 4 4] w fun e w' => e = .returned (.bool (decide (X 0 ≤ X 1 ∧ X 1 ≤ X 2 ∧ X 2 ≤ X 3))) ∧ Below w.heap.size w w' := by
  obtain ⟨V, hV⟩ : ∃ V, V = decide (X 0 ≤ X 1 ∧ X 1 ≤ X 2 ∧ X 2 ≤ X 3) := ⟨_, rfl⟩
  rw [← hV]
  have HV : Hid (V = decide (X 0 ≤ X 1 ∧ X 1 ≤ X 2 ∧ X 2 ≤ X 3)) := hV
  have HC : Hid (∀ j, j < 4 → w.cell? ⟨b, j, none⟩ = some (.int .i64 (X j))) := h
  have hb := World.block_lt_of_cell? w _ (h 0 (by omega))
  clear hV h
  go_enter Tryz.func56, Tryz.ntmps56
  go_wp2
  go_loopw [3] (fun i wr => ∃ j : Nat, i = .int .i64 (j : Int) ∧ j ≤ 3 ∧ Hid (Below w.heap.size w wr) ∧ Hid (∀ k, j ≤ k → k < 3 → X k ≤ X (k + 1))) (fun i _ => (intOf i).toNat)
  case atStart => exact ⟨3, rfl, by omega, Below.refl _ _, fun k h1 h2 => by omega⟩
  case round =>
    obtain ⟨j, rfl, hj, HB, HJ⟩ := hrel
    by_cases h0 : j = 0
    · subst h0
      have HF : Hid (V = true) := HV.out.trans (decide_eq_true ⟨HJ.out 0 (by omega) (by omega), HJ.out 1 (by omega) (by omega), HJ.out 2 (by omega) (by omega)⟩)
      clear HV HJ
      go_wp2
      go_ret
      exact ⟨by rw [HF.out]; rfl, HB.out⟩
    · obtain ⟨i, rfl⟩ : ∃ i, j = i + 1 := ⟨j - 1, by omega⟩
      have c1 := (HB.out.cell (p := ⟨b, i + 1, none⟩) hb).trans (HC.out (i + 1) (by omega))
      have c0 := (HB.out.cell (p := ⟨b, i, none⟩) hb).trans (HC.out i (by omega))
      have d0 : decide ((0 : Int) < ((i + 1 : Nat) : Int)) = true := decide_eq_true (by omega)
      have s1 : ((i + 1 : Nat) : Int) - 1 = (i : Int) := by omega
      have hi4 : (i : Int) < 4 := by omega
      have hi5 : (i : Int) + 1 < 4 := by omega
      have HVF : Hid (X (i + 1) < X i → V = false) := fun h => HV.out.trans (decide_eq_false (by
        rintro ⟨g1, g2, g3⟩
        have : i = 0 ∨ i = 1 ∨ i = 2 := by omega
        rcases this with rfl | rfl | rfl
        · have h' : X 1 < X 0 := h
          omega
        · have h' : X 2 < X 1 := h
          omega
        · have h' : X 3 < X 2 := h
          omega))
      have HJ2 : Hid (¬ X (i + 1) < X i → ∀ k, i ≤ k → k < 3 → X k ≤ X (k + 1)) := fun h k h1 h2 => by
        by_cases e : k = i
        · subst e; omega
        · exact HJ.out k (by omega) h2
      obtain ⟨L, hL⟩ : ∃ L, L = decide (X (i + 1) < X i) := ⟨_, rfl⟩
      have CL : Hid (∀ W, Calls Tryz.prog 87 #[.int .i64 (X (i + 1)), .int .i64 (X i)] W fun e w' => e = .returned (.bool L) ∧ Below W.heap.size W w') := fun W => by rw [hL]; exact (Tryz.cmp_Less_int2 _ _ W).mono fun e w' h => ⟨h.1, by rw [h.2]; exact Below.refl _ _⟩
      have HLT : Hid ((L = true → X (i + 1) < X i) ∧ (L = false → ¬ X (i + 1) < X i)) := ⟨fun h => of_decide_eq_true (hL.symm.trans h), fun h => of_decide_eq_false (hL.symm.trans h)⟩
      clear hL HJ HV
      generalize X (i + 1) = x1 at *
      generalize X i = x0 at *
      rcases (show i = 0 ∨ i = 1 ∨ i = 2 by omega) with rfl | rfl | rfl
      · have c1' : wr.cell? ⟨b, 1, none⟩ = some (.int .i64 x1) := c1
        have c0' : wr.cell? ⟨b, 0, none⟩ = some (.int .i64 x0) := c0
        clear c0 c1 d0 s1 hi4 hi5
        cases L
        · have HJ3 : Hid _ := HJ2.out (HLT.out.2 rfl)
          clear HVF HJ2 HLT
          go_wp2_with fail
          go_region_with ((go_at_call 87; refine (CL.out _).mono ?_; rintro e w3 ⟨rfl, hb3⟩))
          all_goals
            go_wp2
            go_roundw
            case rel => exact ⟨0, by go_num, by omega, HB.out.trans (((Below.refl _ _).drew.trans hb3).mono HB.out.size), HJ3.out⟩
            case measure => simp [intOf]
        · have HF : Hid (V = false) := HVF.out (HLT.out.1 rfl)
          clear HVF HJ2 HLT
          go_wp2_with fail
          go_region_with ((go_at_call 87; refine (CL.out _).mono ?_; rintro e w3 ⟨rfl, hb3⟩))
          all_goals
            go_wp2
            go_ret
            exact ⟨by rw [HF.out]; rfl, HB.out.trans (((Below.refl _ _).drew.trans hb3).mono HB.out.size)⟩
      · have c1' : wr.cell? ⟨b, 2, none⟩ = some (.int .i64 x1) := c1
        have c0' : wr.cell? ⟨b, 1, none⟩ = some (.int .i64 x0) := c0
        clear c0 c1 d0 s1 hi4 hi5
        cases L
        · have HJ3 : Hid _ := HJ2.out (HLT.out.2 rfl)
          clear HVF HJ2 HLT
          go_wp2_with fail
          go_region_with ((go_at_call 87; refine (CL.out _).mono ?_; rintro e w3 ⟨rfl, hb3⟩))
          all_goals
            go_wp2
            go_roundw
            case rel => exact ⟨1, by go_num, by omega, HB.out.trans (((Below.refl _ _).drew.trans hb3).mono HB.out.size), HJ3.out⟩
            case measure => simp [intOf]
        · have HF : Hid (V = false) := HVF.out (HLT.out.1 rfl)
          clear HVF HJ2 HLT
          go_wp2_with fail
          go_region_with ((go_at_call 87; refine (CL.out _).mono ?_; rintro e w3 ⟨rfl, hb3⟩))
          all_goals
            go_wp2
            go_ret
            exact ⟨by rw [HF.out]; rfl, HB.out.trans (((Below.refl _ _).drew.trans hb3).mono HB.out.size)⟩
      · have c1' : wr.cell? ⟨b, 3, none⟩ = some (.int .i64 x1) := c1
        have c0' : wr.cell? ⟨b, 2, none⟩ = some (.int .i64 x0) := c0
        clear c0 c1 d0 s1 hi4 hi5
        cases L
        · have HJ3 : Hid _ := HJ2.out (HLT.out.2 rfl)
          clear HVF HJ2 HLT
          go_wp2_with fail
          go_region_with ((go_at_call 87; refine (CL.out _).mono ?_; rintro e w3 ⟨rfl, hb3⟩))
          all_goals
            go_wp2
            go_roundw
            case rel => exact ⟨2, by go_num, by omega, HB.out.trans (((Below.refl _ _).drew.trans hb3).mono HB.out.size), HJ3.out⟩
            case measure => simp [intOf]
        · have HF : Hid (V = false) := HVF.out (HLT.out.1 rfl)
          clear HVF HJ2 HLT
          go_wp2_with fail
          go_region_with ((go_at_call 87; refine (CL.out _).mono ?_; rintro e w3 ⟨rfl, hb3⟩))
          all_goals
            go_wp2
            go_ret
            exact ⟨by rw [HF.out]; rfl, HB.out.trans (((Below.refl _ _).drew.trans hb3).mono HB.out.size)⟩

set_option maxHeartbeats 2000000 in
set_option maxRecDepth 100000 in
theorem partEnds_any (ta : Option Addr) (n tc : Nat) (la : Option Addr) (m lc : Nat) (bg ln en : Int) (w : World) :
    Calls Tryz.prog 55 #[.agg #[.slice ta n tc, .slice la m lc, .int .i64 bg, .int .i64 ln, .int .i64 en]] w fun e w' => e = .returned (.agg #[.int .i64 bg, .int .i64 ln, .int .i64 en, .int .i64 (m : Int)]) ∧ Below w.heap.size w w' := by
  go_enter Tryz.func55, Tryz.ntmps55
  go_wp2_with fail
  refine bodyPost_ret (results_cell_row (p := 2) (ty := 94) rfl _ _ (w.heap.size + 1) 94 _ (0, 0) _ rfl (alloc2_1 _ _ _) Tryz.underlying94 rfl (by kernel_rfl)) rfl ?_
  exact ⟨rfl, ((Below.refl _ _).alloc (Nat.le_refl _) _).alloc (by simp) _⟩
end Go.Proofs.YtehagonaacbmiaaGreat
