/- The specification of CodeOk: names; what an instruction takes and puts; its arg. -/
import Derived.Test.YtehagonaacbmiaaGreatMPRjZag
import Derived.Test.YtehagonaacbmiaaGreatMPRjZai
import Derived.Test.YtehagonaacbmiaaGreatMPRjPgD
namespace Go.Proofs.YtehagonaacbmiaaGreat
open Go.RowKit

namespace Cd
theorem nm_no {s : ByteArray} {j : Nat} (h : j < s.size) (hl : Tk.letter s[j] = false) : nm s.data.toList = false := by
  unfold nm
  have : s.data.toList.all Tk.letter = false := by
    rw [List.all_eq_false]
    refine ⟨s[j], ?_, by rw [hl]; simp⟩
    have := lst_at s j h
    rw [← this]
    exact List.getElem_mem _
  rw [this]
  rfl
theorem nm_yes {s : ByteArray} (h : ∀ j, ∀ h : j < s.size, Tk.letter s[j] = true) : nm s.data.toList = decide ((1 : Int) ≤ (s.size : Int) ∧ (s.size : Int) ≤ 8) := by
  unfold nm
  have h2 : s.data.toList.all Tk.letter = true := by
    rw [List.all_eq_true]
    intro b hb
    obtain ⟨i, hi, e⟩ := List.mem_iff_getElem.1 hb
    have hi2 : i < s.size := by simpa using hi
    have := lst_at s i hi2
    rw [← e, this]
    exact h i hi2
  have hsl : s.data.toList.length = s.size := by simp
  rw [h2, hsl, Bool.true_and, decide_eq_decide]
  omega
end Cd

set_option maxHeartbeats 2000000 in
set_option maxRecDepth 100000 in
theorem spNm (s : ByteArray) (w : World) (hs : s.size ≤ 1048576) :
    Calls Tryz.prog 17 #[.string s] w fun e w' => e = .returned (.bool (Cd.nm s.data.toList)) ∧ w' = w := by
  obtain ⟨V, hV⟩ : ∃ V, V = Cd.nm s.data.toList := ⟨_, rfl⟩
  rw [← hV]
  have HV : Hid (V = Cd.nm s.data.toList) := hV
  clear hV
  go_enter Tryz.func17, Tryz.ntmps17
  go_wp2
  go_loop [3] (fun i => ∃ j : Nat, i = .int .i64 (j : Int) ∧ j ≤ s.size ∧ Hid (∀ k, k < j → ∀ h : k < s.size, Tk.letter s[k] = true)) (fun i => s.size - (intOf i).toNat)
  case atStart => exact ⟨0, rfl, by omega, fun k hk => by omega⟩
  case round =>
    obtain ⟨j, rfl, hj, HJ⟩ := hrel
    by_cases hlt : j < s.size
    · have hi : (j : Int) < (s.size : Int) := by omega
      have d0 : decide ((j : Int) < (s.size : Int)) = true := decide_eq_true hi
      by_cases hl : Tk.letter s[j] = true
      · have CJ : Hid (∀ w, Calls Tryz.prog 48 #[.int .u8 (s[j].toNat : Int)] w fun e w' => e = .returned (.bool true) ∧ w' = w) := by
          intro w
          have := spLetter s[j] w
          rwa [hl] at this
        have HN : Hid (∀ k, k < j + 1 → ∀ h : k < s.size, Tk.letter s[k] = true) := by
          intro k hk h
          by_cases e : k = j
          · subst e; exact hl
          · exact HJ.out k (by omega) h
        clear HJ hl HV
        go_wp2_with (go_at_call 48; refine (CJ.out _).mono ?_; rintro e w2 ⟨rfl, rfl⟩)
        go_round
        case rel => exact ⟨j + 1, by go_num, by omega, HN.out⟩
        case measure => simp [intOf]; omega
      · have hl2 : Tk.letter s[j] = false := by simpa using hl
        have CJ : Hid (∀ w, Calls Tryz.prog 48 #[.int .u8 (s[j].toNat : Int)] w fun e w' => e = .returned (.bool false) ∧ w' = w) := by
          intro w
          have := spLetter s[j] w
          rwa [hl2] at this
        have HF : Hid (V = false) := by show _ = _; rw [HV.out]; exact Cd.nm_no hlt hl2
        clear HJ hl hl2 HV
        go_wp2_with (go_at_call 48; refine (CJ.out _).mono ?_; rintro e w2 ⟨rfl, rfl⟩)
        go_ret
        exact ⟨by rw [HF.out]; rfl, rfl⟩
    · obtain rfl : j = s.size := by omega
      have CI : Hid (∀ w, Calls Tryz.prog 49 #[.int .i64 (s.size : Int), .int .i64 1, .int .i64 8] w fun e w' => e = .returned (.bool V) ∧ w' = w) := by
        intro w
        have := sIn_any (s.size : Int) 1 8 w
        rw [HV.out, Cd.nm_yes (fun j h => HJ.out j h h)]
        exact this
      clear HJ HV
      go_wp2_with (go_at_call 49; refine (CI.out _).mono ?_; rintro e w2 ⟨rfl, rfl⟩)
      go_ret
      exact ⟨rfl, rfl⟩

set_option maxHeartbeats 4000000 in
set_option maxRecDepth 100000 in
theorem spNeeds (op arg : Int) (w : World) : Calls Tryz.prog 83 #[.agg #[.int .i64 op, .int .i64 arg]] w fun e w' => e = .returned (.tuple #[.int .i64 (Cd.needs ⟨op, arg⟩).1, .int .i64 (Cd.needs ⟨op, arg⟩).2]) ∧ Below w.heap.size w w' := by
  have HA : Hid (Below w.heap.size w (w.alloc (.cells #[.int .i64 op, .int .i64 arg] 105))) := (Below.refl _ _).alloc (Nat.le_refl _) _
  by_cases hr : 1 ≤ op ∧ op ≤ 24
  · rcases (show op = 1 ∨ op = 2 ∨ op = 3 ∨ op = 4 ∨ op = 5 ∨ op = 6 ∨ op = 7 ∨ op = 8 ∨ op = 9 ∨ op = 10 ∨ op = 11 ∨ op = 12 ∨ op = 13 ∨ op = 14 ∨ op = 15 ∨ op = 16 ∨ op = 17 ∨ op = 18 ∨ op = 19 ∨ op = 20 ∨ op = 21 ∨ op = 22 ∨ op = 23 ∨ op = 24 by omega) with rfl | rfl | rfl | rfl | rfl | rfl | rfl | rfl | rfl | rfl | rfl | rfl | rfl | rfl | rfl | rfl | rfl | rfl | rfl | rfl | rfl | rfl | rfl | rfl
    all_goals
      go_enter Tryz.func83, Tryz.ntmps83
      go_wp2
      go_ret2
      exact ⟨rfl, HA.out⟩
  · have HM : Hid (Cd.needs ⟨op, arg⟩ = (0, 0)) := by
      show _ = _
      unfold Cd.needs
      simp only
      rw [if_neg (by omega), if_neg (by omega), if_neg (by omega), if_neg (by omega), if_neg (by omega), if_neg (by omega)]
    have e1 : (op == 1) = false := beq_eq_false_iff_ne.2 (by omega)
    have e2 : (op == 2) = false := beq_eq_false_iff_ne.2 (by omega)
    have e3 : (op == 3) = false := beq_eq_false_iff_ne.2 (by omega)
    have e4 : (op == 4) = false := beq_eq_false_iff_ne.2 (by omega)
    have e5 : (op == 5) = false := beq_eq_false_iff_ne.2 (by omega)
    have e6 : (op == 6) = false := beq_eq_false_iff_ne.2 (by omega)
    have e7 : (op == 7) = false := beq_eq_false_iff_ne.2 (by omega)
    have e8 : (op == 8) = false := beq_eq_false_iff_ne.2 (by omega)
    have e9 : (op == 9) = false := beq_eq_false_iff_ne.2 (by omega)
    have e10 : (op == 10) = false := beq_eq_false_iff_ne.2 (by omega)
    have e11 : (op == 11) = false := beq_eq_false_iff_ne.2 (by omega)
    have e12 : (op == 12) = false := beq_eq_false_iff_ne.2 (by omega)
    have e13 : (op == 13) = false := beq_eq_false_iff_ne.2 (by omega)
    have e14 : (op == 14) = false := beq_eq_false_iff_ne.2 (by omega)
    have e15 : (op == 15) = false := beq_eq_false_iff_ne.2 (by omega)
    have e16 : (op == 16) = false := beq_eq_false_iff_ne.2 (by omega)
    have e17 : (op == 17) = false := beq_eq_false_iff_ne.2 (by omega)
    have e18 : (op == 18) = false := beq_eq_false_iff_ne.2 (by omega)
    have e19 : (op == 19) = false := beq_eq_false_iff_ne.2 (by omega)
    have e20 : (op == 20) = false := beq_eq_false_iff_ne.2 (by omega)
    have e21 : (op == 21) = false := beq_eq_false_iff_ne.2 (by omega)
    have e22 : (op == 22) = false := beq_eq_false_iff_ne.2 (by omega)
    have e23 : (op == 23) = false := beq_eq_false_iff_ne.2 (by omega)
    have e24 : (op == 24) = false := beq_eq_false_iff_ne.2 (by omega)
    clear hr
    go_enter Tryz.func83, Tryz.ntmps83
    go_wp2
    go_ret2
    rw [HM.out]
    exact ⟨rfl, HA.out⟩

theorem InsAt.cell {w : World} {ad : Option Addr} {n cap : Nat} {xs : List Ins} (h : InsAt w (.slice ad n cap) xs) (hn : n = xs.length) {j : Nat} (hj : j < n) : ∃ b o, ad = some ⟨b, o, none⟩ ∧ b < w.heap.size ∧ w.cell? ⟨b, o + j * 2, none⟩ = some (.int .i64 (xs.getD j Ins.no).op) ∧ w.cell? ⟨b, o + j * 2 + 1, none⟩ = some (.int .i64 (xs.getD j Ins.no).arg) := by
  subst hn
  obtain ⟨a, c, e, f⟩ := h
  simp only [Value.slice.injEq] at e
  obtain ⟨rfl, -, -⟩ := e
  obtain ⟨b, o, rfl, hb, hc⟩ := f (by omega)
  exact ⟨b, o, rfl, hb, hc j hj⟩

theorem TsAt.cell {w : World} {ad : Option Addr} {n cap : Nat} {ts : List ByteArray} (h : TsAt w (.slice ad n cap) ts) (hn : n = ts.length) {j : Nat} (hj : j < n) : ∃ b o, ad = some ⟨b, o, none⟩ ∧ w.cell? ⟨b, o + j, none⟩ = some (.string (ts.getD j ByteArray.empty)) := by
  subst hn
  obtain ⟨a, c, e, f⟩ := h
  simp only [Value.slice.injEq] at e
  obtain ⟨rfl, -, -⟩ := e
  obtain ⟨b, o, rfl, _, hc⟩ := f (by omega)
  exact ⟨b, o, rfl, hc j hj⟩

set_option maxHeartbeats 8000000 in
set_option maxRecDepth 100000 in
theorem spArg (ta : Option Addr) (tc : Nat) (lv : Value) (bg ln en : Int) (ts : List ByteArray) (op arg a to : Int) (w : World) (h : TsAt w (.slice ta ts.length tc) ts) (hl : ∃ la n lc, lv = .slice la n lc) (hs : TsSmall ts ts.length) (_hk : ts.length ≤ 1048576) (h0 : 0 ≤ arg) (h1 : arg ≤ 255) (ho1 : 1 ≤ op) (ho2 : op ≤ 24) :
    Calls Tryz.prog 82 #[.agg #[.slice ta ts.length tc, lv, .int .i64 bg, .int .i64 ln, .int .i64 en], .agg #[.int .i64 op, .int .i64 arg], .int .i64 a, .int .i64 to] w fun e w' => e = .returned (.bool (Cd.arg ts ⟨op, arg⟩ a to)) ∧ Below w.heap.size w w' := by
  obtain ⟨la, ll, lc, rfl⟩ := hl
  obtain ⟨V, hV⟩ : ∃ V, V = Cd.arg ts ⟨op, arg⟩ a to := ⟨_, rfl⟩
  rw [← hV]
  have HV : Hid (V = Cd.arg ts ⟨op, arg⟩ a to) := hV
  clear hV
  obtain ⟨z, rfl⟩ : ∃ z : Nat, arg = (z : Int) := ⟨arg.toNat, by omega⟩
  have HA : Hid (Below w.heap.size w ((w.alloc (.cells #[.slice ta ts.length tc, .slice la ll lc, .int .i64 bg, .int .i64 ln, .int .i64 en] 36)).alloc (.cells #[.int .i64 op, .int .i64 (z : Int)] 105))) := ((Below.refl _ _).alloc (Nat.le_refl _) _).alloc (by simp) _
  have HT : Hid (z < ts.length → ∃ b o, ta = some ⟨b, o, none⟩ ∧ b < w.heap.size ∧ w.cell? ⟨b, o + z, none⟩ = some (.string (ts.getD z ByteArray.empty)) ∧ (ts.getD z ByteArray.empty).size ≤ 1048576) := fun hz => by
    obtain ⟨b, o, e, hc⟩ := h.cell rfl hz
    exact ⟨b, o, e, World.block_lt_of_cell? w _ hc, hc, hs z hz⟩
  clear h hs
  obtain ⟨n, hn⟩ : ∃ n, n = ts.length := ⟨_, rfl⟩
  have HN : Hid (n = ts.length) := hn
  rw [← hn] at HA HT ⊢
  clear hn
  by_cases e1 : op = 1
  · have HV2 : Hid (V = decide (z < n)) := by
      show _ = _
      rw [HV.out, HN.out]
      unfold Cd.arg
      simp only
      rw [if_pos e1, decide_eq_decide]
      omega
    subst e1
    clear HV HT
    go_enter Tryz.func82, Tryz.ntmps82
    go_wp2
    go_ret
    exact ⟨by rw [HV2.out]; rfl, HA.out⟩
  by_cases e2 : op = 15
  · subst e2
    by_cases hz : z < n
    · obtain ⟨b, o, rfl, hb, hc, hsz⟩ := HT.out hz
      have HV2 : Hid (V = (Pp.read (ts.getD z ByteArray.empty).data.toList).isSome) := by
        show _ = _
        rw [HV.out]
        unfold Cd.arg Cd.text
        simp only [Int.toNat_natCast]
        rw [if_neg (by omega), if_pos trivial, decide_eq_true (by rw [← HN.out]; omega), Bool.true_and]
      generalize ts.getD z ByteArray.empty = t at *
      have d1 : decide ((n : Int) ≤ (z : Int)) = false := decide_eq_false (by omega)
      have hz1 : (z : Int) < (n : Int) := by omega
      have C : Hid (∀ w, Calls Tryz.prog 97 #[.string t] w fun e w' => ∃ va vn vc, e = .returned (.tuple #[.agg #[.slice va vn vc], .bool V]) ∧ Below w.heap.size w w') := fun w => by rw [HV2.out]; exact spReadOk t w hsz
      have hc2 : ((w.alloc (.cells #[.slice (some ⟨b, o, none⟩) n tc, .slice la ll lc, .int .i64 bg, .int .i64 ln, .int .i64 en] 36)).alloc (.cells #[.int .i64 15, .int .i64 (z : Int)] 105)).cell? ⟨b, o + z, none⟩ = some (.string t) := (HA.out.cell hb).trans hc
      clear HV HT HV2 hc
      go_enter Tryz.func82, Tryz.ntmps82
      go_wp2_with (go_at_call 97; refine (C.out _).mono ?_; rintro e w2 ⟨va, vn, vc, rfl, b2⟩)
      go_ret
      exact ⟨rfl, (HA.out.trans (b2.mono HA.out.size)).alloc (Nat.le_trans HA.out.size b2.size) _⟩
    · have HV2 : Hid (V = false) := by
        show _ = _
        rw [HV.out]
        unfold Cd.arg
        simp only
        rw [if_neg (by omega), if_pos trivial, decide_eq_false (by rw [← HN.out]; omega), Bool.false_and]
      have d1 : decide ((n : Int) ≤ (z : Int)) = true := decide_eq_true (by omega)
      clear HV HT
      go_enter Tryz.func82, Tryz.ntmps82
      go_wp2
      go_ret
      exact ⟨by rw [HV2.out]; rfl, HA.out⟩
  by_cases e3 : op = 2 ∨ op = 3 ∨ op = 17 ∨ op = 18 ∨ op = 19 ∨ op = 20 ∨ op = 24
  · by_cases hz : z < n
    · obtain ⟨b, o, rfl, hb, hc, hsz⟩ := HT.out hz
      have HV2 : Hid (V = Cd.nm (ts.getD z ByteArray.empty).data.toList) := by
        show _ = _
        rw [HV.out]
        unfold Cd.arg Cd.text
        simp only [Int.toNat_natCast]
        rw [if_neg (by omega), if_neg (by omega), if_pos e3, decide_eq_true (by rw [← HN.out]; omega), Bool.true_and]
      generalize ts.getD z ByteArray.empty = t at *
      have d1 : decide ((z : Int) < (n : Int)) = true := decide_eq_true (by omega)
      have hz1 : (z : Int) < (n : Int) := by omega
      have C : Hid (∀ w, Calls Tryz.prog 17 #[.string t] w fun e w' => e = .returned (.bool V) ∧ w' = w) := fun w => by rw [HV2.out]; exact spNm t w hsz
      have hc2 : ((w.alloc (.cells #[.slice (some ⟨b, o, none⟩) n tc, .slice la ll lc, .int .i64 bg, .int .i64 ln, .int .i64 en] 36)).alloc (.cells #[.int .i64 op, .int .i64 (z : Int)] 105)).cell? ⟨b, o + z, none⟩ = some (.string t) := (HA.out.cell hb).trans hc
      clear HV HT HV2 hc e1 e2
      rcases e3 with rfl | rfl | rfl | rfl | rfl | rfl | rfl
      all_goals
        go_enter Tryz.func82, Tryz.ntmps82
        go_wp2_with (go_at_call 17; refine (C.out _).mono ?_; rintro e w2 ⟨rfl, rfl⟩)
        go_ret
        exact ⟨rfl, HA.out⟩
    · have HV2 : Hid (V = false) := by
        show _ = _
        rw [HV.out]
        unfold Cd.arg
        simp only
        rw [if_neg (by omega), if_neg (by omega), if_pos e3, decide_eq_false (by rw [← HN.out]; omega), Bool.false_and]
      have d1 : decide ((z : Int) < (n : Int)) = false := decide_eq_false (by omega)
      clear HV HT e1 e2
      rcases e3 with rfl | rfl | rfl | rfl | rfl | rfl | rfl
      all_goals
        go_enter Tryz.func82, Tryz.ntmps82
        go_wp2
        go_ret
        exact ⟨by rw [HV2.out]; rfl, HA.out⟩
  by_cases e4 : op = 16
  · have C : Hid (∀ w, Calls Tryz.prog 49 #[.int .i64 (z : Int), .int .i64 1, .int .i64 4] w fun e w' => e = .returned (.bool V) ∧ w' = w) := fun w => by
      have e : V = decide (1 ≤ (z : Int) ∧ (z : Int) ≤ 4) := by
        rw [HV.out]
        unfold Cd.arg
        simp only
        rw [if_neg e1, if_neg e2, if_neg e3, if_pos e4]
      rw [e]
      exact sIn_any _ _ _ w
    subst e4
    clear HV HT e1 e2 e3
    go_enter Tryz.func82, Tryz.ntmps82
    go_wp2_with (go_at_call 49; refine (C.out _).mono ?_; rintro e w2 ⟨rfl, rfl⟩)
    go_ret
    exact ⟨rfl, HA.out⟩
  by_cases e5 : op = 21 ∨ op = 22
  · obtain ⟨A, hA⟩ : ∃ A, A = decide (a < (z : Int)) := ⟨_, rfl⟩
    obtain ⟨B, hB⟩ : ∃ B, B = decide ((z : Int) ≤ to) := ⟨_, rfl⟩
    have HV2 : Hid (V = (A && B)) := by
      show _ = _
      rw [HV.out, hA, hB]
      unfold Cd.arg
      simp only
      rw [if_neg e1, if_neg e2, if_neg e3, if_neg e4, if_pos e5]
    have hA2 := hA.symm
    have hB2 := hB.symm
    clear hA hB HV HT e1 e2 e3 e4
    rcases e5 with rfl | rfl
    all_goals
      cases A <;> cases B
      all_goals
        go_enter Tryz.func82, Tryz.ntmps82
        go_wp2
        go_ret
        exact ⟨by rw [HV2.out]; rfl, HA.out⟩
  · have HV2 : Hid (V = decide ((z : Int) = 0)) := by
      show _ = _
      rw [HV.out]
      unfold Cd.arg
      simp only
      rw [if_neg e1, if_neg e2, if_neg e3, if_neg e4, if_neg e5]
    have hop : op = 4 ∨ op = 5 ∨ op = 6 ∨ op = 7 ∨ op = 8 ∨ op = 9 ∨ op = 10 ∨ op = 11 ∨ op = 12 ∨ op = 13 ∨ op = 14 ∨ op = 23 := by omega
    have eq0 : Hid (decide ((z : Int) = 0) = ((z : Int) == 0)) := by show _ = _; rw [Bool.eq_iff_iff]; simp
    clear HV HT e1 e2 e3 e4 e5
    rcases hop with rfl | rfl | rfl | rfl | rfl | rfl | rfl | rfl | rfl | rfl | rfl | rfl
    all_goals
      go_enter Tryz.func82, Tryz.ntmps82
      go_wp2
      go_ret
      exact ⟨by rw [HV2.out, eq0.out]; rfl, HA.out⟩
end Go.Proofs.YtehagonaacbmiaaGreat
