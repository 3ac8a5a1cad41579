/- When a program is right: a node, a rule. -/
import Derived.Test.YthbblocllicmiapPkD
namespace Go.Proofs.Ythbblocllicmiap
open Go.RowKit

theorem ahead_no {i : Nat} {ks : List Int} {k : Nat} (hk : k < ks.length) (h : ¬ (0 ≤ ks.getD k 0 ∧ ks.getD k 0 < (i : Int))) : Pg.ahead i ks = false := by
  unfold Pg.ahead
  rw [List.all_eq_false]
  refine ⟨ks[k], List.getElem_mem _, ?_⟩
  simp [hk] at h ⊢
  exact h
theorem ahead_yes {i : Nat} {ks : List Int} (h : ∀ k, k < ks.length → 0 ≤ ks.getD k 0 ∧ ks.getD k 0 < (i : Int)) : Pg.ahead i ks = true := by
  unfold Pg.ahead
  rw [List.all_eq_true]
  intro x hx
  obtain ⟨k, hk, rfl⟩ := List.getElem_of_mem hx
  have := h k hk
  simp [hk] at this
  simpa using this

set_option maxRecDepth 100000 in
set_option maxHeartbeats 4000000 in
theorem nodeOk_any (v : Value) (ps : List Pi) (i : Nat) (w : World) (h : PcsAt w v ps) (hi : i < ps.length) (hl : ps.length ≤ 1048576) (hsm : Small ps ps.length) :
    Calls Try.prog 31 #[v, .int .i64 (i : Int)] w fun e w' => e = .returned (.bool (Pg.node ps i)) ∧ Below w.heap.size w w' := by
  obtain ⟨V, hV⟩ : ∃ V, V = Pg.node ps i := ⟨_, rfl⟩
  rw [← hV]
  have hkl := hsm i hi
  obtain ⟨p, hp⟩ : ∃ p, p = ps.getD i Pi.no := ⟨_, rfl⟩
  rw [← hp] at hkl
  obtain ⟨op, t, ks⟩ := p
  simp only at hkl
  have HV : Hid (V = (Pg.ahead i ks && (decide (1 ≤ op ∧ op ≤ 25) && (Pg.text op t.data.toList && Pg.counted op (ks.map (Pg.opAt ps)))))) := by rw [hV]; exact Pg.node_is ps i op t ks hp.symm
  have HP : Hid (∀ W, Below w.heap.size w W → PcsAt W v ps) := fun W hb => h.keep hb
  obtain ⟨va, vc, rfl, f⟩ := h
  obtain ⟨b, o, rfl, hb, hc⟩ := f (by omega)
  have hpc := hc i hi
  rw [← hp] at hpc
  obtain ⟨kv, c0, c1, c2, hkv⟩ := hpc
  simp only at c0 c1 hkv
  have HK : Hid (∀ W, Below w.heap.size w W → KidsAt W kv ks) := fun W hb => hkv.keep hb
  obtain ⟨ka, kc, rfl, g⟩ := hkv
  have HG : Hid (0 < ks.length → ∃ b o, ka = some ⟨b, o, none⟩ ∧ b < w.heap.size ∧ ∀ i, i < ks.length → w.cell? ⟨b, o + i, none⟩ = some (.int .i64 (ks.getD i 0))) := g
  clear hV hp f hc g hsm
  obtain ⟨T, hT⟩ : ∃ T, T = Pg.text op t.data.toList := ⟨_, rfl⟩
  obtain ⟨C, hC⟩ : ∃ C, C = Pg.counted op (ks.map (Pg.opAt ps)) := ⟨_, rfl⟩
  rw [← hT, ← hC] at HV
  have CT : Hid (∀ W, Calls Try.prog 55 #[.agg #[.int .i64 op, .string t, .slice ka ks.length kc]] W fun e w' => e = .returned (.bool T) ∧ Below W.heap.size W w') := fun W => by rw [hT]; exact nodeTextOk_any op t ka ks.length kc W hkl.2
  have CC : Hid (Pg.ahead i ks = true → ∀ W, Below w.heap.size w W → Calls Try.prog 56 #[.slice (some ⟨b, o, none⟩) ps.length vc, .agg #[.int .i64 op, .string t, .slice ka ks.length kc]] W fun e w' => e = .returned (.bool C) ∧ Below W.heap.size W w') := fun ha W hb => by rw [hC]; exact nodeKidsOk_any _ _ ps op t ks i W (HP.out W hb) (HK.out W hb) hl hkl.1 (by omega) ha
  clear hT hC HP HK
  obtain ⟨n, hn⟩ : ∃ n, n = ps.length := ⟨_, rfl⟩
  obtain ⟨m, hm⟩ : ∃ m, m = ks.length := ⟨_, rfl⟩
  rw [← hn] at hl hi CC ⊢
  rw [← hm] at HG CT CC hkl c2
  have HM : Hid (m = ks.length) := hm
  clear hn hm
  have i0 : (i : Int) < (n : Int) := by omega
  have HB : Hid (Below w.heap.size w (w.alloc (.cells #[.int .i64 op, .string t, .slice ka m kc] 59))) := (Below.refl _ _).alloc (Nat.le_refl _) _
  have q0 := heap_alloc_new w (.cells #[.int .i64 op, .string t, .slice ka m kc] 59)
  have r0 := blk_cell q0 0
  have r1 := blk_cell q0 1
  have r2 := blk_cell q0 2
  simp only [List.getElem?_toArray, List.getElem?_cons_zero, List.getElem?_cons_succ] at r0 r1 r2
  have hz : w.heap.size < (w.alloc (.cells #[.int .i64 op, .string t, .slice ka m kc] 59)).heap.size := by simp
  go_enter Try.func31, Try.ntmps31
  go_wp2
  generalize w.alloc (.cells #[.int .i64 op, .string t, .slice ka m kc] 59) = W0 at *
  go_loopw [15] (fun j wr => ∃ k : Nat, j = .int .i64 (k : Int) ∧ k ≤ m ∧ wr = W0 ∧ Hid (∀ q, q < k → 0 ≤ ks.getD q 0 ∧ ks.getD q 0 < (i : Int))) (fun j _ => m - (intOf j).toNat)
  case atStart => exact ⟨0, rfl, by omega, rfl, fun q hq => by omega⟩
  case round =>
    obtain ⟨k, rfl, hkm, rfl, HQ⟩ := hrel
    by_cases hlt : k < m
    · obtain ⟨gb, go, rfl, hgb, hgc⟩ := HG.out (by omega)
      have c5 := (HB.out.cell hgb).trans (hgc k hlt)
      obtain ⟨z, hz2⟩ : ∃ z, z = ks.getD k 0 := ⟨_, rfl⟩
      rw [← hz2] at c5
      have HZ : Hid (z = ks.getD k 0) := hz2
      clear hz2 hgc
      have i1 : (k : Int) < (m : Int) := by omega
      by_cases hz0 : z < 0
      · have d0 : decide (z < 0) = true := decide_eq_true hz0
        have HR : Hid (V = false) := HV.out.trans (by rw [ahead_no (k := k) (by rw [← HM.out]; exact hlt) (by rw [← HZ.out]; omega)]; rfl)
        clear HV CC CT HQ HZ hz0
        go_wp2
        go_ret
        exact ⟨by rw [HR.out]; rfl, HB.out⟩
      have d0 : decide (z < 0) = false := decide_eq_false hz0
      by_cases hzi : (i : Int) ≤ z
      · have d1 : decide ((i : Int) ≤ z) = true := decide_eq_true hzi
        have HR : Hid (V = false) := HV.out.trans (by rw [ahead_no (k := k) (by rw [← HM.out]; exact hlt) (by rw [← HZ.out]; omega)]; rfl)
        clear HV CC CT HQ HZ hz0 hzi
        go_wp2
        go_ret
        exact ⟨by rw [HR.out]; rfl, HB.out⟩
      have d1 : decide ((i : Int) ≤ z) = false := decide_eq_false hzi
      have HN : Hid (∀ q, q < k + 1 → 0 ≤ ks.getD q 0 ∧ ks.getD q 0 < (i : Int)) := fun q hq => by
        by_cases e : q = k
        · subst e; rw [← HZ.out]; omega
        · exact HQ.out q (by omega)
      clear HQ HZ hz0 hzi
      go_wp2
      go_roundw
      case rel => exact ⟨k + 1, by go_num, by omega, by first | rfl | trivial, HN.out⟩
      case measure => simp [intOf]; omega
    · obtain rfl : k = m := by omega
      have ha : Pg.ahead i ks = true := ahead_yes fun q hq => HQ.out q (by rw [HM.out]; exact hq)
      have HV2 : Hid (V = (decide (1 ≤ op ∧ op ≤ 25) && (T && C))) := HV.out.trans (by rw [ha]; rfl)
      have CK : Hid (∀ W, Below w.heap.size w W → Calls Try.prog 56 #[.slice (some ⟨b, o, none⟩) n vc, .agg #[.int .i64 op, .string t, .slice ka k kc]] W fun e w' => e = .returned (.bool C) ∧ Below W.heap.size W w') := CC.out ha
      clear HV CC HQ HG ha
      have i1 : ¬ ((k : Int) < (k : Int)) := by omega
      by_cases h1 : op < 1
      · have d1 : decide ((1 : Int) ≤ op) = false := decide_eq_false (by omega)
        have HR : Hid (V = false) := HV2.out.trans (by rw [decide_eq_false (by omega)]; rfl)
        clear HV2 CK CT h1
        go_wp2
        go_ret
        exact ⟨by rw [HR.out]; rfl, HB.out⟩
      have d1 : decide ((1 : Int) ≤ op) = true := decide_eq_true (by omega)
      by_cases h25 : 25 < op
      · have d2 : decide (op ≤ (25 : Int)) = false := decide_eq_false (by omega)
        have HR : Hid (V = false) := HV2.out.trans (by rw [decide_eq_false (by omega)]; rfl)
        clear HV2 CK CT h1 h25
        go_wp2
        go_ret
        exact ⟨by rw [HR.out]; rfl, HB.out⟩
      have d2 : decide (op ≤ (25 : Int)) = true := decide_eq_true (by omega)
      have HV3 : Hid (V = (T && C)) := HV2.out.trans (by rw [decide_eq_true (by omega)]; rfl)
      clear HV2 h1 h25
      go_wp2_with fail
      refine (CT.out _).mono ?_
      rintro e w2 ⟨rfl, hb2⟩
      have s0 := (hb2.cell (p := ⟨w.heap.size, 0, none⟩) (by exact hz)).trans r0
      have s1 := (hb2.cell (p := ⟨w.heap.size, 1, none⟩) (by exact hz)).trans r1
      have s2 := (hb2.cell (p := ⟨w.heap.size, 2, none⟩) (by exact hz)).trans r2
      have HB2 : Hid (Below w.heap.size w w2) := HB.out.trans (hb2.mono HB.out.size)
      clear hb2 CT q0 r0 r1 r2
      cases T
      · have HR : Hid (V = false) := HV3.out.trans rfl
        clear HV3 CK
        go_wp2
        go_ret
        exact ⟨by rw [HR.out]; rfl, HB2.out⟩
      · have HR : Hid (V = C) := HV3.out.trans rfl
        clear HV3
        go_wp2_with fail
        refine (CK.out _ HB2.out).mono ?_
        rintro e w3 ⟨rfl, hb3⟩
        go_wp2
        go_ret
        exact ⟨by rw [HR.out]; rfl, HB2.out.trans (hb3.mono HB2.out.size)⟩

theorem eq24 (Y : Int) : decide (Y = 24) = (Y == 24) := by rw [Bool.eq_iff_iff]; simp
theorem rule_is (ps : List Pi) (r : Pg.Rl) : Pg.rule ps r = (decide (1 ≤ r.when ∧ r.when ≤ 3) && ((decide (r.cond = -1) || (decide (r.when = 2) && Pg.ex (if 0 ≤ r.cond ∧ r.cond < (ps.length : Int) then Pg.opAt ps r.cond else 0))) && decide ((if 0 ≤ r.act ∧ r.act < (ps.length : Int) then Pg.opAt ps r.act else 0) = 24))) := by
  unfold Pg.rule
  have e1 : (decide (0 ≤ r.act ∧ r.act ≤ (ps.length : Int) - 1) && decide ((ps.getD r.act.toNat Pi.no).op = 24)) = decide ((if 0 ≤ r.act ∧ r.act < (ps.length : Int) then Pg.opAt ps r.act else 0) = 24) := by
    by_cases h : 0 ≤ r.act ∧ r.act < (ps.length : Int)
    · rw [if_pos h, decide_eq_true (by omega), Bool.true_and]; rfl
    · rw [if_neg h, decide_eq_false (by omega), Bool.false_and]; rfl
  have e2 : (decide (0 ≤ r.cond ∧ r.cond ≤ (ps.length : Int) - 1) && Pg.ex (ps.getD r.cond.toNat Pi.no).op) = Pg.ex (if 0 ≤ r.cond ∧ r.cond < (ps.length : Int) then Pg.opAt ps r.cond else 0) := by
    by_cases h : 0 ≤ r.cond ∧ r.cond < (ps.length : Int)
    · rw [if_pos h, decide_eq_true (by omega), Bool.true_and]; rfl
    · rw [if_neg h, decide_eq_false (by omega), Bool.false_and]; rfl
  rw [← e1, ← e2]
  cases decide (1 ≤ r.when ∧ r.when ≤ 3) <;> cases decide (r.cond = -1) <;> cases decide (r.when = 2) <;> cases decide (0 ≤ r.act ∧ r.act ≤ (ps.length : Int) - 1) <;> cases decide ((ps.getD r.act.toNat Pi.no).op = 24) <;> simp

set_option maxRecDepth 100000 in
set_option maxHeartbeats 4000000 in
theorem ruleOk_any (v : Value) (ps : List Pi) (r : Pg.Rl) (w : World) (h : PcsAt w v ps) (hl : ps.length ≤ 1048576) :
    Calls Try.prog 32 #[v, .agg #[.int .i64 r.when, .int .i64 r.cond, .int .i64 r.act]] w fun e w' => e = .returned (.bool (Pg.rule ps r)) ∧ Below w.heap.size w w' := by
  obtain ⟨V, hV⟩ : ∃ V, V = Pg.rule ps r := ⟨_, rfl⟩
  rw [← hV]
  have HV : Hid (V = _) := hV.trans (rule_is ps r)
  clear hV
  obtain ⟨a, c, d⟩ := r
  simp only at HV ⊢
  have HO : Hid (∀ z W, Below w.heap.size w W → Calls Try.prog 58 #[v, .int .i64 z] W fun e w' => e = .returned (.int .i64 (if 0 ≤ z ∧ z < (ps.length : Int) then Pg.opAt ps z else 0)) ∧ Below W.heap.size W w') := fun z W hb => opAt_any v ps z W (h.keep hb) hl
  have CX : Hid (∀ W, Below w.heap.size w W → Calls Try.prog 58 #[v, .int .i64 c] W fun e w' => e = .returned (.int .i64 (if 0 ≤ c ∧ c < (ps.length : Int) then Pg.opAt ps c else 0)) ∧ Below W.heap.size W w') := HO.out c
  have CY : Hid (∀ W, Below w.heap.size w W → Calls Try.prog 58 #[v, .int .i64 d] W fun e w' => e = .returned (.int .i64 (if 0 ≤ d ∧ d < (ps.length : Int) then Pg.opAt ps d else 0)) ∧ Below W.heap.size W w') := HO.out d
  clear HO
  generalize (if 0 ≤ c ∧ c < (ps.length : Int) then Pg.opAt ps c else 0) = X at *
  generalize (if 0 ≤ d ∧ d < (ps.length : Int) then Pg.opAt ps d else 0) = Y at *
  obtain ⟨va, vc, rfl, -⟩ := h
  generalize ps.length = n at *
  have CE : Hid (∀ W, Calls Try.prog 57 #[.int .i64 X] W fun e w' => e = .returned (.bool (Pg.ex X)) ∧ w' = W) := fun W => isEx_any X W
  generalize Pg.ex X = B at *
  have HB : Hid (Below w.heap.size w (w.alloc (.cells #[.int .i64 a, .int .i64 c, .int .i64 d] 55))) := (Below.refl _ _).alloc (Nat.le_refl _) _
  have q0 := heap_alloc_new w (.cells #[.int .i64 a, .int .i64 c, .int .i64 d] 55)
  have r2 := blk_cell q0 2
  simp only [List.getElem?_toArray, List.getElem?_cons_zero, List.getElem?_cons_succ] at r2
  have hz : w.heap.size < (w.alloc (.cells #[.int .i64 a, .int .i64 c, .int .i64 d] 55)).heap.size := by simp
  clear q0
  by_cases h1 : a < 1
  · have d1 : decide (a < 1) = true := decide_eq_true h1
    have HR : Hid (V = false) := HV.out.trans (by rw [decide_eq_false (by omega)]; rfl)
    clear HV CX CY CE r2 hz h1
    go_enter Try.func32, Try.ntmps32
    go_wp2
    go_ret
    exact ⟨by rw [HR.out]; rfl, HB.out⟩
  have d1 : decide (a < 1) = false := decide_eq_false h1
  by_cases h3 : 3 < a
  · have d2 : decide ((3 : Int) < a) = true := decide_eq_true h3
    have HR : Hid (V = false) := HV.out.trans (by rw [decide_eq_false (by omega)]; rfl)
    clear HV CX CY CE r2 hz h1 h3
    go_enter Try.func32, Try.ntmps32
    go_wp2
    go_ret
    exact ⟨by rw [HR.out]; rfl, HB.out⟩
  have d2 : decide ((3 : Int) < a) = false := decide_eq_false h3
  have HV2 : Hid (V = ((decide (c = -1) || (decide (a = 2) && B)) && decide (Y = 24))) := HV.out.trans (by rw [decide_eq_true (by omega)]; rfl)
  clear HV h1 h3
  by_cases hc : c = -1
  · have d3 : (c != -1) = false := by simpa using hc
    have HR : Hid (V = (Y == 24)) := HV2.out.trans (by rw [decide_eq_true hc, Bool.true_or, Bool.true_and]; exact eq24 Y)
    clear HV2 CX CE hc
    go_enter Try.func32, Try.ntmps32
    go_wp2_with fail
    refine (CY.out _ HB.out).mono ?_
    rintro e w2 ⟨rfl, hb2⟩
    go_wp2
    go_ret
    exact ⟨by rw [HR.out]; rfl, HB.out.trans (hb2.mono HB.out.size)⟩
  have d3 : (c != -1) = true := by simpa using hc
  by_cases ha : a = 2
  · have d4 : (a != 2) = false := by simpa using ha
    have HV3 : Hid (V = (B && decide (Y = 24))) := HV2.out.trans (by rw [decide_eq_false hc, decide_eq_true ha]; simp)
    clear HV2 hc ha
    go_enter Try.func32, Try.ntmps32
    go_wp2_with fail
    refine (CX.out _ HB.out).mono ?_
    rintro e w2 ⟨rfl, hb2⟩
    have s2 := (hb2.cell (p := ⟨w.heap.size, 2, none⟩) (by exact hz)).trans r2
    have HB2 : Hid (Below w.heap.size w w2) := HB.out.trans (hb2.mono HB.out.size)
    clear hb2 CX r2
    go_wp2_with fail
    refine (CE.out _).mono ?_
    rintro e w3 ⟨rfl, hw3⟩
    rw [hw3]
    clear hw3 CE
    cases B
    · have HR : Hid (V = false) := HV3.out.trans rfl
      clear HV3 CY
      go_wp2
      go_ret
      exact ⟨by rw [HR.out]; rfl, HB2.out⟩
    · have HR : Hid (V = (Y == 24)) := HV3.out.trans (eq24 Y)
      clear HV3
      go_wp2_with fail
      refine (CY.out _ HB2.out).mono ?_
      rintro e w4 ⟨rfl, hb4⟩
      go_wp2
      go_ret
      exact ⟨by rw [HR.out]; rfl, HB2.out.trans (hb4.mono HB2.out.size)⟩
  · have d4 : (a != 2) = true := by simpa using ha
    have HR : Hid (V = false) := HV2.out.trans (by rw [decide_eq_false hc, decide_eq_false ha]; rfl)
    clear HV2 CX CY CE hc ha
    go_enter Try.func32, Try.ntmps32
    go_wp2
    go_ret
    exact ⟨by rw [HR.out]; rfl, HB.out⟩
#print axioms nodeOk_any
#print axioms ruleOk_any
end Go.Proofs.Ythbblocllicmiap
