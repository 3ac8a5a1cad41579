/- When a program is right: a node, a rule. When a program is right: what ProgramOk of the program answers, at every program. The program's plainToken, markedToken and signToken. The program's signToken and patternToken. The program's patternToken. The program's firstToken. -/
import Derived.Test.YtkfkbdgfnopokaaGreatDoorPkD
import Derived.Test.YtkfkbdgfnopokaaGreatDoorZah
import Derived.Test.YtkfkbdgfnopokaaGreatDoorZae
import Derived.Test.YtkfkbdgfnopokaaGreatDoorShelfC
import Derived.Test.YtkfkbdgfnopokaaGreatDoorZau
namespace Go.Proofs.YtkfkbdgfnopokaaGreatDoor
section PartPkE
open Go.RowKit
theorem ahead_no {i : Nat} {ks : List Int} {k : Nat} (hk : k < ks.length) (h : ¬ (0 ≤ ks.getD k 0 ∧ ks.getD k 0 < (i : Int))) : Pg.ahead i ks = false := by
 unfold Pg.ahead
 rw [List.all_eq_false]
 refine ⟨ks[k], List.getElem_mem _, ?_⟩
 simp [hk] at h ⊢
 exact h
theorem ahead_yes {i : Nat} {ks : List Int} (h : ∀ k, k < ks.length → 0 ≤ ks.getD k 0 ∧ ks.getD k 0 < (i : Int)) : Pg.ahead i ks = true := by
 unfold Pg.ahead
 rw [List.all_eq_true]
 intro x hx
 obtain ⟨k, hk, rfl⟩ := List.getElem_of_mem hx
 have := h k hk
 simp [hk] at this
 simpa using this
set_option maxRecDepth 100000 in
set_option maxHeartbeats 4000000 in
theorem nodeOk_any (v : Value) (ps : List Pi) (i : Nat) (w : World) (h : PcsAt w v ps) (hi : i < ps.length) (hl : ps.length ≤ 1048576) (hsm : Small ps ps.length) :
  Calls Tryz.prog 59 #[v, .int .i64 (i : Int)] w fun e w' => e = .returned (.bool (Pg.node ps i)) ∧ Below w.heap.size w w' := by
 obtain ⟨V, hV⟩ : ∃ V, V = Pg.node ps i := ⟨_, rfl⟩
 rw [← hV]
 have hkl := hsm i hi
 obtain ⟨p, hp⟩ : ∃ p, p = ps.getD i Pi.no := ⟨_, rfl⟩
 rw [← hp] at hkl
 obtain ⟨op, t, ks⟩ := p
 simp only at hkl
 have HV : Hid (V = (Pg.ahead i ks && (decide (1 ≤ op ∧ op ≤ 25) && (Pg.text op t.data.toList && Pg.counted op (ks.map (Pg.opAt ps)))))) := by rw [hV]; exact Pg.node_is ps i op t ks hp.symm
 have HP : Hid (∀ W, Below w.heap.size w W → PcsAt W v ps) := fun W hb => h.keep hb
 obtain ⟨va, vc, rfl, f⟩ := h
 obtain ⟨b, o, rfl, hb, hc⟩ := f (by omega)
 have hpc := hc i hi
 rw [← hp] at hpc
 obtain ⟨kv, c0, c1, c2, hkv⟩ := hpc
 simp only at c0 c1 hkv
 have HK : Hid (∀ W, Below w.heap.size w W → KidsAt W kv ks) := fun W hb => hkv.keep hb
 obtain ⟨ka, kc, rfl, g⟩ := hkv
 have HG : Hid (0 < ks.length → ∃ b o, ka = some ⟨b, o, none⟩ ∧ b < w.heap.size ∧ ∀ i, i < ks.length → w.cell? ⟨b, o + i, none⟩ = some (.int .i64 (ks.getD i 0))) := g
 clear hV hp f hc g hsm
 obtain ⟨T, hT⟩ : ∃ T, T = Pg.text op t.data.toList := ⟨_, rfl⟩
 obtain ⟨C, hC⟩ : ∃ C, C = Pg.counted op (ks.map (Pg.opAt ps)) := ⟨_, rfl⟩
 rw [← hT, ← hC] at HV
 have CT : Hid (∀ W, Calls Tryz.prog 96 #[.agg #[.int .i64 op, .string t, .slice ka ks.length kc]] W fun e w' => e = .returned (.bool T) ∧ Below W.heap.size W w') := fun W => by rw [hT]; exact nodeTextOk_any op t ka ks.length kc W hkl.2
 have CC : Hid (Pg.ahead i ks = true → ∀ W, Below w.heap.size w W → Calls Tryz.prog 97 #[.slice (some ⟨b, o, none⟩) ps.length vc, .agg #[.int .i64 op, .string t, .slice ka ks.length kc]] W fun e w' => e = .returned (.bool C) ∧ Below W.heap.size W w') := fun ha W hb => by rw [hC]; exact nodeKidsOk_any _ _ ps op t ks i W (HP.out W hb) (HK.out W hb) hl hkl.1 (by omega) ha
 clear hT hC HP HK
 obtain ⟨n, hn⟩ : ∃ n, n = ps.length := ⟨_, rfl⟩
 obtain ⟨m, hm⟩ : ∃ m, m = ks.length := ⟨_, rfl⟩
 rw [← hn] at hl hi CC ⊢
 rw [← hm] at HG CT CC hkl c2
 have HM : Hid (m = ks.length) := hm
 clear hn hm
 have i0 : (i : Int) < (n : Int) := by omega
 have HB : Hid (Below w.heap.size w (w.alloc (.cells #[.int .i64 op, .string t, .slice ka m kc] 87))) := (Below.refl _ _).alloc (Nat.le_refl _) _
 have q0 := heap_alloc_new w (.cells #[.int .i64 op, .string t, .slice ka m kc] 87)
 have r0 := blk_cell q0 0
 have r1 := blk_cell q0 1
 have r2 := blk_cell q0 2
 simp only [List.getElem?_toArray, List.getElem?_cons_zero, List.getElem?_cons_succ] at r0 r1 r2
 have hz : w.heap.size < (w.alloc (.cells #[.int .i64 op, .string t, .slice ka m kc] 87)).heap.size := by simp
 go_enter Tryz.func59, Tryz.ntmps59
 go_wp2
 generalize w.alloc (.cells #[.int .i64 op, .string t, .slice ka m kc] 87) = W0 at *
 go_loopw [15] (fun j wr => ∃ k : Nat, j = .int .i64 (k : Int) ∧ k ≤ m ∧ wr = W0 ∧ Hid (∀ q, q < k → 0 ≤ ks.getD q 0 ∧ ks.getD q 0 < (i : Int))) (fun j _ => m - (intOf j).toNat)
 case atStart => exact ⟨0, rfl, by omega, rfl, fun q hq => by omega⟩
 case round =>
  obtain ⟨k, rfl, hkm, rfl, HQ⟩ := hrel
  by_cases hlt : k < m
  ·obtain ⟨gb, go, rfl, hgb, hgc⟩ := HG.out (by omega)
   have c5 := (HB.out.cell hgb).trans (hgc k hlt)
   obtain ⟨z, hz2⟩ : ∃ z, z = ks.getD k 0 := ⟨_, rfl⟩
   rw [← hz2] at c5
   have HZ : Hid (z = ks.getD k 0) := hz2
   clear hz2 hgc
   have i1 : (k : Int) < (m : Int) := by omega
   by_cases hz0 : z < 0
   ·have d0 : decide (z < 0) = true := decide_eq_true hz0
    have HR : Hid (V = false) := HV.out.trans (by rw [ahead_no (k := k) (by rw [← HM.out]; exact hlt) (by rw [← HZ.out]; omega)]; rfl)
    clear HV CC CT HQ HZ hz0
    go_wp2
    go_ret
    exact ⟨by rw [HR.out]; rfl, HB.out⟩
   have d0 : decide (z < 0) = false := decide_eq_false hz0
   by_cases hzi : (i : Int) ≤ z
   ·have d1 : decide ((i : Int) ≤ z) = true := decide_eq_true hzi
    have HR : Hid (V = false) := HV.out.trans (by rw [ahead_no (k := k) (by rw [← HM.out]; exact hlt) (by rw [← HZ.out]; omega)]; rfl)
    clear HV CC CT HQ HZ hz0 hzi
    go_wp2
    go_ret
    exact ⟨by rw [HR.out]; rfl, HB.out⟩
   have d1 : decide ((i : Int) ≤ z) = false := decide_eq_false hzi
   have HN : Hid (∀ q, q < k + 1 → 0 ≤ ks.getD q 0 ∧ ks.getD q 0 < (i : Int)) := fun q hq => by
    by_cases e : q = k
    ·subst e; rw [← HZ.out]; omega
    ·exact HQ.out q (by omega)
   clear HQ HZ hz0 hzi
   go_wp2
   go_roundw
   case rel => exact ⟨k + 1, by go_num, by omega, by first | rfl | trivial, HN.out⟩
   case measure => simp [intOf]; omega
  ·obtain rfl : k = m := by omega
   have ha : Pg.ahead i ks = true := ahead_yes fun q hq => HQ.out q (by rw [HM.out]; exact hq)
   have HV2 : Hid (V = (decide (1 ≤ op ∧ op ≤ 25) && (T && C))) := HV.out.trans (by rw [ha]; rfl)
   have CK : Hid (∀ W, Below w.heap.size w W → Calls Tryz.prog 97 #[.slice (some ⟨b, o, none⟩) n vc, .agg #[.int .i64 op, .string t, .slice ka k kc]] W fun e w' => e = .returned (.bool C) ∧ Below W.heap.size W w') := CC.out ha
   clear HV CC HQ HG ha
   have i1 : ¬ ((k : Int) < (k : Int)) := by omega
   by_cases h1 : op < 1
   ·have d1 : decide ((1 : Int) ≤ op) = false := decide_eq_false (by omega)
    have HR : Hid (V = false) := HV2.out.trans (by rw [decide_eq_false (by omega)]; rfl)
    clear HV2 CK CT h1
    go_wp2
    go_ret
    exact ⟨by rw [HR.out]; rfl, HB.out⟩
   have d1 : decide ((1 : Int) ≤ op) = true := decide_eq_true (by omega)
   by_cases h25 : 25 < op
   ·have d2 : decide (op ≤ (25 : Int)) = false := decide_eq_false (by omega)
    have HR : Hid (V = false) := HV2.out.trans (by rw [decide_eq_false (by omega)]; rfl)
    clear HV2 CK CT h1 h25
    go_wp2
    go_ret
    exact ⟨by rw [HR.out]; rfl, HB.out⟩
   have d2 : decide (op ≤ (25 : Int)) = true := decide_eq_true (by omega)
   have HV3 : Hid (V = (T && C)) := HV2.out.trans (by rw [decide_eq_true (by omega)]; rfl)
   clear HV2 h1 h25
   go_wp2_with fail
   refine (CT.out _).mono ?_
   rintro e w2 ⟨rfl, hb2⟩
   have s0 := (hb2.cell (p := ⟨w.heap.size, 0, none⟩) (by exact hz)).trans r0
   have s1 := (hb2.cell (p := ⟨w.heap.size, 1, none⟩) (by exact hz)).trans r1
   have s2 := (hb2.cell (p := ⟨w.heap.size, 2, none⟩) (by exact hz)).trans r2
   have HB2 : Hid (Below w.heap.size w w2) := HB.out.trans (hb2.mono HB.out.size)
   clear hb2 CT q0 r0 r1 r2
   cases T
   ·have HR : Hid (V = false) := HV3.out.trans rfl
    clear HV3 CK
    go_wp2
    go_ret
    exact ⟨by rw [HR.out]; rfl, HB2.out⟩
   ·have HR : Hid (V = C) := HV3.out.trans rfl
    clear HV3
    go_wp2_with fail
    refine (CK.out _ HB2.out).mono ?_
    rintro e w3 ⟨rfl, hb3⟩
    go_wp2
    go_ret
    exact ⟨by rw [HR.out]; rfl, HB2.out.trans (hb3.mono HB2.out.size)⟩
theorem eq24 (Y : Int) : decide (Y = 24) = (Y == 24) := by rw [Bool.eq_iff_iff]; simp
theorem rule_is (ps : List Pi) (r : Pg.Rl) : Pg.rule ps r = (decide (1 ≤ r.when ∧ r.when ≤ 3) && ((decide (r.cond = -1) || (decide (r.when = 2) && Pg.ex (if 0 ≤ r.cond ∧ r.cond < (ps.length : Int) then Pg.opAt ps r.cond else 0))) && decide ((if 0 ≤ r.act ∧ r.act < (ps.length : Int) then Pg.opAt ps r.act else 0) = 24))) := by
 unfold Pg.rule
 have e1 : (decide (0 ≤ r.act ∧ r.act ≤ (ps.length : Int) - 1) && decide ((ps.getD r.act.toNat Pi.no).op = 24)) = decide ((if 0 ≤ r.act ∧ r.act < (ps.length : Int) then Pg.opAt ps r.act else 0) = 24) := by
  by_cases h : 0 ≤ r.act ∧ r.act < (ps.length : Int)
  ·rw [if_pos h, decide_eq_true (by omega), Bool.true_and]; rfl
  ·rw [if_neg h, decide_eq_false (by omega), Bool.false_and]; rfl
 have e2 : (decide (0 ≤ r.cond ∧ r.cond ≤ (ps.length : Int) - 1) && Pg.ex (ps.getD r.cond.toNat Pi.no).op) = Pg.ex (if 0 ≤ r.cond ∧ r.cond < (ps.length : Int) then Pg.opAt ps r.cond else 0) := by
  by_cases h : 0 ≤ r.cond ∧ r.cond < (ps.length : Int)
  ·rw [if_pos h, decide_eq_true (by omega), Bool.true_and]; rfl
  ·rw [if_neg h, decide_eq_false (by omega), Bool.false_and]; rfl
 rw [← e1, ← e2]
 cases decide (1 ≤ r.when ∧ r.when ≤ 3) <;> cases decide (r.cond = -1) <;> cases decide (r.when = 2) <;> cases decide (0 ≤ r.act ∧ r.act ≤ (ps.length : Int) - 1) <;> cases decide ((ps.getD r.act.toNat Pi.no).op = 24) <;> simp
set_option maxRecDepth 100000 in
set_option maxHeartbeats 4000000 in
theorem ruleOk_any (v : Value) (ps : List Pi) (r : Pg.Rl) (w : World) (h : PcsAt w v ps) (hl : ps.length ≤ 1048576) :
  Calls Tryz.prog 60 #[v, .agg #[.int .i64 r.when, .int .i64 r.cond, .int .i64 r.act]] w fun e w' => e = .returned (.bool (Pg.rule ps r)) ∧ Below w.heap.size w w' := by
 obtain ⟨V, hV⟩ : ∃ V, V = Pg.rule ps r := ⟨_, rfl⟩
 rw [← hV]
 have HV : Hid (V = _) := hV.trans (rule_is ps r)
 clear hV
 obtain ⟨a, c, d⟩ := r
 simp only at HV ⊢
 have HO : Hid (∀ z W, Below w.heap.size w W → Calls Tryz.prog 98 #[v, .int .i64 z] W fun e w' => e = .returned (.int .i64 (if 0 ≤ z ∧ z < (ps.length : Int) then Pg.opAt ps z else 0)) ∧ Below W.heap.size W w') := fun z W hb => opAt_any v ps z W (h.keep hb) hl
 have CX : Hid (∀ W, Below w.heap.size w W → Calls Tryz.prog 98 #[v, .int .i64 c] W fun e w' => e = .returned (.int .i64 (if 0 ≤ c ∧ c < (ps.length : Int) then Pg.opAt ps c else 0)) ∧ Below W.heap.size W w') := HO.out c
 have CY : Hid (∀ W, Below w.heap.size w W → Calls Tryz.prog 98 #[v, .int .i64 d] W fun e w' => e = .returned (.int .i64 (if 0 ≤ d ∧ d < (ps.length : Int) then Pg.opAt ps d else 0)) ∧ Below W.heap.size W w') := HO.out d
 clear HO
 generalize (if 0 ≤ c ∧ c < (ps.length : Int) then Pg.opAt ps c else 0) = X at *
 generalize (if 0 ≤ d ∧ d < (ps.length : Int) then Pg.opAt ps d else 0) = Y at *
 obtain ⟨va, vc, rfl, -⟩ := h
 generalize ps.length = n at *
 have CE : Hid (∀ W, Calls Tryz.prog 70 #[.int .i64 X] W fun e w' => e = .returned (.bool (Pg.ex X)) ∧ w' = W) := fun W => isEx_any X W
 generalize Pg.ex X = B at *
 have HB : Hid (Below w.heap.size w (w.alloc (.cells #[.int .i64 a, .int .i64 c, .int .i64 d] 48))) := (Below.refl _ _).alloc (Nat.le_refl _) _
 have q0 := heap_alloc_new w (.cells #[.int .i64 a, .int .i64 c, .int .i64 d] 48)
 have r2 := blk_cell q0 2
 simp only [List.getElem?_toArray, List.getElem?_cons_zero, List.getElem?_cons_succ] at r2
 have hz : w.heap.size < (w.alloc (.cells #[.int .i64 a, .int .i64 c, .int .i64 d] 48)).heap.size := by simp
 clear q0
 by_cases h1 : a < 1
 ·have d1 : decide (a < 1) = true := decide_eq_true h1
  have HR : Hid (V = false) := HV.out.trans (by rw [decide_eq_false (by omega)]; rfl)
  clear HV CX CY CE r2 hz h1
  go_enter Tryz.func60, Tryz.ntmps60
  go_wp2
  go_ret
  exact ⟨by rw [HR.out]; rfl, HB.out⟩
 have d1 : decide (a < 1) = false := decide_eq_false h1
 by_cases h3 : 3 < a
 ·have d2 : decide ((3 : Int) < a) = true := decide_eq_true h3
  have HR : Hid (V = false) := HV.out.trans (by rw [decide_eq_false (by omega)]; rfl)
  clear HV CX CY CE r2 hz h1 h3
  go_enter Tryz.func60, Tryz.ntmps60
  go_wp2
  go_ret
  exact ⟨by rw [HR.out]; rfl, HB.out⟩
 have d2 : decide ((3 : Int) < a) = false := decide_eq_false h3
 have HV2 : Hid (V = ((decide (c = -1) || (decide (a = 2) && B)) && decide (Y = 24))) := HV.out.trans (by rw [decide_eq_true (by omega)]; rfl)
 clear HV h1 h3
 by_cases hc : c = -1
 ·have d3 : (c != -1) = false := by simpa using hc
  have HR : Hid (V = (Y == 24)) := HV2.out.trans (by rw [decide_eq_true hc, Bool.true_or, Bool.true_and]; exact eq24 Y)
  clear HV2 CX CE hc
  go_enter Tryz.func60, Tryz.ntmps60
  go_wp2_with fail
  refine (CY.out _ HB.out).mono ?_
  rintro e w2 ⟨rfl, hb2⟩
  go_wp2
  go_ret
  exact ⟨by rw [HR.out]; rfl, HB.out.trans (hb2.mono HB.out.size)⟩
 have d3 : (c != -1) = true := by simpa using hc
 by_cases ha : a = 2
 ·have d4 : (a != 2) = false := by simpa using ha
  have HV3 : Hid (V = (B && decide (Y = 24))) := HV2.out.trans (by rw [decide_eq_false hc, decide_eq_true ha]; simp)
  clear HV2 hc ha
  go_enter Tryz.func60, Tryz.ntmps60
  go_wp2_with fail
  refine (CX.out _ HB.out).mono ?_
  rintro e w2 ⟨rfl, hb2⟩
  have s2 := (hb2.cell (p := ⟨w.heap.size, 2, none⟩) (by exact hz)).trans r2
  have HB2 : Hid (Below w.heap.size w w2) := HB.out.trans (hb2.mono HB.out.size)
  clear hb2 CX r2
  go_wp2_with fail
  refine (CE.out _).mono ?_
  rintro e w3 ⟨rfl, hw3⟩
  rw [hw3]
  clear hw3 CE
  cases B
  ·have HR : Hid (V = false) := HV3.out.trans rfl
   clear HV3 CY
   go_wp2
   go_ret
   exact ⟨by rw [HR.out]; rfl, HB2.out⟩
  ·have HR : Hid (V = (Y == 24)) := HV3.out.trans (eq24 Y)
   clear HV3
   go_wp2_with fail
   refine (CY.out _ HB2.out).mono ?_
   rintro e w4 ⟨rfl, hb4⟩
   go_wp2
   go_ret
   exact ⟨by rw [HR.out]; rfl, HB2.out.trans (hb4.mono HB2.out.size)⟩
 ·have d4 : (a != 2) = true := by simpa using ha
  have HR : Hid (V = false) := HV2.out.trans (by rw [decide_eq_false hc, decide_eq_false ha]; rfl)
  clear HV2 CX CY CE hc ha
  go_enter Tryz.func60, Tryz.ntmps60
  go_wp2
  go_ret
  exact ⟨by rw [HR.out]; rfl, HB.out⟩
end PartPkE
section PartPkF
open Go.RowKit
set_option maxRecDepth 100000 in
set_option maxHeartbeats 4000000 in
theorem implProgOk (v rv : Value) (ps : List Pi) (rs : List Pg.Rl) (w : World) (h : PcsAt w v ps) (hr : RlsAt w rv rs) (hl : ps.length ≤ 1048576) (hl2 : rs.length ≤ 1048576) (hsm : Small ps ps.length) :
  Calls Tryz.prog 24 #[.agg #[v, rv]] w fun e w' => e = .returned (.bool (Pg.ok ps rs)) ∧ Below w.heap.size w w' := by
 have HC : Hid (∀ i W, i < ps.length → Below w.heap.size w W → Calls Tryz.prog 59 #[v, .int .i64 (i : Int)] W fun e w' => e = .returned (.bool (Pg.node ps i)) ∧ Below W.heap.size W w') := fun i W hi hb => nodeOk_any v ps i W (h.keep hb) hi hl hsm
 have HU : Hid (∀ r W, Below w.heap.size w W → Calls Tryz.prog 60 #[v, .agg #[.int .i64 r.when, .int .i64 r.cond, .int .i64 r.act]] W fun e w' => e = .returned (.bool (Pg.rule ps r)) ∧ Below W.heap.size W w') := fun r W hb => ruleOk_any v ps r W (h.keep hb) hl
 obtain ⟨va, vc, rfl, -⟩ := h
 obtain ⟨ra, rc, rfl, fr⟩ := hr
 obtain ⟨n, hn⟩ : ∃ n, n = ps.length := ⟨_, rfl⟩
 obtain ⟨k, hk⟩ : ∃ k, k = rs.length := ⟨_, rfl⟩
 obtain ⟨V, hV⟩ : ∃ V, V = Pg.ok ps rs := ⟨_, rfl⟩
 rw [← hV]
 have HV : Hid (V = (decide (n ≤ 200) && decide (k ≤ 12) && (List.range n).all (Pg.node ps) && rs.all (Pg.rule ps))) := by rw [hV, hn, hk]; rfl
 have HF : Hid (0 < rs.length → ∃ b o, ra = some ⟨b, o, none⟩ ∧ b < w.heap.size ∧ ∀ i, i < rs.length → w.cell? ⟨b, o + i * 3, none⟩ = some (.int .i64 (rs.getD i Pg.Rl.no).when) ∧ w.cell? ⟨b, o + i * 3 + 1, none⟩ = some (.int .i64 (rs.getD i Pg.Rl.no).cond) ∧ w.cell? ⟨b, o + i * 3 + 2, none⟩ = some (.int .i64 (rs.getD i Pg.Rl.no).act)) := fr
 rw [← hn] at HC HU hl ⊢
 rw [← hk] at HF hl2 ⊢
 have HK : Hid (k = rs.length) := hk
 clear hV hn hk hsm fr
 have HB : Hid (Below w.heap.size w (w.alloc (.cells #[.slice va n vc, .slice ra k rc] 25))) := (Below.refl _ _).alloc (Nat.le_refl _) _
 have q0 := heap_alloc_new w (.cells #[.slice va n vc, .slice ra k rc] 25)
 have hsz : w.heap.size < (w.alloc (.cells #[.slice va n vc, .slice ra k rc] 25)).heap.size := by simp
 by_cases h1 : 200 < n
 ·have d1 : decide ((200 : Int) < (n : Int)) = true := decide_eq_true (by omega)
  have HR : Hid (V = false) := by show _ = _; rw [HV.out, decide_eq_false (by omega : ¬ n ≤ 200)]; rfl
  clear HV HC HU HF q0 h1
  go_enter Tryz.func24, Tryz.ntmps24
  go_wp2
  go_ret
  exact ⟨by rw [HR.out]; rfl, HB.out⟩
 have d1 : decide ((200 : Int) < (n : Int)) = false := decide_eq_false (by omega)
 by_cases h2 : 12 < k
 ·have d2 : decide ((12 : Int) < (k : Int)) = true := decide_eq_true (by omega)
  have HR : Hid (V = false) := by show _ = _; rw [HV.out, decide_eq_false (by omega : ¬ k ≤ 12)]; simp
  clear HV HC HU HF q0 h1 h2
  go_enter Tryz.func24, Tryz.ntmps24
  go_wp2
  go_ret
  exact ⟨by rw [HR.out]; rfl, HB.out⟩
 have d2 : decide ((12 : Int) < (k : Int)) = false := decide_eq_false (by omega)
 have HV2 : Hid (V = ((List.range n).all (Pg.node ps) && rs.all (Pg.rule ps))) := by show _ = _; rw [HV.out, decide_eq_true (by omega : n ≤ 200), decide_eq_true (by omega : k ≤ 12)]; rfl
 clear HV h1 h2
 go_enter Tryz.func24, Tryz.ntmps24
 go_wp2
 generalize w.alloc (.cells #[.slice va n vc, .slice ra k rc] 25) = W0 at *
 have HQ : Hid (∀ wr, Below W0.heap.size W0 wr → wr.cell? ⟨w.heap.size, 0, none⟩ = some (.slice va n vc) ∧ wr.cell? ⟨w.heap.size, 1, none⟩ = some (.slice ra k rc)) := by
  intro wr hb
  have s0 := (hb.block _ hsz).trans q0
  have z0 := blk_cell s0 0
  have z1 := blk_cell s0 1
  simp only [List.getElem?_toArray, List.getElem?_cons_zero, List.getElem?_cons_succ] at z0 z1
  exact ⟨z0, z1⟩
 have HW : Hid (∀ W, Below W0.heap.size W0 W → Below w.heap.size w W) := fun W hb => HB.out.trans (hb.mono HB.out.size)
 clear q0 d1 d2 hsz
 go_loopw [19] (fun j wr => ∃ q : Nat, j = .int .i64 (q : Int) ∧ q ≤ n ∧ Hid (Below W0.heap.size W0 wr) ∧ Hid (∀ r, r < q → Pg.node ps r = true)) (fun j _ => n - (intOf j).toNat)
 case atStart => exact ⟨0, rfl, by omega, Below.refl _ _, fun q hq => by omega⟩
 case round =>
  obtain ⟨q, rfl, hq, HWQ, HJ⟩ := hrel
  obtain ⟨z0, z1⟩ := HQ.out _ HWQ.out
  by_cases hlt : q < n
  ·have i1 : (q : Int) < (n : Int) := by omega
   have C := HC.out q wr hlt (HW.out _ HWQ.out)
   obtain ⟨B, hB⟩ : ∃ B, B = Pg.node ps q := ⟨_, rfl⟩
   rw [← hB] at C
   have C2 : Hid (Calls Tryz.prog 59 #[.slice va n vc, .int .i64 (q : Int)] wr fun e w' => e = .returned (.bool B) ∧ Below wr.heap.size wr w') := C
   have HBB : Hid (B = Pg.node ps q) := hB
   clear C hB
   cases B
   ·have HR : Hid (V = false) := HV2.out.trans (by rw [List.all_eq_false.2 ⟨q, List.mem_range.2 hlt, by rw [← HBB.out]; decide⟩]; rfl)
    clear HV2 HBB HJ HC HU HF
    go_wp2_with fail
    refine C2.out.mono ?_
    rintro e w2 ⟨rfl, hb2⟩
    have HB2 : Hid (Below w.heap.size w w2) := HW.out _ (HWQ.out.trans (hb2.mono HWQ.out.size))
    clear hb2 C2
    go_wp2
    go_ret
    exact ⟨by rw [HR.out]; rfl, HB2.out⟩
   ·have HN : Hid (∀ r, r < q + 1 → Pg.node ps r = true) := fun r hr => by
     by_cases e : r = q
     ·subst e; exact HBB.out.symm
     ·exact HJ.out r (by omega)
    clear HBB HJ
    go_wp2_with fail
    refine C2.out.mono ?_
    rintro e w2 ⟨rfl, hb2⟩
    have HB2 : Hid (Below W0.heap.size W0 w2) := HWQ.out.trans (hb2.mono HWQ.out.size)
    clear hb2 C2
    go_wp2
    go_roundw
    case rel => exact ⟨q + 1, by go_num, by omega, HB2.out, HN.out⟩
    case measure => simp [intOf]; omega
  ·obtain rfl : q = n := by omega
   have HV3 : Hid (V = rs.all (Pg.rule ps)) := HV2.out.trans (by rw [List.all_eq_true.2 fun r hr => HJ.out r (List.mem_range.1 hr)]; rfl)
   clear HV2 HJ HC
   have i1 : ¬ ((q : Int) < (q : Int)) := by omega
   go_wp2
   obtain ⟨U, hU⟩ : ∃ U, U = wr := ⟨_, rfl⟩
   subst hU
   go_loopw [31] (fun j wr => ∃ p : Nat, j = .int .i64 (p : Int) ∧ p ≤ k ∧ Hid (Below W0.heap.size W0 wr) ∧ Hid (∀ r, r < p → Pg.rule ps (rs.getD r Pg.Rl.no) = true)) (fun j _ => k - (intOf j).toNat)
   case atStart => exact ⟨0, rfl, by omega, HWQ.out, fun r hr => by omega⟩
   case round =>
    obtain ⟨p, rfl, hp, HWP, HJ⟩ := hrel
    clear z0 z1
    obtain ⟨z0, z1⟩ := HQ.out _ HWP.out
    by_cases hpk : p < k
    ·have i2 : (p : Int) < (k : Int) := by omega
     have i3 : (0 : Int) ≤ (p : Int) := by omega
     obtain ⟨b, o, rfl, hb, hc⟩ := HF.out (by omega)
     have hbw := HW.out _ HWP.out
     have c0 := (hbw.cell hb).trans (hc p hpk).1
     have c1 := (hbw.cell hb).trans (hc p hpk).2.1
     have c2 := (hbw.cell hb).trans (hc p hpk).2.2
     obtain ⟨r, hr⟩ : ∃ r, r = rs.getD p Pg.Rl.no := ⟨_, rfl⟩
     rw [← hr] at c0 c1 c2
     obtain ⟨B, hB⟩ : ∃ B, B = Pg.rule ps r := ⟨_, rfl⟩
     have HBA : Hid (Below W0.heap.size W0 (wr.alloc (.cells #[.int .i64 r.when, .int .i64 r.cond, .int .i64 r.act] 48))) := HWP.out.alloc HWP.out.size _
     have C := HU.out r _ (HW.out _ HBA.out)
     rw [← hB] at C
     have C2 : Hid (Calls Tryz.prog 60 #[.slice va q vc, .agg #[.int .i64 r.when, .int .i64 r.cond, .int .i64 r.act]] (wr.alloc (.cells #[.int .i64 r.when, .int .i64 r.cond, .int .i64 r.act] 48)) fun e w' => e = .returned (.bool B) ∧ Below (wr.alloc (.cells #[.int .i64 r.when, .int .i64 r.cond, .int .i64 r.act] 48)).heap.size (wr.alloc (.cells #[.int .i64 r.when, .int .i64 r.cond, .int .i64 r.act] 48)) w') := C
     have HBB : Hid (B = Pg.rule ps (rs.getD p Pg.Rl.no)) := by rw [hB, hr]; exact rfl
     have zz0 := (((Below.refl wr.heap.size wr).alloc (Nat.le_refl _) (.cells #[.int .i64 r.when, .int .i64 r.cond, .int .i64 r.act] 48)).cell (p := ⟨w.heap.size, 0, none⟩) (World.block_lt_of_cell? wr _ z0)).trans z0
     clear C hB hr hc hbw
     obtain ⟨ra, rb, rd⟩ := r
     simp only at c0 c1 c2 HBA C2 zz0
     cases B
     ·have HR : Hid (V = false) := HV3.out.trans (by
       rw [List.all_eq_false]
       exact ⟨rs.getD p Pg.Rl.no, by rw [List.getD_eq_getElem?_getD, List.getElem?_eq_getElem (by rw [← HK.out]; exact hpk)]; exact List.getElem_mem _, by rw [← HBB.out]; decide⟩)
      clear HV3 HBB HJ HU HF
      go_wp2_with fail
      refine C2.out.mono ?_
      rintro e w2 ⟨rfl, hb2⟩
      have HB2 : Hid (Below w.heap.size w w2) := HW.out _ (HBA.out.trans (hb2.mono HBA.out.size))
      clear hb2 C2
      go_wp2
      go_ret
      exact ⟨by rw [HR.out]; rfl, HB2.out⟩
     ·have HN : Hid (∀ r, r < p + 1 → Pg.rule ps (rs.getD r Pg.Rl.no) = true) := fun r hr => by
       by_cases e : r = p
       ·subst e; exact HBB.out.symm
       ·exact HJ.out r (by omega)
      clear HBB HJ
      go_wp2_with fail
      refine C2.out.mono ?_
      rintro e w2 ⟨rfl, hb2⟩
      have HB2 : Hid (Below W0.heap.size W0 w2) := HBA.out.trans (hb2.mono HBA.out.size)
      clear hb2 C2
      go_wp2
      go_roundw
      case rel => exact ⟨p + 1, by go_num, by omega, HB2.out, HN.out⟩
      case measure => simp [intOf]; omega
    ·obtain rfl : p = k := by omega
     have HR : Hid (V = true) := HV3.out.trans (by
      rw [List.all_eq_true]
      intro x hx
      obtain ⟨r, hr, rfl⟩ := List.getElem_of_mem hx
      have := HJ.out r (by rw [HK.out]; exact hr)
      rwa [List.getD_eq_getElem?_getD, List.getElem?_eq_getElem hr] at this)
     have HBE : Hid (Below w.heap.size w wr) := HW.out _ HWP.out
     clear HV3 HJ HU HF
     have i2 : ¬ ((p : Int) < (p : Int)) := by omega
     go_wp2
     go_ret
     exact ⟨by rw [HR.out]; rfl, HBE.out⟩
end PartPkF
section PartItE
open Go.RowKit
theorem alloc1_0 (w : World) (o : Obj) : (w.alloc o).heap[w.heap.size]? = some o := by
 show (w.heap.push o)[w.heap.size]? = _
 simp
theorem below1 (w : World) (o : Obj) : Below w.heap.size w (w.alloc o) := (Below.refl _ _).alloc (Nat.le_refl _) _
theorem size1 (w : World) (o : Obj) : w.heap.size < (w.alloc o).heap.size := by
 show _ < (w.heap.push o).size
 simp
set_option maxRecDepth 100000 in
set_option maxHeartbeats 1000000 in
theorem plainToken_any (kind most : Nat) (l : List UInt8) (w : World) (hl : l.length ≤ 1048576) :
  Calls Tryz.prog 90 #[.int .i64 (kind : Int), .string (tx l), .int .i64 (most : Int)] w fun e w' => e = .returned (onev (if most < l.length then none else some (⟨kind, l⟩, l.length))) ∧ Below w.heap.size w w' := by
 have CC : Hid (∀ w, Calls Tryz.prog 115 #[.string (tx l)] w fun e w' => e = .returned (.string (tx l)) ∧ Below w.heap.size w w') := fun w => clone_any (tx l) w (by rw [tx_size]; omega)
 have z1 : (tx l).size = l.length := tx_size l
 by_cases h : most < l.length
 ·rw [if_pos h]
  have d1 : decide ((most : Int) < (l.length : Int)) = true := decide_eq_true (by omega)
  go_enter Tryz.func90, Tryz.ntmps90
  go_wp2
  exact bodyPost_ret (res_tok rfl _ _ w.heap.size _ _ rfl (alloc1_0 _ _)) rfl ⟨rfl, below1 _ _⟩
 ·rw [if_neg h]
  have d1 : decide ((most : Int) < (l.length : Int)) = false := decide_eq_false (by omega)
  go_enter Tryz.func90, Tryz.ntmps90
  go_wp2_with fail
  refine (CC.out _).mono ?_
  rintro e w1 ⟨rfl, b1⟩
  have r1 := (b1.block w.heap.size (size1 _ _)).trans (alloc1_0 _ _)
  have HB : Hid (Below w.heap.size w w1) := (below1 _ _).trans (b1.mono (Nat.le_of_lt (size1 _ _)))
  have HR1 : Hid _ := r1
  obtain ⟨c0, c1, f0, f1⟩ := tok_cells r1
  clear b1 r1 CC
  go_wp2
  exact bodyPost_ret (res_tok rfl _ _ w.heap.size _ _ rfl (tok_stored HR1.out _ _)) rfl ⟨rfl, tok_below HB.out (Nat.le_refl _) _ _⟩
theorem prefix_marks (m : UInt8) (r : List UInt8) (j : Nat) (hj : j ≤ r.length) : Lib.hasPrefix (m :: r) (m :: (r.take j ++ [m])) = decide (r[j]? = some m) := by
 rw [Bool.eq_iff_iff]
 simp only [Lib.hasPrefix, List.isPrefixOf_iff_prefix, decide_eq_true_eq, List.cons_prefix_cons, true_and]
 constructor
 ·rintro ⟨t, ht⟩
  rw [← ht]
  have e : (r.take j).length = j := by rw [List.length_take]; omega
  rw [List.append_assoc, List.getElem?_append_right (by omega), e]
  simp
 ·intro h
  obtain ⟨h1, h2⟩ := List.getElem?_eq_some_iff.1 h
  refine ⟨r.drop (j + 1), ?_⟩
  rw [List.append_assoc]
  conv => rhs; rw [← List.take_append_drop j r, List.drop_eq_getElem_cons h1, h2]
  rfl
set_option maxRecDepth 100000 in
set_option maxHeartbeats 1000000 in
theorem markedToken_any (kind most : Nat) (m : UInt8) (r : List UInt8) (w : World) (hm : m.toNat < 128) (hr : r.length ≤ 1048576) :
  Calls Tryz.prog 91 #[.int .i64 (kind : Int), .string (tx (m :: r)), .int .i64 (most : Int)] w fun e w' => e = .returned (onev (if Tk.textEnd (m :: r) 0 m most = 0 then none else some (⟨kind, Tk.cut (m :: r) 1 (Tk.textEnd (m :: r) 0 m most)⟩, Tk.textEnd (m :: r) 0 m most + 1))) ∧ Below w.heap.size w w' := by
 obtain ⟨j, hj⟩ : ∃ j, j = Tk.run (fun b => b != m && b != 10) r 0 := ⟨_, rfl⟩
 have hjl : j ≤ r.length := by rw [hj]; exact Tk.run_le _ (Nat.zero_le _)
 have HE : Hid (Tk.textEnd (m :: r) 0 m most = if r[j]? = some m ∧ j ≤ most then j + 1 else 0) := by
  show _ = _
  unfold Tk.textEnd
  have e : Tk.run (fun b => b != m && b != 10) (m :: r) (0 + 1) = 1 + j := by
   rw [Nat.add_comm, Tk.run_drop]
   simp [hj]
  rw [e]
  have e2 : (m :: r)[1 + j]? = r[j]? := by rw [Nat.add_comm]; simp
  have e3 : 1 + j - 0 - 1 = j := by omega
  rw [e2, e3, Nat.add_comm]
 have C1 : Hid (∀ w, Calls Tryz.prog 88 #[.string (tx r), .string (setMark m)] w fun e w' => e = .returned (.string (tx (r.take j))) ∧ Below w.heap.size w w') := fun w => by
  rw [hj]
  exact upTo_any (tx r) (setMark m) (fun b => b != m && b != 10) w (asc_mark m hm) (mark_is m)
 have C2 : Hid (∀ w, Calls Tryz.prog 87 #[.string (tx (m :: r)), .string (tx (m :: (r.take j ++ [m])))] w fun e w' => e = .returned (.bool (decide (r[j]? = some m))) ∧ w' = w) := fun w => by
  have := hasPrefix_any (tx (m :: r)) (tx (m :: (r.take j ++ [m]))) w
  rw [tx_list, tx_list, prefix_marks m r j hjl] at this
  exact this
 have CC : Hid (∀ w, Calls Tryz.prog 115 #[.string (tx (r.take j))] w fun e w' => e = .returned (.string (tx (r.take j))) ∧ Below w.heap.size w w') := fun w => clone_any _ w (by rw [tx_size, List.length_take]; omega)
 have z1 : (tx (m :: r)).size = r.length + 1 := tx_size _
 have z2 : (tx (r.take j)).size = j := by rw [tx_size, List.length_take]; omega
 have e1 : (tx (m :: r)).extract 0 1 = tx [m] := tx_one m r
 have e2 : (tx (m :: r)).extract 1 (r.length + 1) = tx r := tx_rest m r _ rfl
 have e3 : tx [m] ++ { data := #[10] } = setMark m := by simp [tx, setMark, ByteArray.ext_iff]
 have e4 : tx [m] ++ tx (r.take j) = tx (m :: r.take j) := by simp [tx, ByteArray.ext_iff]
 have e5 : tx (m :: r.take j) ++ tx [m] = tx (m :: (r.take j ++ [m])) := by simp [tx, ByteArray.ext_iff]
 have z3 : (tx (m :: (r.take j ++ [m]))).size = j + 2 := by rw [tx_size]; simp; omega
 obtain ⟨V, hV⟩ : ∃ V, V = onev (if Tk.textEnd (m :: r) 0 m most = 0 then none else some (⟨kind, Tk.cut (m :: r) 1 (Tk.textEnd (m :: r) 0 m most)⟩, Tk.textEnd (m :: r) 0 m most + 1)) := ⟨_, rfl⟩
 rw [← hV]
 have HV : Hid (V = onev (if Tk.textEnd (m :: r) 0 m most = 0 then none else some (⟨kind, Tk.cut (m :: r) 1 (Tk.textEnd (m :: r) 0 m most)⟩, Tk.textEnd (m :: r) 0 m most + 1))) := hV
 clear hj hV
 by_cases h1 : most < j
 ·have HE1 := HE.out.trans (if_neg (by omega))
  have HV2 : Hid (V = onev none) := by show _ = _; rw [HV.out, HE1, if_pos rfl]
  clear HE1
  have d1 : decide ((most : Int) < (j : Int)) = true := decide_eq_true (by omega)
  clear HV HE
  go_enter Tryz.func91, Tryz.ntmps91
  go_wp2_with fail
  refine (C1.out _).mono ?_
  rintro e w1 ⟨rfl, b1⟩
  have r1 := (b1.block w.heap.size (size1 _ _)).trans (alloc1_0 _ _)
  have HB : Hid (Below w.heap.size w w1) := (below1 _ _).trans (b1.mono (Nat.le_of_lt (size1 _ _)))
  have HR1 : Hid _ := r1
  obtain ⟨c0, c1, f0, f1⟩ := tok_cells r1
  clear b1 r1
  go_wp2
  exact bodyPost_ret (res_tok rfl _ _ w.heap.size _ _ rfl (tok_stored HR1.out _ _)) rfl ⟨by rw [HV2.out]; rfl, tok_below HB.out (Nat.le_refl _) _ _⟩
 have d1 : decide ((most : Int) < (j : Int)) = false := decide_eq_false (by omega)
 by_cases h2 : r[j]? = some m
 ·have HV2 : Hid (V = .tuple #[.agg #[.int .i64 (kind : Int), .string (tx (r.take j))], .int .i64 ((j + 2 : Nat) : Int)]) := by
   show _ = _
   have e : Tk.cut (m :: r) 1 (j + 1) = r.take j := by simp [Tk.cut]
   rw [HV.out, HE.out.trans (if_pos ⟨h2, by omega⟩), if_neg (by omega), e]
   rfl
  rw [decide_eq_true h2] at C2
  clear HV HE h2
  go_enter Tryz.func91, Tryz.ntmps91
  go_wp2_with fail
  refine (C1.out _).mono ?_
  rintro e w1 ⟨rfl, b1⟩
  have r1 := (b1.block w.heap.size (size1 _ _)).trans (alloc1_0 _ _)
  have HB : Hid (Below w.heap.size w w1) := (below1 _ _).trans (b1.mono (Nat.le_of_lt (size1 _ _)))
  have HR1 : Hid _ := r1
  obtain ⟨c0, c1, f0, f1⟩ := tok_cells r1
  clear b1 r1
  go_wp2_with fail
  refine (C2.out _).mono ?_
  rintro e w2 ⟨rfl, rfl⟩
  go_wp2_with fail
  refine (CC.out _).mono ?_
  rintro e w2 ⟨rfl, b2⟩
  clear c0 c1 f0 f1
  have r2 := (b2.block w.heap.size (blk_lt HR1.out)).trans HR1.out
  have HB2 : Hid (Below w.heap.size w w2) := HB.out.trans (b2.mono HB.out.size)
  have HR2 : Hid _ := r2
  obtain ⟨c0, c1, f0, f1⟩ := tok_cells r2
  clear b2 r2 HR1 HB
  go_wp2
  exact bodyPost_ret (res_tok rfl _ _ w.heap.size _ _ rfl (tok_stored HR2.out _ _)) rfl ⟨by rw [HV2.out]; rfl, tok_below HB2.out (Nat.le_refl _) _ _⟩
 ·have HE1 := HE.out.trans (if_neg (fun h => h2 h.1))
  have HV2 : Hid (V = onev none) := by show _ = _; rw [HV.out, HE1, if_pos rfl]
  clear HE1
  rw [decide_eq_false h2] at C2
  clear HV HE h2
  go_enter Tryz.func91, Tryz.ntmps91
  go_wp2_with fail
  refine (C1.out _).mono ?_
  rintro e w1 ⟨rfl, b1⟩
  have r1 := (b1.block w.heap.size (size1 _ _)).trans (alloc1_0 _ _)
  have HB : Hid (Below w.heap.size w w1) := (below1 _ _).trans (b1.mono (Nat.le_of_lt (size1 _ _)))
  have HR1 : Hid _ := r1
  obtain ⟨c0, c1, f0, f1⟩ := tok_cells r1
  clear b1 r1
  go_wp2_with fail
  refine (C2.out _).mono ?_
  rintro e w2 ⟨rfl, rfl⟩
  go_wp2
  exact bodyPost_ret (res_tok rfl _ _ w.heap.size _ _ rfl (tok_stored HR1.out _ _)) rfl ⟨by rw [HV2.out]; rfl, tok_below HB.out (Nat.le_refl _) _ _⟩
end PartItE
section PartItF
open Go.RowKit
theorem prefix_two (b c : UInt8) (r : List UInt8) : Lib.hasPrefix (b :: r) [c, 61] = (decide (r[0]? = some 61) && decide (b = c)) := by
 cases r with
 | nil => simp [Lib.hasPrefix, List.isPrefixOf]
 | cons x y =>
  rw [Bool.eq_iff_iff]
  simp [Lib.hasPrefix, List.isPrefixOf]
  constructor
  ·rintro ⟨h1, h2⟩; exact ⟨h2.symm, h1.symm⟩
  ·rintro ⟨h1, h2⟩; exact ⟨h2.symm, h1.symm⟩
def sgn (b : UInt8) (r : List UInt8) : Option (Tk.Tok × Nat) :=
 if r[0]? = some 61 ∧ (b = 43 ∨ b = 61) then some (⟨5, [b, 61]⟩, 2) else if b ∈ Tk.signs then some (⟨5, [b]⟩, 1) else none
set_option maxRecDepth 100000 in
set_option maxHeartbeats 1000000 in
theorem signToken_any (b : UInt8) (r : List UInt8) (w : World) :
  Calls Tryz.prog 93 #[.string (tx (b :: r))] w fun e w' => e = .returned (onev (sgn b r)) ∧ Below w.heap.size w w' := by
 obtain ⟨p1, hp1⟩ : ∃ p, p = (decide (r[0]? = some 61) && decide (b = 43)) := ⟨_, rfl⟩
 obtain ⟨p2, hp2⟩ : ∃ p, p = (decide (r[0]? = some 61) && decide (b = 61)) := ⟨_, rfl⟩
 obtain ⟨p3, hp3⟩ : ∃ p, p = decide (b ∈ Tk.signs) := ⟨_, rfl⟩
 have C1 : Hid (∀ w, Calls Tryz.prog 87 #[.string (tx (b :: r)), .string ⟨#[43, 61]⟩] w fun e w' => e = .returned (.bool p1) ∧ w' = w) := fun w => by
  have := hasPrefix_any (tx (b :: r)) ⟨#[43, 61]⟩ w
  rw [tx_list, show (⟨#[43, 61]⟩ : ByteArray).data.toList = [43, 61] from rfl, prefix_two, ← hp1] at this
  exact this
 have C2 : Hid (∀ w, Calls Tryz.prog 87 #[.string (tx (b :: r)), .string ⟨#[61, 61]⟩] w fun e w' => e = .returned (.bool p2) ∧ w' = w) := fun w => by
  have := hasPrefix_any (tx (b :: r)) ⟨#[61, 61]⟩ w
  rw [tx_list, show (⟨#[61, 61]⟩ : ByteArray).data.toList = [61, 61] from rfl, prefix_two, ← hp2] at this
  exact this
 have C3 : Hid (∀ w, Calls Tryz.prog 89 #[.string setSigns, .string (tx [b])] w fun e w' => e = .returned (.bool p3) ∧ w' = w) := fun w => by
  have := containsOne_any setSigns b w
  rw [signs_is, ← hp3] at this
  exact this
 have C4 : Hid (∀ w, Calls Tryz.prog 90 #[.int .i64 5, .string (tx [b]), .int .i64 2] w fun e w' => e = .returned (.tuple #[.agg #[.int .i64 5, .string (tx [b])], .int .i64 1]) ∧ Below w.heap.size w w') := fun w => plainToken_any 5 2 [b] w (by simp)
 have C5 : Hid (∀ w, Calls Tryz.prog 90 #[.int .i64 5, .string (tx [b, 61]), .int .i64 2] w fun e w' => e = .returned (.tuple #[.agg #[.int .i64 5, .string (tx [b, 61])], .int .i64 2]) ∧ Below w.heap.size w w') := fun w => plainToken_any 5 2 [b, 61] w (by simp)
 have z1 : (tx (b :: r)).size = r.length + 1 := tx_size _
 have e1 : (tx (b :: r)).extract 0 1 = tx [b] := tx_one b r
 obtain ⟨V, hV⟩ : ∃ V, V = onev (sgn b r) := ⟨_, rfl⟩
 rw [← hV]
 have HV : Hid (V = onev (sgn b r)) := hV
 clear hV
 by_cases h1 : r[0]? = some 61 ∧ (b = 43 ∨ b = 61)
 ·have HV2 : Hid (V = .tuple #[.agg #[.int .i64 5, .string (tx [b, 61])], .int .i64 2]) := by
   show _ = _
   rw [HV.out, sgn, if_pos h1]
   rfl
  obtain ⟨r2, rfl⟩ : ∃ r2, r = 61 :: r2 := by
   cases r with
   | nil => simp at h1
   | cons x y =>
    have : x = 61 := by simpa using h1.1
    exact ⟨y, by rw [this]⟩
  have e2 : (tx (b :: 61 :: r2)).extract 0 2 = tx [b, 61] := by rw [ext_take]; simp [tx]
  have z2 : (tx (b :: 61 :: r2)).size = r2.length + 2 := tx_size _
  clear z1
  by_cases h2 : b = 43
  ·obtain rfl : p1 = true := by rw [hp1, h2]; simp
   clear HV hp1 hp2 hp3 C3 C2 C4 h1 h2
   go_enter Tryz.func93, Tryz.ntmps93
   go_wp2_with fail
   refine (C1.out _).mono ?_
   rintro e w1 ⟨rfl, rfl⟩
   go_wp2_with fail
   refine (C5.out _).mono ?_
   rintro e w2 ⟨rfl, b2⟩
   have r2 := (b2.block w.heap.size (size1 _ _)).trans (alloc1_0 _ _)
   have HB2 : Hid (Below w.heap.size w w2) := (below1 _ _).trans (b2.mono (Nat.le_of_lt (size1 _ _)))
   have HR2 : Hid _ := r2
   obtain ⟨c0, c1, f0, f1⟩ := tok_cells r2
   clear b2 r2
   go_wp2
   exact bodyPost_ret (res_tok rfl _ _ w.heap.size _ _ rfl (tok_stored HR2.out _ _)) rfl ⟨by rw [HV2.out]; rfl, tok_below HB2.out (Nat.le_refl _) _ _⟩
  ·obtain rfl : p1 = false := by rw [hp1]; simp [h2]
   obtain rfl : p2 = true := by rw [hp2]; simp; exact h1.2.resolve_left h2
   clear HV hp1 hp2 hp3 C3 C4 h1 h2
   go_enter Tryz.func93, Tryz.ntmps93
   go_wp2_with fail
   refine (C1.out _).mono ?_
   rintro e w1 ⟨rfl, rfl⟩
   go_wp2_with fail
   refine (C2.out _).mono ?_
   rintro e w2 ⟨rfl, rfl⟩
   go_wp2_with fail
   refine (C5.out _).mono ?_
   rintro e w3 ⟨rfl, b3⟩
   have r3 := (b3.block w.heap.size (size1 _ _)).trans (alloc1_0 _ _)
   have HB3 : Hid (Below w.heap.size w w3) := (below1 _ _).trans (b3.mono (Nat.le_of_lt (size1 _ _)))
   have HR3 : Hid _ := r3
   obtain ⟨c0, c1, f0, f1⟩ := tok_cells r3
   clear b3 r3
   go_wp2
   exact bodyPost_ret (res_tok rfl _ _ w.heap.size _ _ rfl (tok_stored HR3.out _ _)) rfl ⟨by rw [HV2.out]; rfl, tok_below HB3.out (Nat.le_refl _) _ _⟩
 ·obtain rfl : p1 = false := by
   rw [hp1, Bool.eq_false_iff]
   intro h
   simp at h
   exact h1 ⟨by simpa using h.1, .inl h.2⟩
  obtain rfl : p2 = false := by
   rw [hp2, Bool.eq_false_iff]
   intro h
   simp at h
   exact h1 ⟨by simpa using h.1, .inr h.2⟩
  by_cases h2 : b ∈ Tk.signs
  ·obtain rfl : p3 = true := by rw [hp3]; exact decide_eq_true h2
   have HV2 : Hid (V = .tuple #[.agg #[.int .i64 5, .string (tx [b])], .int .i64 1]) := by
    show _ = _
    rw [HV.out, sgn, if_neg h1, if_pos h2]
    rfl
   clear HV hp1 hp2 hp3 C5 h1 h2
   go_enter Tryz.func93, Tryz.ntmps93
   go_wp2_with fail
   refine (C1.out _).mono ?_
   rintro e w1 ⟨rfl, rfl⟩
   go_wp2_with fail
   refine (C2.out _).mono ?_
   rintro e w2 ⟨rfl, rfl⟩
   go_wp2_with fail
   refine (C3.out _).mono ?_
   rintro e w3 ⟨rfl, rfl⟩
   go_wp2_with fail
   refine (C4.out _).mono ?_
   rintro e w4 ⟨rfl, b4⟩
   have r4 := (b4.block w.heap.size (size1 _ _)).trans (alloc1_0 _ _)
   have HB4 : Hid (Below w.heap.size w w4) := (below1 _ _).trans (b4.mono (Nat.le_of_lt (size1 _ _)))
   have HR4 : Hid _ := r4
   obtain ⟨c0, c1, f0, f1⟩ := tok_cells r4
   clear b4 r4
   go_wp2
   exact bodyPost_ret (res_tok rfl _ _ w.heap.size _ _ rfl (tok_stored HR4.out _ _)) rfl ⟨by rw [HV2.out]; rfl, tok_below HB4.out (Nat.le_refl _) _ _⟩
  ·obtain rfl : p3 = false := by rw [hp3]; exact decide_eq_false h2
   have HV2 : Hid (V = onev none) := by
    show _ = _
    rw [HV.out, sgn, if_neg h1, if_neg h2]
   clear HV hp1 hp2 hp3 C5 C4 h1 h2
   go_enter Tryz.func93, Tryz.ntmps93
   go_wp2_with fail
   refine (C1.out _).mono ?_
   rintro e w1 ⟨rfl, rfl⟩
   go_wp2_with fail
   refine (C2.out _).mono ?_
   rintro e w2 ⟨rfl, rfl⟩
   go_wp2_with fail
   refine (C3.out _).mono ?_
   rintro e w3 ⟨rfl, rfl⟩
   go_wp2
   exact bodyPost_ret (res_tok rfl _ _ w.heap.size _ _ rfl (alloc1_0 _ _)) rfl ⟨by rw [HV2.out]; rfl, below1 _ _⟩
end PartItF
section PartItG
open Go.RowKit
def patr (r : List UInt8) : Option (Tk.Tok × Nat) :=
 if Tk.textEnd (47 :: r) 0 47 24 = 0 then none else if (Pp.read (Tk.cut (47 :: r) 1 (Tk.textEnd (47 :: r) 0 47 24))).isSome = true then some (⟨4, Tk.cut (47 :: r) 1 (Tk.textEnd (47 :: r) 0 47 24)⟩, Tk.textEnd (47 :: r) 0 47 24 + 1) else none
set_option maxRecDepth 100000 in
set_option maxHeartbeats 1000000 in
theorem patternToken_any (r : List UInt8) (w : World) (hr : r.length ≤ 1048576) :
  Calls Tryz.prog 92 #[.string (tx (47 :: r))] w fun e w' => e = .returned (onev (patr r)) ∧ Below w.heap.size w w' := by
 obtain ⟨E, hE⟩ : ∃ E, E = Tk.textEnd (47 :: r) 0 47 24 := ⟨_, rfl⟩
 obtain ⟨T, hT⟩ : ∃ T, T = Tk.cut (47 :: r) 1 E := ⟨_, rfl⟩
 have C1 : Hid (∀ w, Calls Tryz.prog 91 #[.int .i64 4, .string (tx (47 :: r)), .int .i64 24] w fun e w' => e = .returned (onev (if E = 0 then none else some (⟨4, T⟩, E + 1))) ∧ Below w.heap.size w w') := fun w => by
  have := markedToken_any 4 24 47 r w (by decide) hr
  rw [← hE, ← hT] at this
  exact this
 obtain ⟨V, hV⟩ : ∃ V, V = onev (patr r) := ⟨_, rfl⟩
 rw [← hV]
 have HV : Hid (V = onev (if E = 0 then none else if (Pp.read T).isSome = true then some (⟨4, T⟩, E + 1) else none)) := by
  show _ = _
  rw [hV, hT, hE]
  rfl
 have HTl : T.length ≤ 1048576 := by rw [hT, Tk.cut, List.length_take, List.length_drop]; simp; omega
 clear hV
 by_cases h0 : E = 0
 ·have HV2 : Hid (V = onev none) := by show _ = _; rw [HV.out, if_pos h0]
  have C1 : Hid (∀ w, Calls Tryz.prog 91 #[.int .i64 4, .string (tx (47 :: r)), .int .i64 24] w fun e w' => e = .returned (.tuple #[.agg #[.int .i64 0, .string ⟨#[]⟩], .int .i64 0]) ∧ Below w.heap.size w w') := fun w => by
   have := C1.out w
   rw [if_pos h0] at this
   exact this
  have C2 : Hid (∀ w, Calls Tryz.prog 116 #[.string ⟨#[]⟩] w fun e w' => Below w.heap.size w w' ∧ Answer w' w.heap.size none e) := fun w => by
   have := implRead_any ⟨#[]⟩ w (by decide)
   exact this
  clear HV hE hT h0
  go_enter Tryz.func92, Tryz.ntmps92
  go_wp2_with fail
  refine (C1.out _).mono ?_
  rintro e w1 ⟨rfl, b1⟩
  have r1 := (b1.block w.heap.size (size1 _ _)).trans (alloc1_0 _ _)
  have HB1 : Hid (Below w.heap.size w w1) := (below1 _ _).trans (b1.mono (Nat.le_of_lt (size1 _ _)))
  have HR1 : Hid _ := r1
  obtain ⟨c0, c1, f0, f1⟩ := tok_cells r1
  clear b1 r1
  go_wp2_with fail
  refine (C2.out _).mono ?_
  rintro e w2 ⟨b2, rfl⟩
  clear c0 c1 f0 f1
  have s1 := size1 w1 (Obj.cells #[.int .i64 0, .string ⟨#[]⟩] 80)
  have r2 := (b2.block w.heap.size (Nat.lt_trans (blk_lt HR1.out) s1)).trans (((below1 _ _).block w.heap.size (blk_lt HR1.out)).trans HR1.out)
  have q2 := (b2.block w1.heap.size s1).trans (alloc1_0 _ _)
  have HB2 : Hid (Below w.heap.size w w2) := HB1.out.trans (((below1 _ _).trans (b2.mono (Nat.le_of_lt s1))).mono HB1.out.size)
  have HR2 : Hid (∀ o, (w2.alloc o).heap[w.heap.size]? = _) := fun o => ((below1 w2 o).block w.heap.size (blk_lt r2)).trans r2
  have q3 := fun o => ((below1 w2 o).block w1.heap.size (blk_lt q2)).trans q2
  have c0 := fun o => (tok_cells (HR2.out o)).1
  have c1 := fun o => (tok_cells (HR2.out o)).2.1
  have f0 := fun o => (tok_cells (HR2.out o)).2.2.1
  have f1 := fun o => (tok_cells (HR2.out o)).2.2.2
  have c2 := fun o => (tok_cells (q3 o)).1
  have c3 := fun o => (tok_cells (q3 o)).2.1
  clear b2 r2 q2 q3 s1 HR1 HB1
  go_wp2
  exact bodyPost_ret (res_tok rfl _ _ w.heap.size _ _ rfl (tok_stored (HR2.out _) _ _)) rfl ⟨by rw [HV2.out]; rfl, tok_below (HB2.out.trans ((below1 _ _).mono HB2.out.size)) (Nat.le_refl _) _ _⟩
 ·have C1 : Hid (∀ w, Calls Tryz.prog 91 #[.int .i64 4, .string (tx (47 :: r)), .int .i64 24] w fun e w' => e = .returned (.tuple #[.agg #[.int .i64 4, .string (tx T)], .int .i64 ((E + 1 : Nat) : Int)]) ∧ Below w.heap.size w w') := fun w => by
   have := C1.out w
   rw [if_neg h0] at this
   exact this
  have C2 : Hid (∀ w, Calls Tryz.prog 116 #[.string (tx T)] w fun e w' => Below w.heap.size w w' ∧ Answer w' w.heap.size (Pp.read T) e) := fun w => by
   have := implRead_any (tx T) w (by rw [tx_size]; exact HTl)
   rw [tx_list] at this
   exact this
  have HV : Hid (V = onev (if (Pp.read T).isSome = true then some (⟨4, T⟩, E + 1) else none)) := by show _ = _; rw [HV.out, if_neg h0]
  obtain ⟨M, hM⟩ : ∃ M, M = E + 1 := ⟨_, rfl⟩
  rw [← hM] at C1 HV
  clear hE hT h0 hM
  cases hR : Pp.read T with
  | none =>
   have HV2 : Hid (V = onev none) := by show _ = _; rw [HV.out, hR]; rfl
   rw [hR] at C2
   clear HV hR
   go_enter Tryz.func92, Tryz.ntmps92
   go_wp2_with fail
   refine (C1.out _).mono ?_
   rintro e w1 ⟨rfl, b1⟩
   have r1 := (b1.block w.heap.size (size1 _ _)).trans (alloc1_0 _ _)
   have HB1 : Hid (Below w.heap.size w w1) := (below1 _ _).trans (b1.mono (Nat.le_of_lt (size1 _ _)))
   have HR1 : Hid _ := r1
   obtain ⟨c0, c1, f0, f1⟩ := tok_cells r1
   clear b1 r1
   go_wp2_with fail
   refine (C2.out _).mono ?_
   rintro e w2 ⟨b2, rfl⟩
   clear c0 c1 f0 f1
   have s1 := size1 w1 (Obj.cells #[.int .i64 4, .string (tx T)] 80)
   have r2 := (b2.block w.heap.size (Nat.lt_trans (blk_lt HR1.out) s1)).trans (((below1 _ _).block w.heap.size (blk_lt HR1.out)).trans HR1.out)
   have q2 := (b2.block w1.heap.size s1).trans (alloc1_0 _ _)
   have HB2 : Hid (Below w.heap.size w w2) := HB1.out.trans (((below1 _ _).trans (b2.mono (Nat.le_of_lt s1))).mono HB1.out.size)
   have HR2 : Hid (∀ o, (w2.alloc o).heap[w.heap.size]? = _) := fun o => ((below1 w2 o).block w.heap.size (blk_lt r2)).trans r2
   have q3 := fun o => ((below1 w2 o).block w1.heap.size (blk_lt q2)).trans q2
   have c0 := fun o => (tok_cells (HR2.out o)).1
   have c1 := fun o => (tok_cells (HR2.out o)).2.1
   have f0 := fun o => (tok_cells (HR2.out o)).2.2.1
   have f1 := fun o => (tok_cells (HR2.out o)).2.2.2
   have c2 := fun o => (tok_cells (q3 o)).1
   have c3 := fun o => (tok_cells (q3 o)).2.1
   clear b2 r2 q2 q3 s1 HR1 HB1
   go_wp2
   exact bodyPost_ret (res_tok rfl _ _ w.heap.size _ _ rfl (tok_stored (HR2.out _) _ _)) rfl ⟨by rw [HV2.out]; rfl, tok_below (HB2.out.trans ((below1 _ _).mono HB2.out.size)) (Nat.le_refl _) _ _⟩
  | some ps =>
   have HV2 : Hid (V = .tuple #[.agg #[.int .i64 4, .string (tx T)], .int .i64 (M : Int)]) := by show _ = _; rw [HV.out, hR]; rfl
   rw [hR] at C2
   clear HV hR
   go_enter Tryz.func92, Tryz.ntmps92
   go_wp2_with fail
   refine (C1.out _).mono ?_
   rintro e w1 ⟨rfl, b1⟩
   have r1 := (b1.block w.heap.size (size1 _ _)).trans (alloc1_0 _ _)
   have HB1 : Hid (Below w.heap.size w w1) := (below1 _ _).trans (b1.mono (Nat.le_of_lt (size1 _ _)))
   have HR1 : Hid _ := r1
   obtain ⟨c0, c1, f0, f1⟩ := tok_cells r1
   clear b1 r1
   go_wp2_with fail
   refine (C2.out _).mono ?_
   rintro e w2 ⟨b2, v, rfl, hrp, -, -⟩
   obtain ⟨va, vn, vc, rfl⟩ := hrp.form
   clear hrp
   clear c0 c1 f0 f1
   have s1 := size1 w1 (Obj.cells #[.int .i64 4, .string (tx T)] 80)
   have r2 := (b2.block w.heap.size (Nat.lt_trans (blk_lt HR1.out) s1)).trans (((below1 _ _).block w.heap.size (blk_lt HR1.out)).trans HR1.out)
   have q2 := (b2.block w1.heap.size s1).trans (alloc1_0 _ _)
   have HB2 : Hid (Below w.heap.size w w2) := HB1.out.trans (((below1 _ _).trans (b2.mono (Nat.le_of_lt s1))).mono HB1.out.size)
   have HR2 : Hid (∀ o, (w2.alloc o).heap[w.heap.size]? = _) := fun o => ((below1 w2 o).block w.heap.size (blk_lt r2)).trans r2
   have q3 := fun o => ((below1 w2 o).block w1.heap.size (blk_lt q2)).trans q2
   have c0 := fun o => (tok_cells (HR2.out o)).1
   have c1 := fun o => (tok_cells (HR2.out o)).2.1
   have f0 := fun o => (tok_cells (HR2.out o)).2.2.1
   have f1 := fun o => (tok_cells (HR2.out o)).2.2.2
   have c2 := fun o => (tok_cells (q3 o)).1
   have c3 := fun o => (tok_cells (q3 o)).2.1
   clear b2 r2 q2 q3 s1 HR1 HB1
   go_wp2
   exact bodyPost_ret (res_tok rfl _ _ w.heap.size _ _ rfl (tok_stored (HR2.out _) _ _)) rfl ⟨by rw [HV2.out]; rfl, tok_below (HB2.out.trans ((below1 _ _).mono HB2.out.size)) (Nat.le_refl _) _ _⟩
end PartItG
section PartItH
open Go.RowKit
def fstTok (b : UInt8) (r : List UInt8) (may : Bool) : Option (Tk.Tok × Nat) :=
 if b = 10 ∨ b = 59 then some (⟨6, [59]⟩, 1)
 else if Tk.letter b = true then (if 8 < Tk.run Tk.letter (b :: r) 0 then none else some (⟨1, (b :: r).take (Tk.run Tk.letter (b :: r) 0)⟩, Tk.run Tk.letter (b :: r) 0))
 else if Tk.figure b = true then (if 6 < Tk.run Tk.figure (b :: r) 0 then none else some (⟨2, (b :: r).take (Tk.run Tk.figure (b :: r) 0)⟩, Tk.run Tk.figure (b :: r) 0))
 else if b = 34 then (if Tk.textEnd (34 :: r) 0 34 30 = 0 then none else some (⟨3, Tk.cut (34 :: r) 1 (Tk.textEnd (34 :: r) 0 34 30)⟩, Tk.textEnd (34 :: r) 0 34 30 + 1))
 else if b = 47 ∧ may = true then patr r
 else sgn b r
theorem one_fst (b : UInt8) (r : List UInt8) (last : Tk.Tok) : Tk.one (b :: r) 0 last = fstTok b r (decide (last.kind = 5) && decide (last.text = [126])) := by
 have hg : (b :: r).getD 0 0 = b := rfl
 have hc : ∀ n, Tk.cut (b :: r) 0 n = (b :: r).take n := fun n => by simp [Tk.cut]
 have hg1 : (b :: r)[0 + 1]? = r[0]? := by simp
 unfold Tk.one fstTok
 rw [hg, hc, hc, hc, hc, hg1, Nat.sub_zero, Nat.sub_zero]
 by_cases c1 : b = 10 ∨ b = 59
 ·rw [if_pos c1, if_pos c1]
 rw [if_neg c1, if_neg c1]
 by_cases c2 : Tk.letter b = true
 ·rw [if_pos c2, if_pos c2]
 rw [if_neg c2, if_neg c2]
 by_cases c3 : Tk.figure b = true
 ·rw [if_pos c3, if_pos c3]
 rw [if_neg c3, if_neg c3]
 by_cases c4 : b = 34
 ·rw [if_pos c4, if_pos c4, c4]
 rw [if_neg c4, if_neg c4]
 by_cases c5 : b = 47
 ·rw [if_pos c5]
  subst c5
  by_cases c6 : last.kind = 5 ∧ last.text = [126]
  ·have k1 : (47 : UInt8) = 47 ∧ (decide (last.kind = 5) && decide (last.text = [126])) = true := ⟨rfl, by simp [c6]⟩
   by_cases c7 : Tk.textEnd (47 :: r) 0 47 24 = 0
   ·have k2 : Tk.textEnd (47 :: r) 0 47 24 = 0 ∨ last.kind ≠ 5 ∨ last.text ≠ [126] := .inl c7
    rw [if_pos k2, if_pos k1, patr, if_pos c7]
   ·have k2 : ¬ (Tk.textEnd (47 :: r) 0 47 24 = 0 ∨ last.kind ≠ 5 ∨ last.text ≠ [126]) := by
     rintro (h | h | h)
     ·exact c7 h
     ·exact h c6.1
     ·exact h c6.2
    rw [if_neg k2, if_pos k1, patr, if_neg c7]
  ·have k1 : ¬ ((47 : UInt8) = 47 ∧ (decide (last.kind = 5) && decide (last.text = [126])) = true) := by simpa using c6
   have k2 : Tk.textEnd (47 :: r) 0 47 24 = 0 ∨ last.kind ≠ 5 ∨ last.text ≠ [126] := by
    by_cases h : last.kind = 5
    ·exact .inr (.inr fun h2 => c6 ⟨h, h2⟩)
    ·exact .inr (.inl h)
   have k3 : ¬ (r[0]? = some 61 ∧ ((47 : UInt8) = 43 ∨ (47 : UInt8) = 61)) := fun h => h.2.elim (by decide) (by decide)
   have k4 : ¬ (47 : UInt8) ∈ Tk.signs := by decide
   rw [if_pos k2, if_neg k1, sgn, if_neg k3, if_neg k4]
 ·have k1 : ¬ (b = 47 ∧ (decide (last.kind = 5) && decide (last.text = [126])) = true) := fun h => c5 h.1
  rw [if_neg c5, if_neg k1]
  unfold sgn
  by_cases c8 : r[0]? = some 61 ∧ (b = 43 ∨ b = 61)
  ·rw [if_pos c8, if_pos c8]
   cases r with
   | nil => simp at c8
   | cons x y =>
    have : x = 61 := by simpa using c8.1
    subst this
    rfl
  ·rw [if_neg c8, if_neg c8]
   rfl
theorem onev_form (O : Option (Tk.Tok × Nat)) : ∃ (K : Int) (x : ByteArray) (M : Int), onev O = .tuple #[.agg #[.int .i64 K, .string x], .int .i64 M] := by
 cases O with
 | none => exact ⟨_, _, _, rfl⟩
 | some p => exact ⟨_, _, _, rfl⟩
theorem one_ne {b c : UInt8} (h : b ≠ c) : ((tx [b]).toList == [c]) = false := by
 rw [Lib.toList_data, tx_list, beq_eq_false_iff_ne]
 simpa using h
theorem one_eq (c : UInt8) : ((tx [c]).toList == [c]) = true := by
 rw [Lib.toList_data, tx_list]
 simp
set_option maxRecDepth 100000 in
set_option maxHeartbeats 2000000 in
theorem firstToken_any (b : UInt8) (r : List UInt8) (may : Bool) (w : World) (hr : r.length ≤ 1000) :
  Calls Tryz.prog 54 #[.string (tx (b :: r)), .bool may] w fun e w' => e = .returned (onev (fstTok b r may)) ∧ Below w.heap.size w w' := by
 have CL : Hid (∀ w, Calls Tryz.prog 89 #[.string setLetters, .string (tx [b])] w fun e w' => e = .returned (.bool (Tk.letter b)) ∧ w' = w) := fun w => by
  have := containsOne_any setLetters b w
  rw [letters_is] at this
  exact this
 have CF : Hid (∀ w, Calls Tryz.prog 89 #[.string setFigures, .string (tx [b])] w fun e w' => e = .returned (.bool (Tk.figure b)) ∧ w' = w) := fun w => by
  have := containsOne_any setFigures b w
  rw [figures_is] at this
  exact this
 obtain ⟨V, hV⟩ : ∃ V, V = onev (fstTok b r may) := ⟨_, rfl⟩
 rw [← hV]
 have HV : Hid (V = onev (fstTok b r may)) := hV
 clear hV
 have z1 : (tx (b :: r)).size = r.length + 1 := tx_size _
 have e1 : (tx (b :: r)).extract 0 1 = tx [b] := tx_one b r
 have hq1 : b ≠ 59 → ((tx [b]).toList == [59]) = false := one_ne
 have hq2 : b ≠ 10 → ((tx [b]).toList == [10]) = false := one_ne
 have hq3 : b ≠ 34 → ((tx [b]).toList == [34]) = false := one_ne
 have hq4 : b ≠ 47 → ((tx [b]).toList == [47]) = false := one_ne
 by_cases c1 : b = 59
 ·have HV2 : Hid (V = .tuple #[.agg #[.int .i64 6, .string ⟨#[59]⟩], .int .i64 1]) := by show _ = _; rw [HV.out, fstTok, if_pos (.inr c1)]; rfl
  subst c1
  have q1 := one_eq 59
  generalize tx [59] = X at *
  clear CL CF HV hq1 hq2 hq3 hq4
  go_enter Tryz.func54, Tryz.ntmps54
  go_wp2
  exact bodyPost_ret (res_tok rfl _ _ w.heap.size _ _ rfl (alloc1_0 _ _)) rfl ⟨by rw [HV2.out]; rfl, below1 _ _⟩
 have q1 := hq1 c1
 by_cases c2 : b = 10
 ·have HV2 : Hid (V = .tuple #[.agg #[.int .i64 6, .string ⟨#[59]⟩], .int .i64 1]) := by show _ = _; rw [HV.out, fstTok, if_pos (.inl c2)]; rfl
  subst c2
  have q2 := one_eq 10
  generalize tx [10] = X at *
  clear CL CF HV hq1 hq2 hq3 hq4 c1
  go_enter Tryz.func54, Tryz.ntmps54
  go_wp2
  exact bodyPost_ret (res_tok rfl _ _ w.heap.size _ _ rfl (alloc1_0 _ _)) rfl ⟨by rw [HV2.out]; rfl, below1 _ _⟩
 have q2 := hq2 c2
 have c12 : ¬ (b = 10 ∨ b = 59) := fun h => h.elim c2 c1
 clear hq1 hq2
 by_cases c_letter : Tk.letter b = true
 ·obtain ⟨n, hn⟩ : ∃ n, n = Tk.run Tk.letter (b :: r) 0 := ⟨_, rfl⟩
  have hnl : n ≤ r.length + 1 := by rw [hn]; exact Tk.run_le (l := b :: r) _ (Nat.zero_le _)
  have C1 : Hid (∀ w, Calls Tryz.prog 86 #[.string (tx (b :: r)), .string setLetters] w fun e w' => e = .returned (.string (tx ((b :: r).take n))) ∧ Below w.heap.size w w') := fun w => by
   rw [hn]
   exact rowOf_any (tx (b :: r)) setLetters Tk.letter w asc_letters letters_is
  obtain ⟨K, x, M, hO⟩ := onev_form (if 8 < n then none else some (⟨1, (b :: r).take n⟩, n))
  have C2 : Hid (∀ w, Calls Tryz.prog 90 #[.int .i64 1, .string (tx ((b :: r).take n)), .int .i64 8] w fun e w' => e = .returned (.tuple #[.agg #[.int .i64 K, .string x], .int .i64 M]) ∧ Below w.heap.size w w') := fun w => by
   have hl : ((b :: r).take n).length = n := by rw [List.length_take]; simp; omega
   have := plainToken_any 1 8 ((b :: r).take n) w (by rw [hl]; omega)
   rw [hl, hO] at this
   exact this
  have HV2 : Hid (V = .tuple #[.agg #[.int .i64 K, .string x], .int .i64 M]) := by
   show _ = _
   rw [HV.out, fstTok, if_neg c12, if_pos c_letter, ← hn, hO]
  rw [c_letter] at CL
  clear HV hn hnl hO CF c1 c2 c12 hq3 hq4 z1
  have z1 : (tx (b :: r)).size = r.length + 1 := tx_size _
  generalize tx [b] = X at *
  go_enter Tryz.func54, Tryz.ntmps54
  go_wp2_with fail
  refine (CL.out _).mono ?_
  rintro e w1 ⟨rfl, rfl⟩
  go_wp2_with fail
  refine (C1.out _).mono ?_
  rintro e w2 ⟨rfl, b2⟩
  have r2 := (b2.block w.heap.size (size1 _ _)).trans (alloc1_0 _ _)
  have HB2 : Hid (Below w.heap.size w w2) := (below1 _ _).trans (b2.mono (Nat.le_of_lt (size1 _ _)))
  have HR2 : Hid _ := r2
  obtain ⟨c0, c1, f0, f1⟩ := tok_cells r2
  clear b2 r2
  go_wp2_with fail
  refine (C2.out _).mono ?_
  rintro e w3 ⟨rfl, b3⟩
  clear c0 c1 f0 f1
  have r3 := (b3.block w.heap.size (blk_lt HR2.out)).trans HR2.out
  have HB3 : Hid (Below w.heap.size w w3) := HB2.out.trans (b3.mono HB2.out.size)
  have HR3 : Hid _ := r3
  obtain ⟨c0, c1, f0, f1⟩ := tok_cells r3
  clear b3 r3 HR2 HB2
  go_wp2
  exact bodyPost_ret (res_tok rfl _ _ w.heap.size _ _ rfl (tok_stored HR3.out _ _)) rfl ⟨by rw [HV2.out]; rfl, tok_below HB3.out (Nat.le_refl _) _ _⟩
 have n_letter : Tk.letter b = false := by simpa using c_letter
 rw [n_letter] at CL
 by_cases c_figure : Tk.figure b = true
 ·obtain ⟨n, hn⟩ : ∃ n, n = Tk.run Tk.figure (b :: r) 0 := ⟨_, rfl⟩
  have hnl : n ≤ r.length + 1 := by rw [hn]; exact Tk.run_le (l := b :: r) _ (Nat.zero_le _)
  have C1 : Hid (∀ w, Calls Tryz.prog 86 #[.string (tx (b :: r)), .string setFigures] w fun e w' => e = .returned (.string (tx ((b :: r).take n))) ∧ Below w.heap.size w w') := fun w => by
   rw [hn]
   exact rowOf_any (tx (b :: r)) setFigures Tk.figure w asc_figures figures_is
  obtain ⟨K, x, M, hO⟩ := onev_form (if 6 < n then none else some (⟨2, (b :: r).take n⟩, n))
  have C2 : Hid (∀ w, Calls Tryz.prog 90 #[.int .i64 2, .string (tx ((b :: r).take n)), .int .i64 6] w fun e w' => e = .returned (.tuple #[.agg #[.int .i64 K, .string x], .int .i64 M]) ∧ Below w.heap.size w w') := fun w => by
   have hl : ((b :: r).take n).length = n := by rw [List.length_take]; simp; omega
   have := plainToken_any 2 6 ((b :: r).take n) w (by rw [hl]; omega)
   rw [hl, hO] at this
   exact this
  have HV2 : Hid (V = .tuple #[.agg #[.int .i64 K, .string x], .int .i64 M]) := by
   show _ = _
   rw [HV.out, fstTok, if_neg c12, if_neg c_letter, if_pos c_figure, ← hn, hO]
  rw [c_figure] at CF
  clear HV hn hnl hO c1 c2 c12 hq3 hq4 z1
  have z1 : (tx (b :: r)).size = r.length + 1 := tx_size _
  generalize tx [b] = X at *
  go_enter Tryz.func54, Tryz.ntmps54
  go_wp2_with fail
  refine (CL.out _).mono ?_
  rintro e w1 ⟨rfl, rfl⟩
  go_wp2_with fail
  refine (CF.out _).mono ?_
  rintro e w2 ⟨rfl, rfl⟩
  go_wp2_with fail
  refine (C1.out _).mono ?_
  rintro e w3 ⟨rfl, b3⟩
  have r3 := (b3.block w.heap.size (size1 _ _)).trans (alloc1_0 _ _)
  have HB3 : Hid (Below w.heap.size w w3) := (below1 _ _).trans (b3.mono (Nat.le_of_lt (size1 _ _)))
  have HR3 : Hid _ := r3
  obtain ⟨c0, c1, f0, f1⟩ := tok_cells r3
  clear b3 r3
  go_wp2_with fail
  refine (C2.out _).mono ?_
  rintro e w4 ⟨rfl, b4⟩
  clear c0 c1 f0 f1
  have r4 := (b4.block w.heap.size (blk_lt HR3.out)).trans HR3.out
  have HB4 : Hid (Below w.heap.size w w4) := HB3.out.trans (b4.mono HB3.out.size)
  have HR4 : Hid _ := r4
  obtain ⟨c0, c1, f0, f1⟩ := tok_cells r4
  clear b4 r4 HR3 HB3
  go_wp2
  exact bodyPost_ret (res_tok rfl _ _ w.heap.size _ _ rfl (tok_stored HR4.out _ _)) rfl ⟨by rw [HV2.out]; rfl, tok_below HB4.out (Nat.le_refl _) _ _⟩
 have n_figure : Tk.figure b = false := by simpa using c_figure
 rw [n_figure] at CF
 by_cases c4 : b = 34
 ·subst c4
  obtain ⟨K, x, M, hO⟩ := onev_form (if Tk.textEnd (34 :: r) 0 34 30 = 0 then none else some (⟨3, Tk.cut (34 :: r) 1 (Tk.textEnd (34 :: r) 0 34 30)⟩, Tk.textEnd (34 :: r) 0 34 30 + 1))
  have C1 : Hid (∀ w, Calls Tryz.prog 91 #[.int .i64 3, .string (tx (34 :: r)), .int .i64 30] w fun e w' => e = .returned (.tuple #[.agg #[.int .i64 K, .string x], .int .i64 M]) ∧ Below w.heap.size w w') := fun w => by
   have := markedToken_any 3 30 34 r w (by decide) (by omega)
   rw [hO] at this
   exact this
  have HV2 : Hid (V = .tuple #[.agg #[.int .i64 K, .string x], .int .i64 M]) := by
   show _ = _
   rw [HV.out, fstTok, if_neg c12, if_neg c_letter, if_neg c_figure, if_pos rfl, hO]
  have q3 := one_eq 34
  clear HV hO c1 c2 c12 hq3 hq4 c_letter c_figure n_letter n_figure
  generalize tx [34] = X at *
  go_enter Tryz.func54, Tryz.ntmps54
  go_wp2_with fail
  refine (CL.out _).mono ?_
  rintro e w1 ⟨rfl, rfl⟩
  go_wp2_with fail
  refine (CF.out _).mono ?_
  rintro e w2 ⟨rfl, rfl⟩
  go_wp2_with fail
  refine (C1.out _).mono ?_
  rintro e w3 ⟨rfl, b3⟩
  have r3 := (b3.block w.heap.size (size1 _ _)).trans (alloc1_0 _ _)
  have HB3 : Hid (Below w.heap.size w w3) := (below1 _ _).trans (b3.mono (Nat.le_of_lt (size1 _ _)))
  have HR3 : Hid _ := r3
  obtain ⟨c0, c1, f0, f1⟩ := tok_cells r3
  clear b3 r3
  go_wp2
  exact bodyPost_ret (res_tok rfl _ _ w.heap.size _ _ rfl (tok_stored HR3.out _ _)) rfl ⟨by rw [HV2.out]; rfl, tok_below HB3.out (Nat.le_refl _) _ _⟩
 have q3 := hq3 c4
 by_cases c5 : b = 47
 ·have q4 : ((tx [b]).toList == [47]) = true := by rw [c5]; exact one_eq 47
  cases may with
  | true =>
   subst c5
   obtain ⟨K, x, M, hO⟩ := onev_form (patr r)
   have C1 : Hid (∀ w, Calls Tryz.prog 92 #[.string (tx (47 :: r))] w fun e w' => e = .returned (.tuple #[.agg #[.int .i64 K, .string x], .int .i64 M]) ∧ Below w.heap.size w w') := fun w => by
    have := patternToken_any r w (by omega)
    rw [hO] at this
    exact this
   have HV2 : Hid (V = .tuple #[.agg #[.int .i64 K, .string x], .int .i64 M]) := by
    show _ = _
    rw [HV.out, fstTok, if_neg c12, if_neg c_letter, if_neg c_figure, if_neg c4, if_pos ⟨rfl, rfl⟩, hO]
   clear HV hO c1 c2 c12 hq3 hq4 c_letter c_figure n_letter n_figure c4
   generalize tx [47] = X at *
   go_enter Tryz.func54, Tryz.ntmps54
   go_wp2_with fail
   refine (CL.out _).mono ?_
   rintro e w1 ⟨rfl, rfl⟩
   go_wp2_with fail
   refine (CF.out _).mono ?_
   rintro e w2 ⟨rfl, rfl⟩
   go_wp2_with fail
   refine (C1.out _).mono ?_
   rintro e w3 ⟨rfl, b3⟩
   have r3 := (b3.block w.heap.size (size1 _ _)).trans (alloc1_0 _ _)
   have HB3 : Hid (Below w.heap.size w w3) := (below1 _ _).trans (b3.mono (Nat.le_of_lt (size1 _ _)))
   have HR3 : Hid _ := r3
   obtain ⟨c0, c1, f0, f1⟩ := tok_cells r3
   clear b3 r3
   go_wp2
   exact bodyPost_ret (res_tok rfl _ _ w.heap.size _ _ rfl (tok_stored HR3.out _ _)) rfl ⟨by rw [HV2.out]; rfl, tok_below HB3.out (Nat.le_refl _) _ _⟩
  | false =>
   obtain ⟨K, x, M, hO⟩ := onev_form (sgn b r)
   have C1 : Hid (∀ w, Calls Tryz.prog 93 #[.string (tx (b :: r))] w fun e w' => e = .returned (.tuple #[.agg #[.int .i64 K, .string x], .int .i64 M]) ∧ Below w.heap.size w w') := fun w => by
    have := signToken_any b r w
    rw [hO] at this
    exact this
   have HV2 : Hid (V = .tuple #[.agg #[.int .i64 K, .string x], .int .i64 M]) := by
    show _ = _
    rw [HV.out, fstTok, if_neg c12, if_neg c_letter, if_neg c_figure, if_neg c4, if_neg (by simp), hO]
   clear HV hO c1 c2 c12 hq3 hq4 c_letter c_figure n_letter n_figure c4 c5
   generalize tx [b] = X at *
   go_enter Tryz.func54, Tryz.ntmps54
   go_wp2_with fail
   refine (CL.out _).mono ?_
   rintro e w1 ⟨rfl, rfl⟩
   go_wp2_with fail
   refine (CF.out _).mono ?_
   rintro e w2 ⟨rfl, rfl⟩
   go_wp2_with fail
   refine (C1.out _).mono ?_
   rintro e w3 ⟨rfl, b3⟩
   have r3 := (b3.block w.heap.size (size1 _ _)).trans (alloc1_0 _ _)
   have HB3 : Hid (Below w.heap.size w w3) := (below1 _ _).trans (b3.mono (Nat.le_of_lt (size1 _ _)))
   have HR3 : Hid _ := r3
   obtain ⟨c0, c1, f0, f1⟩ := tok_cells r3
   clear b3 r3
   go_wp2
   exact bodyPost_ret (res_tok rfl _ _ w.heap.size _ _ rfl (tok_stored HR3.out _ _)) rfl ⟨by rw [HV2.out]; rfl, tok_below HB3.out (Nat.le_refl _) _ _⟩
 ·have q4 := hq4 c5
  obtain ⟨K, x, M, hO⟩ := onev_form (sgn b r)
  have C1 : Hid (∀ w, Calls Tryz.prog 93 #[.string (tx (b :: r))] w fun e w' => e = .returned (.tuple #[.agg #[.int .i64 K, .string x], .int .i64 M]) ∧ Below w.heap.size w w') := fun w => by
   have := signToken_any b r w
   rw [hO] at this
   exact this
  have HV2 : Hid (V = .tuple #[.agg #[.int .i64 K, .string x], .int .i64 M]) := by
   show _ = _
   rw [HV.out, fstTok, if_neg c12, if_neg c_letter, if_neg c_figure, if_neg c4, if_neg (fun h => c5 h.1), hO]
  clear HV hO c1 c2 c12 hq3 hq4 c_letter c_figure n_letter n_figure c4 c5
  generalize tx [b] = X at *
  go_enter Tryz.func54, Tryz.ntmps54
  go_wp2_with fail
  refine (CL.out _).mono ?_
  rintro e w1 ⟨rfl, rfl⟩
  go_wp2_with fail
  refine (CF.out _).mono ?_
  rintro e w2 ⟨rfl, rfl⟩
  go_wp2_with fail
  refine (C1.out _).mono ?_
  rintro e w3 ⟨rfl, b3⟩
  have r3 := (b3.block w.heap.size (size1 _ _)).trans (alloc1_0 _ _)
  have HB3 : Hid (Below w.heap.size w w3) := (below1 _ _).trans (b3.mono (Nat.le_of_lt (size1 _ _)))
  have HR3 : Hid _ := r3
  obtain ⟨c0, c1, f0, f1⟩ := tok_cells r3
  clear b3 r3
  go_wp2
  exact bodyPost_ret (res_tok rfl _ _ w.heap.size _ _ rfl (tok_stored HR3.out _ _)) rfl ⟨by rw [HV2.out]; rfl, tok_below HB3.out (Nat.le_refl _) _ _⟩
end PartItH
end Go.Proofs.YtkfkbdgfnopokaaGreatDoor
