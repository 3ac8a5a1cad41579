/- When a program is right: a node's kids. When a program is right: a node, a rule. When a program is right: what ProgramOk of the program answers, at every program. -/
import Derived.Test.YtknojhmnadmilaaGreatDoorZau
namespace Go.Proofs.YtknojhmnadmilaaGreatDoor
section PartPkD
open Go.RowKit

theorem ahead_at {i : Nat} {ks : List Int} (h : Pg.ahead i ks = true) {k : Nat} (hk : k < ks.length) : 0 ≤ ks.getD k 0 ∧ ks.getD k 0 < (i : Int) := by
  unfold Pg.ahead at h
  rw [List.all_eq_true] at h
  have := h ks[k] (List.getElem_mem hk)
  simpa [hk] using this
theorem kdrop_at (f : Int → Int) {ks : List Int} {k : Nat} (hk : k < ks.length) : (ks.map f).drop k = f (ks.getD k 0) :: (ks.map f).drop (k + 1) := by
  rw [List.drop_eq_getElem_cons (by simpa using hk)]
  simp [hk]

set_option linter.unusedSimpArgs false in
set_option maxRecDepth 100000 in
set_option maxHeartbeats 4000000 in
theorem nodeKidsOk_any (v kv : Value) (ps : List Pi) (op : Int) (t : ByteArray) (ks : List Int) (i : Nat) (w : World) (h : PcsAt w v ps) (hk : KidsAt w kv ks) (hl : ps.length ≤ 1048576) (hl2 : ks.length ≤ 1048576) (hi : i ≤ ps.length) (hin : Pg.ahead i ks = true) :
    Calls Tryz.prog 47 #[v, .agg #[.int .i64 op, .string t, kv]] w fun e w' => e = .returned (.bool (Pg.counted op (ks.map (Pg.opAt ps)))) ∧ Below w.heap.size w w' := by
  obtain ⟨V, hV⟩ : ∃ V, V = Pg.counted op (ks.map (Pg.opAt ps)) := ⟨_, rfl⟩
  have HV : Hid (∀ C, Pg.cnt op (ks.map (Pg.opAt ps)) 0 0 = C → V = match C with | none => false | some (e, s) => Pg.fits op e s) := by rintro C rfl; exact hV
  rw [← hV]
  clear hV
  obtain ⟨va, vc, rfl, f⟩ := h
  obtain ⟨ka, kc, rfl, g⟩ := hk
  have HF : Hid (0 < ps.length → ∃ b o, va = some ⟨b, o, none⟩ ∧ b < w.heap.size ∧ ∀ i, i < ps.length → PieceAt w b (o + i * 3) (ps.getD i Pi.no)) := f
  have HG : Hid (0 < ks.length → ∃ b o, ka = some ⟨b, o, none⟩ ∧ b < w.heap.size ∧ ∀ i, i < ks.length → w.cell? ⟨b, o + i, none⟩ = some (.int .i64 (ks.getD i 0))) := g
  have HIN : Hid (Pg.ahead i ks = true) := hin
  obtain ⟨n, hn⟩ : ∃ n, n = ps.length := ⟨_, rfl⟩
  obtain ⟨m, hm⟩ : ∃ m, m = ks.length := ⟨_, rfl⟩
  rw [← hn] at HF hl hi ⊢
  rw [← hm] at HG hl2 ⊢
  have HM : Hid (m = ks.length) := hm
  clear f g hin hn hm
  have HB : Hid (Below w.heap.size w (w.alloc (.cells #[.int .i64 op, .string t, .slice ka m kc] 67))) := (Below.refl _ _).alloc (Nat.le_refl _) _
  have q0 := blk_cell (heap_alloc_new w (.cells #[.int .i64 op, .string t, .slice ka m kc] 67)) 0
  simp only [List.getElem?_toArray, List.getElem?_cons_zero] at q0
  go_enter Tryz.func47, Tryz.ntmps47
  go_wp2
  generalize w.alloc (.cells #[.int .i64 op, .string t, .slice ka m kc] 67) = W0 at *
  go_loopw [13, 5, 6] (fun j x y wr => ∃ k e s : Nat, j = .int .i64 (k : Int) ∧ x = .int .i64 (e : Int) ∧ y = .int .i64 (s : Int) ∧ k ≤ m ∧ e ≤ k ∧ s ≤ k ∧ wr = W0 ∧ Hid (Pg.cnt op (ks.map (Pg.opAt ps)) 0 0 = Pg.cnt op ((ks.map (Pg.opAt ps)).drop k) e s)) (fun j _ _ _ => m - (intOf j).toNat)
  case atStart => exact ⟨0, 0, 0, rfl, rfl, rfl, by omega, by omega, by omega, rfl, rfl⟩
  case round =>
    obtain ⟨k, e, s, rfl, rfl, rfl, hkm, hek, hsk, rfl, HC⟩ := hrel
    by_cases hlt : k < m
    · obtain ⟨gb, go, rfl, hgb, hgc⟩ := HG.out (by omega)
      have hz := ahead_at HIN.out (k := k) (by rw [← HM.out]; exact hlt)
      obtain ⟨fb, fo, rfl, hfb, hfc⟩ := HF.out (by omega)
      have c1 := (HB.out.cell hgb).trans (hgc k hlt)
      have HC2 : Hid (Pg.cnt op (ks.map (Pg.opAt ps)) 0 0 = Pg.cnt op (Pg.opAt ps (ks.getD k 0) :: (ks.map (Pg.opAt ps)).drop (k + 1)) e s) := by
        show _ = _
        rw [HC.out, kdrop_at _ (by rw [← HM.out]; exact hlt)]
      generalize ks.getD k 0 = z at *
      obtain ⟨y, rfl⟩ : ∃ y : Nat, z = (y : Int) := ⟨z.toNat, by omega⟩
      obtain ⟨-, p0, -, -, -⟩ := hfc y (by omega)
      have c2 := (HB.out.cell hfb).trans p0
      have eo : (ps.getD y Pi.no).op = Pg.opAt ps (y : Int) := rfl
      rw [eo] at c2
      clear hgc hfc p0 eo HC HG HF
      generalize Pg.opAt ps (y : Int) = o at *
      have i1 : (k : Int) < (m : Int) := by omega
      have i2 : (y : Int) < (n : Int) := by omega
      have CE : Hid (∀ W, Calls Tryz.prog 34 #[.int .i64 o] W fun e w' => e = .returned (.bool (Pg.ex o)) ∧ w' = W) := fun W => isEx_any o W
      obtain ⟨x, hx⟩ : ∃ x, x = Pg.ex o := ⟨_, rfl⟩
      rw [← hx] at CE
      have HX : Hid (Pg.ex o = x) := hx.symm
      cases x
      · by_cases hoo : o = 22 ∧ op = 22
        · have d1 : (o == 22) = true := by simpa using hoo.1
          have d2 : (op == 22) = true := by simpa using hoo.2
          have HR : Hid (V = false) := (HV.out none (HC2.out.trans (by rw [Pg.cnt, HX.out]; simp [Pg.noIf, hoo]))).trans rfl
          clear HV HC2 HX hx hoo
          go_wp2_with (go_at_call 34; refine (CE.out _).mono ?_; rintro e w1 ⟨rfl, hw1⟩; rw [hw1])
          go_ret
          exact ⟨by rw [HR.out]; rfl, HB.out⟩
        · have HN : Hid (Pg.cnt op (ks.map (Pg.opAt ps)) 0 0 = Pg.cnt op ((ks.map (Pg.opAt ps)).drop (k + 1)) e (s + 1)) := HC2.out.trans (by
            rw [Pg.cnt, HX.out]
            have : Pg.noIf op o = true := by simp [Pg.noIf]; omega
            simp [this])
          clear HC2 HX hx
          by_cases ho : o = 22
          · have d1 : (o == 22) = true := by simpa using ho
            have d2 : (op == 22) = false := by simp; intro h; exact hoo ⟨ho, h⟩
            clear hoo ho
            go_wp2_with (go_at_call 34; refine (CE.out _).mono ?_; rintro e w1 ⟨rfl, hw1⟩; rw [hw1])
            go_roundw
            case rel => exact ⟨k + 1, e, s + 1, by go_num, rfl, by go_num, by omega, by omega, by omega, by first | rfl | trivial, HN.out⟩
            case measure => simp [intOf]; omega
          · have d1 : (o == 22) = false := by simpa using ho
            clear hoo ho
            go_wp2_with (go_at_call 34; refine (CE.out _).mono ?_; rintro e w1 ⟨rfl, hw1⟩; rw [hw1])
            go_roundw
            case rel => exact ⟨k + 1, e, s + 1, by go_num, rfl, by go_num, by omega, by omega, by omega, by first | rfl | trivial, HN.out⟩
            case measure => simp [intOf]; omega
      · by_cases hs0 : s = 0
        · subst hs0
          have HN : Hid (Pg.cnt op (ks.map (Pg.opAt ps)) 0 0 = Pg.cnt op ((ks.map (Pg.opAt ps)).drop (k + 1)) (e + 1) 0) := HC2.out.trans (by rw [Pg.cnt, HX.out]; simp)
          have ho : o ≠ 22 := fun h => by rw [h] at hx; exact absurd hx (by decide)
          have d1 : (o == 22) = false := by simpa using ho
          clear HC2 HX hx ho
          go_wp2_with (go_at_call 34; refine (CE.out _).mono ?_; rintro e w1 ⟨rfl, hw1⟩; rw [hw1])
          go_roundw
          case rel => exact ⟨k + 1, e + 1, 0, by go_num, by go_num, rfl, by omega, by omega, by omega, by first | rfl | trivial, HN.out⟩
          case measure => simp [intOf]; omega
        · have d1 : ((s : Int) == 0) = false := by simp; omega
          have HR : Hid (V = false) := (HV.out none (HC2.out.trans (by rw [Pg.cnt, HX.out]; simp [hs0]))).trans rfl
          clear HV HC2 HX hx hs0
          go_wp2_with (go_at_call 34; refine (CE.out _).mono ?_; rintro e w1 ⟨rfl, hw1⟩; rw [hw1])
          go_ret
          exact ⟨by rw [HR.out]; rfl, HB.out⟩
    · obtain rfl : k = m := by omega
      have HR : Hid (V = Pg.fits op e s) := HV.out (some (e, s)) (HC.out.trans (by rw [List.drop_of_length_le (by rw [List.length_map, ← HM.out]; omega), Pg.cnt]))
      clear HV HC HG HF HIN HM
      have i1 : ¬ ((k : Int) < (k : Int)) := by omega
      by_cases c0 : op = 4 ∨ op = 5 ∨ op = 8 ∨ op = 16 ∨ op = 18 ∨ op = 19
      · have HR2 : Hid (V = (decide (e = 1) && decide (s = 0))) := HR.out.trans (by simp only [Pg.fits, if_pos c0])
        rcases c0 with rfl | rfl | rfl | rfl | rfl | rfl
        all_goals
          by_cases g0 : e = 1
          · have dg0 : ((e : Int) == 1) = true := by simp only [beq_iff_eq, decide_eq_true_eq]; omega
            have HQ : Hid (V = ((s : Int) == 0)) := HR2.out.trans (Bool.eq_iff_iff.2 (by simp only [Bool.and_eq_true, decide_eq_true_eq, beq_iff_eq]; omega))
            clear HR2 HR
            go_wp2
            go_ret
            exact ⟨by rw [HQ.out]; rfl, HB.out⟩
          · have dg0 : ((e : Int) == 1) = false := Bool.eq_false_iff.2 (by simp only [ne_eq, beq_iff_eq, decide_eq_true_eq]; omega)
            have HQ : Hid (V = false) := HR2.out.trans (Bool.eq_false_iff.2 (by simp only [ne_eq, Bool.and_eq_true, decide_eq_true_eq]; omega))
            clear HR2 HR
            go_wp2
            go_ret
            exact ⟨by rw [HQ.out]; rfl, HB.out⟩
      by_cases c1 : op = 9 ∨ op = 10 ∨ op = 11 ∨ op = 12 ∨ op = 13 ∨ op = 14 ∨ op = 15 ∨ op = 20 ∨ op = 21
      · have HR2 : Hid (V = (decide (e = 2) && decide (s = 0))) := HR.out.trans (by simp only [Pg.fits, if_neg c0, if_pos c1])
        clear c0
        rcases c1 with rfl | rfl | rfl | rfl | rfl | rfl | rfl | rfl | rfl
        all_goals
          by_cases g0 : e = 2
          · have dg0 : ((e : Int) == 2) = true := by simp only [beq_iff_eq, decide_eq_true_eq]; omega
            have HQ : Hid (V = ((s : Int) == 0)) := HR2.out.trans (Bool.eq_iff_iff.2 (by simp only [Bool.and_eq_true, decide_eq_true_eq, beq_iff_eq]; omega))
            clear HR2 HR
            go_wp2
            go_ret
            exact ⟨by rw [HQ.out]; rfl, HB.out⟩
          · have dg0 : ((e : Int) == 2) = false := Bool.eq_false_iff.2 (by simp only [ne_eq, beq_iff_eq, decide_eq_true_eq]; omega)
            have HQ : Hid (V = false) := HR2.out.trans (Bool.eq_false_iff.2 (by simp only [ne_eq, Bool.and_eq_true, decide_eq_true_eq]; omega))
            clear HR2 HR
            go_wp2
            go_ret
            exact ⟨by rw [HQ.out]; rfl, HB.out⟩
      by_cases c2 : op = 17
      · have HR2 : Hid (V = (decide (1 ≤ e) && (decide (e ≤ 4) && decide (s = 0)))) := HR.out.trans (by simp only [Pg.fits, if_neg c0, if_neg c1, if_pos c2])
        clear c0 c1
        subst c2
        by_cases g0 : 1 ≤ e
        · have dg0 : decide ((1 : Int) ≤ (e : Int)) = true := by simp only [beq_iff_eq, decide_eq_true_eq]; omega
          by_cases g1 : e ≤ 4
          · have dg1 : decide ((e : Int) ≤ 4) = true := by simp only [beq_iff_eq, decide_eq_true_eq]; omega
            have HQ : Hid (V = ((s : Int) == 0)) := HR2.out.trans (Bool.eq_iff_iff.2 (by simp only [Bool.and_eq_true, decide_eq_true_eq, beq_iff_eq]; omega))
            clear HR2 HR
            go_wp2
            go_ret
            exact ⟨by rw [HQ.out]; rfl, HB.out⟩
          · have dg1 : decide ((e : Int) ≤ 4) = false := Bool.eq_false_iff.2 (by simp only [ne_eq, beq_iff_eq, decide_eq_true_eq]; omega)
            have HQ : Hid (V = false) := HR2.out.trans (Bool.eq_false_iff.2 (by simp only [ne_eq, Bool.and_eq_true, decide_eq_true_eq]; omega))
            clear HR2 HR
            go_wp2
            go_ret
            exact ⟨by rw [HQ.out]; rfl, HB.out⟩
        · have dg0 : decide ((1 : Int) ≤ (e : Int)) = false := Bool.eq_false_iff.2 (by simp only [ne_eq, beq_iff_eq, decide_eq_true_eq]; omega)
          have HQ : Hid (V = false) := HR2.out.trans (Bool.eq_false_iff.2 (by simp only [ne_eq, Bool.and_eq_true, decide_eq_true_eq]; omega))
          clear HR2 HR
          go_wp2
          go_ret
          exact ⟨by rw [HQ.out]; rfl, HB.out⟩
      by_cases c3 : op = 22
      · have HR2 : Hid (V = (decide (e = 1) && (decide (1 ≤ s) && decide (s ≤ 2)))) := HR.out.trans (by simp only [Pg.fits, if_neg c0, if_neg c1, if_neg c2, if_pos c3])
        clear c0 c1 c2
        subst c3
        by_cases g0 : e = 1
        · have dg0 : ((e : Int) == 1) = true := by simp only [beq_iff_eq, decide_eq_true_eq]; omega
          by_cases g1 : 1 ≤ s
          · have dg1 : decide ((1 : Int) ≤ (s : Int)) = true := by simp only [beq_iff_eq, decide_eq_true_eq]; omega
            have HQ : Hid (V = decide ((s : Int) ≤ 2)) := HR2.out.trans (Bool.eq_iff_iff.2 (by simp only [Bool.and_eq_true, decide_eq_true_eq, beq_iff_eq]; omega))
            clear HR2 HR
            go_wp2
            go_ret
            exact ⟨by rw [HQ.out]; rfl, HB.out⟩
          · have dg1 : decide ((1 : Int) ≤ (s : Int)) = false := Bool.eq_false_iff.2 (by simp only [ne_eq, beq_iff_eq, decide_eq_true_eq]; omega)
            have HQ : Hid (V = false) := HR2.out.trans (Bool.eq_false_iff.2 (by simp only [ne_eq, Bool.and_eq_true, decide_eq_true_eq]; omega))
            clear HR2 HR
            go_wp2
            go_ret
            exact ⟨by rw [HQ.out]; rfl, HB.out⟩
        · have dg0 : ((e : Int) == 1) = false := Bool.eq_false_iff.2 (by simp only [ne_eq, beq_iff_eq, decide_eq_true_eq]; omega)
          have HQ : Hid (V = false) := HR2.out.trans (Bool.eq_false_iff.2 (by simp only [ne_eq, Bool.and_eq_true, decide_eq_true_eq]; omega))
          clear HR2 HR
          go_wp2
          go_ret
          exact ⟨by rw [HQ.out]; rfl, HB.out⟩
      by_cases c4 : op = 24
      · have HR2 : Hid (V = (decide (e = 0) && decide (s ≤ 20))) := HR.out.trans (by simp only [Pg.fits, if_neg c0, if_neg c1, if_neg c2, if_neg c3, if_pos c4])
        clear c0 c1 c2 c3
        subst c4
        by_cases g0 : e = 0
        · have dg0 : ((e : Int) == 0) = true := by simp only [beq_iff_eq, decide_eq_true_eq]; omega
          have HQ : Hid (V = decide ((s : Int) ≤ 20)) := HR2.out.trans (Bool.eq_iff_iff.2 (by simp only [Bool.and_eq_true, decide_eq_true_eq, beq_iff_eq]; omega))
          clear HR2 HR
          go_wp2
          go_ret
          exact ⟨by rw [HQ.out]; rfl, HB.out⟩
        · have dg0 : ((e : Int) == 0) = false := Bool.eq_false_iff.2 (by simp only [ne_eq, beq_iff_eq, decide_eq_true_eq]; omega)
          have HQ : Hid (V = false) := HR2.out.trans (Bool.eq_false_iff.2 (by simp only [ne_eq, Bool.and_eq_true, decide_eq_true_eq]; omega))
          clear HR2 HR
          go_wp2
          go_ret
          exact ⟨by rw [HQ.out]; rfl, HB.out⟩
      have HR2 : Hid (V = (decide (e = 0) && decide (s = 0))) := HR.out.trans (by simp only [Pg.fits, if_neg c0, if_neg c1, if_neg c2, if_neg c3, if_neg c4])
      have e4 : (op == 4) = false := beq_eq_false_iff_ne.2 (by omega)
      have e5 : (op == 5) = false := beq_eq_false_iff_ne.2 (by omega)
      have e8 : (op == 8) = false := beq_eq_false_iff_ne.2 (by omega)
      have e9 : (op == 9) = false := beq_eq_false_iff_ne.2 (by omega)
      have e10 : (op == 10) = false := beq_eq_false_iff_ne.2 (by omega)
      have e11 : (op == 11) = false := beq_eq_false_iff_ne.2 (by omega)
      have e12 : (op == 12) = false := beq_eq_false_iff_ne.2 (by omega)
      have e13 : (op == 13) = false := beq_eq_false_iff_ne.2 (by omega)
      have e14 : (op == 14) = false := beq_eq_false_iff_ne.2 (by omega)
      have e15 : (op == 15) = false := beq_eq_false_iff_ne.2 (by omega)
      have e16 : (op == 16) = false := beq_eq_false_iff_ne.2 (by omega)
      have e17 : (op == 17) = false := beq_eq_false_iff_ne.2 (by omega)
      have e18 : (op == 18) = false := beq_eq_false_iff_ne.2 (by omega)
      have e19 : (op == 19) = false := beq_eq_false_iff_ne.2 (by omega)
      have e20 : (op == 20) = false := beq_eq_false_iff_ne.2 (by omega)
      have e21 : (op == 21) = false := beq_eq_false_iff_ne.2 (by omega)
      have e22 : (op == 22) = false := beq_eq_false_iff_ne.2 (by omega)
      have e24 : (op == 24) = false := beq_eq_false_iff_ne.2 (by omega)
      clear c0 c1 c2 c3 c4
      by_cases g0 : e = 0
      · have dg0 : ((e : Int) == 0) = true := by simp only [beq_iff_eq, decide_eq_true_eq]; omega
        have HQ : Hid (V = ((s : Int) == 0)) := HR2.out.trans (Bool.eq_iff_iff.2 (by simp only [Bool.and_eq_true, decide_eq_true_eq, beq_iff_eq]; omega))
        clear HR2 HR
        go_wp2
        go_ret
        exact ⟨by rw [HQ.out]; rfl, HB.out⟩
      · have dg0 : ((e : Int) == 0) = false := Bool.eq_false_iff.2 (by simp only [ne_eq, beq_iff_eq, decide_eq_true_eq]; omega)
        have HQ : Hid (V = false) := HR2.out.trans (Bool.eq_false_iff.2 (by simp only [ne_eq, Bool.and_eq_true, decide_eq_true_eq]; omega))
        clear HR2 HR
        go_wp2
        go_ret
        exact ⟨by rw [HQ.out]; rfl, HB.out⟩
end PartPkD
section PartPkE
open Go.RowKit

theorem ahead_no {i : Nat} {ks : List Int} {k : Nat} (hk : k < ks.length) (h : ¬ (0 ≤ ks.getD k 0 ∧ ks.getD k 0 < (i : Int))) : Pg.ahead i ks = false := by
  unfold Pg.ahead
  rw [List.all_eq_false]
  refine ⟨ks[k], List.getElem_mem _, ?_⟩
  simp [hk] at h ⊢
  exact h
theorem ahead_yes {i : Nat} {ks : List Int} (h : ∀ k, k < ks.length → 0 ≤ ks.getD k 0 ∧ ks.getD k 0 < (i : Int)) : Pg.ahead i ks = true := by
  unfold Pg.ahead
  rw [List.all_eq_true]
  intro x hx
  obtain ⟨k, hk, rfl⟩ := List.getElem_of_mem hx
  have := h k hk
  simp [hk] at this
  simpa using this

set_option maxRecDepth 100000 in
set_option maxHeartbeats 4000000 in
theorem nodeOk_any (v : Value) (ps : List Pi) (i : Nat) (w : World) (h : PcsAt w v ps) (hi : i < ps.length) (hl : ps.length ≤ 1048576) (hsm : Small ps ps.length) :
    Calls Tryz.prog 31 #[v, .int .i64 (i : Int)] w fun e w' => e = .returned (.bool (Pg.node ps i)) ∧ Below w.heap.size w w' := by
  obtain ⟨V, hV⟩ : ∃ V, V = Pg.node ps i := ⟨_, rfl⟩
  rw [← hV]
  have hkl := hsm i hi
  obtain ⟨p, hp⟩ : ∃ p, p = ps.getD i Pi.no := ⟨_, rfl⟩
  rw [← hp] at hkl
  obtain ⟨op, t, ks⟩ := p
  simp only at hkl
  have HV : Hid (V = (Pg.ahead i ks && (decide (1 ≤ op ∧ op ≤ 25) && (Pg.text op t.data.toList && Pg.counted op (ks.map (Pg.opAt ps)))))) := by rw [hV]; exact Pg.node_is ps i op t ks hp.symm
  have HP : Hid (∀ W, Below w.heap.size w W → PcsAt W v ps) := fun W hb => h.keep hb
  obtain ⟨va, vc, rfl, f⟩ := h
  obtain ⟨b, o, rfl, hb, hc⟩ := f (by omega)
  have hpc := hc i hi
  rw [← hp] at hpc
  obtain ⟨kv, c0, c1, c2, hkv⟩ := hpc
  simp only at c0 c1 hkv
  have HK : Hid (∀ W, Below w.heap.size w W → KidsAt W kv ks) := fun W hb => hkv.keep hb
  obtain ⟨ka, kc, rfl, g⟩ := hkv
  have HG : Hid (0 < ks.length → ∃ b o, ka = some ⟨b, o, none⟩ ∧ b < w.heap.size ∧ ∀ i, i < ks.length → w.cell? ⟨b, o + i, none⟩ = some (.int .i64 (ks.getD i 0))) := g
  clear hV hp f hc g hsm
  obtain ⟨T, hT⟩ : ∃ T, T = Pg.text op t.data.toList := ⟨_, rfl⟩
  obtain ⟨C, hC⟩ : ∃ C, C = Pg.counted op (ks.map (Pg.opAt ps)) := ⟨_, rfl⟩
  rw [← hT, ← hC] at HV
  have CT : Hid (∀ W, Calls Tryz.prog 46 #[.agg #[.int .i64 op, .string t, .slice ka ks.length kc]] W fun e w' => e = .returned (.bool T) ∧ Below W.heap.size W w') := fun W => by rw [hT]; exact nodeTextOk_any op t ka ks.length kc W hkl.2
  have CC : Hid (Pg.ahead i ks = true → ∀ W, Below w.heap.size w W → Calls Tryz.prog 47 #[.slice (some ⟨b, o, none⟩) ps.length vc, .agg #[.int .i64 op, .string t, .slice ka ks.length kc]] W fun e w' => e = .returned (.bool C) ∧ Below W.heap.size W w') := fun ha W hb => by rw [hC]; exact nodeKidsOk_any _ _ ps op t ks i W (HP.out W hb) (HK.out W hb) hl hkl.1 (by omega) ha
  clear hT hC HP HK
  obtain ⟨n, hn⟩ : ∃ n, n = ps.length := ⟨_, rfl⟩
  obtain ⟨m, hm⟩ : ∃ m, m = ks.length := ⟨_, rfl⟩
  rw [← hn] at hl hi CC ⊢
  rw [← hm] at HG CT CC hkl c2
  have HM : Hid (m = ks.length) := hm
  clear hn hm
  have i0 : (i : Int) < (n : Int) := by omega
  have HB : Hid (Below w.heap.size w (w.alloc (.cells #[.int .i64 op, .string t, .slice ka m kc] 67))) := (Below.refl _ _).alloc (Nat.le_refl _) _
  have q0 := heap_alloc_new w (.cells #[.int .i64 op, .string t, .slice ka m kc] 67)
  have r0 := blk_cell q0 0
  have r1 := blk_cell q0 1
  have r2 := blk_cell q0 2
  simp only [List.getElem?_toArray, List.getElem?_cons_zero, List.getElem?_cons_succ] at r0 r1 r2
  have hz : w.heap.size < (w.alloc (.cells #[.int .i64 op, .string t, .slice ka m kc] 67)).heap.size := by simp
  go_enter Tryz.func31, Tryz.ntmps31
  go_wp2
  generalize w.alloc (.cells #[.int .i64 op, .string t, .slice ka m kc] 67) = W0 at *
  go_loopw [15] (fun j wr => ∃ k : Nat, j = .int .i64 (k : Int) ∧ k ≤ m ∧ wr = W0 ∧ Hid (∀ q, q < k → 0 ≤ ks.getD q 0 ∧ ks.getD q 0 < (i : Int))) (fun j _ => m - (intOf j).toNat)
  case atStart => exact ⟨0, rfl, by omega, rfl, fun q hq => by omega⟩
  case round =>
    obtain ⟨k, rfl, hkm, rfl, HQ⟩ := hrel
    by_cases hlt : k < m
    · obtain ⟨gb, go, rfl, hgb, hgc⟩ := HG.out (by omega)
      have c5 := (HB.out.cell hgb).trans (hgc k hlt)
      obtain ⟨z, hz2⟩ : ∃ z, z = ks.getD k 0 := ⟨_, rfl⟩
      rw [← hz2] at c5
      have HZ : Hid (z = ks.getD k 0) := hz2
      clear hz2 hgc
      have i1 : (k : Int) < (m : Int) := by omega
      by_cases hz0 : z < 0
      · have d0 : decide (z < 0) = true := decide_eq_true hz0
        have HR : Hid (V = false) := HV.out.trans (by rw [ahead_no (k := k) (by rw [← HM.out]; exact hlt) (by rw [← HZ.out]; omega)]; rfl)
        clear HV CC CT HQ HZ hz0
        go_wp2
        go_ret
        exact ⟨by rw [HR.out]; rfl, HB.out⟩
      have d0 : decide (z < 0) = false := decide_eq_false hz0
      by_cases hzi : (i : Int) ≤ z
      · have d1 : decide ((i : Int) ≤ z) = true := decide_eq_true hzi
        have HR : Hid (V = false) := HV.out.trans (by rw [ahead_no (k := k) (by rw [← HM.out]; exact hlt) (by rw [← HZ.out]; omega)]; rfl)
        clear HV CC CT HQ HZ hz0 hzi
        go_wp2
        go_ret
        exact ⟨by rw [HR.out]; rfl, HB.out⟩
      have d1 : decide ((i : Int) ≤ z) = false := decide_eq_false hzi
      have HN : Hid (∀ q, q < k + 1 → 0 ≤ ks.getD q 0 ∧ ks.getD q 0 < (i : Int)) := fun q hq => by
        by_cases e : q = k
        · subst e; rw [← HZ.out]; omega
        · exact HQ.out q (by omega)
      clear HQ HZ hz0 hzi
      go_wp2
      go_roundw
      case rel => exact ⟨k + 1, by go_num, by omega, by first | rfl | trivial, HN.out⟩
      case measure => simp [intOf]; omega
    · obtain rfl : k = m := by omega
      have ha : Pg.ahead i ks = true := ahead_yes fun q hq => HQ.out q (by rw [HM.out]; exact hq)
      have HV2 : Hid (V = (decide (1 ≤ op ∧ op ≤ 25) && (T && C))) := HV.out.trans (by rw [ha]; rfl)
      have CK : Hid (∀ W, Below w.heap.size w W → Calls Tryz.prog 47 #[.slice (some ⟨b, o, none⟩) n vc, .agg #[.int .i64 op, .string t, .slice ka k kc]] W fun e w' => e = .returned (.bool C) ∧ Below W.heap.size W w') := CC.out ha
      clear HV CC HQ HG ha
      have i1 : ¬ ((k : Int) < (k : Int)) := by omega
      by_cases h1 : op < 1
      · have d1 : decide ((1 : Int) ≤ op) = false := decide_eq_false (by omega)
        have HR : Hid (V = false) := HV2.out.trans (by rw [decide_eq_false (by omega)]; rfl)
        clear HV2 CK CT h1
        go_wp2
        go_ret
        exact ⟨by rw [HR.out]; rfl, HB.out⟩
      have d1 : decide ((1 : Int) ≤ op) = true := decide_eq_true (by omega)
      by_cases h25 : 25 < op
      · have d2 : decide (op ≤ (25 : Int)) = false := decide_eq_false (by omega)
        have HR : Hid (V = false) := HV2.out.trans (by rw [decide_eq_false (by omega)]; rfl)
        clear HV2 CK CT h1 h25
        go_wp2
        go_ret
        exact ⟨by rw [HR.out]; rfl, HB.out⟩
      have d2 : decide (op ≤ (25 : Int)) = true := decide_eq_true (by omega)
      have HV3 : Hid (V = (T && C)) := HV2.out.trans (by rw [decide_eq_true (by omega)]; rfl)
      clear HV2 h1 h25
      go_wp2_with fail
      refine (CT.out _).mono ?_
      rintro e w2 ⟨rfl, hb2⟩
      have s0 := (hb2.cell (p := ⟨w.heap.size, 0, none⟩) (by exact hz)).trans r0
      have s1 := (hb2.cell (p := ⟨w.heap.size, 1, none⟩) (by exact hz)).trans r1
      have s2 := (hb2.cell (p := ⟨w.heap.size, 2, none⟩) (by exact hz)).trans r2
      have HB2 : Hid (Below w.heap.size w w2) := HB.out.trans (hb2.mono HB.out.size)
      clear hb2 CT q0 r0 r1 r2
      cases T
      · have HR : Hid (V = false) := HV3.out.trans rfl
        clear HV3 CK
        go_wp2
        go_ret
        exact ⟨by rw [HR.out]; rfl, HB2.out⟩
      · have HR : Hid (V = C) := HV3.out.trans rfl
        clear HV3
        go_wp2_with fail
        refine (CK.out _ HB2.out).mono ?_
        rintro e w3 ⟨rfl, hb3⟩
        go_wp2
        go_ret
        exact ⟨by rw [HR.out]; rfl, HB2.out.trans (hb3.mono HB2.out.size)⟩

theorem eq24 (Y : Int) : decide (Y = 24) = (Y == 24) := by rw [Bool.eq_iff_iff]; simp
theorem rule_is (ps : List Pi) (r : Pg.Rl) : Pg.rule ps r = (decide (1 ≤ r.when ∧ r.when ≤ 3) && ((decide (r.cond = -1) || (decide (r.when = 2) && Pg.ex (if 0 ≤ r.cond ∧ r.cond < (ps.length : Int) then Pg.opAt ps r.cond else 0))) && decide ((if 0 ≤ r.act ∧ r.act < (ps.length : Int) then Pg.opAt ps r.act else 0) = 24))) := by
  unfold Pg.rule
  have e1 : (decide (0 ≤ r.act ∧ r.act ≤ (ps.length : Int) - 1) && decide ((ps.getD r.act.toNat Pi.no).op = 24)) = decide ((if 0 ≤ r.act ∧ r.act < (ps.length : Int) then Pg.opAt ps r.act else 0) = 24) := by
    by_cases h : 0 ≤ r.act ∧ r.act < (ps.length : Int)
    · rw [if_pos h, decide_eq_true (by omega), Bool.true_and]; rfl
    · rw [if_neg h, decide_eq_false (by omega), Bool.false_and]; rfl
  have e2 : (decide (0 ≤ r.cond ∧ r.cond ≤ (ps.length : Int) - 1) && Pg.ex (ps.getD r.cond.toNat Pi.no).op) = Pg.ex (if 0 ≤ r.cond ∧ r.cond < (ps.length : Int) then Pg.opAt ps r.cond else 0) := by
    by_cases h : 0 ≤ r.cond ∧ r.cond < (ps.length : Int)
    · rw [if_pos h, decide_eq_true (by omega), Bool.true_and]; rfl
    · rw [if_neg h, decide_eq_false (by omega), Bool.false_and]; rfl
  rw [← e1, ← e2]
  cases decide (1 ≤ r.when ∧ r.when ≤ 3) <;> cases decide (r.cond = -1) <;> cases decide (r.when = 2) <;> cases decide (0 ≤ r.act ∧ r.act ≤ (ps.length : Int) - 1) <;> cases decide ((ps.getD r.act.toNat Pi.no).op = 24) <;> simp

set_option maxRecDepth 100000 in
set_option maxHeartbeats 4000000 in
theorem ruleOk_any (v : Value) (ps : List Pi) (r : Pg.Rl) (w : World) (h : PcsAt w v ps) (hl : ps.length ≤ 1048576) :
    Calls Tryz.prog 32 #[v, .agg #[.int .i64 r.when, .int .i64 r.cond, .int .i64 r.act]] w fun e w' => e = .returned (.bool (Pg.rule ps r)) ∧ Below w.heap.size w w' := by
  obtain ⟨V, hV⟩ : ∃ V, V = Pg.rule ps r := ⟨_, rfl⟩
  rw [← hV]
  have HV : Hid (V = _) := hV.trans (rule_is ps r)
  clear hV
  obtain ⟨a, c, d⟩ := r
  simp only at HV ⊢
  have HO : Hid (∀ z W, Below w.heap.size w W → Calls Tryz.prog 48 #[v, .int .i64 z] W fun e w' => e = .returned (.int .i64 (if 0 ≤ z ∧ z < (ps.length : Int) then Pg.opAt ps z else 0)) ∧ Below W.heap.size W w') := fun z W hb => opAt_any v ps z W (h.keep hb) hl
  have CX : Hid (∀ W, Below w.heap.size w W → Calls Tryz.prog 48 #[v, .int .i64 c] W fun e w' => e = .returned (.int .i64 (if 0 ≤ c ∧ c < (ps.length : Int) then Pg.opAt ps c else 0)) ∧ Below W.heap.size W w') := HO.out c
  have CY : Hid (∀ W, Below w.heap.size w W → Calls Tryz.prog 48 #[v, .int .i64 d] W fun e w' => e = .returned (.int .i64 (if 0 ≤ d ∧ d < (ps.length : Int) then Pg.opAt ps d else 0)) ∧ Below W.heap.size W w') := HO.out d
  clear HO
  generalize (if 0 ≤ c ∧ c < (ps.length : Int) then Pg.opAt ps c else 0) = X at *
  generalize (if 0 ≤ d ∧ d < (ps.length : Int) then Pg.opAt ps d else 0) = Y at *
  obtain ⟨va, vc, rfl, -⟩ := h
  generalize ps.length = n at *
  have CE : Hid (∀ W, Calls Tryz.prog 34 #[.int .i64 X] W fun e w' => e = .returned (.bool (Pg.ex X)) ∧ w' = W) := fun W => isEx_any X W
  generalize Pg.ex X = B at *
  have HB : Hid (Below w.heap.size w (w.alloc (.cells #[.int .i64 a, .int .i64 c, .int .i64 d] 41))) := (Below.refl _ _).alloc (Nat.le_refl _) _
  have q0 := heap_alloc_new w (.cells #[.int .i64 a, .int .i64 c, .int .i64 d] 41)
  have r2 := blk_cell q0 2
  simp only [List.getElem?_toArray, List.getElem?_cons_zero, List.getElem?_cons_succ] at r2
  have hz : w.heap.size < (w.alloc (.cells #[.int .i64 a, .int .i64 c, .int .i64 d] 41)).heap.size := by simp
  clear q0
  by_cases h1 : a < 1
  · have d1 : decide (a < 1) = true := decide_eq_true h1
    have HR : Hid (V = false) := HV.out.trans (by rw [decide_eq_false (by omega)]; rfl)
    clear HV CX CY CE r2 hz h1
    go_enter Tryz.func32, Tryz.ntmps32
    go_wp2
    go_ret
    exact ⟨by rw [HR.out]; rfl, HB.out⟩
  have d1 : decide (a < 1) = false := decide_eq_false h1
  by_cases h3 : 3 < a
  · have d2 : decide ((3 : Int) < a) = true := decide_eq_true h3
    have HR : Hid (V = false) := HV.out.trans (by rw [decide_eq_false (by omega)]; rfl)
    clear HV CX CY CE r2 hz h1 h3
    go_enter Tryz.func32, Tryz.ntmps32
    go_wp2
    go_ret
    exact ⟨by rw [HR.out]; rfl, HB.out⟩
  have d2 : decide ((3 : Int) < a) = false := decide_eq_false h3
  have HV2 : Hid (V = ((decide (c = -1) || (decide (a = 2) && B)) && decide (Y = 24))) := HV.out.trans (by rw [decide_eq_true (by omega)]; rfl)
  clear HV h1 h3
  by_cases hc : c = -1
  · have d3 : (c != -1) = false := by simpa using hc
    have HR : Hid (V = (Y == 24)) := HV2.out.trans (by rw [decide_eq_true hc, Bool.true_or, Bool.true_and]; exact eq24 Y)
    clear HV2 CX CE hc
    go_enter Tryz.func32, Tryz.ntmps32
    go_wp2_with fail
    refine (CY.out _ HB.out).mono ?_
    rintro e w2 ⟨rfl, hb2⟩
    go_wp2
    go_ret
    exact ⟨by rw [HR.out]; rfl, HB.out.trans (hb2.mono HB.out.size)⟩
  have d3 : (c != -1) = true := by simpa using hc
  by_cases ha : a = 2
  · have d4 : (a != 2) = false := by simpa using ha
    have HV3 : Hid (V = (B && decide (Y = 24))) := HV2.out.trans (by rw [decide_eq_false hc, decide_eq_true ha]; simp)
    clear HV2 hc ha
    go_enter Tryz.func32, Tryz.ntmps32
    go_wp2_with fail
    refine (CX.out _ HB.out).mono ?_
    rintro e w2 ⟨rfl, hb2⟩
    have s2 := (hb2.cell (p := ⟨w.heap.size, 2, none⟩) (by exact hz)).trans r2
    have HB2 : Hid (Below w.heap.size w w2) := HB.out.trans (hb2.mono HB.out.size)
    clear hb2 CX r2
    go_wp2_with fail
    refine (CE.out _).mono ?_
    rintro e w3 ⟨rfl, hw3⟩
    rw [hw3]
    clear hw3 CE
    cases B
    · have HR : Hid (V = false) := HV3.out.trans rfl
      clear HV3 CY
      go_wp2
      go_ret
      exact ⟨by rw [HR.out]; rfl, HB2.out⟩
    · have HR : Hid (V = (Y == 24)) := HV3.out.trans (eq24 Y)
      clear HV3
      go_wp2_with fail
      refine (CY.out _ HB2.out).mono ?_
      rintro e w4 ⟨rfl, hb4⟩
      go_wp2
      go_ret
      exact ⟨by rw [HR.out]; rfl, HB2.out.trans (hb4.mono HB2.out.size)⟩
  · have d4 : (a != 2) = true := by simpa using ha
    have HR : Hid (V = false) := HV2.out.trans (by rw [decide_eq_false hc, decide_eq_false ha]; rfl)
    clear HV2 CX CY CE hc ha
    go_enter Tryz.func32, Tryz.ntmps32
    go_wp2
    go_ret
    exact ⟨by rw [HR.out]; rfl, HB.out⟩
end PartPkE
section PartPkF
open Go.RowKit

set_option maxRecDepth 100000 in
set_option maxHeartbeats 4000000 in
theorem implProgOk (v rv : Value) (ps : List Pi) (rs : List Pg.Rl) (w : World) (h : PcsAt w v ps) (hr : RlsAt w rv rs) (hl : ps.length ≤ 1048576) (hl2 : rs.length ≤ 1048576) (hsm : Small ps ps.length) :
    Calls Tryz.prog 17 #[.agg #[v, rv]] w fun e w' => e = .returned (.bool (Pg.ok ps rs)) ∧ Below w.heap.size w w' := by
  have HC : Hid (∀ i W, i < ps.length → Below w.heap.size w W → Calls Tryz.prog 31 #[v, .int .i64 (i : Int)] W fun e w' => e = .returned (.bool (Pg.node ps i)) ∧ Below W.heap.size W w') := fun i W hi hb => nodeOk_any v ps i W (h.keep hb) hi hl hsm
  have HU : Hid (∀ r W, Below w.heap.size w W → Calls Tryz.prog 32 #[v, .agg #[.int .i64 r.when, .int .i64 r.cond, .int .i64 r.act]] W fun e w' => e = .returned (.bool (Pg.rule ps r)) ∧ Below W.heap.size W w') := fun r W hb => ruleOk_any v ps r W (h.keep hb) hl
  obtain ⟨va, vc, rfl, -⟩ := h
  obtain ⟨ra, rc, rfl, fr⟩ := hr
  obtain ⟨n, hn⟩ : ∃ n, n = ps.length := ⟨_, rfl⟩
  obtain ⟨k, hk⟩ : ∃ k, k = rs.length := ⟨_, rfl⟩
  obtain ⟨V, hV⟩ : ∃ V, V = Pg.ok ps rs := ⟨_, rfl⟩
  rw [← hV]
  have HV : Hid (V = (decide (n ≤ 200) && decide (k ≤ 12) && (List.range n).all (Pg.node ps) && rs.all (Pg.rule ps))) := by rw [hV, hn, hk]; rfl
  have HF : Hid (0 < rs.length → ∃ b o, ra = some ⟨b, o, none⟩ ∧ b < w.heap.size ∧ ∀ i, i < rs.length → w.cell? ⟨b, o + i * 3, none⟩ = some (.int .i64 (rs.getD i Pg.Rl.no).when) ∧ w.cell? ⟨b, o + i * 3 + 1, none⟩ = some (.int .i64 (rs.getD i Pg.Rl.no).cond) ∧ w.cell? ⟨b, o + i * 3 + 2, none⟩ = some (.int .i64 (rs.getD i Pg.Rl.no).act)) := fr
  rw [← hn] at HC HU hl ⊢
  rw [← hk] at HF hl2 ⊢
  have HK : Hid (k = rs.length) := hk
  clear hV hn hk hsm fr
  have HB : Hid (Below w.heap.size w (w.alloc (.cells #[.slice va n vc, .slice ra k rc] 32))) := (Below.refl _ _).alloc (Nat.le_refl _) _
  have q0 := heap_alloc_new w (.cells #[.slice va n vc, .slice ra k rc] 32)
  have hsz : w.heap.size < (w.alloc (.cells #[.slice va n vc, .slice ra k rc] 32)).heap.size := by simp
  by_cases h1 : 200 < n
  · have d1 : decide ((200 : Int) < (n : Int)) = true := decide_eq_true (by omega)
    have HR : Hid (V = false) := by show _ = _; rw [HV.out, decide_eq_false (by omega : ¬ n ≤ 200)]; rfl
    clear HV HC HU HF q0 h1
    go_enter Tryz.func17, Tryz.ntmps17
    go_wp2
    go_ret
    exact ⟨by rw [HR.out]; rfl, HB.out⟩
  have d1 : decide ((200 : Int) < (n : Int)) = false := decide_eq_false (by omega)
  by_cases h2 : 12 < k
  · have d2 : decide ((12 : Int) < (k : Int)) = true := decide_eq_true (by omega)
    have HR : Hid (V = false) := by show _ = _; rw [HV.out, decide_eq_false (by omega : ¬ k ≤ 12)]; simp
    clear HV HC HU HF q0 h1 h2
    go_enter Tryz.func17, Tryz.ntmps17
    go_wp2
    go_ret
    exact ⟨by rw [HR.out]; rfl, HB.out⟩
  have d2 : decide ((12 : Int) < (k : Int)) = false := decide_eq_false (by omega)
  have HV2 : Hid (V = ((List.range n).all (Pg.node ps) && rs.all (Pg.rule ps))) := by show _ = _; rw [HV.out, decide_eq_true (by omega : n ≤ 200), decide_eq_true (by omega : k ≤ 12)]; rfl
  clear HV h1 h2
  go_enter Tryz.func17, Tryz.ntmps17
  go_wp2
  generalize w.alloc (.cells #[.slice va n vc, .slice ra k rc] 32) = W0 at *
  have HQ : Hid (∀ wr, Below W0.heap.size W0 wr → wr.cell? ⟨w.heap.size, 0, none⟩ = some (.slice va n vc) ∧ wr.cell? ⟨w.heap.size, 1, none⟩ = some (.slice ra k rc)) := by
    intro wr hb
    have s0 := (hb.block _ hsz).trans q0
    have z0 := blk_cell s0 0
    have z1 := blk_cell s0 1
    simp only [List.getElem?_toArray, List.getElem?_cons_zero, List.getElem?_cons_succ] at z0 z1
    exact ⟨z0, z1⟩
  have HW : Hid (∀ W, Below W0.heap.size W0 W → Below w.heap.size w W) := fun W hb => HB.out.trans (hb.mono HB.out.size)
  clear q0 d1 d2 hsz
  go_loopw [19] (fun j wr => ∃ q : Nat, j = .int .i64 (q : Int) ∧ q ≤ n ∧ Hid (Below W0.heap.size W0 wr) ∧ Hid (∀ r, r < q → Pg.node ps r = true)) (fun j _ => n - (intOf j).toNat)
  case atStart => exact ⟨0, rfl, by omega, Below.refl _ _, fun q hq => by omega⟩
  case round =>
    obtain ⟨q, rfl, hq, HWQ, HJ⟩ := hrel
    obtain ⟨z0, z1⟩ := HQ.out _ HWQ.out
    by_cases hlt : q < n
    · have i1 : (q : Int) < (n : Int) := by omega
      have C := HC.out q wr hlt (HW.out _ HWQ.out)
      obtain ⟨B, hB⟩ : ∃ B, B = Pg.node ps q := ⟨_, rfl⟩
      rw [← hB] at C
      have C2 : Hid (Calls Tryz.prog 31 #[.slice va n vc, .int .i64 (q : Int)] wr fun e w' => e = .returned (.bool B) ∧ Below wr.heap.size wr w') := C
      have HBB : Hid (B = Pg.node ps q) := hB
      clear C hB
      cases B
      · have HR : Hid (V = false) := HV2.out.trans (by rw [List.all_eq_false.2 ⟨q, List.mem_range.2 hlt, by rw [← HBB.out]; decide⟩]; rfl)
        clear HV2 HBB HJ HC HU HF
        go_wp2_with fail
        refine C2.out.mono ?_
        rintro e w2 ⟨rfl, hb2⟩
        have HB2 : Hid (Below w.heap.size w w2) := HW.out _ (HWQ.out.trans (hb2.mono HWQ.out.size))
        clear hb2 C2
        go_wp2
        go_ret
        exact ⟨by rw [HR.out]; rfl, HB2.out⟩
      · have HN : Hid (∀ r, r < q + 1 → Pg.node ps r = true) := fun r hr => by
          by_cases e : r = q
          · subst e; exact HBB.out.symm
          · exact HJ.out r (by omega)
        clear HBB HJ
        go_wp2_with fail
        refine C2.out.mono ?_
        rintro e w2 ⟨rfl, hb2⟩
        have HB2 : Hid (Below W0.heap.size W0 w2) := HWQ.out.trans (hb2.mono HWQ.out.size)
        clear hb2 C2
        go_wp2
        go_roundw
        case rel => exact ⟨q + 1, by go_num, by omega, HB2.out, HN.out⟩
        case measure => simp [intOf]; omega
    · obtain rfl : q = n := by omega
      have HV3 : Hid (V = rs.all (Pg.rule ps)) := HV2.out.trans (by rw [List.all_eq_true.2 fun r hr => HJ.out r (List.mem_range.1 hr)]; rfl)
      clear HV2 HJ HC
      have i1 : ¬ ((q : Int) < (q : Int)) := by omega
      go_wp2
      obtain ⟨U, hU⟩ : ∃ U, U = wr := ⟨_, rfl⟩
      subst hU
      go_loopw [31] (fun j wr => ∃ p : Nat, j = .int .i64 (p : Int) ∧ p ≤ k ∧ Hid (Below W0.heap.size W0 wr) ∧ Hid (∀ r, r < p → Pg.rule ps (rs.getD r Pg.Rl.no) = true)) (fun j _ => k - (intOf j).toNat)
      case atStart => exact ⟨0, rfl, by omega, HWQ.out, fun r hr => by omega⟩
      case round =>
        obtain ⟨p, rfl, hp, HWP, HJ⟩ := hrel
        clear z0 z1
        obtain ⟨z0, z1⟩ := HQ.out _ HWP.out
        by_cases hpk : p < k
        · have i2 : (p : Int) < (k : Int) := by omega
          have i3 : (0 : Int) ≤ (p : Int) := by omega
          obtain ⟨b, o, rfl, hb, hc⟩ := HF.out (by omega)
          have hbw := HW.out _ HWP.out
          have c0 := (hbw.cell hb).trans (hc p hpk).1
          have c1 := (hbw.cell hb).trans (hc p hpk).2.1
          have c2 := (hbw.cell hb).trans (hc p hpk).2.2
          obtain ⟨r, hr⟩ : ∃ r, r = rs.getD p Pg.Rl.no := ⟨_, rfl⟩
          rw [← hr] at c0 c1 c2
          obtain ⟨B, hB⟩ : ∃ B, B = Pg.rule ps r := ⟨_, rfl⟩
          have HBA : Hid (Below W0.heap.size W0 (wr.alloc (.cells #[.int .i64 r.when, .int .i64 r.cond, .int .i64 r.act] 41))) := HWP.out.alloc HWP.out.size _
          have C := HU.out r _ (HW.out _ HBA.out)
          rw [← hB] at C
          have C2 : Hid (Calls Tryz.prog 32 #[.slice va q vc, .agg #[.int .i64 r.when, .int .i64 r.cond, .int .i64 r.act]] (wr.alloc (.cells #[.int .i64 r.when, .int .i64 r.cond, .int .i64 r.act] 41)) fun e w' => e = .returned (.bool B) ∧ Below (wr.alloc (.cells #[.int .i64 r.when, .int .i64 r.cond, .int .i64 r.act] 41)).heap.size (wr.alloc (.cells #[.int .i64 r.when, .int .i64 r.cond, .int .i64 r.act] 41)) w') := C
          have HBB : Hid (B = Pg.rule ps (rs.getD p Pg.Rl.no)) := by rw [hB, hr]; exact rfl
          have zz0 := (((Below.refl wr.heap.size wr).alloc (Nat.le_refl _) (.cells #[.int .i64 r.when, .int .i64 r.cond, .int .i64 r.act] 41)).cell (p := ⟨w.heap.size, 0, none⟩) (World.block_lt_of_cell? wr _ z0)).trans z0
          clear C hB hr hc hbw
          obtain ⟨ra, rb, rd⟩ := r
          simp only at c0 c1 c2 HBA C2 zz0
          cases B
          · have HR : Hid (V = false) := HV3.out.trans (by
              rw [List.all_eq_false]
              exact ⟨rs.getD p Pg.Rl.no, by rw [List.getD_eq_getElem?_getD, List.getElem?_eq_getElem (by rw [← HK.out]; exact hpk)]; exact List.getElem_mem _, by rw [← HBB.out]; decide⟩)
            clear HV3 HBB HJ HU HF
            go_wp2_with fail
            refine C2.out.mono ?_
            rintro e w2 ⟨rfl, hb2⟩
            have HB2 : Hid (Below w.heap.size w w2) := HW.out _ (HBA.out.trans (hb2.mono HBA.out.size))
            clear hb2 C2
            go_wp2
            go_ret
            exact ⟨by rw [HR.out]; rfl, HB2.out⟩
          · have HN : Hid (∀ r, r < p + 1 → Pg.rule ps (rs.getD r Pg.Rl.no) = true) := fun r hr => by
              by_cases e : r = p
              · subst e; exact HBB.out.symm
              · exact HJ.out r (by omega)
            clear HBB HJ
            go_wp2_with fail
            refine C2.out.mono ?_
            rintro e w2 ⟨rfl, hb2⟩
            have HB2 : Hid (Below W0.heap.size W0 w2) := HBA.out.trans (hb2.mono HBA.out.size)
            clear hb2 C2
            go_wp2
            go_roundw
            case rel => exact ⟨p + 1, by go_num, by omega, HB2.out, HN.out⟩
            case measure => simp [intOf]; omega
        · obtain rfl : p = k := by omega
          have HR : Hid (V = true) := HV3.out.trans (by
            rw [List.all_eq_true]
            intro x hx
            obtain ⟨r, hr, rfl⟩ := List.getElem_of_mem hx
            have := HJ.out r (by rw [HK.out]; exact hr)
            rwa [List.getD_eq_getElem?_getD, List.getElem?_eq_getElem hr] at this)
          have HBE : Hid (Below w.heap.size w wr) := HW.out _ HWP.out
          clear HV3 HJ HU HF
          have i2 : ¬ ((p : Int) < (p : Int)) := by omega
          go_wp2
          go_ret
          exact ⟨by rw [HR.out]; rfl, HBE.out⟩
end PartPkF
end Go.Proofs.YtknojhmnadmilaaGreatDoor
