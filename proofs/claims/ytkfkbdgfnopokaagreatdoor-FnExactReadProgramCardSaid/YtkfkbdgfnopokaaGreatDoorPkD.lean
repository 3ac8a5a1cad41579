/- When a program is right: a node's kids. -/
import Derived.Test.YtkfkbdgfnopokaaGreatDoorPkC
namespace Go.Proofs.YtkfkbdgfnopokaaGreatDoor
open Go.RowKit
theorem ahead_at {i : Nat} {ks : List Int} (h : Pg.ahead i ks = true) {k : Nat} (hk : k < ks.length) : 0 ≤ ks.getD k 0 ∧ ks.getD k 0 < (i : Int) := by
 unfold Pg.ahead at h
 rw [List.all_eq_true] at h
 have := h ks[k] (List.getElem_mem hk)
 simpa [hk] using this
theorem kdrop_at (f : Int → Int) {ks : List Int} {k : Nat} (hk : k < ks.length) : (ks.map f).drop k = f (ks.getD k 0) :: (ks.map f).drop (k + 1) := by
 rw [List.drop_eq_getElem_cons (by simpa using hk)]
 simp [hk]
set_option linter.unusedSimpArgs false in
set_option maxRecDepth 100000 in
set_option maxHeartbeats 4000000 in
theorem nodeKidsOk_any (v kv : Value) (ps : List Pi) (op : Int) (t : ByteArray) (ks : List Int) (i : Nat) (w : World) (h : PcsAt w v ps) (hk : KidsAt w kv ks) (hl : ps.length ≤ 1048576) (hl2 : ks.length ≤ 1048576) (hi : i ≤ ps.length) (hin : Pg.ahead i ks = true) :
  Calls Tryz.prog 97 #[v, .agg #[.int .i64 op, .string t, kv]] w fun e w' => e = .returned (.bool (Pg.counted op (ks.map (Pg.opAt ps)))) ∧ Below w.heap.size w w' := by
 obtain ⟨V, hV⟩ : ∃ V, V = Pg.counted op (ks.map (Pg.opAt ps)) := ⟨_, rfl⟩
 have HV : Hid (∀ C, Pg.cnt op (ks.map (Pg.opAt ps)) 0 0 = C → V = match C with | none => false | some (e, s) => Pg.fits op e s) := by rintro C rfl; exact hV
 rw [← hV]
 clear hV
 obtain ⟨va, vc, rfl, f⟩ := h
 obtain ⟨ka, kc, rfl, g⟩ := hk
 have HF : Hid (0 < ps.length → ∃ b o, va = some ⟨b, o, none⟩ ∧ b < w.heap.size ∧ ∀ i, i < ps.length → PieceAt w b (o + i * 3) (ps.getD i Pi.no)) := f
 have HG : Hid (0 < ks.length → ∃ b o, ka = some ⟨b, o, none⟩ ∧ b < w.heap.size ∧ ∀ i, i < ks.length → w.cell? ⟨b, o + i, none⟩ = some (.int .i64 (ks.getD i 0))) := g
 have HIN : Hid (Pg.ahead i ks = true) := hin
 obtain ⟨n, hn⟩ : ∃ n, n = ps.length := ⟨_, rfl⟩
 obtain ⟨m, hm⟩ : ∃ m, m = ks.length := ⟨_, rfl⟩
 rw [← hn] at HF hl hi ⊢
 rw [← hm] at HG hl2 ⊢
 have HM : Hid (m = ks.length) := hm
 clear f g hin hn hm
 have HB : Hid (Below w.heap.size w (w.alloc (.cells #[.int .i64 op, .string t, .slice ka m kc] 87))) := (Below.refl _ _).alloc (Nat.le_refl _) _
 have q0 := blk_cell (heap_alloc_new w (.cells #[.int .i64 op, .string t, .slice ka m kc] 87)) 0
 simp only [List.getElem?_toArray, List.getElem?_cons_zero] at q0
 go_enter Tryz.func97, Tryz.ntmps97
 go_wp2
 generalize w.alloc (.cells #[.int .i64 op, .string t, .slice ka m kc] 87) = W0 at *
 go_loopw [13, 5, 6] (fun j x y wr => ∃ k e s : Nat, j = .int .i64 (k : Int) ∧ x = .int .i64 (e : Int) ∧ y = .int .i64 (s : Int) ∧ k ≤ m ∧ e ≤ k ∧ s ≤ k ∧ wr = W0 ∧ Hid (Pg.cnt op (ks.map (Pg.opAt ps)) 0 0 = Pg.cnt op ((ks.map (Pg.opAt ps)).drop k) e s)) (fun j _ _ _ => m - (intOf j).toNat)
 case atStart => exact ⟨0, 0, 0, rfl, rfl, rfl, by omega, by omega, by omega, rfl, rfl⟩
 case round =>
  obtain ⟨k, e, s, rfl, rfl, rfl, hkm, hek, hsk, rfl, HC⟩ := hrel
  by_cases hlt : k < m
  ·obtain ⟨gb, go, rfl, hgb, hgc⟩ := HG.out (by omega)
   have hz := ahead_at HIN.out (k := k) (by rw [← HM.out]; exact hlt)
   obtain ⟨fb, fo, rfl, hfb, hfc⟩ := HF.out (by omega)
   have c1 := (HB.out.cell hgb).trans (hgc k hlt)
   have HC2 : Hid (Pg.cnt op (ks.map (Pg.opAt ps)) 0 0 = Pg.cnt op (Pg.opAt ps (ks.getD k 0) :: (ks.map (Pg.opAt ps)).drop (k + 1)) e s) := by
    show _ = _
    rw [HC.out, kdrop_at _ (by rw [← HM.out]; exact hlt)]
   generalize ks.getD k 0 = z at *
   obtain ⟨y, rfl⟩ : ∃ y : Nat, z = (y : Int) := ⟨z.toNat, by omega⟩
   obtain ⟨-, p0, -, -, -⟩ := hfc y (by omega)
   have c2 := (HB.out.cell hfb).trans p0
   have eo : (ps.getD y Pi.no).op = Pg.opAt ps (y : Int) := rfl
   rw [eo] at c2
   clear hgc hfc p0 eo HC HG HF
   generalize Pg.opAt ps (y : Int) = o at *
   have i1 : (k : Int) < (m : Int) := by omega
   have i2 : (y : Int) < (n : Int) := by omega
   have CE : Hid (∀ W, Calls Tryz.prog 70 #[.int .i64 o] W fun e w' => e = .returned (.bool (Pg.ex o)) ∧ w' = W) := fun W => isEx_any o W
   obtain ⟨x, hx⟩ : ∃ x, x = Pg.ex o := ⟨_, rfl⟩
   rw [← hx] at CE
   have HX : Hid (Pg.ex o = x) := hx.symm
   cases x
   ·by_cases hoo : o = 22 ∧ op = 22
    ·have d1 : (o == 22) = true := by simpa using hoo.1
     have d2 : (op == 22) = true := by simpa using hoo.2
     have HR : Hid (V = false) := (HV.out none (HC2.out.trans (by rw [Pg.cnt, HX.out]; simp [Pg.noIf, hoo]))).trans rfl
     clear HV HC2 HX hx hoo
     go_wp2_with (go_at_call 70; refine (CE.out _).mono ?_; rintro e w1 ⟨rfl, hw1⟩; rw [hw1])
     go_ret
     exact ⟨by rw [HR.out]; rfl, HB.out⟩
    ·have HN : Hid (Pg.cnt op (ks.map (Pg.opAt ps)) 0 0 = Pg.cnt op ((ks.map (Pg.opAt ps)).drop (k + 1)) e (s + 1)) := HC2.out.trans (by
      rw [Pg.cnt, HX.out]
      have : Pg.noIf op o = true := by simp [Pg.noIf]; omega
      simp [this])
     clear HC2 HX hx
     by_cases ho : o = 22
     ·have d1 : (o == 22) = true := by simpa using ho
      have d2 : (op == 22) = false := by simp; intro h; exact hoo ⟨ho, h⟩
      clear hoo ho
      go_wp2_with (go_at_call 70; refine (CE.out _).mono ?_; rintro e w1 ⟨rfl, hw1⟩; rw [hw1])
      go_roundw
      case rel => exact ⟨k + 1, e, s + 1, by go_num, rfl, by go_num, by omega, by omega, by omega, by first | rfl | trivial, HN.out⟩
      case measure => simp [intOf]; omega
     ·have d1 : (o == 22) = false := by simpa using ho
      clear hoo ho
      go_wp2_with (go_at_call 70; refine (CE.out _).mono ?_; rintro e w1 ⟨rfl, hw1⟩; rw [hw1])
      go_roundw
      case rel => exact ⟨k + 1, e, s + 1, by go_num, rfl, by go_num, by omega, by omega, by omega, by first | rfl | trivial, HN.out⟩
      case measure => simp [intOf]; omega
   ·by_cases hs0 : s = 0
    ·subst hs0
     have HN : Hid (Pg.cnt op (ks.map (Pg.opAt ps)) 0 0 = Pg.cnt op ((ks.map (Pg.opAt ps)).drop (k + 1)) (e + 1) 0) := HC2.out.trans (by rw [Pg.cnt, HX.out]; simp)
     have ho : o ≠ 22 := fun h => by rw [h] at hx; exact absurd hx (by decide)
     have d1 : (o == 22) = false := by simpa using ho
     clear HC2 HX hx ho
     go_wp2_with (go_at_call 70; refine (CE.out _).mono ?_; rintro e w1 ⟨rfl, hw1⟩; rw [hw1])
     go_roundw
     case rel => exact ⟨k + 1, e + 1, 0, by go_num, by go_num, rfl, by omega, by omega, by omega, by first | rfl | trivial, HN.out⟩
     case measure => simp [intOf]; omega
    ·have d1 : ((s : Int) == 0) = false := by simp; omega
     have HR : Hid (V = false) := (HV.out none (HC2.out.trans (by rw [Pg.cnt, HX.out]; simp [hs0]))).trans rfl
     clear HV HC2 HX hx hs0
     go_wp2_with (go_at_call 70; refine (CE.out _).mono ?_; rintro e w1 ⟨rfl, hw1⟩; rw [hw1])
     go_ret
     exact ⟨by rw [HR.out]; rfl, HB.out⟩
  ·obtain rfl : k = m := by omega
   have HR : Hid (V = Pg.fits op e s) := HV.out (some (e, s)) (HC.out.trans (by rw [List.drop_of_length_le (by rw [List.length_map, ← HM.out]; omega), Pg.cnt]))
   clear HV HC HG HF HIN HM
   have i1 : ¬ ((k : Int) < (k : Int)) := by omega
   by_cases c0 : op = 4 ∨ op = 5 ∨ op = 8 ∨ op = 16 ∨ op = 18 ∨ op = 19
   ·have HR2 : Hid (V = (decide (e = 1) && decide (s = 0))) := HR.out.trans (by simp only [Pg.fits, if_pos c0])
    rcases c0 with rfl | rfl | rfl | rfl | rfl | rfl
    all_goals
     by_cases g0 : e = 1
     ·have dg0 : ((e : Int) == 1) = true := by simp only [beq_iff_eq, decide_eq_true_eq]; omega
      have HQ : Hid (V = ((s : Int) == 0)) := HR2.out.trans (Bool.eq_iff_iff.2 (by simp only [Bool.and_eq_true, decide_eq_true_eq, beq_iff_eq]; omega))
      clear HR2 HR
      go_wp2
      go_ret
      exact ⟨by rw [HQ.out]; rfl, HB.out⟩
     ·have dg0 : ((e : Int) == 1) = false := Bool.eq_false_iff.2 (by simp only [ne_eq, beq_iff_eq, decide_eq_true_eq]; omega)
      have HQ : Hid (V = false) := HR2.out.trans (Bool.eq_false_iff.2 (by simp only [ne_eq, Bool.and_eq_true, decide_eq_true_eq]; omega))
      clear HR2 HR
      go_wp2
      go_ret
      exact ⟨by rw [HQ.out]; rfl, HB.out⟩
   by_cases c1 : op = 9 ∨ op = 10 ∨ op = 11 ∨ op = 12 ∨ op = 13 ∨ op = 14 ∨ op = 15 ∨ op = 20 ∨ op = 21
   ·have HR2 : Hid (V = (decide (e = 2) && decide (s = 0))) := HR.out.trans (by simp only [Pg.fits, if_neg c0, if_pos c1])
    clear c0
    rcases c1 with rfl | rfl | rfl | rfl | rfl | rfl | rfl | rfl | rfl
    all_goals
     by_cases g0 : e = 2
     ·have dg0 : ((e : Int) == 2) = true := by simp only [beq_iff_eq, decide_eq_true_eq]; omega
      have HQ : Hid (V = ((s : Int) == 0)) := HR2.out.trans (Bool.eq_iff_iff.2 (by simp only [Bool.and_eq_true, decide_eq_true_eq, beq_iff_eq]; omega))
      clear HR2 HR
      go_wp2
      go_ret
      exact ⟨by rw [HQ.out]; rfl, HB.out⟩
     ·have dg0 : ((e : Int) == 2) = false := Bool.eq_false_iff.2 (by simp only [ne_eq, beq_iff_eq, decide_eq_true_eq]; omega)
      have HQ : Hid (V = false) := HR2.out.trans (Bool.eq_false_iff.2 (by simp only [ne_eq, Bool.and_eq_true, decide_eq_true_eq]; omega))
      clear HR2 HR
      go_wp2
      go_ret
      exact ⟨by rw [HQ.out]; rfl, HB.out⟩
   by_cases c2 : op = 17
   ·have HR2 : Hid (V = (decide (1 ≤ e) && (decide (e ≤ 4) && decide (s = 0)))) := HR.out.trans (by simp only [Pg.fits, if_neg c0, if_neg c1, if_pos c2])
    clear c0 c1
    subst c2
    by_cases g0 : 1 ≤ e
    ·have dg0 : decide ((1 : Int) ≤ (e : Int)) = true := by simp only [beq_iff_eq, decide_eq_true_eq]; omega
     by_cases g1 : e ≤ 4
     ·have dg1 : decide ((e : Int) ≤ 4) = true := by simp only [beq_iff_eq, decide_eq_true_eq]; omega
      have HQ : Hid (V = ((s : Int) == 0)) := HR2.out.trans (Bool.eq_iff_iff.2 (by simp only [Bool.and_eq_true, decide_eq_true_eq, beq_iff_eq]; omega))
      clear HR2 HR
      go_wp2
      go_ret
      exact ⟨by rw [HQ.out]; rfl, HB.out⟩
     ·have dg1 : decide ((e : Int) ≤ 4) = false := Bool.eq_false_iff.2 (by simp only [ne_eq, beq_iff_eq, decide_eq_true_eq]; omega)
      have HQ : Hid (V = false) := HR2.out.trans (Bool.eq_false_iff.2 (by simp only [ne_eq, Bool.and_eq_true, decide_eq_true_eq]; omega))
      clear HR2 HR
      go_wp2
      go_ret
      exact ⟨by rw [HQ.out]; rfl, HB.out⟩
    ·have dg0 : decide ((1 : Int) ≤ (e : Int)) = false := Bool.eq_false_iff.2 (by simp only [ne_eq, beq_iff_eq, decide_eq_true_eq]; omega)
     have HQ : Hid (V = false) := HR2.out.trans (Bool.eq_false_iff.2 (by simp only [ne_eq, Bool.and_eq_true, decide_eq_true_eq]; omega))
     clear HR2 HR
     go_wp2
     go_ret
     exact ⟨by rw [HQ.out]; rfl, HB.out⟩
   by_cases c3 : op = 22
   ·have HR2 : Hid (V = (decide (e = 1) && (decide (1 ≤ s) && decide (s ≤ 2)))) := HR.out.trans (by simp only [Pg.fits, if_neg c0, if_neg c1, if_neg c2, if_pos c3])
    clear c0 c1 c2
    subst c3
    by_cases g0 : e = 1
    ·have dg0 : ((e : Int) == 1) = true := by simp only [beq_iff_eq, decide_eq_true_eq]; omega
     by_cases g1 : 1 ≤ s
     ·have dg1 : decide ((1 : Int) ≤ (s : Int)) = true := by simp only [beq_iff_eq, decide_eq_true_eq]; omega
      have HQ : Hid (V = decide ((s : Int) ≤ 2)) := HR2.out.trans (Bool.eq_iff_iff.2 (by simp only [Bool.and_eq_true, decide_eq_true_eq, beq_iff_eq]; omega))
      clear HR2 HR
      go_wp2
      go_ret
      exact ⟨by rw [HQ.out]; rfl, HB.out⟩
     ·have dg1 : decide ((1 : Int) ≤ (s : Int)) = false := Bool.eq_false_iff.2 (by simp only [ne_eq, beq_iff_eq, decide_eq_true_eq]; omega)
      have HQ : Hid (V = false) := HR2.out.trans (Bool.eq_false_iff.2 (by simp only [ne_eq, Bool.and_eq_true, decide_eq_true_eq]; omega))
      clear HR2 HR
      go_wp2
      go_ret
      exact ⟨by rw [HQ.out]; rfl, HB.out⟩
    ·have dg0 : ((e : Int) == 1) = false := Bool.eq_false_iff.2 (by simp only [ne_eq, beq_iff_eq, decide_eq_true_eq]; omega)
     have HQ : Hid (V = false) := HR2.out.trans (Bool.eq_false_iff.2 (by simp only [ne_eq, Bool.and_eq_true, decide_eq_true_eq]; omega))
     clear HR2 HR
     go_wp2
     go_ret
     exact ⟨by rw [HQ.out]; rfl, HB.out⟩
   by_cases c4 : op = 24
   ·have HR2 : Hid (V = (decide (e = 0) && decide (s ≤ 20))) := HR.out.trans (by simp only [Pg.fits, if_neg c0, if_neg c1, if_neg c2, if_neg c3, if_pos c4])
    clear c0 c1 c2 c3
    subst c4
    by_cases g0 : e = 0
    ·have dg0 : ((e : Int) == 0) = true := by simp only [beq_iff_eq, decide_eq_true_eq]; omega
     have HQ : Hid (V = decide ((s : Int) ≤ 20)) := HR2.out.trans (Bool.eq_iff_iff.2 (by simp only [Bool.and_eq_true, decide_eq_true_eq, beq_iff_eq]; omega))
     clear HR2 HR
     go_wp2
     go_ret
     exact ⟨by rw [HQ.out]; rfl, HB.out⟩
    ·have dg0 : ((e : Int) == 0) = false := Bool.eq_false_iff.2 (by simp only [ne_eq, beq_iff_eq, decide_eq_true_eq]; omega)
     have HQ : Hid (V = false) := HR2.out.trans (Bool.eq_false_iff.2 (by simp only [ne_eq, Bool.and_eq_true, decide_eq_true_eq]; omega))
     clear HR2 HR
     go_wp2
     go_ret
     exact ⟨by rw [HQ.out]; rfl, HB.out⟩
   have HR2 : Hid (V = (decide (e = 0) && decide (s = 0))) := HR.out.trans (by simp only [Pg.fits, if_neg c0, if_neg c1, if_neg c2, if_neg c3, if_neg c4])
   have e4 : (op == 4) = false := beq_eq_false_iff_ne.2 (by omega)
   have e5 : (op == 5) = false := beq_eq_false_iff_ne.2 (by omega)
   have e8 : (op == 8) = false := beq_eq_false_iff_ne.2 (by omega)
   have e9 : (op == 9) = false := beq_eq_false_iff_ne.2 (by omega)
   have e10 : (op == 10) = false := beq_eq_false_iff_ne.2 (by omega)
   have e11 : (op == 11) = false := beq_eq_false_iff_ne.2 (by omega)
   have e12 : (op == 12) = false := beq_eq_false_iff_ne.2 (by omega)
   have e13 : (op == 13) = false := beq_eq_false_iff_ne.2 (by omega)
   have e14 : (op == 14) = false := beq_eq_false_iff_ne.2 (by omega)
   have e15 : (op == 15) = false := beq_eq_false_iff_ne.2 (by omega)
   have e16 : (op == 16) = false := beq_eq_false_iff_ne.2 (by omega)
   have e17 : (op == 17) = false := beq_eq_false_iff_ne.2 (by omega)
   have e18 : (op == 18) = false := beq_eq_false_iff_ne.2 (by omega)
   have e19 : (op == 19) = false := beq_eq_false_iff_ne.2 (by omega)
   have e20 : (op == 20) = false := beq_eq_false_iff_ne.2 (by omega)
   have e21 : (op == 21) = false := beq_eq_false_iff_ne.2 (by omega)
   have e22 : (op == 22) = false := beq_eq_false_iff_ne.2 (by omega)
   have e24 : (op == 24) = false := beq_eq_false_iff_ne.2 (by omega)
   clear c0 c1 c2 c3 c4
   by_cases g0 : e = 0
   ·have dg0 : ((e : Int) == 0) = true := by simp only [beq_iff_eq, decide_eq_true_eq]; omega
    have HQ : Hid (V = ((s : Int) == 0)) := HR2.out.trans (Bool.eq_iff_iff.2 (by simp only [Bool.and_eq_true, decide_eq_true_eq, beq_iff_eq]; omega))
    clear HR2 HR
    go_wp2
    go_ret
    exact ⟨by rw [HQ.out]; rfl, HB.out⟩
   ·have dg0 : ((e : Int) == 0) = false := Bool.eq_false_iff.2 (by simp only [ne_eq, beq_iff_eq, decide_eq_true_eq]; omega)
    have HQ : Hid (V = false) := HR2.out.trans (Bool.eq_false_iff.2 (by simp only [ne_eq, Bool.and_eq_true, decide_eq_true_eq]; omega))
    clear HR2 HR
    go_wp2
    go_ret
    exact ⟨by rw [HQ.out]; rfl, HB.out⟩
end Go.Proofs.YtkfkbdgfnopokaaGreatDoor
