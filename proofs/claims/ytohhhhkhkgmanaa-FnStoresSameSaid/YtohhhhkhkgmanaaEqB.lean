/- Are two stores the same: the specification's SameStore. -/
import Derived.Test.YtohhhhkhkgmanaaEqA
namespace Go.Proofs.Ytohhhhkhkgmanaa
open Go.RowKit

theorem VrAt.row {w : World} {a : Option Addr} {n c : Nat} {xs : List Vr} (h : VrAt w (.slice a n c) xs) (hn : xs.length = n) {j : Nat} (hj : j < n) : ∃ b o, a = some ⟨b, o, none⟩ ∧ b < w.heap.size ∧ w.cell? ⟨b, o + j * 2, none⟩ = some (.string (xs.getD j Vr.no).name) ∧ w.cell? ⟨b, o + j * 2 + 1, none⟩ = some (.string (xs.getD j Vr.no).val) := by
  obtain ⟨a', c', e, f⟩ := h
  obtain ⟨rfl, rfl, rfl⟩ : a = a' ∧ n = xs.length ∧ c = c' := by simpa using e
  obtain ⟨b, o, rfl, hb, hc⟩ := f (by omega)
  exact ⟨b, o, rfl, hb, hc j hj⟩
theorem ClAt.row {w : World} {a : Option Addr} {n c : Nat} {xs : List Cl} (h : ClAt w (.slice a n c) xs) (hn : xs.length = n) {j : Nat} (hj : j < n) : ∃ b o, a = some ⟨b, o, none⟩ ∧ b < w.heap.size ∧ w.cell? ⟨b, o + j * 3, none⟩ = some (.string (xs.getD j Cl.no).name) ∧ w.cell? ⟨b, o + j * 3 + 1, none⟩ = some (.string (xs.getD j Cl.no).key) ∧ w.cell? ⟨b, o + j * 3 + 2, none⟩ = some (.string (xs.getD j Cl.no).val) := by
  obtain ⟨a', c', e, f⟩ := h
  obtain ⟨rfl, rfl, rfl⟩ : a = a' ∧ n = xs.length ∧ c = c' := by simpa using e
  obtain ⟨b, o, rfl, hb, hc⟩ := f (by omega)
  exact ⟨b, o, rfl, hb, hc j hj⟩

set_option maxHeartbeats 8000000 in
theorem specSame8 (va ra vb rb : Value) (o o' : ByteArray) (ps qs : List Vr) (rs ss : List Cl) (w : World) (h1 : VrAt w va ps) (g1 : ClAt w ra rs) (h2 : VrAt w vb qs) (g2 : ClAt w rb ss) (hl : ps.length ≤ 1048576) (hl2 : qs.length ≤ 1048576) (hr : rs.length ≤ 1048576) (hr2 : ss.length ≤ 1048576) :
    Calls Try.prog 14 #[.agg #[va, ra, .string o], .agg #[vb, rb, .string o']] w fun e w' => e = .returned (.bool (St.same ps qs rs ss o o')) ∧ Below w.heap.size w w' := by
  obtain ⟨V, hV⟩ : ∃ V, V = St.same ps qs rs ss o o' := ⟨_, rfl⟩
  have HV : Hid (V = St.same ps qs rs ss o o') := hV
  rw [← hV]
  clear hV
  have HP : Hid (∀ W, Below w.heap.size w W → VrAt W va ps ∧ VrAt W vb qs ∧ ClAt W ra rs ∧ ClAt W rb ss) := fun W hb => ⟨h1.keep hb, h2.keep hb, g1.keep hb, g2.keep hb⟩
  obtain ⟨a1, c1, rfl, -⟩ := h1
  obtain ⟨a2, c2, rfl, -⟩ := h2
  obtain ⟨d1, e1, rfl, -⟩ := g1
  obtain ⟨d2, e2, rfl, -⟩ := g2
  obtain ⟨n, hn⟩ : ∃ n, n = ps.length := ⟨_, rfl⟩
  obtain ⟨m, hm⟩ : ∃ m, m = rs.length := ⟨_, rfl⟩
  obtain ⟨n', hn'⟩ : ∃ n', n' = qs.length := ⟨_, rfl⟩
  obtain ⟨m', hm'⟩ : ∃ m', m' = ss.length := ⟨_, rfl⟩
  have HV2 : Hid (V = ((decide (n = n') && (List.range n).all (fun i => St.eqVr (ps.getD i Vr.no) (qs.getD i Vr.no))) && ((decide (m = m') && (List.range m).all (fun i => St.eqCl (rs.getD i Cl.no) (ss.getD i Cl.no))) && (o.toList == o'.toList)))) := HV.out.trans (by rw [hn, hn', hm, hm']; rfl)
  rw [← hn, ← hn', ← hm, ← hm'] at HP
  rw [← hn] at hl ⊢
  rw [← hn'] at hl2 ⊢
  rw [← hm] at hr ⊢
  rw [← hm'] at hr2 ⊢
  have HN : Hid (n = ps.length ∧ n' = qs.length ∧ m = rs.length ∧ m' = ss.length) := ⟨hn, hn', hm, hm'⟩
  clear HV hn hn' hm hm'
  have HB : Hid (Below w.heap.size w ((w.alloc (.cells #[.slice a1 n c1, .slice d1 m e1, .string o] 27)).alloc (.cells #[.slice a2 n' c2, .slice d2 m' e2, .string o'] 27))) := ((Below.refl _ _).alloc (Nat.le_refl _) _).alloc (by simp) _
  have q0 := s2_0 w (.cells #[.slice a1 n c1, .slice d1 m e1, .string o] 27) (.cells #[.slice a2 n' c2, .slice d2 m' e2, .string o'] 27)
  have q1 := s2_1 w (.cells #[.slice a1 n c1, .slice d1 m e1, .string o] 27) (.cells #[.slice a2 n' c2, .slice d2 m' e2, .string o'] 27)
  have hz : w.heap.size + 1 < ((w.alloc (.cells #[.slice a1 n c1, .slice d1 m e1, .string o] 27)).alloc (.cells #[.slice a2 n' c2, .slice d2 m' e2, .string o'] 27)).heap.size := by simp
  by_cases hn : ¬ n = n'
  · have dq : ((n : Int) != (n' : Int)) = true := by simp; omega
    have HR : Hid (V = false) := HV2.out.trans (by rw [decide_eq_false hn]; rfl)
    clear HV2 HP q0 q1 hz hn
    go_enter Try.func14, Try.ntmps14
    go_wp2
    go_ret
    exact ⟨by rw [HR.out]; rfl, HB.out⟩
  replace hn := Decidable.not_not.1 hn
  subst hn
  have dn : ((n : Int) != (n : Int)) = false := by simp
  by_cases hm : ¬ m = m'
  · have dq : ((m : Int) != (m' : Int)) = true := by simp; omega
    have HR : Hid (V = false) := HV2.out.trans (by rw [decide_eq_false hm]; simp)
    clear HV2 HP q0 q1 hz hm
    go_enter Try.func14, Try.ntmps14
    go_wp2
    go_ret
    exact ⟨by rw [HR.out]; rfl, HB.out⟩
  replace hm := Decidable.not_not.1 hm
  subst hm
  have dm : ((m : Int) != (m : Int)) = false := by simp
  cases ho : (o.toList == o'.toList) with
  | false =>
    have HR : Hid (V = false) := HV2.out.trans (by rw [ho]; simp)
    clear HV2 HP q0 q1 hz
    go_enter Try.func14, Try.ntmps14
    go_wp2
    go_ret
    exact ⟨by rw [HR.out]; rfl, HB.out⟩
  | true =>
  have HV3 : Hid (V = ((List.range n).all (fun i => St.eqVr (ps.getD i Vr.no) (qs.getD i Vr.no)) && (List.range m).all (fun i => St.eqCl (rs.getD i Cl.no) (ss.getD i Cl.no)))) := HV2.out.trans (by rw [ho]; simp)
  clear HV2
  go_enter Try.func14, Try.ntmps14
  go_wp2
  generalize (w.alloc (.cells #[.slice a1 n c1, .slice d1 m e1, .string o] 27)).alloc (.cells #[.slice a2 n c2, .slice d2 m e2, .string o'] 27) = W0 at *
  have HQ : Hid (∀ wr, Below W0.heap.size W0 wr → (wr.cell? ⟨w.heap.size, 0, none⟩ = some (.slice a1 n c1) ∧ wr.cell? ⟨w.heap.size, 1, none⟩ = some (.slice d1 m e1)) ∧ wr.cell? ⟨w.heap.size + 1, 0, none⟩ = some (.slice a2 n c2) ∧ wr.cell? ⟨w.heap.size + 1, 1, none⟩ = some (.slice d2 m e2)) := by
    intro wr hb
    have s0 := (hb.block _ (by omega)).trans q0
    have s1 := (hb.block _ (by omega)).trans q1
    have z0 := blk_cell s0 0
    have z1 := blk_cell s0 1
    have z2 := blk_cell s1 0
    have z3 := blk_cell s1 1
    simp only [List.getElem?_toArray, List.getElem?_cons_zero, List.getElem?_cons_succ] at z0 z1 z2 z3
    exact ⟨⟨z0, z1⟩, z2, z3⟩
  clear q0 q1 dn dm hz ho
  go_loopw [5] (fun i wr => ∃ j : Nat, i = .int .i64 (j : Int) ∧ j ≤ n ∧ Hid (Below W0.heap.size W0 wr) ∧ Hid (∀ q, q < j → St.eqVr (ps.getD q Vr.no) (qs.getD q Vr.no) = true)) (fun i _ => n - (intOf i).toNat)
  case atStart => exact ⟨0, rfl, by omega, Below.refl _ _, fun q hq => by omega⟩
  case round =>
    obtain ⟨j, rfl, hj, HW, HJ⟩ := hrel
    obtain ⟨⟨z0, z1⟩, z2, z3⟩ := HQ.out _ HW.out
    have HWW : Hid (Below w.heap.size w wr) := HB.out.trans (HW.out.mono HB.out.size)
    by_cases hlt : j < n
    · obtain ⟨f1, f2, f3, f4⟩ := HP.out _ HWW.out
      obtain ⟨g1, o1, rfl, l1, t1⟩ := VrAt.row f1 HN.out.1.symm hlt
      obtain ⟨g2, o2, rfl, l2, t2⟩ := VrAt.row f2 HN.out.2.1.symm hlt
      clear f1 f2 f3 f4
      obtain ⟨p, hp⟩ : ∃ p, p = ps.getD j Vr.no := ⟨_, rfl⟩
      obtain ⟨u, hu⟩ : ∃ u, u = qs.getD j Vr.no := ⟨_, rfl⟩
      rw [← hp] at t1
      rw [← hu] at t2
      have HPJ : Hid (p = ps.getD j Vr.no) := hp
      have HUJ : Hid (u = qs.getD j Vr.no) := hu
      clear hp hu
      obtain ⟨x0, x1⟩ := t1
      obtain ⟨v0, v1⟩ := t2
      have qn := fun w => neqVr p u w
      have qg := guardVr
      obtain ⟨r, hr⟩ : ∃ r, r = St.eqVr p u := ⟨_, rfl⟩
      rw [← hr] at qn
      have HRL : Hid (r = St.eqVr p u) := hr
      clear hr
      obtain ⟨p0, p1⟩ := p
      obtain ⟨u0, u1⟩ := u
      simp only at x0 v0 x1 v1 qn
      have i1 : (j : Int) < (n : Int) := by omega
      have i0 : (0 : Int) ≤ (j : Int) := by omega
      cases r
      · have HR : Hid (V = false) := HV3.out.trans (by rw [St.all_no hlt (by rw [← HPJ.out, ← HUJ.out]; exact HRL.out.symm)]; simp)
        simp only [Bool.not_false] at qn
        clear HPJ HUJ HRL HV3 HJ
        go_wp2_with fail
        go_quiet (fail)
        go_wp2
        go_ret
        exact ⟨by rw [HR.out]; rfl, below_drewN HWW.out _⟩
      · have HNX : Hid (∀ q, q < j + 1 → St.eqVr (ps.getD q Vr.no) (qs.getD q Vr.no) = true) := fun q h => by
          by_cases e : q = j
          · subst e; rw [← HPJ.out, ← HUJ.out]; exact HRL.out.symm
          · exact HJ.out q (by omega)
        simp only [Bool.not_true] at qn
        clear HPJ HUJ HRL HJ
        go_wp2_with fail
        go_quiet (fail)
        go_wp2
        go_roundw
        case rel => exact ⟨j + 1, by go_num, by omega, below_drewN HW.out _, HNX⟩
        case measure => simp [intOf]; omega
    · obtain rfl : j = n := by omega
      have HJ1 : Hid (∀ q, q < j → St.eqVr (ps.getD q Vr.no) (qs.getD q Vr.no) = true) := HJ
      clear HJ HWW
      go_wp2
      clear z0 z1 z2 z3
      go_loopw [6] (fun i wr => ∃ j : Nat, i = .int .i64 (j : Int) ∧ j ≤ m ∧ Hid (Below W0.heap.size W0 wr) ∧ Hid (∀ q, q < j → St.eqCl (rs.getD q Cl.no) (ss.getD q Cl.no) = true)) (fun i _ => m - (intOf i).toNat)
      case atStart => exact ⟨0, rfl, by omega, HW, fun q hq => by omega⟩
      case round =>
        obtain ⟨j, rfl, hj, HW, HJ⟩ := hrel
        obtain ⟨⟨z0, z1⟩, z2, z3⟩ := HQ.out _ HW.out
        have HWW : Hid (Below w.heap.size w wr) := HB.out.trans (HW.out.mono HB.out.size)
        by_cases hlt : j < m
        · obtain ⟨f1, f2, f3, f4⟩ := HP.out _ HWW.out
          obtain ⟨g1, o1, rfl, l1, t1⟩ := ClAt.row f3 HN.out.2.2.1.symm hlt
          obtain ⟨g2, o2, rfl, l2, t2⟩ := ClAt.row f4 HN.out.2.2.2.symm hlt
          clear f1 f2 f3 f4
          obtain ⟨p, hp⟩ : ∃ p, p = rs.getD j Cl.no := ⟨_, rfl⟩
          obtain ⟨u, hu⟩ : ∃ u, u = ss.getD j Cl.no := ⟨_, rfl⟩
          rw [← hp] at t1
          rw [← hu] at t2
          have HPJ : Hid (p = rs.getD j Cl.no) := hp
          have HUJ : Hid (u = ss.getD j Cl.no) := hu
          clear hp hu
          obtain ⟨x0, x1, x2⟩ := t1
          obtain ⟨v0, v1, v2⟩ := t2
          have qn := fun w => neqCl p u w
          have qg := guardCl
          obtain ⟨r, hr⟩ : ∃ r, r = St.eqCl p u := ⟨_, rfl⟩
          rw [← hr] at qn
          have HRL : Hid (r = St.eqCl p u) := hr
          clear hr
          obtain ⟨p0, p1, p2⟩ := p
          obtain ⟨u0, u1, u2⟩ := u
          simp only at x0 v0 x1 v1 x2 v2 qn
          have i1 : (j : Int) < (m : Int) := by omega
          have i0 : (0 : Int) ≤ (j : Int) := by omega
          cases r
          · have HR : Hid (V = false) := HV3.out.trans (by rw [St.all_no hlt (by rw [← HPJ.out, ← HUJ.out]; exact HRL.out.symm)]; simp)
            simp only [Bool.not_false] at qn
            clear HPJ HUJ HRL HV3 HJ
            go_wp2_with fail
            go_quiet (fail)
            go_wp2
            go_ret
            exact ⟨by rw [HR.out]; rfl, below_drewN HWW.out _⟩
          · have HNX : Hid (∀ q, q < j + 1 → St.eqCl (rs.getD q Cl.no) (ss.getD q Cl.no) = true) := fun q h => by
              by_cases e : q = j
              · subst e; rw [← HPJ.out, ← HUJ.out]; exact HRL.out.symm
              · exact HJ.out q (by omega)
            simp only [Bool.not_true] at qn
            clear HPJ HUJ HRL HJ
            go_wp2_with fail
            go_quiet (fail)
            go_wp2
            go_roundw
            case rel => exact ⟨j + 1, by go_num, by omega, below_drewN HW.out _, HNX⟩
            case measure => simp [intOf]; omega
        · obtain rfl : j = m := by omega
          have HR : Hid (V = true) := HV3.out.trans (by rw [St.all_yes HJ.out, St.all_yes HJ1.out]; rfl)
          clear HV3 HJ HJ1
          go_wp2
          go_ret
          exact ⟨by rw [HR.out]; rfl, HWW.out⟩
end Go.Proofs.Ytohhhhkhkgmanaa
