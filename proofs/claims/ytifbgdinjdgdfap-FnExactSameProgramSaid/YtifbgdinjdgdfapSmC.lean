/- Are two programs the same: what the specification of SameProgram answers. -/
import Derived.Test.YtifbgdinjdgdfapSmA
import Derived.Test.YtifbgdinjdgdfapLgE
namespace Go.Proofs.Ytifbgdinjdgdfap
open Go.RowKit

theorem two_0 (w : World) (A B : Obj) : ((w.alloc A).alloc B).heap[w.heap.size]? = some A := by
  show ((w.heap.push A).push B)[w.heap.size]? = some A
  rw [Array.getElem?_push, if_neg (by simp), Array.getElem?_push]
  simp
theorem two_1 (w : World) (A B : Obj) : ((w.alloc A).alloc B).heap[w.heap.size + 1]? = some B := by
  show ((w.heap.push A).push B)[w.heap.size + 1]? = some B
  rw [Array.getElem?_push]
  simp

theorem Sm.row {w : World} {a : Option Addr} {n c : Nat} {ps : List Pi} (h : PcsAt w (.slice a n c) ps) (hn : ps.length = n) {j : Nat} (hj : j < n) : ∃ b o, a = some ⟨b, o, none⟩ ∧ b < w.heap.size ∧ PieceAt w b (o + j * 3) (ps.getD j Pi.no) := by
  obtain ⟨a', c', e, f⟩ := h
  obtain ⟨rfl, rfl, rfl⟩ : a = a' ∧ n = ps.length ∧ c = c' := by simpa using e
  obtain ⟨b, o, rfl, hb, hc⟩ := f (by omega)
  exact ⟨b, o, rfl, hb, hc j hj⟩
theorem Sm.rlrow {w : World} {a : Option Addr} {n c : Nat} {rs : List Pg.Rl} (h : RlsAt w (.slice a n c) rs) (hn : rs.length = n) {j : Nat} (hj : j < n) : ∃ b o, a = some ⟨b, o, none⟩ ∧ b < w.heap.size ∧ w.cell? ⟨b, o + j * 3, none⟩ = some (.int .i64 (rs.getD j Pg.Rl.no).when) ∧ w.cell? ⟨b, o + j * 3 + 1, none⟩ = some (.int .i64 (rs.getD j Pg.Rl.no).cond) ∧ w.cell? ⟨b, o + j * 3 + 2, none⟩ = some (.int .i64 (rs.getD j Pg.Rl.no).act) := by
  obtain ⟨a', c', e, f⟩ := h
  obtain ⟨rfl, rfl, rfl⟩ : a = a' ∧ n = rs.length ∧ c = c' := by simpa using e
  obtain ⟨b, o, rfl, hb, hc⟩ := f (by omega)
  exact ⟨b, o, rfl, hb, hc j hj⟩

set_option maxHeartbeats 4000000 in
theorem specSame_any (va ra vb rb : Value) (ps qs : List Pi) (rs ss : List Pg.Rl) (w : World) (h1 : PcsAt w va ps) (g1 : RlsAt w ra rs) (h2 : PcsAt w vb qs) (g2 : RlsAt w rb ss) (hl : ps.length ≤ 1048576) (hl2 : qs.length ≤ 1048576) (hs : Small ps ps.length) (hs2 : Small qs qs.length) (hr : rs.length ≤ 1048576) (hr2 : ss.length ≤ 1048576) :
    Calls Try.prog 16 #[.agg #[va, ra], .agg #[vb, rb]] w fun e w' => e = .returned (.bool (Sm.nodes ps qs && Sm.rules rs ss)) ∧ Below w.heap.size w w' := by
  obtain ⟨V, hV⟩ : ∃ V, V = (Sm.nodes ps qs && Sm.rules rs ss) := ⟨_, rfl⟩
  have HV : Hid (V = (Sm.nodes ps qs && Sm.rules rs ss)) := hV
  rw [← hV]
  clear hV
  have HP : Hid (∀ W, Below w.heap.size w W → PcsAt W va ps ∧ PcsAt W vb qs ∧ RlsAt W ra rs ∧ RlsAt W rb ss) := fun W hb => ⟨h1.keep hb, h2.keep hb, g1.keep hb, g2.keep hb⟩
  have HS1 : Hid (Small ps ps.length) := hs
  have HS2 : Hid (Small qs qs.length) := hs2
  obtain ⟨a1, c1, rfl, -⟩ := h1
  obtain ⟨a2, c2, rfl, -⟩ := h2
  obtain ⟨d1, e1, rfl, -⟩ := g1
  obtain ⟨d2, e2, rfl, -⟩ := g2
  obtain ⟨n, hn⟩ : ∃ n, n = ps.length := ⟨_, rfl⟩
  obtain ⟨m, hm⟩ : ∃ m, m = rs.length := ⟨_, rfl⟩
  obtain ⟨n', hn'⟩ : ∃ n', n' = qs.length := ⟨_, rfl⟩
  obtain ⟨m', hm'⟩ : ∃ m', m' = ss.length := ⟨_, rfl⟩
  have HV2 : Hid (V = ((decide (n = n') && (List.range n).all (fun i => Sm.node (ps.getD i Pi.no) (qs.getD i Pi.no))) && (decide (m = m') && (List.range m).all (fun i => Sm.rule (rs.getD i Pg.Rl.no) (ss.getD i Pg.Rl.no))))) := HV.out.trans (by rw [hn, hn', hm, hm']; rfl)
  rw [← hn, ← hn', ← hm, ← hm'] at HP
  rw [← hn] at HS1 hl ⊢
  rw [← hn'] at HS2 hl2 ⊢
  rw [← hm] at hr ⊢
  rw [← hm'] at hr2 ⊢
  have HN : Hid (n = ps.length ∧ n' = qs.length ∧ m = rs.length ∧ m' = ss.length) := ⟨hn, hn', hm, hm'⟩
  clear HV hs hs2 hn hn' hm hm'
  have HB : Hid (Below w.heap.size w ((w.alloc (.cells #[.slice a1 n c1, .slice d1 m e1] 37)).alloc (.cells #[.slice a2 n' c2, .slice d2 m' e2] 37))) := ((Below.refl _ _).alloc (Nat.le_refl _) _).alloc (by simp) _
  have q0 := two_0 w (.cells #[.slice a1 n c1, .slice d1 m e1] 37) (.cells #[.slice a2 n' c2, .slice d2 m' e2] 37)
  have q1 := two_1 w (.cells #[.slice a1 n c1, .slice d1 m e1] 37) (.cells #[.slice a2 n' c2, .slice d2 m' e2] 37)
  have hz : w.heap.size + 1 < ((w.alloc (.cells #[.slice a1 n c1, .slice d1 m e1] 37)).alloc (.cells #[.slice a2 n' c2, .slice d2 m' e2] 37)).heap.size := by simp
  by_cases hn : ¬ n = n'
  · have dq : ((n : Int) != (n' : Int)) = true := by simp; omega
    have HR : Hid (V = false) := HV2.out.trans (by rw [decide_eq_false hn]; rfl)
    clear HV2 HP q0 q1 hz hn
    go_enter Try.func16, Try.ntmps16
    go_wp2
    go_ret
    exact ⟨by rw [HR.out]; rfl, HB.out⟩
  replace hn := Decidable.not_not.1 hn
  subst hn
  have dn : ((n : Int) != (n : Int)) = false := by simp
  by_cases hm : ¬ m = m'
  · have dq : ((m : Int) != (m' : Int)) = true := by simp; omega
    have HR : Hid (V = false) := HV2.out.trans (by rw [decide_eq_false hm]; simp)
    clear HV2 HP q0 q1 hz hm
    go_enter Try.func16, Try.ntmps16
    go_wp2
    go_ret
    exact ⟨by rw [HR.out]; rfl, HB.out⟩
  replace hm := Decidable.not_not.1 hm
  subst hm
  have dm : ((m : Int) != (m : Int)) = false := by simp
  have HV3 : Hid (V = ((List.range n).all (fun i => Sm.node (ps.getD i Pi.no) (qs.getD i Pi.no)) && (List.range m).all (fun i => Sm.rule (rs.getD i Pg.Rl.no) (ss.getD i Pg.Rl.no)))) := HV2.out.trans (by simp)
  clear HV2
  go_enter Try.func16, Try.ntmps16
  go_wp2
  generalize (w.alloc (.cells #[.slice a1 n c1, .slice d1 m e1] 37)).alloc (.cells #[.slice a2 n c2, .slice d2 m e2] 37) = W0 at *
  have HQ : Hid (∀ wr, Below W0.heap.size W0 wr → (wr.cell? ⟨w.heap.size, 0, none⟩ = some (.slice a1 n c1) ∧ wr.cell? ⟨w.heap.size, 1, none⟩ = some (.slice d1 m e1)) ∧ wr.cell? ⟨w.heap.size + 1, 0, none⟩ = some (.slice a2 n c2) ∧ wr.cell? ⟨w.heap.size + 1, 1, none⟩ = some (.slice d2 m e2)) := by
    intro wr hb
    have s0 := (hb.block _ (by omega)).trans q0
    have s1 := (hb.block _ (by omega)).trans q1
    have z0 := blk_cell s0 0
    have z1 := blk_cell s0 1
    have z2 := blk_cell s1 0
    have z3 := blk_cell s1 1
    simp only [List.getElem?_toArray, List.getElem?_cons_zero, List.getElem?_cons_succ] at z0 z1 z2 z3
    exact ⟨⟨z0, z1⟩, z2, z3⟩
  have HZ : Hid (w.heap.size + 1 < W0.heap.size) := hz
  clear q0 q1 dn dm hz
  go_loopw [5] (fun i wr => ∃ j : Nat, i = .int .i64 (j : Int) ∧ j ≤ n ∧ Hid (Below W0.heap.size W0 wr) ∧ Hid (∀ q, q < j → Sm.node (ps.getD q Pi.no) (qs.getD q Pi.no) = true)) (fun i _ => n - (intOf i).toNat)
  case atStart => exact ⟨0, rfl, by omega, Below.refl _ _, fun q hq => by omega⟩
  case round =>
    obtain ⟨j, rfl, hj, HW, HJ⟩ := hrel
    obtain ⟨⟨z0, z1⟩, z2, z3⟩ := HQ.out _ HW.out
    have HWW : Hid (Below w.heap.size w wr) := HB.out.trans (HW.out.mono HB.out.size)
    by_cases hlt : j < n
    · obtain ⟨f1, f2, -, -⟩ := HP.out _ HWW.out
      have b1 := (HS1.out j hlt).1
      have b2 := (HS2.out j hlt).1
      obtain ⟨g1, o1, rfl, l1, t1⟩ := Sm.row f1 HN.out.1.symm hlt
      obtain ⟨g2, o2, rfl, l2, t2⟩ := Sm.row f2 HN.out.2.1.symm hlt
      clear f1 f2
      obtain ⟨p, hp⟩ : ∃ p, p = ps.getD j Pi.no := ⟨_, rfl⟩
      obtain ⟨u, hu⟩ : ∃ u, u = qs.getD j Pi.no := ⟨_, rfl⟩
      rw [← hp] at t1 b1
      rw [← hu] at t2 b2
      have HPJ : Hid (p = ps.getD j Pi.no) := hp
      have HUJ : Hid (u = qs.getD j Pi.no) := hu
      clear hp hu
      obtain ⟨kv1, x0, x1, x2, y1⟩ := t1
      obtain ⟨kv2, v0, v1, v2, y2⟩ := t2
      obtain ⟨p1, p2, p3⟩ := p
      obtain ⟨u1, u2, u3⟩ := u
      simp only at x0 x1 v0 v1 b1 b2 y1 y2
      have KY1 : Hid (∀ W, Below wr.heap.size wr W → KidsAt W kv1 p3) := fun W hb => y1.keep hb
      have KY2 : Hid (∀ W, Below wr.heap.size wr W → KidsAt W kv2 u3) := fun W hb => y2.keep hb
      obtain ⟨ka1, kc1, rfl, -⟩ := y1
      obtain ⟨ka2, kc2, rfl, -⟩ := y2
      obtain ⟨K, hK⟩ : ∃ K, K = p3.length := ⟨_, rfl⟩
      obtain ⟨L, hL⟩ : ∃ L, L = u3.length := ⟨_, rfl⟩
      have HKL : Hid (K = p3.length ∧ L = u3.length) := ⟨hK, hL⟩
      rw [← hK] at b1 KY1 x2
      rw [← hL] at b2 KY2 v2
      clear hK hL
      have BA : Below wr.heap.size wr (wr.alloc (.cells #[.int .i64 p1, .string p2, .slice ka1 K kc1] 59)) := (Below.refl _ _).alloc (Nat.le_refl _) _
      have v0' := (BA.cell l2).trans v0
      have v1' := (BA.cell l2).trans v1
      have v2' := (BA.cell l2).trans v2
      have z2' := (BA.cell (p := ⟨w.heap.size + 1, 0, none⟩) (by show w.heap.size + 1 < wr.heap.size; exact Nat.lt_of_lt_of_le HZ.out HW.out.size)).trans z2
      clear BA
      have i1 : (j : Int) < (n : Int) := by omega
      have i0 : (0 : Int) ≤ (j : Int) := by omega
      have HBW : Hid (Below wr.heap.size wr ((wr.alloc (.cells #[.int .i64 p1, .string p2, .slice ka1 K kc1] 59)).alloc (.cells #[.int .i64 u1, .string u2, .slice ka2 L kc2] 59))) := ((Below.refl _ _).alloc (Nat.le_refl _) _).alloc (by simp) _
      have HNO : Hid (Sm.node ⟨p1, p2, p3⟩ ⟨u1, u2, u3⟩ = false → V = false) := fun hh => HV3.out.trans (by rw [Sm.all_no hlt (by rw [← HPJ.out, ← HUJ.out]; exact hh)]; rfl)
      have HFW : Hid (Below w.heap.size w ((wr.alloc (.cells #[.int .i64 p1, .string p2, .slice ka1 K kc1] 59)).alloc (.cells #[.int .i64 u1, .string u2, .slice ka2 L kc2] 59))) := HWW.out.trans (HBW.out.mono HWW.out.size)
      by_cases c1' : ¬ p1 = u1
      · have dq : (p1 != u1) = true := by simpa using c1'
        have HR : Hid (V = false) := HNO.out (by simp [Sm.node, c1'])
        clear c1' HNO HBW HV3
        go_wp2
        go_ret
        exact ⟨by rw [HR.out]; rfl, HFW.out⟩
      replace c1' := Decidable.not_not.1 c1'
      subst c1'
      have dq1 : (p1 != p1) = false := by simp
      obtain ⟨tb, htb⟩ : ∃ tb, tb = Sm.txt p2 u2 := ⟨_, rfl⟩
      have qt : (p2.toList == u2.toList) = tb := htb.symm
      have HTB : Hid (tb = Sm.txt p2 u2) := htb
      clear htb
      cases tb
      · have HR : Hid (V = false) := HNO.out (by simp [Sm.node, ← HTB.out])
        clear HNO HBW HV3 HTB
        go_wp2
        go_ret
        exact ⟨by rw [HR.out]; rfl, HFW.out⟩
      by_cases c2' : ¬ K = L
      · have dq : ((K : Int) != (L : Int)) = true := by simp; omega
        have HR : Hid (V = false) := HNO.out (by rw [HKL.out.1, HKL.out.2] at c2'; simp [Sm.node, Sm.ints, c2'])
        clear c2' HNO HBW HV3 HTB
        go_wp2
        go_ret
        exact ⟨by rw [HR.out]; rfl, HFW.out⟩
      replace c2' := Decidable.not_not.1 c2'
      subst c2'
      have m0 := two_0 wr (.cells #[.int .i64 p1, .string p2, .slice ka1 K kc1] 59) (.cells #[.int .i64 p1, .string u2, .slice ka2 K kc2] 59)
      have m1 := two_1 wr (.cells #[.int .i64 p1, .string p2, .slice ka1 K kc1] 59) (.cells #[.int .i64 p1, .string u2, .slice ka2 K kc2] 59)
      have dk : ((K : Int) != (K : Int)) = false := by simp
      have hsz2 : wr.heap.size + 1 < ((wr.alloc (.cells #[.int .i64 p1, .string p2, .slice ka1 K kc1] 59)).alloc (.cells #[.int .i64 p1, .string u2, .slice ka2 K kc2] 59)).heap.size := by simp
      go_wp2
      generalize (wr.alloc (.cells #[.int .i64 p1, .string p2, .slice ka1 K kc1] 59)).alloc (.cells #[.int .i64 p1, .string u2, .slice ka2 K kc2] 59) = W2 at *
      have HC2 : Hid (∀ W, Below W2.heap.size W2 W → W.cell? ⟨wr.heap.size, 2, none⟩ = some (.slice ka1 K kc1) ∧ W.cell? ⟨wr.heap.size + 1, 2, none⟩ = some (.slice ka2 K kc2)) := by
        intro W hb
        have s0 := (hb.block _ (by omega)).trans m0
        have s1 := (hb.block _ (by omega)).trans m1
        have y0 := blk_cell s0 2
        have y1 := blk_cell s1 2
        simp only [List.getElem?_toArray, List.getElem?_cons_zero, List.getElem?_cons_succ] at y0 y1
        exact ⟨y0, y1⟩
      have HBW2 : Hid (Below wr.heap.size wr W2) := HBW.out
      have HFU : Hid (Below w.heap.size w W2 ∧ Below W0.heap.size W0 W2) := ⟨HFW.out, HW.out.trans (HBW.out.mono HW.out.size)⟩
      obtain ⟨U, hU⟩ : ∃ U, U = wr := ⟨_, rfl⟩
      subst hU
      clear m0 m1 hsz2 v0 v1 v2 v0' v1' v2' x0 x1 x2 z0 z1 z2 z3 z2' dk qt dq1 HBW
      go_loopw [8] (fun i W => ∃ q : Nat, i = .int .i64 (q : Int) ∧ q ≤ K ∧ Hid (Below W2.heap.size W2 W) ∧ Hid (∀ r, r < q → p3.getD r 0 = u3.getD r 0)) (fun i _ => K - (intOf i).toNat)
      case atStart => exact ⟨0, rfl, by omega, Below.refl _ _, fun r hr => by omega⟩
      case round =>
        obtain ⟨q, rfl, hq, HWQ, HR0⟩ := hrel
        obtain ⟨y1, y2⟩ := HC2.out _ HWQ.out
        have HUW : Hid (Below U.heap.size U wr) := HBW2.out.trans (HWQ.out.mono HBW2.out.size)
        by_cases hqk : q < K
        · obtain ⟨_, _, e1', f1⟩ := KY1.out _ HUW.out
          obtain ⟨_, _, e2', f2⟩ := KY2.out _ HUW.out
          obtain ⟨s1, s2, rfl, t1, r1⟩ := f1 (by rw [← HKL.out.1]; omega)
          obtain ⟨s3, s4, rfl, t2, r2⟩ := f2 (by rw [← HKL.out.2]; omega)
          simp only [Value.slice.injEq] at e1' e2'
          have n1 := r1 q (by rw [← HKL.out.1]; omega)
          have n2 := r2 q (by rw [← HKL.out.2]; omega)
          clear r1 r2 f1 f2 t1 t2
          obtain ⟨rfl, -⟩ := e1'
          obtain ⟨rfl, -⟩ := e2'
          obtain ⟨x, hx⟩ : ∃ x, x = p3.getD q 0 := ⟨_, rfl⟩
          obtain ⟨y, hy⟩ : ∃ y, y = u3.getD q 0 := ⟨_, rfl⟩
          rw [← hx] at n1
          rw [← hy] at n2
          have HXY : Hid (x = p3.getD q 0 ∧ y = u3.getD q 0) := ⟨hx, hy⟩
          clear hx hy
          have i2 : (q : Int) < (K : Int) := by omega
          by_cases hxy : ¬ x = y
          · have dq : (x != y) = true := by simpa using hxy
            have HR : Hid (V = false) := HNO.out (by
              have e : Sm.ints p3 u3 = false := by
                unfold Sm.ints
                rw [Sm.all_no (k := q) (by rw [← HKL.out.1]; exact hqk) (by rw [← HXY.out.1, ← HXY.out.2]; exact decide_eq_false hxy)]
                exact Bool.and_false _
              simp [Sm.node, e])
            have HFF : Hid (Below w.heap.size w wr) := HFU.out.1.trans (HWQ.out.mono HFU.out.1.size)
            clear hxy HNO HXY HV3 HR0
            go_wp2_with fail
            go_quiet (fail)
            go_wp2
            go_ret
            exact ⟨by rw [HR.out]; rfl, below_drewN HFF.out _⟩
          · replace hxy := Decidable.not_not.1 hxy
            subst hxy
            have dq : (x != x) = false := by simp
            have HNX : Hid (∀ r, r < q + 1 → p3.getD r 0 = u3.getD r 0) := fun r hr => by
              by_cases e : r = q
              · subst e; rw [← HXY.out.1, ← HXY.out.2]
              · exact HR0.out r (by omega)
            have HWB : Hid (Below W2.heap.size W2 wr) := HWQ.out
            clear HNO HXY HV3 HR0 HWQ
            go_wp2_with fail
            go_quiet (fail)
            go_wp2
            go_roundw
            case rel => exact ⟨q + 1, by go_num, by omega, below_drewN HWB.out _, HNX.out⟩
            case measure => simp [intOf]; omega
        · obtain rfl : q = K := by omega
          have HJ2 : Hid (∀ r, r < j + 1 → Sm.node (ps.getD r Pi.no) (qs.getD r Pi.no) = true) := fun r hr => by
            by_cases e : r = j
            · subst e
              rw [← HPJ.out, ← HUJ.out]
              have e2 : Sm.ints p3 u3 = true := by
                unfold Sm.ints
                rw [← HKL.out.1, ← HKL.out.2, Sm.all_yes fun r hr => decide_eq_true (HR0.out r hr)]
                simp
              have e3 : Sm.txt p2 u2 = true := HTB.out.symm
              simp [Sm.node, e2, e3]
            · exact HJ.out r (by omega)
          have HWF : Hid (Below W0.heap.size W0 wr) := HFU.out.2.trans (HWQ.out.mono HFU.out.2.size)
          clear HNO HV3 HR0 HTB HJ
          go_wp2
          go_roundw
          case rel => exact ⟨j + 1, by go_num, by omega, HWF.out, HJ2.out⟩
          case measure => simp [intOf]; omega
    · obtain rfl : j = n := by omega
      have HV4 : Hid (V = (List.range m).all (fun i => Sm.rule (rs.getD i Pg.Rl.no) (ss.getD i Pg.Rl.no))) := HV3.out.trans (by rw [Sm.all_yes HJ.out]; rfl)
      clear HV3 HJ
      go_wp2
      obtain ⟨U, hU⟩ : ∃ U, U = wr := ⟨_, rfl⟩
      subst hU
      go_loopw [9] (fun i wr => ∃ q : Nat, i = .int .i64 (q : Int) ∧ q ≤ m ∧ Hid (Below W0.heap.size W0 wr) ∧ Hid (∀ r, r < q → Sm.rule (rs.getD r Pg.Rl.no) (ss.getD r Pg.Rl.no) = true)) (fun i _ => m - (intOf i).toNat)
      case atStart => exact ⟨0, rfl, by omega, HW.out, fun q hq => by omega⟩
      case round =>
        obtain ⟨q, rfl, hq, HWQ, HR0⟩ := hrel
        clear z0 z1 z2 z3
        obtain ⟨⟨z0, z1⟩, z2, z3⟩ := HQ.out _ HWQ.out
        have HFF : Hid (Below w.heap.size w wr) := HB.out.trans (HWQ.out.mono HB.out.size)
        by_cases hqm : q < m
        · obtain ⟨-, -, f1, f2⟩ := HP.out _ HFF.out
          obtain ⟨g1, o1, rfl, l1, t0, t1, t2⟩ := Sm.rlrow f1 HN.out.2.2.1.symm hqm
          obtain ⟨g2, o2, rfl, l2, t3, t4, t5⟩ := Sm.rlrow f2 HN.out.2.2.2.symm hqm
          clear f1 f2
          obtain ⟨p, hp⟩ : ∃ p, p = rs.getD q Pg.Rl.no := ⟨_, rfl⟩
          obtain ⟨u, hu⟩ : ∃ u, u = ss.getD q Pg.Rl.no := ⟨_, rfl⟩
          rw [← hp] at t0 t1 t2
          rw [← hu] at t3 t4 t5
          have HPU : Hid (p = rs.getD q Pg.Rl.no ∧ u = ss.getD q Pg.Rl.no) := ⟨hp, hu⟩
          clear hp hu
          have qn := fun w => neqRule p u w
          have qg := guardRule
          obtain ⟨r, hr⟩ : ∃ r, r = Sm.rule p u := ⟨_, rfl⟩
          rw [← hr] at qn
          have HRL : Hid (r = Sm.rule p u) := hr
          clear hr
          obtain ⟨p1, p2, p3⟩ := p
          obtain ⟨u1, u2, u3⟩ := u
          simp only at t0 t1 t2 t3 t4 t5 qn
          have i1 : (q : Int) < (m : Int) := by omega
          cases r
          · have HR : Hid (V = false) := HV4.out.trans (Sm.all_no hqm (by rw [← HPU.out.1, ← HPU.out.2]; exact HRL.out.symm))
            simp only [Bool.not_false] at qn
            clear HPU HRL HV4 HR0
            go_wp2_with fail
            go_quiet (fail)
            go_wp2
            go_ret
            exact ⟨by rw [HR.out]; rfl, below_drewN HFF.out _⟩
          · have HNX : Hid (∀ r, r < q + 1 → Sm.rule (rs.getD r Pg.Rl.no) (ss.getD r Pg.Rl.no) = true) := fun r h => by
              by_cases e : r = q
              · subst e; rw [← HPU.out.1, ← HPU.out.2]; exact HRL.out.symm
              · exact HR0.out r (by omega)
            simp only [Bool.not_true] at qn
            have HWB : Hid (Below W0.heap.size W0 wr) := HWQ.out
            clear HPU HRL HV4 HR0 HWQ
            go_wp2_with fail
            go_quiet (fail)
            go_wp2
            go_roundw
            case rel => exact ⟨q + 1, by go_num, by omega, below_drewN HWB.out _, HNX.out⟩
            case measure => simp [intOf]; omega
        · obtain rfl : q = m := by omega
          have HR : Hid (V = true) := HV4.out.trans (Sm.all_yes HR0.out)
          clear HV4 HR0
          go_wp2
          go_ret
          exact ⟨by rw [HR.out]; rfl, HFF.out⟩
#print axioms specSame_any
end Go.Proofs.Ytifbgdinjdgdfap
