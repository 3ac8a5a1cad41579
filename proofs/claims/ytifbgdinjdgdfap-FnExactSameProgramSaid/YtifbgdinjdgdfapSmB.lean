/- Are two programs the same: what SameProgram of the program answers. -/
import Derived.Test.YtifbgdinjdgdfapSmA
namespace Go.Proofs.Ytifbgdinjdgdfap
open Go.RowKit

set_option maxHeartbeats 1600000 in
theorem sameNode_any (k1 k2 : Value) (p u : Pi) (w : World) (h1 : KidsAt w k1 p.kids) (h2 : KidsAt w k2 u.kids) (hl : p.kids.length ≤ 1048576) (hl2 : u.kids.length ≤ 1048576) :
    Calls Try.prog 36 #[.agg #[.int .i64 p.op, .string p.text, k1], .agg #[.int .i64 u.op, .string u.text, k2]] w fun e w' => e = .returned (.bool (Sm.node p u)) ∧ Below w.heap.size w w' := by
  obtain ⟨p1, p2, p3⟩ := p
  obtain ⟨u1, u2, u3⟩ := u
  simp only at h1 h2 hl hl2 ⊢
  obtain ⟨V, hV⟩ : ∃ V, V = Sm.node ⟨p1, p2, p3⟩ ⟨u1, u2, u3⟩ := ⟨_, rfl⟩
  obtain ⟨B, hB⟩ : ∃ B, B = Sm.ints p3 u3 := ⟨_, rfl⟩
  have HV : Hid (V = (decide (p1 = u1) && (Sm.txt p2 u2 && B))) := by rw [hV, hB]; rfl
  have CC : Hid (∀ W, Below w.heap.size w W → Calls Try.prog 61 #[k1, k2] W fun e w' => e = .returned (.bool B) ∧ Below W.heap.size W w') := fun W hb => by rw [hB]; exact equalInts_any k1 k2 p3 u3 W (h1.keep hb) (h2.keep hb) hl hl2
  rw [← hV]
  clear hV hB
  obtain ⟨a1, c1, rfl, -⟩ := h1
  obtain ⟨a2, c2, rfl, -⟩ := h2
  have HB : Hid (Below w.heap.size w ((w.alloc (.cells #[.int .i64 p1, .string p2, .slice a1 p3.length c1] 59)).alloc (.cells #[.int .i64 u1, .string u2, .slice a2 u3.length c2] 59))) := ((Below.refl _ _).alloc (Nat.le_refl _) _).alloc (by simp) _
  obtain ⟨tb, htb⟩ : ∃ tb, tb = Sm.txt p2 u2 := ⟨_, rfl⟩
  rw [← htb] at HV
  have qt : (p2.toList == u2.toList) = tb := htb.symm
  clear htb
  by_cases hop : p1 = u1
  · have dop : (p1 == u1) = true := by simpa using hop
    cases tb
    · have HR : Hid (V = false) := HV.out.trans (by simp)
      clear HV CC hop
      go_enter Try.func36, Try.ntmps36
      go_wp2
      go_ret
      exact ⟨by rw [HR.out]; rfl, HB.out⟩
    · have HR : Hid (V = B) := HV.out.trans (by simp [hop])
      clear HV hop
      go_enter Try.func36, Try.ntmps36
      go_wp2_with fail
      refine (CC.out _ HB.out).mono ?_
      rintro e w1 ⟨rfl, hb1⟩
      go_wp2
      go_ret
      exact ⟨by rw [HR.out]; rfl, HB.out.trans (hb1.mono HB.out.size)⟩
  · have dop : (p1 == u1) = false := by simpa using hop
    have HR : Hid (V = false) := HV.out.trans (by simp [hop])
    clear HV CC hop
    go_enter Try.func36, Try.ntmps36
    go_wp2
    go_ret
    exact ⟨by rw [HR.out]; rfl, HB.out⟩

set_option maxHeartbeats 1600000 in
theorem equalNodes_any (v1 v2 : Value) (ps qs : List Pi) (w : World) (h1 : PcsAt w v1 ps) (h2 : PcsAt w v2 qs) (hl : ps.length ≤ 1048576) (hl2 : qs.length ≤ 1048576) (hs : Small ps ps.length) (hs2 : Small qs qs.length) :
    Calls Try.prog 35 #[v1, v2, .func (.func 36) #[] #[]] w fun e w' => e = .returned (.bool (Sm.nodes ps qs)) ∧ Below w.heap.size w w' := by
  obtain ⟨a1, c1, rfl, f1⟩ := h1
  obtain ⟨a2, c2, rfl, f2⟩ := h2
  obtain ⟨n, hn⟩ : ∃ n, n = ps.length := ⟨_, rfl⟩
  obtain ⟨m, hm⟩ : ∃ m, m = qs.length := ⟨_, rfl⟩
  obtain ⟨V, hV⟩ : ∃ V, V = Sm.nodes ps qs := ⟨_, rfl⟩
  have HV : Hid (V = (decide (n = m) && (List.range n).all fun i => Sm.node (ps.getD i Pi.no) (qs.getD i Pi.no))) := by rw [hV, hn, hm]; rfl
  have HS1 : Hid (Small ps n) := by rw [hn]; exact hs
  have HS2 : Hid (Small qs m) := by rw [hm]; exact hs2
  rw [← hV]
  rw [← hn] at f1 hl ⊢
  rw [← hm] at f2 hl2 ⊢
  clear hV hs hs2
  by_cases hq : n = m
  · subst hq
    have dq : ((n : Int) != (n : Int)) = false := by simp
    by_cases h0 : n = 0
    · subst h0
      have HR : Hid (V = true) := HV.out.trans rfl
      clear f1 f2 hn hm HV
      go_enter Try.func35, Try.ntmps35
      go_wp2
      refine wp_loop_rounds 1 ?_
      rw [rounds_succ]
      go_wp2
      go_ret
      exact ⟨by rw [HR.out]; rfl, Below.refl _ _⟩
    · obtain ⟨g1, o1, rfl, l1, k1⟩ := f1 (by omega)
      obtain ⟨g2, o2, rfl, l2, k2⟩ := f2 (by omega)
      have K1 : Hid (∀ j, j < n → PieceAt w g1 (o1 + j * 3) (ps.getD j Pi.no)) := k1
      have K2 : Hid (∀ j, j < n → PieceAt w g2 (o2 + j * 3) (qs.getD j Pi.no)) := k2
      clear k1 k2 f1 f2 hn hm
      go_enter Try.func35, Try.ntmps35
      go_wp2
      go_loopw [17] (fun i wr => ∃ k : Nat, i = .int .i64 (k : Int) ∧ k ≤ n ∧ Below w.heap.size w wr ∧ Hid (∀ q, q < k → Sm.node (ps.getD q Pi.no) (qs.getD q Pi.no) = true)) (fun i _ => n - (intOf i).toNat)
      case atStart => exact ⟨0, rfl, by omega, Below.refl _ _, fun q hq => by omega⟩
      case round =>
        obtain ⟨k, rfl, hk, hbel, HQ⟩ := hrel
        have hsz := hbel.size
        by_cases hlt : k < n
        · have q1 := (K1.out k hlt).keep l1 hbel
          have q2 := (K2.out k hlt).keep l2 hbel
          have b1 := (HS1.out k hlt).1
          have b2 := (HS2.out k hlt).1
          obtain ⟨p, hp⟩ : ∃ p, p = ps.getD k Pi.no := ⟨_, rfl⟩
          obtain ⟨u, hu⟩ : ∃ u, u = qs.getD k Pi.no := ⟨_, rfl⟩
          rw [← hp] at q1 b1
          rw [← hu] at q2 b2
          have HP : Hid (p = ps.getD k Pi.no) := hp
          have HU : Hid (u = qs.getD k Pi.no) := hu
          clear hp hu
          obtain ⟨kv1, x0, x1, x2, y1⟩ := q1
          obtain ⟨kv2, z0, z1, z2, y2⟩ := q2
          obtain ⟨r, hr⟩ : ∃ r, r = Sm.node p u := ⟨_, rfl⟩
          have CC : Hid (∀ w', Below wr.heap.size wr w' → Calls Try.prog 36 #[.agg #[.int .i64 p.op, .string p.text, kv1], .agg #[.int .i64 u.op, .string u.text, kv2]] w' fun e w'' => e = .returned (.bool r) ∧ Below w'.heap.size w' w'') :=
            fun w' hb => by rw [hr]; exact sameNode_any kv1 kv2 p u w' (y1.keep hb) (y2.keep hb) b1 b2
          have HRL : Hid (r = Sm.node p u) := hr
          clear hr
          obtain ⟨p1, p2, p3⟩ := p
          obtain ⟨u1, u2, u3⟩ := u
          simp only at x0 x1 z0 z1 CC
          obtain ⟨ka1, kc1, rfl, -⟩ := y1
          obtain ⟨ka2, kc2, rfl, -⟩ := y2
          have HBW : Hid (Below wr.heap.size wr ((wr.alloc (.cells #[.int .i64 p1, .string p2, .slice ka1 p3.length kc1] 59)).alloc (.cells #[.int .i64 u1, .string u2, .slice ka2 u3.length kc2] 59))) := ((Below.refl _ _).alloc (Nat.le_refl _) _).alloc (by simp) _
          have i1 : (k : Int) < (n : Int) := by omega
          have i0 : (0 : Int) ≤ (k : Int) := by omega
          have l2' : g2 < wr.heap.size := by omega
          have BA : Below wr.heap.size wr (wr.alloc (.cells #[.int .i64 p1, .string p2, .slice ka1 p3.length kc1] 59)) := (Below.refl _ _).alloc (Nat.le_refl _) _
          have z0' := (BA.cell l2').trans z0
          have z1' := (BA.cell l2').trans z1
          have z2' := (BA.cell l2').trans z2
          clear BA
          cases r
          · have HR : Hid (V = false) := HV.out.trans (by rw [Sm.all_no hlt (by rw [← HP.out, ← HU.out]; exact HRL.out.symm)]; exact Bool.and_false _)
            go_wp2_with fail
            refine (CC.out _ HBW.out).mono ?_
            rintro e w1 ⟨rfl, hb1⟩
            go_wp2
            go_ret
            exact ⟨by rw [HR.out]; rfl, hbel.trans ((HBW.out.trans (hb1.mono HBW.out.size)).mono hsz)⟩
          · have HN : Hid (∀ q, q < k + 1 → Sm.node (ps.getD q Pi.no) (qs.getD q Pi.no) = true) := fun q h => by
              by_cases e : q = k
              · subst e; rw [← HP.out, ← HU.out]; exact HRL.out.symm
              · exact HQ.out q (by omega)
            go_wp2_with fail
            refine (CC.out _ HBW.out).mono ?_
            rintro e w1 ⟨rfl, hb1⟩
            go_wp2
            go_roundw
            case rel => exact ⟨k + 1, by go_num, by omega, hbel.trans ((HBW.out.trans (hb1.mono HBW.out.size)).mono hsz), HN.out⟩
            case measure => simp [intOf]; omega
        · obtain rfl : k = n := by omega
          have HR : Hid (V = true) := HV.out.trans (by rw [Sm.all_yes HQ.out]; simp)
          go_wp2
          go_ret
          exact ⟨by rw [HR.out]; rfl, hbel⟩
  · have dq : ((n : Int) != (m : Int)) = true := by simp; omega
    have HR : Hid (V = false) := HV.out.trans (by rw [decide_eq_false hq]; rfl)
    clear f1 f2 hn hm HV
    go_enter Try.func35, Try.ntmps35
    go_wp2
    go_ret
    exact ⟨by rw [HR.out]; rfl, Below.refl _ _⟩

set_option maxHeartbeats 1600000 in
theorem implSame_any (va ra vb rb : Value) (ps qs : List Pi) (rs ss : List Pg.Rl) (w : World) (h1 : PcsAt w va ps) (g1 : RlsAt w ra rs) (h2 : PcsAt w vb qs) (g2 : RlsAt w rb ss) (hl : ps.length ≤ 1048576) (hl2 : qs.length ≤ 1048576) (hs : Small ps ps.length) (hs2 : Small qs qs.length) (hr : rs.length ≤ 1048576) (hr2 : ss.length ≤ 1048576) :
    Calls Try.prog 17 #[.agg #[va, ra], .agg #[vb, rb]] w fun e w' => e = .returned (.bool (Sm.nodes ps qs && Sm.rules rs ss)) ∧ Below w.heap.size w w' := by
  obtain ⟨X, hX⟩ : ∃ X, X = Sm.nodes ps qs := ⟨_, rfl⟩
  obtain ⟨Y, hY⟩ : ∃ Y, Y = Sm.rules rs ss := ⟨_, rfl⟩
  have CC : Hid (∀ W, Below w.heap.size w W → Calls Try.prog 35 #[va, vb, .func (.func 36) #[] #[]] W fun e w' => e = .returned (.bool X) ∧ Below W.heap.size W w') := fun W hb => by rw [hX]; exact equalNodes_any va vb ps qs W (h1.keep hb) (h2.keep hb) hl hl2 hs hs2
  have CR : Hid (∀ W, Below w.heap.size w W → Calls Try.prog 37 #[ra, rb] W fun e w' => e = .returned (.bool Y) ∧ Below W.heap.size W w') := fun W hb => by rw [hY]; exact equalRules_any ra rb rs ss W (g1.keep hb) (g2.keep hb) hr hr2
  rw [← hX, ← hY]
  clear hX hY hs hs2
  obtain ⟨a1, c1, rfl, -⟩ := h1
  obtain ⟨a2, c2, rfl, -⟩ := h2
  obtain ⟨d1, e1, rfl, -⟩ := g1
  obtain ⟨d2, e2, rfl, -⟩ := g2
  have HB : Hid (Below w.heap.size w ((w.alloc (.cells #[.slice a1 ps.length c1, .slice d1 rs.length e1] 37)).alloc (.cells #[.slice a2 qs.length c2, .slice d2 ss.length e2] 37))) := ((Below.refl _ _).alloc (Nat.le_refl _) _).alloc (by simp) _
  cases X
  · go_enter Try.func17, Try.ntmps17
    go_wp2_with fail
    refine (CC.out _ HB.out).mono ?_
    rintro e w1 ⟨rfl, hb1⟩
    go_wp2
    go_ret
    exact ⟨rfl, HB.out.trans (hb1.mono HB.out.size)⟩
  · go_enter Try.func17, Try.ntmps17
    go_wp2_with fail
    refine (CC.out _ HB.out).mono ?_
    rintro e w1 ⟨rfl, hb1⟩
    have x1 : w1.cell? ⟨w.heap.size, 1, none⟩ = some (.slice d1 rs.length e1) := (hb1.cell (by simp; omega)).trans (by simp)
    have x2 : w1.cell? ⟨w.heap.size + 1, 1, none⟩ = some (.slice d2 ss.length e2) := (hb1.cell (by simp)).trans (by simp)
    have HB1 : Hid (Below w.heap.size w w1) := HB.out.trans (hb1.mono (by simp; omega))
    clear hb1 CC
    go_wp2_with fail
    refine (CR.out _ HB1.out).mono ?_
    rintro e w2 ⟨rfl, hb2⟩
    go_wp2
    go_ret
    exact ⟨by cases Y <;> rfl, HB1.out.trans (hb2.mono HB1.out.size)⟩
#print axioms implSame_any
end Go.Proofs.Ytifbgdinjdgdfap
