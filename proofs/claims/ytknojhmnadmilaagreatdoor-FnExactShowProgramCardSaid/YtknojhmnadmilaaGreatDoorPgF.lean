/- The specification of ProgramOk, at every program. -/
import Derived.Test.YtknojhmnadmilaaGreatDoorPgE
namespace Go.Proofs.YtknojhmnadmilaaGreatDoor
open Go.RowKit

set_option maxHeartbeats 4000000 in
set_option maxRecDepth 100000 in
theorem spProgOk (v rv : Value) (ps : List Pi) (rs : List Pg.Rl) (w : World) (h : PcsAt w v ps) (hr : RlsAt w rv rs) (hl : ps.length ≤ 1048576) (hl2 : rs.length ≤ 1048576) (hsm : Small ps ps.length) :
    Calls Tryz.prog 11 #[.agg #[v, rv]] w fun e w' => e = .returned (.bool (Pg.ok ps rs)) ∧ Below w.heap.size w w' := by
  have HC : Hid (∀ i W, i < ps.length → ps.length ≤ 200 → Below w.heap.size w W → Calls Tryz.prog 26 #[.agg #[v, rv], .int .i64 (i : Int)] W fun e w' => e = .returned (.bool (Pg.node ps i)) ∧ Below W.heap.size W w') := by
    intro i W hi h200 hb
    obtain ⟨ra, rc, e, _⟩ := id hr
    rw [e]
    exact spNode v ps ra _ rc i W (h.keep hb) hi (by omega) (hsm i hi).1 (hsm i hi).2
  have HR : Hid (∀ W, Below w.heap.size w W → RlsAt W rv rs) := fun W hb => hr.keep hb
  have HP : Hid (∀ W, Below w.heap.size w W → PcsAt W v ps) := fun W hb => h.keep hb
  obtain ⟨va, vc, rfl, -⟩ := h
  obtain ⟨ra, rc, rfl, -⟩ := hr
  obtain ⟨n, hn⟩ : ∃ n, n = ps.length := ⟨_, rfl⟩
  obtain ⟨k, hk⟩ : ∃ k, k = rs.length := ⟨_, rfl⟩
  obtain ⟨V, hV⟩ : ∃ V, V = Pg.ok ps rs := ⟨_, rfl⟩
  rw [← hV]
  have HV : Hid (V = (decide (n ≤ 200) && decide (k ≤ 12) && (List.range n).all (Pg.node ps) && rs.all (Pg.rule ps))) := by rw [hV, hn, hk]; rfl
  rw [← hn] at HC HP hl
  rw [← hk] at HR hl2 HC
  rw [← hn, ← hk]
  have HK : Hid (k = rs.length) := hk
  have HN : Hid (n = ps.length) := hn
  clear hV hn hk hsm
  have bA : Below w.heap.size w (w.alloc (.cells #[.slice va n vc, .slice ra k rc] 32)) := (Below.refl _ _).alloc (Nat.le_refl _) _
  have q0 := heap_alloc_new w (.cells #[.slice va n vc, .slice ra k rc] 32)
  have HA : Hid (Below w.heap.size w (w.alloc (.cells #[.slice va n vc, .slice ra k rc] 32))) := bA
  have hsz : w.heap.size < (w.alloc (.cells #[.slice va n vc, .slice ra k rc] 32)).heap.size := by simp
  clear bA
  by_cases h1 : 200 < n
  · have d1 : decide ((200 : Int) < (n : Int)) = true := decide_eq_true (by omega)
    have HF : Hid (V = false) := by show _ = _; rw [HV.out, decide_eq_false (by omega : ¬ n ≤ 200)]; rfl
    clear HV HC HR HP q0
    go_enter Tryz.func11, Tryz.ntmps11
    go_wp2
    go_ret
    exact ⟨by rw [HF.out]; rfl, HA.out⟩
  have d1 : decide ((200 : Int) < (n : Int)) = false := decide_eq_false (by omega)
  by_cases h2 : 12 < k
  · have d2 : decide ((12 : Int) < (k : Int)) = true := decide_eq_true (by omega)
    have HF : Hid (V = false) := by show _ = _; rw [HV.out, decide_eq_false (by omega : ¬ k ≤ 12)]; simp
    clear HV HC HR HP q0
    go_enter Tryz.func11, Tryz.ntmps11
    go_wp2
    go_ret
    exact ⟨by rw [HF.out]; rfl, HA.out⟩
  have d2 : decide ((12 : Int) < (k : Int)) = false := decide_eq_false (by omega)
  have HV2 : Hid (V = ((List.range n).all (Pg.node ps) && rs.all (Pg.rule ps))) := by show _ = _; rw [HV.out, decide_eq_true (by omega : n ≤ 200), decide_eq_true (by omega : k ≤ 12)]; rfl
  have h200 : n ≤ 200 := by omega
  have h12 : k ≤ 12 := by omega
  clear HV h1 h2
  go_enter Tryz.func11, Tryz.ntmps11
  go_wp2
  generalize w.alloc (.cells #[.slice va n vc, .slice ra k rc] 32) = W0 at *
  have HQ : Hid (∀ wr, Below W0.heap.size W0 wr → wr.cell? ⟨w.heap.size, 0, none⟩ = some (.slice va n vc) ∧ wr.cell? ⟨w.heap.size, 1, none⟩ = some (.slice ra k rc)) := by
    intro wr hb
    have s0 := (hb.block _ hsz).trans q0
    have z0 := blk_cell s0 0
    have z1 := blk_cell s0 1
    simp only [List.getElem?_toArray, List.getElem?_cons_zero, List.getElem?_cons_succ] at z0 z1
    exact ⟨z0, z1⟩
  clear q0 d1 d2 hsz
  go_loopw [3] (fun i wr => ∃ j : Nat, i = .int .i64 (j : Int) ∧ j ≤ n ∧ Hid (Below W0.heap.size W0 wr) ∧ Hid (∀ q, q < j → Pg.node ps q = true)) (fun i _ => n - (intOf i).toNat)
  case atStart => exact ⟨0, rfl, by omega, Below.refl _ _, fun q hq => by omega⟩
  case round =>
    obtain ⟨j, rfl, hj, HW, HJ⟩ := hrel
    obtain ⟨z0, z1⟩ := HQ.out wr HW.out
    by_cases hlt : j < n
    · have dj : decide ((j : Int) < (n : Int)) = true := decide_eq_true (by omega)
      have C := HC.out j wr hlt h200 (HA.out.trans (HW.out.mono HA.out.size))
      cases hnd : Pg.node ps j with
      | false =>
        rw [hnd] at C
        have C2 : Hid (Calls Tryz.prog 26 #[.agg #[.slice va n vc, .slice ra k rc], .int .i64 (j : Int)] wr fun e w' => e = .returned (.bool false) ∧ Below wr.heap.size wr w') := C
        have HF : Hid (V = false) := by
          show _ = _
          rw [HV2.out, show (List.range n).all (Pg.node ps) = false from List.all_eq_false.2 ⟨j, List.mem_range.2 hlt, by rw [hnd]; simp⟩]
          rfl
        clear C hnd HV2 HJ
        go_wp2_with fail
        refine C2.out.mono ?_
        rintro e w2 ⟨rfl, b2⟩
        have HE : Hid (Below w.heap.size w w2) := (HA.out.trans (HW.out.mono HA.out.size)).trans (b2.mono (HA.out.trans (HW.out.mono HA.out.size)).size)
        clear b2 C2 z0 z1
        go_wp2
        go_ret
        exact ⟨by rw [HF.out]; rfl, HE.out⟩
      | true =>
        rw [hnd] at C
        have C2 : Hid (Calls Tryz.prog 26 #[.agg #[.slice va n vc, .slice ra k rc], .int .i64 (j : Int)] wr fun e w' => e = .returned (.bool true) ∧ Below wr.heap.size wr w') := C
        have HN2 : Hid (∀ q, q < j + 1 → Pg.node ps q = true) := by
          intro q hq
          by_cases e : q = j
          · subst e; exact hnd
          · exact HJ.out q (by omega)
        clear C hnd HV2 HJ
        go_wp2_with fail
        refine C2.out.mono ?_
        rintro e w2 ⟨rfl, b2⟩
        have HW2 : Hid (Below W0.heap.size W0 w2) := HW.out.trans (b2.mono HW.out.size)
        clear b2 C2 z0 z1
        go_wp2
        go_roundw
        case rel => exact ⟨j + 1, by go_num, by omega, HW2.out, HN2.out⟩
        case measure => simp [intOf]; omega
    · obtain rfl : j = n := by omega
      have dj : decide ((j : Int) < (j : Int)) = false := decide_eq_false (by omega)
      have HV3 : Hid (V = rs.all (Pg.rule ps)) := by
        show _ = _
        rw [HV2.out, show (List.range j).all (Pg.node ps) = true from List.all_eq_true.2 fun q hq => HJ.out q (List.mem_range.1 hq)]
        rfl
      clear HV2 HJ HC
      go_wp2
      go_loopw [4, 5] (fun i _ wr => ∃ q : Nat, i = .int .i64 (q : Int) ∧ q ≤ k ∧ Hid (Below W0.heap.size W0 wr) ∧ Hid (∀ x, x < q → Pg.rule ps (rs.getD x Pg.Rl.no) = true)) (fun i _ _ => k - (intOf i).toNat)
      case atStart => exact ⟨0, rfl, by omega, HW.out, fun x hx => by omega⟩
      case round =>
        clear z0 z1
        obtain ⟨q, rfl, hq, HW3, HJ3⟩ := hrel
        obtain ⟨z0, z1⟩ := HQ.out wr HW3.out
        by_cases hlq : q < k
        · have hq1 : (q : Int) < (k : Int) := by omega
          have dq : decide ((q : Int) < (k : Int)) = true := decide_eq_true hq1
          obtain ⟨_, _, e, fr⟩ := HR.out wr (HA.out.trans (HW3.out.mono HA.out.size))
          simp only [Value.slice.injEq] at e
          obtain ⟨rfl, -, rfl⟩ := e
          obtain ⟨rb, ro, rfl, hrb, hrc⟩ := fr (by rw [← HK.out]; omega)
          obtain ⟨c0, c1, c2⟩ := hrc q (by rw [← HK.out]; exact hlq)
          generalize hrq : rs.getD q Pg.Rl.no = rl at *
          obtain ⟨rw0, rc0, ra0⟩ := rl
          simp only at c0 c1 c2
          clear fr hrc
          have C1 : Hid (∀ w, Calls Tryz.prog 27 #[.int .i64 rw0, .int .i64 1, .int .i64 3] w fun e w' => e = .returned (.bool (decide (1 ≤ rw0 ∧ rw0 ≤ 3))) ∧ w' = w) := fun w => sIn_any rw0 1 3 w
          have C2 : Hid (∀ w, Calls Tryz.prog 27 #[.int .i64 ra0, .int .i64 0, .int .i64 ((j : Int) - 1)] w fun e w' => e = .returned (.bool (decide (0 ≤ ra0 ∧ ra0 ≤ (j : Int) - 1))) ∧ w' = w) := fun w => sIn_any ra0 0 ((j : Int) - 1) w
          have HW4 : Hid (Below W0.heap.size W0 (wr.alloc (.cells #[.int .i64 rw0, .int .i64 rc0, .int .i64 ra0] 41))) := HW3.out.alloc HW3.out.size _
          have qr := heap_alloc_new wr (.cells #[.int .i64 rw0, .int .i64 rc0, .int .i64 ra0] 41)
          go_wp2_with fail
          generalize wr.alloc (.cells #[.int .i64 rw0, .int .i64 rc0, .int .i64 ra0] 41) = W1 at *
          generalize wr.heap.size = R at *
          have y0 := blk_cell qr 0
          have y1 := blk_cell qr 1
          have y2 := blk_cell qr 2
          simp only [List.getElem?_toArray, List.getElem?_cons_zero, List.getElem?_cons_succ] at y0 y1 y2
          obtain ⟨z2, z3⟩ := HQ.out W1 HW4.out
          have HE : Hid (Below w.heap.size w W1) := HA.out.trans (HW4.out.mono HA.out.size)
          have HOP : Hid (∀ x, x < j → ∃ b o, va = some ⟨b, o, none⟩ ∧ W1.cell? ⟨b, o + x * 3, none⟩ = some (.int .i64 (ps.getD x Pi.no).op)) := by
            intro x hx
            obtain ⟨_, _, e, fp⟩ := HP.out W1 HE.out
            simp only [Value.slice.injEq] at e
            obtain ⟨rfl, -, -⟩ := e
            obtain ⟨b, o, e2, hb, hc⟩ := fp (by rw [← HN.out]; omega)
            obtain ⟨_, k0, _⟩ := hc x (by rw [← HN.out]; exact hx)
            exact ⟨b, o, e2, k0⟩
          clear z0 z1 c0 c1 c2 qr
          have HRULE : Hid (Pg.rule ps (rs.getD q Pg.Rl.no) = (decide (1 ≤ rw0 ∧ rw0 ≤ 3) && decide (0 ≤ ra0 ∧ ra0 ≤ (j : Int) - 1) && decide ((ps.getD ra0.toNat Pi.no).op = 24) && (decide (rc0 = -1) || (decide (rw0 = 2) && decide (0 ≤ rc0 ∧ rc0 ≤ (j : Int) - 1) && Pg.ex (ps.getD rc0.toNat Pi.no).op)))) := by
            show _ = _
            rw [hrq, HN.out]
            rfl
          clear hrq
          have HMEM : Hid (rs.getD q Pg.Rl.no ∈ rs) := by
            have hq2 : q < rs.length := by rw [← HK.out]; exact hlq
            show rs.getD q Pg.Rl.no ∈ rs
            rw [List.getD_eq_getElem?_getD, List.getElem?_eq_getElem hq2]
            exact List.getElem_mem _
          by_cases hA : 1 ≤ rw0 ∧ rw0 ≤ 3
          · rw [decide_eq_true hA] at C1 HRULE
            by_cases hB : 0 ≤ ra0 ∧ ra0 ≤ (j : Int) - 1
            · rw [decide_eq_true hB] at C2 HRULE
              obtain ⟨an, rfl⟩ : ∃ an : Nat, ra0 = (an : Int) := ⟨ra0.toNat, by omega⟩
              have han : an < j := by omega
              have han1 : (an : Int) < (j : Int) := by omega
              obtain ⟨vb, vo, rfl, t0⟩ := HOP.out an han
              rw [show ((an : Int)).toNat = an by omega] at HRULE
              generalize (ps.getD an Pi.no).op = oa at *
              by_cases h24 : oa = 24
              · have e24 : (oa != 24) = false := by rw [h24]; rfl
                by_cases hm1 : rc0 = -1
                · have em : (rc0 != -1) = false := by rw [hm1]; rfl
                  have HN3 : Hid (∀ x, x < q + 1 → Pg.rule ps (rs.getD x Pg.Rl.no) = true) := by
                    intro x hx
                    by_cases e : x = q
                    · subst e; rw [HRULE.out]; simp [h24, hm1]
                    · exact HJ3.out x (by omega)
                  clear HV3 HRULE HJ3 HMEM hA hB h24 hm1 HOP
                  refine (C1.out _).mono ?_
                  rintro e w5 ⟨rfl, rfl⟩
                  go_wp2_with fail
                  refine (C2.out _).mono ?_
                  rintro e w5 ⟨rfl, rfl⟩
                  go_wp2_with fail
                  go_roundw
                  case rel => exact ⟨q + 1, by go_num, by omega, HW4.out, HN3.out⟩
                  case measure => simp [intOf]; omega
                · have em : (rc0 != -1) = true := by simpa using hm1
                  by_cases hw2 : rw0 = 2
                  · have ew : (rw0 != 2) = false := by rw [hw2]; rfl
                    have C3 : Hid (∀ w, Calls Tryz.prog 27 #[.int .i64 rc0, .int .i64 0, .int .i64 ((j : Int) - 1)] w fun e w' => e = .returned (.bool (decide (0 ≤ rc0 ∧ rc0 ≤ (j : Int) - 1))) ∧ w' = w) := fun w => sIn_any rc0 0 ((j : Int) - 1) w
                    by_cases hC : 0 ≤ rc0 ∧ rc0 ≤ (j : Int) - 1
                    · rw [decide_eq_true hC] at C3 HRULE
                      obtain ⟨cn, rfl⟩ : ∃ cn : Nat, rc0 = (cn : Int) := ⟨rc0.toNat, by omega⟩
                      have hcn : cn < j := by omega
                      have hcn1 : (cn : Int) < (j : Int) := by omega
                      obtain ⟨vb2, vo2, ev, t1⟩ := HOP.out cn hcn
                      simp only [Option.some.injEq, Addr.mk.injEq, and_true] at ev
                      obtain ⟨rfl, rfl⟩ := ev
                      rw [show ((cn : Int)).toNat = cn by omega] at HRULE
                      generalize (ps.getD cn Pi.no).op = oc at *
                      have CX : Hid (∀ w, Calls Tryz.prog 28 #[.int .i64 oc] w fun e w' => e = .returned (.bool (Pg.ex oc)) ∧ w' = w) := fun w => spEx oc w
                      cases hex : Pg.ex oc with
                      | true =>
                        rw [hex] at CX HRULE
                        have HN3 : Hid (∀ x, x < q + 1 → Pg.rule ps (rs.getD x Pg.Rl.no) = true) := by
                          intro x hx
                          by_cases e : x = q
                          · subst e; rw [HRULE.out]; simp [h24, hw2]
                          · exact HJ3.out x (by omega)
                        clear HV3 HRULE HJ3 HMEM hA hB h24 hm1 hw2 hC hex HOP
                        refine (C1.out _).mono ?_
                        rintro e w5 ⟨rfl, rfl⟩
                        go_wp2_with fail
                        refine (C2.out _).mono ?_
                        rintro e w5 ⟨rfl, rfl⟩
                        go_wp2_with fail
                        refine (C3.out _).mono ?_
                        rintro e w5 ⟨rfl, rfl⟩
                        go_wp2_with fail
                        refine (CX.out _).mono ?_
                        rintro e w5 ⟨rfl, rfl⟩
                        go_wp2_with fail
                        go_roundw
                        case rel => exact ⟨q + 1, by go_num, by omega, HW4.out, HN3.out⟩
                        case measure => simp [intOf]; omega
                      | false =>
                        rw [hex] at CX HRULE
                        have HF : Hid (V = false) := by
                          show _ = _
                          rw [HV3.out]
                          exact List.all_eq_false.2 ⟨_, HMEM.out, by rw [HRULE.out]; simp [hm1]⟩
                        clear HV3 HRULE HJ3 HMEM hA hB h24 hm1 hw2 hC hex HOP
                        refine (C1.out _).mono ?_
                        rintro e w5 ⟨rfl, rfl⟩
                        go_wp2_with fail
                        refine (C2.out _).mono ?_
                        rintro e w5 ⟨rfl, rfl⟩
                        go_wp2_with fail
                        refine (C3.out _).mono ?_
                        rintro e w5 ⟨rfl, rfl⟩
                        go_wp2_with fail
                        refine (CX.out _).mono ?_
                        rintro e w5 ⟨rfl, rfl⟩
                        go_wp2_with fail
                        go_ret
                        exact ⟨by rw [HF.out]; rfl, HE.out⟩
                    · rw [decide_eq_false hC] at C3 HRULE
                      have HF : Hid (V = false) := by
                        show _ = _
                        rw [HV3.out]
                        exact List.all_eq_false.2 ⟨_, HMEM.out, by rw [HRULE.out]; simp [hm1]⟩
                      clear HV3 HRULE HJ3 HMEM hA hB h24 hm1 hw2 hC HOP
                      refine (C1.out _).mono ?_
                      rintro e w5 ⟨rfl, rfl⟩
                      go_wp2_with fail
                      refine (C2.out _).mono ?_
                      rintro e w5 ⟨rfl, rfl⟩
                      go_wp2_with fail
                      refine (C3.out _).mono ?_
                      rintro e w5 ⟨rfl, rfl⟩
                      go_wp2_with fail
                      go_ret
                      exact ⟨by rw [HF.out]; rfl, HE.out⟩
                  · have ew : (rw0 != 2) = true := by simpa using hw2
                    have HF : Hid (V = false) := by
                      show _ = _
                      rw [HV3.out]
                      exact List.all_eq_false.2 ⟨_, HMEM.out, by rw [HRULE.out]; simp [hm1, hw2]⟩
                    clear HV3 HRULE HJ3 HMEM hA hB h24 hm1 hw2 HOP
                    refine (C1.out _).mono ?_
                    rintro e w5 ⟨rfl, rfl⟩
                    go_wp2_with fail
                    refine (C2.out _).mono ?_
                    rintro e w5 ⟨rfl, rfl⟩
                    go_wp2_with fail
                    go_ret
                    exact ⟨by rw [HF.out]; rfl, HE.out⟩
              · have e24 : (oa != 24) = true := by simpa using h24
                have HF : Hid (V = false) := by
                  show _ = _
                  rw [HV3.out]
                  exact List.all_eq_false.2 ⟨_, HMEM.out, by rw [HRULE.out]; simp [h24]⟩
                clear HV3 HRULE HJ3 HMEM hA hB h24 HOP
                refine (C1.out _).mono ?_
                rintro e w5 ⟨rfl, rfl⟩
                go_wp2_with fail
                refine (C2.out _).mono ?_
                rintro e w5 ⟨rfl, rfl⟩
                go_wp2_with fail
                go_ret
                exact ⟨by rw [HF.out]; rfl, HE.out⟩
            · rw [decide_eq_false hB] at C2 HRULE
              have HF : Hid (V = false) := by
                show _ = _
                rw [HV3.out]
                exact List.all_eq_false.2 ⟨_, HMEM.out, by rw [HRULE.out]; simp⟩
              clear HV3 HRULE HJ3 HMEM hA hB HOP
              refine (C1.out _).mono ?_
              rintro e w5 ⟨rfl, rfl⟩
              go_wp2_with fail
              refine (C2.out _).mono ?_
              rintro e w5 ⟨rfl, rfl⟩
              go_wp2_with fail
              go_ret
              exact ⟨by rw [HF.out]; rfl, HE.out⟩
          · rw [decide_eq_false hA] at C1 HRULE
            have HF : Hid (V = false) := by
              show _ = _
              rw [HV3.out]
              exact List.all_eq_false.2 ⟨_, HMEM.out, by rw [HRULE.out]; simp⟩
            clear HV3 HRULE HJ3 HMEM hA HOP C2
            refine (C1.out _).mono ?_
            rintro e w5 ⟨rfl, rfl⟩
            go_wp2_with fail
            go_ret
            exact ⟨by rw [HF.out]; rfl, HE.out⟩
        · obtain rfl : q = k := by omega
          have dq : decide ((q : Int) < (q : Int)) = false := decide_eq_false (by omega)
          have HF : Hid (V = true) := by
            show _ = _
            rw [HV3.out]
            refine List.all_eq_true.2 fun r hr => ?_
            obtain ⟨x, hx, e⟩ := List.mem_iff_getElem.1 hr
            have := HJ3.out x (by rw [HK.out]; exact hx)
            rw [List.getD_eq_getElem?_getD, List.getElem?_eq_getElem hx] at this
            rw [← e]
            exact this
          have HE : Hid (Below w.heap.size w wr) := HA.out.trans (HW3.out.mono HA.out.size)
          clear HV3 HJ3
          go_wp2
          go_ret
          exact ⟨by rw [HF.out]; rfl, HE.out⟩
#print axioms spProgOk
end Go.Proofs.YtknojhmnadmilaaGreatDoor
