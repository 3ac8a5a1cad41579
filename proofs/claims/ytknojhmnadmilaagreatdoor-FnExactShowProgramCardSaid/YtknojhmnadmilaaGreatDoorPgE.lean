/- The specification of ProgramOk: one node. -/
import Derived.Test.YtknojhmnadmilaaGreatDoorZak
namespace Go.Proofs.YtknojhmnadmilaaGreatDoor
open Go.RowKit

set_option maxHeartbeats 4000000 in
set_option maxRecDepth 100000 in
theorem spNode (v : Value) (ps : List Pi) (ra : Option Addr) (rn rc i : Nat) (w : World) (h : PcsAt w v ps) (hi : i < ps.length) (hl : ps.length ≤ 1000) (hk : (ps.getD i Pi.no).kids.length ≤ 1048576) (ht : (ps.getD i Pi.no).text.size ≤ 1048576) :
    Calls Tryz.prog 26 #[.agg #[v, .slice ra rn rc], .int .i64 (i : Int)] w fun e w' => e = .returned (.bool (Pg.node ps i)) ∧ Below w.heap.size w w' := by
  obtain ⟨ad, cap, rfl, f⟩ := h
  obtain ⟨b, o, rfl, hb, hp⟩ := f (by omega)
  obtain ⟨kv, p0, p1, p2, hkv⟩ := hp i hi
  obtain ⟨ka, kc, rfl, fk⟩ := hkv
  obtain ⟨n, hn⟩ : ∃ n, n = ps.length := ⟨_, rfl⟩
  obtain ⟨x, hx⟩ : ∃ x, x = ps.getD i Pi.no := ⟨_, rfl⟩
  rw [← hx] at p0 p1 p2 fk hk ht
  rw [← hn] at hi hl ⊢
  obtain ⟨V, hV⟩ : ∃ V, V = Pg.node ps i := ⟨_, rfl⟩
  rw [← hV]
  have HV : Hid (V = (decide (1 ≤ x.op ∧ x.op ≤ 25) && Pg.text x.op x.text.data.toList && decide ((Pg.many x.op).1 ≤ x.kids.length ∧ x.kids.length ≤ (Pg.many x.op).2) && (List.range x.kids.length).all (Pg.kid ps i x))) := by rw [hV, hx]; rfl
  have HP : Hid (∀ j, j < n → PieceAt w b (o + j * 3) (ps.getD j Pi.no)) := by rw [hn]; exact hp
  clear hV hx hp f hn
  obtain ⟨op, t, ks⟩ := x
  simp only at p0 p1 p2 fk hk ht HV
  obtain ⟨m, hm⟩ : ∃ m, m = ks.length := ⟨_, rfl⟩
  rw [← hm] at p2 fk hk HV
  clear hm
  have i1 : (i : Int) < (n : Int) := by omega
  have HK : Hid (0 < m → ∃ b o, ka = some ⟨b, o, none⟩ ∧ b < w.heap.size ∧ ∀ i, i < m → w.cell? ⟨b, o + i, none⟩ = some (.int .i64 (ks.getD i 0))) := fk
  obtain ⟨mn, hmn⟩ : ∃ mn, mn = (Pg.many op).1 := ⟨_, rfl⟩
  obtain ⟨mx, hmx⟩ : ∃ mx, mx = (Pg.many op).2 := ⟨_, rfl⟩
  have CM : Hid (∀ w, Calls Tryz.prog 43 #[.int .i64 op] w fun e w' => e = .returned (.tuple #[.int .i64 (mn : Int), .int .i64 (mx : Int)]) ∧ w' = w) := fun w => by rw [hmn, hmx]; exact spMany op w
  rw [← hmn, ← hmx] at HV
  obtain ⟨r1, hr1⟩ : ∃ r, r = decide (1 ≤ op ∧ op ≤ 25) := ⟨_, rfl⟩
  obtain ⟨r2, hr2⟩ : ∃ r, r = Pg.text op t.data.toList := ⟨_, rfl⟩
  obtain ⟨r3, hr3⟩ : ∃ r, r = decide (mn ≤ m ∧ m ≤ mx) := ⟨_, rfl⟩
  rw [← hr1, ← hr2, ← hr3] at HV
  have C1 : Hid (∀ w, Calls Tryz.prog 27 #[.int .i64 op, .int .i64 1, .int .i64 25] w fun e w' => e = .returned (.bool r1) ∧ w' = w) := fun w => by rw [hr1]; exact sIn_any op 1 25 w
  have C2 : Hid (∀ w, Calls Tryz.prog 44 #[.agg #[.int .i64 op, .string t, .slice ka m kc]] w fun e w' => e = .returned (.bool r2) ∧ Below w.heap.size w w') := fun w => by rw [hr2]; exact spNodeText op t ka m kc w ht
  have C3 : Hid (∀ w, Calls Tryz.prog 27 #[.int .i64 (m : Int), .int .i64 (mn : Int), .int .i64 (mx : Int)] w fun e w' => e = .returned (.bool r3) ∧ w' = w) := fun w => by
    have := sIn_any (m : Int) (mn : Int) (mx : Int) w
    rwa [show decide ((mn : Int) ≤ (m : Int) ∧ (m : Int) ≤ (mx : Int)) = r3 by rw [hr3]; exact decide_eq_decide.2 (by omega)] at this
  have HB : Hid (Below w.heap.size w ((w.alloc (.cells #[.slice (some ⟨b, o, none⟩) n cap, .slice ra rn rc] 32)).alloc (.cells #[.int .i64 op, .string t, .slice ka m kc] 67))) := ((Below.refl _ _).alloc (Nat.le_refl _) _).alloc (by simp) _
  have q0 := alloc2_0 w (.cells #[.slice (some ⟨b, o, none⟩) n cap, .slice ra rn rc] 32) (.cells #[.int .i64 op, .string t, .slice ka m kc] 67)
  have q1 := alloc2_1 w (.cells #[.slice (some ⟨b, o, none⟩) n cap, .slice ra rn rc] 32) (.cells #[.int .i64 op, .string t, .slice ka m kc] 67)
  have hsz : w.heap.size + 2 ≤ ((w.alloc (.cells #[.slice (some ⟨b, o, none⟩) n cap, .slice ra rn rc] 32)).alloc (.cells #[.int .i64 op, .string t, .slice ka m kc] 67)).heap.size := by simp
  clear fk hmn hmx hr1 hr2 hr3
  go_enter Tryz.func26, Tryz.ntmps26
  go_wp2_with fail
  refine (CM.out _).mono ?_
  rintro e w1 ⟨rfl, rfl⟩
  go_wp2_with fail
  generalize (w.alloc (.cells #[.slice (some ⟨b, o, none⟩) n cap, .slice ra rn rc] 32)).alloc (.cells #[.int .i64 op, .string t, .slice ka m kc] 67) = W at *
  refine (C1.out _).mono ?_
  rintro e w1 ⟨rfl, rfl⟩
  have y0 := blk_cell q1 0
  have y1 := blk_cell q1 1
  have y2 := blk_cell q1 2
  clear p0 p1 p2 C1 CM
  cases r1 with
  | false =>
    have HF : Hid (V = false) := by show _ = _; rw [HV.out]; rfl
    clear HV C2 C3
    go_wp2
    go_ret
    exact ⟨by rw [HF.out]; rfl, HB.out⟩
  | true =>
    simp only [List.getElem?_toArray, List.getElem?_cons_zero, List.getElem?_cons_succ] at y0 y1 y2
    go_wp2_with fail
    refine (C2.out _).mono ?_
    rintro e w2 ⟨rfl, b2⟩
    have HB2 : Hid (Below w.heap.size w w2) := HB.out.trans (b2.mono HB.out.size)
    have s0 := (b2.block _ (by omega)).trans q0
    have s1 := (b2.block _ (by omega)).trans q1
    have x0 := blk_cell s1 0
    have x2 := blk_cell s1 2
    have z0 := blk_cell s0 0
    simp only [List.getElem?_toArray, List.getElem?_cons_zero, List.getElem?_cons_succ] at x0 x2 z0
    have HP2 : Hid (∀ j, j < n → w2.cell? ⟨b, o + j * 3, none⟩ = some (.int .i64 (ps.getD j Pi.no).op)) := by
      intro j hj
      obtain ⟨_, k0, _⟩ := (HP.out j hj).keep hb HB2.out
      exact k0
    have HK2 : Hid (0 < m → ∃ b o, ka = some ⟨b, o, none⟩ ∧ ∀ i, i < m → w2.cell? ⟨b, o + i, none⟩ = some (.int .i64 (ks.getD i 0))) := by
      intro h0
      obtain ⟨b', o', e, h1, h2⟩ := HK.out h0
      exact ⟨b', o', e, fun j hj => (HB2.out.cell (p := ⟨b', o' + j, none⟩) h1).trans (h2 j hj)⟩
    clear b2 q0 q1 s0 s1 y0 y1 y2 HP HK HB C2 hsz
    cases r2 with
    | false =>
      have HF : Hid (V = false) := by show _ = _; rw [HV.out]; rfl
      clear HV C3 x0 x2 z0
      go_wp2
      go_ret
      exact ⟨by rw [HF.out]; rfl, HB2.out⟩
    | true =>
      go_wp2_with fail
      refine (C3.out _).mono ?_
      rintro e w3 ⟨rfl, rfl⟩
      clear C3
      cases r3 with
      | false =>
        have HF : Hid (V = false) := by show _ = _; rw [HV.out]; rfl
        clear HV x0 x2 z0
        go_wp2
        go_ret
        exact ⟨by rw [HF.out]; rfl, HB2.out⟩
      | true =>
        have HV2 : Hid (V = (List.range m).all (Pg.kid ps i ⟨op, t, ks⟩)) := by show _ = _; rw [HV.out]; rfl
        clear HV
        have HX : Hid (∀ wr, Below w3.heap.size w3 wr → wr.cell? ⟨w.heap.size + 1, 0, none⟩ = some (.int .i64 op) ∧ wr.cell? ⟨w.heap.size + 1, 2, none⟩ = some (.slice ka m kc) ∧ wr.cell? ⟨w.heap.size, 0, none⟩ = some (.slice (some ⟨b, o, none⟩) n cap)) := by
          intro wr hb
          exact ⟨(hb.cell (World.block_lt_of_cell? w3 _ x0)).trans x0, (hb.cell (World.block_lt_of_cell? w3 _ x2)).trans x2, (hb.cell (World.block_lt_of_cell? w3 _ z0)).trans z0⟩
        go_wp2
        clear x0 x2 z0
        go_loopw [8, 9, 10] (fun k _ _ wr => ∃ j : Nat, k = .int .i64 (j : Int) ∧ j ≤ m ∧ Hid (Below w3.heap.size w3 wr) ∧ Hid (∀ q, q < j → Pg.kid ps i ⟨op, t, ks⟩ q = true)) (fun k _ _ _ => m - (intOf k).toNat)
        case atStart => exact ⟨0, rfl, by omega, Below.refl _ _, fun q hq => by omega⟩
        case round =>
          obtain ⟨j, rfl, hj, HW, HJ⟩ := hrel
          obtain ⟨x0, x2, z0⟩ := HX.out wr HW.out
          by_cases hlt : j < m
          · obtain ⟨kb, ko, rfl, hkc⟩ := HK2.out (by omega)
            have u0 := (HW.out.cell (World.block_lt_of_cell? w3 _ (hkc j hlt))).trans (hkc j hlt)
            have hj1 : (j : Int) < (m : Int) := by omega
            have dj : decide ((j : Int) < (m : Int)) = true := decide_eq_true hj1
            obtain ⟨kd, hkd⟩ : ∃ kd, kd = ks.getD j 0 := ⟨_, rfl⟩
            rw [← hkd] at u0
            obtain ⟨kp, hkp⟩ : ∃ kp, kp = (ps.getD kd.toNat Pi.no).op := ⟨_, rfl⟩
            have HKID : Hid (Pg.kid ps i ⟨op, t, ks⟩ j = (decide (0 ≤ kd ∧ kd ≤ (i : Int) - 1) && !((decide (op = 24) || (decide (op = 22) && decide (0 < j))) == Pg.ex kp || (decide (op = 22) && decide (kp = 22))))) := by rw [hkp, hkd]; rfl
            have CK : Hid (∀ w, Calls Tryz.prog 27 #[.int .i64 kd, .int .i64 0, .int .i64 ((i : Int) - 1)] w fun e w' => e = .returned (.bool (decide (0 ≤ kd ∧ kd ≤ (i : Int) - 1))) ∧ w' = w) := fun w => sIn_any kd 0 ((i : Int) - 1) w
            by_cases hin : 0 ≤ kd ∧ kd ≤ (i : Int) - 1
            · rw [decide_eq_true hin] at CK HKID
              obtain ⟨kn, rfl⟩ : ∃ kn : Nat, kd = (kn : Int) := ⟨kd.toNat, by omega⟩
              have hkn : kn < n := by omega
              have t0 := (HW.out.cell (World.block_lt_of_cell? w3 _ (HP2.out kn hkn))).trans (HP2.out kn hkn)
              rw [show ((kn : Int)).toNat = kn by omega] at hkp
              rw [← hkp] at t0
              have hkn1 : (kn : Int) < (n : Int) := by omega
              have CX : Hid (∀ w, Calls Tryz.prog 28 #[.int .i64 kp] w fun e w' => e = .returned (.bool (Pg.ex kp)) ∧ w' = w) := fun w => spEx kp w
              clear hkd hkp hkc hin
              have HD : Hid (∀ k, Below w.heap.size w (wr.drewN k)) := fun k => below_drewN (HB2.out.trans (HW.out.mono HB2.out.size)) k
              have HDW : Hid (∀ k, Below w3.heap.size w3 (wr.drewN k)) := fun k => below_drewN HW.out k
              by_cases h24 : op = 24
              · have e22 : (op == 22) = false := beq_eq_false_iff_ne.2 (by omega)
                cases hex : Pg.ex kp with
                | true =>
                  rw [hex] at CX HKID
                  have e24 : (op == 24) = true := by rw [h24]; rfl
                  have HF : Hid (V = false) := by
                    show _ = _
                    rw [HV2.out, List.all_eq_false]
                    exact ⟨j, List.mem_range.2 hlt, by rw [HKID.out]; simp [h24]⟩
                  clear h24 hex HV2 HJ HKID
                  go_wp2_with fail
                  refine (CK.out _).mono ?_
                  rintro e w4 ⟨rfl, rfl⟩
                  go_wp2_with fail
                  go_quiet (fail)
                  go_wp2_with fail
                  refine (CX.out _).mono ?_
                  rintro e w5 ⟨rfl, rfl⟩
                  go_wp2
                  go_ret
                  exact ⟨by rw [HF.out]; rfl, HD.out _⟩
                | false =>
                  rw [hex] at CX HKID
                  have e24 : (op == 24) = true := by rw [h24]; rfl
                  have HN : Hid (∀ q, q < j + 1 → Pg.kid ps i ⟨op, t, ks⟩ q = true) := by
                    intro q hq
                    by_cases e : q = j
                    · subst e; rw [HKID.out]; simp [h24]
                    · exact HJ.out q (by omega)
                  clear h24 hex HV2 HJ HKID
                  go_wp2_with fail
                  refine (CK.out _).mono ?_
                  rintro e w4 ⟨rfl, rfl⟩
                  go_wp2_with fail
                  go_quiet (fail)
                  go_wp2_with fail
                  refine (CX.out _).mono ?_
                  rintro e w5 ⟨rfl, rfl⟩
                  go_wp2
                  go_roundw
                  case rel => exact ⟨j + 1, by go_num, by omega, HDW.out _, HN.out⟩
                  case measure => simp [intOf]; omega
              · by_cases h22 : op = 22
                · by_cases hj0 : 0 < j
                  · cases hex : Pg.ex kp with
                    | true =>
                      rw [hex] at CX HKID
                      have e24 : (op == 24) = false := beq_eq_false_iff_ne.2 h24
                      have e22 : (op == 22) = true := by rw [h22]; rfl
                      have dp : decide ((0 : Int) < (j : Int)) = true := decide_eq_true (by omega)
                      have dpn : decide (0 < j) = true := decide_eq_true hj0
                      have HF : Hid (V = false) := by
                        show _ = _
                        rw [HV2.out, List.all_eq_false]
                        exact ⟨j, List.mem_range.2 hlt, by rw [HKID.out]; simp [h22, hj0]⟩
                      clear h24 h22 hj0 hex HV2 HJ HKID
                      go_wp2_with fail
                      refine (CK.out _).mono ?_
                      rintro e w4 ⟨rfl, rfl⟩
                      go_wp2_with fail
                      go_quiet (fail)
                      go_wp2_with fail
                      refine (CX.out _).mono ?_
                      rintro e w5 ⟨rfl, rfl⟩
                      go_wp2
                      go_ret
                      exact ⟨by rw [HF.out]; rfl, HD.out _⟩
                    | false =>
                      by_cases hk22 : kp = 22
                      · rw [hex] at CX HKID
                        have e24 : (op == 24) = false := beq_eq_false_iff_ne.2 h24
                        have e22 : (op == 22) = true := by rw [h22]; rfl
                        have dp : decide ((0 : Int) < (j : Int)) = true := decide_eq_true (by omega)
                        have dpn : decide (0 < j) = true := decide_eq_true hj0
                        have k22 : (kp == 22) = true := by rw [hk22]; rfl
                        have HF : Hid (V = false) := by
                          show _ = _
                          rw [HV2.out, List.all_eq_false]
                          exact ⟨j, List.mem_range.2 hlt, by rw [HKID.out]; simp [h22, hj0, hk22]⟩
                        clear h24 h22 hj0 hk22 hex HV2 HJ HKID
                        go_wp2_with fail
                        refine (CK.out _).mono ?_
                        rintro e w4 ⟨rfl, rfl⟩
                        go_wp2_with fail
                        go_quiet (fail)
                        go_wp2_with fail
                        refine (CX.out _).mono ?_
                        rintro e w5 ⟨rfl, rfl⟩
                        go_wp2
                        go_ret
                        exact ⟨by rw [HF.out]; rfl, HD.out _⟩
                      · rw [hex] at CX HKID
                        have e24 : (op == 24) = false := beq_eq_false_iff_ne.2 h24
                        have e22 : (op == 22) = true := by rw [h22]; rfl
                        have dp : decide ((0 : Int) < (j : Int)) = true := decide_eq_true (by omega)
                        have dpn : decide (0 < j) = true := decide_eq_true hj0
                        have k22 : (kp == 22) = false := beq_eq_false_iff_ne.2 hk22
                        have HN : Hid (∀ q, q < j + 1 → Pg.kid ps i ⟨op, t, ks⟩ q = true) := by
                          intro q hq
                          by_cases e : q = j
                          · subst e; rw [HKID.out]; simp [h22, hj0, hk22]
                          · exact HJ.out q (by omega)
                        clear h24 h22 hj0 hk22 hex HV2 HJ HKID
                        go_wp2_with fail
                        refine (CK.out _).mono ?_
                        rintro e w4 ⟨rfl, rfl⟩
                        go_wp2_with fail
                        go_quiet (fail)
                        go_wp2_with fail
                        refine (CX.out _).mono ?_
                        rintro e w5 ⟨rfl, rfl⟩
                        go_wp2
                        go_roundw
                        case rel => exact ⟨j + 1, by go_num, by omega, HDW.out _, HN.out⟩
                        case measure => simp [intOf]; omega
                  · cases hex : Pg.ex kp with
                    | true =>
                      have hk22 : kp ≠ 22 := by
                        intro e
                        rw [e] at hex
                        revert hex
                        decide
                      rw [hex] at CX HKID
                      have e24 : (op == 24) = false := beq_eq_false_iff_ne.2 h24
                      have e22 : (op == 22) = true := by rw [h22]; rfl
                      have dp : decide ((0 : Int) < (j : Int)) = false := decide_eq_false (by omega)
                      have dpn : decide (0 < j) = false := decide_eq_false hj0
                      have k22 : (kp == 22) = false := beq_eq_false_iff_ne.2 hk22
                      have HN : Hid (∀ q, q < j + 1 → Pg.kid ps i ⟨op, t, ks⟩ q = true) := by
                        intro q hq
                        by_cases e : q = j
                        · subst e; rw [HKID.out]; simp [h22, hj0, hk22]
                        · exact HJ.out q (by omega)
                      clear h24 h22 hj0 hk22 hex HV2 HJ HKID
                      go_wp2_with fail
                      refine (CK.out _).mono ?_
                      rintro e w4 ⟨rfl, rfl⟩
                      go_wp2_with fail
                      go_quiet (fail)
                      go_wp2_with fail
                      refine (CX.out _).mono ?_
                      rintro e w5 ⟨rfl, rfl⟩
                      go_wp2
                      go_roundw
                      case rel => exact ⟨j + 1, by go_num, by omega, HDW.out _, HN.out⟩
                      case measure => simp [intOf]; omega
                    | false =>
                      rw [hex] at CX HKID
                      have e24 : (op == 24) = false := beq_eq_false_iff_ne.2 h24
                      have e22 : (op == 22) = true := by rw [h22]; rfl
                      have dp : decide ((0 : Int) < (j : Int)) = false := decide_eq_false (by omega)
                      have dpn : decide (0 < j) = false := decide_eq_false hj0
                      have HF : Hid (V = false) := by
                        show _ = _
                        rw [HV2.out, List.all_eq_false]
                        exact ⟨j, List.mem_range.2 hlt, by rw [HKID.out]; simp [h22, hj0]⟩
                      clear h24 h22 hj0 hex HV2 HJ HKID
                      go_wp2_with fail
                      refine (CK.out _).mono ?_
                      rintro e w4 ⟨rfl, rfl⟩
                      go_wp2_with fail
                      go_quiet (fail)
                      go_wp2_with fail
                      refine (CX.out _).mono ?_
                      rintro e w5 ⟨rfl, rfl⟩
                      go_wp2
                      go_ret
                      exact ⟨by rw [HF.out]; rfl, HD.out _⟩
                · cases hex : Pg.ex kp with
                  | true =>
                    rw [hex] at CX HKID
                    have e24 : (op == 24) = false := beq_eq_false_iff_ne.2 h24
                    have e22 : (op == 22) = false := beq_eq_false_iff_ne.2 h22
                    have HN : Hid (∀ q, q < j + 1 → Pg.kid ps i ⟨op, t, ks⟩ q = true) := by
                      intro q hq
                      by_cases e : q = j
                      · subst e; rw [HKID.out]; simp [h24, h22]
                      · exact HJ.out q (by omega)
                    clear h24 h22 hex HV2 HJ HKID
                    go_wp2_with fail
                    refine (CK.out _).mono ?_
                    rintro e w4 ⟨rfl, rfl⟩
                    go_wp2_with fail
                    go_quiet (fail)
                    go_wp2_with fail
                    refine (CX.out _).mono ?_
                    rintro e w5 ⟨rfl, rfl⟩
                    go_wp2
                    go_roundw
                    case rel => exact ⟨j + 1, by go_num, by omega, HDW.out _, HN.out⟩
                    case measure => simp [intOf]; omega
                  | false =>
                    rw [hex] at CX HKID
                    have e24 : (op == 24) = false := beq_eq_false_iff_ne.2 h24
                    have e22 : (op == 22) = false := beq_eq_false_iff_ne.2 h22
                    have HF : Hid (V = false) := by
                      show _ = _
                      rw [HV2.out, List.all_eq_false]
                      exact ⟨j, List.mem_range.2 hlt, by rw [HKID.out]; simp [h24, h22]⟩
                    clear h24 h22 hex HV2 HJ HKID
                    go_wp2_with fail
                    refine (CK.out _).mono ?_
                    rintro e w4 ⟨rfl, rfl⟩
                    go_wp2_with fail
                    go_quiet (fail)
                    go_wp2_with fail
                    refine (CX.out _).mono ?_
                    rintro e w5 ⟨rfl, rfl⟩
                    go_wp2
                    go_ret
                    exact ⟨by rw [HF.out]; rfl, HD.out _⟩
            · rw [decide_eq_false hin] at CK HKID
              have HF : Hid (V = false) := by
                show _ = _
                rw [HV2.out, List.all_eq_false]
                exact ⟨j, List.mem_range.2 hlt, by rw [HKID.out]; simp⟩
              have HE : Hid (Below w.heap.size w wr) := HB2.out.trans (HW.out.mono HB2.out.size)
              clear hkd hkp hkc hin HV2 HJ HKID
              go_wp2_with (go_at_call 27; refine (CK.out _).mono ?_; rintro e w4 ⟨rfl, rfl⟩)
              go_ret
              exact ⟨by rw [HF.out]; rfl, HE.out⟩
          · obtain rfl : j = m := by omega
            have dj : decide ((j : Int) < (j : Int)) = false := decide_eq_false (by omega)
            have HF : Hid (V = true) := by
              show _ = _
              rw [HV2.out, List.all_eq_true]
              exact fun q hq => HJ.out q (List.mem_range.1 hq)
            have HE : Hid (Below w.heap.size w wr) := HB2.out.trans (HW.out.mono HB2.out.size)
            clear HV2 HJ
            go_wp2
            go_ret
            exact ⟨by rw [HF.out]; rfl, HE.out⟩
#print axioms spNode
end Go.Proofs.YtknojhmnadmilaaGreatDoor
