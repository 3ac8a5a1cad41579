/- How many nodes a program's rules come to: what comesTo of the program answers. -/
import Derived.Test.YtjbodcakhnkggapGreatDoorZal
import Derived.Test.YtjbodcakhnkggapGreatDoorTrA
import Derived.Laws.MakeOwn
namespace Go.Proofs.YtjbodcakhnkggapGreatDoor
open Go.RowKit

theorem makeZ_run (n : Nat) (h : n ≤ 1000000000) : ∃ M : Array Value, M.size = n ∧ ∀ W : World, (Instr.makeSlice 109 (.int .i64 0) (.int .i64 (n : Int))).run Tryz.prog W = .ok (.slice (some ⟨W.heap.size, 0, none⟩) 0 n) (W.alloc (.cells M 3)) := by
  obtain ⟨i0, hi, hz0, hz1, hz2⟩ := info_parts infoZ
  refine ⟨madeCells (Value.int .i64 0).cells (((n : Nat) : Int).toNat * i0.size), ?_, fun W => ?_⟩
  · rw [size_madeCells, hz1]; simp
  · have h := run_make (P := Tryz.prog) W 109 3 i0 _ Tryz.underlying109 hi hz0 .i64 .i64 0 (n : Int) (by omega) (by omega) (by rw [hz2]; omega) (by omega)
    simpa using h

set_option maxHeartbeats 1000000 in
set_option maxRecDepth 100000 in
theorem comesTo_any (v rv : Value) (ps : List Pi) (rs : List Pg.Rl) (w : World) (h : PcsAt w v ps) (hr : RlsAt w rv rs) (hl : ps.length ≤ 200) (hl2 : rs.length ≤ 12) (hnd : ∀ i, i < ps.length → Pg.node ps i = true) (hrl : ∀ r ∈ rs, Pg.rule ps r = true) :
    Calls Tryz.prog 44 #[.agg #[v, rv]] w fun e w' => e = .returned (.int .i64 (Pg.total ps rs : Int)) ∧ Below w.heap.size w w' := by
  have HR : Hid (∀ W, Below w.heap.size w W → RlsAt W rv rs) := fun W hb => hr.keep hb
  have HP : Hid (∀ W, Below w.heap.size w W → PcsAt W v ps) := fun W hb => h.keep hb
  obtain ⟨va, vc, rfl, -⟩ := h
  obtain ⟨ra, rc, rfl, -⟩ := hr
  obtain ⟨n, hn⟩ : ∃ n, n = ps.length := ⟨_, rfl⟩
  obtain ⟨k, hk⟩ : ∃ k, k = rs.length := ⟨_, rfl⟩
  obtain ⟨T, hT⟩ : ∃ T, T = Pg.total ps rs := ⟨_, rfl⟩
  have HT : Hid (T = (rs.map (Pg.ruleSz (Pg.szs ps n))).sum) := by rw [hT, hn]; rfl
  rw [← hT]
  have HND : Hid (∀ i, i < n → Pg.node ps i = true) := by rw [hn]; exact hnd
  have HRL : Hid (∀ r ∈ rs, Pg.rule ps r = true) := hrl
  rw [← hn] at HP hl
  rw [← hk] at HR hl2
  rw [← hn, ← hk]
  have HK : Hid (k = rs.length) := hk
  have HN : Hid (n = ps.length) := hn
  clear hn hk hnd hrl hT
  obtain ⟨M, hM, hmk⟩ := makeZ_run n (by omega)
  have HB0 : Hid (Below w.heap.size w ((w.alloc (.cells #[.slice va n vc, .slice ra k rc] 25)).alloc (.cells M 3))) := ((Below.refl _ _).alloc (Nat.le_refl _) _).alloc (by simp) _
  have q0 := alloc2_0 w (.cells #[.slice va n vc, .slice ra k rc] 25) (.cells M 3)
  have HZ0 : Hid (ZRow (w.heap.size + 1) ((w.alloc (.cells #[.slice va n vc, .slice ra k rc] 25)).alloc (.cells M 3)) (.slice (some ⟨w.heap.size + 1, 0, none⟩) 0 n) []) := by
    have := World.ownsRow_made (base := w.heap.size + 1) (e := 3) (size := 1) (w.alloc (.cells #[.slice va n vc, .slice ra k rc] 25)) M n (by simp) (by unfold maxLen; omega) (by rw [hM]; omega)
    rwa [show (w.alloc (.cells #[.slice va n vc, .slice ra k rc] 25)).heap.size = w.heap.size + 1 by simp] at this
  have hsz : w.heap.size + 2 ≤ ((w.alloc (.cells #[.slice va n vc, .slice ra k rc] 25)).alloc (.cells M 3)).heap.size := by simp
  go_enter Tryz.func44, Tryz.ntmps44
  go_wp2
  clear hmk hM
  generalize (w.alloc (.cells #[.slice va n vc, .slice ra k rc] 25)).alloc (.cells M 3) = W0 at *
  have HQ : Hid (∀ wr, Below (w.heap.size + 1) W0 wr → wr.cell? ⟨w.heap.size, 0, none⟩ = some (.slice va n vc) ∧ wr.cell? ⟨w.heap.size, 1, none⟩ = some (.slice ra k rc)) := by
    intro wr hb
    have s0 := (hb.block _ (by omega)).trans q0
    have z0 := blk_cell s0 0
    have z1 := blk_cell s0 1
    simp only [List.getElem?_toArray, List.getElem?_cons_zero, List.getElem?_cons_succ] at z0 z1
    exact ⟨z0, z1⟩
  have HE : Hid (∀ wr, Below (w.heap.size + 1) W0 wr → Below w.heap.size w wr) := fun wr hb => HB0.out.trans (hb.mono (by omega))
  clear q0
  go_loopw [19, 3] (fun i s wr => ∃ j : Nat, i = .int .i64 (j : Int) ∧ j ≤ n ∧ w.heap.size + 2 ≤ wr.heap.size ∧ Hid (Below (w.heap.size + 1) W0 wr) ∧ Hid (ZRow (w.heap.size + 1) wr s (Pg.szs ps j))) (fun i _ _ => n - (intOf i).toNat)
  case atStart => exact ⟨0, rfl, by omega, hsz, Below.refl _ _, HZ0.out⟩
  case round =>
    clear HZ0
    obtain ⟨j, rfl, hj, hsw, HW, HZ⟩ := hrel
    by_cases hlt : j < n
    · have hj1 : (j : Int) < (n : Int) := by omega
      have hj0 : (0 : Int) ≤ (j : Int) := by omega
      obtain ⟨_, _, e, fp⟩ := HP.out wr (HE.out wr HW.out)
      simp only [Value.slice.injEq] at e
      obtain ⟨rfl, -, -⟩ := e
      obtain ⟨b, o, rfl, hb, hc⟩ := fp (by rw [← HN.out]; omega)
      obtain ⟨kv, p0, p1, p2, ka, kc, rfl, fk⟩ := hc j (by rw [← HN.out]; exact hlt)
      obtain ⟨hk20, hkin⟩ := Pg.node_kids (HND.out j hlt)
      obtain ⟨sa, sc, rfl, fs⟩ := HZ.out.form
      rw [Pg.szs_len] at fs ⊢
      have HSZ : Hid (Pg.szs ps (j + 1) = Pg.szs ps j ++ [min 2001 (1 + ((ps.getD j Pi.no).kids.map fun k => (Pg.szs ps j).getD k.toNat 0).sum)]) := rfl
      generalize (ps.getD j Pi.no).op = op at *
      generalize (ps.getD j Pi.no).text = tx at *
      generalize (ps.getD j Pi.no).kids = ks at *
      obtain ⟨m, hm⟩ : ∃ m, m = ks.length := ⟨_, rfl⟩
      rw [← hm] at p2 fk hk20 hkin
      obtain ⟨f, hf⟩ : ∃ f : Int → Nat, f = fun k => (Pg.szs ps j).getD k.toNat 0 := ⟨_, rfl⟩
      rw [← hf] at HSZ
      have hfle : ∀ k, f k ≤ 2001 := fun k => by rw [hf]; exact Pg.szs_get ps j _
      obtain ⟨S, hS⟩ : ∃ S : Nat → Nat, S = fun q => ((ks.take q).map f).sum := ⟨_, rfl⟩
      obtain ⟨F, hF⟩ : ∃ F : Nat → Nat, F = fun q => f (ks.getD q 0) := ⟨_, rfl⟩
      have HS : Hid (∀ q, S q ≤ 40020) := by
        intro q
        have h1 := Pg.sum_le f (ks.take q) hfle
        have h2 : (ks.take q).length ≤ 20 := by rw [List.length_take]; omega
        rw [hS]
        show ((ks.take q).map f).sum ≤ 40020
        omega
      have HSTEP : Hid (∀ q, q < m → S (q + 1) = S q + F q) := fun q hq => by rw [hS, hF]; exact Pg.take_sum f ks q (by rw [← hm]; exact hq)
      have HS0 : Hid (S 0 = 0) := by rw [hS]; rfl
      have HALL : Hid (S m = (ks.map f).sum) := by
        show _ = _
        rw [hS, hm]
        show ((ks.take ks.length).map f).sum = _
        rw [List.take_length]
      have HCELL : Hid (∀ q, q < m → ∃ kb ko sg, ∃ kn : Nat, ka = some ⟨kb, ko, none⟩ ∧ sa = some ⟨sg, 0, none⟩ ∧ kn < j ∧ F q ≤ 2001 ∧ wr.cell? ⟨kb, ko + q, none⟩ = some (.int .i64 (kn : Int)) ∧ wr.cell? ⟨sg, kn, none⟩ = some (.int .i64 (F q : Int))) := by
        intro q hq
        obtain ⟨kb, ko, e1, _, e2⟩ := fk (by omega)
        obtain ⟨h1, h2⟩ := hkin q hq
        obtain ⟨sg, e3, e4⟩ := fs (by omega)
        refine ⟨kb, ko, sg, (ks.getD q 0).toNat, e1, e3, by omega, by rw [hF]; exact hfle _, ?_, ?_⟩
        · rw [e2 q hq, Int.toNat_of_nonneg h1]
        · rw [e4 _ (by omega), hF, hf]
      have HSZ2 : Hid (Pg.szs ps (j + 1) = Pg.szs ps j ++ [min 2001 (1 + S m)]) := by
        show _ = _
        rw [HSZ.out, HALL.out]
      have HBA : Hid (Below wr.heap.size wr (wr.alloc (.cells #[.int .i64 op, .string tx, .slice ka m kc] 112))) := (Below.refl _ _).alloc (Nat.le_refl _) _
      clear fp hc fk fs hkin hfle hm hf hS hF HSZ HALL hb
      go_wp2
      generalize wr.alloc (.cells #[.int .i64 op, .string tx, .slice ka m kc] 112) = U at *
      clear p0 p1 p2
      go_loopw [26, 6] (fun kk nn wq => ∃ q : Nat, kk = .int .i64 (q : Int) ∧ nn = .int .i64 (1 + (S q : Int)) ∧ q ≤ m ∧ wq = U) (fun kk _ _ => m - (intOf kk).toNat)
      case atStart => exact ⟨0, rfl, by rw [HS0.out]; rfl, by omega, rfl⟩
      case round =>
        obtain ⟨q, rfl, rfl, hq, rfl⟩ := hrel
        have hSq := HS.out q
        by_cases hlq : q < m
        · have hq1 : (q : Int) < (m : Int) := by omega
          have hq0 : (0 : Int) ≤ (q : Int) := by omega
          obtain ⟨kb, ko, sg, kn, rfl, rfl, hkn, hFq, c1, c2⟩ := HCELL.out q hlq
          have hc1 := (HBA.out.cell (World.block_lt_of_cell? _ _ c1)).trans c1
          have hc2 := (HBA.out.cell (World.block_lt_of_cell? _ _ c2)).trans c2
          have hkn1 : (kn : Int) < (j : Int) := by omega
          have hkn0 : (0 : Int) ≤ (kn : Int) := by omega
          have HST : Hid (S (q + 1) = S q + F q) := HSTEP.out q hlq
          clear c1 c2
          go_wp2
          go_roundw
          case rel =>
            refine ⟨q + 1, by go_num, ?_, by omega, by first | rfl | trivial⟩
            rw [HST.out]
            congr 1
            omega
          case measure => simp [intOf]; omega
        · obtain rfl : q = m := by omega
          have dq : ¬ ((q : Int) < (q : Int)) := by omega
          have HZq : Hid (ZRow (w.heap.size + 1) wr (.slice sa j sc) (Pg.szs ps j)) := by
            have := HZ.out.keep HBA.out
            rw [Pg.szs_len] at this
            exact this
          have HWw : Hid (Below (w.heap.size + 1) W0 wr) := HW.out.trans (HBA.out.mono (by omega))
          have hswr := Nat.le_trans hsw HBA.out.size
          clear HS HSTEP HS0 HCELL
          by_cases h2001 : 2001 < 1 + S q
          · have d2 : (2001 : Int) < 1 + (S q : Int) := by omega
            have d3 : ¬ (1 + (S q : Int) ≤ 2001) := by omega
            have d4 : ¬ (1 + (S q : Int) < 2001) := by omega
            have HSZ3 : Hid (Pg.szs ps (j + 1) = Pg.szs ps j ++ [2001]) := by show _ = _; rw [HSZ2.out, Nat.min_eq_left (by omega)]
            clear HSZ2 h2001
            go_wp2_with (at_builtin; go_must (refine HZq.out.push rfl (.tmp 37) (.tmp 40) rfl rfl _ (2001) (by first | rfl | omega) rfl ?hl ?hb ?_))
            case hl => rw [Pg.szs_len]; omega
            case hb => omega
            · intro v2 w2 hrow hbel
              have HR2 : Hid (ZRow (w.heap.size + 1) w2 v2 (Pg.szs ps (j + 1))) := by rw [HSZ3.out]; exact hrow
              have HW2 : Hid (Below (w.heap.size + 1) W0 w2) := HWw.out.trans hbel
              have hs2 := Nat.le_trans hswr hbel.size
              clear hrow hbel
              go_wp2
              go_roundw
              case rel => exact ⟨j + 1, by go_num, by omega, hs2, HW2.out, HR2.out⟩
              case measure => simp [intOf]; omega
          · have d2 : ¬ ((2001 : Int) < 1 + (S q : Int)) := by omega
            have d3 : (1 + (S q : Int)) ≤ 2001 := by omega
            have HSZ3 : Hid (Pg.szs ps (j + 1) = Pg.szs ps j ++ [1 + S q]) := by show _ = _; rw [HSZ2.out, Nat.min_eq_right (by omega)]
            clear HSZ2 h2001
            go_wp2_with (at_builtin; go_must (refine HZq.out.push rfl (.tmp 37) (.tmp 40) rfl rfl _ (1 + S q) (by first | rfl | omega) rfl ?hl ?hb ?_))
            case hl => rw [Pg.szs_len]; omega
            case hb => omega
            · intro v2 w2 hrow hbel
              have HR2 : Hid (ZRow (w.heap.size + 1) w2 v2 (Pg.szs ps (j + 1))) := by rw [HSZ3.out]; exact hrow
              have HW2 : Hid (Below (w.heap.size + 1) W0 w2) := HWw.out.trans hbel
              have hs2 := Nat.le_trans hswr hbel.size
              clear hrow hbel
              go_wp2
              go_roundw
              case rel => exact ⟨j + 1, by go_num, by omega, hs2, HW2.out, HR2.out⟩
              case measure => simp [intOf]; omega
    · obtain rfl : j = n := by omega
      have dj : ¬ ((j : Int) < (j : Int)) := by omega
      obtain ⟨sa, sc, rfl, fs⟩ := HZ.out.form
      rw [Pg.szs_len] at fs ⊢
      obtain ⟨G, hG⟩ : ∃ G : Nat → Nat, G = fun q => ((rs.take q).map (Pg.ruleSz (Pg.szs ps j))).sum := ⟨_, rfl⟩
      have HG0 : Hid (G 0 = 0) := by rw [hG]; rfl
      have HGS : Hid (∀ q, q < k → G (q + 1) = G q + Pg.ruleSz (Pg.szs ps j) (rs.getD q Pg.Rl.no)) := fun q hq => by rw [hG]; exact Pg.rtake_sum _ rs q (by rw [← HK.out]; exact hq)
      have HGT : Hid (T = G k) := by
        show _ = _
        rw [HT.out, hG, HK.out]
        show _ = ((rs.take rs.length).map _).sum
        rw [List.take_length]
      have HFS : Hid (0 < j → ∃ g, sa = some ⟨g, 0, none⟩ ∧ ∀ x, x < j → wr.cell? ⟨g, x, none⟩ = some (.int .i64 (((Pg.szs ps j).getD x 0 : Nat) : Int))) := fs
      have HGB : Hid (∀ q, q ≤ k → G q ≤ 4002 * q) := by
        intro q
        induction q with
        | zero => intro _; rw [HG0.out]; omega
        | succ q ih =>
          intro hq
          have h1 := ih (by omega)
          have h2 : Pg.ruleSz (Pg.szs ps j) (rs.getD q Pg.Rl.no) ≤ 4002 := by
            unfold Pg.ruleSz
            have a1 := Pg.szs_get ps j (rs.getD q Pg.Rl.no).act.toNat
            have a2 := Pg.szs_get ps j (rs.getD q Pg.Rl.no).cond.toNat
            split <;> omega
          rw [HGS.out q (by omega)]
          omega
      have HRW := HR.out wr (HE.out wr HW.out)
      obtain ⟨_, _, e, fr⟩ := HRW
      simp only [Value.slice.injEq] at e
      obtain ⟨rfl, -, rfl⟩ := e
      have HFR : Hid (0 < k → ∃ b o, ra = some ⟨b, o, none⟩ ∧ b < wr.heap.size ∧ ∀ i, i < k → wr.cell? ⟨b, o + i * 3, none⟩ = some (.int .i64 (rs.getD i Pg.Rl.no).when) ∧ wr.cell? ⟨b, o + i * 3 + 1, none⟩ = some (.int .i64 (rs.getD i Pg.Rl.no).cond) ∧ wr.cell? ⟨b, o + i * 3 + 2, none⟩ = some (.int .i64 (rs.getD i Pg.Rl.no).act)) := by rw [HK.out]; exact fr
      have HEW : Hid (Below w.heap.size w wr) := HE.out wr HW.out
      obtain ⟨z0, z1⟩ := HQ.out wr HW.out
      clear fs hG HT HND HZ fr HR HP HW HE HQ
      go_wp2
      obtain ⟨U, hU⟩ : ∃ U, U = wr := ⟨_, rfl⟩
      subst hU
      go_loopw [46, 9] (fun ii nn W => ∃ q : Nat, ii = .int .i64 (q : Int) ∧ nn = .int .i64 (G q : Int) ∧ q ≤ k ∧ Hid (Below U.heap.size U W)) (fun ii _ _ => k - (intOf ii).toNat)
      case atStart => exact ⟨0, rfl, by rw [HG0.out]; rfl, by omega, Below.refl _ _⟩
      case round =>
        obtain ⟨q, rfl, rfl, hq, HWU⟩ := hrel
        have hGq := HGB.out q hq
        by_cases hlq : q < k
        · have hq1 : (q : Int) < (k : Int) := by omega
          have hq0 : (0 : Int) ≤ (q : Int) := by omega
          obtain ⟨rb, ro, rfl, -, hrc⟩ := HFR.out (by omega)
          obtain ⟨c0, c1, c2⟩ := hrc q hlq
          have hmem : rs.getD q Pg.Rl.no ∈ rs := by
            have hq2 : q < rs.length := by rw [← HK.out]; exact hlq
            rw [List.getD_eq_getElem?_getD, List.getElem?_eq_getElem hq2]
            exact List.getElem_mem _
          obtain ⟨hin1, hin2⟩ := Pg.rule_in (HRL.out _ hmem)
          rw [← HN.out] at hin1 hin2
          have HST := HGS.out q hlq
          unfold Pg.ruleSz at HST
          generalize rs.getD q Pg.Rl.no = rl at *
          obtain ⟨rw0, rc0, ra0⟩ := rl
          simp only at c0 c1 c2 hin1 hin2 HST
          obtain ⟨an, rfl⟩ : ∃ an : Nat, ra0 = (an : Int) := ⟨ra0.toNat, by omega⟩
          have han : an < j := by omega
          have han1 : (an : Int) < (j : Int) := by omega
          have han0 : (0 : Int) ≤ (an : Int) := by omega
          obtain ⟨sg, rfl, hsc⟩ := HFS.out (by omega)
          have s1 := hsc an han
          have b1 := Pg.szs_get ps j an
          rw [show ((an : Int)).toNat = an by omega] at HST
          have HBB : Hid (Below U.heap.size U (wr.alloc (.cells #[.int .i64 rw0, .int .i64 rc0, .int .i64 (an : Int)] 56))) := HWU.out.alloc HWU.out.size _
          have g0 := (HWU.out.cell (World.block_lt_of_cell? _ _ c0)).trans c0
          have g1 := (HWU.out.cell (World.block_lt_of_cell? _ _ c1)).trans c1
          have g2 := (HWU.out.cell (World.block_lt_of_cell? _ _ c2)).trans c2
          have t1 := (HBB.out.cell (World.block_lt_of_cell? _ _ s1)).trans s1
          by_cases hm1 : rc0 = -1
          · have HST2 : Hid (G (q + 1) = G q + (Pg.szs ps j).getD an 0) := by show _ = _; rw [HST, if_neg (by omega)]; omega
            have dm : (rc0 != -1) = false := by simpa using hm1
            generalize (Pg.szs ps j).getD an 0 = za at *
            clear hrc hmem hin1 hin2 HST hm1 hsc c0 c1 c2 s1
            go_wp2
            go_roundw
            case rel =>
              refine ⟨q + 1, by go_num, ?_, by omega, HBB.out⟩
              rw [HST2.out]
              congr 1
            case measure => simp [intOf]; omega
          · obtain ⟨cn, rfl⟩ : ∃ cn : Nat, rc0 = (cn : Int) := ⟨rc0.toNat, by omega⟩
            have hcn : cn < j := by omega
            have hcn1 : (cn : Int) < (j : Int) := by omega
            have hcn0 : (0 : Int) ≤ (cn : Int) := by omega
            have s2 := hsc cn hcn
            have t2 := (HBB.out.cell (World.block_lt_of_cell? _ _ s2)).trans s2
            have b2 := Pg.szs_get ps j cn
            have dm : ((cn : Int) != -1) = true := bne_iff_ne.2 (by omega)
            have HST2 : Hid (G (q + 1) = G q + (Pg.szs ps j).getD an 0 + (Pg.szs ps j).getD cn 0) := by show _ = _; rw [HST, if_pos (by omega), show ((cn : Int)).toNat = cn by omega]; omega
            generalize (Pg.szs ps j).getD an 0 = za at *
            generalize (Pg.szs ps j).getD cn 0 = zc at *
            clear hrc hmem hin1 hin2 HST hm1 hsc c0 c1 c2 s1 s2
            go_wp2
            go_roundw
            case rel =>
              refine ⟨q + 1, by go_num, ?_, by omega, HBB.out⟩
              rw [HST2.out]
              congr 1
              omega
            case measure => simp [intOf]; omega
        · obtain rfl : q = k := by omega
          have dq : ¬ ((q : Int) < (q : Int)) := by omega
          have HEND : Hid (Below w.heap.size w wr) := HEW.out.trans (HWU.out.mono HEW.out.size)
          clear HFR HFS HGS HGB HRL
          go_wp2
          go_ret
          exact ⟨by rw [HGT.out]; rfl, HEND.out⟩
#print axioms comesTo_any
end Go.Proofs.YtjbodcakhnkggapGreatDoor
