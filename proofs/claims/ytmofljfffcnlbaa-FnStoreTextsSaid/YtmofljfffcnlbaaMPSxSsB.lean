/- What is set: the specification's SetCell. -/
import Derived.Test.YtmofljfffcnlbaaMPSxZae
import Derived.Test.YtmofljfffcnlbaaMPSxAhA
import Derived.Deep.RegionWith
namespace Go.Proofs.Ytmofljfffcnlbaa
open Go.RowKit

theorem keepC7 {w w' : World} {a1 a2 a3 a4 a5 a6 a7 : Addr} {u1 u2 u3 u4 u5 u6 u7 : Value} (hb : Below w.heap.size w w') (h : w.cell? a1 = some u1 ∧ w.cell? a2 = some u2 ∧ w.cell? a3 = some u3 ∧ w.cell? a4 = some u4 ∧ w.cell? a5 = some u5 ∧ w.cell? a6 = some u6 ∧ w.cell? a7 = some u7) : w'.cell? a1 = some u1 ∧ w'.cell? a2 = some u2 ∧ w'.cell? a3 = some u3 ∧ w'.cell? a4 = some u4 ∧ w'.cell? a5 = some u5 ∧ w'.cell? a6 = some u6 ∧ w'.cell? a7 = some u7 :=
  ⟨cell_up hb h.1, cell_up hb h.2.1, cell_up hb h.2.2.1, cell_up hb h.2.2.2.1, cell_up hb h.2.2.2.2.1, cell_up hb h.2.2.2.2.2.1, cell_up hb h.2.2.2.2.2.2⟩

set_option maxRecDepth 100000 in
set_option maxHeartbeats 8000000 in
theorem spSetCell (tv lv : Value) (o name key val : ByteArray) (vs : List Vr) (cs : List Cl) (w : World) (h1 : VrAt w tv vs) (h2 : ClAt w lv cs) (hs : StSmall vs cs o) (hv : cs.length ≤ 100000) :
    Calls Try.prog 52 #[.agg #[tv, lv, .string o], .string name, .string key, .string val] w fun e w' => ∃ u x, e = .returned (.agg #[u, x, .string o]) ∧ VrIn w.heap.size w'.heap.size w' u vs ∧ ClIn w.heap.size w'.heap.size w' x (St.setCells cs name key val) ∧ Below w.heap.size w w' := by
  obtain ⟨O, hO⟩ : ∃ O, O = St.setCells cs name key val := ⟨_, rfl⟩
  have HO : Hid (O = St.setCells cs name key val) := hO
  rw [← hO]
  clear hO
  have HV : Hid (∀ W, Below w.heap.size w W → ClAt W lv cs) := fun W hb => h2.keep hb
  have CW : Hid (∀ W, Below w.heap.size w W → Calls Try.prog 29 #[.agg #[tv, lv, .string o]] W fun e w' => ∃ u x, e = .returned (.agg #[u, x, .string o]) ∧ VrIn W.heap.size w'.heap.size w' u vs ∧ ClIn W.heap.size w'.heap.size w' x cs ∧ Below W.heap.size W w') := fun W hb => spCopy tv lv o vs cs W (h1.keep hb) (h2.keep hb) hs
  obtain ⟨ck, hck⟩ : ∃ ck, ck = St.cut key := ⟨_, rfl⟩
  obtain ⟨cv, hcv⟩ : ∃ cv, cv = St.cut val := ⟨_, rfl⟩
  have CK : Hid (∀ W, Calls Try.prog 59 #[.string key] W fun e w' => e = .returned (.string ck) ∧ w' = W) := fun W => by rw [hck]; exact specCut_any key W
  have CV : Hid (∀ W, Calls Try.prog 59 #[.string val] W fun e w' => e = .returned (.string cv) ∧ w' = W) := fun W => by rw [hcv]; exact specCut_any val W
  have HCK : Hid (ck = St.cut key) := hck
  have HCV : Hid (cv = St.cut val) := hcv
  clear hck hcv
  have hl : cs.length ≤ 100000 := hv
  obtain ⟨ad, c, rfl, -⟩ := h1
  obtain ⟨bd, d, rfl, -⟩ := h2
  obtain ⟨n, hn⟩ : ∃ n, n = vs.length := ⟨_, rfl⟩
  obtain ⟨m, hm⟩ : ∃ m, m = cs.length := ⟨_, rfl⟩
  rw [← hm] at HV hl
  rw [← hn, ← hm] at CW ⊢
  have HN : Hid (m = cs.length) := hm
  clear hn hm hs hv
  have HB : Hid (Below w.heap.size w ((w.alloc (.cells #[.slice ad n c, .slice bd m d, .string o] 27)).alloc (.cells #[.slice none 0 0, .slice none 0 0, .string ByteArray.empty] 27))) := ((Below.refl _ _).alloc (Nat.le_refl _) _).alloc (by simp) _
  have HZ0 : Hid _ := s2_0 w (.cells #[.slice ad n c, .slice bd m d, .string o] 27) (.cells #[.slice none 0 0, .slice none 0 0, .string ByteArray.empty] 27)
  have HZ1 : Hid _ := s2_1 w (.cells #[.slice ad n c, .slice bd m d, .string o] 27) (.cells #[.slice none 0 0, .slice none 0 0, .string ByteArray.empty] 27)
  have HZ : Hid (w.heap.size + 1 < ((w.alloc (.cells #[.slice ad n c, .slice bd m d, .string o] 27)).alloc (.cells #[.slice none 0 0, .slice none 0 0, .string ByteArray.empty] 27)).heap.size) := by show _ < _; simp
  go_enter Try.func52, Try.ntmps52
  go_wp2_with fail
  change Calls _ _ _ ((w.alloc (.cells #[.slice ad n c, .slice bd m d, .string o] 27)).alloc (.cells #[.slice none 0 0, .slice none 0 0, .string ByteArray.empty] 27)) _
  generalize ((w.alloc (.cells #[.slice ad n c, .slice bd m d, .string o] 27)).alloc (.cells #[.slice none 0 0, .slice none 0 0, .string ByteArray.empty] 27)) = W0 at *
  refine (CW.out W0 HB.out).mono ?_
  rintro e w1 ⟨u, x, rfl, hu, hx, hb1⟩
  have B1 : Hid (Below W0.heap.size W0 w1) := hb1
  have HU : Hid (VrIn W0.heap.size w1.heap.size w1 u vs) := hu
  have HX : Hid (ClIn W0.heap.size w1.heap.size w1 x cs) := hx
  obtain ⟨ua, uc, rfl, -⟩ := hu
  obtain ⟨xa, xc, rfl, -⟩ := hx
  have HSZ : Hid (w.heap.size + 1 < W0.heap.size ∧ W0.heap.size ≤ w1.heap.size) := ⟨HZ.out, B1.out.size⟩
  have G2 : Hid (Below w1.heap.size w1 ((w1.alloc (.cells #[.slice ua vs.length uc, .slice xa cs.length xc, .string o] 27)).alloc (.cells #[.string name, .string ck, .string cv] 50))) := ((Below.refl _ _).alloc (Nat.le_refl _) _).alloc (by simp) _
  have HR2 : Hid _ := s2_0 w1 (.cells #[.slice ua vs.length uc, .slice xa cs.length xc, .string o] 27) (.cells #[.string name, .string ck, .string cv] 50)
  have HRX : Hid _ := s2_1 w1 (.cells #[.slice ua vs.length uc, .slice xa cs.length xc, .string o] 27) (.cells #[.string name, .string ck, .string cv] 50)
  have HZO : Hid (((w1.alloc (.cells #[.slice ua vs.length uc, .slice xa cs.length xc, .string o] 27)).alloc (.cells #[.string name, .string ck, .string cv] 50)).heap.size = w1.heap.size + 2) := by show _ = _; simp
  have HRW : Hid (ClRow (w1.heap.size + 2) (((w1.alloc (.cells #[.slice ua vs.length uc, .slice xa cs.length xc, .string o] 27)).alloc (.cells #[.string name, .string ck, .string cv] 50)).alloc (.cells #[] 50)) (.slice (some ⟨w1.heap.size + 2, 0, none⟩) 0 0) []) := by
    have hg := heap_alloc_new ((w1.alloc (.cells #[.slice ua vs.length uc, .slice xa cs.length xc, .string o] 27)).alloc (.cells #[.string name, .string ck, .string cv] 50)) (.cells #[] 50)
    rw [HZO.out] at hg
    exact ⟨rfl, .inr ⟨w1.heap.size + 2, 0, #[], rfl, Nat.le_refl _, hg, Nat.le_refl _, by decide, rfl, rfl⟩⟩
  have HBW3 : Hid (Below (w1.heap.size + 2) ((w1.alloc (.cells #[.slice ua vs.length uc, .slice xa cs.length xc, .string o] 27)).alloc (.cells #[.string name, .string ck, .string cv] 50)) (((w1.alloc (.cells #[.slice ua vs.length uc, .slice xa cs.length xc, .string o] 27)).alloc (.cells #[.string name, .string ck, .string cv] 50)).alloc (.cells #[] 50))) := (Below.refl _ _).alloc (by rw [HZO.out]; exact Nat.le_refl _) _
  have HZ3 : Hid (w1.heap.size + 2 ≤ (((w1.alloc (.cells #[.slice ua vs.length uc, .slice xa cs.length xc, .string o] 27)).alloc (.cells #[.string name, .string ck, .string cv] 50)).alloc (.cells #[] 50)).heap.size) := by show _ ≤ _; simp
  clear hb1 CW
  go_wp2_with (first | (go_at_call 59; refine (CK.out _).mono ?_; rintro e w2 ⟨rfl, rfl⟩) | (go_at_call 59; refine (CV.out _).mono ?_; rintro e w2 ⟨rfl, rfl⟩))
  generalize ((w1.alloc (.cells #[.slice ua vs.length uc, .slice xa cs.length xc, .string o] 27)).alloc (.cells #[.string name, .string ck, .string cv] 50)) = W2 at *
  generalize W2.alloc (.cells #[] 50) = W3 at *
  obtain ⟨B, hB⟩ : ∃ B, B = w1.heap.size + 2 := ⟨_, rfl⟩
  rw [show w1.heap.size + 1 + 1 = w1.heap.size + 2 from rfl] at *
  rw [← hB] at HRW HBW3 HZ3 HZO ⊢
  have HBO : Hid (B = w1.heap.size + 2) := hB
  clear hB CK CV
  have HWW : Hid (∀ W, Below B W2 W → Below w.heap.size w W) := fun W hb => ((HB.out.trans (B1.out.mono HB.out.size)).trans (G2.out.mono (by have := HSZ.out; omega))).trans (hb.mono (by have := HSZ.out; have := HBO.out; omega))
  have HX0 : Hid (∀ W, Below B W2 W → W.heap[w.heap.size]? = some (.cells #[.slice ad n c, .slice bd m d, .string o] 27 (0, 0))) := fun W hb => (hb.block _ (by have := HSZ.out; have := HBO.out; omega)).trans ((G2.out.block _ (by have := HSZ.out; omega)).trans ((B1.out.block _ (by have := HSZ.out; omega)).trans HZ0.out))
  have HX1 : Hid (∀ W, Below B W2 W → W.heap[w.heap.size + 1]? = some (.cells #[.slice none 0 0, .slice none 0 0, .string ByteArray.empty] 27 (0, 0))) := fun W hb => (hb.block _ (by have := HSZ.out; have := HBO.out; omega)).trans ((G2.out.block _ (by have := HSZ.out; omega)).trans ((B1.out.block _ (by have := HSZ.out; omega)).trans HZ1.out))
  have HX2 : Hid (∀ W, Below B W2 W → W.heap[w1.heap.size]? = some (.cells #[.slice ua vs.length uc, .slice xa cs.length xc, .string o] 27 (0, 0))) := fun W hb => (hb.block _ (by have := HBO.out; omega)).trans HR2.out
  have HXX : Hid (∀ W, Below B W2 W → W.heap[w1.heap.size + 1]? = some (.cells #[.string name, .string ck, .string cv] 50 (0, 0))) := fun W hb => (hb.block _ (by have := HBO.out; omega)).trans HRX.out
  have HLL : Hid (∀ j, (St.aheadCl cs name key j).length ≤ m + m + 1) := fun j => by have := aheadCl_len cs name key j; rw [HN.out]; omega
  clear HR2 HZ0 HZ1 HRX
  go_loopw [11, 12] (fun u i wr => ∃ j : Nat, i = .int .i64 (j : Int) ∧ j ≤ m ∧ B ≤ wr.heap.size ∧ Hid (Below B W2 wr) ∧ Hid (ClRow B wr u (St.aheadCl cs name key j))) (fun _ i _ => m - (intOf i).toNat)
  case atStart => exact ⟨0, rfl, by omega, HZ3.out, HBW3, HRW⟩
  case round =>
    clear HRW HBW3 HZ3
    obtain ⟨j, rfl, hj, hsr, HW, HR⟩ := hrel
    have HBW : Hid (Below w.heap.size w wr) := HWW.out _ HW.out
    have s1 : wr.cell? ⟨w.heap.size, 1, none⟩ = some (.slice bd m d) := (blk_cell (HX0.out _ HW.out) 1).trans rfl
    have z0 : wr.cell? ⟨w1.heap.size + 1, 0, none⟩ = some (.string name) := (blk_cell (HXX.out _ HW.out) 0).trans rfl
    have z1 : wr.cell? ⟨w1.heap.size + 1, 1, none⟩ = some (.string ck) := (blk_cell (HXX.out _ HW.out) 1).trans rfl
    have z2 : wr.cell? ⟨w1.heap.size + 1, 2, none⟩ = some (.string cv) := (blk_cell (HXX.out _ HW.out) 2).trans rfl
    by_cases hlt : j < m
    · obtain ⟨a', c', e', f⟩ := HV.out _ HBW.out
      obtain ⟨rfl, -, rfl⟩ : bd = a' ∧ m = cs.length ∧ d = c' := by simpa using e'
      obtain ⟨g, of, rfl, hg, hc⟩ := f (by rw [← HN.out]; omega)
      have t1 := hc j (by rw [← HN.out]; exact hlt)
      obtain ⟨p, hp⟩ : ∃ p, p = cs.getD j Cl.no := ⟨_, rfl⟩
      have HY : Hid (St.ltC name key p = true → St.aheadCl cs name key (j + 1) = St.aheadCl cs name key j ++ [p]) := fun h => by rw [hp] at h ⊢; exact aheadCl_yes cs name key j (by rw [← HN.out]; exact hlt) h
      have HNO : Hid (St.ltC name key p = false → St.aheadCl cs name key (j + 1) = St.aheadCl cs name key j) := fun h => by rw [hp] at h; exact aheadCl_no cs name key j (by rw [← HN.out]; exact hlt) h
      rw [← hp] at t1
      clear hp hc f e'
      obtain ⟨p0, p1, p2⟩ := p
      simp only at t1
      obtain ⟨x0, x1, x2⟩ := t1
      have i1 : (j : Int) < (m : Int) := by omega
      have i0 : (0 : Int) ≤ (j : Int) := by omega
      have HLN : Hid ((St.aheadCl cs name key j).length ≤ m + m + 1) := HLL.out j
      have HPE : Hid (St.ltC name key ⟨p0, p1, p2⟩ = St.lt2 p0 p1 name ck) := by show _ = _; rw [HCK.out]; rfl
      have CA : Hid (∀ W, Calls Try.prog 28 #[.agg #[.string p0, .string p1, .string p2], .agg #[.string name, .string ck, .string cv]] W fun e w' => e = .returned (.bool (St.lt2 p0 p1 name ck)) ∧ Below W.heap.size W w') := fun W => spAhead p0 p1 p2 name ck cv W
      cases ht : St.lt2 p0 p1 name ck with
      | true =>
        rw [ht] at CA
        have HAT : Hid (St.ltC name key ⟨p0, p1, p2⟩ = true) := HPE.out.trans ht
        clear ht HPE
        go_wp2_with fail
        go_region_held3 (fun W => W.cell? ⟨w.heap.size, 1, none⟩ = some (.slice (some ⟨g, of, none⟩) m d) ∧ W.cell? ⟨w1.heap.size + 1, 0, none⟩ = some (.string name) ∧ W.cell? ⟨w1.heap.size + 1, 1, none⟩ = some (.string ck) ∧ W.cell? ⟨w1.heap.size + 1, 2, none⟩ = some (.string cv) ∧ W.cell? ⟨g, of + j * 3, none⟩ = some (.string p0) ∧ W.cell? ⟨g, of + j * 3 + 1, none⟩ = some (.string p1) ∧ W.cell? ⟨g, of + j * 3 + 2, none⟩ = some (.string p2)) (first | exact keepC7 hb0 (by assumption) | go_keep | exact ⟨s1, z0, z1, z2, x0, x1, x2⟩ | assumption) ((go_at_call 28; refine (CA.out _).mono ?_; rintro e w2 ⟨rfl, hb0⟩))
        have hb2 : Below wr.heap.size wr w2 := (Below.refl wr.heap.size wr).drew.trans hb0
        clear hb0
        have hs2 : B ≤ w2.heap.size := by have := hb2.size; omega
        have HWA : Hid (Below B W2 w2) := HW.out.trans (hb2.mono hsr)
        have HRA : Hid (ClRow B w2 u11 (St.aheadCl cs name key j)) := rowKeep HR.out (fun q hq => hb2.block q (World.ownsRow.lt HR.out q hq).2)
        have s1' : w2.cell? ⟨w.heap.size, 1, none⟩ = some (.slice (some ⟨g, of, none⟩) m d) := (blk_cell (HX0.out _ HWA.out) 1).trans rfl
        have x0' := cell_up hb2 x0
        have x1' := cell_up hb2 x1
        have x2' := cell_up hb2 x2
        clear s1 z0 z1 z2 x0 x1 x2 hb2 HW HR CA hsr HBW
        have HE : Hid _ := HY.out HAT.out
        clear HY HNO
        go_wp2_with (at_builtin; go_must (refine ClRow.push HRA.out rfl _ _ rfl rfl ⟨p0, p1, p2⟩ _ rfl rfl (by have := HLN.out; omega) hs2 ?_))
        intro q cap w3 hr3 hs3 hb3
        have HR2 : Hid (ClRow B w3 (.slice (some ⟨q, 0, none⟩) ((St.aheadCl cs name key j).length + 1) cap) (St.aheadCl cs name key (j + 1))) := by
          show ClRow _ _ _ _
          rw [HE.out]
          exact hr3
        have HW2 : Hid (Below B W2 w3) := HWA.out.trans hb3
        have hs10 : B ≤ w3.heap.size := by omega
        clear hr3 hb3 HRA HWA hs2 hs3 x0' x1' x2' s1' HE
        go_wp2
        go_roundw
        case rel => exact ⟨j + 1, by go_num, by omega, hs10, HW2, HR2⟩
        case measure => simp [intOf]; omega
      | false =>
        rw [ht] at CA
        have HAT : Hid (St.ltC name key ⟨p0, p1, p2⟩ = false) := HPE.out.trans ht
        clear ht HPE
        go_wp2_with fail
        go_region_held3 (fun W => W.cell? ⟨w.heap.size, 1, none⟩ = some (.slice (some ⟨g, of, none⟩) m d) ∧ W.cell? ⟨w1.heap.size + 1, 0, none⟩ = some (.string name) ∧ W.cell? ⟨w1.heap.size + 1, 1, none⟩ = some (.string ck) ∧ W.cell? ⟨w1.heap.size + 1, 2, none⟩ = some (.string cv) ∧ W.cell? ⟨g, of + j * 3, none⟩ = some (.string p0) ∧ W.cell? ⟨g, of + j * 3 + 1, none⟩ = some (.string p1) ∧ W.cell? ⟨g, of + j * 3 + 2, none⟩ = some (.string p2)) (first | exact keepC7 hb0 (by assumption) | go_keep | exact ⟨s1, z0, z1, z2, x0, x1, x2⟩ | assumption) ((go_at_call 28; refine (CA.out _).mono ?_; rintro e w2 ⟨rfl, hb0⟩))
        have hb2 : Below wr.heap.size wr w2 := (Below.refl wr.heap.size wr).drew.trans hb0
        clear hb0
        have hs2 : B ≤ w2.heap.size := by have := hb2.size; omega
        have HWA : Hid (Below B W2 w2) := HW.out.trans (hb2.mono hsr)
        have HRA : Hid (ClRow B w2 u11 (St.aheadCl cs name key j)) := rowKeep HR.out (fun q hq => hb2.block q (World.ownsRow.lt HR.out q hq).2)
        have s1' : w2.cell? ⟨w.heap.size, 1, none⟩ = some (.slice (some ⟨g, of, none⟩) m d) := (blk_cell (HX0.out _ HWA.out) 1).trans rfl
        have x0' := cell_up hb2 x0
        have x1' := cell_up hb2 x1
        have x2' := cell_up hb2 x2
        clear s1 z0 z1 z2 x0 x1 x2 hb2 HW HR CA hsr HBW
        have HR2 : Hid (ClRow B w2 u11 (St.aheadCl cs name key (j + 1))) := by
          show ClRow _ _ _ _
          rw [HNO.out HAT.out]
          exact HRA.out
        clear HY HNO HRA
        go_wp2
        go_roundw
        case rel => exact ⟨j + 1, by go_num, by omega, hs2, HWA, HR2⟩
        case measure => simp [intOf]; omega
    · have hjm : j = m := by omega
      have i1 : ¬ ((j : Int) < (m : Int)) := by omega
      have HJ : Hid (cs.length ≤ j) := by show _ ≤ _; rw [← HN.out]; omega
      clear hjm
      go_wp2_with (at_builtin; go_must (refine ClRow.push HR.out rfl _ _ rfl rfl ⟨name, ck, cv⟩ _ rfl rfl (by have := HLL.out j; omega) hsr ?_))
      intro q cap w2 hr2 hs2 hb2
      have HRB : Hid (ClRow B w2 (.slice (some ⟨q, 0, none⟩) ((St.aheadCl cs name key j).length + 1) cap) (St.behindCl cs name key val 0)) := by show ClRow _ _ _ _; rw [behindCl_zero cs name key val j HJ.out, ← HCK.out, ← HCV.out]; exact hr2
      have HWB : Hid (Below B W2 w2) := HW.out.trans hb2
      have hsB : B ≤ w2.heap.size := by omega
      clear HLL
      have HLL : Hid (∀ j, (St.behindCl cs name key val j).length ≤ m + m + 1) := fun j => by rw [HN.out]; exact behindCl_len cs name key val j
      clear hr2 hb2 HR HW hs2 hsr s1 z0 z1 z2 HBW i1 HJ
      go_wp2
      go_loopw [11, 13] (fun u i wr => ∃ j : Nat, i = .int .i64 (j : Int) ∧ j ≤ m ∧ B ≤ wr.heap.size ∧ Hid (Below B W2 wr) ∧ Hid (ClRow B wr u (St.behindCl cs name key val j))) (fun _ i _ => m - (intOf i).toNat)
      case atStart => exact ⟨0, rfl, by omega, hsB, HWB, HRB⟩
      case round =>
        clear HRB HWB hsB
        clear hlt hj
        obtain ⟨j, rfl, hj, hsr, HW, HR⟩ := hrel
        have HBW : Hid (Below w.heap.size w wr) := HWW.out _ HW.out
        have s1 : wr.cell? ⟨w.heap.size, 1, none⟩ = some (.slice bd m d) := (blk_cell (HX0.out _ HW.out) 1).trans rfl
        have z0 : wr.cell? ⟨w1.heap.size + 1, 0, none⟩ = some (.string name) := (blk_cell (HXX.out _ HW.out) 0).trans rfl
        have z1 : wr.cell? ⟨w1.heap.size + 1, 1, none⟩ = some (.string ck) := (blk_cell (HXX.out _ HW.out) 1).trans rfl
        have z2 : wr.cell? ⟨w1.heap.size + 1, 2, none⟩ = some (.string cv) := (blk_cell (HXX.out _ HW.out) 2).trans rfl
        by_cases hlt : j < m
        · obtain ⟨a', c', e', f⟩ := HV.out _ HBW.out
          obtain ⟨rfl, -, rfl⟩ : bd = a' ∧ m = cs.length ∧ d = c' := by simpa using e'
          obtain ⟨g, of, rfl, hg, hc⟩ := f (by rw [← HN.out]; omega)
          have t1 := hc j (by rw [← HN.out]; exact hlt)
          obtain ⟨p, hp⟩ : ∃ p, p = cs.getD j Cl.no := ⟨_, rfl⟩
          have HY : Hid (St.gtC name key p = true → St.behindCl cs name key val (j + 1) = St.behindCl cs name key val j ++ [p]) := fun h => by rw [hp] at h ⊢; exact behindCl_yes cs name key val j (by rw [← HN.out]; exact hlt) h
          have HNO : Hid (St.gtC name key p = false → St.behindCl cs name key val (j + 1) = St.behindCl cs name key val j) := fun h => by rw [hp] at h; exact behindCl_no cs name key val j (by rw [← HN.out]; exact hlt) h
          rw [← hp] at t1
          clear hp hc f e'
          obtain ⟨p0, p1, p2⟩ := p
          simp only at t1
          obtain ⟨x0, x1, x2⟩ := t1
          have i1 : (j : Int) < (m : Int) := by omega
          have i0 : (0 : Int) ≤ (j : Int) := by omega
          have HLN : Hid ((St.behindCl cs name key val j).length ≤ m + m + 1) := HLL.out j
          have HPE : Hid (St.gtC name key ⟨p0, p1, p2⟩ = St.lt2 name ck p0 p1) := by show _ = _; rw [HCK.out]; rfl
          have CA : Hid (∀ W, Calls Try.prog 28 #[.agg #[.string name, .string ck, .string cv], .agg #[.string p0, .string p1, .string p2]] W fun e w' => e = .returned (.bool (St.lt2 name ck p0 p1)) ∧ Below W.heap.size W w') := fun W => spAhead name ck cv p0 p1 p2 W
          cases ht : St.lt2 name ck p0 p1 with
          | true =>
            rw [ht] at CA
            have HAT : Hid (St.gtC name key ⟨p0, p1, p2⟩ = true) := HPE.out.trans ht
            clear ht HPE
            go_wp2_with fail
            go_region_held3 (fun W => W.cell? ⟨w.heap.size, 1, none⟩ = some (.slice (some ⟨g, of, none⟩) m d) ∧ W.cell? ⟨w1.heap.size + 1, 0, none⟩ = some (.string name) ∧ W.cell? ⟨w1.heap.size + 1, 1, none⟩ = some (.string ck) ∧ W.cell? ⟨w1.heap.size + 1, 2, none⟩ = some (.string cv) ∧ W.cell? ⟨g, of + j * 3, none⟩ = some (.string p0) ∧ W.cell? ⟨g, of + j * 3 + 1, none⟩ = some (.string p1) ∧ W.cell? ⟨g, of + j * 3 + 2, none⟩ = some (.string p2)) (first | exact keepC7 hb0 (by assumption) | go_keep | exact ⟨s1, z0, z1, z2, x0, x1, x2⟩ | assumption) ((go_at_call 28; refine (CA.out _).mono ?_; rintro e w2 ⟨rfl, hb0⟩))
            have hb2 : Below wr.heap.size wr w2 := (Below.refl wr.heap.size wr).drew.trans hb0
            clear hb0
            have hs2 : B ≤ w2.heap.size := by have := hb2.size; omega
            have HWA : Hid (Below B W2 w2) := HW.out.trans (hb2.mono hsr)
            have HRA : Hid (ClRow B w2 u11 (St.behindCl cs name key val j)) := rowKeep HR.out (fun q hq => hb2.block q (World.ownsRow.lt HR.out q hq).2)
            have s1' : w2.cell? ⟨w.heap.size, 1, none⟩ = some (.slice (some ⟨g, of, none⟩) m d) := (blk_cell (HX0.out _ HWA.out) 1).trans rfl
            have x0' := cell_up hb2 x0
            have x1' := cell_up hb2 x1
            have x2' := cell_up hb2 x2
            clear s1 z0 z1 z2 x0 x1 x2 hb2 HW HR CA hsr HBW
            have HE : Hid _ := HY.out HAT.out
            clear HY HNO
            go_wp2_with (at_builtin; go_must (refine ClRow.push HRA.out rfl _ _ rfl rfl ⟨p0, p1, p2⟩ _ rfl rfl (by have := HLN.out; omega) hs2 ?_))
            intro q cap w3 hr3 hs3 hb3
            have HR2 : Hid (ClRow B w3 (.slice (some ⟨q, 0, none⟩) ((St.behindCl cs name key val j).length + 1) cap) (St.behindCl cs name key val (j + 1))) := by
              show ClRow _ _ _ _
              rw [HE.out]
              exact hr3
            have HW2 : Hid (Below B W2 w3) := HWA.out.trans hb3
            have hs10 : B ≤ w3.heap.size := by omega
            clear hr3 hb3 HRA HWA hs2 hs3 x0' x1' x2' s1' HE
            go_wp2
            go_roundw
            case rel => exact ⟨j + 1, by go_num, by omega, hs10, HW2, HR2⟩
            case measure => simp [intOf]; omega
          | false =>
            rw [ht] at CA
            have HAT : Hid (St.gtC name key ⟨p0, p1, p2⟩ = false) := HPE.out.trans ht
            clear ht HPE
            go_wp2_with fail
            go_region_held3 (fun W => W.cell? ⟨w.heap.size, 1, none⟩ = some (.slice (some ⟨g, of, none⟩) m d) ∧ W.cell? ⟨w1.heap.size + 1, 0, none⟩ = some (.string name) ∧ W.cell? ⟨w1.heap.size + 1, 1, none⟩ = some (.string ck) ∧ W.cell? ⟨w1.heap.size + 1, 2, none⟩ = some (.string cv) ∧ W.cell? ⟨g, of + j * 3, none⟩ = some (.string p0) ∧ W.cell? ⟨g, of + j * 3 + 1, none⟩ = some (.string p1) ∧ W.cell? ⟨g, of + j * 3 + 2, none⟩ = some (.string p2)) (first | exact keepC7 hb0 (by assumption) | go_keep | exact ⟨s1, z0, z1, z2, x0, x1, x2⟩ | assumption) ((go_at_call 28; refine (CA.out _).mono ?_; rintro e w2 ⟨rfl, hb0⟩))
            have hb2 : Below wr.heap.size wr w2 := (Below.refl wr.heap.size wr).drew.trans hb0
            clear hb0
            have hs2 : B ≤ w2.heap.size := by have := hb2.size; omega
            have HWA : Hid (Below B W2 w2) := HW.out.trans (hb2.mono hsr)
            have HRA : Hid (ClRow B w2 u11 (St.behindCl cs name key val j)) := rowKeep HR.out (fun q hq => hb2.block q (World.ownsRow.lt HR.out q hq).2)
            have s1' : w2.cell? ⟨w.heap.size, 1, none⟩ = some (.slice (some ⟨g, of, none⟩) m d) := (blk_cell (HX0.out _ HWA.out) 1).trans rfl
            have x0' := cell_up hb2 x0
            have x1' := cell_up hb2 x1
            have x2' := cell_up hb2 x2
            clear s1 z0 z1 z2 x0 x1 x2 hb2 HW HR CA hsr HBW
            have HR2 : Hid (ClRow B w2 u11 (St.behindCl cs name key val (j + 1))) := by
              show ClRow _ _ _ _
              rw [HNO.out HAT.out]
              exact HRA.out
            clear HY HNO HRA
            go_wp2
            go_roundw
            case rel => exact ⟨j + 1, by go_num, by omega, hs2, HWA, HR2⟩
            case measure => simp [intOf]; omega
        · have hjm : j = m := by omega
          have i1 : ¬ ((j : Int) < (m : Int)) := by omega
          have HR1 : Hid (ClRow B wr u11 (St.newCells cs name key val)) := by show ClRow _ _ _ _; rw [← behindCl_end cs name key val j (by rw [← HN.out]; omega)]; exact HR.out
          clear HR hjm HLL z0 z1 z2
          have HI : Hid (ClIn B wr.heap.size wr u11 (St.newCells cs name key val)) := ClRow.in HR1.out
          obtain ⟨la, lc, rfl, -⟩ := ClRow.in HR1.out
          clear HR1
          by_cases h60 : (St.newCells cs name key val).length ≤ 2000
          · have HOV : Hid (O = St.newCells cs name key val) := by show _ = _; rw [HO.out]; unfold St.setCells; rw [if_pos h60]
            generalize St.newCells cs name key val = NV at *
            have i60 : (NV.length : Int) ≤ 2000 := by omega
            have q0 : wr.cell? ⟨w1.heap.size, 1, none⟩ = some (.slice xa cs.length xc) := (blk_cell (HX2.out _ HW.out) 1).trans rfl
            have f0 := blk_free (HX2.out _ HW.out) 1
            have HM : Hid _ := blk_set (HX2.out _ HW.out) 1 (.slice la NV.length lc)
            have HK : Hid ((wr.setCell ⟨w1.heap.size, 1, none⟩ (.slice la NV.length lc)).heap[w.heap.size + 1]? = _) := (Below.heap_setCell _ _ _ _ (by show w.heap.size + 1 ≠ w1.heap.size; have := HSZ.out; omega)).trans (HX1.out _ HW.out)
            have r0 : (wr.setCell ⟨w1.heap.size, 1, none⟩ (.slice la NV.length lc)).cell? ⟨w1.heap.size, 0, none⟩ = some (.slice ua vs.length uc) := (blk_cell HM.out 0).trans rfl
            have r1 : (wr.setCell ⟨w1.heap.size, 1, none⟩ (.slice la NV.length lc)).cell? ⟨w1.heap.size, 1, none⟩ = some (.slice la NV.length lc) := (blk_cell HM.out 1).trans rfl
            have r2 : (wr.setCell ⟨w1.heap.size, 1, none⟩ (.slice la NV.length lc)).cell? ⟨w1.heap.size, 2, none⟩ = some (.string o) := (blk_cell HM.out 2).trans rfl
            have y0 : (wr.setCell ⟨w1.heap.size, 1, none⟩ (.slice la NV.length lc)).cell? ⟨w.heap.size + 1, 0, none⟩ = some (.slice none 0 0) := (blk_cell HK.out 0).trans rfl
            have y1 : (wr.setCell ⟨w1.heap.size, 1, none⟩ (.slice la NV.length lc)).cell? ⟨w.heap.size + 1, 1, none⟩ = some (.slice none 0 0) := (blk_cell HK.out 1).trans rfl
            have y2 : (wr.setCell ⟨w1.heap.size, 1, none⟩ (.slice la NV.length lc)).cell? ⟨w.heap.size + 1, 2, none⟩ = some (.string ByteArray.empty) := (blk_cell HK.out 2).trans rfl
            have g0 := blk_free HK.out 0
            have g1 := blk_free HK.out 1
            have g2 := blk_free HK.out 2
            go_wp2_with fail
            refine bodyPost_ret (results_cell_row (p := 8) (ty := 27) rfl _ _ (w.heap.size + 1) 27 _ (0, 0) _ rfl (blk_set (blk_set (blk_set HK.out 0 _) 1 _) 2 _) Try.underlying27 rfl (by kernel_rfl)) rfl ?_
            have hsz := HSZ.out
            have hbo := HBO.out
            have hk : ∀ b, W0.heap.size ≤ b → b ≠ w1.heap.size → ((((wr.setCell ⟨w1.heap.size, 1, none⟩ (.slice la NV.length lc)).setCell ⟨w.heap.size + 1, 0, none⟩ (.slice ua vs.length uc)).setCell ⟨w.heap.size + 1, 1, none⟩ (.slice la NV.length lc)).setCell ⟨w.heap.size + 1, 2, none⟩ (.string o)).heap[b]? = wr.heap[b]? := fun b hb hb2 => by
              rw [Below.heap_setCell _ _ _ _ (by show b ≠ w.heap.size + 1; omega), Below.heap_setCell _ _ _ _ (by show b ≠ w.heap.size + 1; omega), Below.heap_setCell _ _ _ _ (by show b ≠ w.heap.size + 1; omega), Below.heap_setCell _ _ _ _ (by show b ≠ w1.heap.size; omega)]
            refine ⟨_, _, rfl, ?_, ?_, ?_⟩
            · exact (HU.out.keep (fun b hb hb2 => (hk b hb (by omega)).trans ((HW.out.block b (by omega)).trans (G2.out.block b hb2)))).wide (by omega) (by simp [World.setCell]; omega)
            · rw [HOV.out]
              exact (HI.out.keep (fun b hb hb2 => hk b (by omega) (by omega))).wide (by omega) (by simp [World.setCell])
            · exact ((((HBW.out.setCell (by show _ ≤ w1.heap.size; omega) _).setCell (by show _ ≤ w.heap.size + 1; omega) _).setCell (by show _ ≤ w.heap.size + 1; omega) _).setCell (by show _ ≤ w.heap.size + 1; omega) _)
          · have HOV : Hid (O = cs) := by show _ = _; rw [HO.out]; unfold St.setCells; rw [if_neg h60]
            generalize St.newCells cs name key val = NV at *
            have i60 : ¬ (NV.length : Int) ≤ 2000 := by omega
            have HM : Hid _ := HX2.out _ HW.out
            have HK : Hid (wr.heap[w.heap.size + 1]? = _) := HX1.out _ HW.out
            have r0 : wr.cell? ⟨w1.heap.size, 0, none⟩ = some (.slice ua vs.length uc) := (blk_cell HM.out 0).trans rfl
            have r1 : wr.cell? ⟨w1.heap.size, 1, none⟩ = some (.slice xa cs.length xc) := (blk_cell HM.out 1).trans rfl
            have r2 : wr.cell? ⟨w1.heap.size, 2, none⟩ = some (.string o) := (blk_cell HM.out 2).trans rfl
            have y0 : wr.cell? ⟨w.heap.size + 1, 0, none⟩ = some (.slice none 0 0) := (blk_cell HK.out 0).trans rfl
            have y1 : wr.cell? ⟨w.heap.size + 1, 1, none⟩ = some (.slice none 0 0) := (blk_cell HK.out 1).trans rfl
            have y2 : wr.cell? ⟨w.heap.size + 1, 2, none⟩ = some (.string ByteArray.empty) := (blk_cell HK.out 2).trans rfl
            have g0 := blk_free HK.out 0
            have g1 := blk_free HK.out 1
            have g2 := blk_free HK.out 2
            go_wp2_with fail
            refine bodyPost_ret (results_cell_row (p := 8) (ty := 27) rfl _ _ (w.heap.size + 1) 27 _ (0, 0) _ rfl (blk_set (blk_set (blk_set HK.out 0 _) 1 _) 2 _) Try.underlying27 rfl (by kernel_rfl)) rfl ?_
            have hsz := HSZ.out
            have hbo := HBO.out
            have hk : ∀ b, W0.heap.size ≤ b → b ≠ w1.heap.size → (((wr.setCell ⟨w.heap.size + 1, 0, none⟩ (.slice ua vs.length uc)).setCell ⟨w.heap.size + 1, 1, none⟩ (.slice xa cs.length xc)).setCell ⟨w.heap.size + 1, 2, none⟩ (.string o)).heap[b]? = wr.heap[b]? := fun b hb hb2 => by
              rw [Below.heap_setCell _ _ _ _ (by show b ≠ w.heap.size + 1; omega), Below.heap_setCell _ _ _ _ (by show b ≠ w.heap.size + 1; omega), Below.heap_setCell _ _ _ _ (by show b ≠ w.heap.size + 1; omega)]
            refine ⟨_, _, rfl, ?_, ?_, ?_⟩
            · exact (HU.out.keep (fun b hb hb2 => (hk b hb (by omega)).trans ((HW.out.block b (by omega)).trans (G2.out.block b hb2)))).wide (by omega) (by simp [World.setCell]; omega)
            · rw [HOV.out]
              exact (HX.out.keep (fun b hb hb2 => (hk b hb (by omega)).trans ((HW.out.block b (by omega)).trans (G2.out.block b hb2)))).wide (by omega) (by simp [World.setCell]; omega)
            · exact (((HBW.out.setCell (by show _ ≤ w.heap.size + 1; omega) _).setCell (by show _ ≤ w.heap.size + 1; omega) _).setCell (by show _ ≤ w.heap.size + 1; omega) _)
end Go.Proofs.Ytmofljfffcnlbaa
