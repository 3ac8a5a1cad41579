/- What is set: the specification's SetVar. -/
import Derived.Test.YtmofljfffcnlbaaMPSxZac
import Derived.Test.YtmofljfffcnlbaaMPSxZaj
import Derived.Deep.RegionWith
namespace Go.Proofs.Ytmofljfffcnlbaa
open Go.RowKit

set_option maxRecDepth 100000 in
set_option maxHeartbeats 4000000 in
theorem spSetVar (tv lv : Value) (o name val : ByteArray) (vs : List Vr) (cs : List Cl) (w : World) (h1 : VrAt w tv vs) (h2 : ClAt w lv cs) (hs : StSmall vs cs o) (hv : vs.length ≤ 100000) :
    Calls Try.prog 49 #[.agg #[tv, lv, .string o], .string name, .string val] w fun e w' => ∃ u x, e = .returned (.agg #[u, x, .string o]) ∧ VrIn w.heap.size w'.heap.size w' u (St.setVars vs name val) ∧ ClIn w.heap.size w'.heap.size w' x cs ∧ Below w.heap.size w w' := by
  obtain ⟨O, hO⟩ : ∃ O, O = St.setVars vs name val := ⟨_, rfl⟩
  have HO : Hid (O = St.setVars vs name val) := hO
  rw [← hO]
  clear hO
  have HV : Hid (∀ W, Below w.heap.size w W → VrAt W tv vs) := fun W hb => h1.keep hb
  have CW : Hid (∀ W, Below w.heap.size w W → Calls Try.prog 29 #[.agg #[tv, lv, .string o]] W fun e w' => ∃ u x, e = .returned (.agg #[u, x, .string o]) ∧ VrIn W.heap.size w'.heap.size w' u vs ∧ ClIn W.heap.size w'.heap.size w' x cs ∧ Below W.heap.size W w') := fun W hb => spCopy tv lv o vs cs W (h1.keep hb) (h2.keep hb) hs
  have CT : Hid (∀ W, Calls Try.prog 59 #[.string val] W fun e w' => e = .returned (.string (St.cut val)) ∧ w' = W) := fun W => specCut_any val W
  have hl : vs.length ≤ 100000 := hv
  obtain ⟨ad, c, rfl, -⟩ := h1
  obtain ⟨bd, d, rfl, -⟩ := h2
  obtain ⟨n, hn⟩ : ∃ n, n = vs.length := ⟨_, rfl⟩
  obtain ⟨m, hm⟩ : ∃ m, m = cs.length := ⟨_, rfl⟩
  rw [← hn] at HV hl
  rw [← hn, ← hm] at CW ⊢
  have HN : Hid (n = vs.length) := hn
  clear hn hm hs hv
  have HB : Hid (Below w.heap.size w ((w.alloc (.cells #[.slice ad n c, .slice bd m d, .string o] 27)).alloc (.cells #[.slice none 0 0, .slice none 0 0, .string ByteArray.empty] 27))) := ((Below.refl _ _).alloc (Nat.le_refl _) _).alloc (by simp) _
  have HZ0 : Hid _ := s2_0 w (.cells #[.slice ad n c, .slice bd m d, .string o] 27) (.cells #[.slice none 0 0, .slice none 0 0, .string ByteArray.empty] 27)
  have HZ1 : Hid _ := s2_1 w (.cells #[.slice ad n c, .slice bd m d, .string o] 27) (.cells #[.slice none 0 0, .slice none 0 0, .string ByteArray.empty] 27)
  have HZ : Hid (w.heap.size + 1 < ((w.alloc (.cells #[.slice ad n c, .slice bd m d, .string o] 27)).alloc (.cells #[.slice none 0 0, .slice none 0 0, .string ByteArray.empty] 27)).heap.size) := by show _ < _; simp
  go_enter Try.func49, Try.ntmps49
  go_wp2_with fail
  change Calls _ _ _ ((w.alloc (.cells #[.slice ad n c, .slice bd m d, .string o] 27)).alloc (.cells #[.slice none 0 0, .slice none 0 0, .string ByteArray.empty] 27)) _
  generalize ((w.alloc (.cells #[.slice ad n c, .slice bd m d, .string o] 27)).alloc (.cells #[.slice none 0 0, .slice none 0 0, .string ByteArray.empty] 27)) = W0 at *
  refine (CW.out W0 HB.out).mono ?_
  rintro e w1 ⟨u, x, rfl, hu, hx, hb1⟩
  have B1 : Hid (Below W0.heap.size W0 w1) := hb1
  have HU : Hid (VrIn W0.heap.size w1.heap.size w1 u vs) := hu
  have HX : Hid (ClIn W0.heap.size w1.heap.size w1 x cs) := hx
  obtain ⟨ua, uc, rfl, -⟩ := hu
  obtain ⟨xa, xc, rfl, -⟩ := hx
  have HSZ : Hid (w.heap.size + 1 < W0.heap.size ∧ W0.heap.size ≤ w1.heap.size) := ⟨HZ.out, B1.out.size⟩
  have G2 : Hid (Below w1.heap.size w1 (w1.alloc (.cells #[.slice ua vs.length uc, .slice xa cs.length xc, .string o] 27))) := (Below.refl _ _).alloc (Nat.le_refl _) _
  have HR2 : Hid _ := heap_alloc_new w1 (.cells #[.slice ua vs.length uc, .slice xa cs.length xc, .string o] 27)
  have HZO : Hid ((w1.alloc (.cells #[.slice ua vs.length uc, .slice xa cs.length xc, .string o] 27)).heap.size = w1.heap.size + 1) := by show _ = _; simp
  have HRW : Hid (VrRow (w1.heap.size + 1) ((w1.alloc (.cells #[.slice ua vs.length uc, .slice xa cs.length xc, .string o] 27)).alloc (.cells #[] 47)) (.slice (some ⟨w1.heap.size + 1, 0, none⟩) 0 0) []) := by
    have hg := heap_alloc_new (w1.alloc (.cells #[.slice ua vs.length uc, .slice xa cs.length xc, .string o] 27)) (.cells #[] 47)
    rw [HZO.out] at hg
    exact ⟨rfl, .inr ⟨w1.heap.size + 1, 0, #[], rfl, Nat.le_refl _, hg, Nat.le_refl _, by decide, rfl, rfl⟩⟩
  have HBW3 : Hid (Below (w1.heap.size + 1) (w1.alloc (.cells #[.slice ua vs.length uc, .slice xa cs.length xc, .string o] 27)) ((w1.alloc (.cells #[.slice ua vs.length uc, .slice xa cs.length xc, .string o] 27)).alloc (.cells #[] 47))) := (Below.refl _ _).alloc (by rw [HZO.out]; exact Nat.le_refl _) _
  have HZ3 : Hid (w1.heap.size + 1 ≤ ((w1.alloc (.cells #[.slice ua vs.length uc, .slice xa cs.length xc, .string o] 27)).alloc (.cells #[] 47)).heap.size) := by show _ ≤ _; simp
  clear hb1 CW
  go_wp2
  generalize (w1.alloc (.cells #[.slice ua vs.length uc, .slice xa cs.length xc, .string o] 27)) = W2 at *
  generalize W2.alloc (.cells #[] 47) = W3 at *
  obtain ⟨B, hB⟩ : ∃ B, B = w1.heap.size + 1 := ⟨_, rfl⟩
  rw [← hB] at HRW HBW3 HZ3 HZO ⊢
  have HBO : Hid (B = w1.heap.size + 1) := hB
  clear hB
  have HWW : Hid (∀ W, Below B W2 W → Below w.heap.size w W) := fun W hb => ((HB.out.trans (B1.out.mono HB.out.size)).trans (G2.out.mono (by have := HSZ.out; omega))).trans (hb.mono (by have := HSZ.out; have := HBO.out; omega))
  have HX0 : Hid (∀ W, Below B W2 W → W.heap[w.heap.size]? = some (.cells #[.slice ad n c, .slice bd m d, .string o] 27 (0, 0))) := fun W hb => (hb.block _ (by have := HSZ.out; have := HBO.out; omega)).trans ((G2.out.block _ (by have := HSZ.out; omega)).trans ((B1.out.block _ (by have := HSZ.out; omega)).trans HZ0.out))
  have HX1 : Hid (∀ W, Below B W2 W → W.heap[w.heap.size + 1]? = some (.cells #[.slice none 0 0, .slice none 0 0, .string ByteArray.empty] 27 (0, 0))) := fun W hb => (hb.block _ (by have := HSZ.out; have := HBO.out; omega)).trans ((G2.out.block _ (by have := HSZ.out; omega)).trans ((B1.out.block _ (by have := HSZ.out; omega)).trans HZ1.out))
  have HX2 : Hid (∀ W, Below B W2 W → W.heap[w1.heap.size]? = some (.cells #[.slice ua vs.length uc, .slice xa cs.length xc, .string o] 27 (0, 0))) := fun W hb => (hb.block _ (by have := HBO.out; omega)).trans HR2.out
  have HLL : Hid (∀ j, (St.aheadRow vs name j).length ≤ n + n + 1) := fun j => by have := aheadRow_len vs name j; rw [HN.out]; omega
  clear HR2 HZ0 HZ1
  go_loopw [8, 9] (fun u i wr => ∃ j : Nat, i = .int .i64 (j : Int) ∧ j ≤ n ∧ B ≤ wr.heap.size ∧ Hid (Below B W2 wr) ∧ Hid (VrRow B wr u (St.aheadRow vs name j))) (fun _ i _ => n - (intOf i).toNat)
  case atStart => exact ⟨0, rfl, by omega, HZ3.out, HBW3, HRW⟩
  case round =>
    clear HRW HBW3 HZ3
    obtain ⟨j, rfl, hj, hsr, HW, HR⟩ := hrel
    have HBW : Hid (Below w.heap.size w wr) := HWW.out _ HW.out
    have s0 : wr.cell? ⟨w.heap.size, 0, none⟩ = some (.slice ad n c) := (blk_cell (HX0.out _ HW.out) 0).trans rfl
    by_cases hlt : j < n
    · obtain ⟨a', c', e', f⟩ := HV.out _ HBW.out
      obtain ⟨rfl, -, rfl⟩ : ad = a' ∧ n = vs.length ∧ c = c' := by simpa using e'
      obtain ⟨g, of, rfl, hg, hc⟩ := f (by rw [← HN.out]; omega)
      have t1 := hc j (by rw [← HN.out]; exact hlt)
      obtain ⟨p, hp⟩ : ∃ p, p = vs.getD j Vr.no := ⟨_, rfl⟩
      have HY : Hid (St.ltV name p = true → St.aheadRow vs name (j + 1) = St.aheadRow vs name j ++ [p]) := fun h => by rw [hp] at h ⊢; exact aheadRow_yes vs name j (by rw [← HN.out]; exact hlt) h
      have HNO : Hid (St.ltV name p = false → St.aheadRow vs name (j + 1) = St.aheadRow vs name j) := fun h => by rw [hp] at h; exact aheadRow_no vs name j (by rw [← HN.out]; exact hlt) h
      rw [← hp] at t1
      clear hp hc f e'
      obtain ⟨p0, p1⟩ := p
      simp only at t1
      obtain ⟨x0, x1⟩ := t1
      have i1 : (j : Int) < (n : Int) := by omega
      have i0 : (0 : Int) ≤ (j : Int) := by omega
      have HLN : Hid ((St.aheadRow vs name j).length ≤ n + n + 1) := HLL.out j
      cases ht : Op.bytesLess p0.toList name.toList with
      | true =>
        have HE : Hid _ := HY.out ht
        clear HY HNO
        go_wp2_with (at_builtin; go_must (refine VrRow.push HR.out rfl _ _ rfl rfl ⟨p0, p1⟩ _ rfl rfl (by have := HLN.out; omega) hsr ?_))
        intro q cap w2 hr2 hs2 hb2
        have HR2 : Hid (VrRow B w2 (.slice (some ⟨q, 0, none⟩) ((St.aheadRow vs name j).length + 1) cap) (St.aheadRow vs name (j + 1))) := by
          show VrRow _ _ _ _
          rw [HE.out]
          exact hr2
        have HW2 : Hid (Below B W2 w2) := HW.out.trans hb2
        have hs10 : B ≤ w2.heap.size := by omega
        clear hr2 hb2 HR HW hs2 x0 x1 s0 HE HBW hsr
        go_wp2
        go_roundw
        case rel => exact ⟨j + 1, by go_num, by omega, hs10, HW2, HR2⟩
        case measure => simp [intOf]; omega
      | false =>
        have HR2 : Hid (VrRow B wr u8 (St.aheadRow vs name (j + 1))) := by
          show VrRow _ _ _ _
          rw [HNO.out ht]
          exact HR.out
        clear HY HNO HR
        go_wp2
        go_roundw
        case rel => exact ⟨j + 1, by go_num, by omega, hsr, HW, HR2⟩
        case measure => simp [intOf]; omega
    · have hjm : j = n := by omega
      have i1 : ¬ ((j : Int) < (n : Int)) := by omega
      have HJ : Hid (vs.length ≤ j) := by show _ ≤ _; rw [← HN.out]; omega
      clear hjm
      go_wp2_with fail
      refine (CT.out _).mono ?_
      rintro e w3 ⟨rfl, rfl⟩
      clear CT
      go_wp2_with (at_builtin; go_must (refine VrRow.push HR.out rfl _ _ rfl rfl ⟨name, St.cut val⟩ _ rfl rfl (by have := HLL.out j; omega) hsr ?_))
      intro q cap w2 hr2 hs2 hb2
      have HRB : Hid (VrRow B w2 (.slice (some ⟨q, 0, none⟩) ((St.aheadRow vs name j).length + 1) cap) (St.behindRow vs name val 0)) := by show VrRow _ _ _ _; rw [behindRow_zero vs name val j HJ.out]; exact hr2
      have HWB : Hid (Below B W2 w2) := HW.out.trans hb2
      have hsB : B ≤ w2.heap.size := by omega
      clear HLL
      have HLL : Hid (∀ j, (St.behindRow vs name val j).length ≤ n + n + 1) := fun j => by rw [HN.out]; exact behindRow_len vs name val j
      clear hr2 hb2 HR HW hs2 hsr s0 HBW i1 HJ
      go_wp2
      go_loopw [8, 10] (fun u i wr => ∃ j : Nat, i = .int .i64 (j : Int) ∧ j ≤ n ∧ B ≤ wr.heap.size ∧ Hid (Below B W2 wr) ∧ Hid (VrRow B wr u (St.behindRow vs name val j))) (fun _ i _ => n - (intOf i).toNat)
      case atStart => exact ⟨0, rfl, by omega, hsB, HWB, HRB⟩
      case round =>
        clear HRB HWB hsB
        clear hlt hj
        obtain ⟨j, rfl, hj, hsr, HW, HR⟩ := hrel
        have HBW : Hid (Below w.heap.size w wr) := HWW.out _ HW.out
        have s0 : wr.cell? ⟨w.heap.size, 0, none⟩ = some (.slice ad n c) := (blk_cell (HX0.out _ HW.out) 0).trans rfl
        by_cases hlt : j < n
        · obtain ⟨a', c', e', f⟩ := HV.out _ HBW.out
          obtain ⟨rfl, -, rfl⟩ : ad = a' ∧ n = vs.length ∧ c = c' := by simpa using e'
          obtain ⟨g, of, rfl, hg, hc⟩ := f (by rw [← HN.out]; omega)
          have t1 := hc j (by rw [← HN.out]; exact hlt)
          obtain ⟨p, hp⟩ : ∃ p, p = vs.getD j Vr.no := ⟨_, rfl⟩
          have HY : Hid (St.gtV name p = true → St.behindRow vs name val (j + 1) = St.behindRow vs name val j ++ [p]) := fun h => by rw [hp] at h ⊢; exact behindRow_yes vs name val j (by rw [← HN.out]; exact hlt) h
          have HNO : Hid (St.gtV name p = false → St.behindRow vs name val (j + 1) = St.behindRow vs name val j) := fun h => by rw [hp] at h; exact behindRow_no vs name val j (by rw [← HN.out]; exact hlt) h
          rw [← hp] at t1
          clear hp hc f e'
          obtain ⟨p0, p1⟩ := p
          simp only at t1
          obtain ⟨x0, x1⟩ := t1
          have i1 : (j : Int) < (n : Int) := by omega
          have i0 : (0 : Int) ≤ (j : Int) := by omega
          have HLN : Hid ((St.behindRow vs name val j).length ≤ n + n + 1) := HLL.out j
          cases ht2 : (p0.toList == name.toList) with
          | true =>
            cases ht : Op.bytesLess p0.toList name.toList with
            | true =>
              have HR2 : Hid (VrRow B wr u8 (St.behindRow vs name val (j + 1))) := by
                show VrRow _ _ _ _
                rw [HNO.out (by unfold St.gtV; simp only [ht, ht2]; rfl)]
                exact HR.out
              clear HY HNO HR
              go_wp2
              go_roundw
              case rel => exact ⟨j + 1, by go_num, by omega, hsr, HW, HR2⟩
              case measure => simp [intOf]; omega
            | false =>
              have HR2 : Hid (VrRow B wr u8 (St.behindRow vs name val (j + 1))) := by
                show VrRow _ _ _ _
                rw [HNO.out (by unfold St.gtV; simp only [ht, ht2]; rfl)]
                exact HR.out
              clear HY HNO HR
              go_wp2
              go_roundw
              case rel => exact ⟨j + 1, by go_num, by omega, hsr, HW, HR2⟩
              case measure => simp [intOf]; omega
          | false =>
            cases ht : Op.bytesLess p0.toList name.toList with
            | true =>
              have HR2 : Hid (VrRow B wr u8 (St.behindRow vs name val (j + 1))) := by
                show VrRow _ _ _ _
                rw [HNO.out (by unfold St.gtV; simp only [ht, ht2]; rfl)]
                exact HR.out
              clear HY HNO HR
              go_wp2
              go_roundw
              case rel => exact ⟨j + 1, by go_num, by omega, hsr, HW, HR2⟩
              case measure => simp [intOf]; omega
            | false =>
              have HE : Hid _ := HY.out (by unfold St.gtV; simp only [ht, ht2]; rfl)
              clear HY HNO
              go_wp2_with (at_builtin; go_must (refine VrRow.push HR.out rfl _ _ rfl rfl ⟨p0, p1⟩ _ rfl rfl (by have := HLN.out; omega) hsr ?_))
              intro q cap w2 hr2 hs2 hb2
              have HR2 : Hid (VrRow B w2 (.slice (some ⟨q, 0, none⟩) ((St.behindRow vs name val j).length + 1) cap) (St.behindRow vs name val (j + 1))) := by
                show VrRow _ _ _ _
                rw [HE.out]
                exact hr2
              have HW2 : Hid (Below B W2 w2) := HW.out.trans hb2
              have hs10 : B ≤ w2.heap.size := by omega
              clear hr2 hb2 HR HW hs2 x0 x1 s0 HE HBW hsr
              go_wp2
              go_roundw
              case rel => exact ⟨j + 1, by go_num, by omega, hs10, HW2, HR2⟩
              case measure => simp [intOf]; omega
        · have hjm : j = n := by omega
          have i1 : ¬ ((j : Int) < (n : Int)) := by omega
          have HR1 : Hid (VrRow B wr u8 (St.newVars vs name val)) := by show VrRow _ _ _ _; rw [← behindRow_end vs name val j (by rw [← HN.out]; omega)]; exact HR.out
          clear HR hjm HLL
          have HI : Hid (VrIn B wr.heap.size wr u8 (St.newVars vs name val)) := VrRow.in HR1.out
          obtain ⟨la, lc, rfl, -⟩ := VrRow.in HR1.out
          clear HR1
          by_cases h60 : (St.newVars vs name val).length ≤ 60
          · have HOV : Hid (O = St.newVars vs name val) := by show _ = _; rw [HO.out]; unfold St.setVars; rw [if_pos h60]
            generalize St.newVars vs name val = NV at *
            have i60 : (NV.length : Int) ≤ 60 := by omega
            have q0 : wr.cell? ⟨w1.heap.size, 0, none⟩ = some (.slice ua vs.length uc) := (blk_cell (HX2.out _ HW.out) 0).trans rfl
            have f0 := blk_free (HX2.out _ HW.out) 0
            have HM : Hid _ := blk_set (HX2.out _ HW.out) 0 (.slice la NV.length lc)
            have HK : Hid ((wr.setCell ⟨w1.heap.size, 0, none⟩ (.slice la NV.length lc)).heap[w.heap.size + 1]? = _) := (Below.heap_setCell _ _ _ _ (by show w.heap.size + 1 ≠ w1.heap.size; have := HSZ.out; omega)).trans (HX1.out _ HW.out)
            have r0 : (wr.setCell ⟨w1.heap.size, 0, none⟩ (.slice la NV.length lc)).cell? ⟨w1.heap.size, 0, none⟩ = some (.slice la NV.length lc) := (blk_cell HM.out 0).trans rfl
            have r1 : (wr.setCell ⟨w1.heap.size, 0, none⟩ (.slice la NV.length lc)).cell? ⟨w1.heap.size, 1, none⟩ = some (.slice xa cs.length xc) := (blk_cell HM.out 1).trans rfl
            have r2 : (wr.setCell ⟨w1.heap.size, 0, none⟩ (.slice la NV.length lc)).cell? ⟨w1.heap.size, 2, none⟩ = some (.string o) := (blk_cell HM.out 2).trans rfl
            have y0 : (wr.setCell ⟨w1.heap.size, 0, none⟩ (.slice la NV.length lc)).cell? ⟨w.heap.size + 1, 0, none⟩ = some (.slice none 0 0) := (blk_cell HK.out 0).trans rfl
            have y1 : (wr.setCell ⟨w1.heap.size, 0, none⟩ (.slice la NV.length lc)).cell? ⟨w.heap.size + 1, 1, none⟩ = some (.slice none 0 0) := (blk_cell HK.out 1).trans rfl
            have y2 : (wr.setCell ⟨w1.heap.size, 0, none⟩ (.slice la NV.length lc)).cell? ⟨w.heap.size + 1, 2, none⟩ = some (.string ByteArray.empty) := (blk_cell HK.out 2).trans rfl
            have g0 := blk_free HK.out 0
            have g1 := blk_free HK.out 1
            have g2 := blk_free HK.out 2
            go_wp2_with fail
            refine bodyPost_ret (results_cell_row (p := 6) (ty := 27) rfl _ _ (w.heap.size + 1) 27 _ (0, 0) _ rfl (blk_set (blk_set (blk_set HK.out 0 _) 1 _) 2 _) Try.underlying27 rfl (by kernel_rfl)) rfl ?_
            have hsz := HSZ.out
            have hbo := HBO.out
            have hk : ∀ b, W0.heap.size ≤ b → b ≠ w1.heap.size → ((((wr.setCell ⟨w1.heap.size, 0, none⟩ (.slice la NV.length lc)).setCell ⟨w.heap.size + 1, 0, none⟩ (.slice la NV.length lc)).setCell ⟨w.heap.size + 1, 1, none⟩ (.slice xa cs.length xc)).setCell ⟨w.heap.size + 1, 2, none⟩ (.string o)).heap[b]? = wr.heap[b]? := fun b hb hb2 => by
              rw [Below.heap_setCell _ _ _ _ (by show b ≠ w.heap.size + 1; omega), Below.heap_setCell _ _ _ _ (by show b ≠ w.heap.size + 1; omega), Below.heap_setCell _ _ _ _ (by show b ≠ w.heap.size + 1; omega), Below.heap_setCell _ _ _ _ (by show b ≠ w1.heap.size; omega)]
            refine ⟨_, _, rfl, ?_, ?_, ?_⟩
            · rw [HOV.out]
              exact (HI.out.keep (fun b hb hb2 => hk b (by omega) (by omega))).wide (by omega) (by simp [World.setCell])
            · exact (HX.out.keep (fun b hb hb2 => (hk b hb (by omega)).trans ((HW.out.block b (by omega)).trans (G2.out.block b hb2)))).wide (by omega) (by simp [World.setCell]; omega)
            · exact ((((HBW.out.setCell (by show _ ≤ w1.heap.size; omega) _).setCell (by show _ ≤ w.heap.size + 1; omega) _).setCell (by show _ ≤ w.heap.size + 1; omega) _).setCell (by show _ ≤ w.heap.size + 1; omega) _)
          · have HOV : Hid (O = vs) := by show _ = _; rw [HO.out]; unfold St.setVars; rw [if_neg h60]
            generalize St.newVars vs name val = NV at *
            have i60 : ¬ (NV.length : Int) ≤ 60 := by omega
            have HM : Hid _ := HX2.out _ HW.out
            have HK : Hid (wr.heap[w.heap.size + 1]? = _) := HX1.out _ HW.out
            have r0 : wr.cell? ⟨w1.heap.size, 0, none⟩ = some (.slice ua vs.length uc) := (blk_cell HM.out 0).trans rfl
            have r1 : wr.cell? ⟨w1.heap.size, 1, none⟩ = some (.slice xa cs.length xc) := (blk_cell HM.out 1).trans rfl
            have r2 : wr.cell? ⟨w1.heap.size, 2, none⟩ = some (.string o) := (blk_cell HM.out 2).trans rfl
            have y0 : wr.cell? ⟨w.heap.size + 1, 0, none⟩ = some (.slice none 0 0) := (blk_cell HK.out 0).trans rfl
            have y1 : wr.cell? ⟨w.heap.size + 1, 1, none⟩ = some (.slice none 0 0) := (blk_cell HK.out 1).trans rfl
            have y2 : wr.cell? ⟨w.heap.size + 1, 2, none⟩ = some (.string ByteArray.empty) := (blk_cell HK.out 2).trans rfl
            have g0 := blk_free HK.out 0
            have g1 := blk_free HK.out 1
            have g2 := blk_free HK.out 2
            go_wp2_with fail
            refine bodyPost_ret (results_cell_row (p := 6) (ty := 27) rfl _ _ (w.heap.size + 1) 27 _ (0, 0) _ rfl (blk_set (blk_set (blk_set HK.out 0 _) 1 _) 2 _) Try.underlying27 rfl (by kernel_rfl)) rfl ?_
            have hsz := HSZ.out
            have hbo := HBO.out
            have hk : ∀ b, W0.heap.size ≤ b → b ≠ w1.heap.size → (((wr.setCell ⟨w.heap.size + 1, 0, none⟩ (.slice ua vs.length uc)).setCell ⟨w.heap.size + 1, 1, none⟩ (.slice xa cs.length xc)).setCell ⟨w.heap.size + 1, 2, none⟩ (.string o)).heap[b]? = wr.heap[b]? := fun b hb hb2 => by
              rw [Below.heap_setCell _ _ _ _ (by show b ≠ w.heap.size + 1; omega), Below.heap_setCell _ _ _ _ (by show b ≠ w.heap.size + 1; omega), Below.heap_setCell _ _ _ _ (by show b ≠ w.heap.size + 1; omega)]
            refine ⟨_, _, rfl, ?_, ?_, ?_⟩
            · rw [HOV.out]
              exact (HU.out.keep (fun b hb hb2 => (hk b hb (by omega)).trans ((HW.out.block b (by omega)).trans (G2.out.block b hb2)))).wide (by omega) (by simp [World.setCell]; omega)
            · exact (HX.out.keep (fun b hb hb2 => (hk b hb (by omega)).trans ((HW.out.block b (by omega)).trans (G2.out.block b hb2)))).wide (by omega) (by simp [World.setCell]; omega)
            · exact (((HBW.out.setCell (by show _ ≤ w.heap.size + 1; omega) _).setCell (by show _ ≤ w.heap.size + 1; omega) _).setCell (by show _ ≤ w.heap.size + 1; omega) _)
end Go.Proofs.Ytmofljfffcnlbaa
