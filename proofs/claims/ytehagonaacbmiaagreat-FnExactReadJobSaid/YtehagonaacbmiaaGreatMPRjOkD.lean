/- When a store is right: the specification's StoreOk. -/
import Derived.Test.YtehagonaacbmiaaGreatMPRjZao
namespace Go.Proofs.YtehagonaacbmiaaGreat
open Go.RowKit

theorem keepS7 {w W W' : World} {p0 p1 p2 p3 p4 p5 p6 : Addr} {u0 u1 u2 u3 u4 u5 u6 : Value} (hb : Below W.heap.size W W') (h : W.cell? p0 = some u0 ∧ W.cell? p1 = some u1 ∧ W.cell? p2 = some u2 ∧ W.cell? p3 = some u3 ∧ W.cell? p4 = some u4 ∧ W.cell? p5 = some u5 ∧ W.cell? p6 = some u6 ∧ Hid (Below w.heap.size w W)) :
    W'.cell? p0 = some u0 ∧ W'.cell? p1 = some u1 ∧ W'.cell? p2 = some u2 ∧ W'.cell? p3 = some u3 ∧ W'.cell? p4 = some u4 ∧ W'.cell? p5 = some u5 ∧ W'.cell? p6 = some u6 ∧ Hid (Below w.heap.size w W') :=
  ⟨cell_go hb h.1, cell_go hb h.2.1, cell_go hb h.2.2.1, cell_go hb h.2.2.2.1, cell_go hb h.2.2.2.2.1, cell_go hb h.2.2.2.2.2.1, cell_go hb h.2.2.2.2.2.2.1, h.2.2.2.2.2.2.2.out.trans (hb.mono h.2.2.2.2.2.2.2.out.size)⟩
theorem lastS7 {w W : World} {p0 p1 p2 p3 p4 p5 p6 : Addr} {u0 u1 u2 u3 u4 u5 u6 : Value} (h : W.cell? p0 = some u0 ∧ W.cell? p1 = some u1 ∧ W.cell? p2 = some u2 ∧ W.cell? p3 = some u3 ∧ W.cell? p4 = some u4 ∧ W.cell? p5 = some u5 ∧ W.cell? p6 = some u6 ∧ Hid (Below w.heap.size w W)) : Hid (Below w.heap.size w W) := h.2.2.2.2.2.2.2

set_option maxRecDepth 100000 in
set_option maxHeartbeats 8000000 in
theorem spStoreOk (va ra : Value) (o : ByteArray) (vs : List Vr) (cs : List Cl) (w : World) (h1 : VrAt w va vs) (g1 : ClAt w ra cs) (hs : StSmall vs cs o) :
    Calls Tryz.prog 19 #[.agg #[va, ra, .string o]] w fun e w' => e = .returned (.bool (St.ok vs cs o)) ∧ Below w.heap.size w w' := by
  obtain ⟨V, hV⟩ : ∃ V, V = St.ok vs cs o := ⟨_, rfl⟩
  have HV : Hid (V = St.ok vs cs o) := hV
  rw [← hV]
  clear hV
  have HP : Hid (∀ W, Below w.heap.size w W → VrAt W va vs ∧ ClAt W ra cs) := fun W hb => ⟨h1.keep hb, g1.keep hb⟩
  obtain ⟨a1, c1, rfl, -⟩ := h1
  obtain ⟨d1, e1, rfl, -⟩ := g1
  obtain ⟨n, hn⟩ : ∃ n, n = vs.length := ⟨_, rfl⟩
  obtain ⟨m, hm⟩ : ∃ m, m = cs.length := ⟨_, rfl⟩
  have HN : Hid (n = vs.length ∧ m = cs.length) := ⟨hn, hm⟩
  have hl : n ≤ 1048576 := by rw [hn]; exact hs.1
  have hr : m ≤ 1048576 := by rw [hm]; exact hs.2.2.1
  have ho : o.size ≤ 1048576 := hs.2.2.2.2
  have HS : Hid (VrSmall vs n ∧ ClSmall cs m) := by rw [hn, hm]; exact ⟨hs.2.1, hs.2.2.2.1⟩
  rw [← hn, ← hm] at HP
  rw [← hn, ← hm]
  clear hs hn hm
  have HB : Hid (Below w.heap.size w (w.alloc (.cells #[.slice a1 n c1, .slice d1 m e1, .string o] 40))) := (Below.refl _ _).alloc (Nat.le_refl _) _
  have q0 := heap_alloc_new w (.cells #[.slice a1 n c1, .slice d1 m e1, .string o] 40)
  have hz : w.heap.size < (w.alloc (.cells #[.slice a1 n c1, .slice d1 m e1, .string o] 40)).heap.size := by simp
  go_enter Tryz.func19, Tryz.ntmps19
  go_wp2
  generalize w.alloc (.cells #[.slice a1 n c1, .slice d1 m e1, .string o] 40) = W0 at *
  have HQ : Hid (∀ wr, Below W0.heap.size W0 wr → wr.cell? ⟨w.heap.size, 0, none⟩ = some (.slice a1 n c1) ∧ wr.cell? ⟨w.heap.size, 1, none⟩ = some (.slice d1 m e1) ∧ wr.cell? ⟨w.heap.size, 2, none⟩ = some (.string o)) := by
    intro wr hb
    have s0 := (hb.block _ hz).trans q0
    have z0 := blk_cell s0 0
    have z1 := blk_cell s0 1
    have z2 := blk_cell s0 2
    simp only [List.getElem?_toArray, List.getElem?_cons_zero, List.getElem?_cons_succ] at z0 z1 z2
    exact ⟨z0, z1, z2⟩
  have HZ : Hid (w.heap.size < W0.heap.size) := hz
  clear q0 hz
  go_loopw [3] (fun i wr => ∃ j : Nat, i = .int .i64 (j : Int) ∧ j ≤ n ∧ Hid (Below W0.heap.size W0 wr) ∧ Hid (∀ q, q < j → St.goodV vs q = true ∧ St.ascV vs q = true)) (fun i _ => n - (intOf i).toNat)
  case atStart => exact ⟨0, rfl, by omega, Below.refl _ _, fun q hq => by omega⟩
  case round =>
    obtain ⟨j, rfl, hj, HW, HJ⟩ := hrel
    obtain ⟨z0, z1, z2⟩ := HQ.out _ HW.out
    have HWW : Hid (Below w.heap.size w wr) := HB.out.trans (HW.out.mono HB.out.size)
    by_cases hlt : j < n
    · obtain ⟨f1, f2⟩ := HP.out _ HWW.out
      obtain ⟨g1, o1, rfl, l1, t1⟩ := VrAt.row f1 HN.out.1.symm hlt
      have hsm := HS.out.1 j hlt
      obtain ⟨p, hp⟩ : ∃ p, p = vs.getD j Vr.no := ⟨_, rfl⟩
      rw [← hp] at t1 hsm
      have HPJ : Hid (p = vs.getD j Vr.no) := hp
      clear hp
      obtain ⟨p0, p1⟩ := p
      simp only at t1 hsm
      obtain ⟨x0, x1⟩ := t1
      obtain ⟨NM, hNM⟩ : ∃ NM, NM = Cd.nm p0.data.toList := ⟨_, rfl⟩
      have CN : Hid (∀ W, Calls Tryz.prog 17 #[.string p0] W fun e w' => e = .returned (.bool NM) ∧ w' = W) := fun W => by rw [hNM]; exact spNm p0 W hsm.1
      have HG : Hid (St.goodV vs j = (NM && decide (p1.size ≤ 40))) := by
        show _ = _
        unfold St.goodV
        rw [← HPJ.out, hNM]
      clear hNM
      have i1 : (j : Int) < (n : Int) := by omega
      have i0 : (0 : Int) ≤ (j : Int) := by omega
      have hb1 : p0.size ≤ 1048576 ∧ p1.size ≤ 1048576 := hsm
      obtain ⟨m0, m1⟩ := hb1
      have HAL : Hid (Below wr.heap.size wr (wr.alloc (.cells #[.string p0, .string p1] 87))) := (Below.refl _ _).alloc (Nat.le_refl _) _
      have HW1 : Hid (Below w.heap.size w (wr.alloc (.cells #[.string p0, .string p1] 87))) := HWW.out.trans (HAL.out.mono HWW.out.size)
      have HWN : Hid (Below W0.heap.size W0 (wr.alloc (.cells #[.string p0, .string p1] 87))) := HW.out.trans (HAL.out.mono HW.out.size)
      have z0' := (HAL.out.cell (p := ⟨w.heap.size, 0, none⟩) (by show w.heap.size < _; exact World.block_lt_of_cell? wr _ z0)).trans z0
      clear f1 f2 hsm
      cases NM with
      | false =>
        have HR : Hid (V = false) := HV.out.trans (St.ok_no_v (i := j) (by rw [← HN.out.1]; exact hlt) (.inl HG.out))
        clear HV HJ HG HPJ
        go_wp2_with fail
        go_quiet ((go_at_call 17; refine Calls.quiet_of_same (CN.out _)))
        go_wp2
        go_ret
        exact ⟨by rw [HR.out]; rfl, below_drewN HW1.out _⟩
      | true =>
        by_cases hb1 : 40 < p1.size
        · have d1 : decide ((40 : Int) < (p1.size : Int)) = true := decide_eq_true (by omega)
          have c1 : (40 : Int) < (p1.size : Int) := by omega
          have HR : Hid (V = false) := HV.out.trans (St.ok_no_v (i := j) (by rw [← HN.out.1]; exact hlt) (.inl (HG.out.trans (by rw [decide_eq_false (by omega : ¬ p1.size ≤ 40)]; simp))))
          clear HV HJ HG HPJ
          go_wp2_with fail
          go_quiet ((go_at_call 17; refine Calls.quiet_of_same (CN.out _)))
          go_wp2
          go_ret
          exact ⟨by rw [HR.out]; rfl, below_drewN HW1.out _⟩
        have d1 : decide ((40 : Int) < (p1.size : Int)) = false := decide_eq_false (by omega)
        have c1 : ¬ ((40 : Int) < (p1.size : Int)) := by omega
        have HGT : Hid (St.goodV vs j = true) := HG.out.trans (by rw [decide_eq_true (by omega : p1.size ≤ 40)]; rfl)
        clear HG
        by_cases h0 : j = 0
        · have HNX : Hid (∀ q, q < j + 1 → St.goodV vs q = true ∧ St.ascV vs q = true) := fun q h => by
            obtain rfl : q = j := by omega
            exact ⟨HGT.out, by unfold St.ascV; rw [decide_eq_true h0]; rfl⟩
          have i3 : ¬ ((0 : Int) < (j : Int)) := by omega
          have i3' : decide ((0 : Int) < (j : Int)) = false := decide_eq_false i3
          have i7 : ¬ 0 < j := by omega
          have i7' : decide (0 < j) = false := decide_eq_false i7
          clear HJ HGT HPJ h0
          go_wp2_with fail
          go_quiet ((go_at_call 17; refine Calls.quiet_of_same (CN.out _)))
          go_wp2
          go_roundw
          case rel => exact ⟨j + 1, by go_num, by omega, below_drewN HWN.out _, HNX⟩
          case measure => simp [intOf]; omega
        obtain ⟨r, rfl⟩ : ∃ r, j = r + 1 := ⟨j - 1, by omega⟩
        obtain ⟨b', of', e', -, t2⟩ := VrAt.row (HP.out _ HWW.out).1 HN.out.1.symm (show r < n by omega)
        obtain ⟨rfl, rfl⟩ : g1 = b' ∧ o1 = of' := by simpa using e'
        clear e'
        obtain ⟨u, hu⟩ : ∃ u, u = vs.getD r Vr.no := ⟨_, rfl⟩
        obtain ⟨L, hL⟩ : ∃ L, L = St.ascV vs (r + 1) := ⟨_, rfl⟩
        rw [← hu] at t2
        obtain ⟨u0, u1⟩ := u
        simp only at t2
        obtain ⟨y0, y1⟩ := t2
        have HL : Hid (L = Op.bytesLess u0.toList p0.toList) := by
          show _ = _
          rw [hL]
          unfold St.ascV St.aheadV
          simp only [Nat.add_sub_cancel]
          rw [← HPJ.out, ← hu]
          simp [St.lt2_empty]
        have HLL : Hid (L = St.ascV vs (r + 1)) := hL
        clear hu hL HPJ
        have y0' := (HAL.out.cell (p := ⟨g1, o1 + r * 2, none⟩) (by show g1 < _; exact l1)).trans y0
        have y1' := (HAL.out.cell (p := ⟨g1, o1 + r * 2 + 1, none⟩) (by show g1 < _; exact l1)).trans y1
        have i3 : ((r : Int) + 1).toNat = r + 1 := by omega
        have i4 : (0 : Int) < (r : Int) + 1 := by omega
        have i4' : decide ((0 : Int) < (r : Int) + 1) = true := decide_eq_true i4
        have i5 : (r : Int) < (n : Int) := by omega
        have i6 : (0 : Int) ≤ (r : Int) := by omega
        have hw2 : IntKind.i64.wrap (r : Int) = (r : Int) := IntWalk.i64_in _ (by omega)
        have hw : IntKind.i64.wrap ((r : Int) + 1 - 1) = (r : Int) := by rw [show (r : Int) + 1 - 1 = (r : Int) by omega]; exact hw2
        have hcast : (((r + 1 : Nat) : Int)) = (r : Int) + 1 := by omega
        rw [hcast] at i1 i0 ⊢
        clear hcast h0
        have hL2 : Op.bytesLess u0.toList p0.toList = L := HL.out.symm
        clear HL
        cases L with
        | true =>
          have HNX : Hid (∀ q, q < r + 1 + 1 → St.goodV vs q = true ∧ St.ascV vs q = true) := fun q h => by
            by_cases e : q = r + 1
            · subst e; exact ⟨HGT.out, HLL.out.symm⟩
            · exact HJ.out q (by omega)
          clear HJ HGT HLL
          go_wp2_with fail
          go_quiet ((go_at_call 17; refine Calls.quiet_of_same (CN.out _)))
          go_wp2
          go_roundw
          case rel => exact ⟨r + 1 + 1, by go_num, by omega, below_drewN HWN.out _, HNX⟩
          case measure => simp [intOf]; omega
        | false =>
          have HR : Hid (V = false) := HV.out.trans (St.ok_no_v (i := r + 1) (by rw [← HN.out.1]; exact hlt) (.inr HLL.out.symm))
          clear HV HJ HGT HLL
          go_wp2_with fail
          go_quiet ((go_at_call 17; refine Calls.quiet_of_same (CN.out _)))
          go_wp2
          go_ret
          exact ⟨by rw [HR.out]; rfl, below_drewN HW1.out _⟩
    · have HJN : Hid (∀ q, q < n → St.goodV vs q = true ∧ St.ascV vs q = true) := fun q hq => HJ.out q (by omega)
      have i1 : ¬ ((j : Int) < (n : Int)) := by omega
      have HJ1 : Hid (∀ q, q < n → St.goodV vs q = true ∧ St.ascV vs q = true) := HJN
      clear HJ HJN HWW
      go_wp2
      clear z0 z1 z2
      go_loopw [5] (fun i wr => ∃ j : Nat, i = .int .i64 (j : Int) ∧ j ≤ m ∧ Hid (Below W0.heap.size W0 wr) ∧ Hid (∀ q, q < j → St.goodC cs q = true ∧ St.ascC cs q = true)) (fun i _ => m - (intOf i).toNat)
      case atStart => exact ⟨0, rfl, by omega, HW, fun q hq => by omega⟩
      case round =>
        obtain ⟨j, rfl, hj, HW, HJ⟩ := hrel
        obtain ⟨z0, z1, z2⟩ := HQ.out _ HW.out
        have HWW : Hid (Below w.heap.size w wr) := HB.out.trans (HW.out.mono HB.out.size)
        by_cases hlt : j < m
        · obtain ⟨f1, f2⟩ := HP.out _ HWW.out
          obtain ⟨g1, o1, rfl, l1, t1⟩ := ClAt.row f2 HN.out.2.symm hlt
          have hsm := HS.out.2 j hlt
          obtain ⟨p, hp⟩ : ∃ p, p = cs.getD j Cl.no := ⟨_, rfl⟩
          rw [← hp] at t1 hsm
          have HPJ : Hid (p = cs.getD j Cl.no) := hp
          clear hp
          obtain ⟨p0, p1, p2⟩ := p
          simp only at t1 hsm
          obtain ⟨x0, x1, x2⟩ := t1
          obtain ⟨NM, hNM⟩ : ∃ NM, NM = Cd.nm p0.data.toList := ⟨_, rfl⟩
          have CN : Hid (∀ W, Calls Tryz.prog 17 #[.string p0] W fun e w' => e = .returned (.bool NM) ∧ w' = W) := fun W => by rw [hNM]; exact spNm p0 W hsm.1
          have HG : Hid (St.goodC cs j = (NM && (decide (p1.size ≤ 40) && decide (p2.size ≤ 40)))) := by
            show _ = _
            unfold St.goodC
            rw [← HPJ.out, hNM]
          clear hNM
          have i1 : (j : Int) < (m : Int) := by omega
          have i0 : (0 : Int) ≤ (j : Int) := by omega
          have hb1 : p0.size ≤ 1048576 ∧ p1.size ≤ 1048576 ∧ p2.size ≤ 1048576 := hsm
          obtain ⟨m0, m1, m2⟩ := hb1
          have HAL : Hid (Below wr.heap.size wr (wr.alloc (.cells #[.string p0, .string p1, .string p2] 89))) := (Below.refl _ _).alloc (Nat.le_refl _) _
          have HW1 : Hid (Below w.heap.size w (wr.alloc (.cells #[.string p0, .string p1, .string p2] 89))) := HWW.out.trans (HAL.out.mono HWW.out.size)
          have HWN : Hid (Below W0.heap.size W0 (wr.alloc (.cells #[.string p0, .string p1, .string p2] 89))) := HW.out.trans (HAL.out.mono HW.out.size)
          have z1' := (HAL.out.cell (p := ⟨w.heap.size, 1, none⟩) (by show w.heap.size < _; exact World.block_lt_of_cell? wr _ z1)).trans z1
          clear f1 f2 hsm
          cases NM with
          | false =>
            have HR : Hid (V = false) := HV.out.trans (St.ok_no_c (i := j) (by rw [← HN.out.2]; exact hlt) (.inl HG.out))
            clear HV HJ HG HPJ
            go_wp2_with fail
            go_quiet ((go_at_call 17; refine Calls.quiet_of_same (CN.out _)))
            go_wp2
            go_ret
            exact ⟨by rw [HR.out]; rfl, below_drewN HW1.out _⟩
          | true =>
            by_cases hb1 : 40 < p1.size
            · have d1 : decide ((40 : Int) < (p1.size : Int)) = true := decide_eq_true (by omega)
              have c1 : (40 : Int) < (p1.size : Int) := by omega
              have HR : Hid (V = false) := HV.out.trans (St.ok_no_c (i := j) (by rw [← HN.out.2]; exact hlt) (.inl (HG.out.trans (by rw [decide_eq_false (by omega : ¬ p1.size ≤ 40)]; simp))))
              clear HV HJ HG HPJ
              go_wp2_with fail
              go_quiet ((go_at_call 17; refine Calls.quiet_of_same (CN.out _)))
              go_wp2
              go_ret
              exact ⟨by rw [HR.out]; rfl, below_drewN HW1.out _⟩
            have d1 : decide ((40 : Int) < (p1.size : Int)) = false := decide_eq_false (by omega)
            have c1 : ¬ ((40 : Int) < (p1.size : Int)) := by omega
            by_cases hb2 : 40 < p2.size
            · have d2 : decide ((40 : Int) < (p2.size : Int)) = true := decide_eq_true (by omega)
              have c2 : (40 : Int) < (p2.size : Int) := by omega
              have HR : Hid (V = false) := HV.out.trans (St.ok_no_c (i := j) (by rw [← HN.out.2]; exact hlt) (.inl (HG.out.trans (by rw [decide_eq_false (by omega : ¬ p2.size ≤ 40)]; simp))))
              clear HV HJ HG HPJ
              go_wp2_with fail
              go_quiet ((go_at_call 17; refine Calls.quiet_of_same (CN.out _)))
              go_wp2
              go_ret
              exact ⟨by rw [HR.out]; rfl, below_drewN HW1.out _⟩
            have d2 : decide ((40 : Int) < (p2.size : Int)) = false := decide_eq_false (by omega)
            have c2 : ¬ ((40 : Int) < (p2.size : Int)) := by omega
            have HGT : Hid (St.goodC cs j = true) := HG.out.trans (by rw [decide_eq_true (by omega : p1.size ≤ 40)]; rw [decide_eq_true (by omega : p2.size ≤ 40)]; rfl)
            clear HG
            by_cases h0 : j = 0
            · have HNX : Hid (∀ q, q < j + 1 → St.goodC cs q = true ∧ St.ascC cs q = true) := fun q h => by
                obtain rfl : q = j := by omega
                exact ⟨HGT.out, by unfold St.ascC; rw [decide_eq_true h0]; rfl⟩
              have i3 : ¬ ((0 : Int) < (j : Int)) := by omega
              have i3' : decide ((0 : Int) < (j : Int)) = false := decide_eq_false i3
              have i7 : ¬ 0 < j := by omega
              have i7' : decide (0 < j) = false := decide_eq_false i7
              clear HJ HGT HPJ h0
              go_wp2_with fail
              go_quiet ((go_at_call 17; refine Calls.quiet_of_same (CN.out _)))
              go_wp2
              go_roundw
              case rel => exact ⟨j + 1, by go_num, by omega, below_drewN HWN.out _, HNX⟩
              case measure => simp [intOf]; omega
            obtain ⟨r, rfl⟩ : ∃ r, j = r + 1 := ⟨j - 1, by omega⟩
            obtain ⟨b', of', e', -, t2⟩ := ClAt.row (HP.out _ HWW.out).2 HN.out.2.symm (show r < m by omega)
            obtain ⟨rfl, rfl⟩ : g1 = b' ∧ o1 = of' := by simpa using e'
            clear e'
            obtain ⟨u, hu⟩ : ∃ u, u = cs.getD r Cl.no := ⟨_, rfl⟩
            obtain ⟨L, hL⟩ : ∃ L, L = St.ascC cs (r + 1) := ⟨_, rfl⟩
            rw [← hu] at t2
            obtain ⟨u0, u1, u2⟩ := u
            simp only at t2
            obtain ⟨y0, y1, y2⟩ := t2
            have HL : Hid (L = St.lt2 u0 u1 p0 p1) := by
              show _ = _
              rw [hL]
              unfold St.ascC St.aheadC
              simp only [Nat.add_sub_cancel]
              rw [← HPJ.out, ← hu]
              simp
            have HLL : Hid (L = St.ascC cs (r + 1)) := hL
            clear hu hL HPJ
            have y0' := (HAL.out.cell (p := ⟨g1, o1 + r * 3, none⟩) (by show g1 < _; exact l1)).trans y0
            have y1' := (HAL.out.cell (p := ⟨g1, o1 + r * 3 + 1, none⟩) (by show g1 < _; exact l1)).trans y1
            have y2' := (HAL.out.cell (p := ⟨g1, o1 + r * 3 + 2, none⟩) (by show g1 < _; exact l1)).trans y2
            have i3 : ((r : Int) + 1).toNat = r + 1 := by omega
            have i4 : (0 : Int) < (r : Int) + 1 := by omega
            have i4' : decide ((0 : Int) < (r : Int) + 1) = true := decide_eq_true i4
            have i5 : (r : Int) < (m : Int) := by omega
            have i6 : (0 : Int) ≤ (r : Int) := by omega
            have hw2 : IntKind.i64.wrap (r : Int) = (r : Int) := IntWalk.i64_in _ (by omega)
            have hw : IntKind.i64.wrap ((r : Int) + 1 - 1) = (r : Int) := by rw [show (r : Int) + 1 - 1 = (r : Int) by omega]; exact hw2
            have hcast : (((r + 1 : Nat) : Int)) = (r : Int) + 1 := by omega
            rw [hcast] at i1 i0 ⊢
            clear hcast h0
            have CA : Hid (∀ W, Calls Tryz.prog 51 #[.agg #[.string u0, .string u1, .string u2], .agg #[.string p0, .string p1, .string p2]] W fun e w' => e = .returned (.bool L) ∧ Below W.heap.size W w') := fun W => by rw [HL.out]; exact spAhead u0 u1 u2 p0 p1 p2 W
            have v0 : (wr.alloc (.cells #[.string p0, .string p1, .string p2] 89)).cell? ⟨wr.heap.size, 0, none⟩ = some (.string p0) := (blk_cell (heap_alloc_new wr _) 0).trans rfl
            have v1 : (wr.alloc (.cells #[.string p0, .string p1, .string p2] 89)).cell? ⟨wr.heap.size, 1, none⟩ = some (.string p1) := (blk_cell (heap_alloc_new wr _) 1).trans rfl
            have v2 : (wr.alloc (.cells #[.string p0, .string p1, .string p2] 89)).cell? ⟨wr.heap.size, 2, none⟩ = some (.string p2) := (blk_cell (heap_alloc_new wr _) 2).trans rfl
            clear HL
            cases L with
            | true =>
              have HNX : Hid (∀ q, q < r + 1 + 1 → St.goodC cs q = true ∧ St.ascC cs q = true) := fun q h => by
                by_cases e : q = r + 1
                · subst e; exact ⟨HGT.out, HLL.out.symm⟩
                · exact HJ.out q (by omega)
              clear HJ HGT HLL
              go_wp2_with fail
              go_region_held3 (fun W => W.cell? ⟨w.heap.size, 1, none⟩ = some (.slice (some ⟨g1, o1, none⟩) m e1) ∧ W.cell? ⟨g1, o1 + r * 3, none⟩ = some (.string u0) ∧ W.cell? ⟨g1, o1 + r * 3 + 1, none⟩ = some (.string u1) ∧ W.cell? ⟨g1, o1 + r * 3 + 2, none⟩ = some (.string u2) ∧ W.cell? ⟨wr.heap.size, 0, none⟩ = some (.string p0) ∧ W.cell? ⟨wr.heap.size, 1, none⟩ = some (.string p1) ∧ W.cell? ⟨wr.heap.size, 2, none⟩ = some (.string p2) ∧ Hid (Below W0.heap.size W0 W)) (first | exact keepS7 hb1 (by assumption) | exact ⟨z1', y0', y1', y2', v0, v1, v2, HWN.out.drew⟩ | assumption) ((first | (go_at_call 17; refine (CN.out _).mono ?_; rintro e w1 ⟨rfl, rfl⟩) | (go_at_call 51; refine (CA.out _).mono ?_; rintro e w1 ⟨rfl, hb1⟩)))
              all_goals
                have HB9 : Hid (Below W0.heap.size W0 w1) := lastS7 (by assumption)
                clear hb1
                go_wp2
                go_roundw
                case rel => exact ⟨r + 1 + 1, by go_num, by omega, HB9, HNX⟩
                case measure => simp [intOf]; omega
            | false =>
              have HR : Hid (V = false) := HV.out.trans (St.ok_no_c (i := r + 1) (by rw [← HN.out.2]; exact hlt) (.inr HLL.out.symm))
              clear HV HJ HGT HLL
              go_wp2_with fail
              go_region_held3 (fun W => W.cell? ⟨w.heap.size, 1, none⟩ = some (.slice (some ⟨g1, o1, none⟩) m e1) ∧ W.cell? ⟨g1, o1 + r * 3, none⟩ = some (.string u0) ∧ W.cell? ⟨g1, o1 + r * 3 + 1, none⟩ = some (.string u1) ∧ W.cell? ⟨g1, o1 + r * 3 + 2, none⟩ = some (.string u2) ∧ W.cell? ⟨wr.heap.size, 0, none⟩ = some (.string p0) ∧ W.cell? ⟨wr.heap.size, 1, none⟩ = some (.string p1) ∧ W.cell? ⟨wr.heap.size, 2, none⟩ = some (.string p2) ∧ Hid (Below W0.heap.size W0 W)) (first | exact keepS7 hb1 (by assumption) | exact ⟨z1', y0', y1', y2', v0, v1, v2, HWN.out.drew⟩ | assumption) ((first | (go_at_call 17; refine (CN.out _).mono ?_; rintro e w1 ⟨rfl, rfl⟩) | (go_at_call 51; refine (CA.out _).mono ?_; rintro e w1 ⟨rfl, hb1⟩)))
              all_goals
                have HB9 : Hid (Below W0.heap.size W0 w1) := lastS7 (by assumption)
                clear hb1
                go_wp2
                go_ret
                exact ⟨by rw [HR.out]; rfl, HB.out.trans (HB9.out.mono HB.out.size)⟩
        · have HJN : Hid (∀ q, q < m → St.goodC cs q = true ∧ St.ascC cs q = true) := fun q hq => HJ.out q (by omega)
          have i1 : ¬ ((j : Int) < (m : Int)) := by omega
          have HR : Hid (V = decide (n ≤ 60 ∧ m ≤ 2000 ∧ o.size ≤ 3000)) := HV.out.trans (by rw [HN.out.1, HN.out.2]; exact St.ok_yes (fun i hi => HJ1.out i (by rw [HN.out.1]; exact hi)) (fun i hi => HJN.out i (by rw [HN.out.2]; exact hi)))
          clear HV HJ HJN HJ1
          by_cases b1 : n ≤ 60
          · have d1 : decide ((n : Int) ≤ 60) = true := decide_eq_true (by omega)
            by_cases b2 : m ≤ 2000
            · have d2 : decide ((m : Int) ≤ 2000) = true := decide_eq_true (by omega)
              by_cases b3 : o.size ≤ 3000
              · have d3 : decide ((o.size : Int) ≤ 3000) = true := decide_eq_true (by omega)
                go_wp2
                go_ret
                exact ⟨by rw [HR.out, decide_eq_true (⟨b1, b2, b3⟩ : n ≤ 60 ∧ m ≤ 2000 ∧ o.size ≤ 3000)]; rfl, HWW.out⟩
              · have d3 : decide ((o.size : Int) ≤ 3000) = false := decide_eq_false (by omega)
                go_wp2
                go_ret
                exact ⟨by rw [HR.out, decide_eq_false (fun h => b3 h.2.2)]; rfl, HWW.out⟩
            · have d2 : decide ((m : Int) ≤ 2000) = false := decide_eq_false (by omega)
              go_wp2
              go_ret
              exact ⟨by rw [HR.out, decide_eq_false (fun h => b2 h.2.1)]; rfl, HWW.out⟩
          · have d1 : decide ((n : Int) ≤ 60) = false := decide_eq_false (by omega)
            go_wp2
            go_ret
            exact ⟨by rw [HR.out, decide_eq_false (fun h => b1 h.1)]; rfl, HWW.out⟩
end Go.Proofs.YtehagonaacbmiaaGreat
