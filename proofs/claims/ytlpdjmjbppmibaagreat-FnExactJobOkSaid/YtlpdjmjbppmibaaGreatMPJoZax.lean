/- When a store is right: the program's StoreOk. A job: when it is right; the program's JobOk. The law on JobOk: at every job it answers as the specification, and leaves what it was handed as it was. -/
import Derived.Test.YtlpdjmjbppmibaaGreatMPJoOkC
import Derived.Test.YtlpdjmjbppmibaaGreatMPJoZau
import Derived.Test.YtlpdjmjbppmibaaGreatMPJoZar
import Derived.Test.YtlpdjmjbppmibaaGreatMPJoCdI
import Derived.Test.YtlpdjmjbppmibaaGreatMPJoZai
import Derived.Deep.RegionWith
namespace Go.Proofs.YtlpdjmjbppmibaaGreat
section PartOkE
open Go.RowKit

set_option maxRecDepth 100000 in
set_option maxHeartbeats 8000000 in
theorem imStoreOk (va ra : Value) (o : ByteArray) (vs : List Vr) (cs : List Cl) (w : World) (h1 : VrAt w va vs) (g1 : ClAt w ra cs) (hs : StSmall vs cs o) :
    Calls Tryz.prog 24 #[.agg #[va, ra, .string o]] w fun e w' => e = .returned (.bool (St.ok vs cs o)) ∧ Below w.heap.size w w' := by
  obtain ⟨V, hV⟩ : ∃ V, V = St.ok vs cs o := ⟨_, rfl⟩
  have HV : Hid (V = St.ok vs cs o) := hV
  rw [← hV]
  clear hV
  have HP : Hid (∀ W, Below w.heap.size w W → VrAt W va vs ∧ ClAt W ra cs) := fun W hb => ⟨h1.keep hb, g1.keep hb⟩
  obtain ⟨A1, hA1⟩ : ∃ A, A = (List.range vs.length).all (St.ascV vs) := ⟨_, rfl⟩
  obtain ⟨A2, hA2⟩ : ∃ A, A = (List.range cs.length).all (St.ascC cs) := ⟨_, rfl⟩
  have CV : Hid (∀ W, Below w.heap.size w W → Calls Tryz.prog 58 #[va] W fun e w' => e = .returned (.bool A1) ∧ Below W.heap.size W w') := fun W hb => by rw [hA1]; exact ascVar va vs W (h1.keep hb) hs.1
  have CC : Hid (∀ W, Below w.heap.size w W → Calls Tryz.prog 59 #[ra] W fun e w' => e = .returned (.bool A2) ∧ Below W.heap.size W w') := fun W hb => by rw [hA2]; exact ascCell ra cs W (g1.keep hb) hs.2.2.1
  have HA : Hid (A1 = (List.range vs.length).all (St.ascV vs) ∧ A2 = (List.range cs.length).all (St.ascC cs)) := ⟨hA1, hA2⟩
  clear hA1 hA2
  obtain ⟨a1, c1, rfl, -⟩ := h1
  obtain ⟨d1, e1, rfl, -⟩ := g1
  obtain ⟨n, hn⟩ : ∃ n, n = vs.length := ⟨_, rfl⟩
  obtain ⟨m, hm⟩ : ∃ m, m = cs.length := ⟨_, rfl⟩
  have HN : Hid (n = vs.length ∧ m = cs.length) := ⟨hn, hm⟩
  have hl : n ≤ 1048576 := by rw [hn]; exact hs.1
  have hr : m ≤ 1048576 := by rw [hm]; exact hs.2.2.1
  have ho : o.size ≤ 1048576 := hs.2.2.2.2
  have HSM : Hid (VrSmall vs n ∧ ClSmall cs m) := by rw [hn, hm]; exact ⟨hs.2.1, hs.2.2.2.1⟩
  rw [← hn, ← hm] at HP
  rw [← hn] at CV
  rw [← hm] at CC
  rw [← hn, ← hm]
  clear hs hn hm
  have HB : Hid (Below w.heap.size w (w.alloc (.cells #[.slice a1 n c1, .slice d1 m e1, .string o] 40))) := (Below.refl _ _).alloc (Nat.le_refl _) _
  have q0 := heap_alloc_new w (.cells #[.slice a1 n c1, .slice d1 m e1, .string o] 40)
  have hz : w.heap.size < (w.alloc (.cells #[.slice a1 n c1, .slice d1 m e1, .string o] 40)).heap.size := by simp
  by_cases b1 : 60 < n
  · have d1' : decide ((60 : Int) < (n : Int)) = true := decide_eq_true (by omega)
    have HR : Hid (V = false) := HV.out.trans (by unfold St.ok; rw [decide_eq_false (by rw [← HN.out.1]; omega)]; rfl)
    clear HV HP CV CC q0 hz
    go_enter Tryz.func24, Tryz.ntmps24
    go_wp2
    go_ret
    exact ⟨by rw [HR.out]; rfl, HB.out⟩
  have d1' : decide ((60 : Int) < (n : Int)) = false := decide_eq_false (by omega)
  by_cases b2 : 2000 < m
  · have d2' : decide ((2000 : Int) < (m : Int)) = true := decide_eq_true (by omega)
    have HR : Hid (V = false) := HV.out.trans (by unfold St.ok; rw [decide_eq_false (by rw [← HN.out.2]; omega)]; rfl)
    clear HV HP CV CC q0 hz
    go_enter Tryz.func24, Tryz.ntmps24
    go_wp2
    go_ret
    exact ⟨by rw [HR.out]; rfl, HB.out⟩
  have d2' : decide ((2000 : Int) < (m : Int)) = false := decide_eq_false (by omega)
  by_cases b3 : 3000 < o.size
  · have d3' : decide ((3000 : Int) < (o.size : Int)) = true := decide_eq_true (by omega)
    have HR : Hid (V = false) := HV.out.trans (by unfold St.ok; rw [decide_eq_false (by omega)]; rfl)
    clear HV HP CV CC q0 hz
    go_enter Tryz.func24, Tryz.ntmps24
    go_wp2
    go_ret
    exact ⟨by rw [HR.out]; rfl, HB.out⟩
  have d3' : decide ((3000 : Int) < (o.size : Int)) = false := decide_eq_false (by omega)
  have HV2 : Hid (V = ((A1 && A2) && ((List.range vs.length).all (St.goodV vs) && (List.range cs.length).all (St.goodC cs)))) := by
    show _ = _
    rw [HV.out, HA.out.1, HA.out.2]
    unfold St.ok
    rw [decide_eq_true (by rw [← HN.out.1, ← HN.out.2]; omega), Bool.true_and]
  clear HV HA b1 b2 b3
  have HQ0 : Hid (∀ W0 : World, W0 = w.alloc (.cells #[.slice a1 n c1, .slice d1 m e1, .string o] 40) → ∀ wr, Below W0.heap.size W0 wr → wr.cell? ⟨w.heap.size, 0, none⟩ = some (.slice a1 n c1) ∧ wr.cell? ⟨w.heap.size, 1, none⟩ = some (.slice d1 m e1) ∧ wr.cell? ⟨w.heap.size, 2, none⟩ = some (.string o)) := by
    intro W0 hW0 wr hb
    subst hW0
    have s0 := (hb.block _ hz).trans q0
    have z0 := blk_cell s0 0
    have z1 := blk_cell s0 1
    have z2 := blk_cell s0 2
    simp only [List.getElem?_toArray, List.getElem?_cons_zero, List.getElem?_cons_succ] at z0 z1 z2
    exact ⟨z0, z1, z2⟩
  clear q0 hz
  go_enter Tryz.func24, Tryz.ntmps24
  go_wp2_with fail
  have HQ : Hid _ := HQ0.out _ rfl
  clear HQ0
  generalize w.alloc (.cells #[.slice a1 n c1, .slice d1 m e1, .string o] 40) = W0 at *
  refine (CV.out _ HB.out).mono ?_
  rintro e w1 ⟨rfl, hb1⟩
  have HW1 : Hid (Below W0.heap.size W0 w1) := hb1
  have HWW1 : Hid (Below w.heap.size w w1) := HB.out.trans (hb1.mono HB.out.size)
  clear hb1 CV
  obtain ⟨z0, z1, z2⟩ := HQ.out _ HW1.out
  cases A1 with
  | false =>
    have HR : Hid (V = false) := HV2.out
    clear HV2
    go_wp2
    go_ret
    exact ⟨by rw [HR.out]; rfl, HWW1.out⟩
  | true =>
  go_wp2_with fail
  refine (CC.out _ HWW1.out).mono ?_
  rintro e w2 ⟨rfl, hb2⟩
  have HW2 : Hid (Below W0.heap.size W0 w2) := HW1.out.trans (hb2.mono HW1.out.size)
  have HWW2 : Hid (Below w.heap.size w w2) := HB.out.trans (HW2.out.mono HB.out.size)
  clear hb2 CC HW1 HWW1 z0 z1 z2
  obtain ⟨z0, z1, z2⟩ := HQ.out _ HW2.out
  cases A2 with
  | false =>
    have HR : Hid (V = false) := HV2.out
    clear HV2
    go_wp2
    go_ret
    exact ⟨by rw [HR.out]; rfl, HWW2.out⟩
  | true =>
  have HV3 : Hid (V = ((List.range vs.length).all (St.goodV vs) && (List.range cs.length).all (St.goodC cs))) := HV2.out
  clear HV2
  go_wp2
  clear z0 z1 z2
  go_loopw [38] (fun i wr => ∃ j : Nat, i = .int .i64 (j : Int) ∧ j ≤ n ∧ Hid (Below W0.heap.size W0 wr) ∧ Hid (∀ q, q < j → St.goodV vs q = true)) (fun i _ => n - (intOf i).toNat)
  case atStart => exact ⟨0, rfl, by omega, HW2, fun q hq => by omega⟩
  case round =>
    obtain ⟨j, rfl, hj, HW, HJ⟩ := hrel
    obtain ⟨z0, z1, z2⟩ := HQ.out _ HW.out
    have HWW : Hid (Below w.heap.size w wr) := HB.out.trans (HW.out.mono HB.out.size)
    by_cases hlt : j < n
    · obtain ⟨f1, f2⟩ := HP.out _ HWW.out
      obtain ⟨g1, o1, rfl, l1, t1⟩ := VrAt.row f1 HN.out.1.symm hlt
      obtain ⟨p, hp⟩ : ∃ p, p = vs.getD j Vr.no := ⟨_, rfl⟩
      rw [← hp] at t1
      have hsm := HSM.out.1 j hlt
      rw [← hp] at hsm
      have HPJ : Hid (p = vs.getD j Vr.no) := hp
      clear hp
      obtain ⟨p0, p1⟩ := p
      simp only at t1 hsm
      obtain ⟨x0, x1⟩ := t1
      obtain ⟨m0, m1⟩ := hsm
      obtain ⟨NM, hNM⟩ : ∃ NM, NM = Cd.nm p0.data.toList := ⟨_, rfl⟩
      have CN : Hid (∀ W, Calls Tryz.prog 25 #[.string p0] W fun e w' => e = .returned (.bool NM) ∧ Below W.heap.size W w') := fun W => by rw [hNM]; exact isOf_any p0 W
      have HG : Hid (St.goodV vs j = (NM && decide (p1.size ≤ 40))) := by
        show _ = _
        unfold St.goodV
        rw [← HPJ.out, hNM]
      clear hNM HPJ f1 f2
      have i1 : (j : Int) < (n : Int) := by omega
      have i0 : (0 : Int) ≤ (j : Int) := by omega
      have HAL : Hid (∀ w1, Below (wr.alloc (.cells #[.string p0, .string p1] 87)).heap.size (wr.alloc (.cells #[.string p0, .string p1] 87)) w1 → w1.heap[wr.heap.size]? = some (.cells #[.string p0, .string p1] 87 (0, 0)) ∧ Below w.heap.size w w1 ∧ Below W0.heap.size W0 w1) := by
        intro w1 hb1
        have h9 : Below wr.heap.size wr w1 := ((Below.refl wr.heap.size wr).alloc (Nat.le_refl _) _).trans (hb1.mono (by simp))
        exact ⟨(hb1.block _ (by simp)).trans (heap_alloc_new wr _), HWW.out.trans (h9.mono HWW.out.size), HW.out.trans (h9.mono HW.out.size)⟩
      go_wp2_with fail
      refine (CN.out _).mono ?_
      rintro e w1 ⟨rfl, hb1⟩
      have HX : Hid _ := HAL.out w1 hb1
      have v1 : w1.cell? ⟨wr.heap.size, 1, none⟩ = some (.string p1) := (blk_cell HX.out.1 1).trans rfl
      clear hb1 CN HAL x0 x1
      cases NM with
      | false =>
        have HR : Hid (V = false) := HV3.out.trans (by rw [St.all_no (p := St.goodV vs) (by rw [← HN.out.1]; exact hlt) (HG.out)]; rfl)
        clear HV3 HJ HG
        go_wp2
        go_ret
        exact ⟨by rw [HR.out]; rfl, HX.out.2.1⟩
      | true =>
        by_cases hb1 : 40 < p1.size
        · have d1 : decide ((40 : Int) < (p1.size : Int)) = true := decide_eq_true (by omega)
          have HR : Hid (V = false) := HV3.out.trans (by rw [St.all_no (p := St.goodV vs) (by rw [← HN.out.1]; exact hlt) (HG.out.trans (by rw [decide_eq_false (by omega : ¬ p1.size ≤ 40)]; simp))]; rfl)
          clear HV3 HJ HG
          go_wp2
          go_ret
          exact ⟨by rw [HR.out]; rfl, HX.out.2.1⟩
        have d1 : decide ((40 : Int) < (p1.size : Int)) = false := decide_eq_false (by omega)
        have HNX : Hid (∀ q, q < j + 1 → St.goodV vs q = true) := fun q h => by
          by_cases e : q = j
          · subst e; exact HG.out.trans (by rw [decide_eq_true (by omega : p1.size ≤ 40)]; rfl)
          · exact HJ.out q (by omega)
        clear HG HJ
        go_wp2
        go_roundw
        case rel => exact ⟨j + 1, by go_num, by omega, HX.out.2.2, HNX⟩
        case measure => simp [intOf]; omega
    · have HJN : Hid (∀ q, q < n → St.goodV vs q = true) := fun q hq => HJ.out q (by omega)
      have i1 : ¬ ((j : Int) < (n : Int)) := by omega
      have HJ1 : Hid (∀ q, q < n → St.goodV vs q = true) := HJN
      clear HJ HJN HWW
      go_wp2
      clear z0 z1 z2
      go_loopw [56] (fun i wr => ∃ j : Nat, i = .int .i64 (j : Int) ∧ j ≤ m ∧ Hid (Below W0.heap.size W0 wr) ∧ Hid (∀ q, q < j → St.goodC cs q = true)) (fun i _ => m - (intOf i).toNat)
      case atStart => exact ⟨0, rfl, by omega, HW, fun q hq => by omega⟩
      case round =>
        obtain ⟨j, rfl, hj, HW, HJ⟩ := hrel
        obtain ⟨z0, z1, z2⟩ := HQ.out _ HW.out
        have HWW : Hid (Below w.heap.size w wr) := HB.out.trans (HW.out.mono HB.out.size)
        by_cases hlt : j < m
        · obtain ⟨f1, f2⟩ := HP.out _ HWW.out
          obtain ⟨g1, o1, rfl, l1, t1⟩ := ClAt.row f2 HN.out.2.symm hlt
          obtain ⟨p, hp⟩ : ∃ p, p = cs.getD j Cl.no := ⟨_, rfl⟩
          rw [← hp] at t1
          have hsm := HSM.out.2 j hlt
          rw [← hp] at hsm
          have HPJ : Hid (p = cs.getD j Cl.no) := hp
          clear hp
          obtain ⟨p0, p1, p2⟩ := p
          simp only at t1 hsm
          obtain ⟨x0, x1, x2⟩ := t1
          obtain ⟨m0, m1, m2⟩ := hsm
          obtain ⟨NM, hNM⟩ : ∃ NM, NM = Cd.nm p0.data.toList := ⟨_, rfl⟩
          have CN : Hid (∀ W, Calls Tryz.prog 25 #[.string p0] W fun e w' => e = .returned (.bool NM) ∧ Below W.heap.size W w') := fun W => by rw [hNM]; exact isOf_any p0 W
          have HG : Hid (St.goodC cs j = (NM && (decide (p1.size ≤ 40) && decide (p2.size ≤ 40)))) := by
            show _ = _
            unfold St.goodC
            rw [← HPJ.out, hNM]
          clear hNM HPJ f1 f2
          have i1 : (j : Int) < (m : Int) := by omega
          have i0 : (0 : Int) ≤ (j : Int) := by omega
          have HAL : Hid (∀ w1, Below (wr.alloc (.cells #[.string p0, .string p1, .string p2] 89)).heap.size (wr.alloc (.cells #[.string p0, .string p1, .string p2] 89)) w1 → w1.heap[wr.heap.size]? = some (.cells #[.string p0, .string p1, .string p2] 89 (0, 0)) ∧ Below w.heap.size w w1 ∧ Below W0.heap.size W0 w1) := by
            intro w1 hb1
            have h9 : Below wr.heap.size wr w1 := ((Below.refl wr.heap.size wr).alloc (Nat.le_refl _) _).trans (hb1.mono (by simp))
            exact ⟨(hb1.block _ (by simp)).trans (heap_alloc_new wr _), HWW.out.trans (h9.mono HWW.out.size), HW.out.trans (h9.mono HW.out.size)⟩
          go_wp2_with fail
          refine (CN.out _).mono ?_
          rintro e w1 ⟨rfl, hb1⟩
          have HX : Hid _ := HAL.out w1 hb1
          have v1 : w1.cell? ⟨wr.heap.size, 1, none⟩ = some (.string p1) := (blk_cell HX.out.1 1).trans rfl
          have v2 : w1.cell? ⟨wr.heap.size, 2, none⟩ = some (.string p2) := (blk_cell HX.out.1 2).trans rfl
          clear hb1 CN HAL x0 x1 x2
          cases NM with
          | false =>
            have HR : Hid (V = false) := HV3.out.trans (by rw [St.all_no (p := St.goodC cs) (by rw [← HN.out.2]; exact hlt) (HG.out)]; exact Bool.and_false _)
            clear HV3 HJ HG
            go_wp2
            go_ret
            exact ⟨by rw [HR.out]; rfl, HX.out.2.1⟩
          | true =>
            by_cases hb1 : 40 < p1.size
            · have d1 : decide ((40 : Int) < (p1.size : Int)) = true := decide_eq_true (by omega)
              have HR : Hid (V = false) := HV3.out.trans (by rw [St.all_no (p := St.goodC cs) (by rw [← HN.out.2]; exact hlt) (HG.out.trans (by rw [decide_eq_false (by omega : ¬ p1.size ≤ 40)]; simp))]; exact Bool.and_false _)
              clear HV3 HJ HG
              go_wp2
              go_ret
              exact ⟨by rw [HR.out]; rfl, HX.out.2.1⟩
            have d1 : decide ((40 : Int) < (p1.size : Int)) = false := decide_eq_false (by omega)
            by_cases hb2 : 40 < p2.size
            · have d2 : decide ((40 : Int) < (p2.size : Int)) = true := decide_eq_true (by omega)
              have HR : Hid (V = false) := HV3.out.trans (by rw [St.all_no (p := St.goodC cs) (by rw [← HN.out.2]; exact hlt) (HG.out.trans (by rw [decide_eq_false (by omega : ¬ p2.size ≤ 40)]; simp))]; exact Bool.and_false _)
              clear HV3 HJ HG
              go_wp2
              go_ret
              exact ⟨by rw [HR.out]; rfl, HX.out.2.1⟩
            have d2 : decide ((40 : Int) < (p2.size : Int)) = false := decide_eq_false (by omega)
            have HNX : Hid (∀ q, q < j + 1 → St.goodC cs q = true) := fun q h => by
              by_cases e : q = j
              · subst e; exact HG.out.trans (by rw [decide_eq_true (by omega : p1.size ≤ 40)]; rw [decide_eq_true (by omega : p2.size ≤ 40)]; rfl)
              · exact HJ.out q (by omega)
            clear HG HJ
            go_wp2
            go_roundw
            case rel => exact ⟨j + 1, by go_num, by omega, HX.out.2.2, HNX⟩
            case measure => simp [intOf]; omega
        · have HJN : Hid (∀ q, q < m → St.goodC cs q = true) := fun q hq => HJ.out q (by omega)
          have i1 : ¬ ((j : Int) < (m : Int)) := by omega
          have HR : Hid (V = true) := HV3.out.trans (by rw [St.all_yes (fun q hq => HJ1.out q (by rw [HN.out.1]; exact hq)), St.all_yes (fun q hq => HJN.out q (by rw [HN.out.2]; exact hq))]; rfl)
          clear HV3 HJ HJN HJ1
          go_wp2
          go_ret
          exact ⟨by rw [HR.out]; rfl, HWW.out⟩
end PartOkE
section PartJbI
open Go.RowKit

set_option maxHeartbeats 4000000 in
set_option maxRecDepth 100000 in
theorem imJobOk (tv lv u x nv mv : Value) (j : Jb) (w : World) (h : Jb.At w tv lv u x nv mv j) (hs : Jb.Sm j) :
    Calls Tryz.prog 8 #[.agg (Jb.cells tv lv u x nv mv j)] w fun e w' => e = .returned (.bool j.ok) ∧ Below w.heap.size w w' := by
  have HA : Hid (∀ W, Below w.heap.size w W → Jb.At W tv lv u x nv mv j) := fun W hb => h.keep hb
  have HS : Hid (Jb.Sm j) := hs
  have CC : Hid (∀ W, Below w.heap.size w W → Calls Tryz.prog 23 #[.agg #[tv, lv, .int .i64 j.bg, .int .i64 j.ln, .int .i64 j.en]] W fun e w' => e = .returned (.bool (Cd.ok j.ts j.xs j.bg j.ln j.en)) ∧ Below W.heap.size W w') := fun W hb => implCodeOk tv lv j.bg j.ln j.en j.ts j.xs W (h.t.keep hb) (h.l.keep hb) hs.t hs.tl hs.xl
  have CT : Hid (∀ W, Below w.heap.size w W → Calls Tryz.prog 24 #[.agg #[u, x, .string j.o]] W fun e w' => e = .returned (.bool (St.ok j.vs j.cs j.o)) ∧ Below W.heap.size W w') := fun W hb => imStoreOk u x j.o j.vs j.cs W (h.u.keep hb) (h.x.keep hb) hs.s
  obtain ⟨A, hA⟩ : ∃ A, A = Cd.ok j.ts j.xs j.bg j.ln j.en := ⟨_, rfl⟩
  obtain ⟨B, hB⟩ : ∃ B, B = St.ok j.vs j.cs j.o := ⟨_, rfl⟩
  have HOK : Hid ((∀ i, i < j.ns.length → j.okN i = true) → (∀ i, i < j.ls.length → j.okL i = true) → j.ok = (A && (B && (decide (j.ns.length ≤ 20) && decide (j.ls.length ≤ 20))))) := by
    rw [hA, hB]
    exact Jb.ok_rest
  have HNO : Hid ((A && (B && (decide (j.ns.length ≤ 20) && decide (j.ls.length ≤ 20)))) = false → j.ok = false) := by
    rw [hA, hB]
    intro h
    unfold Jb.ok
    rw [h]
    simp
  rw [← hA] at CC
  rw [← hB] at CT
  clear hA hB
  obtain ⟨na, nc, rfl, -⟩ := h.n
  obtain ⟨ma, mc, rfl, -⟩ := h.m
  obtain ⟨ta, tc, rfl, -⟩ := h.t
  obtain ⟨la, lc, rfl, -⟩ := h.l
  obtain ⟨ua, uc, rfl, -⟩ := h.u
  obtain ⟨xa, xc, rfl, -⟩ := h.x
  obtain ⟨n, hn⟩ : ∃ n, n = j.ns.length := ⟨_, rfl⟩
  obtain ⟨m, hm⟩ : ∃ m, m = j.ls.length := ⟨_, rfl⟩
  have HN : Hid (n = j.ns.length ∧ m = j.ls.length) := ⟨hn, hm⟩
  have hn9 : n ≤ 1048576 := by rw [hn]; exact hs.nl
  have hm9 : m ≤ 1048576 := by rw [hm]; exact hs.ml
  rw [← hn, ← hm] at HOK HNO
  unfold Jb.cells
  rw [← hn, ← hm]
  obtain ⟨V, hV⟩ : ∃ V, V = j.ok := ⟨_, rfl⟩
  have HV : Hid (V = j.ok) := hV
  rw [← hV] at HNO
  rw [← hV]
  clear hn hm h hs hV
  obtain ⟨CL, hCL⟩ : ∃ CL : Array Value, CL = #[.slice ta j.ts.length tc, .slice la j.xs.length lc, .int .i64 j.bg, .int .i64 j.ln, .int .i64 j.en, .slice ua j.vs.length uc, .slice xa j.cs.length xc, .string j.o, .slice na n nc, .slice ma m mc] := ⟨_, rfl⟩
  have HB0 : Hid (Below w.heap.size w (w.alloc (.cells CL 42))) := (Below.refl _ _).alloc (Nat.le_refl _) _
  have HR0 : Hid ((w.alloc (.cells CL 42)).heap[w.heap.size]? = some (.cells CL 42 (0, 0))) := heap_alloc_new _ _
  have hz : w.heap.size < (w.alloc (.cells CL 42)).heap.size := by simp
  rw [hCL] at HB0 HR0 hz
  clear hCL CL
  generalize j.ts.length = tn at *
  generalize j.xs.length = xn at *
  generalize j.vs.length = vn at *
  generalize j.cs.length = cn at *
  generalize j.bg = bg at *
  generalize j.ln = ln at *
  generalize j.en = en at *
  generalize j.o = o at *
  go_enter Tryz.func8, Tryz.ntmps8
  go_wp2_with fail
  generalize w.alloc (.cells #[.slice ta tn tc, .slice la xn lc, .int .i64 bg, .int .i64 ln, .int .i64 en, .slice ua vn uc, .slice xa cn xc, .string o, .slice na n nc, .slice ma m mc] 42) = W0 at *
  have HQ : Hid (∀ W, Below W0.heap.size W0 W → W.heap[w.heap.size]? = some (.cells #[.slice ta tn tc, .slice la xn lc, .int .i64 bg, .int .i64 ln, .int .i64 en, .slice ua vn uc, .slice xa cn xc, .string o, .slice na n nc, .slice ma m mc] 42 (0, 0)) ∧ Below w.heap.size w W) := fun W hb => ⟨(hb.block _ hz).trans HR0.out, HB0.out.trans (hb.mono HB0.out.size)⟩
  clear HR0 HB0 hz
  have HCS : Hid (∀ W, Below W0.heap.size W0 W → (W.cell? ⟨w.heap.size, 0, none⟩ = some (.slice ta tn tc) ∧ W.cell? ⟨w.heap.size, 1, none⟩ = some (.slice la xn lc) ∧ W.cell? ⟨w.heap.size, 2, none⟩ = some (.int .i64 bg) ∧ W.cell? ⟨w.heap.size, 3, none⟩ = some (.int .i64 ln) ∧ W.cell? ⟨w.heap.size, 4, none⟩ = some (.int .i64 en)) ∧ (W.cell? ⟨w.heap.size, 5, none⟩ = some (.slice ua vn uc) ∧ W.cell? ⟨w.heap.size, 6, none⟩ = some (.slice xa cn xc) ∧ W.cell? ⟨w.heap.size, 7, none⟩ = some (.string o)) ∧ W.cell? ⟨w.heap.size, 8, none⟩ = some (.slice na n nc) ∧ W.cell? ⟨w.heap.size, 9, none⟩ = some (.slice ma m mc)) := fun W hb => by
    have R := (HQ.out W hb).1
    exact ⟨⟨(blk_cell R 0).trans rfl, (blk_cell R 1).trans rfl, (blk_cell R 2).trans rfl, (blk_cell R 3).trans rfl, (blk_cell R 4).trans rfl⟩, ⟨(blk_cell R 5).trans rfl, (blk_cell R 6).trans rfl, (blk_cell R 7).trans rfl⟩, (blk_cell R 8).trans rfl, (blk_cell R 9).trans rfl⟩
  obtain ⟨⟨q0, q1, q2, q3, q4⟩, -, -, -⟩ := HCS.out _ (Below.refl _ _)
  go_wp2_with fail
  refine (CC.out _ (HQ.out _ (Below.refl _ _)).2).mono ?_
  rintro e w1 ⟨rfl, hb1⟩
  have H1 : Hid (Below W0.heap.size W0 w1) := hb1
  clear hb1 CC q0 q1 q2 q3 q4
  cases A with
  | false =>
    have HF := hidOfJ (HNO.out rfl)
    go_wp2_with fail
    go_ret
    exact ⟨by rw [HF.out]; rfl, (HQ.out _ H1.out).2⟩
  | true =>
  obtain ⟨-, ⟨q5, q6, q7⟩, -, -⟩ := HCS.out _ H1.out
  go_wp2_with fail
  refine (CT.out _ (HQ.out _ H1.out).2).mono ?_
  rintro e w2 ⟨rfl, hb2⟩
  have H2 : Hid (Below W0.heap.size W0 w2) := H1.out.trans (hb2.mono H1.out.size)
  clear hb2 CT q5 q6 q7 H1
  cases B with
  | false =>
    have HF := hidOfJ (HNO.out rfl)
    go_wp2_with fail
    go_ret
    exact ⟨by rw [HF.out]; rfl, (HQ.out _ H2.out).2⟩
  | true =>
  obtain ⟨-, -, q8, q9⟩ := HCS.out _ H2.out
  by_cases hn20 : 20 < n
  · have d0 : decide ((20 : Int) < (n : Int)) = true := decide_eq_true (by omega)
    have HF := hidOfJ (HNO.out (by simp; omega))
    go_wp2_with fail
    go_ret
    exact ⟨by rw [HF.out]; rfl, (HQ.out _ H2.out).2⟩
  have d20 : decide ((20 : Int) < (n : Int)) = false := decide_eq_false (by omega)
  by_cases hm20 : 20 < m
  · have d0 : decide ((20 : Int) < (m : Int)) = true := decide_eq_true (by omega)
    have HF := hidOfJ (HNO.out (by simp; omega))
    go_wp2_with fail
    go_ret
    exact ⟨by rw [HF.out]; rfl, (HQ.out _ H2.out).2⟩
  have d21 : decide ((20 : Int) < (m : Int)) = false := decide_eq_false (by omega)
  go_wp2_with fail
  clear q8 q9 d20 d21
  go_loopw [4, 32] (fun _ i wr => ∃ k : Nat, i = .int .i64 (k : Int) ∧ k ≤ n ∧ Hid (Below W0.heap.size W0 wr) ∧ Hid (∀ q, q < k → j.okN q = true)) (fun _ i _ => n - (intOf i).toNat)
  case atStart => exact ⟨0, rfl, by omega, H2.out, fun q hq => by omega⟩
  case round =>
    clear H2
    obtain ⟨k, rfl, hk, HW, HJ⟩ := hrel
    by_cases hlt : k < n
    · have d0 : decide ((k : Int) < (n : Int)) = true := decide_eq_true (by omega)
      have hk1 : (k : Int) < (n : Int) := by omega
      have hat := (HA.out _ (HQ.out _ HW.out).2).n
      rw [← HN.out.1] at hat
      obtain ⟨b, p, rfl, c0⟩ := TsAt.cell hat HN.out.1 hlt
      obtain ⟨Y, hY⟩ : ∃ Y, Y = j.okN k := ⟨_, rfl⟩
      have HYH : Hid (Y = j.okN k) := hY
      unfold Jb.okN at hY
      have CNm : Hid (∀ W, Calls Tryz.prog 25 #[.string (j.ns.getD k ByteArray.empty)] W fun e w' => e = .returned (.bool Y) ∧ Below W.heap.size W w') := fun W => by rw [hY]; exact isOf_any _ W
      generalize j.ns.getD k ByteArray.empty = t at *
      clear hat hY
      cases Y with
      | false =>
        have HF : Hid (V = false) := by show _ = _; rw [HV.out]; exact Jb.ok_noN (by rw [← HN.out.1]; exact hlt) HYH.out.symm
        go_wp2_with fail
        refine (CNm.out _).mono ?_
        rintro e w3 ⟨rfl, hb3⟩
        have H3 := hidOfJ (HW.out.trans (hb3.mono HW.out.size))
        clear hb3 CNm c0
        go_wp2_with fail
        go_ret
        exact ⟨by rw [HF.out]; rfl, (HQ.out _ H3.out).2⟩
      | true =>
        have HJ2 : Hid (∀ q, q < k + 1 → j.okN q = true) := fun q hq => by
          by_cases e : q = k
          · rw [e]; exact HYH.out.symm
          · exact HJ.out q (by omega)
        go_wp2_with fail
        refine (CNm.out _).mono ?_
        rintro e w3 ⟨rfl, hb3⟩
        have H3 := hidOfJ (HW.out.trans (hb3.mono HW.out.size))
        clear hb3 CNm c0
        go_wp2_with fail
        go_roundw
        case rel => exact ⟨k + 1, by go_num, by omega, H3.out, HJ2.out⟩
        case measure => simp [intOf]; omega
    · have d0 : decide ((k : Int) < (n : Int)) = false := decide_eq_false (by omega)
      have HJN : Hid (∀ q, q < n → j.okN q = true) := fun q hq => HJ.out q (by omega)
      clear HJ
      obtain ⟨-, -, -, q9⟩ := HCS.out _ HW.out
      go_wp2_with fail
      clear q9
      obtain ⟨W1, hW1⟩ : ∃ W1, W1 = wr := ⟨_, rfl⟩
      subst hW1
      go_loopw [6, 43] (fun _ i wr => ∃ k : Nat, i = .int .i64 (k : Int) ∧ k ≤ m ∧ Hid (Below W0.heap.size W0 wr) ∧ Hid (∀ q, q < k → j.okL q = true)) (fun _ i _ => m - (intOf i).toNat)
      case atStart => exact ⟨0, rfl, by omega, HW.out, fun q hq => by omega⟩
      case round =>
        clear HW
        obtain ⟨k2, rfl, hk2, HW, HJ⟩ := hrel
        by_cases hlt2 : k2 < m
        · have d1 : decide ((k2 : Int) < (m : Int)) = true := decide_eq_true (by omega)
          have hk3 : (k2 : Int) < (m : Int) := by omega
          have hat := (HA.out _ (HQ.out _ HW.out).2).m
          rw [← HN.out.2] at hat
          obtain ⟨b, p, rfl, c0⟩ := TsAt.cell hat HN.out.2 hlt2
          have HYH : Hid (j.okL k2 = decide ((j.ls.getD k2 ByteArray.empty).size ≤ 200)) := rfl
          generalize j.ls.getD k2 ByteArray.empty = t at *
          clear hat
          by_cases h200 : t.size ≤ 200
          · have d2 : decide ((200 : Int) < (t.size : Int)) = false := decide_eq_false (by omega)
            have HJ2 : Hid (∀ q, q < k2 + 1 → j.okL q = true) := fun q hq => by
              by_cases e : q = k2
              · rw [e, HYH.out]; exact decide_eq_true h200
              · exact HJ.out q (by omega)
            go_wp2_with fail
            go_roundw
            case rel => exact ⟨k2 + 1, by go_num, by omega, HW.out, HJ2.out⟩
            case measure => simp [intOf]; omega
          · have d2 : decide ((200 : Int) < (t.size : Int)) = true := decide_eq_true (by omega)
            have HF : Hid (V = false) := by show _ = _; rw [HV.out]; exact Jb.ok_noL (by rw [← HN.out.2]; exact hlt2) (by rw [HYH.out]; exact decide_eq_false h200)
            go_wp2_with fail
            go_ret
            exact ⟨by rw [HF.out]; rfl, (HQ.out _ HW.out).2⟩
        · have d1 : decide ((k2 : Int) < (m : Int)) = false := decide_eq_false (by omega)
          have HVE : Hid (V = true) := by
            show _ = _
            rw [HV.out, HOK.out (fun i hi => HJN.out i hi) (fun i hi => HJ.out i (by omega))]
            simp
            omega
          go_wp2_with fail
          go_ret
          exact ⟨by rw [HVE.out]; rfl, (HQ.out _ HW.out).2⟩
end PartJbI
section PartLwJo
open Go.RowKit

open Go.ChangeShapes Go.WideShapes Go.ChangeAt Go.Deep in
set_option maxRecDepth 100000 in
theorem jobOpen {H : Type} {enc : TypeId × Value → H} {W : World} {base : Nat} {v : Value} {d : DataW H} {p : List MemPlace} (hval : Value.okWide Tryz.prog W .any base 31 v)
    (h : DataW.Trod enc Tryz.prog W 0 (fun _ => true) true 31 v d p) : ∃ (tv lv u x nv mv : Value) (j : Jb), v = .agg (Jb.cells tv lv u x nv mv j) ∧ Jb.At W tv lv u x nv mv j ∧ Jb.Fit j := by
  obtain ⟨cs, rfl, hsz⟩ := okWide_struct Tryz.underlying31 hval
  have hC : Tryz.prog.cellsOf 31 = 10 := by kernel_rfl
  rw [hC] at hsz
  obtain ⟨l⟩ := cs
  match l, hsz with
  | [u0, u1, u2, u3, u4, u5, u6, u7, u8, u9], _ =>
    obtain ⟨fuel, hf⟩ := h
    obtain ⟨ys, n, _, _, _, hxl, hff⟩ := DataW.trod_struct Tryz.underlying31 hf
    match ys, hxl with
    | [y0, y1, y2, y3], _ =>
      have g0 := hff 0 _ rfl
      have g1 := hff 1 _ rfl
      have g2 := hff 2 _ rfl
      have g3 := hff 3 _ rfl
      have c1 : Tryz.prog.cellsOf 25 = 5 := by kernel_rfl
      have c2 : Tryz.prog.cellsOf 29 = 3 := by kernel_rfl
      have c3 : Tryz.prog.cellsOf 22 = 1 := by kernel_rfl
      simp [Value.cells, c1, c2, c3] at g0 g1 g2 g3
      obtain ⟨zs, n0, _, _, _, hzl, hzz⟩ := DataW.trod_struct Tryz.underlying25 g0
      obtain ⟨ss, n1, _, _, _, hsl, hss⟩ := DataW.trod_struct Tryz.underlying29 g1
      match zs, hzl, ss, hsl with
      | [z0, z1, z2, z3, z4], _, [s0, s1, s2], _ =>
        have a0 := hzz 0 _ rfl
        have a1 := hzz 1 _ rfl
        have a2 := hzz 2 _ rfl
        have a3 := hzz 3 _ rfl
        have a4 := hzz 4 _ rfl
        have b0 := hss 0 _ rfl
        have b1 := hss 1 _ rfl
        have b2 := hss 2 _ rfl
        have d2 : Tryz.prog.cellsOf 23 = 1 := by kernel_rfl
        have d3 : Tryz.prog.cellsOf 3 = 1 := by kernel_rfl
        have d4 : Tryz.prog.cellsOf 26 = 1 := by kernel_rfl
        have d5 : Tryz.prog.cellsOf 27 = 1 := by kernel_rfl
        have d6 : Tryz.prog.cellsOf 9 = 1 := by kernel_rfl
        simp [c3, d2, d3] at a0 a1 a2 a3 a4
        simp [d4, d5, d6] at b0 b1 b2
        obtain ⟨ts, t1, t2, t3⟩ := TsOpen a0
        obtain ⟨xs, x1, x2⟩ := InsOpen a1
        obtain ⟨o2, e2, _, _⟩ := DataW.trod_int Tryz.underlying3 a2
        obtain ⟨o3, e3, _, _⟩ := DataW.trod_int Tryz.underlying3 a3
        obtain ⟨o4, e4, _, _⟩ := DataW.trod_int Tryz.underlying3 a4
        obtain ⟨vs, v1, v2, v3, v3b⟩ := VrOpen b0
        obtain ⟨cs, k4, k5, k6, k6b, k6c⟩ := ClOpen b1
        obtain ⟨o7, e7, _, t7⟩ := DataW.trod_string Tryz.underlying9 b2
        obtain ⟨ns, n1, n2, n3⟩ := TsOpen g2
        obtain ⟨ls, l1, l2, l3⟩ := TsOpen g3
        simp at e2 e3 e4 e7
        subst e2 e3 e4 e7
        exact ⟨u0, u1, u5, u6, u8, u9, ⟨ts, xs, o2, o3, o4, vs, cs, o7, ns, ls⟩, rfl, ⟨t1, x1, v1, k4, n1, l1⟩, ⟨⟨t2, t3⟩, x2, ⟨⟨v2, fun i hi => ⟨v3 i hi, v3b i hi⟩⟩, ⟨k5, fun i hi => ⟨k6 i hi, k6b i hi, k6c i hi⟩⟩, t7⟩, ⟨n2, n3⟩, ⟨l2, l3⟩⟩⟩

set_option maxHeartbeats 8000000 in
set_option maxRecDepth 100000 in
theorem lwJobOk (tv lv u x nv mv : Value) (j : Jb) (w : World) (h : Jb.At w tv lv u x nv mv j) (hf : Jb.Fit j) :
    Calls Tryz.prog 3 #[.agg (Jb.cells tv lv u x nv mv j)] w fun e w' => e = .returned (.bool true) ∧ Below w.heap.size w w' := by
  have HH : Hid (∀ W, Below w.heap.size w W → Jb.At W tv lv u x nv mv j) := fun W hb => h.keep hb
  have CZ := hidOfJ (fun (W : World) (hb : Below w.heap.size w W) => szJob_any tv lv u x nv mv j 1048576 W (HH.out W hb) (by omega) (by omega) hf)
  have CT := hidOfJ (fun (W : World) (hb : Below w.heap.size w W) (hs : Jb.Sm j) => toJob_any tv lv u x nv mv j W (HH.out W hb) hs)
  have CS := hidOfJ (fun (tv lv u x nv mv : Value) (W : World) (ha : Jb.At W tv lv u x nv mv j) (hs : Jb.Sm j) => spJobOk tv lv u x nv mv j W ha hs)
  have CI := hidOfJ (fun (tv lv u x nv mv : Value) (W : World) (ha : Jb.At W tv lv u x nv mv j) (hs : Jb.Sm j) => imJobOk tv lv u x nv mv j W ha hs)
  have CE := hidOfJ (fun (tv lv u x nv mv tv' lv' u' x' nv' mv' : Value) (W : World) (ha : Jb.At W tv lv u x nv mv j) (ha' : Jb.At W tv' lv' u' x' nv' mv' j) (hs : Jb.Sm j) => eqJob_any tv lv u x nv mv tv' lv' u' x' nv' mv' j W ha ha' hs)
  obtain ⟨na, nc, rfl, -⟩ := h.n
  obtain ⟨ma, mc, rfl, -⟩ := h.m
  obtain ⟨ta, tc, rfl, -⟩ := h.t
  obtain ⟨la, lc, rfl, -⟩ := h.l
  obtain ⟨ua, uc, rfl, -⟩ := h.u
  obtain ⟨xa, xc, rfl, -⟩ := h.x
  unfold Jb.cells at *
  obtain ⟨V, hV⟩ : ∃ V, V = j.ok := ⟨_, rfl⟩
  rw [← hV] at CS CI
  have hbw : Below w.heap.size w (w.alloc (.cells #[.slice ta j.ts.length tc, .slice la j.xs.length lc, .int .i64 j.bg, .int .i64 j.ln, .int .i64 j.en, .slice ua j.vs.length uc, .slice xa j.cs.length xc, .string j.o, .slice na j.ns.length nc, .slice ma j.ls.length mc] 31)) := (Below.refl _ _).alloc (Nat.le_refl _) _
  have q0 := heap_alloc_new w (.cells #[.slice ta j.ts.length tc, .slice la j.xs.length lc, .int .i64 j.bg, .int .i64 j.ln, .int .i64 j.en, .slice ua j.vs.length uc, .slice xa j.cs.length xc, .string j.o, .slice na j.ns.length nc, .slice ma j.ls.length mc] 31)
  have HQ : Hid (∀ W, Below (w.alloc (.cells #[.slice ta j.ts.length tc, .slice la j.xs.length lc, .int .i64 j.bg, .int .i64 j.ln, .int .i64 j.en, .slice ua j.vs.length uc, .slice xa j.cs.length xc, .string j.o, .slice na j.ns.length nc, .slice ma j.ls.length mc] 31)).heap.size (w.alloc (.cells #[.slice ta j.ts.length tc, .slice la j.xs.length lc, .int .i64 j.bg, .int .i64 j.ln, .int .i64 j.en, .slice ua j.vs.length uc, .slice xa j.cs.length xc, .string j.o, .slice na j.ns.length nc, .slice ma j.ls.length mc] 31)) W → W.heap[w.heap.size]? = some (.cells #[.slice ta j.ts.length tc, .slice la j.xs.length lc, .int .i64 j.bg, .int .i64 j.ln, .int .i64 j.en, .slice ua j.vs.length uc, .slice xa j.cs.length xc, .string j.o, .slice na j.ns.length nc, .slice ma j.ls.length mc] 31 (0, 0)) ∧ Below w.heap.size w W) := fun W hb => ⟨(hb.block _ (blk_lt q0)).trans q0, hbw.trans (hb.mono hbw.size)⟩
  have HB0 := hidOfJ hbw
  clear hV hbw q0 h hf HH
  go_enter Tryz.func3, Tryz.ntmps3
  go_wp2_with fail
  generalize w.alloc (.cells #[.slice ta j.ts.length tc, .slice la j.xs.length lc, .int .i64 j.bg, .int .i64 j.ln, .int .i64 j.en, .slice ua j.vs.length uc, .slice xa j.cs.length xc, .string j.o, .slice na j.ns.length nc, .slice ma j.ls.length mc] 31) = W0 at *
  refine (CZ.out _ HB0.out).mono ?_
  rintro e w1 ⟨hb1, r, rfl, hr⟩
  have H1 : Hid (Below W0.heap.size W0 w1) := hb1
  clear hb1 CZ HB0
  obtain ⟨⟨⟨a0, a1, a2, a3, a4⟩, ⟨a5, a6, a7⟩, a8, a9⟩, -⟩ := tenJ (HQ.out _ H1.out).1
  rcases hr with rfl | ⟨hr0, hsm⟩
  · go_wp2_with fail
    go_ret
    exact ⟨rfl, (HQ.out _ H1.out).2⟩
  have d1 : decide (r < 0) = false := decide_eq_false (by omega)
  have HSM := hidOfJ hsm
  clear hr0 hsm
  go_wp2_with fail
  refine (CT.out _ (HQ.out _ H1.out).2 HSM.out).mono ?_
  rintro e w2 ⟨g1, h1, k1, l1, m1, n1, rfl, hb2, hat⟩
  have H2 : Hid (Below W0.heap.size W0 w2) := H1.out.trans (hb2.mono H1.out.size)
  have T2 := hidOfJ hat
  clear hb2 hat H1 a0 a1 a2 a3 a4 a5 a6 a7 a8 a9
  go_wp2_with fail
  refine (CS.out _ _ _ _ _ _ _ T2.out HSM.out).mono ?_
  rintro e w3 ⟨rfl, hb3⟩
  have H3 : Hid (Below W0.heap.size W0 w3) := H2.out.trans (hb3.mono H2.out.size)
  clear hb3 H2 T2 CS
  obtain ⟨⟨⟨a0, a1, a2, a3, a4⟩, ⟨a5, a6, a7⟩, a8, a9⟩, -⟩ := tenJ (HQ.out _ H3.out).1
  go_wp2_with fail
  refine (CT.out _ (HQ.out _ H3.out).2 HSM.out).mono ?_
  rintro e w4 ⟨g4, h4, k4, l4, m4, n4, rfl, hb4, hat⟩
  have H4 : Hid (Below W0.heap.size W0 w4) := H3.out.trans (hb4.mono H3.out.size)
  have T4 := hidOfJ hat
  clear hb4 hat H3 a0 a1 a2 a3 a4 a5 a6 a7 a8 a9
  have qx := heap_alloc_new w4 (.cells #[.slice (some ⟨g4, 0, none⟩) j.ts.length j.ts.length, .slice (some ⟨h4, 0, none⟩) j.xs.length j.xs.length, .int .i64 j.bg, .int .i64 j.ln, .int .i64 j.en, .slice (some ⟨k4, 0, none⟩) j.vs.length j.vs.length, .slice (some ⟨l4, 0, none⟩) j.cs.length j.cs.length, .string j.o, .slice (some ⟨m4, 0, none⟩) j.ns.length j.ns.length, .slice (some ⟨n4, 0, none⟩) j.ls.length j.ls.length] 42)
  have u4 : Below w4.heap.size w4 (w4.alloc (.cells #[.slice (some ⟨g4, 0, none⟩) j.ts.length j.ts.length, .slice (some ⟨h4, 0, none⟩) j.xs.length j.xs.length, .int .i64 j.bg, .int .i64 j.ln, .int .i64 j.en, .slice (some ⟨k4, 0, none⟩) j.vs.length j.vs.length, .slice (some ⟨l4, 0, none⟩) j.cs.length j.cs.length, .string j.o, .slice (some ⟨m4, 0, none⟩) j.ns.length j.ns.length, .slice (some ⟨n4, 0, none⟩) j.ls.length j.ls.length] 42)) := (Below.refl _ _).alloc (Nat.le_refl _) _
  have HX := hidOfJ (And.intro qx u4)
  have T5 : Hid (Jb.At (w4.alloc (.cells #[.slice (some ⟨g4, 0, none⟩) j.ts.length j.ts.length, .slice (some ⟨h4, 0, none⟩) j.xs.length j.xs.length, .int .i64 j.bg, .int .i64 j.ln, .int .i64 j.en, .slice (some ⟨k4, 0, none⟩) j.vs.length j.vs.length, .slice (some ⟨l4, 0, none⟩) j.cs.length j.cs.length, .string j.o, .slice (some ⟨m4, 0, none⟩) j.ns.length j.ns.length, .slice (some ⟨n4, 0, none⟩) j.ls.length j.ls.length] 42)) (.slice (some ⟨g4, 0, none⟩) j.ts.length j.ts.length) (.slice (some ⟨h4, 0, none⟩) j.xs.length j.xs.length) (.slice (some ⟨k4, 0, none⟩) j.vs.length j.vs.length) (.slice (some ⟨l4, 0, none⟩) j.cs.length j.cs.length) (.slice (some ⟨m4, 0, none⟩) j.ns.length j.ns.length) (.slice (some ⟨n4, 0, none⟩) j.ls.length j.ls.length) j) := T4.out.keep u4
  have H5 : Hid (Below W0.heap.size W0 (w4.alloc (.cells #[.slice (some ⟨g4, 0, none⟩) j.ts.length j.ts.length, .slice (some ⟨h4, 0, none⟩) j.xs.length j.xs.length, .int .i64 j.bg, .int .i64 j.ln, .int .i64 j.en, .slice (some ⟨k4, 0, none⟩) j.vs.length j.vs.length, .slice (some ⟨l4, 0, none⟩) j.cs.length j.cs.length, .string j.o, .slice (some ⟨m4, 0, none⟩) j.ns.length j.ns.length, .slice (some ⟨n4, 0, none⟩) j.ls.length j.ls.length] 42))) := H4.out.trans (u4.mono H4.out.size)
  obtain ⟨⟨⟨o0, o1, o2, o3, o4⟩, ⟨o5, o6, o7⟩, o8, o9⟩, -⟩ := tenJ qx
  clear qx u4 T4 H4
  go_wp2_with fail
  generalize w4.alloc (.cells #[.slice (some ⟨g4, 0, none⟩) j.ts.length j.ts.length, .slice (some ⟨h4, 0, none⟩) j.xs.length j.xs.length, .int .i64 j.bg, .int .i64 j.ln, .int .i64 j.en, .slice (some ⟨k4, 0, none⟩) j.vs.length j.vs.length, .slice (some ⟨l4, 0, none⟩) j.cs.length j.cs.length, .string j.o, .slice (some ⟨m4, 0, none⟩) j.ns.length j.ns.length, .slice (some ⟨n4, 0, none⟩) j.ls.length j.ls.length] 42) = W5 at *
  refine (CI.out _ _ _ _ _ _ _ T5.out HSM.out).mono ?_
  rintro e w6 ⟨rfl, hb6⟩
  have H6 : Hid (Below W0.heap.size W0 w6) := H5.out.trans (hb6.mono H5.out.size)
  have T6 : Hid (Jb.At w6 (.slice (some ⟨g4, 0, none⟩) j.ts.length j.ts.length) (.slice (some ⟨h4, 0, none⟩) j.xs.length j.xs.length) (.slice (some ⟨k4, 0, none⟩) j.vs.length j.vs.length) (.slice (some ⟨l4, 0, none⟩) j.cs.length j.cs.length) (.slice (some ⟨m4, 0, none⟩) j.ns.length j.ns.length) (.slice (some ⟨n4, 0, none⟩) j.ls.length j.ls.length) j) := T5.out.keep hb6
  have HX6 := hidOfJ ((hb6.block _ (blk_lt HX.out.1)).trans HX.out.1)
  clear hb6 H5 T5 HX CI o0 o1 o2 o3 o4 o5 o6 o7 o8 o9
  obtain ⟨⟨⟨a0, a1, a2, a3, a4⟩, ⟨a5, a6, a7⟩, a8, a9⟩, -⟩ := tenJ (HQ.out _ H6.out).1
  obtain ⟨⟨⟨o0, o1, o2, o3, o4⟩, ⟨o5, o6, o7⟩, o8, o9⟩, -⟩ := tenJ HX6.out
  have hq : (V != V) = false := by simp
  have HE : Hid (∀ W, Below w6.heap.size w6 W → Below w.heap.size w W ∧ (Jb.At W (.slice (some ⟨g4, 0, none⟩) j.ts.length j.ts.length) (.slice (some ⟨h4, 0, none⟩) j.xs.length j.xs.length) (.slice (some ⟨k4, 0, none⟩) j.vs.length j.vs.length) (.slice (some ⟨l4, 0, none⟩) j.cs.length j.cs.length) (.slice (some ⟨m4, 0, none⟩) j.ns.length j.ns.length) (.slice (some ⟨n4, 0, none⟩) j.ls.length j.ls.length) j)) := fun W hb => ⟨(HQ.out _ (H6.out.trans (hb.mono H6.out.size))).2, T6.out.keep hb⟩
  have HOX : Hid (∀ W, Below w6.heap.size w6 W → W.heap[w4.heap.size]? = some (.cells #[.slice (some ⟨g4, 0, none⟩) j.ts.length j.ts.length, .slice (some ⟨h4, 0, none⟩) j.xs.length j.xs.length, .int .i64 j.bg, .int .i64 j.ln, .int .i64 j.en, .slice (some ⟨k4, 0, none⟩) j.vs.length j.vs.length, .slice (some ⟨l4, 0, none⟩) j.cs.length j.cs.length, .string j.o, .slice (some ⟨m4, 0, none⟩) j.ns.length j.ns.length, .slice (some ⟨n4, 0, none⟩) j.ls.length j.ls.length] 42 (0, 0))) := fun W hb => (hb.block _ (blk_lt HX6.out)).trans HX6.out
  have HAX : Hid (w6.heap[w.heap.size]? = some (.cells #[.slice ta j.ts.length tc, .slice la j.xs.length lc, .int .i64 j.bg, .int .i64 j.ln, .int .i64 j.en, .slice ua j.vs.length uc, .slice xa j.cs.length xc, .string j.o, .slice na j.ns.length nc, .slice ma j.ls.length mc] 31 (0, 0))) := (HQ.out _ H6.out).1
  clear H6 T6 HX6 HQ
  go_wp2_with fail
  refine wp_region_noPanic ?_
  have HSS : Hid (w6.drew.heap[w4.heap.size]? = some (.cells #[.slice (some ⟨g4, 0, none⟩) j.ts.length j.ts.length, .slice (some ⟨h4, 0, none⟩) j.xs.length j.xs.length, .int .i64 j.bg, .int .i64 j.ln, .int .i64 j.en, .slice (some ⟨k4, 0, none⟩) j.vs.length j.vs.length, .slice (some ⟨l4, 0, none⟩) j.cs.length j.cs.length, .string j.o, .slice (some ⟨m4, 0, none⟩) j.ns.length j.ns.length, .slice (some ⟨n4, 0, none⟩) j.ls.length j.ls.length] 42 (0, 0)) ∧ w6.drew.heap[w.heap.size]? = some (.cells #[.slice ta j.ts.length tc, .slice la j.xs.length lc, .int .i64 j.bg, .int .i64 j.ln, .int .i64 j.en, .slice ua j.vs.length uc, .slice xa j.cs.length xc, .string j.o, .slice na j.ns.length nc, .slice ma j.ls.length mc] 31 (0, 0)) ∧ Hid (Below w6.heap.size w6 w6.drew)) := ⟨HOX.out w6 (Below.refl _ _), HAX.out, (Below.refl _ _).drew⟩
  refine wp_region_held_drew (S := (fun W' => W'.heap[w4.heap.size]? = some (.cells #[.slice (some ⟨g4, 0, none⟩) j.ts.length j.ts.length, .slice (some ⟨h4, 0, none⟩) j.xs.length j.xs.length, .int .i64 j.bg, .int .i64 j.ln, .int .i64 j.en, .slice (some ⟨k4, 0, none⟩) j.vs.length j.vs.length, .slice (some ⟨l4, 0, none⟩) j.cs.length j.cs.length, .string j.o, .slice (some ⟨m4, 0, none⟩) j.ns.length j.ns.length, .slice (some ⟨n4, 0, none⟩) j.ls.length j.ls.length] 42 (0, 0)) ∧ W'.heap[w.heap.size]? = some (.cells #[.slice ta j.ts.length tc, .slice la j.xs.length lc, .int .i64 j.bg, .int .i64 j.ln, .int .i64 j.en, .slice ua j.vs.length uc, .slice xa j.cs.length xc, .string j.o, .slice na j.ns.length nc, .slice ma j.ls.length mc] 31 (0, 0)) ∧ Hid (Below w6.heap.size w6 W'))) (by kernel_rfl) HSS.out (fun _ => ?_)
  refine wpAnyH_take (i := 0) (v := ?_) rfl (by kernel_rfl) (by kernel_rfl) (by kernel_rfl) (fun _ _ _ h => h) (Or.inl ⟨by kernel_rfl, ?_⟩) HSS.out ?_
  rotate_left
  · (intro u9 hSw; obtain ⟨⟨⟨y0, y1, y2, y3, y4⟩, ⟨y5, y6, y7⟩, y8, y9⟩, -⟩ := tenJ hSw.1; clear hSw; (try dsimp only at hSw); go_simp; try with_reducible rfl)
  show wpAnyH _ _ _ _ _ _ _ (Act.put _ (some 22) _) _
  (try simp only [Act.put]); (try simp only [List.setIfInBounds_toArray]); (try simp only [List.set_cons_succ, List.set_cons_zero])
  refine wpAnyH_take (i := 1) (v := ?_) rfl (by kernel_rfl) (by kernel_rfl) (by kernel_rfl) (fun _ _ _ h => h) (Or.inl ⟨by kernel_rfl, ?_⟩) HSS.out ?_
  rotate_left
  · (intro u9 hSw; obtain ⟨⟨⟨y0, y1, y2, y3, y4⟩, ⟨y5, y6, y7⟩, y8, y9⟩, -⟩ := tenJ hSw.2.1; clear hSw; (try dsimp only at hSw); go_simp; try with_reducible rfl)
  show wpAnyH _ _ _ _ _ _ _ (Act.put _ (some 23) _) _
  (try simp only [Act.put]); (try simp only [List.setIfInBounds_toArray]); (try simp only [List.set_cons_succ, List.set_cons_zero])
  refine wpAnyH_ready (rs := [2]) (by kernel_rfl) (by simp) ?_
  refine AllReadyH.cons rfl (fun K hK => ?_) AllReadyH.nil
  go_simp
  go_at_call 7
  refine (CT.out _ (HE.out _ HSS.out.2.2.out).1 HSM.out).mono ?_
  rintro e w7 ⟨g7, h7, k7, l7, m7, n7, rfl, hb7, hat⟩
  have T7 := hidOfJ hat
  clear hat
  have HS2 : Hid (w7.heap[w4.heap.size]? = some (.cells #[.slice (some ⟨g4, 0, none⟩) j.ts.length j.ts.length, .slice (some ⟨h4, 0, none⟩) j.xs.length j.xs.length, .int .i64 j.bg, .int .i64 j.ln, .int .i64 j.en, .slice (some ⟨k4, 0, none⟩) j.vs.length j.vs.length, .slice (some ⟨l4, 0, none⟩) j.cs.length j.cs.length, .string j.o, .slice (some ⟨m4, 0, none⟩) j.ns.length j.ns.length, .slice (some ⟨n4, 0, none⟩) j.ls.length j.ls.length] 42 (0, 0)) ∧ w7.heap[w.heap.size]? = some (.cells #[.slice ta j.ts.length tc, .slice la j.xs.length lc, .int .i64 j.bg, .int .i64 j.ln, .int .i64 j.en, .slice ua j.vs.length uc, .slice xa j.cs.length xc, .string j.o, .slice na j.ns.length nc, .slice ma j.ls.length mc] 31 (0, 0)) ∧ Hid (Below w6.heap.size w6 w7)) := ⟨(hb7.block _ (blk_lt HSS.out.1)).trans HSS.out.1, (hb7.block _ (blk_lt HSS.out.2.1)).trans HSS.out.2.1, HSS.out.2.2.out.trans (hb7.mono HSS.out.2.2.out.size)⟩
  try dsimp only
  refine hK.out _ _ HS2.out (fun _ => ?_)
  clear hK K HSS
  have HSS := hidOfJ HS2.out
  clear HS2
  clear hb7
  try show wpAnyH _ _ _ _ _ _ _ (Act.put _ (some 24) _) _
  (try simp only [Act.put]); (try simp only [List.setIfInBounds_toArray]); (try simp only [List.set_cons_succ, List.set_cons_zero])
  refine wpAnyH_ready (rs := [3]) (by kernel_rfl) (by simp) ?_
  refine AllReadyH.cons rfl (fun K hK => ?_) AllReadyH.nil
  go_simp
  go_at_call 9
  refine (CE.out _ _ _ _ _ _ _ _ _ _ _ _ _ (HE.out _ HSS.out.2.2.out).2 T7.out HSM.out).mono ?_
  rintro e w8 ⟨rfl, hb8⟩
  have HS2 : Hid (w8.heap[w4.heap.size]? = some (.cells #[.slice (some ⟨g4, 0, none⟩) j.ts.length j.ts.length, .slice (some ⟨h4, 0, none⟩) j.xs.length j.xs.length, .int .i64 j.bg, .int .i64 j.ln, .int .i64 j.en, .slice (some ⟨k4, 0, none⟩) j.vs.length j.vs.length, .slice (some ⟨l4, 0, none⟩) j.cs.length j.cs.length, .string j.o, .slice (some ⟨m4, 0, none⟩) j.ns.length j.ns.length, .slice (some ⟨n4, 0, none⟩) j.ls.length j.ls.length] 42 (0, 0)) ∧ w8.heap[w.heap.size]? = some (.cells #[.slice ta j.ts.length tc, .slice la j.xs.length lc, .int .i64 j.bg, .int .i64 j.ln, .int .i64 j.en, .slice ua j.vs.length uc, .slice xa j.cs.length xc, .string j.o, .slice na j.ns.length nc, .slice ma j.ls.length mc] 31 (0, 0)) ∧ Hid (Below w6.heap.size w6 w8)) := ⟨(hb8.block _ (blk_lt HSS.out.1)).trans HSS.out.1, (hb8.block _ (blk_lt HSS.out.2.1)).trans HSS.out.2.1, HSS.out.2.2.out.trans (hb8.mono HSS.out.2.2.out.size)⟩
  try dsimp only
  refine hK.out _ _ HS2.out (fun _ => ?_)
  clear hK K HSS
  have HSS := hidOfJ HS2.out
  clear HS2
  clear hb8
  try show wpAnyH _ _ _ _ _ _ _ (Act.put _ (some 25) _) _
  (try simp only [Act.put]); (try simp only [List.setIfInBounds_toArray]); (try simp only [List.set_cons_succ, List.set_cons_zero])
  refine wpAnyH_take (i := 4) (v := ?_) rfl (by kernel_rfl) (by kernel_rfl) (by kernel_rfl) (fun _ _ _ h => h) (Or.inl ⟨by kernel_rfl, ?_⟩) HSS.out ?_
  rotate_left
  · (intro u9 hSw; (try dsimp only at hSw); go_simp; try with_reducible rfl)
  show wpAnyH _ _ _ _ _ _ _ (Act.put _ (some 26) _) _
  (try simp only [Act.put]); (try simp only [List.setIfInBounds_toArray]); (try simp only [List.set_cons_succ, List.set_cons_zero])
  refine wpAnyH_done (by kernel_rfl) ?_ _
  refine NoPanic.normal ?_
  go_wp2
  go_ret
  exact ⟨by first | rfl | kernel_rfl, (HE.out _ HSS.out.2.2.out).1⟩
end PartLwJo
end Go.Proofs.YtlpdjmjbppmibaaGreat
