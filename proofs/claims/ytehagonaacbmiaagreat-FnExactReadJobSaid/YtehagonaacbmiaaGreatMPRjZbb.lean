/- A job's bytes are read as that job: plain. When a store is right: the program's StoreOk. -/
import Derived.Test.YtehagonaacbmiaaGreatMPRjZba
import Derived.Test.YtehagonaacbmiaaGreatMPRjZao
import Derived.Test.YtehagonaacbmiaaGreatMPRjZau
namespace Go.Proofs.YtehagonaacbmiaaGreat
section PartRjQ
open Go.RowKit

namespace Jb
theorem read_is {L : List UInt8} {a1 a2 a3 a4 n n2 : Nat} {b1 b2 b3 b4 : Bool} {t1 t2 : List UInt8} {ns ls : List ByteArray}
    (h1 : b1 = false → Rc.rs L 0 = some (t1, a1)) (h2 : b1 = true → Rc.rs L 0 = none)
    (h3 : b2 = false → b1 = false ∧ Rc.rs L a1 = some (t2, a2)) (h4 : b2 = true → b1 = true ∨ Rc.rs L a1 = none)
    (h : Rc.TL L (HN L) n n a3 ns b3) (g : Rc.TL L (HL L ns) n2 n2 a4 ls b4) (ha : a4 ≤ L.length) :
    ∀ j, isOf L j → (∃ l u : Nat, Rc.ans t1 = some (j.ts, j.xs, l, u) ∧ j.bg = 0 ∧ j.ln = (l : Int) ∧ j.en = (u : Int)) ∧ Rs.isOf t2 j.vs j.cs j.o ∧ j.ns = ns ∧ j.ls = ls ∧ b4 = false ∧ a4 = L.length := by
  intro j hj
  obtain ⟨-, e2, e3, -⟩ := isOf_two hj h1 h2 h3 h4
  obtain ⟨c1, c2, -⟩ := ok_sizes hj.1
  obtain ⟨-, k2, -⟩ := h.done (m := 20) (fun _ _ => Nat.le_refl _) (fun ts0 r hh => by obtain ⟨j', hj', rfl, -⟩ := hh; exact (ok_sizes hj'.1).2.2.1) j.ns _ ⟨j, hj, rfl, rfl⟩
  obtain ⟨f1, f2, f3⟩ := g.done (m := 20) (fun _ _ => Nat.le_refl _) (fun ts0 r hh => by obtain ⟨j', hj', -, rfl, -⟩ := hh; exact (ok_sizes hj'.1).2.2.2.1) j.ls [] ⟨j, hj, k2.symm, rfl, rfl⟩
  obtain ⟨l, u, q1, q2, q3, q4⟩ := Rc.ans_of c1
  have q5 := congrArg List.length f3
  rw [List.length_drop, List.length_nil] at q5
  refine ⟨⟨l, u, by rw [e2]; exact q1, q2, q3, q4⟩, ⟨c2, e3.symm⟩, k2.symm, f2.symm, f1, by omega⟩
end Jb
end PartRjQ
section PartOkE
open Go.RowKit

set_option maxRecDepth 100000 in
set_option maxHeartbeats 8000000 in
theorem imStoreOk (va ra : Value) (o : ByteArray) (vs : List Vr) (cs : List Cl) (w : World) (h1 : VrAt w va vs) (g1 : ClAt w ra cs) (hs : StSmall vs cs o) :
    Calls Tryz.prog 24 #[.agg #[va, ra, .string o]] w fun e w' => e = .returned (.bool (St.ok vs cs o)) ∧ Below w.heap.size w w' := by
  obtain ⟨V, hV⟩ : ∃ V, V = St.ok vs cs o := ⟨_, rfl⟩
  have HV : Hid (V = St.ok vs cs o) := hV
  rw [← hV]
  clear hV
  have HP : Hid (∀ W, Below w.heap.size w W → VrAt W va vs ∧ ClAt W ra cs) := fun W hb => ⟨h1.keep hb, g1.keep hb⟩
  obtain ⟨A1, hA1⟩ : ∃ A, A = (List.range vs.length).all (St.ascV vs) := ⟨_, rfl⟩
  obtain ⟨A2, hA2⟩ : ∃ A, A = (List.range cs.length).all (St.ascC cs) := ⟨_, rfl⟩
  have CV : Hid (∀ W, Below w.heap.size w W → Calls Tryz.prog 58 #[va] W fun e w' => e = .returned (.bool A1) ∧ Below W.heap.size W w') := fun W hb => by rw [hA1]; exact ascVar va vs W (h1.keep hb) hs.1
  have CC : Hid (∀ W, Below w.heap.size w W → Calls Tryz.prog 59 #[ra] W fun e w' => e = .returned (.bool A2) ∧ Below W.heap.size W w') := fun W hb => by rw [hA2]; exact ascCell ra cs W (g1.keep hb) hs.2.2.1
  have HA : Hid (A1 = (List.range vs.length).all (St.ascV vs) ∧ A2 = (List.range cs.length).all (St.ascC cs)) := ⟨hA1, hA2⟩
  clear hA1 hA2
  obtain ⟨a1, c1, rfl, -⟩ := h1
  obtain ⟨d1, e1, rfl, -⟩ := g1
  obtain ⟨n, hn⟩ : ∃ n, n = vs.length := ⟨_, rfl⟩
  obtain ⟨m, hm⟩ : ∃ m, m = cs.length := ⟨_, rfl⟩
  have HN : Hid (n = vs.length ∧ m = cs.length) := ⟨hn, hm⟩
  have hl : n ≤ 1048576 := by rw [hn]; exact hs.1
  have hr : m ≤ 1048576 := by rw [hm]; exact hs.2.2.1
  have ho : o.size ≤ 1048576 := hs.2.2.2.2
  have HSM : Hid (VrSmall vs n ∧ ClSmall cs m) := by rw [hn, hm]; exact ⟨hs.2.1, hs.2.2.2.1⟩
  rw [← hn, ← hm] at HP
  rw [← hn] at CV
  rw [← hm] at CC
  rw [← hn, ← hm]
  clear hs hn hm
  have HB : Hid (Below w.heap.size w (w.alloc (.cells #[.slice a1 n c1, .slice d1 m e1, .string o] 40))) := (Below.refl _ _).alloc (Nat.le_refl _) _
  have q0 := heap_alloc_new w (.cells #[.slice a1 n c1, .slice d1 m e1, .string o] 40)
  have hz : w.heap.size < (w.alloc (.cells #[.slice a1 n c1, .slice d1 m e1, .string o] 40)).heap.size := by simp
  by_cases b1 : 60 < n
  · have d1' : decide ((60 : Int) < (n : Int)) = true := decide_eq_true (by omega)
    have HR : Hid (V = false) := HV.out.trans (by unfold St.ok; rw [decide_eq_false (by rw [← HN.out.1]; omega)]; rfl)
    clear HV HP CV CC q0 hz
    go_enter Tryz.func24, Tryz.ntmps24
    go_wp2
    go_ret
    exact ⟨by rw [HR.out]; rfl, HB.out⟩
  have d1' : decide ((60 : Int) < (n : Int)) = false := decide_eq_false (by omega)
  by_cases b2 : 2000 < m
  · have d2' : decide ((2000 : Int) < (m : Int)) = true := decide_eq_true (by omega)
    have HR : Hid (V = false) := HV.out.trans (by unfold St.ok; rw [decide_eq_false (by rw [← HN.out.2]; omega)]; rfl)
    clear HV HP CV CC q0 hz
    go_enter Tryz.func24, Tryz.ntmps24
    go_wp2
    go_ret
    exact ⟨by rw [HR.out]; rfl, HB.out⟩
  have d2' : decide ((2000 : Int) < (m : Int)) = false := decide_eq_false (by omega)
  by_cases b3 : 3000 < o.size
  · have d3' : decide ((3000 : Int) < (o.size : Int)) = true := decide_eq_true (by omega)
    have HR : Hid (V = false) := HV.out.trans (by unfold St.ok; rw [decide_eq_false (by omega)]; rfl)
    clear HV HP CV CC q0 hz
    go_enter Tryz.func24, Tryz.ntmps24
    go_wp2
    go_ret
    exact ⟨by rw [HR.out]; rfl, HB.out⟩
  have d3' : decide ((3000 : Int) < (o.size : Int)) = false := decide_eq_false (by omega)
  have HV2 : Hid (V = ((A1 && A2) && ((List.range vs.length).all (St.goodV vs) && (List.range cs.length).all (St.goodC cs)))) := by
    show _ = _
    rw [HV.out, HA.out.1, HA.out.2]
    unfold St.ok
    rw [decide_eq_true (by rw [← HN.out.1, ← HN.out.2]; omega), Bool.true_and]
  clear HV HA b1 b2 b3
  have HQ0 : Hid (∀ W0 : World, W0 = w.alloc (.cells #[.slice a1 n c1, .slice d1 m e1, .string o] 40) → ∀ wr, Below W0.heap.size W0 wr → wr.cell? ⟨w.heap.size, 0, none⟩ = some (.slice a1 n c1) ∧ wr.cell? ⟨w.heap.size, 1, none⟩ = some (.slice d1 m e1) ∧ wr.cell? ⟨w.heap.size, 2, none⟩ = some (.string o)) := by
    intro W0 hW0 wr hb
    subst hW0
    have s0 := (hb.block _ hz).trans q0
    have z0 := blk_cell s0 0
    have z1 := blk_cell s0 1
    have z2 := blk_cell s0 2
    simp only [List.getElem?_toArray, List.getElem?_cons_zero, List.getElem?_cons_succ] at z0 z1 z2
    exact ⟨z0, z1, z2⟩
  clear q0 hz
  go_enter Tryz.func24, Tryz.ntmps24
  go_wp2_with fail
  have HQ : Hid _ := HQ0.out _ rfl
  clear HQ0
  generalize w.alloc (.cells #[.slice a1 n c1, .slice d1 m e1, .string o] 40) = W0 at *
  refine (CV.out _ HB.out).mono ?_
  rintro e w1 ⟨rfl, hb1⟩
  have HW1 : Hid (Below W0.heap.size W0 w1) := hb1
  have HWW1 : Hid (Below w.heap.size w w1) := HB.out.trans (hb1.mono HB.out.size)
  clear hb1 CV
  obtain ⟨z0, z1, z2⟩ := HQ.out _ HW1.out
  cases A1 with
  | false =>
    have HR : Hid (V = false) := HV2.out
    clear HV2
    go_wp2
    go_ret
    exact ⟨by rw [HR.out]; rfl, HWW1.out⟩
  | true =>
  go_wp2_with fail
  refine (CC.out _ HWW1.out).mono ?_
  rintro e w2 ⟨rfl, hb2⟩
  have HW2 : Hid (Below W0.heap.size W0 w2) := HW1.out.trans (hb2.mono HW1.out.size)
  have HWW2 : Hid (Below w.heap.size w w2) := HB.out.trans (HW2.out.mono HB.out.size)
  clear hb2 CC HW1 HWW1 z0 z1 z2
  obtain ⟨z0, z1, z2⟩ := HQ.out _ HW2.out
  cases A2 with
  | false =>
    have HR : Hid (V = false) := HV2.out
    clear HV2
    go_wp2
    go_ret
    exact ⟨by rw [HR.out]; rfl, HWW2.out⟩
  | true =>
  have HV3 : Hid (V = ((List.range vs.length).all (St.goodV vs) && (List.range cs.length).all (St.goodC cs))) := HV2.out
  clear HV2
  go_wp2
  clear z0 z1 z2
  go_loopw [38] (fun i wr => ∃ j : Nat, i = .int .i64 (j : Int) ∧ j ≤ n ∧ Hid (Below W0.heap.size W0 wr) ∧ Hid (∀ q, q < j → St.goodV vs q = true)) (fun i _ => n - (intOf i).toNat)
  case atStart => exact ⟨0, rfl, by omega, HW2, fun q hq => by omega⟩
  case round =>
    obtain ⟨j, rfl, hj, HW, HJ⟩ := hrel
    obtain ⟨z0, z1, z2⟩ := HQ.out _ HW.out
    have HWW : Hid (Below w.heap.size w wr) := HB.out.trans (HW.out.mono HB.out.size)
    by_cases hlt : j < n
    · obtain ⟨f1, f2⟩ := HP.out _ HWW.out
      obtain ⟨g1, o1, rfl, l1, t1⟩ := VrAt.row f1 HN.out.1.symm hlt
      obtain ⟨p, hp⟩ : ∃ p, p = vs.getD j Vr.no := ⟨_, rfl⟩
      rw [← hp] at t1
      have hsm := HSM.out.1 j hlt
      rw [← hp] at hsm
      have HPJ : Hid (p = vs.getD j Vr.no) := hp
      clear hp
      obtain ⟨p0, p1⟩ := p
      simp only at t1 hsm
      obtain ⟨x0, x1⟩ := t1
      obtain ⟨m0, m1⟩ := hsm
      obtain ⟨NM, hNM⟩ : ∃ NM, NM = Cd.nm p0.data.toList := ⟨_, rfl⟩
      have CN : Hid (∀ W, Calls Tryz.prog 25 #[.string p0] W fun e w' => e = .returned (.bool NM) ∧ Below W.heap.size W w') := fun W => by rw [hNM]; exact isOf_any p0 W
      have HG : Hid (St.goodV vs j = (NM && decide (p1.size ≤ 40))) := by
        show _ = _
        unfold St.goodV
        rw [← HPJ.out, hNM]
      clear hNM HPJ f1 f2
      have i1 : (j : Int) < (n : Int) := by omega
      have i0 : (0 : Int) ≤ (j : Int) := by omega
      have HAL : Hid (∀ w1, Below (wr.alloc (.cells #[.string p0, .string p1] 87)).heap.size (wr.alloc (.cells #[.string p0, .string p1] 87)) w1 → w1.heap[wr.heap.size]? = some (.cells #[.string p0, .string p1] 87 (0, 0)) ∧ Below w.heap.size w w1 ∧ Below W0.heap.size W0 w1) := by
        intro w1 hb1
        have h9 : Below wr.heap.size wr w1 := ((Below.refl wr.heap.size wr).alloc (Nat.le_refl _) _).trans (hb1.mono (by simp))
        exact ⟨(hb1.block _ (by simp)).trans (heap_alloc_new wr _), HWW.out.trans (h9.mono HWW.out.size), HW.out.trans (h9.mono HW.out.size)⟩
      go_wp2_with fail
      refine (CN.out _).mono ?_
      rintro e w1 ⟨rfl, hb1⟩
      have HX : Hid _ := HAL.out w1 hb1
      have v1 : w1.cell? ⟨wr.heap.size, 1, none⟩ = some (.string p1) := (blk_cell HX.out.1 1).trans rfl
      clear hb1 CN HAL x0 x1
      cases NM with
      | false =>
        have HR : Hid (V = false) := HV3.out.trans (by rw [St.all_no (p := St.goodV vs) (by rw [← HN.out.1]; exact hlt) (HG.out)]; rfl)
        clear HV3 HJ HG
        go_wp2
        go_ret
        exact ⟨by rw [HR.out]; rfl, HX.out.2.1⟩
      | true =>
        by_cases hb1 : 40 < p1.size
        · have d1 : decide ((40 : Int) < (p1.size : Int)) = true := decide_eq_true (by omega)
          have HR : Hid (V = false) := HV3.out.trans (by rw [St.all_no (p := St.goodV vs) (by rw [← HN.out.1]; exact hlt) (HG.out.trans (by rw [decide_eq_false (by omega : ¬ p1.size ≤ 40)]; simp))]; rfl)
          clear HV3 HJ HG
          go_wp2
          go_ret
          exact ⟨by rw [HR.out]; rfl, HX.out.2.1⟩
        have d1 : decide ((40 : Int) < (p1.size : Int)) = false := decide_eq_false (by omega)
        have HNX : Hid (∀ q, q < j + 1 → St.goodV vs q = true) := fun q h => by
          by_cases e : q = j
          · subst e; exact HG.out.trans (by rw [decide_eq_true (by omega : p1.size ≤ 40)]; rfl)
          · exact HJ.out q (by omega)
        clear HG HJ
        go_wp2
        go_roundw
        case rel => exact ⟨j + 1, by go_num, by omega, HX.out.2.2, HNX⟩
        case measure => simp [intOf]; omega
    · have HJN : Hid (∀ q, q < n → St.goodV vs q = true) := fun q hq => HJ.out q (by omega)
      have i1 : ¬ ((j : Int) < (n : Int)) := by omega
      have HJ1 : Hid (∀ q, q < n → St.goodV vs q = true) := HJN
      clear HJ HJN HWW
      go_wp2
      clear z0 z1 z2
      go_loopw [56] (fun i wr => ∃ j : Nat, i = .int .i64 (j : Int) ∧ j ≤ m ∧ Hid (Below W0.heap.size W0 wr) ∧ Hid (∀ q, q < j → St.goodC cs q = true)) (fun i _ => m - (intOf i).toNat)
      case atStart => exact ⟨0, rfl, by omega, HW, fun q hq => by omega⟩
      case round =>
        obtain ⟨j, rfl, hj, HW, HJ⟩ := hrel
        obtain ⟨z0, z1, z2⟩ := HQ.out _ HW.out
        have HWW : Hid (Below w.heap.size w wr) := HB.out.trans (HW.out.mono HB.out.size)
        by_cases hlt : j < m
        · obtain ⟨f1, f2⟩ := HP.out _ HWW.out
          obtain ⟨g1, o1, rfl, l1, t1⟩ := ClAt.row f2 HN.out.2.symm hlt
          obtain ⟨p, hp⟩ : ∃ p, p = cs.getD j Cl.no := ⟨_, rfl⟩
          rw [← hp] at t1
          have hsm := HSM.out.2 j hlt
          rw [← hp] at hsm
          have HPJ : Hid (p = cs.getD j Cl.no) := hp
          clear hp
          obtain ⟨p0, p1, p2⟩ := p
          simp only at t1 hsm
          obtain ⟨x0, x1, x2⟩ := t1
          obtain ⟨m0, m1, m2⟩ := hsm
          obtain ⟨NM, hNM⟩ : ∃ NM, NM = Cd.nm p0.data.toList := ⟨_, rfl⟩
          have CN : Hid (∀ W, Calls Tryz.prog 25 #[.string p0] W fun e w' => e = .returned (.bool NM) ∧ Below W.heap.size W w') := fun W => by rw [hNM]; exact isOf_any p0 W
          have HG : Hid (St.goodC cs j = (NM && (decide (p1.size ≤ 40) && decide (p2.size ≤ 40)))) := by
            show _ = _
            unfold St.goodC
            rw [← HPJ.out, hNM]
          clear hNM HPJ f1 f2
          have i1 : (j : Int) < (m : Int) := by omega
          have i0 : (0 : Int) ≤ (j : Int) := by omega
          have HAL : Hid (∀ w1, Below (wr.alloc (.cells #[.string p0, .string p1, .string p2] 89)).heap.size (wr.alloc (.cells #[.string p0, .string p1, .string p2] 89)) w1 → w1.heap[wr.heap.size]? = some (.cells #[.string p0, .string p1, .string p2] 89 (0, 0)) ∧ Below w.heap.size w w1 ∧ Below W0.heap.size W0 w1) := by
            intro w1 hb1
            have h9 : Below wr.heap.size wr w1 := ((Below.refl wr.heap.size wr).alloc (Nat.le_refl _) _).trans (hb1.mono (by simp))
            exact ⟨(hb1.block _ (by simp)).trans (heap_alloc_new wr _), HWW.out.trans (h9.mono HWW.out.size), HW.out.trans (h9.mono HW.out.size)⟩
          go_wp2_with fail
          refine (CN.out _).mono ?_
          rintro e w1 ⟨rfl, hb1⟩
          have HX : Hid _ := HAL.out w1 hb1
          have v1 : w1.cell? ⟨wr.heap.size, 1, none⟩ = some (.string p1) := (blk_cell HX.out.1 1).trans rfl
          have v2 : w1.cell? ⟨wr.heap.size, 2, none⟩ = some (.string p2) := (blk_cell HX.out.1 2).trans rfl
          clear hb1 CN HAL x0 x1 x2
          cases NM with
          | false =>
            have HR : Hid (V = false) := HV3.out.trans (by rw [St.all_no (p := St.goodC cs) (by rw [← HN.out.2]; exact hlt) (HG.out)]; exact Bool.and_false _)
            clear HV3 HJ HG
            go_wp2
            go_ret
            exact ⟨by rw [HR.out]; rfl, HX.out.2.1⟩
          | true =>
            by_cases hb1 : 40 < p1.size
            · have d1 : decide ((40 : Int) < (p1.size : Int)) = true := decide_eq_true (by omega)
              have HR : Hid (V = false) := HV3.out.trans (by rw [St.all_no (p := St.goodC cs) (by rw [← HN.out.2]; exact hlt) (HG.out.trans (by rw [decide_eq_false (by omega : ¬ p1.size ≤ 40)]; simp))]; exact Bool.and_false _)
              clear HV3 HJ HG
              go_wp2
              go_ret
              exact ⟨by rw [HR.out]; rfl, HX.out.2.1⟩
            have d1 : decide ((40 : Int) < (p1.size : Int)) = false := decide_eq_false (by omega)
            by_cases hb2 : 40 < p2.size
            · have d2 : decide ((40 : Int) < (p2.size : Int)) = true := decide_eq_true (by omega)
              have HR : Hid (V = false) := HV3.out.trans (by rw [St.all_no (p := St.goodC cs) (by rw [← HN.out.2]; exact hlt) (HG.out.trans (by rw [decide_eq_false (by omega : ¬ p2.size ≤ 40)]; simp))]; exact Bool.and_false _)
              clear HV3 HJ HG
              go_wp2
              go_ret
              exact ⟨by rw [HR.out]; rfl, HX.out.2.1⟩
            have d2 : decide ((40 : Int) < (p2.size : Int)) = false := decide_eq_false (by omega)
            have HNX : Hid (∀ q, q < j + 1 → St.goodC cs q = true) := fun q h => by
              by_cases e : q = j
              · subst e; exact HG.out.trans (by rw [decide_eq_true (by omega : p1.size ≤ 40)]; rw [decide_eq_true (by omega : p2.size ≤ 40)]; rfl)
              · exact HJ.out q (by omega)
            clear HG HJ
            go_wp2
            go_roundw
            case rel => exact ⟨j + 1, by go_num, by omega, HX.out.2.2, HNX⟩
            case measure => simp [intOf]; omega
        · have HJN : Hid (∀ q, q < m → St.goodC cs q = true) := fun q hq => HJ.out q (by omega)
          have i1 : ¬ ((j : Int) < (m : Int)) := by omega
          have HR : Hid (V = true) := HV3.out.trans (by rw [St.all_yes (fun q hq => HJ1.out q (by rw [HN.out.1]; exact hq)), St.all_yes (fun q hq => HJN.out q (by rw [HN.out.2]; exact hq))]; rfl)
          clear HV3 HJ HJN HJ1
          go_wp2
          go_ret
          exact ⟨by rw [HR.out]; rfl, HWW.out⟩
end PartOkE
end Go.Proofs.YtehagonaacbmiaaGreat
