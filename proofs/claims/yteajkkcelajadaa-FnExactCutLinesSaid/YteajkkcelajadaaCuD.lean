/- The specification's CutLines. -/
import Derived.Test.YteajkkcelajadaaCuC
import Derived.Deep.Upon
import Derived.Deep.AppendSrc
namespace Go.Proofs.Yteajkkcelajadaa
open Go.RowKit

theorem tsv_one (xs : List ByteArray) : ∀ u ∈ xs.map tsv, u.oneCell' = true := by
  intro u hu
  obtain ⟨x, _, rfl⟩ := List.mem_map.1 hu
  rfl
/-- A whole row, behind one of nothing. -/
theorem TxRow.pushAll {ops : Array Oper} {rest : List Oper} {o : Oper} {a : Act} {Q : Exit → Act → World → Prop} {B : Nat} {W : World} {g : Nat} {xs : List ByteArray} (hgd : o.guard = Option.none) (s y : Operand)
    (ho : o.op = .call { callee := .builtin .append, args := #[s, y], argTypes := #[24, 24] })
    (hs : a.eval s = .slice (some ⟨g, 0, Option.none⟩) 0 0) (hg : W.heap[g]? = some (.cells #[] 9 (0, 0))) (hB : B ≤ g) (b of m c : Nat) (hx : a.eval y = .slice (some ⟨b, of, Option.none⟩) m c) (hm : m = xs.length)
    (hc : ∀ i, i < xs.length → W.cell? ⟨b, of + i, Option.none⟩ = some (.string (xs.getD i ByteArray.empty))) (hl : xs.length ≤ 1048576) (h0 : 0 < xs.length)
    (h : ∀ q cap w', TxRow B w' (.slice (some ⟨q, 0, Option.none⟩) m cap) xs → W.grownBy w' (some g) → (g = q ∨ q = W.heap.size) → wpList Try.prog ops Q rest (a.put o.dst (.slice (some ⟨q, 0, Option.none⟩) m cap)) w') :
    wpList Try.prog ops Q (o :: rest) a W := by
  subst hm
  obtain ⟨i0, hi, hz0, hz1, hz2⟩ := info_parts Try.infoTs
  have hlt := blk_lt hg
  have hown : TxRow B W (.slice (some ⟨g, 0, Option.none⟩) 0 0) [] := ⟨rfl, .inr ⟨g, 0, #[], rfl, hB, hg, Nat.le_refl _, by decide, rfl, rfl⟩⟩
  have hnews : ∀ j u, (xs.map tsv)[j]? = some u → W.cell? ((⟨b, of, Option.none⟩ : Addr).add j) = some u := by
    intro j u hu
    have hj : j < xs.length := by simpa using (List.getElem?_eq_some_iff.1 hu).1
    have hadd : (⟨b, of, Option.none⟩ : Addr).add j = ⟨b, of + j, Option.none⟩ := by unfold Addr.add; split <;> simp_all
    rw [hadd, hc j hj]
    simp [hj, tsv] at hu ⊢
    exact hu
  refine wpList_append_lies _ hgd s y 24 ho B 9 i0 (.string ByteArray.empty) 1 16 Try.underlying24 hi hz0 hz1 hz2 rfl (by decide) (.slice (some ⟨g, 0, Option.none⟩) 0 0) 0 [] hs hown ⟨b, of, Option.none⟩ xs.length c (xs.map tsv) hx (by simp)
      hnews (tsv_one xs) (by omega) (by unfold maxLen; omega) (by omega) (by omega) W.heap.size rfl ?_
  intro q cap w' h2 h3 h4 h5
  rw [Nat.zero_add] at h2 ⊢
  refine h q cap w' ?_ h3 (by simpa [Value.ownBlock] using h4)
  unfold TxRow
  simpa using h2

set_option maxRecDepth 100000 in
set_option maxHeartbeats 3200000 in
theorem spCut_any (b o N c : Nat) (z : Int) (ts : List ByteArray) (w : World) (hb : b < w.heap.size) (hc : ∀ i, i < ts.length → w.cell? ⟨b, o + i, none⟩ = some (.string (ts.getD i ByteArray.empty)))
    (hn : N = ts.length) (hcap : N ≤ c) (hl : N ≤ 1048576) (m : Nat) (hm : (z < 1 ∧ N = m) ∨ (1 ≤ z ∧ z = (m : Int))) :
    Calls Try.prog 10 #[.slice (some ⟨b, o, none⟩) N c, .int .i64 z] w fun e w' => ∃ u vs, e = .returned u ∧ PsRow w.heap.size w' u (Cu.all m ts) vs ∧ Below w.heap.size w w' := by
  have HC : Hid (∀ w', Below w.heap.size w w' → ∀ i, i < ts.length → w'.cell? ⟨b, o + i, none⟩ = some (.string (ts.getD i ByteArray.empty))) := fun w' h i hi => (h.cell hb).trans (hc i hi)
  have HN : Hid (N = ts.length) := hn
  clear hc hn
  rcases hm with ⟨hz, rfl⟩ | ⟨hz, rfl⟩
  · have d1 : decide (z < 1) = true := by simpa using hz
    go_enter Try.func10, Try.ntmps10
    go_wp2
    go_loopw [5, 6, 7] (fun pv av _ wr => ∃ (a : Nat) (ps : List (List ByteArray)) (vs : List Value), av = .int .i64 (a : Int) ∧ a ≤ N ∧ w.heap.size ≤ wr.heap.size ∧ Hid (Below w.heap.size w wr) ∧ Hid (PsRow w.heap.size wr pv ps vs) ∧ Hid (Cu.At N ts a ps)) (fun _ av _ _ => N - (intOf av).toNat)
    case atStart => exact ⟨0, [], [], rfl, by omega, by simp, (Below.refl _ _).alloc (Nat.le_refl _) _, PsRow.none _ _ (Nat.le_refl _), Cu.At.start _ _⟩
    case round =>
      obtain ⟨a, ps, vs, rfl, ha, hszr, HW, HP, HA⟩ := hrel
      obtain ⟨pa, pc, rfl⟩ := HP.out.form
      have hfew : ps.length ≤ 1048576 := by have := HA.out.few; omega
      by_cases h0 : a < N
      · have d2 : decide ((a : Int) < (N : Int)) = true := by simp; omega
        by_cases hq : N < N - a
        · exfalso; omega
        · have d3 : decide (((N : Nat) : Int) < (N : Int) - (a : Int)) = false := by simp; omega
          obtain ⟨y, hy⟩ : ∃ y : Nat, y = N - a := ⟨_, rfl⟩
          have HCW : Hid (∀ W, Below wr.heap.size wr W → ∀ i, i < ((ts.drop a).take y).length → W.cell? ⟨b, o + a + i, none⟩ = some (.string (((ts.drop a).take y).getD i ByteArray.empty))) := by
            intro W hb9 i hi
            have hi2 : i < y ∧ i < ts.length - a := by simp at hi; omega
            rw [Nat.add_assoc, HC.out W (HW.out.trans (hb9.mono hszr)) (a + i) (by omega)]
            simp [List.getD_eq_getElem?_getD, hi2.1, List.getElem?_drop]
          have HLT : Hid (((ts.drop a).take y).length = y) := by show _ = _; have := HN.out; simp; omega
          have HA2 : Hid (Cu.At N ts (a + y) (ps ++ [(ts.drop a).take y])) := HA.out.next (by omega) (by have := HN.out; omega) y (by have := HN.out; omega)
          have HY : Hid _ := hy
          have hy0 : 0 < y := by omega
          have hyl : y ≤ 1048576 := by omega
          clear hy
          have HA0 : Hid (Below wr.heap.size wr (wr.alloc (.cells #[] 9))) := (Below.refl _ _).alloc (Nat.le_refl _) _
          have HG0 : Hid ((wr.alloc (.cells #[] 9)).heap[wr.heap.size]? = some (.cells #[] 9 (0, 0))) := heap_alloc_new wr _
          have i9 : (a : Int) ≤ (N : Int) := by omega
          go_wp2_with (at_builtin; go_must (refine TxRow.pushAll (B := wr.heap.size) (xs := (ts.drop a).take y) rfl (.tmp 29) (.tmp 33) rfl rfl HG0.out (Nat.le_refl _) _ _ _ _ rfl (by rw [HLT.out]; exact HY.out.symm) (HCW.out _ HA0.out) (by rw [HLT.out]; omega) (by rw [HLT.out]; omega) ?_))
          intro q1 cap1 w1 r1 g1 e1
          have hb1 : Below wr.heap.size wr w1 := by
            refine HA0.out.grown g1 (by simp) (fun k hk => ?_)
            obtain rfl : wr.heap.size = k := by simpa using hk
            exact Nat.le_refl _
          have HP1 : Hid (PsRow w.heap.size w1 (.slice pa ps.length pc) ps vs) := HP.out.keep hb1
          have hq1 : wr.heap.size ≤ q1 := by
            rcases e1 with e | e
            · omega
            · rw [e]; simp
          have HAP : Hid (∀ q, (Value.slice (some ⟨q1, 0, none⟩) (N - a) cap1).ownBlock = some q → (Value.slice pa ps.length pc).ownBlock ≠ some q ∧ ∀ i, i < ps.length → (vs.getD i noV).ownBlock ≠ some q) := by
            intro q hq
            obtain rfl : q1 = q := by simpa [Value.ownBlock] using hq
            refine ⟨fun e => ?_, fun i hi e => ?_⟩
            · have := (World.ownsRow.lt HP.out.row q1 e).2; omega
            · have := (World.ownsRow.lt (HP.out.each i hi) q1 e).2; omega
          have HR1 : Hid (TxRow w.heap.size w1 (.slice (some ⟨q1, 0, none⟩) (N - a) cap1) ((ts.drop a).take y)) := ownLower r1 hszr
          have HW1 : Hid (Below w.heap.size w w1) := HW.out.trans (hb1.mono hszr)
          have hs1 : w.heap.size ≤ w1.heap.size := Nat.le_trans hszr hb1.size
          clear r1 g1 e1 hb1 HCW HP HW HA0 HG0
          go_wp2_with (at_builtin; go_must (refine PsRow.push HP1.out rfl (.tmp 28) (.tmp 35) rfl rfl _ _ _ _ HR1.out HAP.out rfl (by omega) hs1 ?_))
          intro q cap w2 hr2 hs2 hb2
          have HP2 : Hid _ := hr2
          have HW2 : Hid (Below w.heap.size w w2) := HW1.out.trans hb2
          have hs10 : w.heap.size ≤ w2.heap.size := by omega
          clear hr2 hb2 HP1 HR1 HAP
          go_wp2
          go_roundw
          case rel => exact ⟨a + y, _, _, by rw [show y = N - a from HY.out]; congr 1; omega, by have := HY.out; omega, hs10, HW2, HP2, HA2⟩
          case measure => simp [intOf]; omega
      · have HE : Hid (ps = Cu.all N ts) := HA.out.over (by have := HN.out; omega)
        go_wp2
        go_ret
        exact ⟨_, _, rfl, by rw [← HE.out]; exact HP.out, HW.out⟩
  · have d1 : decide ((m : Int) < 1) = false := by simpa using hz
    go_enter Try.func10, Try.ntmps10
    go_wp2
    go_loopw [5, 6, 7] (fun pv av _ wr => ∃ (a : Nat) (ps : List (List ByteArray)) (vs : List Value), av = .int .i64 (a : Int) ∧ a ≤ N ∧ w.heap.size ≤ wr.heap.size ∧ Hid (Below w.heap.size w wr) ∧ Hid (PsRow w.heap.size wr pv ps vs) ∧ Hid (Cu.At m ts a ps)) (fun _ av _ _ => N - (intOf av).toNat)
    case atStart => exact ⟨0, [], [], rfl, by omega, by simp, (Below.refl _ _).alloc (Nat.le_refl _) _, PsRow.none _ _ (Nat.le_refl _), Cu.At.start _ _⟩
    case round =>
      obtain ⟨a, ps, vs, rfl, ha, hszr, HW, HP, HA⟩ := hrel
      obtain ⟨pa, pc, rfl⟩ := HP.out.form
      have hfew : ps.length ≤ 1048576 := by have := HA.out.few; omega
      by_cases h0 : a < N
      · have d2 : decide ((a : Int) < (N : Int)) = true := by simp; omega
        by_cases hq : m < N - a
        · have d3 : decide (((m : Nat) : Int) < (N : Int) - (a : Int)) = true := by simp; omega
          obtain ⟨y, hy⟩ : ∃ y : Nat, y = m := ⟨_, rfl⟩
          have HCW : Hid (∀ W, Below wr.heap.size wr W → ∀ i, i < ((ts.drop a).take y).length → W.cell? ⟨b, o + a + i, none⟩ = some (.string (((ts.drop a).take y).getD i ByteArray.empty))) := by
            intro W hb9 i hi
            have hi2 : i < y ∧ i < ts.length - a := by simp at hi; omega
            rw [Nat.add_assoc, HC.out W (HW.out.trans (hb9.mono hszr)) (a + i) (by omega)]
            simp [List.getD_eq_getElem?_getD, hi2.1, List.getElem?_drop]
          have HLT : Hid (((ts.drop a).take y).length = y) := by show _ = _; have := HN.out; simp; omega
          have HA2 : Hid (Cu.At m ts (a + y) (ps ++ [(ts.drop a).take y])) := HA.out.next (by omega) (by have := HN.out; omega) y (by have := HN.out; omega)
          have HY : Hid _ := hy
          have hy0 : 0 < y := by omega
          have hyl : y ≤ 1048576 := by omega
          clear hy
          have HA0 : Hid (Below wr.heap.size wr (wr.alloc (.cells #[] 9))) := (Below.refl _ _).alloc (Nat.le_refl _) _
          have HG0 : Hid ((wr.alloc (.cells #[] 9)).heap[wr.heap.size]? = some (.cells #[] 9 (0, 0))) := heap_alloc_new wr _
          have i9 : (a : Int) + (m : Int) ≤ (N : Int) := by omega
          go_wp2_with (at_builtin; go_must (refine TxRow.pushAll (B := wr.heap.size) (xs := (ts.drop a).take y) rfl (.tmp 29) (.tmp 33) rfl rfl HG0.out (Nat.le_refl _) _ _ m _ (congrArg (fun k => Value.slice _ k _) (show a + m - a = m by omega)) (by rw [HLT.out]; exact HY.out.symm) (HCW.out _ HA0.out) (by rw [HLT.out]; omega) (by rw [HLT.out]; omega) ?_))
          intro q1 cap1 w1 r1 g1 e1
          have hb1 : Below wr.heap.size wr w1 := by
            refine HA0.out.grown g1 (by simp) (fun k hk => ?_)
            obtain rfl : wr.heap.size = k := by simpa using hk
            exact Nat.le_refl _
          have HP1 : Hid (PsRow w.heap.size w1 (.slice pa ps.length pc) ps vs) := HP.out.keep hb1
          have hq1 : wr.heap.size ≤ q1 := by
            rcases e1 with e | e
            · omega
            · rw [e]; simp
          have HAP : Hid (∀ q, (Value.slice (some ⟨q1, 0, none⟩) m cap1).ownBlock = some q → (Value.slice pa ps.length pc).ownBlock ≠ some q ∧ ∀ i, i < ps.length → (vs.getD i noV).ownBlock ≠ some q) := by
            intro q hq
            obtain rfl : q1 = q := by simpa [Value.ownBlock] using hq
            refine ⟨fun e => ?_, fun i hi e => ?_⟩
            · have := (World.ownsRow.lt HP.out.row q1 e).2; omega
            · have := (World.ownsRow.lt (HP.out.each i hi) q1 e).2; omega
          have HR1 : Hid (TxRow w.heap.size w1 (.slice (some ⟨q1, 0, none⟩) m cap1) ((ts.drop a).take y)) := ownLower r1 hszr
          have HW1 : Hid (Below w.heap.size w w1) := HW.out.trans (hb1.mono hszr)
          have hs1 : w.heap.size ≤ w1.heap.size := Nat.le_trans hszr hb1.size
          clear r1 g1 e1 hb1 HCW HP HW HA0 HG0
          go_wp2_with (at_builtin; go_must (refine PsRow.push HP1.out rfl (.tmp 28) (.tmp 35) rfl rfl _ _ _ _ HR1.out HAP.out rfl (by omega) hs1 ?_))
          intro q cap w2 hr2 hs2 hb2
          have HP2 : Hid _ := hr2
          have HW2 : Hid (Below w.heap.size w w2) := HW1.out.trans hb2
          have hs10 : w.heap.size ≤ w2.heap.size := by omega
          clear hr2 hb2 HP1 HR1 HAP
          go_wp2
          go_roundw
          case rel => exact ⟨a + y, _, _, by rw [show y = m from HY.out]; go_num, by have := HY.out; omega, hs10, HW2, HP2, HA2⟩
          case measure => simp [intOf]; omega
        · have d3 : decide (((m : Nat) : Int) < (N : Int) - (a : Int)) = false := by simp; omega
          obtain ⟨y, hy⟩ : ∃ y : Nat, y = N - a := ⟨_, rfl⟩
          have HCW : Hid (∀ W, Below wr.heap.size wr W → ∀ i, i < ((ts.drop a).take y).length → W.cell? ⟨b, o + a + i, none⟩ = some (.string (((ts.drop a).take y).getD i ByteArray.empty))) := by
            intro W hb9 i hi
            have hi2 : i < y ∧ i < ts.length - a := by simp at hi; omega
            rw [Nat.add_assoc, HC.out W (HW.out.trans (hb9.mono hszr)) (a + i) (by omega)]
            simp [List.getD_eq_getElem?_getD, hi2.1, List.getElem?_drop]
          have HLT : Hid (((ts.drop a).take y).length = y) := by show _ = _; have := HN.out; simp; omega
          have HA2 : Hid (Cu.At m ts (a + y) (ps ++ [(ts.drop a).take y])) := HA.out.next (by omega) (by have := HN.out; omega) y (by have := HN.out; omega)
          have HY : Hid _ := hy
          have hy0 : 0 < y := by omega
          have hyl : y ≤ 1048576 := by omega
          clear hy
          have HA0 : Hid (Below wr.heap.size wr (wr.alloc (.cells #[] 9))) := (Below.refl _ _).alloc (Nat.le_refl _) _
          have HG0 : Hid ((wr.alloc (.cells #[] 9)).heap[wr.heap.size]? = some (.cells #[] 9 (0, 0))) := heap_alloc_new wr _
          have i9 : (a : Int) ≤ (N : Int) := by omega
          go_wp2_with (at_builtin; go_must (refine TxRow.pushAll (B := wr.heap.size) (xs := (ts.drop a).take y) rfl (.tmp 29) (.tmp 33) rfl rfl HG0.out (Nat.le_refl _) _ _ _ _ rfl (by rw [HLT.out]; exact HY.out.symm) (HCW.out _ HA0.out) (by rw [HLT.out]; omega) (by rw [HLT.out]; omega) ?_))
          intro q1 cap1 w1 r1 g1 e1
          have hb1 : Below wr.heap.size wr w1 := by
            refine HA0.out.grown g1 (by simp) (fun k hk => ?_)
            obtain rfl : wr.heap.size = k := by simpa using hk
            exact Nat.le_refl _
          have HP1 : Hid (PsRow w.heap.size w1 (.slice pa ps.length pc) ps vs) := HP.out.keep hb1
          have hq1 : wr.heap.size ≤ q1 := by
            rcases e1 with e | e
            · omega
            · rw [e]; simp
          have HAP : Hid (∀ q, (Value.slice (some ⟨q1, 0, none⟩) (N - a) cap1).ownBlock = some q → (Value.slice pa ps.length pc).ownBlock ≠ some q ∧ ∀ i, i < ps.length → (vs.getD i noV).ownBlock ≠ some q) := by
            intro q hq
            obtain rfl : q1 = q := by simpa [Value.ownBlock] using hq
            refine ⟨fun e => ?_, fun i hi e => ?_⟩
            · have := (World.ownsRow.lt HP.out.row q1 e).2; omega
            · have := (World.ownsRow.lt (HP.out.each i hi) q1 e).2; omega
          have HR1 : Hid (TxRow w.heap.size w1 (.slice (some ⟨q1, 0, none⟩) (N - a) cap1) ((ts.drop a).take y)) := ownLower r1 hszr
          have HW1 : Hid (Below w.heap.size w w1) := HW.out.trans (hb1.mono hszr)
          have hs1 : w.heap.size ≤ w1.heap.size := Nat.le_trans hszr hb1.size
          clear r1 g1 e1 hb1 HCW HP HW HA0 HG0
          go_wp2_with (at_builtin; go_must (refine PsRow.push HP1.out rfl (.tmp 28) (.tmp 35) rfl rfl _ _ _ _ HR1.out HAP.out rfl (by omega) hs1 ?_))
          intro q cap w2 hr2 hs2 hb2
          have HP2 : Hid _ := hr2
          have HW2 : Hid (Below w.heap.size w w2) := HW1.out.trans hb2
          have hs10 : w.heap.size ≤ w2.heap.size := by omega
          clear hr2 hb2 HP1 HR1 HAP
          go_wp2
          go_roundw
          case rel => exact ⟨a + y, _, _, by rw [show y = N - a from HY.out]; congr 1; omega, by have := HY.out; omega, hs10, HW2, HP2, HA2⟩
          case measure => simp [intOf]; omega
      · have HE : Hid (ps = Cu.all m ts) := HA.out.over (by have := HN.out; omega)
        go_wp2
        go_ret
        exact ⟨_, _, rfl, by rw [← HE.out]; exact HP.out, HW.out⟩
end Go.Proofs.Yteajkkcelajadaa
