/- The program's CutLines. -/
import Derived.Test.YteajkkcelajadaaCuB
import Derived.Test.YteajkkcelajadaaCuP
namespace Go.Proofs.Yteajkkcelajadaa
open Go.RowKit

theorem TsAt.cut {w : World} {b o : Nat} {ts : List ByteArray} (hl : b < w.heap.size) (hc : ∀ i, i < ts.length → w.cell? ⟨b, o + i, none⟩ = some (.string (ts.getD i ByteArray.empty))) (a m : Nat) (h : a + m ≤ ts.length) (c' : Nat) :
    TsAt w (.slice (some ⟨b, o + a, none⟩) m c') ((ts.drop a).take m) := by
  have hlen : ((ts.drop a).take m).length = m := by simp; omega
  refine ⟨_, c', by rw [hlen], fun _ => ⟨b, o + a, rfl, hl, fun i hi => ?_⟩⟩
  rw [hlen] at hi
  rw [Nat.add_assoc, hc (a + i) (by omega)]
  simp [List.getD_eq_getElem?_getD, hi, List.getElem?_drop]

theorem small_cut {ts : List ByteArray} (h : TsSmall ts ts.length) (a m : Nat) : TsSmall ((ts.drop a).take m) ((ts.drop a).take m).length := by
  intro i hi
  have h1 : i < m ∧ i < ts.length - a := by simp at hi; omega
  have h2 := h (a + i) (by omega)
  simp only [List.getD_eq_getElem?_getD, List.getElem?_take, h1.1, List.getElem?_drop, if_true] at h2 ⊢
  exact h2

set_option maxRecDepth 100000 in
set_option maxHeartbeats 3200000 in
theorem imCut_any (b o N c : Nat) (z : Int) (ts : List ByteArray) (w : World) (hb : b < w.heap.size) (hc : ∀ i, i < ts.length → w.cell? ⟨b, o + i, none⟩ = some (.string (ts.getD i ByteArray.empty)))
    (hn : N = ts.length) (hcap : N ≤ c) (hl : N ≤ 1048576) (hcl : c ≤ 9223372036854775807) (hsm : TsSmall ts ts.length) (m : Nat) (hm : (z < 1 ∧ N = m) ∨ (1 ≤ z ∧ z = (m : Int))) :
    Calls Try.prog 7 #[.slice (some ⟨b, o, none⟩) N c, .int .i64 z] w fun e w' => ∃ u vs, e = .returned u ∧ PsRow w.heap.size w' u (Cu.all m ts) vs ∧ Below w.heap.size w w' := by
  have HC : Hid (∀ w', Below w.heap.size w w' → ∀ i, i < ts.length → w'.cell? ⟨b, o + i, none⟩ = some (.string (ts.getD i ByteArray.empty))) := fun w' h i hi => (h.cell hb).trans (hc i hi)
  have HS : Hid (TsSmall ts ts.length) := hsm
  have HN : Hid (N = ts.length) := hn
  clear hc hsm hn
  rcases hm with ⟨hz, rfl⟩ | ⟨hz, rfl⟩
  · have d1 : decide (z < 1) = true := by simpa using hz
    go_enter Try.func7, Try.ntmps7
    go_wp2
    go_loopw [5, 6, 7] (fun pv lv _ wr => ∃ (a lc : Nat) (la : Option Addr) (ps : List (List ByteArray)) (vs : List Value), lv = .slice la (N - a) lc ∧ (a < N → la = some ⟨b, o + a, none⟩) ∧ a ≤ N ∧ N - a ≤ lc ∧ lc ≤ 9223372036854775807 ∧ w.heap.size ≤ wr.heap.size ∧ Hid (Below w.heap.size w wr) ∧ Hid (PsRow w.heap.size wr pv ps vs) ∧ Hid (Cu.At N ts a ps)) (fun _ lv _ _ => match lv with | .slice _ k _ => k | _ => 0)
    case atStart => exact ⟨0, c, _, [], [], rfl, fun _ => rfl, by omega, by omega, hcl, Nat.le_refl _, Below.refl _ _, PsRow.nil _ _, Cu.At.start _ _⟩
    case round =>
      obtain ⟨a, lc, la, ps, vs, rfl, hla, ha, hlc, hlc2, hszr, HW, HP, HA⟩ := hrel
      obtain ⟨L, hL⟩ : ∃ L, L = N - a := ⟨_, rfl⟩
      rw [← hL] at hlc ⊢
      have HL : Hid (L = N - a) := hL
      have hLN : L ≤ 1048576 := by omega
      clear hL
      obtain ⟨pa, pc, rfl⟩ := HP.out.form
      have hfew : ps.length ≤ 1048576 := by have := HA.out.few; omega
      by_cases h0 : 0 < L
      · obtain rfl := hla (by have := HL.out; omega)
        clear hla
        have d2 : decide ((0 : Int) < (L : Int)) = true := by simp; omega
        obtain ⟨y, hy⟩ : ∃ y : Nat, y = min N L := ⟨_, rfl⟩
        have hmin : min ((N : Nat) : Int) (L : Int) = (y : Int) := by omega
        have hyL : y ≤ L := by omega
        have hy0 : 0 < y := by have := HL.out; omega
        have HY : Hid (y = min N L) := hy
        clear hy
        have HT : Hid (∀ W, Below wr.heap.size wr W → TsAt W (.slice (some ⟨b, o + a, none⟩) y lc) ((ts.drop a).take y)) := fun W hb9 => TsAt.cut (Nat.lt_of_lt_of_le hb (Nat.le_trans hszr hb9.size)) (HC.out W (HW.out.trans (hb9.mono hszr))) a y (by have := HN.out; have := HL.out; omega) lc
        have CC : Hid (∀ W, Below wr.heap.size wr W → Calls Try.prog 20 #[.slice (some ⟨b, o + a, none⟩) y lc] W fun e w' => ∃ u, e = .returned u ∧ TxRow W.heap.size w' u ((ts.drop a).take y) ∧ Below W.heap.size W w') := fun W hb9 => copyOfTexts_any _ _ W (HT.out W hb9) (by have := HN.out; simp; omega) (small_cut HS.out a y)
        have HA2 : Hid (Cu.At N ts (a + y) (ps ++ [(ts.drop a).take y])) := HA.out.next (by have := HL.out; omega) (by have := HN.out; have := HL.out; omega) y (by have := HN.out; have := HL.out; have := HY.out; omega)
        have HLT : Hid (((ts.drop a).take y).length = y) := by show _ = _; have := HN.out; have := HL.out; simp; omega
        go_wp2_with fail
        refine (CC.out _ (Below.refl _ _)).mono ?_
        rintro e w1 ⟨u, rfl, r1, b1⟩
        obtain ⟨ua, uc, hu, hub⟩ := r1.form
        rw [HLT.out] at hu
        subst hu
        have HP1 : Hid (PsRow w.heap.size w1 (.slice pa ps.length pc) ps vs) := HP.out.keep b1
        have HAP : Hid (∀ q, (Value.slice ua y uc).ownBlock = some q → (Value.slice pa ps.length pc).ownBlock ≠ some q ∧ ∀ i, i < ps.length → (vs.getD i noV).ownBlock ≠ some q) := by
          intro q hq
          have h1 := (hub q hq).1
          refine ⟨fun e => ?_, fun i hi e => ?_⟩
          · have := (World.ownsRow.lt HP.out.row q e).2; omega
          · have := (World.ownsRow.lt (HP.out.each i hi) q e).2; omega
        have HR1 : Hid (TxRow w.heap.size w1 (.slice ua y uc) ((ts.drop a).take y)) := ownLower r1 hszr
        have HW1 : Hid (Below w.heap.size w w1) := HW.out.trans (b1.mono hszr)
        have hs1 : w.heap.size ≤ w1.heap.size := Nat.le_trans hszr b1.size
        clear r1 b1 hub CC HT HP HW
        go_wp2_with (at_builtin; go_must (refine PsRow.push HP1.out rfl (.tmp 20) (.tmp 25) rfl rfl _ _ _ _ HR1.out HAP.out rfl (by omega) hs1 ?_))
        intro q cap w2 hr2 hs2 hb2
        have HP2 : Hid _ := hr2
        have HW2 : Hid (Below w.heap.size w w2) := HW1.out.trans hb2
        have hs10 : w.heap.size ≤ w2.heap.size := by omega
        clear hr2 hb2 HP1 HR1 HAP
        have HM : Hid (L - y = N - (a + y)) := by show _ = _; have := HL.out; omega
        go_wp2
        refine ⟨⟨a + y, lc - y, _, _, _, by rw [HM.out], ?_, by have := HL.out; omega, by have := HL.out; omega, by omega, hs10, HW2, HP2, HA2⟩, by show L - y < L; omega⟩
        intro hlt
        rw [if_neg (by have := HL.out; omega), Nat.add_assoc]
      · have hz0 : L = 0 := by omega
        subst hz0
        clear hla
        have HE : Hid (ps = Cu.all N ts) := HA.out.over (by have := HN.out; have := HL.out; omega)
        go_wp2
        go_ret
        exact ⟨_, _, rfl, by rw [← HE.out]; exact HP.out, HW.out⟩
  · have d1 : decide ((m : Int) < 1) = false := by simpa using hz
    go_enter Try.func7, Try.ntmps7
    go_wp2
    go_loopw [5, 6, 7] (fun pv lv _ wr => ∃ (a lc : Nat) (la : Option Addr) (ps : List (List ByteArray)) (vs : List Value), lv = .slice la (N - a) lc ∧ (a < N → la = some ⟨b, o + a, none⟩) ∧ a ≤ N ∧ N - a ≤ lc ∧ lc ≤ 9223372036854775807 ∧ w.heap.size ≤ wr.heap.size ∧ Hid (Below w.heap.size w wr) ∧ Hid (PsRow w.heap.size wr pv ps vs) ∧ Hid (Cu.At m ts a ps)) (fun _ lv _ _ => match lv with | .slice _ k _ => k | _ => 0)
    case atStart => exact ⟨0, c, _, [], [], rfl, fun _ => rfl, by omega, by omega, hcl, Nat.le_refl _, Below.refl _ _, PsRow.nil _ _, Cu.At.start _ _⟩
    case round =>
      obtain ⟨a, lc, la, ps, vs, rfl, hla, ha, hlc, hlc2, hszr, HW, HP, HA⟩ := hrel
      obtain ⟨L, hL⟩ : ∃ L, L = N - a := ⟨_, rfl⟩
      rw [← hL] at hlc ⊢
      have HL : Hid (L = N - a) := hL
      have hLN : L ≤ 1048576 := by omega
      clear hL
      obtain ⟨pa, pc, rfl⟩ := HP.out.form
      have hfew : ps.length ≤ 1048576 := by have := HA.out.few; omega
      by_cases h0 : 0 < L
      · obtain rfl := hla (by have := HL.out; omega)
        clear hla
        have d2 : decide ((0 : Int) < (L : Int)) = true := by simp; omega
        obtain ⟨y, hy⟩ : ∃ y : Nat, y = min m L := ⟨_, rfl⟩
        have hmin : min ((m : Nat) : Int) (L : Int) = (y : Int) := by omega
        have hyL : y ≤ L := by omega
        have hy0 : 0 < y := by have := HL.out; omega
        have HY : Hid (y = min m L) := hy
        clear hy
        have HT : Hid (∀ W, Below wr.heap.size wr W → TsAt W (.slice (some ⟨b, o + a, none⟩) y lc) ((ts.drop a).take y)) := fun W hb9 => TsAt.cut (Nat.lt_of_lt_of_le hb (Nat.le_trans hszr hb9.size)) (HC.out W (HW.out.trans (hb9.mono hszr))) a y (by have := HN.out; have := HL.out; omega) lc
        have CC : Hid (∀ W, Below wr.heap.size wr W → Calls Try.prog 20 #[.slice (some ⟨b, o + a, none⟩) y lc] W fun e w' => ∃ u, e = .returned u ∧ TxRow W.heap.size w' u ((ts.drop a).take y) ∧ Below W.heap.size W w') := fun W hb9 => copyOfTexts_any _ _ W (HT.out W hb9) (by have := HN.out; simp; omega) (small_cut HS.out a y)
        have HA2 : Hid (Cu.At m ts (a + y) (ps ++ [(ts.drop a).take y])) := HA.out.next (by have := HL.out; omega) (by have := HN.out; have := HL.out; omega) y (by have := HN.out; have := HL.out; have := HY.out; omega)
        have HLT : Hid (((ts.drop a).take y).length = y) := by show _ = _; have := HN.out; have := HL.out; simp; omega
        go_wp2_with fail
        refine (CC.out _ (Below.refl _ _)).mono ?_
        rintro e w1 ⟨u, rfl, r1, b1⟩
        obtain ⟨ua, uc, hu, hub⟩ := r1.form
        rw [HLT.out] at hu
        subst hu
        have HP1 : Hid (PsRow w.heap.size w1 (.slice pa ps.length pc) ps vs) := HP.out.keep b1
        have HAP : Hid (∀ q, (Value.slice ua y uc).ownBlock = some q → (Value.slice pa ps.length pc).ownBlock ≠ some q ∧ ∀ i, i < ps.length → (vs.getD i noV).ownBlock ≠ some q) := by
          intro q hq
          have h1 := (hub q hq).1
          refine ⟨fun e => ?_, fun i hi e => ?_⟩
          · have := (World.ownsRow.lt HP.out.row q e).2; omega
          · have := (World.ownsRow.lt (HP.out.each i hi) q e).2; omega
        have HR1 : Hid (TxRow w.heap.size w1 (.slice ua y uc) ((ts.drop a).take y)) := ownLower r1 hszr
        have HW1 : Hid (Below w.heap.size w w1) := HW.out.trans (b1.mono hszr)
        have hs1 : w.heap.size ≤ w1.heap.size := Nat.le_trans hszr b1.size
        clear r1 b1 hub CC HT HP HW
        go_wp2_with (at_builtin; go_must (refine PsRow.push HP1.out rfl (.tmp 20) (.tmp 25) rfl rfl _ _ _ _ HR1.out HAP.out rfl (by omega) hs1 ?_))
        intro q cap w2 hr2 hs2 hb2
        have HP2 : Hid _ := hr2
        have HW2 : Hid (Below w.heap.size w w2) := HW1.out.trans hb2
        have hs10 : w.heap.size ≤ w2.heap.size := by omega
        clear hr2 hb2 HP1 HR1 HAP
        have HM : Hid (L - y = N - (a + y)) := by show _ = _; have := HL.out; omega
        go_wp2
        refine ⟨⟨a + y, lc - y, _, _, _, by rw [HM.out], ?_, by have := HL.out; omega, by have := HL.out; omega, by omega, hs10, HW2, HP2, HA2⟩, by show L - y < L; omega⟩
        intro hlt
        rw [if_neg (by have := HL.out; omega), Nat.add_assoc]
      · have hz0 : L = 0 := by omega
        subst hz0
        clear hla
        have HE : Hid (ps = Cu.all m ts) := HA.out.over (by have := HN.out; have := HL.out; omega)
        go_wp2
        go_ret
        exact ⟨_, _, rfl, by rw [← HE.out]; exact HP.out, HW.out⟩
end Go.Proofs.Yteajkkcelajadaa
