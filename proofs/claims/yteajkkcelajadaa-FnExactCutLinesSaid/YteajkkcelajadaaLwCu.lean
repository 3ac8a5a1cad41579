/- At every row of lines and every number, CutLines of the program and of the specification answer the same parts, in memory of their own. -/
import Derived.Test.YteajkkcelajadaaCuD
import Derived.Test.YteajkkcelajadaaCuE
namespace Go.Proofs.Yteajkkcelajadaa
open Go.RowKit

theorem TsBlk.cells {w : World} {q : Nat} {ts : List ByteArray} (h : TsBlk w q ts) : ∀ i, i < ts.length → w.cell? ⟨q, 0 + i, none⟩ = some (.string (ts.getD i ByteArray.empty)) := by
  intro i hi
  rw [blk_cell h, Nat.zero_add]
  simp [hi, tsv]
theorem TsBlk.wt {w : World} {q : Nat} {ts : List ByteArray} (h : TsBlk w q ts) (k : Nat) : WTv (fun r => r = q) w (.slice (some ⟨q, 0, none⟩) ts.length ts.length) ts.length k 0 :=
  ⟨_, _, rfl, fun _ => ⟨q, rfl, rfl, _, h, by simp, fun i hi => by omega⟩⟩

set_option maxRecDepth 100000 in
set_option maxHeartbeats 4000000 in
theorem lwCut_any (v : Value) (z : Int) (ts : List ByteArray) (w : World) (h : TsAt w v ts) (hk : ts.length ≤ maxLen) (hs : ∀ i, i < ts.length → (ts.getD i ByteArray.empty).size ≤ maxLen) :
    Calls Try.prog 4 #[v, .int .i64 z] w fun e w' => e = .returned (.bool true) ∧ Below w.heap.size w w' := by
  have HT : Hid (∀ W, Below w.heap.size w W → TsAt W v ts) := fun W hb => h.keep hb
  have CS : Hid (Calls Try.prog 9 #[v, .int .i64 1048576] w fun e w' => Below w.heap.size w w' ∧ ∃ r : Int, e = .returned (.int .i64 r) ∧ (r = -1 ∨ 0 ≤ r ∧ r ≤ 1048576 ∧ ts.length ≤ 1048576 ∧ TsSmall ts ts.length)) := szTs_any v ts 1048576 w h (by decide) (by decide) hk hs
  clear h hk hs
  go_enter Try.func4, Try.ntmps4
  go_wp2_with fail
  refine CS.out.mono ?_
  rintro e w1 ⟨b1, r, rfl, hr⟩
  rcases hr with rfl | ⟨r0, r1, hl, hsm⟩
  · clear CS
    go_wp2
    go_ret
    exact ⟨rfl, b1⟩
  have HB1 : Hid (Below w.heap.size w w1) := b1
  have HSM : Hid (TsSmall ts ts.length) := hsm
  have HFW : Hid (∀ m, (Cu.all m ts).length ≤ ts.length ∧ ((Cu.all m ts).map List.length).sum ≤ ts.length) := fun m => ⟨Cu.all_few m ts, Cu.all_sum m ts⟩
  clear b1 CS hsm
  obtain ⟨N, hN⟩ : ∃ N, N = ts.length := ⟨_, rfl⟩
  have HN : Hid (N = ts.length) := hN
  obtain ⟨m, HM⟩ : ∃ m : Nat, Hid ((z < 1 ∧ N = m) ∨ (1 ≤ z ∧ z = (m : Int))) := by
    by_cases hz : z < 1
    · exact ⟨N, .inl ⟨hz, rfl⟩⟩
    · exact ⟨z.toNat, .inr ⟨by omega, by omega⟩⟩
  have CT : Hid (∀ W, Below w.heap.size w W → Calls Try.prog 11 #[v] W fun e w' => e = .returned (.slice (some ⟨W.heap.size, 0, none⟩) N N) ∧ Below W.heap.size W w' ∧ TsBlk w' W.heap.size ts) := by
    intro W hb
    have := toTs_any v ts W (HT.out W hb) hl
    rwa [← hN] at this
  rw [← hN] at hl
  have CP : Hid (∀ q W, TsBlk W q ts → Calls Try.prog 10 #[.slice (some ⟨q, 0, none⟩) N N, .int .i64 z] W fun e w' => ∃ u vs, e = .returned u ∧ PsRow W.heap.size w' u (Cu.all m ts) vs ∧ Below W.heap.size W w') :=
    fun q W hq => spCut_any q 0 N N z ts W (blk_lt hq) hq.cells HN.out (Nat.le_refl _) hl m HM.out
  have CI : Hid (∀ q W, TsBlk W q ts → Calls Try.prog 7 #[.slice (some ⟨q, 0, none⟩) N N, .int .i64 z] W fun e w' => ∃ u vs, e = .returned u ∧ PsRow W.heap.size w' u (Cu.all m ts) vs ∧ Below W.heap.size W w') :=
    fun q W hq => imCut_any q 0 N N z ts W (blk_lt hq) hq.cells HN.out (Nat.le_refl _) hl (by omega) HSM.out m HM.out
  have CB : Hid (∀ q W, TsBlk W q ts → WTv (fun r => r = q) W (.slice (some ⟨q, 0, none⟩) N N) N 1 0) := fun q W hq => by rw [HN.out]; exact hq.wt 1
  have CA : Hid (∀ q W, TsBlk W q ts → TsAt W (.slice (some ⟨q, 0, none⟩) N N) ts) := fun q W hq => by rw [HN.out]; exact hq.at _
  obtain ⟨hf1, hf2⟩ := HFW.out m
  rw [← hN] at hf1 hf2
  have CE : Hid (∀ v1 v2 W, SsAt W v1 (Cu.all m ts) → SsAt W v2 (Cu.all m ts) → Calls Try.prog 12 #[v1, v2] W fun e w' => e = .returned (.bool true) ∧ Below W.heap.size W w') :=
    fun v1 v2 W h1 h2 => eqSs_any v1 v2 _ W h1 h2 (by omega) (fun i hi => by
      have := getD_le_sum ((Cu.all m ts).map List.length) i
      have e : ((Cu.all m ts).map List.length).getD i 0 = ((Cu.all m ts).getD i []).length := by simp [hi]
      omega)
  have CQ : Hid (∀ v1 v2 W, TsAt W v1 ts → TsAt W v2 ts → Calls Try.prog 13 #[v1, v2] W fun e w' => e = .returned (.bool true) ∧ Below W.heap.size W w') := fun v1 v2 W h1 h2 => eqTs_any v1 v2 ts W h1 h2 (by rw [← HN.out]; exact hl)
  clear hN HM HFW HT HSM
  generalize Cu.all m ts = ps at *
  have dr : decide (r < 0) = false := by simp; omega
  go_wp2_with fail
  refine (CT.out _ HB1.out).mono ?_
  rintro e w2 ⟨rfl, b2, t2⟩
  have HT2 : Hid (TsBlk w2 w1.heap.size ts) := t2
  have HB2 : Hid (Below w1.heap.size w1 w2) := b2
  clear b2 t2
  go_wp2_with fail
  refine (CP.out _ _ HT2.out).mono ?_
  rintro e w3 ⟨u3, vs3, rfl, p3, b3⟩
  obtain ⟨ua3, uc3, rfl⟩ := p3.form
  have HP3 : Hid (PsRow w2.heap.size w3 _ ps vs3) := p3
  have HB3 : Hid (Below w2.heap.size w2 w3) := b3
  have K3 : Hid (Below w.heap.size w w3) := (HB1.out.trans (HB2.out.mono HB1.out.size)).trans (b3.mono (Nat.le_trans HB1.out.size HB2.out.size))
  clear b3 p3
  go_wp2_with fail
  refine (CT.out _ K3.out).mono ?_
  rintro e w4 ⟨rfl, b4, t4⟩
  have HT4 : Hid (TsBlk w4 w3.heap.size ts) := t4
  have HB4 : Hid (Below w3.heap.size w3 w4) := b4
  clear b4 t4
  go_wp2_with fail
  refine (CI.out _ _ HT4.out).mono ?_
  rintro e w5 ⟨u5, vs5, rfl, p5, b5⟩
  have hmk := p5.marks
  obtain ⟨ua5, uc5, rfl⟩ := p5.form
  have HP5 : Hid (PsRow w4.heap.size w5 _ ps vs5) := p5
  have HB5 : Hid (Below w4.heap.size w4 w5) := b5
  have K5 : Hid (Below w3.heap.size w3 w5) := HB4.out.trans (b5.mono HB4.out.size)
  clear b5 p5 hmk
  go_wp2_with fail
  refine (CE.out _ _ _ HP5.out.at (HP3.out.keep K5.out).at).mono ?_
  rintro e w6 ⟨rfl, b6⟩
  have K6 : Hid (Below w3.heap.size w3 w6) := K5.out.trans (b6.mono K5.out.size)
  have HB6 : Hid (Below w5.heap.size w5 w6) := b6
  clear b6
  go_wp2_with fail
  refine (CT.out _ (K3.out.trans (K6.out.mono K3.out.size))).mono ?_
  rintro e w7 ⟨rfl, b7, t7⟩
  have HT7 : Hid (TsBlk w7 w6.heap.size ts) := t7
  have HB7 : Hid (Below w5.heap.size w5 w7) := HB6.out.trans (b7.mono HB6.out.size)
  have K7 : Hid (Below w3.heap.size w3 w7) := K6.out.trans (b7.mono K6.out.size)
  clear b7 t7 HB6
  have HT47 : Hid (TsBlk w7 w3.heap.size ts) := HT4.out.keep (HB5.out.trans (HB7.out.mono HB5.out.size))
  go_wp2_with fail
  refine (CQ.out _ _ _ (CA.out _ _ HT47.out) (CA.out _ _ HT7.out)).mono ?_
  rintro e w8 ⟨rfl, b8⟩
  have HT48 : Hid (TsBlk w8 w3.heap.size ts) := HT47.out.keep b8
  have HB8 : Hid (Below w5.heap.size w5 w8) := HB7.out.trans (b8.mono HB7.out.size)
  have K8 : Hid (Below w3.heap.size w3 w8) := K7.out.trans (b8.mono K7.out.size)
  clear b8 HT47 HB7
  go_wp2_with fail
  refine (markTxs_any (fun r => r = w3.heap.size) N 1 _ w8 (CB.out _ _ HT48.out) (by omega) (by decide) (by decide)).mono ?_
  rintro e w9 ⟨rfl, -, f9⟩
  have K9 : Hid (Below w3.heap.size w3 w9) := K8.out.trans (f9.below (B := w3.heap.size) (K8.out.size) (fun q hq => by omega))
  have HP9 : Hid (PsRow w4.heap.size w9 (.slice ua5 ps.length uc5) ps vs5) := HP5.out.keepIf (fun q h1 h2 => by
    have hs5 := HB8.out.size
    have h34 : w3.heap.size < w4.heap.size := blk_lt HT4.out
    rw [f9.2.2 q (by omega) (by omega), HB8.out.block q h2])
  have hs9 : w5.heap.size ≤ w9.heap.size := Nat.le_trans HB8.out.size f9.2.1
  clear f9
  have dk : decide ((1 : Int) + (N : Int) < 0) = false := by simp; omega
  obtain ⟨T, hT⟩ : ∃ T, T = (ps.map List.length).sum := ⟨_, rfl⟩
  have CM : Hid (∀ W, PsRow w4.heap.size W (.slice ua5 ps.length uc5) ps vs5 → Calls Try.prog 15 #[.slice ua5 ps.length uc5, .int .i64 1] W fun e w' => e = .returned (.int .i64 ((1 + T : Nat) : Int)) ∧ Mkd w' (.slice ua5 ps.length uc5) ps vs5 ∧ FS (fun q => w4.heap.size ≤ q) W w') := by
    intro W hW
    rw [hT]
    exact markPs_any _ _ ps vs5 W hW (by omega) (by omega)
  have CH : Hid (∀ W, Mkd W (.slice ua5 ps.length uc5) ps vs5 → Calls Try.prog 16 #[.slice ua5 ps.length uc5, .int .i64 1] W fun e w' => e = .returned (.int .i64 ((1 + T : Nat) : Int)) ∧ Below W.heap.size W w') := by
    intro W hW
    rw [hT]
    exact heldPs_any _ ps vs5 W hW (by omega) (by omega)
  have hTl : T ≤ 1048576 := by omega
  clear hT hf2
  go_wp2_with fail
  refine (CE.out _ _ _ HP9.out.at (HP3.out.keep K9.out).at).mono ?_
  rintro e w10 ⟨rfl, b10⟩
  have HP10 : Hid (PsRow w4.heap.size w10 (.slice ua5 ps.length uc5) ps vs5) := HP9.out.keep b10
  have K10 : Hid (Below w3.heap.size w3 w10) := K9.out.trans (b10.mono K9.out.size)
  have hs10 : w4.heap.size ≤ w10.heap.size := Nat.le_trans (Nat.le_trans HB5.out.size hs9) b10.size
  clear b10 HP9
  go_wp2_with fail
  refine (CM.out _ HP10.out).mono ?_
  rintro e w11 ⟨rfl, m11, f11⟩
  have HM11 : Hid (Mkd w11 (.slice ua5 ps.length uc5) ps vs5) := m11
  have K11 : Hid (Below w3.heap.size w3 w11) := K10.out.trans (f11.below K10.out.size (fun q hq => Nat.le_trans HB4.out.size hq))
  clear m11 f11 CM HP10
  go_wp2_with fail
  refine (CH.out _ HM11.out).mono ?_
  rintro e w12 ⟨rfl, b12⟩
  have HM12 : Hid (Mkd w12 (.slice ua5 ps.length uc5) ps vs5) := HM11.out.up b12
  have K12 : Hid (Below w3.heap.size w3 w12) := K11.out.trans (b12.mono K11.out.size)
  clear b12
  have dq : decide ((1 : Int) + (T : Int) < 0) = false := by simp; omega
  go_wp2_with fail
  refine (CT.out _ (K3.out.trans (K12.out.mono K3.out.size))).mono ?_
  rintro e w13 ⟨rfl, b13, t13⟩
  have HT13 : Hid (TsBlk w13 w12.heap.size ts) := t13
  have HM13 : Hid (Mkd w13 (.slice ua5 ps.length uc5) ps vs5) := HM12.out.up b13
  have K13 : Hid (Below w3.heap.size w3 w13) := K12.out.trans (b13.mono K12.out.size)
  clear b13 t13
  go_wp2_with fail
  refine (CI.out _ _ HT13.out).mono ?_
  rintro e w14 ⟨u14, vs14, rfl, p14, b14⟩
  obtain ⟨ua14, uc14, rfl⟩ := p14.form
  have HP14 : Hid (PsRow w13.heap.size w14 _ ps vs14) := p14
  have HM14 : Hid (Mkd w14 (.slice ua5 ps.length uc5) ps vs5) := HM13.out.up b14
  have K14 : Hid (Below w3.heap.size w3 w14) := K13.out.trans (b14.mono K13.out.size)
  clear b14 p14
  go_wp2_with fail
  refine (CE.out _ _ _ HP14.out.at (HP3.out.keep K14.out).at).mono ?_
  rintro e w15 ⟨rfl, b15⟩
  have HM15 : Hid (Mkd w15 (.slice ua5 ps.length uc5) ps vs5) := HM14.out.up b15
  have K15 : Hid (Below w3.heap.size w3 w15) := K14.out.trans (b15.mono K14.out.size)
  clear b15
  go_wp2_with fail
  refine (CH.out _ HM15.out).mono ?_
  rintro e w16 ⟨rfl, b16⟩
  have K16 : Hid (Below w3.heap.size w3 w16) := K15.out.trans (b16.mono K15.out.size)
  clear b16
  go_wp2
  go_ret
  exact ⟨rfl, K3.out.trans (K16.out.mono K3.out.size)⟩
end Go.Proofs.Yteajkkcelajadaa
