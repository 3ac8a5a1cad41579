/- The law's marks over a job: six rows, each in a block of its own. The law's marks over a job, held. What ReadJob answers, in one form, whoever reads; its rows as the law's marks want them. A job in the law: its size, its copy, two of the same, how it is opened. -/
import Derived.Test.YtehagonaacbmiaaGreatMPRjZbd
import Derived.Test.YtehagonaacbmiaaGreatMPRjZar
import Derived.Test.YtehagonaacbmiaaGreatMPRjRjW
import Derived.Test.YtehagonaacbmiaaGreatMPRjZah
namespace Go.Proofs.YtehagonaacbmiaaGreat
section PartMjA
open Go.RowKit

set_option maxRecDepth 100000 in
set_option maxHeartbeats 2000000 in
theorem markStoreK_any (lo mid hi : Nat) (tv lv : Value) (o : ByteArray) (vs : List Vr) (cs : List Cl) (k : Nat) (w : World) (h1 : VrIn lo mid w tv vs) (h2 : ClIn mid hi w lv cs) (hlm : lo ≤ mid) (hmh : mid ≤ hi) (hhw : hi ≤ w.heap.size) (hn : vs.length ≤ 1048576) (hm : cs.length ≤ 1048576) (hk : k ≤ 1000000) (hk0 : 0 < k) :
    Calls Tryz.prog 40 #[.agg #[tv, lv, .string o], .int .i64 (k : Int)] w fun e w' => e = .returned (.int .i64 ((k + 2 * vs.length + 3 * cs.length : Nat) : Int)) ∧ VrIn lo mid w' tv (mkVr k vs.length) ∧ ClIn mid hi w' lv (mkCl (k + 2 * vs.length) cs.length) ∧ FM lo hi w w' := by
  have CV : Hid (∀ W : World, (∀ b, lo ≤ b → b < mid → W.heap[b]? = w.heap[b]?) → _) := fun (W : World) hW => markVrs_any lo mid tv vs k W (h1.keep hW) hn (by omega) hk0
  have CC : Hid (∀ W : World, (∀ b, mid ≤ b → b < hi → W.heap[b]? = w.heap[b]?) → _) := fun (W : World) hW => markCls_any mid hi lv cs (k + 2 * vs.length) W (h2.keep hW) hm (by omega) (by omega)
  obtain ⟨ad, c, rfl, -⟩ := h1
  obtain ⟨bd, d, rfl, -⟩ := h2
  obtain ⟨n, hN⟩ : ∃ n, n = vs.length := ⟨_, rfl⟩
  obtain ⟨m, hM⟩ : ∃ m, m = cs.length := ⟨_, rfl⟩
  rw [← hN] at CV CC ⊢
  rw [← hM] at CC ⊢
  clear hN hM hn hm
  have HB : Hid (Below w.heap.size w (w.alloc (.cells #[.slice ad n c, .slice bd m d, .string o] 40))) := (Below.refl _ _).alloc (Nat.le_refl _) _
  have q0 := heap_alloc_new w (.cells #[.slice ad n c, .slice bd m d, .string o] 40)
  have hz : w.heap.size < (w.alloc (.cells #[.slice ad n c, .slice bd m d, .string o] 40)).heap.size := by simp
  have HZ : Hid _ := And.intro q0 hz
  clear q0 hz
  go_enter Tryz.func40, Tryz.ntmps40
  go_wp2_with fail
  generalize w.alloc (.cells #[.slice ad n c, .slice bd m d, .string o] 40) = W0 at *
  refine (CV.out _ (fun b hb1 hb2 => HB.out.block b (by omega))).mono ?_
  rintro e w1 ⟨rfl, hv1, hf1⟩
  have R1 := (hf1.2.2 w.heap.size HZ.out.2 (by omega)).trans HZ.out.1
  have x1 : w1.cell? ⟨w.heap.size, 1, none⟩ = some (.slice bd m d) := (blk_cell R1 1).trans rfl
  have HF1 : Hid (FM lo mid W0 w1) := hf1
  have HV1 : Hid (VrIn lo mid w1 (.slice ad n c) (mkVr k n)) := hv1
  clear hf1 hv1 CV R1
  go_wp2_with fail
  refine (CC.out _ (fun b hb1 hb2 => (HF1.out.2.2 b (by have := HB.out.size; omega) (by omega)).trans (HB.out.block b (by omega)))).mono ?_
  rintro e w2 ⟨rfl, hc2, hf2⟩
  have HC2 : Hid (ClIn mid hi w2 (.slice bd m d) (mkCl (k + 2 * n) m)) := hc2
  have HF2 : Hid (FM mid hi w1 w2) := hf2
  clear hf2 hc2 CC x1
  go_wp2
  go_ret
  refine ⟨rfl, HV1.out.keep (fun b hb1 hb2 => HF2.out.2.2 b (by have := HF1.out.2.1; have := HB.out.size; omega) (by omega)), HC2.out, ?_⟩
  exact ((FM.ofBelow HB.out).trans (HF1.out.wider (Nat.le_refl _) hmh)).trans (HF2.out.wider hlm (Nat.le_refl _))

set_option maxRecDepth 100000 in
set_option maxHeartbeats 2000000 in
theorem heldStoreK_any (tv lv : Value) (o : ByteArray) (n m k : Nat) (w : World) (h1 : VrAt w tv (mkVr k n)) (h2 : ClAt w lv (mkCl (k + 2 * n) m)) (hn : n ≤ 1048576) (hm : m ≤ 1048576) (hk : k ≤ 1000000) (hk0 : 0 < k) :
    Calls Tryz.prog 43 #[.agg #[tv, lv, .string o], .int .i64 (k : Int)] w fun e w' => e = .returned (.int .i64 ((k + 2 * n + 3 * m : Nat) : Int)) ∧ Below w.heap.size w w' := by
  have CV : Hid (∀ W, Below w.heap.size w W → _) := fun W hb => heldVrs_any tv n k W (h1.keep hb) hn (by omega) hk0
  have CC : Hid (∀ W, Below w.heap.size w W → _) := fun W hb => heldCls_any lv m (k + 2 * n) W (h2.keep hb) hm (by omega) (by omega)
  obtain ⟨ad, c, rfl, -⟩ := h1
  obtain ⟨bd, d, rfl, -⟩ := h2
  rw [mkVr_len] at CV ⊢
  rw [mkCl_len] at CC ⊢
  have HB : Hid (Below w.heap.size w (w.alloc (.cells #[.slice ad n c, .slice bd m d, .string o] 40))) := (Below.refl _ _).alloc (Nat.le_refl _) _
  have q0 := heap_alloc_new w (.cells #[.slice ad n c, .slice bd m d, .string o] 40)
  have hz : w.heap.size < (w.alloc (.cells #[.slice ad n c, .slice bd m d, .string o] 40)).heap.size := by simp
  have HZ : Hid _ := And.intro q0 hz
  have d1 : decide (((k + 2 * n : Nat) : Int) < 0) = false := decide_eq_false (by omega)
  have d2 : decide (((k + 2 * n + 3 * m : Nat) : Int) < 0) = false := decide_eq_false (by omega)
  obtain ⟨K1, hK1⟩ : ∃ K1, K1 = k + 2 * n := ⟨_, rfl⟩
  obtain ⟨K2, hK2⟩ : ∃ K2, K2 = k + 2 * n + 3 * m := ⟨_, rfl⟩
  rw [← hK1] at CV CC d1
  rw [← hK2] at d2 ⊢
  rw [show K1 + 3 * m = K2 by omega] at CC
  clear q0 hz hK1 hK2
  go_enter Tryz.func43, Tryz.ntmps43
  go_wp2_with fail
  generalize w.alloc (.cells #[.slice ad n c, .slice bd m d, .string o] 40) = W0 at *
  refine (CV.out _ HB.out).mono ?_
  rintro e w1 ⟨rfl, hb1⟩
  have x1 : w1.cell? ⟨w.heap.size, 1, none⟩ = some (.slice bd m d) := (blk_cell ((hb1.block _ HZ.out.2).trans HZ.out.1) 1).trans rfl
  have HB1 : Hid (Below w.heap.size w w1) := HB.out.trans (hb1.mono HB.out.size)
  clear hb1 CV
  go_wp2_with fail
  refine (CC.out _ HB1.out).mono ?_
  rintro e w2 ⟨rfl, hb2⟩
  have HB2 : Hid (Below w.heap.size w w2) := HB1.out.trans (hb2.mono HB1.out.size)
  clear hb2 CC x1
  go_wp2
  go_ret
  exact ⟨rfl, HB2.out⟩

theorem hidOfK {p : Prop} (h : p) : Hid p := h
/-- The blocks from lo on, below hi. -/
def IV (lo hi : Nat) : Nat → Prop := fun q => lo ≤ q ∧ q < hi
theorem WTv.inS {S : Nat → Prop} {w : World} {v : Value} {n k m : Nat} (h : WTv S w v n k m) (h0 : 0 < n) {r : Nat} (e : v.ownBlock = some r) : S r := by
  obtain ⟨ad, c, rfl, f⟩ := h
  obtain ⟨r', rfl, h1, h2⟩ := f h0
  obtain rfl : r' = r := by simpa [Value.ownBlock] using e
  exact h1
theorem WTv.iv {lo hi : Nat} {w w' : World} {v : Value} {n k m : Nat} (h : WTv (IV lo hi) w v n k m) (hk : ∀ b, lo ≤ b → b < hi → b < w.heap.size → w'.heap[b]? = w.heap[b]?) : WTv (IV lo hi) w' v n k m :=
  h.keep (fun r h0 e => hk r (h.inS h0 e).1 (h.inS h0 e).2 (h.lt h0 e))
theorem CW.iv {X C : Nat} {w w' : World} {tv lv : Value} {n ln m k : Nat} (h : CW X C w tv lv n ln m k) (hk : ∀ b, X ≤ b → b < C → b < w.heap.size → w'.heap[b]? = w.heap[b]?) : CW X C w' tv lv n ln m k :=
  ⟨h.txs.keep (fun r h0 e => hk r (h.inT r ⟨h0, e⟩).1 (h.inT r ⟨h0, e⟩).2 (h.txs.lt h0 e)), h.ins.keep (fun r h0 e => hk r (h.inI r ⟨h0, e⟩).1 (h.inI r ⟨h0, e⟩).2 (h.ins.lt h0 e)), h.inT, h.inI, h.far⟩
theorem FM.ofFS {lo hi : Nat} {w w' : World} (h : FS (fun x => lo ≤ x ∧ x < hi) w w') : FM lo hi w w' := ⟨h.1, h.2.1, fun q hq hh => h.2.2 q hq (by intro e; omega)⟩
/-- A job's rows: m, k, j, i tell how many of each are marked, from where on. -/
structure JM (c0 c2 c3 c4 c5 c6 : Nat) (W : World) (tv lv u x nv mv : Value) (n ln nn nl k3 k4 : Nat) (vs : List Vr) (cs : List Cl) (a b c d : Nat) : Prop where
  co : CW c0 c2 W tv lv n ln a b
  vr : VrIn c2 c3 W u vs
  cl : ClIn c3 c4 W x cs
  nm : WTv (IV c4 c5) W nv nn k3 c
  li : WTv (IV c5 c6) W mv nl k4 d
theorem JM.keep {c0 c2 c3 c4 c5 c6 : Nat} {W W' : World} {tv lv u x nv mv : Value} {n ln nn nl k3 k4 : Nat} {vs : List Vr} {cs : List Cl} {a b c d : Nat} (h : JM c0 c2 c3 c4 c5 c6 W tv lv u x nv mv n ln nn nl k3 k4 vs cs a b c d) (hc : c0 ≤ c2 ∧ c2 ≤ c3 ∧ c3 ≤ c4 ∧ c4 ≤ c5 ∧ c5 ≤ c6) (hb : ∀ q, c0 ≤ q → q < c6 → W'.heap[q]? = W.heap[q]?) : JM c0 c2 c3 c4 c5 c6 W' tv lv u x nv mv n ln nn nl k3 k4 vs cs a b c d :=
  ⟨h.co.iv (fun q h1 h2 _ => hb q h1 (by omega)), h.vr.keep (fun q h1 h2 => hb q (by omega) (by omega)), h.cl.keep (fun q h1 h2 => hb q (by omega) (by omega)), h.nm.iv (fun q h1 h2 _ => hb q (by omega) (by omega)), h.li.iv (fun q h1 h2 _ => hb q (by omega) (by omega))⟩

set_option maxRecDepth 100000 in
set_option maxHeartbeats 4000000 in
theorem markJob_any (c0 c2 c3 c4 c5 c6 n ln p r nn nl k2 k3 k4 m : Nat) (ta la ua xa na ma : Option Addr) (tc lc uc xc nc mc : Nat) (bg li en : Int) (o : ByteArray) (vs : List Vr) (cs : List Cl) (w : World)
    (hp : p = vs.length) (hr : r = cs.length) (e2 : k2 = 1 + n + 2 * ln) (e3 : k3 = k2 + 2 * p + 3 * r) (e4 : k4 = k3 + nn) (e5 : m = k4 + nl) (hc : c0 ≤ c2 ∧ c2 ≤ c3 ∧ c3 ≤ c4 ∧ c4 ≤ c5 ∧ c5 ≤ c6) (hz : c6 ≤ w.heap.size)
    (hn : n ≤ 1000 ∧ ln ≤ 1000 ∧ p ≤ 10000 ∧ r ≤ 10000 ∧ nn ≤ 10000 ∧ nl ≤ 10000)
    (h : JM c0 c2 c3 c4 c5 c6 w (.slice ta n tc) (.slice la ln lc) (.slice ua p uc) (.slice xa r xc) (.slice na nn nc) (.slice ma nl mc) n ln nn nl k3 k4 vs cs 0 0 0 0) :
    Calls Tryz.prog 12 #[.agg #[.slice ta n tc, .slice la ln lc, .int .i64 bg, .int .i64 li, .int .i64 en, .slice ua p uc, .slice xa r xc, .string o, .slice na nn nc, .slice ma nl mc], .int .i64 1] w fun e w' => e = .returned (.int .i64 (m : Int)) ∧ JM c0 c2 c3 c4 c5 c6 w' (.slice ta n tc) (.slice la ln lc) (.slice ua p uc) (.slice xa r xc) (.slice na nn nc) (.slice ma nl mc) n ln nn nl k3 k4 (mkVr k2 p) (mkCl (k2 + 2 * p) r) n ln nn nl ∧ FM c0 c6 w w' := by
  have hb : Below w.heap.size w (w.alloc (.cells #[.slice ta n tc, .slice la ln lc, .int .i64 bg, .int .i64 li, .int .i64 en, .slice ua p uc, .slice xa r xc, .string o, .slice na nn nc, .slice ma nl mc] 42)) := (Below.refl _ _).alloc (Nat.le_refl _) _
  have q0 := heap_alloc_new w (.cells #[.slice ta n tc, .slice la ln lc, .int .i64 bg, .int .i64 li, .int .i64 en, .slice ua p uc, .slice xa r xc, .string o, .slice na nn nc, .slice ma nl mc] 42)
  have HB := hidOfK hb
  have HQ := hidOfK q0
  have HM := hidOfK (h.keep hc (fun q h1 h2 => hb.block q (by omega)))
  have HC := hidOfK (And.intro hc hz)
  have HN := hidOfK hn
  have hk2 : k2 ≤ 1000000 := by omega
  have hk3 : k3 ≤ 1000000 := by omega
  have hk4 : k4 ≤ 1000000 := by omega
  have hk0 : 0 < k2 ∧ 0 < k3 ∧ 0 < k4 := by omega
  have HK := hidOfK (And.intro hk2 (And.intro hk3 (And.intro hk4 hk0)))
  have HE := hidOfK (And.intro e2 (And.intro e3 (And.intro e4 e5)))
  have HP := hidOfK (And.intro hp hr)
  clear hb q0 h hc hz hn hk2 hk3 hk4 hk0 e2 e3 e4 e5 hp hr
  go_enter Tryz.func12, Tryz.ntmps12
  go_wp2_with fail
  generalize (w.alloc (.cells #[.slice ta n tc, .slice la ln lc, .int .i64 bg, .int .i64 li, .int .i64 en, .slice ua p uc, .slice xa r xc, .string o, .slice na nn nc, .slice ma nl mc] 42)) = W at *
  have C1 : Hid (Calls Tryz.prog 39 #[.agg #[.slice ta n tc, .slice la ln lc, .int .i64 bg, .int .i64 li, .int .i64 en], .int .i64 1] W fun e w' => e = .returned (.int .i64 (k2 : Int)) ∧ CW c0 c2 w' (.slice ta n tc) (.slice la ln lc) n ln n ln ∧ FS (fun x => c0 ≤ x ∧ x < c2) W w') := by
    rw [HE.out.1]
    exact markCode_any c0 c2 n ln _ _ bg li en W HM.out.co (by have := HC.out; have := HB.out.size; omega) HN.out.1 HN.out.2.1
  refine C1.out.mono ?_
  rintro e w1 ⟨rfl, hco, hf1⟩
  have hm1 := FM.ofFS hf1
  have R1 := (hm1.2.2 w.heap.size (blk_lt HQ.out) (by have := HC.out; omega)).trans HQ.out
  have HCO := hidOfK hco
  have HF1 := hidOfK hm1
  have HQ1 := hidOfK R1
  have x5 := (blk_cell R1 5).trans rfl
  have x6 := (blk_cell R1 6).trans rfl
  have x7 := (blk_cell R1 7).trans rfl
  have C2 : Hid (Calls Tryz.prog 40 #[.agg #[.slice ua p uc, .slice xa r xc, .string o], .int .i64 (k2 : Int)] w1 fun e w' => e = .returned (.int .i64 (k3 : Int)) ∧ VrIn c2 c3 w' (.slice ua p uc) (mkVr k2 p) ∧ ClIn c3 c4 w' (.slice xa r xc) (mkCl (k2 + 2 * p) r) ∧ FM c2 c4 w1 w') := by
    rw [HE.out.2.1, HP.out.1, HP.out.2]
    have hv := HM.out.vr.keep (w' := w1) (fun q h1 h2 => hm1.2.2 q (by have := HC.out; have := HB.out.size; omega) (by omega))
    have hcl := HM.out.cl.keep (w' := w1) (fun q h1 h2 => hm1.2.2 q (by have := HC.out; have := HB.out.size; omega) (by have := HC.out; omega))
    rw [HP.out.1] at hv
    rw [HP.out.2] at hcl
    exact markStoreK_any c2 c3 c4 _ _ o vs cs k2 w1 hv hcl (by have := HC.out; omega) (by have := HC.out; omega) (by have := HC.out; have := HB.out.size; have := hm1.2.1; omega) (by rw [← HP.out.1]; have := HN.out; omega) (by rw [← HP.out.2]; have := HN.out; omega) HK.out.1 HK.out.2.2.2.1
  clear hco hf1 hm1 R1 C1
  go_wp2_with fail
  refine C2.out.mono ?_
  rintro e w2 ⟨rfl, hv2, hcl2, hm2⟩
  have R2 := (hm2.2.2 w.heap.size (blk_lt HQ1.out) (by have := HC.out; omega)).trans HQ1.out
  have HST := hidOfK (And.intro hv2 hcl2)
  have HF2 := hidOfK hm2
  have HQ2 := hidOfK R2
  have x8 := (blk_cell R2 8).trans rfl
  have C3 : Hid (Calls Tryz.prog 41 #[.slice na nn nc, .int .i64 (k3 : Int)] w2 fun e w' => e = .returned (.int .i64 (k4 : Int)) ∧ WTv (IV c4 c5) w' (.slice na nn nc) nn k3 nn ∧ FS (IV c4 c5) w2 w') := by
    rw [HE.out.2.2.1]
    exact markTxs_any (IV c4 c5) nn k3 _ w2 (HM.out.nm.iv (fun q h1 h2 h3 => (HF2.out.2.2 q (by have := HF1.out.2.1; omega) (by omega)).trans (HF1.out.2.2 q h3 (by have := HC.out; omega)))) (by have := HN.out; omega) (by have := HK.out; omega) (by have := HK.out; omega)
  clear hv2 hcl2 hm2 R2 C2 x5 x6 x7
  go_wp2_with fail
  refine C3.out.mono ?_
  rintro e w3 ⟨rfl, hnm, hf3⟩
  have hm3 : FM c4 c5 w2 w3 := FM.ofFS hf3
  have R3 := (hm3.2.2 w.heap.size (blk_lt HQ2.out) (by have := HC.out; omega)).trans HQ2.out
  have HNM := hidOfK hnm
  have HF3 := hidOfK hm3
  have x9 := (blk_cell R3 9).trans rfl
  have C4 : Hid (Calls Tryz.prog 41 #[.slice ma nl mc, .int .i64 (k4 : Int)] w3 fun e w' => e = .returned (.int .i64 (m : Int)) ∧ WTv (IV c5 c6) w' (.slice ma nl mc) nl k4 nl ∧ FS (IV c5 c6) w3 w') := by
    rw [HE.out.2.2.2]
    exact markTxs_any (IV c5 c6) nl k4 _ w3 (HM.out.li.iv (fun q h1 h2 h3 => (HF3.out.2.2 q (by have := HF1.out.2.1; have := HF2.out.2.1; omega) (by omega)).trans ((HF2.out.2.2 q (by have := HF1.out.2.1; omega) (by have := HC.out; omega)).trans (HF1.out.2.2 q h3 (by have := HC.out; omega))))) (by have := HN.out; omega) (by have := HK.out; omega) (by have := HK.out; omega)
  clear hnm hf3 hm3 R3 C3 x8
  go_wp2_with fail
  refine C4.out.mono ?_
  rintro e w4 ⟨rfl, hli, hf4⟩
  have hm4 : FM c5 c6 w3 w4 := FM.ofFS hf4
  have HFIN : Hid (JM c0 c2 c3 c4 c5 c6 w4 (.slice ta n tc) (.slice la ln lc) (.slice ua p uc) (.slice xa r xc) (.slice na nn nc) (.slice ma nl mc) n ln nn nl k3 k4 (mkVr k2 p) (mkCl (k2 + 2 * p) r) n ln nn nl ∧ FM c0 c6 w w4) := by
    have s1 := HF1.out.2.1
    have s2 := HF2.out.2.1
    have s3 := HF3.out.2.1
    have s0 := HB.out.size
    obtain ⟨⟨d1, d2, d3, d4, d5⟩, d6⟩ := HC.out
    refine ⟨⟨HCO.out.iv (fun q h1 h2 h3 => (hm4.2.2 q (by omega) (by omega)).trans ((HF3.out.2.2 q (by omega) (by omega)).trans (HF2.out.2.2 q (by omega) (by omega)))), HST.out.1.keep (fun q h1 h2 => (hm4.2.2 q (by omega) (by omega)).trans (HF3.out.2.2 q (by omega) (by omega))), HST.out.2.keep (fun q h1 h2 => (hm4.2.2 q (by omega) (by omega)).trans (HF3.out.2.2 q (by omega) (by omega))), HNM.out.iv (fun q h1 h2 h3 => hm4.2.2 q h3 (by omega)), hli⟩, ?_⟩
    exact ((((FM.ofBelow HB.out).trans (HF1.out.wider (Nat.le_refl _) (by omega))).trans (HF2.out.wider (by omega) (by omega))).trans (HF3.out.wider (by omega) (by omega))).trans (hm4.wider (by omega) (Nat.le_refl _))
  clear hli hf4 hm4 C4 x9
  go_wp2_with fail
  go_ret
  exact ⟨rfl, HFIN.out⟩
end PartMjA
section PartMjB
open Go.RowKit

set_option maxRecDepth 100000 in
set_option maxHeartbeats 4000000 in
theorem heldJob_any (c0 c2 c3 c4 c5 c6 n ln p r nn nl k2 k3 k4 m : Nat) (ta la ua xa na ma : Option Addr) (tc lc uc xc nc mc : Nat) (bg li en : Int) (o : ByteArray) (w : World)
    (e2 : k2 = 1 + n + 2 * ln) (e3 : k3 = k2 + 2 * p + 3 * r) (e4 : k4 = k3 + nn) (e5 : m = k4 + nl) (hc : c0 ≤ c2 ∧ c2 ≤ c3 ∧ c3 ≤ c4 ∧ c4 ≤ c5 ∧ c5 ≤ c6) (hz : c6 ≤ w.heap.size)
    (hn : n ≤ 1000 ∧ ln ≤ 1000 ∧ p ≤ 10000 ∧ r ≤ 10000 ∧ nn ≤ 10000 ∧ nl ≤ 10000)
    (h : JM c0 c2 c3 c4 c5 c6 w (.slice ta n tc) (.slice la ln lc) (.slice ua p uc) (.slice xa r xc) (.slice na nn nc) (.slice ma nl mc) n ln nn nl k3 k4 (mkVr k2 p) (mkCl (k2 + 2 * p) r) n ln nn nl) :
    Calls Tryz.prog 13 #[.agg #[.slice ta n tc, .slice la ln lc, .int .i64 bg, .int .i64 li, .int .i64 en, .slice ua p uc, .slice xa r xc, .string o, .slice na nn nc, .slice ma nl mc], .int .i64 1] w fun e w' => e = .returned (.int .i64 (m : Int)) ∧ Below w.heap.size w w' := by
  have hb : Below w.heap.size w (w.alloc (.cells #[.slice ta n tc, .slice la ln lc, .int .i64 bg, .int .i64 li, .int .i64 en, .slice ua p uc, .slice xa r xc, .string o, .slice na nn nc, .slice ma nl mc] 42)) := (Below.refl _ _).alloc (Nat.le_refl _) _
  have q0 := heap_alloc_new w (.cells #[.slice ta n tc, .slice la ln lc, .int .i64 bg, .int .i64 li, .int .i64 en, .slice ua p uc, .slice xa r xc, .string o, .slice na nn nc, .slice ma nl mc] 42)
  have HB := hidOfK hb
  have HQ := hidOfK q0
  have HM := hidOfK (h.keep hc (fun q h1 h2 => hb.block q (by omega)))
  have HC := hidOfK (And.intro hc (Nat.le_trans hz hb.size))
  have HN := hidOfK hn
  have hk2 : k2 ≤ 1000000 := by omega
  have hk3 : k3 ≤ 1000000 := by omega
  have hk4 : k4 ≤ 1000000 := by omega
  have hk0 : 0 < k2 ∧ 0 < k3 ∧ 0 < k4 := by omega
  have HK := hidOfK (And.intro hk2 (And.intro hk3 (And.intro hk4 hk0)))
  have HE := hidOfK (And.intro e2 (And.intro e3 (And.intro e4 e5)))
  have d2 : decide ((k2 : Int) < 0) = false := decide_eq_false (by omega)
  have d3 : decide ((k3 : Int) < 0) = false := decide_eq_false (by omega)
  have d4 : decide ((k4 : Int) < 0) = false := decide_eq_false (by omega)
  have d5 : decide ((m : Int) < 0) = false := decide_eq_false (by omega)
  clear hb q0 h hc hz hn hk2 hk3 hk4 hk0 e2 e3 e4 e5
  go_enter Tryz.func13, Tryz.ntmps13
  go_wp2_with fail
  generalize (w.alloc (.cells #[.slice ta n tc, .slice la ln lc, .int .i64 bg, .int .i64 li, .int .i64 en, .slice ua p uc, .slice xa r xc, .string o, .slice na nn nc, .slice ma nl mc] 42)) = W at *
  have C1 : Hid (Calls Tryz.prog 42 #[.agg #[.slice ta n tc, .slice la ln lc, .int .i64 bg, .int .i64 li, .int .i64 en], .int .i64 1] W fun e w' => e = .returned (.int .i64 (k2 : Int)) ∧ Below W.heap.size W w') := by
    rw [HE.out.1]
    exact heldCode_any c0 c2 n ln _ _ bg li en W HM.out.co HN.out.1 HN.out.2.1
  refine C1.out.mono ?_
  rintro e w1 ⟨rfl, hb1⟩
  have HB1 := hidOfK hb1
  have HM1 := hidOfK (HM.out.keep HC.out.1 (fun q h1 h2 => hb1.block q (by have := HC.out.2; omega)))
  have R1 := (hb1.block _ (blk_lt HQ.out)).trans HQ.out
  have HQ1 := hidOfK R1
  have x5 := (blk_cell R1 5).trans rfl
  have x6 := (blk_cell R1 6).trans rfl
  have x7 := (blk_cell R1 7).trans rfl
  have C2 : Hid (Calls Tryz.prog 43 #[.agg #[.slice ua p uc, .slice xa r xc, .string o], .int .i64 (k2 : Int)] w1 fun e w' => e = .returned (.int .i64 (k3 : Int)) ∧ Below w1.heap.size w1 w') := by
    rw [HE.out.2.1]
    exact heldStoreK_any _ _ o p r k2 w1 HM1.out.vr.at HM1.out.cl.at (by have := HN.out; omega) (by have := HN.out; omega) HK.out.1 HK.out.2.2.2.1
  clear hb1 R1 C1 HM HQ
  go_wp2_with fail
  refine C2.out.mono ?_
  rintro e w2 ⟨rfl, hb2⟩
  have HB2 := hidOfK (HB1.out.trans (hb2.mono HB1.out.size))
  have HM2 := hidOfK (HM1.out.keep HC.out.1 (fun q h1 h2 => hb2.block q (by have := HC.out.2; have := HB1.out.size; omega)))
  have R2 := (hb2.block _ (blk_lt HQ1.out)).trans HQ1.out
  have HQ2 := hidOfK R2
  have x8 := (blk_cell R2 8).trans rfl
  have C3 : Hid (Calls Tryz.prog 44 #[.slice na nn nc, .int .i64 (k3 : Int)] w2 fun e w' => e = .returned (.int .i64 (k4 : Int)) ∧ Below w2.heap.size w2 w') := by
    rw [HE.out.2.2.1]
    exact heldTxs_any (IV c4 c5) nn k3 _ w2 HM2.out.nm (by have := HN.out; omega) (by have := HK.out; omega) (by have := HK.out; omega)
  clear hb2 R2 C2 HM1 HQ1 HB1 x5 x6 x7
  go_wp2_with fail
  refine C3.out.mono ?_
  rintro e w3 ⟨rfl, hb3⟩
  have HB3 := hidOfK (HB2.out.trans (hb3.mono HB2.out.size))
  have HM3 := hidOfK (HM2.out.keep HC.out.1 (fun q h1 h2 => hb3.block q (by have := HC.out.2; have := HB2.out.size; omega)))
  have R3 := (hb3.block _ (blk_lt HQ2.out)).trans HQ2.out
  have x9 := (blk_cell R3 9).trans rfl
  have C4 : Hid (Calls Tryz.prog 44 #[.slice ma nl mc, .int .i64 (k4 : Int)] w3 fun e w' => e = .returned (.int .i64 (m : Int)) ∧ Below w3.heap.size w3 w') := by
    rw [HE.out.2.2.2]
    exact heldTxs_any (IV c5 c6) nl k4 _ w3 HM3.out.li (by have := HN.out; omega) (by have := HK.out; omega) (by have := HK.out; omega)
  clear hb3 R3 C3 HM2 HQ2 HB2 x8
  go_wp2_with fail
  refine C4.out.mono ?_
  rintro e w4 ⟨rfl, hb4⟩
  have HF := hidOfK (HB.out.trans ((HB3.out.trans (hb4.mono HB3.out.size)).mono HB.out.size))
  clear hb4 C4 x9
  go_wp2_with fail
  go_ret
  exact ⟨rfl, HF.out⟩
end PartMjB
section PartRjX
open Go.RowKit

theorem flatT_free : ∀ {ts us : List ByteArray} {a b : List UInt8}, ts.length = us.length → (∀ x ∈ ts, x.size ≤ 1000000000) → (∀ x ∈ us, x.size ≤ 1000000000) → ts.flatMap Cd.short ++ a = us.flatMap Cd.short ++ b → ts = us ∧ a = b
  | [], [], _, _, _, _, _, h => ⟨rfl, by simpa using h⟩
  | [], _ :: _, _, _, hl, _, _, _ => by simp at hl
  | _ :: _, [], _, _, hl, _, _, _ => by simp at hl
  | t :: ts, u :: us, a, b, hl, h1, h2, h => by
    simp only [List.flatMap_cons, List.append_assoc] at h
    obtain ⟨e1, h⟩ := Cd.short_free (h1 t (by simp)) (h2 u (by simp)) h
    obtain ⟨e2, e3⟩ := flatT_free (by simpa using hl) (fun z hz => h1 z (by simp [hz])) (fun z hz => h2 z (by simp [hz])) h
    exact ⟨by rw [e1, e2], e3⟩
theorem getD_all {ts : List ByteArray} {m : Nat} (h : ∀ i, i < ts.length → (ts.getD i ByteArray.empty).size ≤ m) : ∀ x ∈ ts, x.size ≤ m := fun x hx => by
  obtain ⟨i, hi, e⟩ := List.mem_iff_getElem.1 hx
  have h3 := h i hi
  rw [List.getD_eq_getElem?_getD, List.getElem?_eq_getElem hi] at h3
  simpa [e] using h3
theorem Jb.sm_ok {j : Jb} (h : j.ok = true) : Jb.Sm j ∧ j.ts.length ≤ 1000 ∧ j.xs.length ≤ 1000 ∧ j.vs.length ≤ 10000 ∧ j.cs.length ≤ 10000 ∧ j.ns.length ≤ 10000 ∧ j.ls.length ≤ 10000 := by
  obtain ⟨h1, h2, h3, h4, h5, h6⟩ := Jb.ok_sizes h
  obtain ⟨g1, g2, g3, -⟩ := Cd.ok_facts h1
  obtain ⟨s1, s2, s3, s4, s5⟩ := St.ok_sizes h2
  have hst : StSmall j.vs j.cs j.o := by
    refine ⟨by omega, fun i hi => ?_, by omega, fun i hi => ?_, by omega⟩
    · have := s4 i hi; omega
    · have := s5 i hi; omega
  exact ⟨⟨fun i hi => by have := g1 i hi; omega, by omega, by omega, hst, fun i hi => by have := h5 i hi; omega, by omega, fun i hi => by have := h6 i hi; omega, by omega⟩, by omega, by omega, by omega, by omega, by omega, by omega⟩
/-- No two jobs have the same bytes. -/
theorem Jb.isOf_one {L : List UInt8} {j k : Jb} (h : Jb.isOf L j) (g : Jb.isOf L k) : j = k := by
  obtain ⟨h1, h2, h3⟩ := h
  obtain ⟨g1, g2, g3⟩ := g
  have e : Jb.bytes j = Jb.bytes k := h2.trans g2.symm
  obtain ⟨a1, a2, a3, a4, a5, a6⟩ := Jb.ok_sizes h1
  obtain ⟨b1, b2, b3, b4, b5, b6⟩ := Jb.ok_sizes g1
  have c1 := Jb.code_len a1
  have c2 := Jb.code_len b1
  have z : ∀ l : List UInt8, (⟨l.toArray⟩ : ByteArray).size = l.length := fun l => by show l.toArray.size = _; simp
  have inj : ∀ l m : List UInt8, (⟨l.toArray⟩ : ByteArray) = ⟨m.toArray⟩ → l = m := fun l m hh => by simpa using hh
  unfold Jb.bytes at e
  simp only [List.append_assoc] at e
  obtain ⟨e1, e⟩ := Cd.short_free (by rw [z]; omega) (by rw [z]; omega) e
  obtain ⟨e2, e⟩ := Cd.short_free (by rw [z]; omega) (by rw [z]; omega) e
  obtain ⟨e3, e⟩ := Pl.vb_free (by omega) (by omega) e
  obtain ⟨e4, e⟩ := flatT_free e3 (fun x hx => Nat.le_trans (getD_all a5 x hx) (by omega)) (fun x hx => Nat.le_trans (getD_all b5 x hx) (by omega)) e
  obtain ⟨e5, e⟩ := Pl.vb_free (by omega) (by omega) e
  obtain ⟨e6, -⟩ := flatT_free (a := []) (b := []) e5 (fun x hx => Nat.le_trans (getD_all a6 x hx) (by omega)) (fun x hx => Nat.le_trans (getD_all b6 x hx) (by omega)) (by simpa using e)
  have e7 := inj _ _ e1
  have e8 := inj _ _ e2
  obtain ⟨l, u, p1, p2, p3, p4⟩ := Rc.ans_of a1
  obtain ⟨l', u', q1, q2, q3, q4⟩ := Rc.ans_of b1
  rw [e7, q1] at p1
  obtain ⟨f1, f2, f3, f4⟩ : k.ts = j.ts ∧ k.xs = j.xs ∧ l' = l ∧ u' = u := by simpa using p1
  obtain ⟨k1, k2, k3⟩ := St.bytes_free (Jb.sm_ok h1).1.s (Jb.sm_ok g1).1.s e8
  obtain ⟨jts, jxs, jbg, jln, jen, jvs, jcs, jo, jns, jls⟩ := j
  obtain ⟨kts, kxs, kbg, kln, ken, kvs, kcs, ko, kns, kls⟩ := k
  simp only at *
  subst f1 f2 f3 f4 k1 k2 k3 e4 e6 p2 p3 p4 q2 q3 q4
  rfl
/-- Nothing read. -/
def Jb.non : Jb := ⟨[], [], 0, 0, 0, [], [], ⟨#[]⟩, [], []⟩
theorem Jb.non_sm : Jb.Sm Jb.non := ⟨fun i hi => by simp [Jb.non] at hi, by simp [Jb.non], by simp [Jb.non], ⟨by simp [Jb.non], fun i hi => by simp [Jb.non] at hi, by simp [Jb.non], fun i hi => by simp [Jb.non] at hi, (by show (⟨#[]⟩ : ByteArray).size ≤ 1048576; decide)⟩, fun i hi => by simp [Jb.non] at hi, by simp [Jb.non], fun i hi => by simp [Jb.non] at hi, by simp [Jb.non]⟩
theorem Apart6.nil (lo a b c d e f : Nat) : Apart6 lo (.slice none 0 a) (.slice none 0 b) (.slice none 0 c) (.slice none 0 d) (.slice none 0 e) (.slice none 0 f) := ⟨lo, lo, lo, lo, lo, lo, OB.none _ _ _, OB.none _ _ _, OB.none _ _ _, OB.none _ _ _, OB.none _ _ _, OB.none _ _ _, Nat.le_refl _, Nat.le_refl _, Nat.le_refl _, Nat.le_refl _, Nat.le_refl _⟩
theorem rows_nil (B : Nat) (W : World) : RjRows B W (.slice none 0 0) (.slice none 0 0) (.slice none 0 0) (.slice none 0 0) (.slice none 0 0) (.slice none 0 0) [] [] [] [] [] [] := ⟨World.ownsRow_nil _ _ _ _, World.ownsRow_nil _ _ _ _, World.ownsRow_nil _ _ _ _, World.ownsRow_nil _ _ _ _, World.ownsRow_nil _ _ _ _, World.ownsRow_nil _ _ _ _⟩
/-- What is read of these bytes, whoever reads them. -/
theorem rj_form (L : List UInt8) : ∃ (ok : Bool) (j : Jb), Jb.Sm j ∧ (j.ts.length ≤ 1000 ∧ j.xs.length ≤ 1000 ∧ j.vs.length ≤ 10000 ∧ j.cs.length ≤ 10000 ∧ j.ns.length ≤ 10000 ∧ j.ls.length ≤ 10000) ∧
    (∀ w w' e, RdJO w w' L e → Below w.heap.size w w' ∧ ∃ tv lv u x nv mv, e = .returned (.tuple #[.agg (Jb.cells tv lv u x nv mv j), .bool ok]) ∧ RjRows (w.heap.size + 2) w' tv lv u x nv mv j.ts j.ns j.ls j.xs j.vs j.cs ∧ Apart6 (w.heap.size + 2) tv lv u x nv mv) ∧
    (∀ w w' e, RdJ w w' L e → Below w.heap.size w w' ∧ ∃ tv lv u x nv mv, e = .returned (.tuple #[.agg (Jb.cells tv lv u x nv mv j), .bool ok]) ∧ Jb.At w' tv lv u x nv mv j) := by
  by_cases h : ∃ j, Jb.isOf L j
  · obtain ⟨j, hj⟩ := h
    obtain ⟨s1, s2⟩ := Jb.sm_ok hj.1
    refine ⟨true, j, s1, s2, fun w w' e hr => ⟨hr.1, ?_⟩, fun w w' e hr => ⟨hr.1, ?_⟩⟩
    · rcases hr.2 with ⟨tv, lv, u, x, nv, mv, k, hk, he, -, h1, h2⟩ | ⟨h1, -⟩
      · obtain rfl := Jb.isOf_one hk hj
        exact ⟨tv, lv, u, x, nv, mv, he, h1, h2⟩
      · exact absurd hj (h1 j)
    · rcases hr.2 with ⟨tv, lv, u, x, nv, mv, k, hk, he, h1⟩ | ⟨h1, -⟩
      · obtain rfl := Jb.isOf_one hk hj
        exact ⟨tv, lv, u, x, nv, mv, he, h1⟩
      · exact absurd hj (h1 j)
  · refine ⟨false, Jb.non, Jb.non_sm, by simp [Jb.non], fun w w' e hr => ⟨hr.1, ?_⟩, fun w w' e hr => ⟨hr.1, ?_⟩⟩
    · rcases hr.2 with ⟨tv, lv, u, x, nv, mv, k, hk, -⟩ | ⟨-, h2⟩
      · exact absurd ⟨k, hk⟩ h
      · exact ⟨_, _, _, _, _, _, h2, rows_nil _ _, Apart6.nil _ _ _ _ _ _ _⟩
    · rcases hr.2 with ⟨tv, lv, u, x, nv, mv, k, hk, -⟩ | ⟨-, h2⟩
      · exact absurd ⟨k, hk⟩ h
      · exact ⟨_, _, _, _, _, _, h2, RjRows.at (B := 0) (l9 := 0) (u9 := 0) (O := ⟨#[]⟩) (rows_nil 0 w')⟩
theorem RjRows.at2 {B : Nat} {W : World} {tv lv u x nv mv : Value} {ts ns ls : List ByteArray} {xs : List Ins} {P : List Vr} {R : List Cl} {b9 l9 u9 : Int} {O : ByteArray} (h : RjRows B W tv lv u x nv mv ts ns ls xs P R) : Jb.At W tv lv u x nv mv ⟨ts, xs, b9, l9, u9, P, R, O, ns, ls⟩ :=
  ⟨h.t.at, h.l.at, (VrRow.in h.u).at, (ClRow.in h.x).at, h.n.at, h.m.at⟩
theorem tr_wt {B : Nat} {w : World} {v : Value} {ts : List ByteArray} (h : TR B w v ts) : WTv (SBk v ts.length) w v ts.length 1 0 := by
  rcases h.2 with ⟨rfl, hn⟩ | ⟨g, cap, cur, rfl, h1, hg, hcap, hmax, hsz, htake⟩
  · exact ⟨none, 0, by rw [hn], fun h0 => by omega⟩
  · have hcs : ts.length ≤ cur.size := by
      have e1 := congrArg List.length htake
      simp at e1
      omega
    exact ⟨_, cap, rfl, fun h0 => ⟨g, rfl, ⟨h0, rfl⟩, cur, hg, hcs, fun i hi => by omega⟩⟩
theorem tr_iv {B lo hi : Nat} {w : World} {v : Value} {ts : List ByteArray} (h : TR B w v ts) (ho : OB v lo hi) (k : Nat) : WTv (IV lo hi) w v ts.length k 0 := by
  rcases h.2 with ⟨rfl, hn⟩ | ⟨g, cap, cur, rfl, h1, hg, hcap, hmax, hsz, htake⟩
  · exact ⟨none, 0, by rw [hn], fun h0 => by omega⟩
  · have hcs : ts.length ≤ cur.size := by
      have e1 := congrArg List.length htake
      simp at e1
      omega
    exact ⟨_, cap, rfl, fun h0 => ⟨g, rfl, ho g rfl, cur, hg, hcs, fun i hi => by omega⟩⟩
theorem ir_wj {B : Nat} {w : World} {v : Value} {xs : List Ins} (h : IR B w v xs) (k : Nat) : WJv (SBk v xs.length) w v xs.length k 0 := by
  rcases h.2 with ⟨rfl, hn⟩ | ⟨g, cap, cur, rfl, h1, hg, hcap, hmax, hsz, htake⟩
  · exact ⟨none, 0, by rw [hn], fun h0 => by omega⟩
  · have hcs : xs.length * 2 ≤ cur.size := by
      have e1 := congrArg List.length htake
      have e2 := h.1
      simp at e1
      omega
    exact ⟨_, cap, rfl, fun h0 => ⟨g, rfl, ⟨h0, rfl⟩, cur, hg, hcs, fun i hi => by omega⟩⟩
theorem vr_ob {B lo hi : Nat} {w : World} {v : Value} {xs : List Vr} (h : VrRow B w v xs) (ho : OB v lo hi) : VrIn lo hi w v xs := by
  obtain ⟨ad, cap, rfl, f⟩ := VrRow.in h
  refine ⟨ad, cap, rfl, fun h0 => ?_⟩
  obtain ⟨g, arr, rfl, e1, e2, ha, hc⟩ := f h0
  exact ⟨g, arr, rfl, (ho g rfl).1, (ho g rfl).2, ha, hc⟩
theorem cl_ob {B lo hi : Nat} {w : World} {v : Value} {xs : List Cl} (h : ClRow B w v xs) (ho : OB v lo hi) : ClIn lo hi w v xs := by
  obtain ⟨ad, cap, rfl, f⟩ := ClRow.in h
  refine ⟨ad, cap, rfl, fun h0 => ?_⟩
  obtain ⟨g, arr, rfl, e1, e2, ha, hc⟩ := f h0
  exact ⟨g, arr, rfl, (ho g rfl).1, (ho g rfl).2, ha, hc⟩
theorem ob_cap {B a b : Nat} {W : World} {t : TypeId} {c n : Nat} {v : Value} {xs : List Value} (h : W.ownsRow B t c v n xs) (ho : OB v a b) : OB v (min a W.heap.size) (min b W.heap.size) := fun q hq => by
  have h1 := ho q hq
  have h2 := (World.ownsRow.lt h q hq).2
  omega
/-- The rows as the marks want them. -/
theorem jm_of {B : Nat} {W : World} {tv lv u x nv mv : Value} {ts ns ls : List ByteArray} {xs : List Ins} {P : List Vr} {R : List Cl} (h : RjRows B W tv lv u x nv mv ts ns ls xs P R) (ha : Apart6 B tv lv u x nv mv) (k3 k4 : Nat) :
    ∃ c0 c2 c3 c4 c5 c6, (c0 ≤ c2 ∧ c2 ≤ c3 ∧ c3 ≤ c4 ∧ c4 ≤ c5 ∧ c5 ≤ c6) ∧ c6 ≤ W.heap.size ∧ min B W.heap.size ≤ c0 ∧ JM c0 c2 c3 c4 c5 c6 W tv lv u x nv mv ts.length xs.length ns.length ls.length k3 k4 P R 0 0 0 0 := by
  obtain ⟨c1, c2, c3, c4, c5, c6, o1, o2, o3, o4, o5, o6, l1, l2, l3, l4, l5⟩ := ha
  have q1 := ob_cap h.t o1
  have q2 := ob_cap h.l o2
  have q6 : OB mv (min c5 W.heap.size) W.heap.size := (ob_cap h.m o6).wide (Nat.le_refl _) (by omega)
  refine ⟨min B W.heap.size, min c2 W.heap.size, min c3 W.heap.size, min c4 W.heap.size, min c5 W.heap.size, W.heap.size, by omega, Nat.le_refl _, Nat.le_refl _, ⟨⟨tr_wt h.t, ir_wj h.l _, fun q hq => ?_, fun q hq => ?_, fun q hq hq2 => ?_⟩, vr_ob h.u (ob_cap h.u o3), cl_ob h.x (ob_cap h.x o4), tr_iv h.n (ob_cap h.n o5) _, tr_iv h.m q6 _⟩⟩
  · have := q1 q hq.2; omega
  · have := q2 q hq.2; omega
  · have e1 := q1 q hq2.2; have e2 := q2 q hq.2; omega
end PartRjX
section PartJbL
open Go.RowKit

/-- What can be handed in. -/
structure Jb.Fit (j : Jb) : Prop where
  t : j.ts.length ≤ maxLen ∧ ∀ i, i < j.ts.length → (j.ts.getD i ByteArray.empty).size ≤ maxLen
  x : j.xs.length ≤ maxLen
  s : StFit j.vs j.cs j.o
  n : j.ns.length ≤ maxLen ∧ ∀ i, i < j.ns.length → (j.ns.getD i ByteArray.empty).size ≤ maxLen
  m : j.ls.length ≤ maxLen ∧ ∀ i, i < j.ls.length → (j.ls.getD i ByteArray.empty).size ≤ maxLen
/-- From block lo on nothing has changed. -/
def Ge (lo : Nat) (W W' : World) : Prop := ∀ k, lo ≤ k → W'.heap[k]? = W.heap[k]?
theorem Ge.refl (lo : Nat) (W : World) : Ge lo W W := fun _ _ => rfl
theorem Ge.set {lo : Nat} {W W' : World} (h : Ge lo W W') (g i : Nat) (u : Value) (hg : g < lo) : Ge lo W (W'.setCell ⟨g, i, none⟩ u) := fun k hk =>
  (Below.heap_setCell _ _ _ _ (by show k ≠ g; omega)).trans (h k hk)
theorem tenJ {W : World} {b : Nat} {t : TypeId} {u0 u1 u2 u3 u4 u5 u6 u7 u8 u9 : Value} (h : W.heap[b]? = some (.cells #[u0, u1, u2, u3, u4, u5, u6, u7, u8, u9] t (0, 0))) :
    ((W.cell? ⟨b, 0, none⟩ = some u0 ∧ W.cell? ⟨b, 1, none⟩ = some u1 ∧ W.cell? ⟨b, 2, none⟩ = some u2 ∧ W.cell? ⟨b, 3, none⟩ = some u3 ∧ W.cell? ⟨b, 4, none⟩ = some u4) ∧ (W.cell? ⟨b, 5, none⟩ = some u5 ∧ W.cell? ⟨b, 6, none⟩ = some u6 ∧ W.cell? ⟨b, 7, none⟩ = some u7) ∧ W.cell? ⟨b, 8, none⟩ = some u8 ∧ W.cell? ⟨b, 9, none⟩ = some u9) ∧
    ∀ i, W.frozen? ⟨b, i, none⟩ = false :=
  ⟨⟨⟨(blk_cell h 0).trans rfl, (blk_cell h 1).trans rfl, (blk_cell h 2).trans rfl, (blk_cell h 3).trans rfl, (blk_cell h 4).trans rfl⟩, ⟨(blk_cell h 5).trans rfl, (blk_cell h 6).trans rfl, (blk_cell h 7).trans rfl⟩, (blk_cell h 8).trans rfl, (blk_cell h 9).trans rfl⟩, fun i => blk_free h i⟩

set_option maxHeartbeats 4000000 in
set_option maxRecDepth 100000 in
theorem eqJob_any (tv lv u x nv mv tv' lv' u' x' nv' mv' : Value) (j : Jb) (w : World) (h : Jb.At w tv lv u x nv mv j) (h' : Jb.At w tv' lv' u' x' nv' mv' j) (hs : Jb.Sm j) :
    Calls Tryz.prog 9 #[.agg (Jb.cells tv lv u x nv mv j), .agg (Jb.cells tv' lv' u' x' nv' mv' j)] w fun e w' => e = .returned (.bool true) ∧ Below w.heap.size w w' := by
  have CC : Hid (∀ W, Below w.heap.size w W → Calls Tryz.prog 26 #[.agg #[tv, lv, .int .i64 j.bg, .int .i64 j.ln, .int .i64 j.en], .agg #[tv', lv', .int .i64 j.bg, .int .i64 j.ln, .int .i64 j.en]] W fun e w' => e = .returned (.bool true) ∧ Below W.heap.size W w') := fun W hb => eqCode_any _ _ _ _ _ _ _ _ _ W (h.t.keep hb) (h.l.keep hb) (h'.t.keep hb) (h'.l.keep hb) hs.tl hs.xl
  have CS : Hid (∀ W, Below w.heap.size w W → Calls Tryz.prog 27 #[.agg #[u, x, .string j.o], .agg #[u', x', .string j.o]] W fun e w' => e = .returned (.bool true) ∧ Below W.heap.size W w') := fun W hb => eqStore_any _ _ _ _ _ _ _ W (h.u.keep hb) (h.x.keep hb) (h'.u.keep hb) (h'.x.keep hb) hs.s.1 hs.s.2.2.1
  have CN : Hid (∀ W, Below w.heap.size w W → Calls Tryz.prog 28 #[nv, nv'] W fun e w' => e = .returned (.bool true) ∧ Below W.heap.size W w') := fun W hb => eqTs_any _ _ _ W (h.n.keep hb) (h'.n.keep hb) hs.nl
  have CM : Hid (∀ W, Below w.heap.size w W → Calls Tryz.prog 28 #[mv, mv'] W fun e w' => e = .returned (.bool true) ∧ Below W.heap.size W w') := fun W hb => eqTs_any _ _ _ W (h.m.keep hb) (h'.m.keep hb) hs.ml
  obtain ⟨na, nc, rfl, -⟩ := h.n
  obtain ⟨ma, mc, rfl, -⟩ := h.m
  obtain ⟨ta, tc, rfl, -⟩ := h.t
  obtain ⟨la, lc, rfl, -⟩ := h.l
  obtain ⟨ua, uc, rfl, -⟩ := h.u
  obtain ⟨xa, xc, rfl, -⟩ := h.x
  obtain ⟨na', nc', rfl, -⟩ := h'.n
  obtain ⟨ma', mc', rfl, -⟩ := h'.m
  obtain ⟨ta', tc', rfl, -⟩ := h'.t
  obtain ⟨la', lc', rfl, -⟩ := h'.l
  obtain ⟨ua', uc', rfl, -⟩ := h'.u
  obtain ⟨xa', xc', rfl, -⟩ := h'.x
  unfold Jb.cells
  have HB0 : Hid (Below w.heap.size w ((w.alloc (.cells #[.slice ta j.ts.length tc, .slice la j.xs.length lc, .int .i64 j.bg, .int .i64 j.ln, .int .i64 j.en, .slice ua j.vs.length uc, .slice xa j.cs.length xc, .string j.o, .slice na j.ns.length nc, .slice ma j.ls.length mc] 42)).alloc (.cells #[.slice ta' j.ts.length tc', .slice la' j.xs.length lc', .int .i64 j.bg, .int .i64 j.ln, .int .i64 j.en, .slice ua' j.vs.length uc', .slice xa' j.cs.length xc', .string j.o, .slice na' j.ns.length nc', .slice ma' j.ls.length mc'] 42))) := ((Below.refl _ _).alloc (Nat.le_refl _) _).alloc (by simp) _
  have HR0 : Hid (((w.alloc (.cells #[.slice ta j.ts.length tc, .slice la j.xs.length lc, .int .i64 j.bg, .int .i64 j.ln, .int .i64 j.en, .slice ua j.vs.length uc, .slice xa j.cs.length xc, .string j.o, .slice na j.ns.length nc, .slice ma j.ls.length mc] 42)).alloc (.cells #[.slice ta' j.ts.length tc', .slice la' j.xs.length lc', .int .i64 j.bg, .int .i64 j.ln, .int .i64 j.en, .slice ua' j.vs.length uc', .slice xa' j.cs.length xc', .string j.o, .slice na' j.ns.length nc', .slice ma' j.ls.length mc'] 42)).heap[w.heap.size]? = some (.cells #[.slice ta j.ts.length tc, .slice la j.xs.length lc, .int .i64 j.bg, .int .i64 j.ln, .int .i64 j.en, .slice ua j.vs.length uc, .slice xa j.cs.length xc, .string j.o, .slice na j.ns.length nc, .slice ma j.ls.length mc] 42 (0, 0))) := alloc2_0 _ _ _
  have HR1 : Hid (((w.alloc (.cells #[.slice ta j.ts.length tc, .slice la j.xs.length lc, .int .i64 j.bg, .int .i64 j.ln, .int .i64 j.en, .slice ua j.vs.length uc, .slice xa j.cs.length xc, .string j.o, .slice na j.ns.length nc, .slice ma j.ls.length mc] 42)).alloc (.cells #[.slice ta' j.ts.length tc', .slice la' j.xs.length lc', .int .i64 j.bg, .int .i64 j.ln, .int .i64 j.en, .slice ua' j.vs.length uc', .slice xa' j.cs.length xc', .string j.o, .slice na' j.ns.length nc', .slice ma' j.ls.length mc'] 42)).heap[w.heap.size + 1]? = some (.cells #[.slice ta' j.ts.length tc', .slice la' j.xs.length lc', .int .i64 j.bg, .int .i64 j.ln, .int .i64 j.en, .slice ua' j.vs.length uc', .slice xa' j.cs.length xc', .string j.o, .slice na' j.ns.length nc', .slice ma' j.ls.length mc'] 42 (0, 0))) := alloc2_1 _ _ _
  clear h h' hs
  go_enter Tryz.func9, Tryz.ntmps9
  go_wp2_with fail
  generalize (w.alloc (.cells #[.slice ta j.ts.length tc, .slice la j.xs.length lc, .int .i64 j.bg, .int .i64 j.ln, .int .i64 j.en, .slice ua j.vs.length uc, .slice xa j.cs.length xc, .string j.o, .slice na j.ns.length nc, .slice ma j.ls.length mc] 42)).alloc (.cells #[.slice ta' j.ts.length tc', .slice la' j.xs.length lc', .int .i64 j.bg, .int .i64 j.ln, .int .i64 j.en, .slice ua' j.vs.length uc', .slice xa' j.cs.length xc', .string j.o, .slice na' j.ns.length nc', .slice ma' j.ls.length mc'] 42) = W0 at *
  have HQ : Hid (∀ W, Below W0.heap.size W0 W → (W.heap[w.heap.size]? = some (.cells #[.slice ta j.ts.length tc, .slice la j.xs.length lc, .int .i64 j.bg, .int .i64 j.ln, .int .i64 j.en, .slice ua j.vs.length uc, .slice xa j.cs.length xc, .string j.o, .slice na j.ns.length nc, .slice ma j.ls.length mc] 42 (0, 0)) ∧ W.heap[w.heap.size + 1]? = some (.cells #[.slice ta' j.ts.length tc', .slice la' j.xs.length lc', .int .i64 j.bg, .int .i64 j.ln, .int .i64 j.en, .slice ua' j.vs.length uc', .slice xa' j.cs.length xc', .string j.o, .slice na' j.ns.length nc', .slice ma' j.ls.length mc'] 42 (0, 0))) ∧ Below w.heap.size w W) := fun W hb => ⟨⟨(hb.block _ (blk_lt HR0.out)).trans HR0.out, (hb.block _ (blk_lt HR1.out)).trans HR1.out⟩, HB0.out.trans (hb.mono HB0.out.size)⟩
  refine (CC.out _ HB0.out).mono ?_
  rintro e w1 ⟨rfl, hb1⟩
  have H1 : Hid (Below W0.heap.size W0 w1) := hb1
  clear hb1 CC HB0 HR0 HR1
  obtain ⟨⟨-, ⟨q5, q6, q7⟩, -⟩, -⟩ := tenJ (HQ.out _ H1.out).1.1
  obtain ⟨⟨-, ⟨p5, p6, p7⟩, -⟩, -⟩ := tenJ (HQ.out _ H1.out).1.2
  go_wp2_with fail
  refine (CS.out _ (HQ.out _ H1.out).2).mono ?_
  rintro e w2 ⟨rfl, hb2⟩
  have H2 : Hid (Below W0.heap.size W0 w2) := H1.out.trans (hb2.mono H1.out.size)
  clear hb2 CS H1 q5 q6 q7 p5 p6 p7
  obtain ⟨⟨-, -, q8, -⟩, -⟩ := tenJ (HQ.out _ H2.out).1.1
  obtain ⟨⟨-, -, p8, -⟩, -⟩ := tenJ (HQ.out _ H2.out).1.2
  go_wp2_with fail
  refine (CN.out _ (HQ.out _ H2.out).2).mono ?_
  rintro e w3 ⟨rfl, hb3⟩
  have H3 : Hid (Below W0.heap.size W0 w3) := H2.out.trans (hb3.mono H2.out.size)
  clear hb3 CN H2 q8 p8
  obtain ⟨⟨-, -, -, q9⟩, -⟩ := tenJ (HQ.out _ H3.out).1.1
  obtain ⟨⟨-, -, -, p9⟩, -⟩ := tenJ (HQ.out _ H3.out).1.2
  go_wp2_with fail
  refine (CM.out _ (HQ.out _ H3.out).2).mono ?_
  rintro e w4 ⟨rfl, hb4⟩
  have H4 : Hid (Below W0.heap.size W0 w4) := H3.out.trans (hb4.mono H3.out.size)
  clear hb4 CM H3 q9 p9
  go_wp2_with fail
  go_ret
  exact ⟨rfl, (HQ.out _ H4.out).2⟩
end PartJbL
end Go.Proofs.YtehagonaacbmiaaGreat
