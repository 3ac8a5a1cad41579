/- The law's own marks over who gives and gathers. Rows of tasks that grow. -/
import Derived.Test.YthnmopldpgdenaaMPTcKdJ
import Derived.Test.YthnmopldpgdenaaMPTcZas
namespace Go.Proofs.Ythnmopldpgdenaa
section PartKdK
open Go.RowKit

set_option maxRecDepth 100000 in
set_option maxHeartbeats 2000000 in
theorem markStoreK_any (lo mid hi : Nat) (tv lv : Value) (o : ByteArray) (vs : List Vr) (cs : List Cl) (k : Nat) (w : World) (h1 : VrIn lo mid w tv vs) (h2 : ClIn mid hi w lv cs) (hlm : lo ≤ mid) (hmh : mid ≤ hi) (hhw : hi ≤ w.heap.size) (hn : vs.length ≤ 1048576) (hm : cs.length ≤ 1048576) (hk : k ≤ 1000000000000000) (hk0 : 0 < k) :
    Calls Try.prog 28 #[.agg #[tv, lv, .string o], .int .i64 (k : Int)] w fun e w' => e = .returned (.int .i64 ((k + 2 * vs.length + 3 * cs.length : Nat) : Int)) ∧ VrIn lo mid w' tv (mkVr k vs.length) ∧ ClIn mid hi w' lv (mkCl (k + 2 * vs.length) cs.length) ∧ FM lo hi w w' := by
  have CV : Hid (∀ W : World, (∀ b, lo ≤ b → b < mid → W.heap[b]? = w.heap[b]?) → _) := fun (W : World) hW => markVrs_any lo mid tv vs k W (h1.keep hW) hn (by omega) hk0
  have CC : Hid (∀ W : World, (∀ b, mid ≤ b → b < hi → W.heap[b]? = w.heap[b]?) → _) := fun (W : World) hW => markCls_any mid hi lv cs (k + 2 * vs.length) W (h2.keep hW) hm (by omega) (by omega)
  obtain ⟨ad, c, rfl, -⟩ := h1
  obtain ⟨bd, d, rfl, -⟩ := h2
  obtain ⟨n, hN⟩ : ∃ n, n = vs.length := ⟨_, rfl⟩
  obtain ⟨m, hM⟩ : ∃ m, m = cs.length := ⟨_, rfl⟩
  rw [← hN] at CV CC ⊢
  rw [← hM] at CC ⊢
  clear hN hM hn hm
  have HB : Hid (Below w.heap.size w (w.alloc (.cells #[.slice ad n c, .slice bd m d, .string o] 40))) := (Below.refl _ _).alloc (Nat.le_refl _) _
  have q0 := heap_alloc_new w (.cells #[.slice ad n c, .slice bd m d, .string o] 40)
  have hz : w.heap.size < (w.alloc (.cells #[.slice ad n c, .slice bd m d, .string o] 40)).heap.size := by simp
  have HZ : Hid _ := And.intro q0 hz
  clear q0 hz
  go_enter Try.func28, Try.ntmps28
  go_wp2_with fail
  generalize w.alloc (.cells #[.slice ad n c, .slice bd m d, .string o] 40) = W0 at *
  refine (CV.out _ (fun b hb1 hb2 => HB.out.block b (by omega))).mono ?_
  rintro e w1 ⟨rfl, hv1, hf1⟩
  have R1 := (hf1.2.2 w.heap.size HZ.out.2 (by omega)).trans HZ.out.1
  have x1 : w1.cell? ⟨w.heap.size, 1, none⟩ = some (.slice bd m d) := (blk_cell R1 1).trans rfl
  have HF1 : Hid (FM lo mid W0 w1) := hf1
  have HV1 : Hid (VrIn lo mid w1 (.slice ad n c) (mkVr k n)) := hv1
  clear hf1 hv1 CV R1
  go_wp2_with fail
  refine (CC.out _ (fun b hb1 hb2 => (HF1.out.2.2 b (by have := HB.out.size; omega) (by omega)).trans (HB.out.block b (by omega)))).mono ?_
  rintro e w2 ⟨rfl, hc2, hf2⟩
  have HC2 : Hid (ClIn mid hi w2 (.slice bd m d) (mkCl (k + 2 * n) m)) := hc2
  have HF2 : Hid (FM mid hi w1 w2) := hf2
  clear hf2 hc2 CC x1
  go_wp2
  go_ret
  refine ⟨rfl, HV1.out.keep (fun b hb1 hb2 => HF2.out.2.2 b (by have := HF1.out.2.1; have := HB.out.size; omega) (by omega)), HC2.out, ?_⟩
  exact ((FM.ofBelow HB.out).trans (HF1.out.wider (Nat.le_refl _) hmh)).trans (HF2.out.wider hlm (Nat.le_refl _))

set_option maxRecDepth 100000 in
set_option maxHeartbeats 2000000 in
theorem heldStoreK_any (tv lv : Value) (o : ByteArray) (n m k : Nat) (w : World) (h1 : VrAt w tv (mkVr k n)) (h2 : ClAt w lv (mkCl (k + 2 * n) m)) (hn : n ≤ 1048576) (hm : m ≤ 1048576) (hk : k ≤ 1000000000000000) (hk0 : 0 < k) :
    Calls Try.prog 32 #[.agg #[tv, lv, .string o], .int .i64 (k : Int)] w fun e w' => e = .returned (.int .i64 ((k + 2 * n + 3 * m : Nat) : Int)) ∧ Below w.heap.size w w' := by
  have CV : Hid (∀ W, Below w.heap.size w W → _) := fun W hb => heldVrs_any tv n k W (h1.keep hb) hn (by omega) hk0
  have CC : Hid (∀ W, Below w.heap.size w W → _) := fun W hb => heldCls_any lv m (k + 2 * n) W (h2.keep hb) hm (by omega) (by omega)
  obtain ⟨ad, c, rfl, -⟩ := h1
  obtain ⟨bd, d, rfl, -⟩ := h2
  rw [mkVr_len] at CV ⊢
  rw [mkCl_len] at CC ⊢
  have HB : Hid (Below w.heap.size w (w.alloc (.cells #[.slice ad n c, .slice bd m d, .string o] 40))) := (Below.refl _ _).alloc (Nat.le_refl _) _
  have q0 := heap_alloc_new w (.cells #[.slice ad n c, .slice bd m d, .string o] 40)
  have hz : w.heap.size < (w.alloc (.cells #[.slice ad n c, .slice bd m d, .string o] 40)).heap.size := by simp
  have HZ : Hid _ := And.intro q0 hz
  have d1 : decide (((k + 2 * n : Nat) : Int) < 0) = false := decide_eq_false (by omega)
  have d2 : decide (((k + 2 * n + 3 * m : Nat) : Int) < 0) = false := decide_eq_false (by omega)
  obtain ⟨K1, hK1⟩ : ∃ K1, K1 = k + 2 * n := ⟨_, rfl⟩
  obtain ⟨K2, hK2⟩ : ∃ K2, K2 = k + 2 * n + 3 * m := ⟨_, rfl⟩
  rw [← hK1] at CV CC d1
  rw [← hK2] at d2 ⊢
  rw [show K1 + 3 * m = K2 by omega] at CC
  clear q0 hz hK1 hK2
  go_enter Try.func32, Try.ntmps32
  go_wp2_with fail
  generalize w.alloc (.cells #[.slice ad n c, .slice bd m d, .string o] 40) = W0 at *
  refine (CV.out _ HB.out).mono ?_
  rintro e w1 ⟨rfl, hb1⟩
  have x1 : w1.cell? ⟨w.heap.size, 1, none⟩ = some (.slice bd m d) := (blk_cell ((hb1.block _ HZ.out.2).trans HZ.out.1) 1).trans rfl
  have HB1 : Hid (Below w.heap.size w w1) := HB.out.trans (hb1.mono HB.out.size)
  clear hb1 CV
  go_wp2_with fail
  refine (CC.out _ HB1.out).mono ?_
  rintro e w2 ⟨rfl, hb2⟩
  have HB2 : Hid (Below w.heap.size w w2) := HB1.out.trans (hb2.mono HB1.out.size)
  clear hb2 CC x1
  go_wp2
  go_ret
  exact ⟨rfl, HB2.out⟩


theorem markStIn (lo hi : Nat) (u x : Value) (o : ByteArray) (vs : List Vr) (cs : List Cl) (k : Nat) (w : World) (h : StIn lo hi w u x vs cs) (hh : hi ≤ w.heap.size) (hn : vs.length ≤ 1048576) (hm : cs.length ≤ 1048576) (hk : k ≤ 1000000000000000) (hk0 : 0 < k) :
    Calls Try.prog 28 #[.agg #[u, x, .string o], .int .i64 (k : Int)] w fun e w' => e = .returned (.int .i64 ((k + 2 * vs.length + 3 * cs.length : Nat) : Int)) ∧ StIn lo hi w' u x (mkVr k vs.length) (mkCl (k + 2 * vs.length) cs.length) ∧ FM lo hi w w' := by
  obtain ⟨m, h1, h2, h3, h4⟩ := h
  exact (markStoreK_any lo m hi u x o vs cs k w h3 h4 h1 h2 hh hn hm hk hk0).mono fun _ _ hh => ⟨hh.1, ⟨m, h1, h2, hh.2.1, hh.2.2.1⟩, hh.2.2.2⟩
theorem heldStIn (lo hi : Nat) (u x : Value) (o : ByteArray) (n m k : Nat) (w : World) (h : StIn lo hi w u x (mkVr k n) (mkCl (k + 2 * n) m)) (hn : n ≤ 1048576) (hm : m ≤ 1048576) (hk : k ≤ 1000000000000000) (hk0 : 0 < k) :
    Calls Try.prog 32 #[.agg #[u, x, .string o], .int .i64 (k : Int)] w fun e w' => e = .returned (.int .i64 ((k + 2 * n + 3 * m : Nat) : Int)) ∧ Below w.heap.size w w' :=
  heldStoreK_any u x o n m k w h.vrAt.1 h.vrAt.2 hn hm hk hk0
theorem markKs_any (lo hi n k : Nat) (v : Value) (e : Nat → Te) (w : World) (h : KsO lo hi w v n e) (hh : hi ≤ w.heap.size) (hn : n ≤ 1048576) (hf : ∀ i, i < n → Few (e i).t) (hk : k ≤ 100000000) (hk0 : 0 < k) :
    Calls Try.prog 29 #[v, .int .i64 (k : Int)] w fun r w' => r = .returned (.int .i64 (kT e k n : Int)) ∧ KsO lo hi w' v n (stJ e k n) ∧ FM lo hi w w' := by
  obtain ⟨ad, c, rfl, f⟩ := h
  by_cases h0 : n = 0
  · subst h0
    refine (markTasks_none ad c k w).mono ?_
    rintro r w' ⟨rfl, rfl⟩
    exact ⟨rfl, ⟨ad, c, rfl, fun h => by omega⟩, FM.refl _ _ _⟩
  · obtain ⟨g, rfl, h1, h2, h3⟩ := f (by omega)
    exact (markTasks_any lo hi g n c k e w h3 ⟨h1, h2⟩ hh hn hf hk hk0).mono fun _ _ hh => ⟨hh.1, ⟨_, c, rfl, fun _ => ⟨g, rfl, h1, h2, hh.2.1⟩⟩, hh.2.2⟩
theorem heldKs_any (lo hi n k : Nat) (v : Value) (e : Nat → Te) (w : World) (h : KsO lo hi w v n (stJ e k n)) (hh : hi ≤ w.heap.size) (hn : n ≤ 1048576) (hf : ∀ i, i < n → Few (e i).t) (hk : k ≤ 100000000) (hk0 : 0 < k) :
    Calls Try.prog 33 #[v, .int .i64 (k : Int)] w fun r w' => r = .returned (.int .i64 (kT e k n : Int)) ∧ Below w.heap.size w w' := by
  obtain ⟨ad, c, rfl, f⟩ := h
  by_cases h0 : n = 0
  · subst h0
    refine (heldTasks_none ad c k w).mono ?_
    rintro r w' ⟨rfl, rfl⟩
    exact ⟨rfl, Below.refl _ _⟩
  · obtain ⟨g, rfl, h1, h2, h3⟩ := f (by omega)
    exact heldTasks_any lo hi g n c k e w h3 ⟨h1, h2⟩ hh hn hf hk hk0

set_option maxRecDepth 100000 in
set_option maxHeartbeats 4000000 in
theorem markCodeIn (p0 p1 p2 n r k1 k2 : Nat) (ta la : Option Addr) (tc lc : Nat) (ts : List ByteArray) (xs : List Ins) (bg li en : Int) (w : World) (e1 : k1 = 1 + n) (e2 : k2 = k1 + 2 * r) (hp : p0 ≤ p1 ∧ p1 ≤ p2 ∧ p2 ≤ w.heap.size) (hn : n = ts.length ∧ n ≤ 1048576) (hr : r = xs.length ∧ r ≤ 1048576) (ht : TxIn p0 p1 w (.slice ta n tc) ts) (hl : InIn p1 p2 w (.slice la r lc) xs) :
    Calls Try.prog 26 #[.agg #[.slice ta n tc, .slice la r lc, .int .i64 bg, .int .i64 li, .int .i64 en], .int .i64 1] w fun e w' => e = .returned (.int .i64 (k2 : Int)) ∧ (TxIn p0 p1 w' (.slice ta n tc) (mkTx 1 n) ∧ InIn p1 p2 w' (.slice la r lc) (mkIn k1 r)) ∧ FM p0 p2 w w' := by
  have HP := hidOfT hp
  have C0 : Hid (∀ W, (∀ q, p0 ≤ q → q < p1 → W.heap[q]? = w.heap[q]?) → w.heap.size ≤ W.heap.size → Calls Try.prog 27 #[.slice ta n tc, .int .i64 1] W fun er w' => er = .returned (.int .i64 (k1 : Int)) ∧ TxIn p0 p1 w' (.slice ta n tc) (mkTx 1 n) ∧ FM p0 p1 W w') := by
    intro W hq hs
    have h := markTxIn p0 p1 _ ts 1 W (ht.keep (fun q q1 q2 => hq q q1 q2)) (by omega) (by omega) (by omega)
    rw [show ((1 : Nat) : Int) = 1 from rfl, ← hn.1, ← e1] at h
    exact h
  have C1 : Hid (∀ W, (∀ q, p1 ≤ q → q < p2 → W.heap[q]? = w.heap[q]?) → w.heap.size ≤ W.heap.size → Calls Try.prog 51 #[.slice la r lc, .int .i64 (k1 : Int)] W fun er w' => er = .returned (.int .i64 (k2 : Int)) ∧ InIn p1 p2 w' (.slice la r lc) (mkIn k1 r) ∧ FM p1 p2 W w') := by
    intro W hq hs
    have h := markInIn p1 p2 _ xs k1 W (hl.keep (fun q q1 q2 => hq q q1 q2)) (by omega) (by omega)
    rw [← hr.1, ← e2] at h
    exact h
  have HB0 : Hid (Below w.heap.size w (w.alloc (.cells #[.slice ta n tc, .slice la r lc, .int .i64 bg, .int .i64 li, .int .i64 en] 36))) := (Below.refl _ _).alloc (Nat.le_refl _) _
  have HR0 : Hid ((w.alloc (.cells #[.slice ta n tc, .slice la r lc, .int .i64 bg, .int .i64 li, .int .i64 en] 36)).heap[w.heap.size]? = some (.cells #[.slice ta n tc, .slice la r lc, .int .i64 bg, .int .i64 li, .int .i64 en] 36 (0, 0))) := heap_alloc_new _ _
  have HS0 : Hid (w.heap.size < (w.alloc (.cells #[.slice ta n tc, .slice la r lc, .int .i64 bg, .int .i64 li, .int .i64 en] 36)).heap.size) := by show _ < _; simp
  clear ht hl hn hr e1 e2 
  go_enter Try.func26, Try.ntmps26
  go_wp2_with fail
  generalize w.alloc (.cells #[.slice ta n tc, .slice la r lc, .int .i64 bg, .int .i64 li, .int .i64 en] 36) = W0 at *
  have HF0 : Hid (FM p0 p0 w W0) := FM.ofBelow HB0.out
  refine (C0.out W0 (fun q q1 q2 => HF0.out.2.2 q (by have := HP.out; omega) (by have := HP.out; omega)) (by have := HS0.out; omega)).mono ?_
  rintro er w1 ⟨rfl, hr, hf⟩
  have HR1 : Hid (w1.heap[w.heap.size]? = some (.cells #[.slice ta n tc, .slice la r lc, .int .i64 bg, .int .i64 li, .int .i64 en] 36 (0, 0))) := (hf.2.2 _ (by have := HS0.out; omega) (by have := HP.out; omega)).trans HR0.out
  have HS1 : Hid (w.heap.size < w1.heap.size) := Nat.lt_of_lt_of_le HS0.out hf.2.1
  have HF1 : Hid (FM p0 p1 w w1) := (HF0.out.wider (Nat.le_refl _) (by have := HP.out; omega)).trans (hf.wider (by have := HP.out; omega) (Nat.le_refl _))
  have R1 : Hid (TxIn p0 p1 w1 (.slice ta n tc) (mkTx 1 n)) := hr
  clear hr hf C0 HR0 HS0 HF0  
  have q1 := (blk_cell HR1.out 1).trans rfl
  go_wp2_with fail
  refine (C1.out w1 (fun q q1 q2 => HF1.out.2.2 q (by have := HP.out; omega) (by have := HP.out; omega)) (by have := HS1.out; omega)).mono ?_
  rintro er w2 ⟨rfl, hr, hf⟩
  have HR2 : Hid (w2.heap[w.heap.size]? = some (.cells #[.slice ta n tc, .slice la r lc, .int .i64 bg, .int .i64 li, .int .i64 en] 36 (0, 0))) := (hf.2.2 _ (by have := HS1.out; omega) (by have := HP.out; omega)).trans HR1.out
  have HS2 : Hid (w.heap.size < w2.heap.size) := Nat.lt_of_lt_of_le HS1.out hf.2.1
  have HF2 : Hid (FM p0 p2 w w2) := (HF1.out.wider (Nat.le_refl _) (by have := HP.out; omega)).trans (hf.wider (by have := HP.out; omega) (Nat.le_refl _))
  have R1n : Hid (TxIn p0 p1 w2 (.slice ta n tc) (mkTx 1 n)) := R1.out.keep (fun q q1 q2 => hf.2.2 q (by have := HP.out; have := HS1.out; omega) (.inl (by have := HP.out; omega)))
  have R2 : Hid (InIn p1 p2 w2 (.slice la r lc) (mkIn k1 r)) := hr
  clear hr hf C1 HR1 HS1 HF1 R1 q1
  have R1 := hidOfT R1n.out
  clear R1n
  go_wp2_with fail
  go_ret
  exact ⟨rfl, ⟨R1.out, R2.out⟩, HF2.out⟩

set_option maxRecDepth 100000 in
set_option maxHeartbeats 4000000 in
theorem heldCodeIn (p0 p1 p2 n r k1 k2 : Nat) (ta la : Option Addr) (tc lc : Nat) (bg li en : Int) (w : World) (e1 : k1 = 1 + n) (e2 : k2 = k1 + 2 * r) (hp : p0 ≤ p1 ∧ p1 ≤ p2 ∧ p2 ≤ w.heap.size) (hn : n ≤ 1048576) (hr : r ≤ 1048576) (ht : TxIn p0 p1 w (.slice ta n tc) (mkTx 1 n)) (hl : InIn p1 p2 w (.slice la r lc) (mkIn k1 r)) :
    Calls Try.prog 30 #[.agg #[.slice ta n tc, .slice la r lc, .int .i64 bg, .int .i64 li, .int .i64 en], .int .i64 1] w fun e w' => e = .returned (.int .i64 (k2 : Int)) ∧ Below w.heap.size w w' := by
  have HP := hidOfT hp
  have C0 : Hid (∀ W, (∀ q, p0 ≤ q → q < p1 → W.heap[q]? = w.heap[q]?) → w.heap.size ≤ W.heap.size → Calls Try.prog 31 #[.slice ta n tc, .int .i64 1] W fun er w' => er = .returned (.int .i64 (k1 : Int)) ∧ Below W.heap.size W w') := by
    intro W hq hs
    have h := heldTxIn p0 p1 _ n 1 W (ht.keep (fun q q1 q2 => hq q q1 q2)) (by omega) (by omega) (by omega)
    rw [show ((1 : Nat) : Int) = 1 from rfl, ← e1] at h
    exact h
  have C1 : Hid (∀ W, (∀ q, p1 ≤ q → q < p2 → W.heap[q]? = w.heap[q]?) → w.heap.size ≤ W.heap.size → Calls Try.prog 55 #[.slice la r lc, .int .i64 (k1 : Int)] W fun er w' => er = .returned (.int .i64 (k2 : Int)) ∧ Below W.heap.size W w') := by
    intro W hq hs
    rw [e2]
    exact (heldInIn p1 p2 _ r k1 W (hl.keep (fun q q1 q2 => hq q q1 q2)) (by omega) (by omega)).mono fun _ _ hh => ⟨hh.1, by rw [hh.2]; exact Below.refl _ _⟩
  have HB0 : Hid (Below w.heap.size w (w.alloc (.cells #[.slice ta n tc, .slice la r lc, .int .i64 bg, .int .i64 li, .int .i64 en] 36))) := (Below.refl _ _).alloc (Nat.le_refl _) _
  have HR0 : Hid ((w.alloc (.cells #[.slice ta n tc, .slice la r lc, .int .i64 bg, .int .i64 li, .int .i64 en] 36)).heap[w.heap.size]? = some (.cells #[.slice ta n tc, .slice la r lc, .int .i64 bg, .int .i64 li, .int .i64 en] 36 (0, 0))) := heap_alloc_new _ _
  have HS0 : Hid (w.heap.size < (w.alloc (.cells #[.slice ta n tc, .slice la r lc, .int .i64 bg, .int .i64 li, .int .i64 en] 36)).heap.size) := by show _ < _; simp
  have d0 : decide ((k1 : Int) < 0) = false := decide_eq_false (by omega)
  have d1 : decide ((k2 : Int) < 0) = false := decide_eq_false (by omega)
  clear ht hl hn hr e1 e2 
  go_enter Try.func30, Try.ntmps30
  go_wp2_with fail
  generalize w.alloc (.cells #[.slice ta n tc, .slice la r lc, .int .i64 bg, .int .i64 li, .int .i64 en] 36) = W0 at *
  refine (C0.out W0 (fun q q1 q2 => HB0.out.block q (by have := HP.out; omega)) (by have := HS0.out; omega)).mono ?_
  rintro er w1 ⟨rfl, hb⟩
  have HR1 : Hid (w1.heap[w.heap.size]? = some (.cells #[.slice ta n tc, .slice la r lc, .int .i64 bg, .int .i64 li, .int .i64 en] 36 (0, 0))) := (hb.block _ HS0.out).trans HR0.out
  have HS1 : Hid (w.heap.size < w1.heap.size) := Nat.lt_of_lt_of_le HS0.out hb.size
  have HB1 : Hid (Below w.heap.size w w1) := HB0.out.trans (hb.mono HB0.out.size)
  clear hb C0 HR0 HS0 HB0 
  have q1 := (blk_cell HR1.out 1).trans rfl
  go_wp2_with fail
  refine (C1.out w1 (fun q q1 q2 => HB1.out.block q (by have := HP.out; omega)) (by have := HS1.out; omega)).mono ?_
  rintro er w2 ⟨rfl, hb⟩
  have HR2 : Hid (w2.heap[w.heap.size]? = some (.cells #[.slice ta n tc, .slice la r lc, .int .i64 bg, .int .i64 li, .int .i64 en] 36 (0, 0))) := (hb.block _ HS1.out).trans HR1.out
  have HS2 : Hid (w.heap.size < w2.heap.size) := Nat.lt_of_lt_of_le HS1.out hb.size
  have HB2 : Hid (Below w.heap.size w w2) := HB1.out.trans (hb.mono HB1.out.size)
  clear hb C1 HR1 HS1 HB1 q1
  go_wp2_with fail
  go_ret
  exact ⟨rfl, HB2.out⟩

/-- The rows, marked. -/
structure Co.Mk (p0 p1 p2 p3 p4 p5 p6 : Nat) (w : World) (tv lv nv bu bx kv fu fx : Value) (n ln nn p r nk pf rf k1 k2 k3 k4 k5 : Nat) (e : Nat → Te) : Prop where
  t : TxIn p0 p1 w tv (mkTx 1 n)
  l : InIn p1 p2 w lv (mkIn k1 ln)
  n : TxIn p2 p3 w nv (mkTx k2 nn)
  b : StIn p3 p4 w bu bx (mkVr k3 p) (mkCl (k3 + 2 * p) r)
  k : KsO p4 p5 w kv nk (stJ e k4 nk)
  f : StIn p5 p6 w fu fx (mkVr k5 pf) (mkCl (k5 + 2 * pf) rf)
theorem Co.Mk.keep {p0 p1 p2 p3 p4 p5 p6 : Nat} {w w' : World} {tv lv nv bu bx kv fu fx : Value} {n ln nn p r nk pf rf k1 k2 k3 k4 k5 : Nat} {e : Nat → Te} (h : Co.Mk p0 p1 p2 p3 p4 p5 p6 w tv lv nv bu bx kv fu fx n ln nn p r nk pf rf k1 k2 k3 k4 k5 e) (ho : p0 ≤ p1 ∧ p1 ≤ p2 ∧ p2 ≤ p3 ∧ p3 ≤ p4 ∧ p4 ≤ p5 ∧ p5 ≤ p6) (hk : ∀ q, p0 ≤ q → q < p6 → w'.heap[q]? = w.heap[q]?) : Co.Mk p0 p1 p2 p3 p4 p5 p6 w' tv lv nv bu bx kv fu fx n ln nn p r nk pf rf k1 k2 k3 k4 k5 e :=
  ⟨h.t.keep (fun q q1 q2 => hk q (by omega) (by omega)), h.l.keep (fun q q1 q2 => hk q (by omega) (by omega)), h.n.keep (fun q q1 q2 => hk q (by omega) (by omega)), h.b.keep (fun q q1 q2 => hk q (by omega) (by omega)), h.k.keep (fun q q1 q2 => hk q (by omega) (by omega)), h.f.keep (fun q q1 q2 => hk q (by omega) (by omega))⟩

set_option maxRecDepth 100000 in
set_option maxHeartbeats 8000000 in
theorem markCoord_any (p0 p1 p2 p3 p4 p5 p6 : Nat) (n ln nn p r nk pf rf k1 k2 k3 k4 k5 k6 : Nat) (ta la na ua xa ka ga ha : Option Addr) (tc lc nc uc xc kc gc hc : Nat) (bg li en : Int) (bo : ByteArray) (cnt now tries : Int) (over : Bool) (fo : ByteArray) (ts : List ByteArray) (xs : List Ins) (ns : List ByteArray) (bv : List Vr) (bc : List Cl) (fv : List Vr) (fc : List Cl) (e : Nat → Te) (w : World)
    (e1 : k1 = 1 + n) (e2 : k2 = k1 + 2 * ln) (e3 : k3 = k2 + nn) (e4 : k4 = k3 + 2 * p + 3 * r) (e5 : k5 = kT e k4 nk) (e6 : k6 = k5 + 2 * pf + 3 * rf) (hp : p0 ≤ p1 ∧ p1 ≤ p2 ∧ p2 ≤ p3 ∧ p3 ≤ p4 ∧ p4 ≤ p5 ∧ p5 ≤ p6 ∧ p6 ≤ w.heap.size) (hn : n ≤ 1048576 ∧ ln ≤ 1048576 ∧ nn ≤ 1048576 ∧ p ≤ 1048576 ∧ r ≤ 1048576 ∧ nk ≤ 1048576 ∧ pf ≤ 1048576 ∧ rf ≤ 1048576) (hf : ∀ i, i < nk → Few (e i).t)
    (h : (TxIn p0 p1 w (.slice ta n tc) ts ∧ n = ts.length) ∧ (InIn p1 p2 w (.slice la ln lc) xs ∧ ln = xs.length) ∧ (TxIn p2 p3 w (.slice na nn nc) ns ∧ nn = ns.length) ∧ (StIn p3 p4 w (.slice ua p uc) (.slice xa r xc) bv bc ∧ p = bv.length ∧ r = bc.length) ∧ KsO p4 p5 w (.slice ka nk kc) nk e ∧ (StIn p5 p6 w (.slice ga pf gc) (.slice ha rf hc) fv fc ∧ pf = fv.length ∧ rf = fc.length)) :
    Calls Try.prog 9 #[.agg #[.slice ta n tc, .slice la ln lc, .int .i64 bg, .int .i64 li, .int .i64 en, .slice na nn nc, .slice ua p uc, .slice xa r xc, .string bo, .int .i64 cnt, .slice ka nk kc, .int .i64 now, .int .i64 tries, .bool over, .slice ga pf gc, .slice ha rf hc, .string fo], .int .i64 1] w fun e' w' => e' = .returned (.int .i64 (k6 : Int)) ∧ Co.Mk p0 p1 p2 p3 p4 p5 p6 w' (.slice ta n tc) (.slice la ln lc) (.slice na nn nc) (.slice ua p uc) (.slice xa r xc) (.slice ka nk kc) (.slice ga pf gc) (.slice ha rf hc) n ln nn p r nk pf rf k1 k2 k3 k4 k5 e ∧ FM p0 p6 w w' := by
  have HP := hidOfT hp
  have hk5 : k4 ≤ k5 ∧ k5 ≤ 40000000000000 := by have := kT_le e k4 nk hf nk (Nat.le_refl _); omega
  obtain ⟨⟨g1, l1⟩, ⟨g2, l2⟩, ⟨g3, l3⟩, ⟨g4, l4, l5⟩, g5, ⟨g6, l6, l7⟩⟩ := id h
  have C0 : Hid (∀ W, (∀ q, p0 ≤ q → q < p2 → W.heap[q]? = w.heap[q]?) → w.heap.size ≤ W.heap.size → Calls Try.prog 26 #[.agg #[.slice ta n tc, .slice la ln lc, .int .i64 bg, .int .i64 li, .int .i64 en], .int .i64 1] W fun er w' => er = .returned (.int .i64 (k2 : Int)) ∧ (TxIn p0 p1 w' (.slice ta n tc) (mkTx 1 n) ∧ InIn p1 p2 w' (.slice la ln lc) (mkIn k1 ln)) ∧ FM p0 p2 W w') := by
    intro W hq hs
    exact markCodeIn p0 p1 p2 n ln k1 k2 ta la tc lc ts xs bg li en W e1 e2 (by omega) ⟨l1, by omega⟩ ⟨l2, by omega⟩ (g1.keep (fun q q1 q2 => hq q (by omega) (by omega))) (g2.keep (fun q q1 q2 => hq q (by omega) (by omega)))
  have C1 : Hid (∀ W, (∀ q, p2 ≤ q → q < p3 → W.heap[q]? = w.heap[q]?) → w.heap.size ≤ W.heap.size → Calls Try.prog 27 #[.slice na nn nc, .int .i64 (k2 : Int)] W fun er w' => er = .returned (.int .i64 (k3 : Int)) ∧ TxIn p2 p3 w' (.slice na nn nc) (mkTx k2 nn) ∧ FM p2 p3 W w') := by
    intro W hq hs
    have h := markTxIn p2 p3 _ ns k2 W (g3.keep (fun q q1 q2 => hq q q1 q2)) (by omega) (by omega) (by omega)
    rw [← l3, ← e3] at h
    exact h
  have C2 : Hid (∀ W, (∀ q, p3 ≤ q → q < p4 → W.heap[q]? = w.heap[q]?) → w.heap.size ≤ W.heap.size → Calls Try.prog 28 #[.agg #[.slice ua p uc, .slice xa r xc, .string bo], .int .i64 (k3 : Int)] W fun er w' => er = .returned (.int .i64 (k4 : Int)) ∧ StIn p3 p4 w' (.slice ua p uc) (.slice xa r xc) (mkVr k3 p) (mkCl (k3 + 2 * p) r) ∧ FM p3 p4 W w') := by
    intro W hq hs
    have h := markStIn p3 p4 _ _ bo bv bc k3 W (g4.keep (fun q q1 q2 => hq q q1 q2)) (by omega) (by omega) (by omega) (by omega) (by omega)
    rw [← l4, ← l5, ← e4] at h
    exact h
  have C3 : Hid (∀ W, (∀ q, p4 ≤ q → q < p5 → W.heap[q]? = w.heap[q]?) → w.heap.size ≤ W.heap.size → Calls Try.prog 29 #[.slice ka nk kc, .int .i64 (k4 : Int)] W fun er w' => er = .returned (.int .i64 (k5 : Int)) ∧ KsO p4 p5 w' (.slice ka nk kc) nk (stJ e k4 nk) ∧ FM p4 p5 W w') := by
    intro W hq hs
    have h := markKs_any p4 p5 nk k4 _ e W (g5.keep (fun q q1 q2 => hq q q1 q2)) (by omega) (by omega) hf (by omega) (by omega)
    rw [← e5] at h
    exact h
  have C4 : Hid (∀ W, (∀ q, p5 ≤ q → q < p6 → W.heap[q]? = w.heap[q]?) → w.heap.size ≤ W.heap.size → Calls Try.prog 28 #[.agg #[.slice ga pf gc, .slice ha rf hc, .string fo], .int .i64 (k5 : Int)] W fun er w' => er = .returned (.int .i64 (k6 : Int)) ∧ StIn p5 p6 w' (.slice ga pf gc) (.slice ha rf hc) (mkVr k5 pf) (mkCl (k5 + 2 * pf) rf) ∧ FM p5 p6 W w') := by
    intro W hq hs
    have h := markStIn p5 p6 _ _ fo fv fc k5 W (g6.keep (fun q q1 q2 => hq q q1 q2)) (by omega) (by omega) (by omega) (by omega) (by omega)
    rw [← l6, ← l7, ← e6] at h
    exact h
  have HB0 : Hid (Below w.heap.size w (w.alloc (.cells #[.slice ta n tc, .slice la ln lc, .int .i64 bg, .int .i64 li, .int .i64 en, .slice na nn nc, .slice ua p uc, .slice xa r xc, .string bo, .int .i64 cnt, .slice ka nk kc, .int .i64 now, .int .i64 tries, .bool over, .slice ga pf gc, .slice ha rf hc, .string fo] 43))) := (Below.refl _ _).alloc (Nat.le_refl _) _
  have HR0 : Hid ((w.alloc (.cells #[.slice ta n tc, .slice la ln lc, .int .i64 bg, .int .i64 li, .int .i64 en, .slice na nn nc, .slice ua p uc, .slice xa r xc, .string bo, .int .i64 cnt, .slice ka nk kc, .int .i64 now, .int .i64 tries, .bool over, .slice ga pf gc, .slice ha rf hc, .string fo] 43)).heap[w.heap.size]? = some (.cells #[.slice ta n tc, .slice la ln lc, .int .i64 bg, .int .i64 li, .int .i64 en, .slice na nn nc, .slice ua p uc, .slice xa r xc, .string bo, .int .i64 cnt, .slice ka nk kc, .int .i64 now, .int .i64 tries, .bool over, .slice ga pf gc, .slice ha rf hc, .string fo] 43 (0, 0))) := heap_alloc_new _ _
  have HS0 : Hid (w.heap.size < (w.alloc (.cells #[.slice ta n tc, .slice la ln lc, .int .i64 bg, .int .i64 li, .int .i64 en, .slice na nn nc, .slice ua p uc, .slice xa r xc, .string bo, .int .i64 cnt, .slice ka nk kc, .int .i64 now, .int .i64 tries, .bool over, .slice ga pf gc, .slice ha rf hc, .string fo] 43)).heap.size) := by show _ < _; simp
  clear h hn hf e1 e2 e3 e4 e5 e6 hk5 g1 g2 g3 g4 g5 g6 l1 l2 l3 l4 l5 l6 l7
  go_enter Try.func9, Try.ntmps9
  go_wp2_with fail
  generalize w.alloc (.cells #[.slice ta n tc, .slice la ln lc, .int .i64 bg, .int .i64 li, .int .i64 en, .slice na nn nc, .slice ua p uc, .slice xa r xc, .string bo, .int .i64 cnt, .slice ka nk kc, .int .i64 now, .int .i64 tries, .bool over, .slice ga pf gc, .slice ha rf hc, .string fo] 43) = W0 at *
  have HF0 : Hid (FM p0 p0 w W0) := FM.ofBelow HB0.out
  refine (C0.out W0 (fun q q1 q2 => HF0.out.2.2 q (by have := HP.out; omega) (by have := HP.out; omega)) (by have := HS0.out; omega)).mono ?_
  rintro er w1 ⟨rfl, hr, hf⟩
  have HR1 : Hid (w1.heap[w.heap.size]? = some (.cells #[.slice ta n tc, .slice la ln lc, .int .i64 bg, .int .i64 li, .int .i64 en, .slice na nn nc, .slice ua p uc, .slice xa r xc, .string bo, .int .i64 cnt, .slice ka nk kc, .int .i64 now, .int .i64 tries, .bool over, .slice ga pf gc, .slice ha rf hc, .string fo] 43 (0, 0))) := (hf.2.2 _ (by have := HS0.out; omega) (by have := HP.out; omega)).trans HR0.out
  have HS1 : Hid (w.heap.size < w1.heap.size) := Nat.lt_of_lt_of_le HS0.out hf.2.1
  have HF1 : Hid (FM p0 p2 w w1) := (HF0.out.wider (Nat.le_refl _) (by have := HP.out; omega)).trans (hf.wider (by have := HP.out; omega) (Nat.le_refl _))
  have R1 : Hid ((TxIn p0 p1 w1 (.slice ta n tc) (mkTx 1 n) ∧ InIn p1 p2 w1 (.slice la ln lc) (mkIn k1 ln))) := hr
  clear hr hf C0 HR0 HS0 HF0  
  have q5 := (blk_cell HR1.out 5).trans rfl
  go_wp2_with fail
  refine (C1.out w1 (fun q q1 q2 => HF1.out.2.2 q (by have := HP.out; omega) (by have := HP.out; omega)) (by have := HS1.out; omega)).mono ?_
  rintro er w2 ⟨rfl, hr, hf⟩
  have HR2 : Hid (w2.heap[w.heap.size]? = some (.cells #[.slice ta n tc, .slice la ln lc, .int .i64 bg, .int .i64 li, .int .i64 en, .slice na nn nc, .slice ua p uc, .slice xa r xc, .string bo, .int .i64 cnt, .slice ka nk kc, .int .i64 now, .int .i64 tries, .bool over, .slice ga pf gc, .slice ha rf hc, .string fo] 43 (0, 0))) := (hf.2.2 _ (by have := HS1.out; omega) (by have := HP.out; omega)).trans HR1.out
  have HS2 : Hid (w.heap.size < w2.heap.size) := Nat.lt_of_lt_of_le HS1.out hf.2.1
  have HF2 : Hid (FM p0 p3 w w2) := (HF1.out.wider (Nat.le_refl _) (by have := HP.out; omega)).trans (hf.wider (by have := HP.out; omega) (Nat.le_refl _))
  have R1n : Hid ((TxIn p0 p1 w2 (.slice ta n tc) (mkTx 1 n) ∧ InIn p1 p2 w2 (.slice la ln lc) (mkIn k1 ln))) := ⟨R1.out.1.keep (fun q q1 q2 => hf.2.2 q (by have := HP.out; have := HS1.out; omega) (.inl (by have := HP.out; omega))), R1.out.2.keep (fun q q1 q2 => hf.2.2 q (by have := HP.out; have := HS1.out; omega) (.inl (by have := HP.out; omega)))⟩
  have R2 : Hid (TxIn p2 p3 w2 (.slice na nn nc) (mkTx k2 nn)) := hr
  clear hr hf C1 HR1 HS1 HF1 R1 q5
  have R1 := hidOfT R1n.out
  clear R1n
  have q6 := (blk_cell HR2.out 6).trans rfl
  have q7 := (blk_cell HR2.out 7).trans rfl
  have q8 := (blk_cell HR2.out 8).trans rfl
  go_wp2_with fail
  refine (C2.out w2 (fun q q1 q2 => HF2.out.2.2 q (by have := HP.out; omega) (by have := HP.out; omega)) (by have := HS2.out; omega)).mono ?_
  rintro er w3 ⟨rfl, hr, hf⟩
  have HR3 : Hid (w3.heap[w.heap.size]? = some (.cells #[.slice ta n tc, .slice la ln lc, .int .i64 bg, .int .i64 li, .int .i64 en, .slice na nn nc, .slice ua p uc, .slice xa r xc, .string bo, .int .i64 cnt, .slice ka nk kc, .int .i64 now, .int .i64 tries, .bool over, .slice ga pf gc, .slice ha rf hc, .string fo] 43 (0, 0))) := (hf.2.2 _ (by have := HS2.out; omega) (by have := HP.out; omega)).trans HR2.out
  have HS3 : Hid (w.heap.size < w3.heap.size) := Nat.lt_of_lt_of_le HS2.out hf.2.1
  have HF3 : Hid (FM p0 p4 w w3) := (HF2.out.wider (Nat.le_refl _) (by have := HP.out; omega)).trans (hf.wider (by have := HP.out; omega) (Nat.le_refl _))
  have R1n : Hid ((TxIn p0 p1 w3 (.slice ta n tc) (mkTx 1 n) ∧ InIn p1 p2 w3 (.slice la ln lc) (mkIn k1 ln))) := ⟨R1.out.1.keep (fun q q1 q2 => hf.2.2 q (by have := HP.out; have := HS2.out; omega) (.inl (by have := HP.out; omega))), R1.out.2.keep (fun q q1 q2 => hf.2.2 q (by have := HP.out; have := HS2.out; omega) (.inl (by have := HP.out; omega)))⟩
  have R2n : Hid (TxIn p2 p3 w3 (.slice na nn nc) (mkTx k2 nn)) := R2.out.keep (fun q q1 q2 => hf.2.2 q (by have := HP.out; have := HS2.out; omega) (.inl (by have := HP.out; omega)))
  have R3 : Hid (StIn p3 p4 w3 (.slice ua p uc) (.slice xa r xc) (mkVr k3 p) (mkCl (k3 + 2 * p) r)) := hr
  clear hr hf C2 HR2 HS2 HF2 R1 R2 q6 q7 q8
  have R1 := hidOfT R1n.out
  clear R1n
  have R2 := hidOfT R2n.out
  clear R2n
  have q10 := (blk_cell HR3.out 10).trans rfl
  go_wp2_with fail
  refine (C3.out w3 (fun q q1 q2 => HF3.out.2.2 q (by have := HP.out; omega) (by have := HP.out; omega)) (by have := HS3.out; omega)).mono ?_
  rintro er w4 ⟨rfl, hr, hf⟩
  have HR4 : Hid (w4.heap[w.heap.size]? = some (.cells #[.slice ta n tc, .slice la ln lc, .int .i64 bg, .int .i64 li, .int .i64 en, .slice na nn nc, .slice ua p uc, .slice xa r xc, .string bo, .int .i64 cnt, .slice ka nk kc, .int .i64 now, .int .i64 tries, .bool over, .slice ga pf gc, .slice ha rf hc, .string fo] 43 (0, 0))) := (hf.2.2 _ (by have := HS3.out; omega) (by have := HP.out; omega)).trans HR3.out
  have HS4 : Hid (w.heap.size < w4.heap.size) := Nat.lt_of_lt_of_le HS3.out hf.2.1
  have HF4 : Hid (FM p0 p5 w w4) := (HF3.out.wider (Nat.le_refl _) (by have := HP.out; omega)).trans (hf.wider (by have := HP.out; omega) (Nat.le_refl _))
  have R1n : Hid ((TxIn p0 p1 w4 (.slice ta n tc) (mkTx 1 n) ∧ InIn p1 p2 w4 (.slice la ln lc) (mkIn k1 ln))) := ⟨R1.out.1.keep (fun q q1 q2 => hf.2.2 q (by have := HP.out; have := HS3.out; omega) (.inl (by have := HP.out; omega))), R1.out.2.keep (fun q q1 q2 => hf.2.2 q (by have := HP.out; have := HS3.out; omega) (.inl (by have := HP.out; omega)))⟩
  have R2n : Hid (TxIn p2 p3 w4 (.slice na nn nc) (mkTx k2 nn)) := R2.out.keep (fun q q1 q2 => hf.2.2 q (by have := HP.out; have := HS3.out; omega) (.inl (by have := HP.out; omega)))
  have R3n : Hid (StIn p3 p4 w4 (.slice ua p uc) (.slice xa r xc) (mkVr k3 p) (mkCl (k3 + 2 * p) r)) := R3.out.keep (fun q q1 q2 => hf.2.2 q (by have := HP.out; have := HS3.out; omega) (.inl (by have := HP.out; omega)))
  have R4 : Hid (KsO p4 p5 w4 (.slice ka nk kc) nk (stJ e k4 nk)) := hr
  clear hr hf C3 HR3 HS3 HF3 R1 R2 R3 q10
  have R1 := hidOfT R1n.out
  clear R1n
  have R2 := hidOfT R2n.out
  clear R2n
  have R3 := hidOfT R3n.out
  clear R3n
  have q14 := (blk_cell HR4.out 14).trans rfl
  have q15 := (blk_cell HR4.out 15).trans rfl
  have q16 := (blk_cell HR4.out 16).trans rfl
  go_wp2_with fail
  refine (C4.out w4 (fun q q1 q2 => HF4.out.2.2 q (by have := HP.out; omega) (by have := HP.out; omega)) (by have := HS4.out; omega)).mono ?_
  rintro er w5 ⟨rfl, hr, hf⟩
  have HR5 : Hid (w5.heap[w.heap.size]? = some (.cells #[.slice ta n tc, .slice la ln lc, .int .i64 bg, .int .i64 li, .int .i64 en, .slice na nn nc, .slice ua p uc, .slice xa r xc, .string bo, .int .i64 cnt, .slice ka nk kc, .int .i64 now, .int .i64 tries, .bool over, .slice ga pf gc, .slice ha rf hc, .string fo] 43 (0, 0))) := (hf.2.2 _ (by have := HS4.out; omega) (by have := HP.out; omega)).trans HR4.out
  have HS5 : Hid (w.heap.size < w5.heap.size) := Nat.lt_of_lt_of_le HS4.out hf.2.1
  have HF5 : Hid (FM p0 p6 w w5) := (HF4.out.wider (Nat.le_refl _) (by have := HP.out; omega)).trans (hf.wider (by have := HP.out; omega) (Nat.le_refl _))
  have R1n : Hid ((TxIn p0 p1 w5 (.slice ta n tc) (mkTx 1 n) ∧ InIn p1 p2 w5 (.slice la ln lc) (mkIn k1 ln))) := ⟨R1.out.1.keep (fun q q1 q2 => hf.2.2 q (by have := HP.out; have := HS4.out; omega) (.inl (by have := HP.out; omega))), R1.out.2.keep (fun q q1 q2 => hf.2.2 q (by have := HP.out; have := HS4.out; omega) (.inl (by have := HP.out; omega)))⟩
  have R2n : Hid (TxIn p2 p3 w5 (.slice na nn nc) (mkTx k2 nn)) := R2.out.keep (fun q q1 q2 => hf.2.2 q (by have := HP.out; have := HS4.out; omega) (.inl (by have := HP.out; omega)))
  have R3n : Hid (StIn p3 p4 w5 (.slice ua p uc) (.slice xa r xc) (mkVr k3 p) (mkCl (k3 + 2 * p) r)) := R3.out.keep (fun q q1 q2 => hf.2.2 q (by have := HP.out; have := HS4.out; omega) (.inl (by have := HP.out; omega)))
  have R4n : Hid (KsO p4 p5 w5 (.slice ka nk kc) nk (stJ e k4 nk)) := R4.out.keep (fun q q1 q2 => hf.2.2 q (by have := HP.out; have := HS4.out; omega) (.inl (by have := HP.out; omega)))
  have R5 : Hid (StIn p5 p6 w5 (.slice ga pf gc) (.slice ha rf hc) (mkVr k5 pf) (mkCl (k5 + 2 * pf) rf)) := hr
  clear hr hf C4 HR4 HS4 HF4 R1 R2 R3 R4 q14 q15 q16
  have R1 := hidOfT R1n.out
  clear R1n
  have R2 := hidOfT R2n.out
  clear R2n
  have R3 := hidOfT R3n.out
  clear R3n
  have R4 := hidOfT R4n.out
  clear R4n
  go_wp2_with fail
  go_ret
  exact ⟨rfl, ⟨R1.out.1, R1.out.2, R2.out, R3.out, R4.out, R5.out⟩, HF5.out⟩

set_option maxRecDepth 100000 in
set_option maxHeartbeats 8000000 in
theorem heldCoord_any (p0 p1 p2 p3 p4 p5 p6 : Nat) (n ln nn p r nk pf rf k1 k2 k3 k4 k5 k6 : Nat) (ta la na ua xa ka ga ha : Option Addr) (tc lc nc uc xc kc gc hc : Nat) (bg li en : Int) (bo : ByteArray) (cnt now tries : Int) (over : Bool) (fo : ByteArray) (e : Nat → Te) (w : World)
    (e1 : k1 = 1 + n) (e2 : k2 = k1 + 2 * ln) (e3 : k3 = k2 + nn) (e4 : k4 = k3 + 2 * p + 3 * r) (e5 : k5 = kT e k4 nk) (e6 : k6 = k5 + 2 * pf + 3 * rf) (hp : p0 ≤ p1 ∧ p1 ≤ p2 ∧ p2 ≤ p3 ∧ p3 ≤ p4 ∧ p4 ≤ p5 ∧ p5 ≤ p6 ∧ p6 ≤ w.heap.size) (hn : n ≤ 1048576 ∧ ln ≤ 1048576 ∧ nn ≤ 1048576 ∧ p ≤ 1048576 ∧ r ≤ 1048576 ∧ nk ≤ 1048576 ∧ pf ≤ 1048576 ∧ rf ≤ 1048576) (hf : ∀ i, i < nk → Few (e i).t)
    (h : Co.Mk p0 p1 p2 p3 p4 p5 p6 w (.slice ta n tc) (.slice la ln lc) (.slice na nn nc) (.slice ua p uc) (.slice xa r xc) (.slice ka nk kc) (.slice ga pf gc) (.slice ha rf hc) n ln nn p r nk pf rf k1 k2 k3 k4 k5 e) :
    Calls Try.prog 10 #[.agg #[.slice ta n tc, .slice la ln lc, .int .i64 bg, .int .i64 li, .int .i64 en, .slice na nn nc, .slice ua p uc, .slice xa r xc, .string bo, .int .i64 cnt, .slice ka nk kc, .int .i64 now, .int .i64 tries, .bool over, .slice ga pf gc, .slice ha rf hc, .string fo], .int .i64 1] w fun e' w' => e' = .returned (.int .i64 (k6 : Int)) ∧ Below w.heap.size w w' := by
  have HP := hidOfT hp
  have hk5 : k4 ≤ k5 ∧ k5 ≤ 40000000000000 := by have := kT_le e k4 nk hf nk (Nat.le_refl _); omega
  obtain ⟨g1, g2, g3, g4, g5, g6⟩ := id h
  have C0 : Hid (∀ W, (∀ q, p0 ≤ q → q < p2 → W.heap[q]? = w.heap[q]?) → w.heap.size ≤ W.heap.size → Calls Try.prog 30 #[.agg #[.slice ta n tc, .slice la ln lc, .int .i64 bg, .int .i64 li, .int .i64 en], .int .i64 1] W fun er w' => er = .returned (.int .i64 (k2 : Int)) ∧ Below W.heap.size W w') := by
    intro W hq hs
    exact heldCodeIn p0 p1 p2 n ln k1 k2 ta la tc lc bg li en W e1 e2 (by omega) (by omega) (by omega) (g1.keep (fun q q1 q2 => hq q (by omega) (by omega))) (g2.keep (fun q q1 q2 => hq q (by omega) (by omega)))
  have C1 : Hid (∀ W, (∀ q, p2 ≤ q → q < p3 → W.heap[q]? = w.heap[q]?) → w.heap.size ≤ W.heap.size → Calls Try.prog 31 #[.slice na nn nc, .int .i64 (k2 : Int)] W fun er w' => er = .returned (.int .i64 (k3 : Int)) ∧ Below W.heap.size W w') := by
    intro W hq hs
    rw [e3]
    exact heldTxIn p2 p3 _ nn k2 W (g3.keep (fun q q1 q2 => hq q q1 q2)) (by omega) (by omega) (by omega)
  have C2 : Hid (∀ W, (∀ q, p3 ≤ q → q < p4 → W.heap[q]? = w.heap[q]?) → w.heap.size ≤ W.heap.size → Calls Try.prog 32 #[.agg #[.slice ua p uc, .slice xa r xc, .string bo], .int .i64 (k3 : Int)] W fun er w' => er = .returned (.int .i64 (k4 : Int)) ∧ Below W.heap.size W w') := by
    intro W hq hs
    rw [e4]
    exact heldStIn p3 p4 _ _ bo p r k3 W (g4.keep (fun q q1 q2 => hq q q1 q2)) (by omega) (by omega) (by omega) (by omega)
  have C3 : Hid (∀ W, (∀ q, p4 ≤ q → q < p5 → W.heap[q]? = w.heap[q]?) → w.heap.size ≤ W.heap.size → Calls Try.prog 33 #[.slice ka nk kc, .int .i64 (k4 : Int)] W fun er w' => er = .returned (.int .i64 (k5 : Int)) ∧ Below W.heap.size W w') := by
    intro W hq hs
    rw [e5]
    exact heldKs_any p4 p5 nk k4 _ e W (g5.keep (fun q q1 q2 => hq q q1 q2)) (by omega) (by omega) hf (by omega) (by omega)
  have C4 : Hid (∀ W, (∀ q, p5 ≤ q → q < p6 → W.heap[q]? = w.heap[q]?) → w.heap.size ≤ W.heap.size → Calls Try.prog 32 #[.agg #[.slice ga pf gc, .slice ha rf hc, .string fo], .int .i64 (k5 : Int)] W fun er w' => er = .returned (.int .i64 (k6 : Int)) ∧ Below W.heap.size W w') := by
    intro W hq hs
    rw [e6]
    exact heldStIn p5 p6 _ _ fo pf rf k5 W (g6.keep (fun q q1 q2 => hq q q1 q2)) (by omega) (by omega) (by omega) (by omega)
  have HB0 : Hid (Below w.heap.size w (w.alloc (.cells #[.slice ta n tc, .slice la ln lc, .int .i64 bg, .int .i64 li, .int .i64 en, .slice na nn nc, .slice ua p uc, .slice xa r xc, .string bo, .int .i64 cnt, .slice ka nk kc, .int .i64 now, .int .i64 tries, .bool over, .slice ga pf gc, .slice ha rf hc, .string fo] 43))) := (Below.refl _ _).alloc (Nat.le_refl _) _
  have HR0 : Hid ((w.alloc (.cells #[.slice ta n tc, .slice la ln lc, .int .i64 bg, .int .i64 li, .int .i64 en, .slice na nn nc, .slice ua p uc, .slice xa r xc, .string bo, .int .i64 cnt, .slice ka nk kc, .int .i64 now, .int .i64 tries, .bool over, .slice ga pf gc, .slice ha rf hc, .string fo] 43)).heap[w.heap.size]? = some (.cells #[.slice ta n tc, .slice la ln lc, .int .i64 bg, .int .i64 li, .int .i64 en, .slice na nn nc, .slice ua p uc, .slice xa r xc, .string bo, .int .i64 cnt, .slice ka nk kc, .int .i64 now, .int .i64 tries, .bool over, .slice ga pf gc, .slice ha rf hc, .string fo] 43 (0, 0))) := heap_alloc_new _ _
  have HS0 : Hid (w.heap.size < (w.alloc (.cells #[.slice ta n tc, .slice la ln lc, .int .i64 bg, .int .i64 li, .int .i64 en, .slice na nn nc, .slice ua p uc, .slice xa r xc, .string bo, .int .i64 cnt, .slice ka nk kc, .int .i64 now, .int .i64 tries, .bool over, .slice ga pf gc, .slice ha rf hc, .string fo] 43)).heap.size) := by show _ < _; simp
  have d0 : decide ((k2 : Int) < 0) = false := decide_eq_false (by omega)
  have d1 : decide ((k3 : Int) < 0) = false := decide_eq_false (by omega)
  have d2 : decide ((k4 : Int) < 0) = false := decide_eq_false (by omega)
  have d3 : decide ((k5 : Int) < 0) = false := decide_eq_false (by omega)
  have d4 : decide ((k6 : Int) < 0) = false := decide_eq_false (by omega)
  clear h hn hf e1 e2 e3 e4 e5 e6 hk5 g1 g2 g3 g4 g5 g6
  go_enter Try.func10, Try.ntmps10
  go_wp2_with fail
  generalize w.alloc (.cells #[.slice ta n tc, .slice la ln lc, .int .i64 bg, .int .i64 li, .int .i64 en, .slice na nn nc, .slice ua p uc, .slice xa r xc, .string bo, .int .i64 cnt, .slice ka nk kc, .int .i64 now, .int .i64 tries, .bool over, .slice ga pf gc, .slice ha rf hc, .string fo] 43) = W0 at *
  refine (C0.out W0 (fun q q1 q2 => HB0.out.block q (by have := HP.out; omega)) (by have := HS0.out; omega)).mono ?_
  rintro er w1 ⟨rfl, hb⟩
  have HR1 : Hid (w1.heap[w.heap.size]? = some (.cells #[.slice ta n tc, .slice la ln lc, .int .i64 bg, .int .i64 li, .int .i64 en, .slice na nn nc, .slice ua p uc, .slice xa r xc, .string bo, .int .i64 cnt, .slice ka nk kc, .int .i64 now, .int .i64 tries, .bool over, .slice ga pf gc, .slice ha rf hc, .string fo] 43 (0, 0))) := (hb.block _ HS0.out).trans HR0.out
  have HS1 : Hid (w.heap.size < w1.heap.size) := Nat.lt_of_lt_of_le HS0.out hb.size
  have HB1 : Hid (Below w.heap.size w w1) := HB0.out.trans (hb.mono HB0.out.size)
  clear hb C0 HR0 HS0 HB0 
  have q5 := (blk_cell HR1.out 5).trans rfl
  go_wp2_with fail
  refine (C1.out w1 (fun q q1 q2 => HB1.out.block q (by have := HP.out; omega)) (by have := HS1.out; omega)).mono ?_
  rintro er w2 ⟨rfl, hb⟩
  have HR2 : Hid (w2.heap[w.heap.size]? = some (.cells #[.slice ta n tc, .slice la ln lc, .int .i64 bg, .int .i64 li, .int .i64 en, .slice na nn nc, .slice ua p uc, .slice xa r xc, .string bo, .int .i64 cnt, .slice ka nk kc, .int .i64 now, .int .i64 tries, .bool over, .slice ga pf gc, .slice ha rf hc, .string fo] 43 (0, 0))) := (hb.block _ HS1.out).trans HR1.out
  have HS2 : Hid (w.heap.size < w2.heap.size) := Nat.lt_of_lt_of_le HS1.out hb.size
  have HB2 : Hid (Below w.heap.size w w2) := HB1.out.trans (hb.mono HB1.out.size)
  clear hb C1 HR1 HS1 HB1 q5
  have q6 := (blk_cell HR2.out 6).trans rfl
  have q7 := (blk_cell HR2.out 7).trans rfl
  have q8 := (blk_cell HR2.out 8).trans rfl
  go_wp2_with fail
  refine (C2.out w2 (fun q q1 q2 => HB2.out.block q (by have := HP.out; omega)) (by have := HS2.out; omega)).mono ?_
  rintro er w3 ⟨rfl, hb⟩
  have HR3 : Hid (w3.heap[w.heap.size]? = some (.cells #[.slice ta n tc, .slice la ln lc, .int .i64 bg, .int .i64 li, .int .i64 en, .slice na nn nc, .slice ua p uc, .slice xa r xc, .string bo, .int .i64 cnt, .slice ka nk kc, .int .i64 now, .int .i64 tries, .bool over, .slice ga pf gc, .slice ha rf hc, .string fo] 43 (0, 0))) := (hb.block _ HS2.out).trans HR2.out
  have HS3 : Hid (w.heap.size < w3.heap.size) := Nat.lt_of_lt_of_le HS2.out hb.size
  have HB3 : Hid (Below w.heap.size w w3) := HB2.out.trans (hb.mono HB2.out.size)
  clear hb C2 HR2 HS2 HB2 q6 q7 q8
  have q10 := (blk_cell HR3.out 10).trans rfl
  go_wp2_with fail
  refine (C3.out w3 (fun q q1 q2 => HB3.out.block q (by have := HP.out; omega)) (by have := HS3.out; omega)).mono ?_
  rintro er w4 ⟨rfl, hb⟩
  have HR4 : Hid (w4.heap[w.heap.size]? = some (.cells #[.slice ta n tc, .slice la ln lc, .int .i64 bg, .int .i64 li, .int .i64 en, .slice na nn nc, .slice ua p uc, .slice xa r xc, .string bo, .int .i64 cnt, .slice ka nk kc, .int .i64 now, .int .i64 tries, .bool over, .slice ga pf gc, .slice ha rf hc, .string fo] 43 (0, 0))) := (hb.block _ HS3.out).trans HR3.out
  have HS4 : Hid (w.heap.size < w4.heap.size) := Nat.lt_of_lt_of_le HS3.out hb.size
  have HB4 : Hid (Below w.heap.size w w4) := HB3.out.trans (hb.mono HB3.out.size)
  clear hb C3 HR3 HS3 HB3 q10
  have q14 := (blk_cell HR4.out 14).trans rfl
  have q15 := (blk_cell HR4.out 15).trans rfl
  have q16 := (blk_cell HR4.out 16).trans rfl
  go_wp2_with fail
  refine (C4.out w4 (fun q q1 q2 => HB4.out.block q (by have := HP.out; omega)) (by have := HS4.out; omega)).mono ?_
  rintro er w5 ⟨rfl, hb⟩
  have HR5 : Hid (w5.heap[w.heap.size]? = some (.cells #[.slice ta n tc, .slice la ln lc, .int .i64 bg, .int .i64 li, .int .i64 en, .slice na nn nc, .slice ua p uc, .slice xa r xc, .string bo, .int .i64 cnt, .slice ka nk kc, .int .i64 now, .int .i64 tries, .bool over, .slice ga pf gc, .slice ha rf hc, .string fo] 43 (0, 0))) := (hb.block _ HS4.out).trans HR4.out
  have HS5 : Hid (w.heap.size < w5.heap.size) := Nat.lt_of_lt_of_le HS4.out hb.size
  have HB5 : Hid (Below w.heap.size w w5) := HB4.out.trans (hb.mono HB4.out.size)
  clear hb C4 HR4 HS4 HB4 q14 q15 q16
  go_wp2_with fail
  go_ret
  exact ⟨rfl, HB5.out⟩

end PartKdK
section PartKdL
open Go.RowKit

/-- A task with its rows, which lie anywhere in blocks from a on, below d. -/
def Te.Ok2 (w : World) (e : Te) : Prop := TxIn e.a e.d w e.l e.t.ls ∧ VrIn e.a e.d w e.u e.t.vs ∧ ClIn e.a e.d w e.x e.t.cs
theorem Te.Ok2.keep {w w' : World} {e : Te} (h : e.Ok2 w) (hk : ∀ q, e.a ≤ q → q < e.d → w'.heap[q]? = w.heap[q]?) : e.Ok2 w' := ⟨h.1.keep hk, h.2.1.keep hk, h.2.2.keep hk⟩
theorem Te.Ok2.rows {w : World} {e : Te} (h : e.Ok2 w) : Tk.Rows w e.l e.u e.x e.t := ⟨h.1.at, h.2.1.at, h.2.2.at⟩
/-- What stays where its own blocks do. -/
def Stays (P : World → Te → Prop) : Prop := ∀ (w w' : World) (e : Te), P w e → (∀ q, e.a ≤ q → q < e.d → w'.heap[q]? = w.heap[q]?) → P w' e
theorem stays_ok : Stays (fun w e => e.Ok w) := fun _ _ _ h hk => h.keep hk
theorem stays_ok2 : Stays (fun w e => e.Ok2 w) := fun _ _ _ h hk => h.keep hk
def cellsTe (es : List Te) : List Value := es.flatMap Te.cells
theorem cellsTe_get (es : List Te) (i : Nat) (hi : i < es.length) (j : Nat) (hj : j < 7) : (cellsTe es)[i * 7 + j]? = (Te.cells (es.getD i Te.no))[j]? := by
  induction es generalizing i with
  | nil => simp at hi
  | cons x xs ih =>
    have e : cellsTe (x :: xs) = Te.cells x ++ cellsTe xs := rfl
    have l7 : (Te.cells x).length = 7 := rfl
    cases i with
    | zero =>
      rw [e, List.getElem?_append_left (by omega)]
      simp
    | succ i =>
      rw [e, List.getElem?_append_right (by omega), l7, show (i + 1) * 7 + j - 7 = i * 7 + j by omega, ih i (by simpa using hi)]
      simp
/-- The row v of the tasks es, in memory of its own from block B on; each task's rows lie in blocks of its own. -/
structure KRow (P : World → Te → Prop) (B : Nat) (w : World) (v : Value) (es : List Te) : Prop where
  row : w.ownsRow B 76 7 v es.length (cellsTe es)
  each : ∀ i, i < es.length → P w (es.getD i Te.no)
  inn : ∀ i, i < es.length → B ≤ (es.getD i Te.no).a ∧ (es.getD i Te.no).d ≤ w.heap.size
  ord : ∀ i j, i < j → j < es.length → (es.getD i Te.no).d ≤ (es.getD j Te.no).a
  far : ∀ i, i < es.length → ∀ q, v.ownBlock = some q → q < (es.getD i Te.no).a ∨ (es.getD i Te.no).d ≤ q
theorem KRow.new {P : World → Te → Prop} {B : Nat} {w : World} {v : Value} (h : w.ownsRow B 76 7 v 0 []) : KRow P B w v [] :=
  ⟨h, fun i hi => by simp at hi, fun i hi => by simp at hi, fun i j _ hj => by simp at hj, fun i hi => by simp at hi⟩
theorem KRow.keep {P : World → Te → Prop} (hP : Stays P) {B : Nat} {w w' : World} {v : Value} {es : List Te} (h : KRow P B w v es) (hsz : w.heap.size ≤ w'.heap.size) (hk : ∀ q, B ≤ q → q < w.heap.size → w'.heap[q]? = w.heap[q]?) : KRow P B w' v es :=
  ⟨ownKeep h.row (fun q hq => hk q (World.ownsRow.lt h.row q hq).1 (World.ownsRow.lt h.row q hq).2), fun i hi => hP _ _ _ (h.each i hi) (fun q q1 q2 => hk q (by have := h.inn i hi; omega) (by have := h.inn i hi; omega)), fun i hi => by have := h.inn i hi; omega, h.ord, h.far⟩
theorem KRow.form {P : World → Te → Prop} {B : Nat} {w : World} {v : Value} {es : List Te} (h : KRow P B w v es) : ∃ ad c, v = .slice ad es.length c := by
  rcases h.row.2 with ⟨rfl, hn⟩ | ⟨g, cap, cur, rfl, _⟩
  · exact ⟨none, 0, by rw [hn]⟩
  · exact ⟨_, cap, rfl⟩
/-- One task more. -/
theorem KRow.push {P : World → Te → Prop} (hP : Stays P) {ops : Array Oper} {rest : List Oper} {o : Oper} {a : Act} {Q : Exit → Act → World → Prop} {B : Nat} {w : World} {v : Value} {es : List Te}
    (hown : KRow P B w v es) (hgd : o.guard = none) (s y : Operand)
    (ho : o.op = .call { callee := .builtin .append, args := #[s, y], argTypes := #[41, 41] })
    (hs : a.eval s = v) (x : Te) (hx : P w x) (hxB : B ≤ x.a) (hxd : x.d ≤ w.heap.size) (hord : ∀ i, i < es.length → (es.getD i Te.no).d ≤ x.a) (hfar : ∀ q, v.ownBlock = some q → q < x.a ∨ x.d ≤ q)
    (hone : x.l.oneCell' = true ∧ x.u.oneCell' = true ∧ x.x.oneCell' = true)
    (H : Nat) (hH : w.heap.size = H) (hy : a.eval y = .slice (some ⟨H, 0, none⟩) 1 1)
    (hlen : es.length < 2000000) (hB : B ≤ w.heap.size)
    (h : ∀ q cap w', KRow P B w' (.slice (some ⟨q, 0, none⟩) (es.length + 1) cap) (es ++ [x]) → w.heap.size ≤ w'.heap.size → Below B w w' →
      wpList Try.prog ops Q rest (a.put o.dst (.slice (some ⟨q, 0, none⟩) (es.length + 1) cap)) w') :
    wpList Try.prog ops Q (o :: rest) a (w.alloc (.cells #[x.l, .int .i64 x.t.try_, .int .i64 x.t.till, .bool x.t.done, x.u, x.x, .string x.t.o] 76)) := by
  subst hH
  obtain ⟨i0, hi, hz0, hz1, hz2⟩ := info_parts Try.infoTk
  refine wpList_append_lies _ hgd s y 41 ho B 76 i0 (.agg #[.slice none 0 0, .int .i64 0, .int .i64 0, .bool false, .slice none 0 0, .slice none 0 0, .string ByteArray.empty]) 7 112 Try.underlying41 hi hz0 hz1 hz2 rfl (by decide) v es.length (cellsTe es) hs (World.ownsRow.alloc hown.row _) ⟨w.heap.size, 0, none⟩ 1 1 (Te.cells x) hy rfl
    (World.news_of_block (cs := #[x.l, .int .i64 x.t.try_, .int .i64 x.t.till, .bool x.t.done, x.u, x.x, .string x.t.o]) (t := 76) (fr := (0, 0)) (heap_alloc_new w _)) ?_ (by omega) ?_ ?_ ?_ (w.heap.size + 1) (by simp) ?_
  · intro u hu
    unfold Te.cells at hu
    simp at hu
    rcases hu with rfl | rfl | rfl | rfl | rfl | rfl | rfl
    · exact hone.1
    · rfl
    · rfl
    · rfl
    · exact hone.2.1
    · exact hone.2.2
    · rfl
  · unfold maxLen; omega
  · omega
  · simp; omega
  · intro g cap w' h2 h3 h4 h5
    have hb0 : Below w.heap.size w (w.alloc (.cells #[x.l, .int .i64 x.t.try_, .int .i64 x.t.till, .bool x.t.done, x.u, x.x, .string x.t.o] 76)) := (Below.refl _ w).alloc (Nat.le_refl _) _
    have hs3 := h3.size
    simp at hs3
    have hb3 : Below B w w' := (hb0.mono hB).grown h3 (by simp; omega) (fun k hk => (World.ownsRow.lt hown.row k hk).1)
    have hk : ∀ q, q < w.heap.size → v.ownBlock ≠ some q → w'.heap[q]? = w.heap[q]? := fun q hq hv => (h3.block q (by simp; omega) (fun e => hv e.symm)).trans (hb0.block q hq)
    have hg : v.ownBlock = some g ∨ g = w.heap.size + 1 := h4
    refine h g cap w' ⟨?_, ?_, ?_, ?_, ?_⟩ (by omega) hb3
    · have e : cellsTe (es ++ [x]) = cellsTe es ++ Te.cells x := by simp [cellsTe]
      rw [e, List.length_append]
      exact h2
    · intro i hi
      by_cases hlt : i < es.length
      · rw [getD_app_lt _ _ _ _ hlt]
        refine hP _ _ _ (hown.each i hlt) (fun q q1 q2 => hk q (by have := hown.inn i hlt; omega) (fun e => ?_))
        have := hown.far i hlt q e
        omega
      · rw [getD_app_eq _ _ _ _ (by simp at hi; omega)]
        refine hP _ _ _ hx (fun q q1 q2 => hk q (by omega) (fun e => ?_))
        have := hfar q e
        omega
    · intro i hi
      by_cases hlt : i < es.length
      · rw [getD_app_lt _ _ _ _ hlt]
        have := hown.inn i hlt
        omega
      · rw [getD_app_eq _ _ _ _ (by simp at hi; omega)]
        omega
    · intro i j hij hj
      by_cases hlt : j < es.length
      · rw [getD_app_lt _ _ _ _ hlt, getD_app_lt _ _ _ _ (by omega)]
        exact hown.ord i j hij hlt
      · have ej : j = es.length := by simp at hj; omega
        rw [getD_app_lt _ _ _ _ (by omega), getD_app_eq _ _ _ _ ej]
        exact hord i (by omega)
    · intro i hi q hq
      have eq : g = q := by simpa [Value.ownBlock] using hq
      subst eq
      by_cases hlt : i < es.length
      · rw [getD_app_lt _ _ _ _ hlt]
        rcases hg with hg | hg
        · exact hown.far i hlt g hg
        · have := hown.inn i hlt
          omega
      · rw [getD_app_eq _ _ _ _ (by simp at hi; omega)]
        rcases hg with hg | hg
        · exact hfar g hg
        · omega
theorem KRow.kso {B : Nat} {w : World} {v : Value} {es : List Te} (h : KRow (fun w e => e.Ok w) B w v es) : KsO B w.heap.size w v es.length (fun i => es.getD i Te.no) := by
  have h' := h.row
  rcases h'.2 with ⟨rfl, hn⟩ | ⟨g, cap, cur, rfl, h1, hg, hc1, hc2, hc3, hc4⟩
  · exact ⟨none, 0, by rw [hn], fun h0 => by omega⟩
  · refine ⟨_, cap, rfl, fun _ => ⟨g, rfl, h1, blk_lt hg, ⟨⟨cur, hg, ?_, fun i hi => ?_⟩, h.each, h.inn, h.ord, fun i hi => h.far i hi g rfl⟩⟩⟩
    · omega
    · have t : ∀ j, j < 7 → cur[i * 7 + j]? = (Te.cells (es.getD i Te.no))[j]? := fun j hj => by
        have := World.ownsRow.cellAt h.row (i * 7 + j) (by omega)
        rw [blk_cell hg] at this
        rw [this]
        exact cellsTe_get es i hi j hj
      exact ⟨t 0 (by omega), t 1 (by omega), t 2 (by omega), t 3 (by omega), t 4 (by omega), t 5 (by omega), t 6 (by omega)⟩
theorem KRow.at {B : Nat} {w : World} {v : Value} {es : List Te} {ks : List Tk} (h : KRow (fun w e => e.Ok2 w) B w v es) (hs : es.length = ks.length ∧ ∀ i, i < ks.length → (es.getD i Te.no).t = ks.getD i Tk.no) : KsAt w v ks := by
  have h' := h.row
  rcases h'.2 with ⟨rfl, hn⟩ | ⟨g, cap, cur, rfl, h1, hg, hc1, hc2, hc3, hc4⟩
  · exact ⟨none, 0, by rw [← hs.1, hn], fun h0 => by omega⟩
  · refine ⟨_, cap, by rw [hs.1], fun _ => ⟨g, 0, rfl, blk_lt hg, fun i hi => ⟨(es.getD i Te.no).l, (es.getD i Te.no).u, (es.getD i Te.no).x, ?_, ?_⟩⟩⟩
    · have t : ∀ j, j < 7 → w.cell? ⟨g, 0 + i * 7 + j, none⟩ = (Te.cells (es.getD i Te.no))[j]? := fun j hj => by
        rw [Nat.zero_add, World.ownsRow.cellAt h.row (i * 7 + j) (by omega)]
        exact cellsTe_get es i (by omega) j hj
      rw [← hs.2 i hi]
      exact ⟨t 0 (by omega), t 1 (by omega), t 2 (by omega), t 3 (by omega), t 4 (by omega), t 5 (by omega), t 6 (by omega)⟩
    · rw [← hs.2 i hi]
      exact (h.each i (by omega)).rows
end PartKdL
end Go.Proofs.Ythnmopldpgdenaa
