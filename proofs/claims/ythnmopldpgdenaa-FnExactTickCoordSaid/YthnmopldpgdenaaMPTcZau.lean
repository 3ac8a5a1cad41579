/- The law's own marks over texts, instructions and tasks. The law's own marks over a row of tasks. -/
import Derived.Test.YthnmopldpgdenaaMPTcZas
import Derived.Test.YthnmopldpgdenaaMPTcZar
namespace Go.Proofs.Ythnmopldpgdenaa
section PartKdF
open Go.RowKit

def IVk (lo hi : Nat) : Nat → Prop := fun q => lo ≤ q ∧ q < hi
theorem FM.ofFSk {lo hi : Nat} {w w' : World} (h : FS (IVk lo hi) w w') : FM lo hi w w' := ⟨h.1, h.2.1, fun q hq hh => h.2.2 q hq (by intro e; obtain ⟨e1, e2⟩ := e; omega)⟩
/-- The marks of m texts from k on. -/
def mkTx (k m : Nat) : List ByteArray := (List.range m).map fun i => ⟨(mk (k + i)).toArray⟩
theorem mkTx_len (k m : Nat) : (mkTx k m).length = m := by simp [mkTx]
theorem mkTx_get (k m i : Nat) (h : i < m) : (mkTx k m).getD i ByteArray.empty = ⟨(mk (k + i)).toArray⟩ := by simp [mkTx, h]
theorem TxIn.wtv {lo hi : Nat} {w : World} {v : Value} {ts : List ByteArray} (h : TxIn lo hi w v ts) (k : Nat) : WTv (IVk lo hi) w v ts.length k 0 := by
  obtain ⟨ad, cap, rfl, f⟩ := h
  refine ⟨ad, cap, rfl, fun h0 => ?_⟩
  obtain ⟨g, arr, rfl, h1, h2, ha, hc⟩ := f h0
  refine ⟨g, rfl, ⟨h1, h2⟩, arr, ha, ?_, fun i hi => by omega⟩
  have := hc (ts.length - 1) (by omega)
  have := (Array.getElem?_eq_some_iff.1 this).1
  omega
theorem WTv.txin {lo hi : Nat} {w : World} {v : Value} {n k : Nat} (h : WTv (IVk lo hi) w v n k n) : TxIn lo hi w v (mkTx k n) := by
  obtain ⟨ad, c, rfl, f⟩ := h
  refine ⟨ad, c, by rw [mkTx_len], fun h0 => ?_⟩
  rw [mkTx_len] at h0
  obtain ⟨r, rfl, h1, arr, ha, hs, hm⟩ := f h0
  refine ⟨r, arr, rfl, h1.1, h1.2, ha, fun i hi => ?_⟩
  rw [mkTx_len] at hi
  rw [mkTx_get k n i hi]
  exact hm i hi
theorem TxIn.wtm {lo hi : Nat} {w : World} {v : Value} {n k : Nat} (h : TxIn lo hi w v (mkTx k n)) : WTv (IVk lo hi) w v n k n := by
  obtain ⟨ad, cap, rfl, f⟩ := h
  rw [mkTx_len] at f ⊢
  refine ⟨ad, cap, rfl, fun h0 => ?_⟩
  obtain ⟨g, arr, rfl, h1, h2, ha, hc⟩ := f h0
  refine ⟨g, rfl, ⟨h1, h2⟩, arr, ha, ?_, fun i hi => ?_⟩
  · have := hc (n - 1) (by omega)
    have := (Array.getElem?_eq_some_iff.1 this).1
    omega
  · have := hc i hi
    rwa [mkTx_get k n i hi] at this
theorem markTxIn (lo hi : Nat) (v : Value) (ts : List ByteArray) (k : Nat) (w : World) (h : TxIn lo hi w v ts) (hn : ts.length ≤ 1048576) (hk : k ≤ 10000000000000000) (hk0 : 0 < k) :
    Calls Try.prog 27 #[v, .int .i64 (k : Int)] w fun e w' => e = .returned (.int .i64 ((k + ts.length : Nat) : Int)) ∧ TxIn lo hi w' v (mkTx k ts.length) ∧ FM lo hi w w' :=
  (markTxs_any (IVk lo hi) ts.length k v w (h.wtv k) (by omega) hk hk0).mono fun _ _ hh => ⟨hh.1, hh.2.1.txin, FM.ofFSk hh.2.2⟩
theorem heldTxIn (lo hi : Nat) (v : Value) (n k : Nat) (w : World) (h : TxIn lo hi w v (mkTx k n)) (hn : n ≤ 1048576) (hk : k ≤ 10000000000000000) (hk0 : 0 < k) :
    Calls Try.prog 31 #[v, .int .i64 (k : Int)] w fun e w' => e = .returned (.int .i64 ((k + n : Nat) : Int)) ∧ Below w.heap.size w w' :=
  heldTxs_any (IVk lo hi) n k v w h.wtm (by omega) hk hk0
/-- The marks of m instructions from k on. -/
def mkIn (k m : Nat) : List Ins := (List.range m).map fun i => ⟨((k + 2 * i : Nat) : Int), ((k + 2 * i + 1 : Nat) : Int)⟩
theorem mkIn_len (k m : Nat) : (mkIn k m).length = m := by simp [mkIn]
theorem mkIn_get (k m i : Nat) (h : i < m) : (mkIn k m).getD i Ins.no = ⟨((k + 2 * i : Nat) : Int), ((k + 2 * i + 1 : Nat) : Int)⟩ := by simp [mkIn, h]
theorem InIn.wjv {lo hi : Nat} {w : World} {v : Value} {xs : List Ins} (h : InIn lo hi w v xs) (k : Nat) : WJv (IVk lo hi) w v xs.length k 0 := by
  obtain ⟨ad, cap, rfl, f⟩ := h
  refine ⟨ad, cap, rfl, fun h0 => ?_⟩
  obtain ⟨g, arr, rfl, h1, h2, ha, hc⟩ := f h0
  refine ⟨g, rfl, ⟨h1, h2⟩, arr, ha, ?_, fun i hi => by omega⟩
  have := (hc (xs.length - 1) (by omega)).2
  have := (Array.getElem?_eq_some_iff.1 this).1
  omega
theorem WJv.inin {lo hi : Nat} {w : World} {v : Value} {n k : Nat} (h : WJv (IVk lo hi) w v n k n) : InIn lo hi w v (mkIn k n) := by
  obtain ⟨ad, c, rfl, f⟩ := h
  refine ⟨ad, c, by rw [mkIn_len], fun h0 => ?_⟩
  rw [mkIn_len] at h0
  obtain ⟨r, rfl, h1, arr, ha, hs, hm⟩ := f h0
  refine ⟨r, arr, rfl, h1.1, h1.2, ha, fun i hi => ?_⟩
  rw [mkIn_len] at hi
  rw [mkIn_get k n i hi]
  exact hm i hi
theorem InIn.wjm {lo hi : Nat} {w : World} {v : Value} {n k : Nat} (h : InIn lo hi w v (mkIn k n)) : WJv (IVk lo hi) w v n k n := by
  obtain ⟨ad, cap, rfl, f⟩ := h
  rw [mkIn_len] at f ⊢
  refine ⟨ad, cap, rfl, fun h0 => ?_⟩
  obtain ⟨g, arr, rfl, h1, h2, ha, hc⟩ := f h0
  refine ⟨g, rfl, ⟨h1, h2⟩, arr, ha, ?_, fun i hi => ?_⟩
  · have := (hc (n - 1) (by omega)).2
    have := (Array.getElem?_eq_some_iff.1 this).1
    omega
  · have := hc i hi
    rwa [mkIn_get k n i hi] at this
theorem markInIn (lo hi : Nat) (v : Value) (xs : List Ins) (k : Nat) (w : World) (h : InIn lo hi w v xs) (hn : xs.length ≤ 1048576) (hk : k ≤ 10000000000000000) :
    Calls Try.prog 51 #[v, .int .i64 (k : Int)] w fun e w' => e = .returned (.int .i64 ((k + 2 * xs.length : Nat) : Int)) ∧ InIn lo hi w' v (mkIn k xs.length) ∧ FM lo hi w w' :=
  (markIns_any (IVk lo hi) xs.length k v w (h.wjv k) hn hk).mono fun _ _ hh => ⟨hh.1, hh.2.1.inin, FM.ofFSk hh.2.2⟩
theorem heldInIn (lo hi : Nat) (v : Value) (n k : Nat) (w : World) (h : InIn lo hi w v (mkIn k n)) (hn : n ≤ 1048576) (hk : k ≤ 10000000000000000) :
    Calls Try.prog 55 #[v, .int .i64 (k : Int)] w fun e w' => e = .returned (.int .i64 ((k + 2 * n : Nat) : Int)) ∧ w' = w :=
  heldIns_any (IVk lo hi) n k v w h.wjm hn hk

/-- How many marks a task bears. -/
def Tk.num (t : Tk) : Nat := t.ls.length + 1 + 1 + 1 + 2 * t.vs.length + 3 * t.cs.length + 1
/-- The task's marks from k on. -/
def mkTk (k : Nat) (t : Tk) : Tk :=
  ⟨mkTx k t.ls.length, ((k + t.ls.length : Nat) : Int), ((k + t.ls.length + 1 : Nat) : Int), (((k + t.ls.length + 1 + 1 : Nat) : Int) % 3 == 0), mkVr (k + t.ls.length + 1 + 1 + 1) t.vs.length, mkCl (k + t.ls.length + 1 + 1 + 1 + 2 * t.vs.length) t.cs.length, ⟨(mk (k + t.ls.length + 1 + 1 + 1 + 2 * t.vs.length + 3 * t.cs.length)).toArray⟩⟩
/-- The first mark of the i-th task. -/
def kT (e : Nat → Te) (k : Nat) : Nat → Nat
  | 0 => k
  | i + 1 => kT e k i + (e i).t.num
/-- Few of each. -/
def Few (t : Tk) : Prop := t.ls.length ≤ 1048576 ∧ t.vs.length ≤ 1048576 ∧ t.cs.length ≤ 1048576
theorem kT_le (e : Nat → Te) (k n : Nat) (hf : ∀ i, i < n → Few (e i).t) (i : Nat) (hi : i ≤ n) : k ≤ kT e k i ∧ kT e k i ≤ k + i * 10000000 := by
  induction i with
  | zero => simp [kT]
  | succ i ih =>
    have h1 := ih (by omega)
    obtain ⟨f1, f2, f3⟩ := hf i (by omega)
    have : (e i).t.num ≤ 10000000 := by unfold Tk.num; omega
    unfold kT
    omega
def mkE (e : Nat → Te) (k i : Nat) : Te := ⟨mkTk (kT e k i) (e i).t, (e i).l, (e i).u, (e i).x, (e i).a, (e i).d⟩
/-- The first j are marked. -/
def stJ (e : Nat → Te) (k j : Nat) : Nat → Te := fun i => if i < j then mkE e k i else e i
theorem stJ_zero (e : Nat → Te) (k : Nat) : stJ e k 0 = e := by funext i; simp [stJ]
theorem stJ_same (e : Nat → Te) (k j i : Nat) : (stJ e k j i).a = (e i).a ∧ (stJ e k j i).d = (e i).d ∧ (stJ e k j i).l = (e i).l ∧ (stJ e k j i).u = (e i).u ∧ (stJ e k j i).x = (e i).x := by
  unfold stJ
  split <;> exact ⟨rfl, rfl, rfl, rfl, rfl⟩
/-- One task more is marked. -/
theorem KsB.mark {lo hi : Nat} {w w' : World} {g n k j : Nat} {e : Nat → Te} (h : KsB lo hi w g n n (stJ e k j)) (hj : j < n) {arr arr' : Array Value} (ha : w.heap[g]? = some (.cells arr 76 (0, 0))) (ha' : w'.heap[g]? = some (.cells arr' 76 (0, 0))) (hs : arr'.size = arr.size)
    (hk : ∀ q, lo ≤ q → q < hi → q ≠ g → (q < (e j).a ∨ (e j).d ≤ q) → w'.heap[q]? = w.heap[q]?) (hv : Sev arr' (j * 7) (mkE e k j)) (hf : ∀ m, (m < j * 7 ∨ j * 7 + 7 ≤ m) → arr'[m]? = arr[m]?) (hok : (mkE e k j).Ok w') : KsB lo hi w' g n n (stJ e k (j + 1)) := by
  have hsm := stJ_same e k j
  have hsm1 := stJ_same e k (j + 1)
  obtain ⟨arr0, ha0, hz, hc⟩ := h.blk
  rw [ha] at ha0
  obtain rfl : arr = arr0 := by simpa using ha0
  refine ⟨⟨arr', ha', by omega, fun i hi => ?_⟩, fun i hi => ?_, fun i hi => ?_, fun i i' hij hj' => ?_, fun i hi => ?_⟩
  · by_cases ei : i = j
    · subst ei
      unfold stJ
      rw [if_pos (by omega)]
      exact hv
    · obtain ⟨c0, c1, c2, c3, c4, c5, c6⟩ := hc i hi
      have e2 : stJ e k (j + 1) i = stJ e k j i := by
        unfold stJ
        by_cases hlt : i < j
        · rw [if_pos (by omega), if_pos hlt]
        · rw [if_neg (by omega), if_neg hlt]
      rw [e2]
      exact ⟨(hf _ (by omega)).trans c0, (hf _ (by omega)).trans c1, (hf _ (by omega)).trans c2, (hf _ (by omega)).trans c3, (hf _ (by omega)).trans c4, (hf _ (by omega)).trans c5, (hf _ (by omega)).trans c6⟩
  · by_cases ei : i = j
    · subst ei
      unfold stJ
      rw [if_pos (by omega)]
      exact hok
    · have e2 : stJ e k (j + 1) i = stJ e k j i := by
        unfold stJ
        by_cases hlt : i < j
        · rw [if_pos (by omega), if_pos hlt]
        · rw [if_neg (by omega), if_neg hlt]
      rw [e2]
      refine (h.each i hi).keep (fun q q1 q2 => ?_)
      have t1 := h.inn i hi
      have t2 := h.far i hi
      have s1 := hsm i
      have s2 := hsm j
      have t3 : (e i).d ≤ (e j).a ∨ (e j).d ≤ (e i).a := by
        by_cases hlt : i < j
        · have := h.ord i j hlt hj
          have := hsm i
          have := hsm j
          omega
        · have := h.ord j i (by omega) hi
          have := hsm i
          have := hsm j
          omega
      exact hk q (by omega) (by omega) (by omega) (by omega)
  · have := h.inn i hi
    have := hsm i
    have := hsm1 i
    omega
  · have := h.ord i i' hij hj'
    have := hsm i
    have := hsm1 i
    have := hsm i'
    have := hsm1 i'
    omega
  · have := h.far i hi
    have := hsm i
    have := hsm1 i
    omega
end PartKdF
section PartKdG
open Go.RowKit

theorem markTasks_none (ad : Option Addr) (c k : Nat) (w : World) :
    Calls Try.prog 29 #[.slice ad 0 c, .int .i64 (k : Int)] w fun e w' => e = .returned (.int .i64 (k : Int)) ∧ w' = w := by
  go_enter Try.func29, Try.ntmps29
  go_wp2
  refine wp_loop_rounds 1 ?_
  rw [rounds_succ]
  go_wp2
  go_ret
  exact ⟨rfl, rfl⟩
theorem heldTasks_none (ad : Option Addr) (c k : Nat) (w : World) :
    Calls Try.prog 33 #[.slice ad 0 c, .int .i64 (k : Int)] w fun e w' => e = .returned (.int .i64 (k : Int)) ∧ w' = w := by
  go_enter Try.func33, Try.ntmps33
  go_wp2
  refine wp_loop_rounds 1 ?_
  rw [rounds_succ]
  go_wp2
  go_ret
  exact ⟨rfl, rfl⟩

set_option maxRecDepth 100000 in
set_option maxHeartbeats 4000000 in
theorem markTasks_any (lo hi g n c k : Nat) (e : Nat → Te) (w : World) (h : KsB lo hi w g n n e) (hg : lo ≤ g ∧ g < hi) (hh : hi ≤ w.heap.size) (hn : n ≤ 1048576) (hf : ∀ i, i < n → Few (e i).t) (hk : k ≤ 100000000) (hk0 : 0 < k) :
    Calls Try.prog 29 #[.slice (some ⟨g, 0, none⟩) n c, .int .i64 (k : Int)] w fun r w' => r = .returned (.int .i64 (kT e k n : Int)) ∧ KsB lo hi w' g n n (stJ e k n) ∧ FM lo hi w w' := by
  have HW : Hid (KsB lo hi w g n n (stJ e k 0)) := by rw [stJ_zero]; exact h
  have HG : Hid ((lo ≤ g ∧ g < hi) ∧ hi ≤ w.heap.size) := ⟨hg, hh⟩
  have HF : Hid (∀ i, i < n → Few (e i).t) := hf
  have HK : Hid (∀ i, i ≤ n → 0 < kT e k i ∧ kT e k i ≤ 20000000000000) := fun i hi => by have := kT_le e k n hf i hi; omega
  clear h hf hg hh
  go_enter Try.func29, Try.ntmps29
  go_wp2
  go_loopw [1, 5] (fun q i wr => ∃ j x : Nat, i = .int .i64 (j : Int) ∧ q = .int .i64 (x : Int) ∧ Hid (x = kT e k j) ∧ j ≤ n ∧ Hid (FM lo hi w wr) ∧ Hid (KsB lo hi wr g n n (stJ e k j))) (fun _ i _ => n - (intOf i).toNat)
  case atStart => exact ⟨0, k, rfl, rfl, rfl, by omega, FM.refl _ _ _, HW.out⟩
  case round =>
    clear HW
    obtain ⟨j, x, rfl, rfl, HX, hj, HFM, HH⟩ := hrel
    by_cases hlt : j < n
    · obtain ⟨t, ht⟩ : ∃ t, t = (e j).t := ⟨_, rfl⟩
      have HTE : Hid (t = (e j).t) := ht
      have hfew : Few t := by rw [ht]; exact HF.out j hlt
      have hxx : 0 < x ∧ x ≤ 20000000000000 := by have := HK.out j hj; rw [← HX.out] at this; exact this
      obtain ⟨arr, ha, hsa, hcs⟩ := HH.out.blk
      have hev : Sev arr (j * 7) (e j) := by have := hcs j hlt; unfold stJ at this; rwa [if_neg (by omega)] at this
      have hok : (e j).Ok wr := by have := HH.out.each j hlt; unfold stJ at this; rwa [if_neg (by omega)] at this
      have hin : lo ≤ (e j).a ∧ (e j).d ≤ hi := by have := HH.out.inn j hlt; unfold stJ at this; rwa [if_neg (by omega)] at this
      have hfar : g < (e j).a ∨ (e j).d ≤ g := by have := HH.out.far j hlt; unfold stJ at this; rwa [if_neg (by omega)] at this
      obtain ⟨b, q1, q2, htx, m, q3, q4, hvr, hcl⟩ := hok
      obtain ⟨y0, y1, y2, y3, y4, y5, y6⟩ := hev
      rw [← ht] at htx hvr hcl
      obtain ⟨la, lc, hlv, -⟩ := id htx
      obtain ⟨ua, uc, huv, -⟩ := id hvr
      obtain ⟨xa, xc, hxv, -⟩ := id hcl
      obtain ⟨L, hL⟩ : ∃ L, L = t.ls.length := ⟨_, rfl⟩
      obtain ⟨P, hP⟩ : ∃ P, P = t.vs.length := ⟨_, rfl⟩
      obtain ⟨R, hR⟩ : ∃ R, R = t.cs.length := ⟨_, rfl⟩
      have HLN : Hid (L = t.ls.length ∧ P = t.vs.length ∧ R = t.cs.length) := ⟨hL, hP, hR⟩
      have hLL : L ≤ 1048576 ∧ P ≤ 1048576 ∧ R ≤ 1048576 := by rw [hL, hP, hR]; exact hfew
      have HLL := hidOfT hLL
      rw [← hL] at hlv
      rw [← hP] at huv
      rw [← hR] at hxv
      obtain ⟨y, hy⟩ : ∃ y, y = x + L := ⟨_, rfl⟩
      have HY : Hid (y = x + L) := hy
      have hyy : 0 < y ∧ y ≤ 30000000000000 := by omega
      have C1 : Hid (Calls Try.prog 27 #[.slice la L lc, .int .i64 (x : Int)] wr fun r w' => r = .returned (.int .i64 (y : Int)) ∧ TxIn (e j).a b w' (.slice la L lc) (mkTx x L) ∧ FM (e j).a b wr w') := by
        have := markTxIn (e j).a b (e j).l t.ls x wr htx (by omega) (by omega) hxx.1
        rw [← hL, ← hy, hlv] at this
        exact this
      have x0 := (blk_cell ha (j * 7)).trans y0
      rw [hlv] at x0
      have HS := hidOfT (And.intro ha (And.intro y4 y5))
      have HIV := hidOfT (And.intro hin (And.intro hfar (And.intro q1 (And.intro q2 (And.intro q3 q4)))))
      have HVC := hidOfT (And.intro hvr hcl)
      have HVL := hidOfT (And.intro hlv (And.intro huv hxv))
      have hsz : j * 7 + 7 ≤ arr.size := by omega
      have HSZ := hidOfT hsz
      clear hL hP hR hlv huv hxv htx hvr hcl y0 y1 y2 y3 y4 y5 y6 hcs hin hfar q1 q2 q3 q4 ht hfew hy hsa
      have i1 : (j : Int) < (n : Int) := by omega
      have i0 : (0 : Int) ≤ (j : Int) := by omega
      go_wp2_with fail
      refine C1.out.mono ?_
      rintro r w1 ⟨rfl, htx1, hf1⟩
      have hgne : g < (e j).a ∨ b ≤ g := by have := HIV.out; omega
      have ha1 : w1.heap[g]? = some (.cells arr 76 (0, 0)) := (hf1.2.2 g (blk_lt ha) hgne).trans ha
      have c1 := blk_cell ha1 (j * 7 + 1)
      have c2 := blk_cell ha1 (j * 7 + 2)
      have c3 := blk_cell ha1 (j * 7 + 3)
      rw [Array.getElem?_eq_getElem (by omega)] at c1 c2 c3
      have f1 := blk_free ha1 (j * 7 + 1)
      have f2 := blk_free ha1 (j * 7 + 2)
      have f3 := blk_free ha1 (j * 7 + 3)
      have x4 := (blk_cell ha1 (j * 7 + 4)).trans HS.out.2.1
      rw [HVL.out.2.1] at x4
      have HA1 := hidOfT ha1
      have HT1 := hidOfT htx1
      have HF1 := hidOfT hf1
      obtain ⟨ar1, hb1, s1, v1, g1⟩ := set1 ha1 (j * 7 + 1) (.int .i64 (y : Int)) (by omega)
      obtain ⟨ar2, hb2, s2, v2, g2⟩ := set1 hb1 (j * 7 + 2) (.int .i64 ((y : Int) + 1)) (by omega)
      obtain ⟨ar3, hb3, s3, v3, g3⟩ := set1 hb2 (j * 7 + 3) (.bool (((y : Int) + 1 + 1) % 3 == 0)) (by omega)
      have HA3 : Hid ((((w1.setCell ⟨g, j * 7 + 1, none⟩ (.int .i64 (y : Int))).setCell ⟨g, j * 7 + 2, none⟩ (.int .i64 ((y : Int) + 1))).setCell ⟨g, j * 7 + 3, none⟩ (.bool (((y : Int) + 1 + 1) % 3 == 0))).heap[g]? = some (.cells ar3 76 (0, 0))) := hb3
      have HAR : Hid (ar3.size = arr.size ∧ ar3[j * 7 + 1]? = some (.int .i64 (y : Int)) ∧ ar3[j * 7 + 2]? = some (.int .i64 ((y : Int) + 1)) ∧ ar3[j * 7 + 3]? = some (.bool (((y : Int) + 1 + 1) % 3 == 0)) ∧ ∀ m, m ≠ j * 7 + 1 → m ≠ j * 7 + 2 → m ≠ j * 7 + 3 → ar3[m]? = arr[m]?) :=
        ⟨by omega, by rw [g3 _ (by omega), g2 _ (by omega), v1], by rw [g3 _ (by omega), v2], v3, fun m m1 m2 m3 => by rw [g3 _ m3, g2 _ m2, g1 _ m1]⟩
      have HO3 : Hid (∀ q, q ≠ g → (((w1.setCell ⟨g, j * 7 + 1, none⟩ (.int .i64 (y : Int))).setCell ⟨g, j * 7 + 2, none⟩ (.int .i64 ((y : Int) + 1))).setCell ⟨g, j * 7 + 3, none⟩ (.bool (((y : Int) + 1 + 1) % 3 == 0))).heap[q]? = w1.heap[q]?) := by
        intro q hq
        rw [Below.heap_setCell _ _ _ _ hq, Below.heap_setCell _ _ _ _ hq, Below.heap_setCell _ _ _ _ hq]
      have HFX : Hid (FM lo hi w (((w1.setCell ⟨g, j * 7 + 1, none⟩ (.int .i64 (y : Int))).setCell ⟨g, j * 7 + 2, none⟩ (.int .i64 ((y : Int) + 1))).setCell ⟨g, j * 7 + 3, none⟩ (.bool (((y : Int) + 1 + 1) % 3 == 0)))) :=
        (((HFM.out.trans (hf1.wider (by have := HIV.out; omega) (by have := HIV.out; omega))).setIn HG.out.1.1 HG.out.1.2 _ _).setIn HG.out.1.1 HG.out.1.2 _ _).setIn HG.out.1.1 HG.out.1.2 _ _
      have HSX : Hid ((((w1.setCell ⟨g, j * 7 + 1, none⟩ (.int .i64 (y : Int))).setCell ⟨g, j * 7 + 2, none⟩ (.int .i64 ((y : Int) + 1))).setCell ⟨g, j * 7 + 3, none⟩ (.bool (((y : Int) + 1 + 1) % 3 == 0))).heap.size = w1.heap.size ∧ wr.heap.size ≤ w1.heap.size) := ⟨by simp [World.setCell], hf1.2.1⟩
      clear C1 ha ha1 htx1 hf1 hgne x0 hb1 hb2 hb3 s1 s2 s3 v1 v2 v3 g1 g2 g3
      go_wp2_with fail
      generalize (((w1.setCell ⟨g, j * 7 + 1, none⟩ (.int .i64 (y : Int))).setCell ⟨g, j * 7 + 2, none⟩ (.int .i64 ((y : Int) + 1))).setCell ⟨g, j * 7 + 3, none⟩ (.bool (((y : Int) + 1 + 1) % 3 == 0))) = X1 at *
      clear c1 c2 c3 f1 f2 f3 x4
      have hwr : hi ≤ wr.heap.size := Nat.le_trans HG.out.2 HFM.out.2.1
      have HWR := hidOfT hwr
      have hvr1 : VrIn b m X1 (e j).u t.vs := HVC.out.1.keep (fun q q1 q2 => (HO3.out q (by have := HIV.out; omega)).trans (HF1.out.2.2 q (by have := HIV.out; omega) (by omega)))
      obtain ⟨z, hz⟩ : ∃ z, z = y + 1 + 1 + 1 + 2 * P := ⟨_, rfl⟩
      have HZ : Hid (z = y + 1 + 1 + 1 + 2 * P) := hz
      have hzz : 0 < z ∧ z ≤ 40000000000000 := by omega
      have C2 : Hid (Calls Try.prog 53 #[.slice ua P uc, .int .i64 ((y : Int) + 1 + 1 + 1)] X1 fun r w' => r = .returned (.int .i64 (z : Int)) ∧ VrIn b m w' (.slice ua P uc) (mkVr (y + 1 + 1 + 1) P) ∧ FM b m X1 w') := by
        have := markVrs_any b m (e j).u t.vs (y + 1 + 1 + 1) X1 hvr1 (by have := HLN.out; omega) (by omega) (by omega)
        rw [← HLN.out.2.1, ← hz, HVL.out.2.1] at this
        exact this
      clear hz hvr1 hwr
      refine C2.out.mono ?_
      rintro r w2 ⟨rfl, hvr2, hf2⟩
      have ha2 : w2.heap[g]? = some (.cells ar3 76 (0, 0)) := (hf2.2.2 g (blk_lt HA3.out) (by have := HIV.out; omega)).trans HA3.out
      have x5 := (blk_cell ha2 (j * 7 + 5)).trans ((HAR.out.2.2.2.2 _ (by omega) (by omega) (by omega)).trans HS.out.2.2)
      rw [HVL.out.2.2] at x5
      have HA2 := hidOfT ha2
      have HV2 := hidOfT hvr2
      have HF2 := hidOfT hf2
      clear C2 ha2 hvr2 hf2
      go_wp2_with fail
      have hcl2 : ClIn m (e j).d w2 (e j).x t.cs := HVC.out.2.keep (fun q q1 q2 => (HF2.out.2.2 q (by have := HIV.out; have := HSX.out; have := HWR.out; omega) (by omega)).trans ((HO3.out q (by have := HIV.out; omega)).trans (HF1.out.2.2 q (by have := HIV.out; have := HWR.out; omega) (by have := HIV.out; omega))))
      obtain ⟨s, hs⟩ : ∃ s, s = z + 3 * R := ⟨_, rfl⟩
      have HSS : Hid (s = z + 3 * R) := hs
      have hss : 0 < s ∧ s ≤ 50000000000000 := by omega
      have C3 : Hid (Calls Try.prog 54 #[.slice xa R xc, .int .i64 (z : Int)] w2 fun r w' => r = .returned (.int .i64 (s : Int)) ∧ ClIn m (e j).d w' (.slice xa R xc) (mkCl z R) ∧ FM m (e j).d w2 w') := by
        have := markCls_any m (e j).d (e j).x t.cs z w2 hcl2 (by have := HLN.out; omega) (by omega) (by omega)
        rw [← HLN.out.2.2, ← hs, HVL.out.2.2] at this
        exact this
      clear hs hcl2 x5
      refine C3.out.mono ?_
      rintro r w3 ⟨rfl, hcl3, hf3⟩
      have HF3 := hidOfT hf3
      have HC3 := hidOfT hcl3
      have CT : Hid (∀ W : World, Calls Try.prog 52 #[.int .i64 (s : Int)] W fun e w' => e = .returned (.string ⟨(mk s).toArray⟩) ∧ Below W.heap.size W w') := fun W => markText_int _ s W rfl (by omega) (by omega)
      clear C3 hf3 hcl3
      go_wp2_with fail
      refine (CT.out _).mono ?_
      rintro r w4 ⟨rfl, hb4⟩
      have ha4 : w4.heap[g]? = some (.cells ar3 76 (0, 0)) := by
        have h3 := (HF3.out.2.2 g (blk_lt HA2.out) (by have := HIV.out; omega)).trans HA2.out
        exact (hb4.block g (blk_lt h3)).trans h3
      have c6 := blk_cell ha4 (j * 7 + 6)
      rw [Array.getElem?_eq_getElem (by have := HAR.out.1; omega)] at c6
      have f6 := blk_free ha4 (j * 7 + 6)
      obtain ⟨ar4, hb5, s5, v5, g5⟩ := set1 ha4 (j * 7 + 6) (.string ⟨(mk s).toArray⟩) (by have := HAR.out.1; omega)
      have HB4 := hidOfT hb4
      have HA5 := hidOfT hb5
      have HAR5 : Hid (ar4.size = arr.size ∧ ar4[j * 7 + 6]? = some (.string ⟨(mk s).toArray⟩) ∧ ∀ m, m ≠ j * 7 + 6 → ar4[m]? = ar3[m]?) := ⟨by have := HAR.out.1; omega, v5, g5⟩
      clear CT hb4 ha4 hb5 s5 v5 g5
      go_wp2
      go_roundw
      case rel =>
        have iv := HIV.out
        have sx := HSX.out
        have wrs := HWR.out
        have f2s := HF2.out.2.1
        have f3s := HF3.out.2.1
        have b4s := HB4.out.size
        refine ⟨j + 1, s + 1, by go_num, by go_num, ?_, by omega, ?_, ?_⟩
        · show s + 1 = kT e k (j + 1)
          unfold kT Tk.num
          rw [← HX.out, ← HTE.out, ← HLN.out.1, ← HLN.out.2.1, ← HLN.out.2.2, HSS.out, HZ.out, HY.out]
          omega
        · exact ((((HFX.out.trans (HF2.out.wider (by omega) (by omega))).trans (HF3.out.wider (by omega) (by omega))).up HB4.out).setIn HG.out.1.1 HG.out.1.2 _ _)
        · obtain ⟨arr0, ha0, hsa0, hcs0⟩ := HH.out.blk
          have e0 : arr0 = arr := by
            have := HS.out.1
            rw [this] at ha0
            simpa using ha0.symm
          subst e0
          refine HH.out.mark hlt ha0 HA5.out (by rw [HAR5.out.1]) (fun q q1 q2 q3 q4 => ?_) ?_ (fun i hi => ?_) ?_
          · rw [Below.heap_setCell _ _ _ _ q3, HB4.out.block q (by omega), HF3.out.2.2 q (by omega) (by omega), HF2.out.2.2 q (by omega) (by omega), HO3.out q q3, HF1.out.2.2 q (by omega) (by omega)]
          · have hmk : mkE e k j = ⟨mkTk x t, (e j).l, (e j).u, (e j).x, (e j).a, (e j).d⟩ := by unfold mkE; rw [← HX.out, ← HTE.out]
            rw [hmk]
            have old := hcs0 j hlt
            unfold stJ at old
            rw [if_neg (by omega)] at old
            obtain ⟨y0, -, -, -, y4, y5, -⟩ := old
            obtain ⟨r1, r2, r3, r4, r5⟩ := HAR.out
            obtain ⟨r6, r7, r8⟩ := HAR5.out
            refine ⟨?_, ?_, ?_, ?_, ?_, ?_, ?_⟩
            · rw [r8 _ (by omega), r5 _ (by omega) (by omega) (by omega)]; exact y0
            · rw [r8 _ (by omega), r2]; show _ = some (Value.int .i64 ((x + t.ls.length : Nat) : Int)); rw [← HLN.out.1, ← HY.out]
            · rw [r8 _ (by omega), r3]; show _ = some (Value.int .i64 ((x + t.ls.length + 1 : Nat) : Int)); rw [← HLN.out.1, ← HY.out]; rfl
            · rw [r8 _ (by omega), r4]; show _ = some (Value.bool (((x + t.ls.length + 1 + 1 : Nat) : Int) % 3 == 0)); rw [← HLN.out.1, ← HY.out]; rfl
            · rw [r8 _ (by omega), r5 _ (by omega) (by omega) (by omega)]; exact y4
            · rw [r8 _ (by omega), r5 _ (by omega) (by omega) (by omega)]; exact y5
            · rw [r7]; show _ = some (Value.string ⟨(mk (x + t.ls.length + 1 + 1 + 1 + 2 * t.vs.length + 3 * t.cs.length)).toArray⟩); rw [← HLN.out.1, ← HLN.out.2.1, ← HLN.out.2.2, ← HY.out, ← HZ.out, ← HSS.out]
          · obtain ⟨r1, r2, r3, r4, r5⟩ := HAR.out
            obtain ⟨r6, r7, r8⟩ := HAR5.out
            rw [r8 _ (by omega), r5 _ (by omega) (by omega) (by omega)]
          · have hmk : mkE e k j = ⟨mkTk x t, (e j).l, (e j).u, (e j).x, (e j).a, (e j).d⟩ := by unfold mkE; rw [← HX.out, ← HTE.out]
            rw [hmk]
            refine ⟨b, iv.2.2.1, iv.2.2.2.1, ?_, m, iv.2.2.2.2.1, iv.2.2.2.2.2, ?_, ?_⟩
            · show TxIn (e j).a b _ (e j).l (mkTx x t.ls.length)
              rw [HVL.out.1, ← HLN.out.1]
              exact HT1.out.keep (fun q q1 q2 => by rw [Below.heap_setCell _ _ _ _ (by show q ≠ g; omega), HB4.out.block q (by omega), HF3.out.2.2 q (by omega) (by omega), HF2.out.2.2 q (by omega) (by omega), HO3.out q (by omega)])
            · show VrIn b m _ (e j).u (mkVr (x + t.ls.length + 1 + 1 + 1) t.vs.length)
              rw [HVL.out.2.1, ← HLN.out.1, ← HLN.out.2.1, ← HY.out]
              exact HV2.out.keep (fun q q1 q2 => by rw [Below.heap_setCell _ _ _ _ (by show q ≠ g; omega), HB4.out.block q (by omega), HF3.out.2.2 q (by omega) (by omega)])
            · show ClIn m (e j).d _ (e j).x (mkCl (x + t.ls.length + 1 + 1 + 1 + 2 * t.vs.length) t.cs.length)
              rw [HVL.out.2.2, ← HLN.out.1, ← HLN.out.2.1, ← HLN.out.2.2, ← HY.out, ← HZ.out]
              exact HC3.out.keep (fun q q1 q2 => by rw [Below.heap_setCell _ _ _ _ (by show q ≠ g; omega), HB4.out.block q (by omega)])
      case measure => simp [intOf]; omega
    · obtain rfl : j = n := by omega
      go_wp2
      go_ret
      rw [HX.out]
      exact ⟨rfl, HH.out, HFM.out⟩
end PartKdG
end Go.Proofs.Ythnmopldpgdenaa
