/- Plain facts, without the program: a number in decimal figures, and when a text of figures is that of its number. The law's own marks: the text of a mark. The law's own marks: rows of numbers, with room behind them, that are written and held. The law's own marks: nodes that are written and held. Plain facts: the tokens of a text. The specification of Tokens: letters, figures, what stands between two marks. -/
import Derived.Test.YtkfkbdgfnopokaaGreatDoorZab
import Derived.Test.YtkfkbdgfnopokaaGreatDoorZaa
namespace Go.Proofs.YtkfkbdgfnopokaaGreatDoor
section PartPlainF
namespace Pl
def ch (d : Nat) : UInt8 := UInt8.ofNat (48 + d)
theorem ch_nat (d : Nat) (h : d < 200) : (ch d).toNat = 48 + d := small _ (by omega)
def dg : Nat → Nat → List UInt8
 | 0, _ => []
 | f + 1, n => if n = 0 then [] else dg f (n / 10) ++ [ch (n % 10)]
theorem dg_zero (f : Nat) : dg f 0 = [] := by cases f <;> rfl
theorem dg_more (f n : Nat) (h : n ≠ 0) : dg (f + 1) n = dg f (n / 10) ++ [ch (n % 10)] := by rw [dg, if_neg h]
end Pl
end PartPlainF
section PartMkT
open Go.RowKit
theorem cat1 (c : UInt8) (t : List UInt8) : (⟨[c].toArray⟩ : ByteArray) ++ (⟨t.toArray⟩ : ByteArray) = ⟨(c :: t).toArray⟩ := by
 apply ByteArray.ext
 simp
theorem dg_round (n f m : Nat) (t : List UInt8) (hf : m < 10 ^ f) (he : Pl.dg f m ++ t = Pl.dg 20 n) (h : m ≠ 0) :
  ∃ g, f = g + 1 ∧ m / 10 < 10 ^ g ∧ Pl.dg g (m / 10) ++ (Pl.ch (m % 10) :: t) = Pl.dg 20 n := by
 cases f with
 | zero => simp at hf; omega
 | succ g =>
  refine ⟨g, rfl, ?_, ?_⟩
  ·rw [Nat.pow_succ] at hf; omega
  ·rw [Pl.dg_more g m h] at he; simpa using he
theorem ret_str {a b : ByteArray} (h : a = b) : Ending.returned (.string a) = Ending.returned (.string b) := by rw [h]
def mk (k : Nat) : List UInt8 := 109 :: Pl.dg 20 k
set_option maxHeartbeats 800000 in
set_option maxRecDepth 100000 in
theorem markText_any (n : Nat) (w : World) (h0 : 0 < n) (hn : n ≤ 100000000) :
  Calls Tryz.prog 63 #[.int .i64 (n : Int)] w fun e w' => e = .returned (.string ⟨(mk n).toArray⟩) ∧ Below w.heap.size w w' := by
 go_enter Tryz.func63, Tryz.ntmps63
 go_wp2
 go_loopw [0, 3] (fun i v wr => ∃ (m f : Nat) (t : List UInt8), i = .int .i64 (m : Int) ∧ v = .string ⟨t.toArray⟩ ∧ m ≤ 100000000 ∧ t.length + f = 20 ∧ Below w.heap.size w wr ∧ Hid (m < 10 ^ f) ∧ Hid (Pl.dg f m ++ t = Pl.dg 20 n)) (fun i _ _ => (intOf i).toNat)
 case atStart => exact ⟨n, 20, [], rfl, rfl, hn, rfl, Below.refl _ _, (by show n < 10 ^ 20; omega), (by show _ = _; simp)⟩
 case round =>
  obtain ⟨m, f, t, rfl, rfl, hm, htf, hbel, H1, H2⟩ := hrel
  have hsz := hbel.size
  by_cases hm0 : m = 0
  ·subst hm0
   have h3 : Hid (t = Pl.dg 20 n) := by have := H2.out; rw [Pl.dg_zero] at this; exact this
   have htl : t.length ≤ 20 := by omega
   go_wp2
   go_ret
   exact ⟨ret_str (by unfold mk; rw [← h3.out]; exact cat1 109 t), hbel⟩
  ·obtain ⟨g, hg, hq, hv⟩ := dg_round n f m t H1.out H2.out hm0
   have HG : Hid (f = g + 1) := hg
   have HQ : Hid (m / 10 < 10 ^ g) := hq
   have HV : Hid (Pl.dg g (m / 10) ++ (Pl.ch (m % 10) :: t) = Pl.dg 20 n) := hv
   clear hg hq hv
   have hpos : 0 < m := by omega
   have hcv := conv1 wr (Pl.ch (m % 10))
   rw [show ((Pl.ch (m % 10)).toNat : Int) = 48 + (m : Int) % 10 by have := Pl.ch_nat (m % 10) (by omega); omega] at hcv
   go_wp2
   go_roundw
   case rel =>
    refine ⟨m / 10, g, Pl.ch (m % 10) :: t, by go_num, ?_, by omega, ?_, hbel.alloc hsz _, HQ.out, HV.out⟩
    ·rw [← cat1]
     rfl
    ·have := HG.out; simp; omega
   case measure => simp [intOf]; omega
set_option maxRecDepth 100000 in
theorem markText_int (z : Int) (n : Nat) (w : World) (hz : z = (n : Int)) (h0 : 0 < n) (hn : n ≤ 100000000) :
  Calls Tryz.prog 63 #[.int .i64 z] w fun e w' => e = .returned (.string ⟨(mk n).toArray⟩) ∧ Below w.heap.size w w' := by
 subst hz
 exact markText_any n w h0 hn
end PartMkT
section PartMnA
open Go.RowKit
def WI (w : World) (u : Value) (n q : Nat) : Prop := ∃ ka c, u = .slice ka n c ∧ (0 < n → ka = some ⟨q, 0, none⟩ ∧ ∃ arr : Array Value, w.heap[q]? = some (.cells arr 3 (0, 0)) ∧ n ≤ arr.size)
def MI (w : World) (q n k : Nat) : Prop := 0 < n → ∃ arr : Array Value, w.heap[q]? = some (.cells arr 3 (0, 0)) ∧ n ≤ arr.size ∧ ∀ t, t < n → arr[t]? = some (.int .i64 ((k + t : Nat) : Int))
def Bun (q n : Nat) (w w' : World) : Prop := w'.heap.size = w.heap.size ∧ (∀ k, (0 < n → k ≠ q) → w'.heap[k]? = w.heap[k]?) ∧ Env w w'
theorem Bun.refl (q n : Nat) (w : World) : Bun q n w w := ⟨rfl, fun _ _ => rfl, Env.refl w⟩
theorem Bun.set {q n : Nat} {w w' : World} (h : Bun q n w w') (h0 : 0 < n) (o : Nat) (u : Value) : Bun q n w (w'.setCell ⟨q, o, none⟩ u) :=
 ⟨by simpa [World.setCell] using h.1, fun k hk => by rw [Below.heap_setCell _ _ _ _ (by show k ≠ q; exact hk h0)]; exact h.2.1 k hk, h.2.2⟩
set_option maxRecDepth 100000 in
set_option maxHeartbeats 800000 in
theorem markInts_n (q n k : Nat) (u : Value) (w : World) (h : WI w u n q) (hn2 : n ≤ 100000) (hk : k ≤ 10000000) :
  Calls Tryz.prog 64 #[u, .int .i64 (k : Int)] w fun e w' => e = .returned (.int .i64 ((k + n : Nat) : Int)) ∧ Bun q n w w' ∧ MI w' q n k := by
 obtain ⟨ka, c, rfl, f⟩ := h
 by_cases h0 : n = 0
 ·subst h0
  have HF : Hid True := trivial
  clear f
  go_enter Tryz.func64, Tryz.ntmps64
  go_wp2
  refine wp_loop_rounds 1 ?_
  rw [rounds_succ]
  go_wp2
  go_ret
  exact ⟨rfl, Bun.refl _ _ _, fun h => by omega⟩
 ·have hn : 0 < n := by omega
  obtain ⟨rfl, arr, h, ha⟩ := f hn
  have HW : Hid (∃ a2 : Array Value, w.heap[q]? = some (.cells a2 3 (0, 0)) ∧ n ≤ a2.size ∧ ∀ t, t < 0 → a2[t]? = some (.int .i64 ((k + t : Nat) : Int))) := ⟨arr, h, ha, fun t ht => by omega⟩
  clear h ha f
  go_enter Tryz.func64, Tryz.ntmps64
  go_wp2
  go_loopw [1, 5] (fun c i wr => ∃ j : Nat, i = .int .i64 (j : Int) ∧ c = .int .i64 ((k : Int) + (j : Int)) ∧ j ≤ n ∧ Hid (Bun q n w wr) ∧ Hid (∃ a2 : Array Value, wr.heap[q]? = some (.cells a2 3 (0, 0)) ∧ n ≤ a2.size ∧ ∀ t, t < j → a2[t]? = some (.int .i64 ((k + t : Nat) : Int)))) (fun _ i _ => n - (intOf i).toNat)
  case atStart => exact ⟨0, rfl, by simp, by omega, Bun.refl q n w, HW.out⟩
  case round =>
   obtain ⟨j, rfl, rfl, hj, HB, HA⟩ := hrel
   obtain ⟨a2, h2, hs2, hc2⟩ := HA.out
   by_cases hlt : j < n
   ·have c1 := blk_cell h2 j
    rw [Array.getElem?_eq_getElem (by omega)] at c1
    have f1 := blk_free h2 j
    have HS := blk_set h2 j (.int .i64 ((k : Int) + (j : Int)))
    have HA2 : Hid (∃ a3 : Array Value, (wr.setCell ⟨q, j, none⟩ (.int .i64 ((k : Int) + (j : Int)))).heap[q]? = some (.cells a3 3 (0, 0)) ∧ n ≤ a3.size ∧ ∀ t, t < j + 1 → a3[t]? = some (.int .i64 ((k + t : Nat) : Int))) := by
     refine ⟨_, HS, by simpa using hs2, fun t ht => ?_⟩
     rw [Array.getElem?_setIfInBounds]
     by_cases htj : j = t
     ·subst htj
      rw [if_pos rfl, if_pos (by omega)]
      simp
     ·rw [if_neg htj]
      exact hc2 t (by omega)
    have i1 : (j : Int) < (n : Int) := by omega
    clear HA HS h2 hc2
    go_wp2
    go_roundw
    case rel => exact ⟨j + 1, by go_num, by go_num, by omega, HB.out.set hn j _, HA2.out⟩
    case measure => simp [intOf]; omega
   ·obtain rfl : j = n := by omega
    have HE : Hid (MI wr q j k) := fun _ => ⟨a2, h2, hs2, hc2⟩
    clear h2 hc2 HA
    go_wp2
    go_ret
    exact ⟨rfl, HB.out, HE.out⟩
set_option maxRecDepth 100000 in
set_option maxHeartbeats 800000 in
theorem heldInts_n (q n k : Nat) (u : Value) (w : World) (hu : ∃ ka c, u = .slice ka n c ∧ (0 < n → ka = some ⟨q, 0, none⟩)) (h : MI w q n k) (hn2 : n ≤ 100000) (hk : k ≤ 10000000) :
  Calls Tryz.prog 65 #[u, .int .i64 (k : Int)] w fun e w' => e = .returned (.int .i64 ((k + n : Nat) : Int)) ∧ w' = w := by
 obtain ⟨ka, c, rfl, f⟩ := hu
 by_cases h0 : n = 0
 ·subst h0
  clear f h
  go_enter Tryz.func65, Tryz.ntmps65
  go_wp2
  refine wp_loop_rounds 1 ?_
  rw [rounds_succ]
  go_wp2
  go_ret
  exact ⟨rfl, rfl⟩
 ·have hn : 0 < n := by omega
  obtain rfl := f hn
  obtain ⟨arr, ha, hs, hm⟩ := h hn
  have HW : Hid (∀ j, j < n → w.cell? ⟨q, j, none⟩ = some (.int .i64 ((k : Int) + (j : Int)))) := by
   intro j hj
   rw [blk_cell ha]
   have := hm j hj
   simpa using this
  clear h ha hs hm f
  go_enter Tryz.func65, Tryz.ntmps65
  go_wp2
  go_loop [1, 5] (fun c i => ∃ j : Nat, i = .int .i64 (j : Int) ∧ c = .int .i64 ((k : Int) + (j : Int)) ∧ j ≤ n) (fun _ i => n - (intOf i).toNat)
  case atStart => exact ⟨0, rfl, by simp, by omega⟩
  case round =>
   obtain ⟨j, rfl, rfl, hj⟩ := hrel
   by_cases hlt : j < n
   ·have c1 := HW.out j hlt
    have i1 : (j : Int) < (n : Int) := by omega
    have hq : (((k : Int) + (j : Int)) != ((k : Int) + (j : Int))) = false := by simp
    go_wp2
    go_round
    case rel => exact ⟨j + 1, by go_num, by go_num, by omega⟩
    case measure => simp [intOf]; omega
   ·obtain rfl : j = n := by omega
    go_wp2
    go_ret
    exact ⟨rfl, rfl⟩
end PartMnA
section PartMnB
open Go.RowKit
def cm (K : Nat → Nat) : Nat → Nat
 | 0 => 1
 | i + 1 => cm K i + 2 + K i
theorem cm_le (K : Nat → Nat) (h : ∀ i, K i ≤ 1000) (i : Nat) : 1 ≤ cm K i ∧ cm K i ≤ 1 + 1002 * i := by
 induction i with
 | zero => exact ⟨Nat.le_refl _, Nat.le_refl _⟩
 | succ i ih =>
  have := h i
  unfold cm
  omega
def WN (w : World) (r n : Nat) (K Q : Nat → Nat) (m : Nat) : Prop :=
 (∃ arr : Array Value, w.heap[r]? = some (.cells arr 87 (0, 0)) ∧ n * 3 ≤ arr.size) ∧
 (∀ i, i < n → ∃ u, w.cell? ⟨r, i * 3 + 2, none⟩ = some u ∧ WI w u (K i) (Q i)) ∧
 (∀ i, i < n → 0 < K i → Q i ≠ r) ∧
 (∀ i j, i < n → j < n → 0 < K i → 0 < K j → Q i = Q j → i = j) ∧
 (∀ i, i < m → w.cell? ⟨r, i * 3, none⟩ = some (.int .i64 (cm K i : Int)) ∧ w.cell? ⟨r, i * 3 + 1, none⟩ = some (.string ⟨(mk (cm K i + 1)).toArray⟩) ∧ MI w (Q i) (K i) (cm K i + 2))
theorem WI.blk {w w' : World} {u : Value} {n q : Nat} (h : WI w u n q) (hk : 0 < n → w'.heap[q]? = w.heap[q]?) : WI w' u n q := by
 obtain ⟨ka, c, rfl, f⟩ := h
 refine ⟨ka, c, rfl, fun h0 => ?_⟩
 obtain ⟨h1, arr, h2, h3⟩ := f h0
 exact ⟨h1, arr, (hk h0).trans h2, h3⟩
theorem WI.lt {w : World} {u : Value} {n q : Nat} (h : WI w u n q) (h0 : 0 < n) : q < w.heap.size := by
 obtain ⟨ka, c, rfl, f⟩ := h
 obtain ⟨h1, arr, h2, h3⟩ := f h0
 exact blk_lt h2
theorem MI.blk {w w' : World} {q n k : Nat} (h : MI w q n k) (hk : 0 < n → w'.heap[q]? = w.heap[q]?) : MI w' q n k := fun h0 => by
 obtain ⟨arr, h2, h3⟩ := h h0
 exact ⟨arr, (hk h0).trans h2, h3⟩
theorem MI.wi {w w' : World} {u : Value} {q n k : Nat} (h : MI w' q n k) (hu : WI w u n q) : WI w' u n q := by
 obtain ⟨ka, c, rfl, f⟩ := hu
 refine ⟨ka, c, rfl, fun h0 => ?_⟩
 obtain ⟨arr, h2, h3, -⟩ := h h0
 exact ⟨(f h0).1, arr, h2, h3⟩
theorem WN.keep {w w' : World} {r n m : Nat} {K Q : Nat → Nat} (h : WN w r n K Q m) (hm : m ≤ n) (hb : Below w.heap.size w w') : WN w' r n K Q m := by
 obtain ⟨⟨arr, ha, hs⟩, h2, h3, h4, h5⟩ := h
 have hl := blk_lt ha
 have hq : ∀ i, i < n → 0 < K i → w'.heap[Q i]? = w.heap[Q i]? := fun i hi h0 => by
  obtain ⟨u, -, hu⟩ := h2 i hi
  exact hb.block _ (hu.lt h0)
 refine ⟨⟨arr, (hb.block r hl).trans ha, hs⟩, fun i hi => ?_, h3, h4, fun i hi => ?_⟩
 ·obtain ⟨u, k1, k2⟩ := h2 i hi
  exact ⟨u, (hb.cell hl).trans k1, k2.blk (hq i hi)⟩
 ·obtain ⟨k1, k2, k3⟩ := h5 i hi
  exact ⟨(hb.cell hl).trans k1, (hb.cell hl).trans k2, k3.blk (hq i (by omega))⟩
theorem WN.next {wr a2 a4 : World} {r n i : Nat} {K Q : Nat → Nat} (h : WN wr r n K Q i) (hi : i < n) (hb : Below (wr.setCell ⟨r, i * 3, none⟩ (.int .i64 (cm K i : Int))).heap.size (wr.setCell ⟨r, i * 3, none⟩ (.int .i64 (cm K i : Int))) a2)
  (hbu : Bun (Q i) (K i) (a2.setCell ⟨r, i * 3 + 1, none⟩ (.string ⟨(mk (cm K i + 1)).toArray⟩)) a4) (hq : MI a4 (Q i) (K i) (cm K i + 2)) : WN a4 r n K Q (i + 1) := by
 obtain ⟨⟨arr, ha, hs⟩, h2, h3, h4, h5⟩ := h
 have hl := blk_lt ha
 have e1 : (wr.setCell ⟨r, i * 3, none⟩ (.int .i64 (cm K i : Int))).heap.size = wr.heap.size := by simp [World.setCell]
 have r1 := blk_set ha (i * 3) (.int .i64 (cm K i : Int))
 have r2 := (hb.block r (by rw [e1]; exact hl)).trans r1
 have r3 := (hbu.2.1 r (fun h0 e => h3 i hi h0 e.symm)).trans (blk_set r2 (i * 3 + 1) (.string ⟨(mk (cm K i + 1)).toArray⟩))
 have hold : ∀ k, k < wr.heap.size → k ≠ r → (0 < K i → k ≠ Q i) → a4.heap[k]? = wr.heap[k]? := by
  intro k hk hkr hkq
  rw [hbu.2.1 k hkq, Below.heap_setCell _ _ _ _ (by show k ≠ r; exact hkr), hb.block k (by rw [e1]; exact hk), Below.heap_setCell _ _ _ _ (by show k ≠ r; exact hkr)]
 have hcell : ∀ j, j ≠ i * 3 → j ≠ i * 3 + 1 → a4.cell? ⟨r, j, none⟩ = wr.cell? ⟨r, j, none⟩ := by
  intro j h1 h2
  rw [blk_cell r3, blk_cell ha, Array.getElem?_setIfInBounds, if_neg (by omega), Array.getElem?_setIfInBounds, if_neg (by omega)]
 have hqk : ∀ j, j < n → j ≠ i → 0 < K j → a4.heap[Q j]? = wr.heap[Q j]? := fun j hj hji h0 => by
  obtain ⟨u, -, hu⟩ := h2 j hj
  exact hold _ (hu.lt h0) (h3 j hj h0) (fun hki e => hji (h4 j i hj hi h0 hki e))
 refine ⟨⟨_, r3, by simpa using hs⟩, fun j hj => ?_, h3, h4, fun j hj => ?_⟩
 ·obtain ⟨u, k1, k2⟩ := h2 j hj
  refine ⟨u, by rw [hcell _ (by omega) (by omega)]; exact k1, ?_⟩
  by_cases hji : j = i
  ·subst hji
   exact hq.wi k2
  ·exact k2.blk (hqk j hj hji)
 ·by_cases hji : j = i
  ·subst hji
   refine ⟨?_, ?_, hq⟩
   ·rw [blk_cell r3, Array.getElem?_setIfInBounds, if_neg (by omega), Array.getElem?_setIfInBounds, if_pos rfl, if_pos (by omega)]
   ·rw [blk_cell r3, Array.getElem?_setIfInBounds, if_pos rfl, if_pos (by simp; omega)]
  ·obtain ⟨k1, k2, k3⟩ := h5 j (by omega)
   exact ⟨by rw [hcell _ (by omega) (by omega)]; exact k1, by rw [hcell _ (by omega) (by omega)]; exact k2, k3.blk (hqk j (by omega) hji)⟩
def FS (S : Nat → Prop) (w w' : World) : Prop := Env w w' ∧ w.heap.size ≤ w'.heap.size ∧ ∀ k, k < w.heap.size → ¬ S k → w'.heap[k]? = w.heap[k]?
theorem FS.refl (S : Nat → Prop) (w : World) : FS S w w := ⟨Env.refl w, Nat.le_refl _, fun _ _ _ => rfl⟩
theorem FS.set {S : Nat → Prop} {w w' : World} (h : FS S w w') (r o : Nat) (u : Value) (h1 : S r) : FS S w (w'.setCell ⟨r, o, none⟩ u) :=
 ⟨h.1, by simpa [World.setCell] using h.2.1, fun k hk hkk => by rw [Below.heap_setCell _ _ _ _ (by show k ≠ r; exact fun e => hkk (e ▸ h1))]; exact h.2.2 k hk hkk⟩
theorem FS.up {S : Nat → Prop} {w w' w2 : World} (h : FS S w w') (hb : Below w'.heap.size w' w2) : FS S w w2 :=
 ⟨h.1.trans ⟨hb.os, hb.tape, hb.output⟩, Nat.le_trans h.2.1 hb.size, fun k hk hkk => (hb.block k (Nat.lt_of_lt_of_le hk h.2.1)).trans (h.2.2 k hk hkk)⟩
theorem FS.bun {S : Nat → Prop} {q n : Nat} {w w1 w2 : World} (h : FS S w w1) (hb : Bun q n w1 w2) (h1 : 0 < n → S q) : FS S w w2 :=
 ⟨h.1.trans hb.2.2, by rw [hb.1]; exact h.2.1, fun k hk hkk => (hb.2.1 k (fun h0 e => hkk (e ▸ h1 h0))).trans (h.2.2 k hk hkk)⟩
theorem FS.sub {S S' : Nat → Prop} {w w1 : World} (h : FS S w w1) (hs : ∀ k, S k → S' k) : FS S' w w1 := ⟨h.1, h.2.1, fun k hk hkk => h.2.2 k hk (fun e => hkk (hs k e))⟩
theorem FS.trans {S : Nat → Prop} {w w1 w2 : World} (h : FS S w w1) (k : FS S w1 w2) : FS S w w2 :=
 ⟨h.1.trans k.1, Nat.le_trans h.2.1 k.2.1, fun q hq hs => (k.2.2 q (Nat.lt_of_lt_of_le hq h.2.1) hs).trans (h.2.2 q hq hs)⟩
theorem FS.ofBelow {S : Nat → Prop} {w w1 : World} (h : Below w.heap.size w w1) : FS S w w1 := ⟨⟨h.os, h.tape, h.output⟩, h.size, fun q hq _ => h.block q hq⟩
set_option maxRecDepth 100000 in
set_option maxHeartbeats 2000000 in
theorem markNds_any (S : Nat → Prop) (r n c : Nat) (K Q : Nat → Nat) (w : World) (h : WN w r n K Q 0) (hn : 0 < n) (hn2 : n ≤ 1000) (hK : ∀ i, K i ≤ 1000) (hr : S r) (hQ : ∀ i, i < n → 0 < K i → S (Q i)) :
  Calls Tryz.prog 27 #[.slice (some ⟨r, 0, none⟩) n c, .int .i64 1] w fun e w' => e = .returned (.int .i64 (cm K n : Int)) ∧ WN w' r n K Q n ∧ FS S w w' := by
 have HW : Hid (WN w r n K Q 0) := h
 have HK : Hid (∀ i, K i ≤ 1000) := hK
 have HQ : Hid (∀ i, i < n → 0 < K i → S (Q i)) := hQ
 clear h hK hQ
 go_enter Tryz.func27, Tryz.ntmps27
 go_wp2
 go_loopw [1, 5] (fun q i wr => ∃ j : Nat, i = .int .i64 (j : Int) ∧ q = .int .i64 (cm K j : Int) ∧ j ≤ n ∧ Hid (FS S w wr) ∧ Hid (WN wr r n K Q j)) (fun _ i _ => n - (intOf i).toNat)
 case atStart => exact ⟨0, rfl, rfl, by omega, FS.refl _ _, HW.out⟩
 case round =>
  obtain ⟨j, rfl, rfl, hj, HF, HH⟩ := hrel
  by_cases hlt : j < n
  ·obtain ⟨hc1, hc2⟩ := cm_le K HK.out j
   have hKj := HK.out j
   obtain ⟨⟨arr, ha, hs⟩, k2, k3, _, _⟩ := HH.out
   have hrl := blk_lt ha
   have x0 := blk_cell ha (j * 3)
   rw [Array.getElem?_eq_getElem (by omega)] at x0
   have y0 := blk_free ha (j * 3)
   obtain ⟨u, hu, hwi⟩ := k2 j hlt
   obtain ⟨m, hm⟩ : ∃ m, m = cm K j := ⟨_, rfl⟩
   rw [← hm] at hc1 hc2 ⊢
   have HM : Hid (m = cm K j) := hm
   have i1 : (j : Int) < (n : Int) := by omega
   have r1 := blk_set ha (j * 3) (.int .i64 (m : Int))
   have hl1 : r < (wr.setCell ⟨r, j * 3, none⟩ (.int .i64 (m : Int))).heap.size := by simpa [World.setCell] using hrl
   have CT : Hid (∀ W : World, Calls Tryz.prog 63 #[.int .i64 ((m : Int) + 1)] W fun e w' => e = .returned (.string ⟨(mk (m + 1)).toArray⟩) ∧ Below W.heap.size W w') := fun W => markText_int ((m : Int) + 1) (m + 1) W (by omega) (by omega) (by omega)
   have HU : Hid (wr.cell? ⟨r, j * 3 + 2, none⟩ = some u ∧ WI wr u (K j) (Q j) ∧ (0 < K j → Q j ≠ r)) := ⟨hu, hwi, k3 j hlt⟩
   have HA : Hid (wr.heap[r]? = some (.cells arr 87 (0, 0))) := ha
   clear hm k2 k3 ha hu hwi
   go_wp2_with fail
   refine (CT.out _).mono ?_
   rintro e a2 ⟨rfl, hb2⟩
   have r2 := (hb2.block r hl1).trans r1
   have x1 := blk_cell r2 (j * 3 + 1)
   rw [Array.getElem?_eq_getElem (by simp; omega)] at x1
   have y1 := blk_free r2 (j * 3 + 1)
   have z2 : (a2.setCell ⟨r, j * 3 + 1, none⟩ (.string ⟨(mk (m + 1)).toArray⟩)).cell? ⟨r, j * 3 + 2, none⟩ = some u := by
    rw [blk_cell (blk_set r2 (j * 3 + 1) _), Array.getElem?_setIfInBounds, if_neg (by omega), Array.getElem?_setIfInBounds, if_neg (by omega), ← blk_cell HA.out]
    exact HU.out.1
   have hb3 : FS S w (a2.setCell ⟨r, j * 3 + 1, none⟩ (.string ⟨(mk (m + 1)).toArray⟩)) := ((HF.out.set r (j * 3) _ hr).up hb2).set r (j * 3 + 1) _ hr
   have HNX : Hid (∀ a4 : World, Bun (Q j) (K j) (a2.setCell ⟨r, j * 3 + 1, none⟩ (.string ⟨(mk (m + 1)).toArray⟩)) a4 → MI a4 (Q j) (K j) (m + 2) → WN a4 r n K Q (j + 1)) := by
    have hb2' := hb2
    rw [HM.out] at hb2' ⊢
    exact fun a4 h1 h2 => HH.out.next hlt hb2' h1 h2
   have hwi3 : WI (a2.setCell ⟨r, j * 3 + 1, none⟩ (.string ⟨(mk (m + 1)).toArray⟩)) u (K j) (Q j) := HU.out.2.1.blk (fun h0 => by
    have hqr := HU.out.2.2 h0
    have hql := HU.out.2.1.lt h0
    rw [Below.heap_setCell _ _ _ _ (by show Q j ≠ r; exact hqr), hb2.block _ (by simpa [World.setCell] using hql), Below.heap_setCell _ _ _ _ (by show Q j ≠ r; exact hqr)])
   have HB3 : Hid (FS S w (a2.setCell ⟨r, j * 3 + 1, none⟩ (.string ⟨(mk (m + 1)).toArray⟩))) := hb3
   have hqB := HQ.out j hlt
   have CM : Hid (Calls Tryz.prog 64 #[u, .int .i64 ((m : Int) + 1 + 1)] (a2.setCell ⟨r, j * 3 + 1, none⟩ (.string ⟨(mk (m + 1)).toArray⟩)) fun e w' => e = .returned (.int .i64 (((m + 1 + 1) + K j : Nat) : Int)) ∧ Bun (Q j) (K j) (a2.setCell ⟨r, j * 3 + 1, none⟩ (.string ⟨(mk (m + 1)).toArray⟩)) w' ∧ MI w' (Q j) (K j) (m + 1 + 1)) := markInts_n (Q j) (K j) (m + 1 + 1) u _ hwi3 (by omega) (by omega)
   have HCN : Hid (cm K (j + 1) = m + 1 + 1 + K j) := by show cm K j + 2 + K j = _; rw [← HM.out]
   have HQB : Hid (0 < K j → S (Q j)) := hqB
   have huf : ∃ ua uc, u = .slice ua (K j) uc := by
    obtain ⟨ka, c', e, -⟩ := HU.out.2.1
    exact ⟨ka, c', e⟩
   clear hb3 r1 r2 HH HA CT hb2 hwi3 HU HF hqB
   obtain ⟨ua, uc, rfl⟩ := huf
   obtain ⟨kj, hkj⟩ : ∃ kj, kj = K j := ⟨_, rfl⟩
   rw [← hkj] at z2 CM HCN HQB HNX hKj
   clear hkj
   go_wp2_with fail
   refine CM.out.mono ?_
   rintro e a5 ⟨rfl, hbun, hmi⟩
   have HW2 : Hid (WN a5 r n K Q (j + 1)) := HNX.out a5 hbun hmi
   have HF5 : Hid (FS S w a5) := HB3.out.bun hbun HQB.out
   clear hbun hmi HNX CM HB3 z2
   go_wp2_with fail
   go_roundw
   case rel => exact ⟨j + 1, by go_num, by rw [HCN.out]; go_num, by omega, HF5.out, HW2.out⟩
   case measure => simp [intOf]; omega
  ·obtain rfl : j = n := by omega
   go_wp2
   go_ret
   exact ⟨rfl, HH.out, HF.out⟩
set_option maxRecDepth 100000 in
set_option maxHeartbeats 2000000 in
theorem heldNds_any (r n c : Nat) (K Q : Nat → Nat) (w : World) (h : WN w r n K Q n) (hn : 0 < n) (hn2 : n ≤ 1000) (hK : ∀ i, K i ≤ 1000) :
  Calls Tryz.prog 29 #[.slice (some ⟨r, 0, none⟩) n c, .int .i64 1] w fun e w' => e = .returned (.int .i64 (cm K n : Int)) ∧ Below w.heap.size w w' := by
 have HW : Hid (WN w r n K Q n) := h
 have HK : Hid (∀ i, K i ≤ 1000) := hK
 clear h hK
 go_enter Tryz.func29, Tryz.ntmps29
 go_wp2
 go_loopw [1, 5] (fun q i wr => ∃ j : Nat, i = .int .i64 (j : Int) ∧ q = .int .i64 (cm K j : Int) ∧ j ≤ n ∧ Below w.heap.size w wr) (fun _ i _ => n - (intOf i).toNat)
 case atStart => exact ⟨0, rfl, rfl, by omega, Below.refl _ _⟩
 case round =>
  obtain ⟨j, rfl, rfl, hj, hbel⟩ := hrel
  have hsz := hbel.size
  by_cases hlt : j < n
  ·obtain ⟨hc1, hc2⟩ := cm_le K HK.out j
   have hKj := HK.out j
   obtain ⟨⟨arr, ha, hs⟩, k2, k3, _, k5⟩ := HW.out.keep (Nat.le_refl _) hbel
   obtain ⟨x0, x1, x2⟩ := k5 j hlt
   obtain ⟨u, hu, hwi⟩ := k2 j hlt
   have hrl := blk_lt ha
   obtain ⟨m, hm⟩ : ∃ m, m = cm K j := ⟨_, rfl⟩
   rw [← hm] at hc1 hc2 x0 x1 x2 ⊢
   have HM : Hid (m = cm K j) := hm
   obtain ⟨x, hx⟩ : ∃ x : ByteArray, x = ⟨(mk (m + 1)).toArray⟩ := ⟨_, rfl⟩
   rw [← hx] at x1
   have i1 : (j : Int) < (n : Int) := by omega
   have i0 : (0 : Int) ≤ (j : Int) := by omega
   have CT : Hid (∀ W : World, Calls Tryz.prog 63 #[.int .i64 ((m : Int) + 1)] W fun e w' => e = .returned (.string x) ∧ Below W.heap.size W w') := fun W => by
    have := markText_int ((m : Int) + 1) (m + 1) W (by omega) (by omega) (by omega)
    rwa [← hx] at this
   have hq : ((m : Int) != (m : Int)) = false := by simp
   have HX2 : Hid (MI wr (Q j) (K j) (m + 2) ∧ (0 < K j → Q j < wr.heap.size)) := ⟨x2, fun h0 => hwi.lt h0⟩
   have HU : Hid (wr.cell? ⟨r, j * 3 + 2, none⟩ = some u ∧ ∃ ka c, u = .slice ka (K j) c ∧ (0 < K j → ka = some ⟨Q j, 0, none⟩)) := ⟨hu, by
    obtain ⟨ka, c', e, f⟩ := hwi
    exact ⟨ka, c', e, fun h0 => (f h0).1⟩⟩
   clear hm hx k2 k3 k5 ha x2 hu hwi
   go_wp2_with fail
   go_region_held3 (fun w' => w'.cell? ⟨r, j * 3 + 1, none⟩ = some (.string x)) (first | go_keep | (rw [hb2.cell (by exact hrl)]; exact x1)) ((go_at_call 63; refine (CT.out _).mono ?_; rintro e a2 ⟨rfl, hb2⟩))
   have hb3 : Below wr.heap.size wr a2 := (Below.refl wr.heap.size wr).drew.trans hb2
   have z3 := (hb3.cell (p := ⟨r, j * 3 + 2, none⟩) hrl).trans HU.out.1
   have hb4 : Below w.heap.size w a2 := hbel.trans (hb3.mono hsz)
   have hmi : MI a2 (Q j) (K j) (m + 1 + 1) := HX2.out.1.blk (fun h0 => hb3.block _ (HX2.out.2 h0))
   have CM : Hid (Calls Tryz.prog 65 #[u, .int .i64 ((m : Int) + 1 + 1)] a2 fun e w' => e = .returned (.int .i64 (((m + 1 + 1) + K j : Nat) : Int)) ∧ w' = a2) := heldInts_n (Q j) (K j) (m + 1 + 1) u a2 HU.out.2 hmi (by omega) (by omega)
   have HCN : Hid (cm K (j + 1) = m + 1 + 1 + K j) := by show cm K j + 2 + K j = _; rw [← HM.out]
   have huf : ∃ ua uc, u = .slice ua (K j) uc := by
    obtain ⟨ka, c', e, -⟩ := HU.out.2
    exact ⟨ka, c', e⟩
   clear hmi HX2 HU
   obtain ⟨ua, uc, rfl⟩ := huf
   obtain ⟨kj, hkj⟩ : ∃ kj, kj = K j := ⟨_, rfl⟩
   rw [← hkj] at z3 CM HCN hKj
   clear hkj
   have dz : decide ((((m + 1 + 1) + kj : Nat) : Int) < 0) = false := decide_eq_false (by omega)
   have dz2 : decide ((m : Int) + 1 + 1 + (kj : Int) < 0) = false := decide_eq_false (by omega)
   go_wp2_with fail
   refine CM.out.mono ?_
   rintro e a5 ⟨rfl, hw5⟩
   rw [hw5]
   clear hw5 CM
   go_wp2_with fail
   go_roundw
   case rel => exact ⟨j + 1, by go_num, by rw [HCN.out]; go_num, by omega, hb4⟩
   case measure => simp [intOf]; omega
  ·obtain rfl : j = n := by omega
   go_wp2
   go_ret
   exact ⟨rfl, hbel⟩
end PartMnB
section PartTkP
namespace Tk
structure Tok where
 kind : Nat
 text : List UInt8
def no : Tok := ⟨0, []⟩
def letter (b : UInt8) : Bool := (decide (97 ≤ b.toNat) && decide (b.toNat ≤ 122)) || (decide (65 ≤ b.toNat) && decide (b.toNat ≤ 90))
def figure (b : UInt8) : Bool := decide (48 ≤ b.toNat) && decide (b.toNat ≤ 57)
def run (p : UInt8 → Bool) (l : List UInt8) (i : Nat) : Nat := i + ((l.drop i).takeWhile p).length
theorem run_end (p : UInt8 → Bool) {l : List UInt8} {i : Nat} (h : l.length ≤ i) : run p l i = i := by
 unfold run
 rw [List.drop_eq_nil_of_le h]
 rfl
theorem run_step {p : UInt8 → Bool} {l : List UInt8} {i : Nat} (h : i < l.length) (hp : p l[i] = true) : run p l i = run p l (i + 1) := by
 unfold run
 rw [List.drop_eq_getElem_cons h, List.takeWhile_cons_of_pos hp]
 simp
 omega
theorem run_stop {p : UInt8 → Bool} {l : List UInt8} {i : Nat} (h : i < l.length) (hp : p l[i] = false) : run p l i = i := by
 unfold run
 rw [List.drop_eq_getElem_cons h, List.takeWhile_cons_of_neg (by simp [hp])]
 rfl
theorem run_ge (p : UInt8 → Bool) (l : List UInt8) (i : Nat) : i ≤ run p l i := by unfold run; omega
theorem run_le (p : UInt8 → Bool) {l : List UInt8} {i : Nat} (h : i ≤ l.length) : run p l i ≤ l.length := by
 unfold run
 have := (List.takeWhile_prefix p (l := l.drop i)).length_le
 simp at this
 omega
def cut (l : List UInt8) (a b : Nat) : List UInt8 := (l.drop a).take (b - a)
def textEnd (l : List UInt8) (a : Nat) (m : UInt8) (most : Nat) : Nat :=
 if l[run (fun b => b != m && b != 10) l (a + 1)]? = some m ∧ run (fun b => b != m && b != 10) l (a + 1) - a - 1 ≤ most then run (fun b => b != m && b != 10) l (a + 1) else 0
theorem textEnd_lt {l : List UInt8} {a : Nat} {m : UInt8} {most : Nat} (h : textEnd l a m most ≠ 0) : a < textEnd l a m most ∧ textEnd l a m most < l.length := by
 unfold textEnd at h ⊢
 split at h
 ·rename_i k
  rw [if_pos k]
  refine ⟨by have := run_ge (fun b => b != m && b != 10) l (a + 1); omega, ?_⟩
  exact (List.getElem?_eq_some_iff.1 k.1).1
 ·exact absurd rfl h
def signs : List UInt8 := [123, 125, 40, 41, 91, 93, 36, 126, 60, 43, 45, 42, 37, 46, 44, 61]
def one (l : List UInt8) (a : Nat) (last : Tok) : Option (Tok × Nat) :=
 if l.getD a 0 = 10 ∨ l.getD a 0 = 59 then some (⟨6, [59]⟩, a + 1)
 else if letter (l.getD a 0) = true then (if 8 < run letter l a - a then none else some (⟨1, cut l a (run letter l a)⟩, run letter l a))
 else if figure (l.getD a 0) = true then (if 6 < run figure l a - a then none else some (⟨2, cut l a (run figure l a)⟩, run figure l a))
 else if l.getD a 0 = 34 then (if textEnd l a 34 30 = 0 then none else some (⟨3, cut l (a + 1) (textEnd l a 34 30)⟩, textEnd l a 34 30 + 1))
 else if l.getD a 0 = 47 then (if textEnd l a 47 24 = 0 ∨ last.kind ≠ 5 ∨ last.text ≠ [126] then none else if (Pp.read (cut l (a + 1) (textEnd l a 47 24))).isSome = true then some (⟨4, cut l (a + 1) (textEnd l a 47 24)⟩, textEnd l a 47 24 + 1) else none)
 else if l[a + 1]? = some 61 ∧ (l.getD a 0 = 43 ∨ l.getD a 0 = 61) then some (⟨5, cut l a (a + 2)⟩, a + 2)
 else if l.getD a 0 ∈ signs then some (⟨5, cut l a (a + 1)⟩, a + 1)
 else none
theorem one_gt {l : List UInt8} {a : Nat} {last t : Tok} {n : Nat} (ha : a < l.length) (h : one l a last = some (t, n)) : a < n ∧ n ≤ l.length := by
 have hg : l.getD a 0 = l[a] := by simp [ha]
 unfold one at h
 split at h
 ·simp only [Option.some.injEq, Prod.mk.injEq] at h; omega
 split at h
 ·rename_i k
  split at h
  ·cases h
  ·simp only [Option.some.injEq, Prod.mk.injEq] at h
   rw [hg] at k
   have := run_step ha k
   have := run_ge letter l (a + 1)
   have := run_le letter (Nat.le_of_lt ha)
   omega
 split at h
 ·rename_i k
  split at h
  ·cases h
  ·simp only [Option.some.injEq, Prod.mk.injEq] at h
   rw [hg] at k
   have := run_step ha k
   have := run_ge figure l (a + 1)
   have := run_le figure (Nat.le_of_lt ha)
   omega
 split at h
 ·split at h
  ·cases h
  ·rename_i k
   simp only [Option.some.injEq, Prod.mk.injEq] at h
   have := textEnd_lt k
   omega
 split at h
 ·split at h
  ·cases h
  ·rename_i k
   split at h
   ·simp only [Option.some.injEq, Prod.mk.injEq] at h
    have := textEnd_lt (l := l) (a := a) (m := 47) (most := 24) (fun e => k (.inl e))
    omega
   ·cases h
 split at h
 ·rename_i k
  simp only [Option.some.injEq, Prod.mk.injEq] at h
  have := (List.getElem?_eq_some_iff.1 k.1).1
  omega
 split at h
 ·simp only [Option.some.injEq, Prod.mk.injEq] at h; omega
 ·cases h
def loop (l : List UInt8) : Nat → Nat → Tok → List Tok → List Tok × Nat
 | 0, _, _, out => (out, 0)
 | f + 1, a, last, out =>
  if l.length ≤ a then (out, 0)
  else if l.getD a 0 = 32 ∨ l.getD a 0 = 9 then loop l f (a + 1) last out
  else if l.getD a 0 = 35 then loop l f (run (fun b => b != 10) l a) last out
  else match one l a last with
   | none => ([], a + 1)
   | some (t, n) => if out.length = 200 then ([], a + 1) else loop l f n t (out ++ [t])
def tokens (l : List UInt8) : List Tok × Nat := if 600 < l.length then ([], 601) else loop l (l.length + 1) 0 no []
end Tk
end PartTkP
section PartTkA
open Go.RowKit
set_option maxHeartbeats 1000000 in
theorem spLetter (c : UInt8) (w : World) : Calls Tryz.prog 76 #[.int .u8 (c.toNat : Int)] w fun e w' => e = .returned (.bool (Tk.letter c)) ∧ w' = w := by
 obtain ⟨z, hz⟩ : ∃ z, z = c.toNat := ⟨_, rfl⟩
 have h256 : c.toNat < 256 := c.toNat_lt
 rw [← hz] at h256
 have HL : Hid (Tk.letter c = ((decide (97 ≤ z) && decide (z ≤ 122)) || (decide (65 ≤ z) && decide (z ≤ 90)))) := by rw [hz]; rfl
 rw [← hz]
 clear hz
 rcases (show z < 65 ∨ (65 ≤ z ∧ z ≤ 90) ∨ (90 < z ∧ z < 97) ∨ (97 ≤ z ∧ z ≤ 122) ∨ 122 < z by omega) with h | h | h | h | h
 ·have e : Tk.letter c = false := by rw [HL.out]; simp; omega
  rw [e]; clear e HL
  have d1 : decide ((97 : Int) ≤ (z : Int)) = false := by simp; omega
  have d2 : decide ((z : Int) ≤ 122) = true := by simp; omega
  have d3 : decide ((65 : Int) ≤ (z : Int)) = false := by simp; omega
  have d4 : decide ((z : Int) ≤ 90) = true := by simp; omega
  go_enter Tryz.func76, Tryz.ntmps76
  go_wp2
  go_ret
  exact ⟨rfl, rfl⟩
 ·have e : Tk.letter c = true := by rw [HL.out]; simp; omega
  rw [e]; clear e HL
  have d1 : decide ((97 : Int) ≤ (z : Int)) = false := by simp; omega
  have d2 : decide ((z : Int) ≤ 122) = true := by simp; omega
  have d3 : decide ((65 : Int) ≤ (z : Int)) = true := by simp; omega
  have d4 : decide ((z : Int) ≤ 90) = true := by simp; omega
  go_enter Tryz.func76, Tryz.ntmps76
  go_wp2
  go_ret
  exact ⟨rfl, rfl⟩
 ·have e : Tk.letter c = false := by rw [HL.out]; simp; omega
  rw [e]; clear e HL
  have d1 : decide ((97 : Int) ≤ (z : Int)) = false := by simp; omega
  have d2 : decide ((z : Int) ≤ 122) = true := by simp; omega
  have d3 : decide ((65 : Int) ≤ (z : Int)) = true := by simp; omega
  have d4 : decide ((z : Int) ≤ 90) = false := by simp; omega
  go_enter Tryz.func76, Tryz.ntmps76
  go_wp2
  go_ret
  exact ⟨rfl, rfl⟩
 ·have e : Tk.letter c = true := by rw [HL.out]; simp; omega
  rw [e]; clear e HL
  have d1 : decide ((97 : Int) ≤ (z : Int)) = true := by simp; omega
  have d2 : decide ((z : Int) ≤ 122) = true := by simp; omega
  have d3 : decide ((65 : Int) ≤ (z : Int)) = true := by simp; omega
  have d4 : decide ((z : Int) ≤ 90) = false := by simp; omega
  go_enter Tryz.func76, Tryz.ntmps76
  go_wp2
  go_ret
  exact ⟨rfl, rfl⟩
 ·have e : Tk.letter c = false := by rw [HL.out]; simp; omega
  rw [e]; clear e HL
  have d1 : decide ((97 : Int) ≤ (z : Int)) = true := by simp; omega
  have d2 : decide ((z : Int) ≤ 122) = false := by simp; omega
  have d3 : decide ((65 : Int) ≤ (z : Int)) = true := by simp; omega
  have d4 : decide ((z : Int) ≤ 90) = false := by simp; omega
  go_enter Tryz.func76, Tryz.ntmps76
  go_wp2
  go_ret
  exact ⟨rfl, rfl⟩
set_option maxHeartbeats 1000000 in
theorem spFigure (c : UInt8) (w : World) : Calls Tryz.prog 77 #[.int .u8 (c.toNat : Int)] w fun e w' => e = .returned (.bool (Tk.figure c)) ∧ w' = w := by
 obtain ⟨z, hz⟩ : ∃ z, z = c.toNat := ⟨_, rfl⟩
 have h256 : c.toNat < 256 := c.toNat_lt
 rw [← hz] at h256
 have HL : Hid (Tk.figure c = (decide (48 ≤ z) && decide (z ≤ 57))) := by rw [hz]; rfl
 rw [← hz]
 clear hz
 rcases (show z < 48 ∨ (48 ≤ z ∧ z ≤ 57) ∨ 57 < z by omega) with h | h | h
 ·have e : Tk.figure c = false := by rw [HL.out]; simp; omega
  rw [e]; clear e HL
  have d1 : decide ((48 : Int) ≤ (z : Int)) = false := by simp; omega
  have d2 : decide ((z : Int) ≤ 57) = true := by simp; omega
  go_enter Tryz.func77, Tryz.ntmps77
  go_wp2
  go_ret
  exact ⟨rfl, rfl⟩
 ·have e : Tk.figure c = true := by rw [HL.out]; simp; omega
  rw [e]; clear e HL
  have d1 : decide ((48 : Int) ≤ (z : Int)) = true := by simp; omega
  have d2 : decide ((z : Int) ≤ 57) = true := by simp; omega
  go_enter Tryz.func77, Tryz.ntmps77
  go_wp2
  go_ret
  exact ⟨rfl, rfl⟩
 ·have e : Tk.figure c = false := by rw [HL.out]; simp; omega
  rw [e]; clear e HL
  have d1 : decide ((48 : Int) ≤ (z : Int)) = true := by simp; omega
  have d2 : decide ((z : Int) ≤ 57) = false := by simp; omega
  go_enter Tryz.func77, Tryz.ntmps77
  go_wp2
  go_ret
  exact ⟨rfl, rfl⟩
theorem lst_at (s : ByteArray) (j : Nat) (h : j < s.size) : s.data.toList[j]'(by simpa using h) = s[j] := rfl
theorem lst_some (s : ByteArray) (j : Nat) (h : j < s.size) : s.data.toList[j]? = some s[j] := by
 rw [List.getElem?_eq_getElem (by simpa using h)]
 rfl
theorem lst_none (s : ByteArray) (j : Nat) (h : s.size ≤ j) : s.data.toList[j]? = none := List.getElem?_eq_none (by simpa using h)
theorem lst_getD (s : ByteArray) (j : Nat) (h : j < s.size) : s.data.toList.getD j 0 = s[j] := by
 rw [List.getD_eq_getElem?_getD, lst_some s j h]
 rfl
set_option maxHeartbeats 2000000 in
set_option maxRecDepth 100000 in
theorem spText (s : ByteArray) (a : Nat) (m : UInt8) (most : Nat) (w : World) (ha : a < s.size) (hs : s.size ≤ 1048576) :
  Calls Tryz.prog 78 #[.string s, .int .i64 (a : Int), .int .u8 (m.toNat : Int), .int .i64 (most : Int)] w fun e w' => e = .returned (.int .i64 (Tk.textEnd s.data.toList a m most : Int)) ∧ Below w.heap.size w w' := by
 obtain ⟨R, hR⟩ : ∃ R, R = Tk.run (fun b => b != m && b != 10) s.data.toList (a + 1) := ⟨_, rfl⟩
 have hsl : s.data.toList.length = s.size := by simp
 obtain ⟨E, hE⟩ : ∃ E, E = Tk.textEnd s.data.toList a m most := ⟨_, rfl⟩
 have HE : Hid (E = if s.data.toList[R]? = some m ∧ R - a - 1 ≤ most then R else 0) := by rw [hE, hR]; rfl
 rw [← hE]
 have HSL : Hid (s.data.toList.length = s.size) := hsl
 have hm256 : m.toNat < 256 := m.toNat_lt
 have HR : Hid (Tk.run (fun b => b != m && b != 10) s.data.toList (a + 1) = R) := hR.symm
 clear hR hsl hE
 go_enter Tryz.func78, Tryz.ntmps78
 go_wp2
 go_loopw [9] (fun i wr => ∃ j : Nat, i = .int .i64 (j : Int) ∧ a + 1 ≤ j ∧ j ≤ s.size ∧ Hid (Below w.heap.size w wr) ∧ Hid (Tk.run (fun b => b != m && b != 10) s.data.toList j = R)) (fun i _ => s.size - (intOf i).toNat)
 case atStart => exact ⟨a + 1, by go_num, Nat.le_refl _, ha, Below.refl _ _, HR.out⟩
 case round =>
  obtain ⟨j, rfl, haj, hj, HB, HJ⟩ := hrel
  by_cases hlt : j < s.size
  ·have h256 : s[j].toNat < 256 := s[j].toNat_lt
   have hi : (j : Int) < (s.size : Int) := by omega
   have d0 : decide ((j : Int) < (s.size : Int)) = true := decide_eq_true hi
   have d9 : ((j : Int) == (s.size : Int)) = false := beq_eq_false_iff_ne.2 (by omega)
   by_cases h1 : s[j] = m
   ·have hRj : R = j := by
     rw [← HJ.out]
     refine Tk.run_stop (by rw [HSL.out]; exact hlt) ?_
     rw [lst_at s j hlt, h1]
     simp
    have d1 : ((s[j].toNat : Int) != (m.toNat : Int)) = false := by rw [h1]; simp
    by_cases h3 : j - a - 1 ≤ most
    ·have hE : E = j := by rw [HE.out, hRj, lst_some s j hlt, h1, if_pos ⟨rfl, h3⟩]
     have d3 : decide ((most : Int) < (j : Int) - (a : Int) - 1) = false := decide_eq_false (by omega)
     subst hE
     clear HE HJ h1 HR hRj
     go_wp2
     go_ret
     exact ⟨rfl, HB.out⟩
    ·have hE : E = 0 := by rw [HE.out, hRj, if_neg (fun k => h3 k.2)]
     have d3 : decide ((most : Int) < (j : Int) - (a : Int) - 1) = true := decide_eq_true (by omega)
     subst hE
     clear HE HJ h1 HR hRj
     go_wp2
     go_ret
     exact ⟨rfl, HB.out⟩
   ·have d1 : ((s[j].toNat : Int) != (m.toNat : Int)) = true := by
     have : s[j].toNat ≠ m.toNat := fun e => h1 (UInt8.toNat_inj.1 e)
     simp
     omega
    by_cases h2 : s[j] = 10
    ·have hRj : R = j := by
      rw [← HJ.out]
      refine Tk.run_stop (by rw [HSL.out]; exact hlt) ?_
      rw [lst_at s j hlt, h2]
      simp
     have d2 : ((s[j].toNat : Int) != 10) = false := by rw [h2]; rfl
     have hE : E = 0 := by rw [HE.out, hRj, lst_some s j hlt, if_neg (fun k => h1 (Option.some.inj k.1))]
     subst hE
     clear HE HJ h1 h2 HR hRj
     go_wp2
     go_ret
     exact ⟨rfl, HB.out⟩
    ·have d2 : ((s[j].toNat : Int) != 10) = true := by
      have : s[j].toNat ≠ 10 := fun e => h2 (UInt8.toNat_inj.1 e)
      simp
      omega
     have HN : Hid (Tk.run (fun b => b != m && b != 10) s.data.toList (j + 1) = R) := by
      show _ = _
      rw [← HJ.out]
      refine (Tk.run_step (by rw [HSL.out]; exact hlt) ?_).symm
      rw [lst_at s j hlt]
      simp [h1, h2]
     clear HJ h1 h2 HE HR
     go_wp2
     go_roundw
     case rel => exact ⟨j + 1, by go_num, by omega, by omega, HB.out, HN.out⟩
     case measure => simp [intOf]; omega
  ·obtain rfl : j = s.size := by omega
   have d0 : decide ((s.size : Int) < (s.size : Int)) = false := decide_eq_false (by omega)
   have hRj : R = s.size := by
    rw [← HJ.out]
    exact Tk.run_end _ (by rw [HSL.out]; omega)
   have hE : E = 0 := by rw [HE.out, hRj, lst_none s s.size (Nat.le_refl _), if_neg (fun k => by cases k.1)]
   subst hE
   clear HE HJ HR hRj
   go_wp2
   go_ret
   exact ⟨rfl, HB.out⟩
end PartTkA
end Go.Proofs.YtkfkbdgfnopokaaGreatDoor
