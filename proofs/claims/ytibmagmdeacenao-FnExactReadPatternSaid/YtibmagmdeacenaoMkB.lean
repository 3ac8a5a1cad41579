/- The law's own marks: pieces that are written and held. -/
import Derived.Test.YtibmagmdeacenaoMkA
namespace Go.Proofs.Ytibmagmdeacenao
open Go.RowKit

/-- The mark that a piece begins with; K: how many kids each has. -/
def cn (K : Nat → Nat) : Nat → Nat
  | 0 => 1
  | i + 1 => cn K i + 2 + K i
theorem cn_le (K : Nat → Nat) (h : ∀ i, K i ≤ 2) (i : Nat) : 1 ≤ cn K i ∧ cn K i ≤ 1 + 4 * i := by
  induction i with
  | zero => exact ⟨Nat.le_refl _, Nat.le_refl _⟩
  | succ i ih =>
    have := h i
    unfold cn
    omega
def kvK (q k : Nat) : Value := if k = 0 then .slice none 0 0 else .slice (some ⟨q, 0, none⟩) k k
/-- n pieces, in block r, that may be written; the first m are marked. -/
def WK (w : World) (r n : Nat) (K Q : Nat → Nat) (m : Nat) : Prop :=
  (∃ arr : Array Value, w.heap[r]? = some (.cells arr 54 (0, 0)) ∧ n * 3 ≤ arr.size) ∧
  (∀ i, i < n → w.cell? ⟨r, i * 3 + 2, none⟩ = some (kvK (Q i) (K i))) ∧
  (∀ i, i < n → 0 < K i → Q i ≠ r ∧ ∃ arr : Array Value, w.heap[Q i]? = some (.cells arr 3 (0, 0)) ∧ arr.size = K i) ∧
  (∀ i j, i < j → j < n → 0 < K i → 0 < K j → Q i ≠ Q j) ∧
  (∀ i, i < m → w.cell? ⟨r, i * 3, none⟩ = some (.int .i64 (cn K i : Int)) ∧ w.cell? ⟨r, i * 3 + 1, none⟩ = some (.string ⟨(mk (cn K i + 1)).toArray⟩) ∧ (0 < K i → w.heap[Q i]? = some (.cells (run (cn K i + 2) (K i)).toArray 3 (0, 0))))

theorem WK.keep {w w' : World} {r n m : Nat} {K Q : Nat → Nat} (h : WK w r n K Q m) (hb : Below w.heap.size w w') : WK w' r n K Q m := by
  obtain ⟨⟨arr, ha, hs⟩, h2, h3, h4, h5⟩ := h
  have hl := blk_lt ha
  refine ⟨⟨arr, (hb.block r hl).trans ha, hs⟩, fun i hi => (hb.cell hl).trans (h2 i hi), fun i hi hk => ?_, h4, fun i hi => ?_⟩
  · obtain ⟨k1, a2, k2, k3⟩ := h3 i hi hk
    exact ⟨k1, a2, (hb.block _ (blk_lt k2)).trans k2, k3⟩
  · obtain ⟨k1, k2, k3⟩ := h5 i hi
    exact ⟨(hb.cell hl).trans k1, (hb.cell hl).trans k2, fun hk => (hb.block _ (blk_lt (k3 hk))).trans (k3 hk)⟩

theorem WK.next {wr a2 a4 : World} {r n i : Nat} {K Q : Nat → Nat} (h : WK wr r n K Q i) (hi : i < n) (hb : Below (wr.setCell ⟨r, i * 3, none⟩ (.int .i64 (cn K i : Int))).heap.size (wr.setCell ⟨r, i * 3, none⟩ (.int .i64 (cn K i : Int))) a2)
    (hr : a4.heap[r]? = (a2.setCell ⟨r, i * 3 + 1, none⟩ (.string ⟨(mk (cn K i + 1)).toArray⟩)).heap[r]?) (ho : ∀ k, k < wr.heap.size → k ≠ r → (0 < K i → k ≠ Q i) → a4.heap[k]? = a2.heap[k]?)
    (hq : 0 < K i → a4.heap[Q i]? = some (.cells (run (cn K i + 2) (K i)).toArray 3 (0, 0))) : WK a4 r n K Q (i + 1) := by
  obtain ⟨⟨arr, ha, hs⟩, h2, h3, h4, h5⟩ := h
  have hl := blk_lt ha
  have e1 : (wr.setCell ⟨r, i * 3, none⟩ (.int .i64 (cn K i : Int))).heap.size = wr.heap.size := by simp [World.setCell]
  have r1 := blk_set ha (i * 3) (.int .i64 (cn K i : Int))
  have r2 := (hb.block r (by rw [e1]; exact hl)).trans r1
  have r3 := hr.trans (blk_set r2 (i * 3 + 1) (.string ⟨(mk (cn K i + 1)).toArray⟩))
  have hold : ∀ k, k < wr.heap.size → k ≠ r → (0 < K i → k ≠ Q i) → a4.heap[k]? = wr.heap[k]? := by
    intro k hk hkr hkq
    rw [ho k hk hkr hkq, hb.block k (by rw [e1]; exact hk), Below.heap_setCell _ _ _ _ (by show k ≠ r; exact hkr)]
  have hcell : ∀ j, j ≠ i * 3 → j ≠ i * 3 + 1 → a4.cell? ⟨r, j, none⟩ = wr.cell? ⟨r, j, none⟩ := by
    intro j h1 h2
    rw [blk_cell r3, blk_cell ha, Array.getElem?_setIfInBounds, if_neg (by omega), Array.getElem?_setIfInBounds, if_neg (by omega)]
  refine ⟨⟨_, r3, by simpa using hs⟩, fun j hj => ?_, fun j hj hk => ?_, h4, fun j hj => ?_⟩
  · rw [hcell _ (by omega) (by omega)]
    exact h2 j hj
  · obtain ⟨k1, b2, k2, k3⟩ := h3 j hj hk
    refine ⟨k1, ?_⟩
    by_cases hji : j = i
    · subst hji
      exact ⟨_, hq hk, by simp [run_len]⟩
    · have hne : 0 < K i → Q j ≠ Q i := by
        intro hki
        rcases Nat.lt_or_gt_of_ne hji with hlt | hlt
        · exact h4 j i hlt hi hk hki
        · exact fun e => h4 i j hlt hj hki hk e.symm
      exact ⟨b2, (hold _ (blk_lt k2) k1 hne).trans k2, k3⟩
  · by_cases hji : j = i
    · subst hji
      refine ⟨?_, ?_, hq⟩
      · rw [blk_cell r3, Array.getElem?_setIfInBounds, if_neg (by omega), Array.getElem?_setIfInBounds, if_pos rfl, if_pos (by omega)]
      · rw [blk_cell r3, Array.getElem?_setIfInBounds, if_pos rfl, if_pos (by simp; omega)]
    · obtain ⟨k1, k2, k3⟩ := h5 j (by omega)
      refine ⟨by rw [hcell _ (by omega) (by omega)]; exact k1, by rw [hcell _ (by omega) (by omega)]; exact k2, fun hk => ?_⟩
      obtain ⟨k4, _⟩ := h3 j (by omega) hk
      refine (hold _ (blk_lt (k3 hk)) k4 (fun hki => h4 j i (by omega) hi hk hki)).trans (k3 hk)

/-- A frame: what lies below B, and from C on, is as it was. -/
def FM (B C : Nat) (w w' : World) : Prop := Env w w' ∧ w.heap.size ≤ w'.heap.size ∧ ∀ k, k < w.heap.size → (k < B ∨ C ≤ k) → w'.heap[k]? = w.heap[k]?
theorem FM.refl (B C : Nat) (w : World) : FM B C w w := ⟨Env.refl w, Nat.le_refl _, fun _ _ _ => rfl⟩
theorem FM.set {B C : Nat} {w w' : World} (h : FM B C w w') (r o : Nat) (u : Value) (h1 : B ≤ r) (h2 : r < C) : FM B C w (w'.setCell ⟨r, o, none⟩ u) :=
  ⟨h.1, by simpa [World.setCell] using h.2.1, fun k hk hkk => by rw [Below.heap_setCell _ _ _ _ (by show k ≠ r; omega)]; exact h.2.2 k hk hkk⟩
theorem FM.up {B C : Nat} {w w' w2 : World} (h : FM B C w w') (hb : Below w'.heap.size w' w2) : FM B C w w2 :=
  ⟨h.1.trans ⟨hb.os, hb.tape, hb.output⟩, Nat.le_trans h.2.1 hb.size, fun k hk hkk => (hb.block k (Nat.lt_of_lt_of_le hk h.2.1)).trans (h.2.2 k hk hkk)⟩
theorem FM.but {B C q : Nat} {w w1 w2 : World} (h : FM B C w w1) (hb : But q w1 w2) (h1 : B ≤ q) (h2 : q < C) : FM B C w w2 :=
  ⟨h.1.trans hb.2.2, by rw [hb.1]; exact h.2.1, fun k hk hkk => (hb.2.1 k (by omega)).trans (h.2.2 k hk hkk)⟩
theorem FM.below {B C : Nat} {w w' : World} (h : FM B C w w') (hB : B ≤ w.heap.size) : Below B w w' := ⟨h.1.1, h.1.2.1, h.1.2.2, h.2.1, fun k hk => h.2.2 k (by omega) (.inl hk)⟩
set_option maxRecDepth 100000 in
set_option maxHeartbeats 2000000 in
theorem markPcs_any (B C r n c : Nat) (K Q : Nat → Nat) (w : World) (h : WK w r n K Q 0) (hn : 0 < n) (hn2 : n ≤ 60) (hK : ∀ i, K i ≤ 2) (hr : B ≤ r) (hrC : r < C) (hQ : ∀ i, i < n → 0 < K i → B ≤ Q i ∧ Q i < C) :
    Calls Try.prog 40 #[.slice (some ⟨r, 0, none⟩) n c, .int .i64 1] w fun e w' => e = .returned (.int .i64 (cn K n : Int)) ∧ WK w' r n K Q n ∧ FM B C w w' := by
  have HW : Hid (WK w r n K Q 0) := h
  have HK : Hid (∀ i, K i ≤ 2) := hK
  have HQ : Hid (∀ i, i < n → 0 < K i → B ≤ Q i ∧ Q i < C) := hQ
  clear h hK hQ
  go_enter Try.func40, Try.ntmps40
  go_wp2
  go_loopw [1, 5] (fun q i wr => ∃ j : Nat, i = .int .i64 (j : Int) ∧ q = .int .i64 (cn K j : Int) ∧ j ≤ n ∧ FM B C w wr ∧ Hid (WK wr r n K Q j)) (fun _ i _ => n - (intOf i).toNat)
  case atStart => exact ⟨0, rfl, rfl, by omega, FM.refl _ _ _, HW.out⟩
  case round =>
    obtain ⟨j, rfl, rfl, hj, hbel, HH⟩ := hrel
    have hsz := hbel.2.1
    by_cases hlt : j < n
    · obtain ⟨hc1, hc2⟩ := cn_le K HK.out j
      have hKj := HK.out j
      obtain ⟨⟨arr, ha, hs⟩, k2, k3, _, _⟩ := HH.out
      have hrl := blk_lt ha
      have x0 := blk_cell ha (j * 3)
      rw [Array.getElem?_eq_getElem (by omega)] at x0
      have y0 := blk_free ha (j * 3)
      obtain ⟨m, hm⟩ : ∃ m, m = cn K j := ⟨_, rfl⟩
      rw [← hm] at hc1 hc2 ⊢
      have HM : Hid (m = cn K j) := hm
      have i1 : (j : Int) < (n : Int) := by omega
      have r1 := blk_set ha (j * 3) (.int .i64 (m : Int))
      have hl1 : r < (wr.setCell ⟨r, j * 3, none⟩ (.int .i64 (m : Int))).heap.size := by simpa [World.setCell] using hrl
      have CT : Hid (∀ W : World, Calls Try.prog 32 #[.int .i64 ((m : Int) + 1)] W fun e w' => e = .returned (.string ⟨(mk (m + 1)).toArray⟩) ∧ Below W.heap.size W w') := fun W => markText_int ((m : Int) + 1) (m + 1) W (by omega) (by omega) (by omega)
      have x2 := k2 j hlt
      have hKV : Hid (wr.cell? ⟨r, j * 3 + 2, none⟩ = some (kvK (Q j) (K j))) := x2
      have HK3 : Hid (0 < K j → Q j ≠ r ∧ ∃ arr : Array Value, wr.heap[Q j]? = some (.cells arr 3 (0, 0)) ∧ arr.size = K j) := k3 j hlt
      have HA : Hid (wr.heap[r]? = some (.cells arr 54 (0, 0))) := ha
      clear hm k2 k3 ha x2
      go_wp2_with fail
      refine (CT.out _).mono ?_
      rintro e a2 ⟨rfl, hb2⟩
      have r2 := (hb2.block r hl1).trans r1
      have x1 := blk_cell r2 (j * 3 + 1)
      rw [Array.getElem?_eq_getElem (by simp; omega)] at x1
      have y1 := blk_free r2 (j * 3 + 1)
      have z2 : (a2.setCell ⟨r, j * 3 + 1, none⟩ (.string ⟨(mk (m + 1)).toArray⟩)).cell? ⟨r, j * 3 + 2, none⟩ = some (kvK (Q j) (K j)) := by
        rw [blk_cell (blk_set r2 (j * 3 + 1) _), Array.getElem?_setIfInBounds, if_neg (by omega), Array.getElem?_setIfInBounds, if_neg (by omega), ← blk_cell HA.out]
        exact hKV.out
      have hb3 : FM B C w (a2.setCell ⟨r, j * 3 + 1, none⟩ (.string ⟨(mk (m + 1)).toArray⟩)) := ((hbel.set r (j * 3) _ hr hrC).up hb2).set r (j * 3 + 1) _ hr hrC
      have HNX : Hid (∀ a4 : World, a4.heap[r]? = (a2.setCell ⟨r, j * 3 + 1, none⟩ (.string ⟨(mk (m + 1)).toArray⟩)).heap[r]? → (∀ k, k < wr.heap.size → k ≠ r → (0 < K j → k ≠ Q j) → a4.heap[k]? = a2.heap[k]?) →
          (0 < K j → a4.heap[Q j]? = some (.cells (run (m + 2) (K j)).toArray 3 (0, 0))) → WK a4 r n K Q (j + 1)) := by
        have hb2' := hb2
        rw [HM.out] at hb2' ⊢
        exact fun a4 h1 h2 h3 => HH.out.next hlt hb2' h1 h2 h3
      have HB3 : Hid (FM B C w (a2.setCell ⟨r, j * 3 + 1, none⟩ (.string ⟨(mk (m + 1)).toArray⟩))) := hb3
      have HB2 : Hid (Below (wr.setCell ⟨r, j * 3, none⟩ (.int .i64 (m : Int))).heap.size (wr.setCell ⟨r, j * 3, none⟩ (.int .i64 (m : Int))) a2) := hb2
      clear hb3 r1 r2 HH HA hKV CT hb2
      by_cases hk0 : K j = 0
      · have ekv : kvK (Q j) (K j) = .slice none 0 0 := by unfold kvK; rw [if_pos hk0]
        rw [ekv] at z2
        have hcn : cn K (j + 1) = m + 1 + 1 := by show cn K j + 2 + K j = _; rw [hk0, ← HM.out]
        have CM : Hid (∀ W : World, Calls Try.prog 25 #[.slice none 0 0, .int .i64 ((m : Int) + 1 + 1)] W fun e w' => e = .returned (.int .i64 ((m : Int) + 1 + 1)) ∧ w' = W) := fun W => markInts_none (m + 1 + 1) W
        have HCN : Hid (cn K (j + 1) = m + 1 + 1) := hcn
        have HW2 : Hid (WK (a2.setCell ⟨r, j * 3 + 1, none⟩ (.string ⟨(mk (m + 1)).toArray⟩)) r n K Q (j + 1)) := HNX.out _ rfl (fun k hk hkr _ => Below.heap_setCell _ _ _ _ (by show k ≠ r; exact hkr)) (fun h => by omega)
        clear ekv hcn HNX HK3
        go_wp2_with fail
        refine (CM.out _).mono ?_
        rintro e a5 ⟨rfl, rfl⟩
        go_wp2_with fail
        go_roundw
        case rel => exact ⟨j + 1, by go_num, by rw [HCN.out]; go_num, by omega, HB3.out, HW2.out⟩
        case measure => simp [intOf]; omega
      · have hkp : 0 < K j := by omega
        have ekv : kvK (Q j) (K j) = .slice (some ⟨Q j, 0, none⟩) (K j) (K j) := by unfold kvK; rw [if_neg hk0]
        rw [ekv] at z2
        obtain ⟨hqr, barr, hq1, hq2⟩ := HK3.out hkp
        have hql := blk_lt hq1
        have hqB := HQ.out j hlt hkp
        have hq3 : (a2.setCell ⟨r, j * 3 + 1, none⟩ (.string ⟨(mk (m + 1)).toArray⟩)).heap[Q j]? = some (.cells barr 3 (0, 0)) := by
          rw [Below.heap_setCell _ _ _ _ (by show Q j ≠ r; exact hqr), HB2.out.block _ (by simpa [World.setCell] using hql), Below.heap_setCell _ _ _ _ (by show Q j ≠ r; exact hqr)]
          exact hq1
        have CM : Hid (Calls Try.prog 25 #[.slice (some ⟨Q j, 0, none⟩) (K j) (K j), .int .i64 ((m : Int) + 1 + 1)] (a2.setCell ⟨r, j * 3 + 1, none⟩ (.string ⟨(mk (m + 1)).toArray⟩)) fun e w' => e = .returned (.int .i64 (((m + 1 + 1) + K j : Nat) : Int)) ∧ But (Q j) (a2.setCell ⟨r, j * 3 + 1, none⟩ (.string ⟨(mk (m + 1)).toArray⟩)) w' ∧ w'.heap[Q j]? = some (.cells (run (m + 1 + 1) (K j)).toArray 3 (0, 0))) := markInts_any (Q j) (K j) (m + 1 + 1) barr _ hq3 hq2 hkp (by omega) (by omega)
        have HCN : Hid (cn K (j + 1) = m + 1 + 1 + K j) := by show cn K j + 2 + K j = _; rw [← HM.out]
        clear ekv hq1 hq2 hq3 HK3
        obtain ⟨kj, hkj⟩ : ∃ kj, kj = K j := ⟨_, rfl⟩
        obtain ⟨qj, hqj⟩ : ∃ qj, qj = Q j := ⟨_, rfl⟩
        rw [← hkj, ← hqj] at z2 CM
        rw [← hkj] at HCN
        have HKJ : Hid (kj = K j ∧ qj = Q j) := ⟨hkj, hqj⟩
        clear hkj hqj
        go_wp2_with fail
        refine CM.out.mono ?_
        rintro e a5 ⟨rfl, hbut, hq5⟩
        have HW2 : Hid (WK a5 r n K Q (j + 1)) := by
          refine HNX.out a5 (hbut.2.1 r (by rw [HKJ.out.2]; exact fun e => hqr e.symm)) (fun k hk hkr hkq => ?_) (fun _ => ?_)
          · rw [hbut.2.1 k (by rw [HKJ.out.2]; exact hkq hkp)]
            exact Below.heap_setCell _ _ _ _ (by show k ≠ r; exact hkr)
          · rw [← HKJ.out.1, ← HKJ.out.2]
            exact hq5
        have hb5 : FM B C w a5 := HB3.out.but hbut (by rw [HKJ.out.2]; exact hqB.1) (by rw [HKJ.out.2]; exact hqB.2)
        clear hbut hq5 HNX CM HB3 HB2
        go_wp2_with fail
        go_roundw
        case rel => exact ⟨j + 1, by go_num, by rw [HCN.out]; go_num, by omega, hb5, HW2.out⟩
        case measure => simp [intOf]; omega
    · obtain rfl : j = n := by omega
      go_wp2
      go_ret
      exact ⟨rfl, HH.out, hbel⟩

set_option maxRecDepth 100000 in
set_option maxHeartbeats 2000000 in
theorem heldPcs_any (r n c : Nat) (K Q : Nat → Nat) (w : World) (h : WK w r n K Q n) (hn : 0 < n) (hn2 : n ≤ 60) (hK : ∀ i, K i ≤ 2) :
    Calls Try.prog 41 #[.slice (some ⟨r, 0, none⟩) n c, .int .i64 1] w fun e w' => e = .returned (.int .i64 (cn K n : Int)) ∧ Below w.heap.size w w' := by
  have HW : Hid (WK w r n K Q n) := h
  have HK : Hid (∀ i, K i ≤ 2) := hK
  clear h hK
  go_enter Try.func41, Try.ntmps41
  go_wp2
  go_loopw [1, 5] (fun q i wr => ∃ j : Nat, i = .int .i64 (j : Int) ∧ q = .int .i64 (cn K j : Int) ∧ j ≤ n ∧ Below w.heap.size w wr) (fun _ i _ => n - (intOf i).toNat)
  case atStart => exact ⟨0, rfl, rfl, by omega, Below.refl _ _⟩
  case round =>
    obtain ⟨j, rfl, rfl, hj, hbel⟩ := hrel
    have hsz := hbel.size
    by_cases hlt : j < n
    · obtain ⟨hc1, hc2⟩ := cn_le K HK.out j
      have hKj := HK.out j
      obtain ⟨⟨arr, ha, hs⟩, k2, k3, _, k5⟩ := HW.out.keep hbel
      obtain ⟨x0, x1, x2⟩ := k5 j hlt
      have z2 := k2 j hlt
      have hrl := blk_lt ha
      obtain ⟨m, hm⟩ : ∃ m, m = cn K j := ⟨_, rfl⟩
      rw [← hm] at hc1 hc2 x0 x1 x2 ⊢
      have HM : Hid (m = cn K j) := hm
      obtain ⟨x, hx⟩ : ∃ x : ByteArray, x = ⟨(mk (m + 1)).toArray⟩ := ⟨_, rfl⟩
      rw [← hx] at x1
      have i1 : (j : Int) < (n : Int) := by omega
      have i0 : (0 : Int) ≤ (j : Int) := by omega
      have CT : Hid (∀ W : World, Calls Try.prog 32 #[.int .i64 ((m : Int) + 1)] W fun e w' => e = .returned (.string x) ∧ Below W.heap.size W w') := fun W => by
        have := markText_int ((m : Int) + 1) (m + 1) W (by omega) (by omega) (by omega)
        rwa [← hx] at this
      have hq : ((m : Int) != (m : Int)) = false := by simp
      have HX2 : Hid (0 < K j → wr.heap[Q j]? = some (.cells (run (m + 2) (K j)).toArray 3 (0, 0))) := x2
      have HZ2 : Hid (wr.cell? ⟨r, j * 3 + 2, none⟩ = some (kvK (Q j) (K j))) := z2
      clear hm hx k2 k3 k5 ha x2 z2
      go_wp2_with fail
      go_region_held3 (fun w' => w'.cell? ⟨r, j * 3 + 1, none⟩ = some (.string x)) (first | go_keep | (rw [hb2.cell (by exact hrl)]; exact x1)) ((go_at_call 32; refine (CT.out _).mono ?_; rintro e a2 ⟨rfl, hb2⟩))
      have hb3 : Below wr.heap.size wr a2 := (Below.refl wr.heap.size wr).drew.trans hb2
      have z3 := (hb3.cell (p := ⟨r, j * 3 + 2, none⟩) hrl).trans HZ2.out
      have hb4 : Below w.heap.size w a2 := hbel.trans (hb3.mono hsz)
      by_cases hk0 : K j = 0
      · have ekv : kvK (Q j) (K j) = .slice none 0 0 := by unfold kvK; rw [if_pos hk0]
        rw [ekv] at z3
        have HCN : Hid (cn K (j + 1) = m + 1 + 1) := by show cn K j + 2 + K j = _; rw [hk0, ← HM.out]
        have CM : Hid (∀ W : World, Calls Try.prog 26 #[.slice none 0 0, .int .i64 ((m : Int) + 1 + 1)] W fun e w' => e = .returned (.int .i64 ((m : Int) + 1 + 1)) ∧ w' = W) := fun W => heldInts_none (m + 1 + 1) W
        have dz : decide ((m : Int) + 1 + 1 < 0) = false := decide_eq_false (by omega)
        clear ekv HX2 HZ2 hk0
        go_wp2_with fail
        refine (CM.out _).mono ?_
        rintro e a5 ⟨rfl, hw5⟩
        rw [hw5]
        clear hw5
        go_wp2_with fail
        go_roundw
        case rel => exact ⟨j + 1, by go_num, by rw [HCN.out]; go_num, by omega, hb4⟩
        case measure => simp [intOf]; omega
      · have hkp : 0 < K j := by omega
        have ekv : kvK (Q j) (K j) = .slice (some ⟨Q j, 0, none⟩) (K j) (K j) := by unfold kvK; rw [if_neg hk0]
        rw [ekv] at z3
        have hq1 := HX2.out hkp
        have hq3 := (hb3.block _ (blk_lt hq1)).trans hq1
        have CM : Hid (Calls Try.prog 26 #[.slice (some ⟨Q j, 0, none⟩) (K j) (K j), .int .i64 ((m : Int) + 1 + 1)] a2 fun e w' => e = .returned (.int .i64 (((m + 1 + 1) + K j : Nat) : Int)) ∧ w' = a2) := heldInts_any (Q j) (K j) (m + 1 + 1) a2 hq3 hkp (by omega) (by omega)
        have HCN : Hid (cn K (j + 1) = m + 1 + 1 + K j) := by show cn K j + 2 + K j = _; rw [← HM.out]
        clear ekv hq1 hq3 HX2 HZ2
        obtain ⟨kj, hkj⟩ : ∃ kj, kj = K j := ⟨_, rfl⟩
        obtain ⟨qj, hqj⟩ : ∃ qj, qj = Q j := ⟨_, rfl⟩
        rw [← hkj, ← hqj] at z3 CM
        rw [← hkj] at HCN
        clear hkj hqj hkp hk0 hKj
        have dz : decide ((((m + 1 + 1) + kj : Nat) : Int) < 0) = false := decide_eq_false (by omega)
        have dz2 : decide ((m : Int) + 1 + 1 + (kj : Int) < 0) = false := decide_eq_false (by omega)
        go_wp2_with fail
        refine CM.out.mono ?_
        rintro e a5 ⟨rfl, hw5⟩
        rw [hw5]
        clear hw5 CM
        go_wp2_with fail
        go_roundw
        case rel => exact ⟨j + 1, by go_num, by rw [HCN.out]; go_num, by omega, hb4⟩
        case measure => simp [intOf]; omega
    · obtain rfl : j = n := by omega
      go_wp2
      go_ret
      exact ⟨rfl, hbel⟩
#print axioms heldPcs_any
end Go.Proofs.Ytibmagmdeacenao
