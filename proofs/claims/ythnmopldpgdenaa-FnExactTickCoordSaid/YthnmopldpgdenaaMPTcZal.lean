/- The law's own marks: the text of a mark. Rows of Vars and of Cells in memory of their own; the law's marks over them. -/
import Derived.Test.YthnmopldpgdenaaMPTcZaj
import Derived.Test.YthnmopldpgdenaaMPTcZak
import Derived.Test.YthnmopldpgdenaaMPTcZad
import Derived.Test.YthnmopldpgdenaaMPTcZae
namespace Go.Proofs.Ythnmopldpgdenaa
section PartMkT
open Go.RowKit

theorem cat1 (c : UInt8) (t : List UInt8) : (⟨[c].toArray⟩ : ByteArray) ++ (⟨t.toArray⟩ : ByteArray) = ⟨(c :: t).toArray⟩ := by
  apply ByteArray.ext
  simp

theorem dg_round (n f m : Nat) (t : List UInt8) (hf : m < 10 ^ f) (he : Pl.dg f m ++ t = Pl.dg 20 n) (h : m ≠ 0) :
    ∃ g, f = g + 1 ∧ m / 10 < 10 ^ g ∧ Pl.dg g (m / 10) ++ (Pl.ch (m % 10) :: t) = Pl.dg 20 n := by
  cases f with
  | zero => simp at hf; omega
  | succ g =>
    refine ⟨g, rfl, ?_, ?_⟩
    · rw [Nat.pow_succ] at hf; omega
    · rw [Pl.dg_more g m h] at he; simpa using he

theorem ret_str {a b : ByteArray} (h : a = b) : Ending.returned (.string a) = Ending.returned (.string b) := by rw [h]

/-- The mark of k. -/
def mk (k : Nat) : List UInt8 := 109 :: Pl.dg 20 k

set_option maxHeartbeats 800000 in
set_option maxRecDepth 100000 in
theorem markText_any (n : Nat) (w : World) (h0 : 0 < n) (hn : n ≤ 100000000000000000) :
    Calls Try.prog 52 #[.int .i64 (n : Int)] w fun e w' => e = .returned (.string ⟨(mk n).toArray⟩) ∧ Below w.heap.size w w' := by
  go_enter Try.func52, Try.ntmps52
  go_wp2
  go_loopw [0, 3] (fun i v wr => ∃ (m f : Nat) (t : List UInt8), i = .int .i64 (m : Int) ∧ v = .string ⟨t.toArray⟩ ∧ m ≤ 100000000000000000 ∧ t.length + f = 20 ∧ Below w.heap.size w wr ∧ Hid (m < 10 ^ f) ∧ Hid (Pl.dg f m ++ t = Pl.dg 20 n)) (fun i _ _ => (intOf i).toNat)
  case atStart => exact ⟨n, 20, [], rfl, rfl, hn, rfl, Below.refl _ _, (by show n < 10 ^ 20; omega), (by show _ = _; simp)⟩
  case round =>
    obtain ⟨m, f, t, rfl, rfl, hm, htf, hbel, H1, H2⟩ := hrel
    have hsz := hbel.size
    by_cases hm0 : m = 0
    · subst hm0
      have h3 : Hid (t = Pl.dg 20 n) := by have := H2.out; rw [Pl.dg_zero] at this; exact this
      have htl : t.length ≤ 20 := by omega
      go_wp2
      go_ret
      exact ⟨ret_str (by unfold mk; rw [← h3.out]; exact cat1 109 t), hbel⟩
    · obtain ⟨g, hg, hq, hv⟩ := dg_round n f m t H1.out H2.out hm0
      have HG : Hid (f = g + 1) := hg
      have HQ : Hid (m / 10 < 10 ^ g) := hq
      have HV : Hid (Pl.dg g (m / 10) ++ (Pl.ch (m % 10) :: t) = Pl.dg 20 n) := hv
      clear hg hq hv
      have hpos : 0 < m := by omega
      have hcv := conv1 wr (Pl.ch (m % 10))
      rw [show ((Pl.ch (m % 10)).toNat : Int) = 48 + (m : Int) % 10 by have := Pl.ch_nat (m % 10) (by omega); omega] at hcv
      go_wp2
      go_roundw
      case rel =>
        refine ⟨m / 10, g, Pl.ch (m % 10) :: t, by go_num, ?_, by omega, ?_, hbel.alloc hsz _, HQ.out, HV.out⟩
        · rw [← cat1]
          rfl
        · have := HG.out; simp; omega
      case measure => simp [intOf]; omega

set_option maxRecDepth 100000 in
theorem markText_int (z : Int) (n : Nat) (w : World) (hz : z = (n : Int)) (h0 : 0 < n) (hn : n ≤ 100000000000000000) :
    Calls Try.prog 52 #[.int .i64 z] w fun e w' => e = .returned (.string ⟨(mk n).toArray⟩) ∧ Below w.heap.size w w' := by
  subst hz
  exact markText_any n w h0 hn

end PartMkT
section PartRwA
open Go.RowKit

theorem FM.setIn {B C g : Nat} {w w' : World} (h : FM B C w w') (h1 : B ≤ g) (h2 : g < C) (o : Nat) (u : Value) : FM B C w (w'.setCell ⟨g, o, none⟩ u) :=
  ⟨h.1, by simpa [World.setCell] using h.2.1, fun k hk hkg => by rw [Below.heap_setCell _ _ _ _ (by show k ≠ g; omega)]; exact h.2.2 k hk hkg⟩
theorem cell_up {W W' : World} {p : Addr} {u : Value} (hb : Below W.heap.size W W') (h : W.cell? p = some u) : W'.cell? p = some u := (hb.cell (World.block_lt_of_cell? W _ h)).trans h
/-- The slice v leads to the records xs, in a block of lo .. hi that may be written. -/
def VrIn (lo hi : Nat) (w : World) (v : Value) (xs : List Vr) : Prop := ∃ ad cap, v = .slice ad xs.length cap ∧ (0 < xs.length → ∃ (g : Nat) (arr : Array Value), ad = some ⟨g, 0, none⟩ ∧ lo ≤ g ∧ g < hi ∧ w.heap[g]? = some (.cells arr 102 (0, 0)) ∧ ∀ i, i < xs.length → arr[i * 2]? = some (.string (xs.getD i Vr.no).name) ∧ arr[i * 2 + 1]? = some (.string (xs.getD i Vr.no).val))
theorem VrIn.at {lo hi : Nat} {w : World} {v : Value} {xs : List Vr} (h : VrIn lo hi w v xs) : VrAt w v xs := by
  obtain ⟨ad, cap, rfl, f⟩ := h
  refine ⟨ad, cap, rfl, fun h0 => ?_⟩
  obtain ⟨g, arr, rfl, -, -, ha, hc⟩ := f h0
  refine ⟨g, 0, rfl, blk_lt ha, fun i hi => ?_⟩
  rw [Nat.zero_add]
  exact ⟨(blk_cell ha _).trans (hc i hi).1, (blk_cell ha _).trans (hc i hi).2⟩
theorem VrIn.keep {lo hi : Nat} {w w' : World} {v : Value} {xs : List Vr} (h : VrIn lo hi w v xs) (hk : ∀ b, lo ≤ b → b < hi → w'.heap[b]? = w.heap[b]?) : VrIn lo hi w' v xs := by
  obtain ⟨ad, cap, rfl, f⟩ := h
  refine ⟨ad, cap, rfl, fun h0 => ?_⟩
  obtain ⟨g, arr, rfl, h1, h2, ha, hc⟩ := f h0
  exact ⟨g, arr, rfl, h1, h2, (hk g h1 h2).trans ha, hc⟩
theorem VrIn.wide {lo hi lo' hi' : Nat} {w : World} {v : Value} {xs : List Vr} (h : VrIn lo hi w v xs) (h1 : lo' ≤ lo) (h2 : hi ≤ hi') : VrIn lo' hi' w v xs := by
  obtain ⟨ad, cap, rfl, f⟩ := h
  refine ⟨ad, cap, rfl, fun h0 => ?_⟩
  obtain ⟨g, arr, rfl, e1, e2, ha, hc⟩ := f h0
  exact ⟨g, arr, rfl, by omega, by omega, ha, hc⟩
theorem VrCopy.in {w : World} {g lo hi : Nat} {xs : List Vr} (h : VrCopy w g xs.length xs xs.length) (h1 : lo ≤ g) (h2 : g < hi) (c : Nat) : VrIn lo hi w (.slice (some ⟨g, 0, none⟩) xs.length c) xs := by
  obtain ⟨⟨arr, ha, hs⟩, hQ⟩ := h
  refine ⟨_, c, rfl, fun _ => ⟨g, arr, rfl, h1, h2, ha, fun i hi => ?_⟩⟩
  have := hQ i hi
  rw [blk_cell ha, blk_cell ha] at this
  exact this
/-- The marks of m records from k on. -/
def mkVr (k m : Nat) : List Vr := (List.range m).map fun i => ⟨⟨(mk (k + 2 * i)).toArray⟩, ⟨(mk (k + 2 * i + 1)).toArray⟩⟩
theorem mkVr_len (k m : Nat) : (mkVr k m).length = m := by simp [mkVr]
theorem mkVr_get (k m i : Nat) (h : i < m) : (mkVr k m).getD i Vr.no = ⟨⟨(mk (k + 2 * i)).toArray⟩, ⟨(mk (k + 2 * i + 1)).toArray⟩⟩ := by simp [mkVr, h]
/-- N records in block g that may be written; the first j bear marks from k on. -/
def WrVr (w : World) (g N k j : Nat) : Prop := ∃ arr : Array Value, w.heap[g]? = some (.cells arr 102 (0, 0)) ∧ N * 2 ≤ arr.size ∧ ∀ i, i < j → arr[i * 2]? = some (.string ⟨(mk (k + 2 * i)).toArray⟩) ∧ arr[i * 2 + 1]? = some (.string ⟨(mk (k + 2 * i + 1)).toArray⟩)
theorem WrVr.next {wr a0 a1 : World} {g N k j : Nat} (h : WrVr wr g N k j) (hj : j < N) (h0 : Below wr.heap.size wr a0) (h1 : Below (a0.setCell ⟨g, j * 2, none⟩ (.string ⟨(mk (k + 2 * j)).toArray⟩)).heap.size (a0.setCell ⟨g, j * 2, none⟩ (.string ⟨(mk (k + 2 * j)).toArray⟩)) a1) :
    WrVr (a1.setCell ⟨g, j * 2 + 1, none⟩ (.string ⟨(mk (k + 2 * j + 1)).toArray⟩)) g N k (j + 1) := by
  obtain ⟨arr, ha, hs, hm⟩ := h
  have r0 := (h0.block g (blk_lt ha)).trans ha
  have s0 := blk_set r0 (j * 2) (.string ⟨(mk (k + 2 * j)).toArray⟩)
  have r1 := (h1.block g (blk_lt s0)).trans s0
  have s1 := blk_set r1 (j * 2 + 1) (.string ⟨(mk (k + 2 * j + 1)).toArray⟩)
  refine ⟨_, s1, by simpa using hs, fun i hi => ?_⟩
  by_cases e : i = j
  · subst e
    refine ⟨?_, ?_⟩
    · rw [Array.getElem?_setIfInBounds, if_neg (by omega), Array.getElem?_setIfInBounds, if_pos rfl, if_pos (by omega)]
    · rw [Array.getElem?_setIfInBounds, if_pos rfl, if_pos (by simp; omega)]
  · obtain ⟨m0, m1⟩ := hm i (by omega)
    refine ⟨?_, ?_⟩
    · rw [Array.getElem?_setIfInBounds, if_neg (by omega), Array.getElem?_setIfInBounds, if_neg (by omega)]; exact m0
    · rw [Array.getElem?_setIfInBounds, if_neg (by omega), Array.getElem?_setIfInBounds, if_neg (by omega)]; exact m1

set_option maxRecDepth 100000 in
set_option maxHeartbeats 2000000 in
theorem markVrs_none (ad : Option Addr) (c : Nat) (k : Int) (w : World) :
    Calls Try.prog 53 #[.slice ad 0 c, .int .i64 k] w fun e w' => e = .returned (.int .i64 k) ∧ w' = w := by
  go_enter Try.func53, Try.ntmps53
  go_wp2
  refine wp_loop_rounds 1 ?_
  rw [rounds_succ]
  go_wp2
  go_ret
  exact ⟨rfl, rfl⟩
set_option maxRecDepth 100000 in
set_option maxHeartbeats 2000000 in
theorem heldVrs_none (ad : Option Addr) (c : Nat) (k : Int) (w : World) :
    Calls Try.prog 56 #[.slice ad 0 c, .int .i64 k] w fun e w' => e = .returned (.int .i64 k) ∧ w' = w := by
  go_enter Try.func56, Try.ntmps56
  go_wp2
  refine wp_loop_rounds 1 ?_
  rw [rounds_succ]
  go_wp2
  go_ret
  exact ⟨rfl, rfl⟩

set_option maxRecDepth 100000 in
set_option maxHeartbeats 4000000 in
theorem markVrs_blk (g N c k lo hi : Nat) (w : World) (h : WrVr w g N k 0) (h1 : lo ≤ g) (h2 : g < hi) (hN : N ≤ 1048576) (hk : k ≤ 10000000000000000) (hk0 : 0 < k) :
    Calls Try.prog 53 #[.slice (some ⟨g, 0, none⟩) N c, .int .i64 (k : Int)] w fun e w' => e = .returned (.int .i64 ((k + 2 * N : Nat) : Int)) ∧ WrVr w' g N k N ∧ FM lo hi w w' := by
  have HW : Hid (WrVr w g N k 0) := h
  have HIN : Hid (lo ≤ g ∧ g < hi) := ⟨h1, h2⟩
  clear h h1 h2
  go_enter Try.func53, Try.ntmps53
  go_wp2
  go_loopw [1, 5] (fun q i wr => ∃ j : Nat, i = .int .i64 (j : Int) ∧ q = .int .i64 ((k : Int) + 2 * (j : Int)) ∧ j ≤ N ∧ Hid (FM lo hi w wr) ∧ Hid (WrVr wr g N k j)) (fun _ i _ => N - (intOf i).toNat)
  case atStart => exact ⟨0, rfl, by simp, by omega, FM.refl _ _ _, HW.out⟩
  case round =>
    obtain ⟨j, rfl, rfl, hj, HF, HH⟩ := hrel
    by_cases hlt : j < N
    · obtain ⟨arr, ha, hs, -⟩ := HH.out
      have i1 : (j : Int) < (N : Int) := by omega
      have i0 : (0 : Int) ≤ (j : Int) := by omega
      have C0 : Hid (∀ W : World, Calls Try.prog 52 #[.int .i64 ((k : Int) + 2 * (j : Int))] W fun e w' => e = .returned (.string ⟨(mk (k + 2 * j)).toArray⟩) ∧ Below W.heap.size W w') := fun W => markText_int _ (k + 2 * j) W (by omega) (by omega) (by omega)
      have C1 : Hid (∀ W : World, Calls Try.prog 52 #[.int .i64 ((k : Int) + 2 * (j : Int) + 1)] W fun e w' => e = .returned (.string ⟨(mk (k + 2 * j + 1)).toArray⟩) ∧ Below W.heap.size W w') := fun W => markText_int _ (k + 2 * j + 1) W (by omega) (by omega) (by omega)
      go_wp2_with fail
      refine (C0.out _).mono ?_
      rintro e a0 ⟨rfl, hb0⟩
      have r0 := (hb0.block g (blk_lt ha)).trans ha
      have x0 := blk_cell r0 (j * 2)
      rw [Array.getElem?_eq_getElem (by omega)] at x0
      have y0 := blk_free r0 (j * 2)
      have s0 := blk_set r0 (j * 2) (.string ⟨(mk (k + 2 * j)).toArray⟩)
      have HS0 : Hid _ := s0
      have HB0 : Hid _ := hb0
      clear r0 C0 hb0 ha
      go_wp2_with fail
      refine (C1.out _).mono ?_
      rintro e a1 ⟨rfl, hb1⟩
      have r1 := (hb1.block g (blk_lt s0)).trans s0
      have x1 := blk_cell r1 (j * 2 + 1)
      rw [Array.getElem?_eq_getElem (by simp; omega)] at x1
      have y1 := blk_free r1 (j * 2 + 1)
      have s1 := blk_set r1 (j * 2 + 1) (.string ⟨(mk (k + 2 * j + 1)).toArray⟩)
      have HS1 : Hid _ := s1
      have HB1 : Hid _ := hb1
      clear r1 C1 hb1 x0 y0
      have HN2 : Hid _ := HH.out.next hlt HB0.out HB1.out
      have HF2 : Hid _ := ((((HF.out.up HB0.out).setIn HIN.out.1 HIN.out.2 (j * 2) (.string ⟨(mk (k + 2 * j)).toArray⟩)).up HB1.out).setIn HIN.out.1 HIN.out.2 (j * 2 + 1) (.string ⟨(mk (k + 2 * j + 1)).toArray⟩))
      clear HH HF s0 s1
      go_wp2
      go_roundw
      case rel => exact ⟨j + 1, by go_num, by go_num, by omega, HF2, HN2⟩
      case measure => simp [intOf]; omega
    · obtain rfl : j = N := by omega
      go_wp2
      go_ret
      exact ⟨by go_num, HH.out, HF.out⟩
theorem markVrs_any (lo hi : Nat) (v : Value) (xs : List Vr) (k : Nat) (w : World) (h : VrIn lo hi w v xs) (hN : xs.length ≤ 1048576) (hk : k ≤ 10000000000000000) (hk0 : 0 < k) :
    Calls Try.prog 53 #[v, .int .i64 (k : Int)] w fun e w' => e = .returned (.int .i64 ((k + 2 * xs.length : Nat) : Int)) ∧ VrIn lo hi w' v (mkVr k xs.length) ∧ FM lo hi w w' := by
  obtain ⟨ad, cap, rfl, f⟩ := h
  by_cases h0 : xs.length = 0
  · rw [h0]
    refine (markVrs_none ad cap (k : Int) w).mono ?_
    rintro e w' ⟨rfl, rfl⟩
    exact ⟨rfl, ⟨ad, cap, by rw [mkVr_len], fun h => by rw [mkVr_len] at h; omega⟩, FM.refl _ _ _⟩
  · obtain ⟨g, arr, rfl, h1, h2, ha, hc⟩ := f (by omega)
    have hsz : xs.length * 2 ≤ arr.size := by
      have := (hc (xs.length - 1) (by omega)).2
      have := (Array.getElem?_eq_some_iff.1 this).1
      omega
    refine (markVrs_blk g xs.length cap k lo hi w ⟨arr, ha, hsz, fun i hi => by omega⟩ h1 h2 hN hk hk0).mono ?_
    rintro e w' ⟨rfl, ⟨arr', ha', hs', hm'⟩, hf⟩
    refine ⟨rfl, ⟨_, cap, by rw [mkVr_len], fun _ => ⟨g, arr', rfl, h1, h2, ha', fun i hi => ?_⟩⟩, hf⟩
    rw [mkVr_len] at hi
    rw [mkVr_get k _ i hi]
    exact hm' i hi

set_option maxRecDepth 100000 in
set_option maxHeartbeats 4000000 in
theorem heldVrs_any (v : Value) (N k : Nat) (w : World) (h : VrAt w v (mkVr k N)) (hN : N ≤ 1048576) (hk : k ≤ 10000000000000000) (hk0 : 0 < k) :
    Calls Try.prog 56 #[v, .int .i64 (k : Int)] w fun e w' => e = .returned (.int .i64 ((k + 2 * N : Nat) : Int)) ∧ Below w.heap.size w w' := by
  obtain ⟨ad, cap, rfl, f⟩ := h
  rw [mkVr_len] at f ⊢
  by_cases h0 : N = 0
  · subst h0
    refine (heldVrs_none ad cap (k : Int) w).mono ?_
    rintro e w' ⟨rfl, rfl⟩
    exact ⟨rfl, Below.refl _ _⟩
  · obtain ⟨g, o, rfl, hg, hc⟩ := f (by omega)
    have HC : Hid (∀ i, i < N → w.cell? ⟨g, o + i * 2, none⟩ = some (.string ⟨(mk (k + 2 * i)).toArray⟩) ∧ w.cell? ⟨g, o + i * 2 + 1, none⟩ = some (.string ⟨(mk (k + 2 * i + 1)).toArray⟩)) := fun i hi => by
      have := hc i hi
      rw [mkVr_get k N i hi] at this
      exact this
    clear f hc
    go_enter Try.func56, Try.ntmps56
    go_wp2
    go_loopw [1, 5] (fun q i wr => ∃ j : Nat, i = .int .i64 (j : Int) ∧ q = .int .i64 ((k : Int) + 2 * (j : Int)) ∧ j ≤ N ∧ Below w.heap.size w wr) (fun _ i _ => N - (intOf i).toNat)
    case atStart => exact ⟨0, rfl, by simp, by omega, Below.refl _ _⟩
    case round =>
      obtain ⟨j, rfl, rfl, hj, hbel⟩ := hrel
      have hsz := hbel.size
      by_cases hlt : j < N
      · have i1 : (j : Int) < (N : Int) := by omega
        have i0 : (0 : Int) ≤ (j : Int) := by omega
        obtain ⟨c0, c1⟩ := HC.out j hlt
        have x0 := (hbel.cell hg).trans c0
        obtain ⟨t0, ht0⟩ : ∃ x : ByteArray, x = ⟨(mk (k + 2 * j)).toArray⟩ := ⟨_, rfl⟩
        have C0 : Hid (∀ W : World, Calls Try.prog 52 #[.int .i64 ((k : Int) + 2 * (j : Int))] W fun e w' => e = .returned (.string t0) ∧ Below W.heap.size W w') := fun W => by rw [ht0]; exact markText_int _ (k + 2 * j) W (by omega) (by omega) (by omega)
        rw [← ht0] at x0
        clear ht0 c0
        have x1 := (hbel.cell hg).trans c1
        obtain ⟨t1, ht1⟩ : ∃ x : ByteArray, x = ⟨(mk (k + 2 * j + 1)).toArray⟩ := ⟨_, rfl⟩
        have C1 : Hid (∀ W : World, Calls Try.prog 52 #[.int .i64 ((k : Int) + 2 * (j : Int) + 1)] W fun e w' => e = .returned (.string t1) ∧ Below W.heap.size W w') := fun W => by rw [ht1]; exact markText_int _ (k + 2 * j + 1) W (by omega) (by omega) (by omega)
        rw [← ht1] at x1
        clear ht1 c1
        have hgw : g < wr.heap.size := by omega
        go_wp2_with fail
        go_region_held3 (fun w' => w'.cell? ⟨g, o + j * 2, none⟩ = some (.string t0)) (first | go_keep | exact cell_up hb0 (by assumption) | exact x0) ((go_at_call 52; refine (C0.out _).mono ?_; rintro e a0 ⟨rfl, hb0⟩))
        replace x1 := cell_up ((Below.refl wr.heap.size wr).drew.trans hb0) x1
        have G0 : Hid (Below wr.heap.size wr a0) := (Below.refl wr.heap.size wr).drew.trans hb0
        clear hb0 C0
        go_wp2_with fail
        go_region_held3 (fun w' => w'.cell? ⟨g, o + j * 2 + 1, none⟩ = some (.string t1)) (first | go_keep | exact cell_up hb1 (by assumption) | exact x1) ((go_at_call 52; refine (C1.out _).mono ?_; rintro e a1 ⟨rfl, hb1⟩))
        have G1 : Hid (Below a0.heap.size a0 a1) := (Below.refl a0.heap.size a0).drew.trans hb1
        clear hb1 C1
        have HB9 : Hid (Below w.heap.size w a1) := ((hbel.trans (G0.out.mono (hbel).size)).trans (G1.out.mono ((hbel.trans (G0.out.mono (hbel).size))).size))
        go_wp2
        go_roundw
        case rel => exact ⟨j + 1, by go_num, by go_num, by omega, HB9.out⟩
        case measure => simp [intOf]; omega
      · obtain rfl : j = N := by omega
        go_wp2
        go_ret
        exact ⟨by go_num, hbel⟩

/-- The slice v leads to the records xs, in a block of lo .. hi that may be written. -/
def ClIn (lo hi : Nat) (w : World) (v : Value) (xs : List Cl) : Prop := ∃ ad cap, v = .slice ad xs.length cap ∧ (0 < xs.length → ∃ (g : Nat) (arr : Array Value), ad = some ⟨g, 0, none⟩ ∧ lo ≤ g ∧ g < hi ∧ w.heap[g]? = some (.cells arr 104 (0, 0)) ∧ ∀ i, i < xs.length → arr[i * 3]? = some (.string (xs.getD i Cl.no).name) ∧ arr[i * 3 + 1]? = some (.string (xs.getD i Cl.no).key) ∧ arr[i * 3 + 2]? = some (.string (xs.getD i Cl.no).val))
theorem ClIn.at {lo hi : Nat} {w : World} {v : Value} {xs : List Cl} (h : ClIn lo hi w v xs) : ClAt w v xs := by
  obtain ⟨ad, cap, rfl, f⟩ := h
  refine ⟨ad, cap, rfl, fun h0 => ?_⟩
  obtain ⟨g, arr, rfl, -, -, ha, hc⟩ := f h0
  refine ⟨g, 0, rfl, blk_lt ha, fun i hi => ?_⟩
  rw [Nat.zero_add]
  exact ⟨(blk_cell ha _).trans (hc i hi).1, (blk_cell ha _).trans (hc i hi).2.1, (blk_cell ha _).trans (hc i hi).2.2⟩
theorem ClIn.keep {lo hi : Nat} {w w' : World} {v : Value} {xs : List Cl} (h : ClIn lo hi w v xs) (hk : ∀ b, lo ≤ b → b < hi → w'.heap[b]? = w.heap[b]?) : ClIn lo hi w' v xs := by
  obtain ⟨ad, cap, rfl, f⟩ := h
  refine ⟨ad, cap, rfl, fun h0 => ?_⟩
  obtain ⟨g, arr, rfl, h1, h2, ha, hc⟩ := f h0
  exact ⟨g, arr, rfl, h1, h2, (hk g h1 h2).trans ha, hc⟩
theorem ClIn.wide {lo hi lo' hi' : Nat} {w : World} {v : Value} {xs : List Cl} (h : ClIn lo hi w v xs) (h1 : lo' ≤ lo) (h2 : hi ≤ hi') : ClIn lo' hi' w v xs := by
  obtain ⟨ad, cap, rfl, f⟩ := h
  refine ⟨ad, cap, rfl, fun h0 => ?_⟩
  obtain ⟨g, arr, rfl, e1, e2, ha, hc⟩ := f h0
  exact ⟨g, arr, rfl, by omega, by omega, ha, hc⟩
theorem ClCopy.in {w : World} {g lo hi : Nat} {xs : List Cl} (h : ClCopy w g xs.length xs xs.length) (h1 : lo ≤ g) (h2 : g < hi) (c : Nat) : ClIn lo hi w (.slice (some ⟨g, 0, none⟩) xs.length c) xs := by
  obtain ⟨⟨arr, ha, hs⟩, hQ⟩ := h
  refine ⟨_, c, rfl, fun _ => ⟨g, arr, rfl, h1, h2, ha, fun i hi => ?_⟩⟩
  have := hQ i hi
  rw [blk_cell ha, blk_cell ha, blk_cell ha] at this
  exact this
/-- The marks of m records from k on. -/
def mkCl (k m : Nat) : List Cl := (List.range m).map fun i => ⟨⟨(mk (k + 3 * i)).toArray⟩, ⟨(mk (k + 3 * i + 1)).toArray⟩, ⟨(mk (k + 3 * i + 2)).toArray⟩⟩
theorem mkCl_len (k m : Nat) : (mkCl k m).length = m := by simp [mkCl]
theorem mkCl_get (k m i : Nat) (h : i < m) : (mkCl k m).getD i Cl.no = ⟨⟨(mk (k + 3 * i)).toArray⟩, ⟨(mk (k + 3 * i + 1)).toArray⟩, ⟨(mk (k + 3 * i + 2)).toArray⟩⟩ := by simp [mkCl, h]
/-- N records in block g that may be written; the first j bear marks from k on. -/
def WrCl (w : World) (g N k j : Nat) : Prop := ∃ arr : Array Value, w.heap[g]? = some (.cells arr 104 (0, 0)) ∧ N * 3 ≤ arr.size ∧ ∀ i, i < j → arr[i * 3]? = some (.string ⟨(mk (k + 3 * i)).toArray⟩) ∧ arr[i * 3 + 1]? = some (.string ⟨(mk (k + 3 * i + 1)).toArray⟩) ∧ arr[i * 3 + 2]? = some (.string ⟨(mk (k + 3 * i + 2)).toArray⟩)
theorem WrCl.next {wr a0 a1 a2 : World} {g N k j : Nat} (h : WrCl wr g N k j) (hj : j < N) (h0 : Below wr.heap.size wr a0) (h1 : Below (a0.setCell ⟨g, j * 3, none⟩ (.string ⟨(mk (k + 3 * j)).toArray⟩)).heap.size (a0.setCell ⟨g, j * 3, none⟩ (.string ⟨(mk (k + 3 * j)).toArray⟩)) a1) (h2 : Below (a1.setCell ⟨g, j * 3 + 1, none⟩ (.string ⟨(mk (k + 3 * j + 1)).toArray⟩)).heap.size (a1.setCell ⟨g, j * 3 + 1, none⟩ (.string ⟨(mk (k + 3 * j + 1)).toArray⟩)) a2) :
    WrCl (a2.setCell ⟨g, j * 3 + 2, none⟩ (.string ⟨(mk (k + 3 * j + 2)).toArray⟩)) g N k (j + 1) := by
  obtain ⟨arr, ha, hs, hm⟩ := h
  have r0 := (h0.block g (blk_lt ha)).trans ha
  have s0 := blk_set r0 (j * 3) (.string ⟨(mk (k + 3 * j)).toArray⟩)
  have r1 := (h1.block g (blk_lt s0)).trans s0
  have s1 := blk_set r1 (j * 3 + 1) (.string ⟨(mk (k + 3 * j + 1)).toArray⟩)
  have r2 := (h2.block g (blk_lt s1)).trans s1
  have s2 := blk_set r2 (j * 3 + 2) (.string ⟨(mk (k + 3 * j + 2)).toArray⟩)
  refine ⟨_, s2, by simpa using hs, fun i hi => ?_⟩
  by_cases e : i = j
  · subst e
    refine ⟨?_, ?_, ?_⟩
    · rw [Array.getElem?_setIfInBounds, if_neg (by omega), Array.getElem?_setIfInBounds, if_neg (by omega), Array.getElem?_setIfInBounds, if_pos rfl, if_pos (by omega)]
    · rw [Array.getElem?_setIfInBounds, if_neg (by omega), Array.getElem?_setIfInBounds, if_pos rfl, if_pos (by simp; omega)]
    · rw [Array.getElem?_setIfInBounds, if_pos rfl, if_pos (by simp; omega)]
  · obtain ⟨m0, m1, m2⟩ := hm i (by omega)
    refine ⟨?_, ?_, ?_⟩
    · rw [Array.getElem?_setIfInBounds, if_neg (by omega), Array.getElem?_setIfInBounds, if_neg (by omega), Array.getElem?_setIfInBounds, if_neg (by omega)]; exact m0
    · rw [Array.getElem?_setIfInBounds, if_neg (by omega), Array.getElem?_setIfInBounds, if_neg (by omega), Array.getElem?_setIfInBounds, if_neg (by omega)]; exact m1
    · rw [Array.getElem?_setIfInBounds, if_neg (by omega), Array.getElem?_setIfInBounds, if_neg (by omega), Array.getElem?_setIfInBounds, if_neg (by omega)]; exact m2

set_option maxRecDepth 100000 in
set_option maxHeartbeats 2000000 in
theorem markCls_none (ad : Option Addr) (c : Nat) (k : Int) (w : World) :
    Calls Try.prog 54 #[.slice ad 0 c, .int .i64 k] w fun e w' => e = .returned (.int .i64 k) ∧ w' = w := by
  go_enter Try.func54, Try.ntmps54
  go_wp2
  refine wp_loop_rounds 1 ?_
  rw [rounds_succ]
  go_wp2
  go_ret
  exact ⟨rfl, rfl⟩
set_option maxRecDepth 100000 in
set_option maxHeartbeats 2000000 in
theorem heldCls_none (ad : Option Addr) (c : Nat) (k : Int) (w : World) :
    Calls Try.prog 57 #[.slice ad 0 c, .int .i64 k] w fun e w' => e = .returned (.int .i64 k) ∧ w' = w := by
  go_enter Try.func57, Try.ntmps57
  go_wp2
  refine wp_loop_rounds 1 ?_
  rw [rounds_succ]
  go_wp2
  go_ret
  exact ⟨rfl, rfl⟩

set_option maxRecDepth 100000 in
set_option maxHeartbeats 4000000 in
theorem markCls_blk (g N c k lo hi : Nat) (w : World) (h : WrCl w g N k 0) (h1 : lo ≤ g) (h2 : g < hi) (hN : N ≤ 1048576) (hk : k ≤ 10000000000000000) (hk0 : 0 < k) :
    Calls Try.prog 54 #[.slice (some ⟨g, 0, none⟩) N c, .int .i64 (k : Int)] w fun e w' => e = .returned (.int .i64 ((k + 3 * N : Nat) : Int)) ∧ WrCl w' g N k N ∧ FM lo hi w w' := by
  have HW : Hid (WrCl w g N k 0) := h
  have HIN : Hid (lo ≤ g ∧ g < hi) := ⟨h1, h2⟩
  clear h h1 h2
  go_enter Try.func54, Try.ntmps54
  go_wp2
  go_loopw [1, 5] (fun q i wr => ∃ j : Nat, i = .int .i64 (j : Int) ∧ q = .int .i64 ((k : Int) + 3 * (j : Int)) ∧ j ≤ N ∧ Hid (FM lo hi w wr) ∧ Hid (WrCl wr g N k j)) (fun _ i _ => N - (intOf i).toNat)
  case atStart => exact ⟨0, rfl, by simp, by omega, FM.refl _ _ _, HW.out⟩
  case round =>
    obtain ⟨j, rfl, rfl, hj, HF, HH⟩ := hrel
    by_cases hlt : j < N
    · obtain ⟨arr, ha, hs, -⟩ := HH.out
      have i1 : (j : Int) < (N : Int) := by omega
      have i0 : (0 : Int) ≤ (j : Int) := by omega
      have C0 : Hid (∀ W : World, Calls Try.prog 52 #[.int .i64 ((k : Int) + 3 * (j : Int))] W fun e w' => e = .returned (.string ⟨(mk (k + 3 * j)).toArray⟩) ∧ Below W.heap.size W w') := fun W => markText_int _ (k + 3 * j) W (by omega) (by omega) (by omega)
      have C1 : Hid (∀ W : World, Calls Try.prog 52 #[.int .i64 ((k : Int) + 3 * (j : Int) + 1)] W fun e w' => e = .returned (.string ⟨(mk (k + 3 * j + 1)).toArray⟩) ∧ Below W.heap.size W w') := fun W => markText_int _ (k + 3 * j + 1) W (by omega) (by omega) (by omega)
      have C2 : Hid (∀ W : World, Calls Try.prog 52 #[.int .i64 ((k : Int) + 3 * (j : Int) + 1 + 1)] W fun e w' => e = .returned (.string ⟨(mk (k + 3 * j + 2)).toArray⟩) ∧ Below W.heap.size W w') := fun W => markText_int _ (k + 3 * j + 2) W (by omega) (by omega) (by omega)
      go_wp2_with fail
      refine (C0.out _).mono ?_
      rintro e a0 ⟨rfl, hb0⟩
      have r0 := (hb0.block g (blk_lt ha)).trans ha
      have x0 := blk_cell r0 (j * 3)
      rw [Array.getElem?_eq_getElem (by omega)] at x0
      have y0 := blk_free r0 (j * 3)
      have s0 := blk_set r0 (j * 3) (.string ⟨(mk (k + 3 * j)).toArray⟩)
      have HS0 : Hid _ := s0
      have HB0 : Hid _ := hb0
      clear r0 C0 hb0 ha
      go_wp2_with fail
      refine (C1.out _).mono ?_
      rintro e a1 ⟨rfl, hb1⟩
      have r1 := (hb1.block g (blk_lt s0)).trans s0
      have x1 := blk_cell r1 (j * 3 + 1)
      rw [Array.getElem?_eq_getElem (by simp; omega)] at x1
      have y1 := blk_free r1 (j * 3 + 1)
      have s1 := blk_set r1 (j * 3 + 1) (.string ⟨(mk (k + 3 * j + 1)).toArray⟩)
      have HS1 : Hid _ := s1
      have HB1 : Hid _ := hb1
      clear r1 C1 hb1 x0 y0
      go_wp2_with fail
      refine (C2.out _).mono ?_
      rintro e a2 ⟨rfl, hb2⟩
      have r2 := (hb2.block g (blk_lt s1)).trans s1
      have x2 := blk_cell r2 (j * 3 + 2)
      rw [Array.getElem?_eq_getElem (by simp; omega)] at x2
      have y2 := blk_free r2 (j * 3 + 2)
      have s2 := blk_set r2 (j * 3 + 2) (.string ⟨(mk (k + 3 * j + 2)).toArray⟩)
      have HS2 : Hid _ := s2
      have HB2 : Hid _ := hb2
      clear r2 C2 hb2 x1 y1
      have HN2 : Hid _ := HH.out.next hlt HB0.out HB1.out HB2.out
      have HF2 : Hid _ := ((((((HF.out.up HB0.out).setIn HIN.out.1 HIN.out.2 (j * 3) (.string ⟨(mk (k + 3 * j)).toArray⟩)).up HB1.out).setIn HIN.out.1 HIN.out.2 (j * 3 + 1) (.string ⟨(mk (k + 3 * j + 1)).toArray⟩)).up HB2.out).setIn HIN.out.1 HIN.out.2 (j * 3 + 2) (.string ⟨(mk (k + 3 * j + 2)).toArray⟩))
      clear HH HF s0 s1 s2
      go_wp2
      go_roundw
      case rel => exact ⟨j + 1, by go_num, by go_num, by omega, HF2, HN2⟩
      case measure => simp [intOf]; omega
    · obtain rfl : j = N := by omega
      go_wp2
      go_ret
      exact ⟨by go_num, HH.out, HF.out⟩
theorem markCls_any (lo hi : Nat) (v : Value) (xs : List Cl) (k : Nat) (w : World) (h : ClIn lo hi w v xs) (hN : xs.length ≤ 1048576) (hk : k ≤ 10000000000000000) (hk0 : 0 < k) :
    Calls Try.prog 54 #[v, .int .i64 (k : Int)] w fun e w' => e = .returned (.int .i64 ((k + 3 * xs.length : Nat) : Int)) ∧ ClIn lo hi w' v (mkCl k xs.length) ∧ FM lo hi w w' := by
  obtain ⟨ad, cap, rfl, f⟩ := h
  by_cases h0 : xs.length = 0
  · rw [h0]
    refine (markCls_none ad cap (k : Int) w).mono ?_
    rintro e w' ⟨rfl, rfl⟩
    exact ⟨rfl, ⟨ad, cap, by rw [mkCl_len], fun h => by rw [mkCl_len] at h; omega⟩, FM.refl _ _ _⟩
  · obtain ⟨g, arr, rfl, h1, h2, ha, hc⟩ := f (by omega)
    have hsz : xs.length * 3 ≤ arr.size := by
      have := (hc (xs.length - 1) (by omega)).2.2
      have := (Array.getElem?_eq_some_iff.1 this).1
      omega
    refine (markCls_blk g xs.length cap k lo hi w ⟨arr, ha, hsz, fun i hi => by omega⟩ h1 h2 hN hk hk0).mono ?_
    rintro e w' ⟨rfl, ⟨arr', ha', hs', hm'⟩, hf⟩
    refine ⟨rfl, ⟨_, cap, by rw [mkCl_len], fun _ => ⟨g, arr', rfl, h1, h2, ha', fun i hi => ?_⟩⟩, hf⟩
    rw [mkCl_len] at hi
    rw [mkCl_get k _ i hi]
    exact hm' i hi

set_option maxRecDepth 100000 in
set_option maxHeartbeats 4000000 in
theorem heldCls_any (v : Value) (N k : Nat) (w : World) (h : ClAt w v (mkCl k N)) (hN : N ≤ 1048576) (hk : k ≤ 10000000000000000) (hk0 : 0 < k) :
    Calls Try.prog 57 #[v, .int .i64 (k : Int)] w fun e w' => e = .returned (.int .i64 ((k + 3 * N : Nat) : Int)) ∧ Below w.heap.size w w' := by
  obtain ⟨ad, cap, rfl, f⟩ := h
  rw [mkCl_len] at f ⊢
  by_cases h0 : N = 0
  · subst h0
    refine (heldCls_none ad cap (k : Int) w).mono ?_
    rintro e w' ⟨rfl, rfl⟩
    exact ⟨rfl, Below.refl _ _⟩
  · obtain ⟨g, o, rfl, hg, hc⟩ := f (by omega)
    have HC : Hid (∀ i, i < N → w.cell? ⟨g, o + i * 3, none⟩ = some (.string ⟨(mk (k + 3 * i)).toArray⟩) ∧ w.cell? ⟨g, o + i * 3 + 1, none⟩ = some (.string ⟨(mk (k + 3 * i + 1)).toArray⟩) ∧ w.cell? ⟨g, o + i * 3 + 2, none⟩ = some (.string ⟨(mk (k + 3 * i + 2)).toArray⟩)) := fun i hi => by
      have := hc i hi
      rw [mkCl_get k N i hi] at this
      exact this
    clear f hc
    go_enter Try.func57, Try.ntmps57
    go_wp2
    go_loopw [1, 5] (fun q i wr => ∃ j : Nat, i = .int .i64 (j : Int) ∧ q = .int .i64 ((k : Int) + 3 * (j : Int)) ∧ j ≤ N ∧ Below w.heap.size w wr) (fun _ i _ => N - (intOf i).toNat)
    case atStart => exact ⟨0, rfl, by simp, by omega, Below.refl _ _⟩
    case round =>
      obtain ⟨j, rfl, rfl, hj, hbel⟩ := hrel
      have hsz := hbel.size
      by_cases hlt : j < N
      · have i1 : (j : Int) < (N : Int) := by omega
        have i0 : (0 : Int) ≤ (j : Int) := by omega
        obtain ⟨c0, c1, c2⟩ := HC.out j hlt
        have x0 := (hbel.cell hg).trans c0
        obtain ⟨t0, ht0⟩ : ∃ x : ByteArray, x = ⟨(mk (k + 3 * j)).toArray⟩ := ⟨_, rfl⟩
        have C0 : Hid (∀ W : World, Calls Try.prog 52 #[.int .i64 ((k : Int) + 3 * (j : Int))] W fun e w' => e = .returned (.string t0) ∧ Below W.heap.size W w') := fun W => by rw [ht0]; exact markText_int _ (k + 3 * j) W (by omega) (by omega) (by omega)
        rw [← ht0] at x0
        clear ht0 c0
        have x1 := (hbel.cell hg).trans c1
        obtain ⟨t1, ht1⟩ : ∃ x : ByteArray, x = ⟨(mk (k + 3 * j + 1)).toArray⟩ := ⟨_, rfl⟩
        have C1 : Hid (∀ W : World, Calls Try.prog 52 #[.int .i64 ((k : Int) + 3 * (j : Int) + 1)] W fun e w' => e = .returned (.string t1) ∧ Below W.heap.size W w') := fun W => by rw [ht1]; exact markText_int _ (k + 3 * j + 1) W (by omega) (by omega) (by omega)
        rw [← ht1] at x1
        clear ht1 c1
        have x2 := (hbel.cell hg).trans c2
        obtain ⟨t2, ht2⟩ : ∃ x : ByteArray, x = ⟨(mk (k + 3 * j + 2)).toArray⟩ := ⟨_, rfl⟩
        have C2 : Hid (∀ W : World, Calls Try.prog 52 #[.int .i64 ((k : Int) + 3 * (j : Int) + 1 + 1)] W fun e w' => e = .returned (.string t2) ∧ Below W.heap.size W w') := fun W => by rw [ht2]; exact markText_int _ (k + 3 * j + 2) W (by omega) (by omega) (by omega)
        rw [← ht2] at x2
        clear ht2 c2
        have hgw : g < wr.heap.size := by omega
        go_wp2_with fail
        go_region_held3 (fun w' => w'.cell? ⟨g, o + j * 3, none⟩ = some (.string t0)) (first | go_keep | exact cell_up hb0 (by assumption) | exact x0) ((go_at_call 52; refine (C0.out _).mono ?_; rintro e a0 ⟨rfl, hb0⟩))
        replace x1 := cell_up ((Below.refl wr.heap.size wr).drew.trans hb0) x1
        replace x2 := cell_up ((Below.refl wr.heap.size wr).drew.trans hb0) x2
        have G0 : Hid (Below wr.heap.size wr a0) := (Below.refl wr.heap.size wr).drew.trans hb0
        clear hb0 C0
        go_wp2_with fail
        go_region_held3 (fun w' => w'.cell? ⟨g, o + j * 3 + 1, none⟩ = some (.string t1)) (first | go_keep | exact cell_up hb1 (by assumption) | exact x1) ((go_at_call 52; refine (C1.out _).mono ?_; rintro e a1 ⟨rfl, hb1⟩))
        replace x2 := cell_up ((Below.refl a0.heap.size a0).drew.trans hb1) x2
        have G1 : Hid (Below a0.heap.size a0 a1) := (Below.refl a0.heap.size a0).drew.trans hb1
        clear hb1 C1
        go_wp2_with fail
        go_region_held3 (fun w' => w'.cell? ⟨g, o + j * 3 + 2, none⟩ = some (.string t2)) (first | go_keep | exact cell_up hb2 (by assumption) | exact x2) ((go_at_call 52; refine (C2.out _).mono ?_; rintro e a2 ⟨rfl, hb2⟩))
        have G2 : Hid (Below a1.heap.size a1 a2) := (Below.refl a1.heap.size a1).drew.trans hb2
        clear hb2 C2
        have HB9 : Hid (Below w.heap.size w a2) := (((hbel.trans (G0.out.mono (hbel).size)).trans (G1.out.mono ((hbel.trans (G0.out.mono (hbel).size))).size)).trans (G2.out.mono (((hbel.trans (G0.out.mono (hbel).size)).trans (G1.out.mono ((hbel.trans (G0.out.mono (hbel).size))).size))).size))
        go_wp2
        go_roundw
        case rel => exact ⟨j + 1, by go_num, by go_num, by omega, HB9.out⟩
        case measure => simp [intOf]; omega
      · obtain rfl : j = N := by omega
        go_wp2
        go_ret
        exact ⟨by go_num, hbel⟩
end PartRwA
end Go.Proofs.Ythnmopldpgdenaa
