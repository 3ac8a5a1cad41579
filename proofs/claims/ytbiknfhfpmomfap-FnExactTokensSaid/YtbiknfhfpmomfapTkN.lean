/- The law's own marks over tokens: written and held. -/
import Derived.Test.YtbiknfhfpmomfapTkM
namespace Go.Proofs.Ytbiknfhfpmomfap
open Go.RowKit

/-- n tokens in block g that may be written; the first m are marked. -/
def WT (w : World) (g n m : Nat) : Prop := ∃ arr : Array Value, w.heap[g]? = some (.cells arr 29 (0, 0)) ∧ n * 2 ≤ arr.size ∧ ∀ i, i < m → arr[i * 2]? = some (.int .i64 ((2 * i + 1 : Nat) : Int)) ∧ arr[i * 2 + 1]? = some (.string ⟨(mk (2 * i + 2)).toArray⟩)
theorem WT.keep {w w' : World} {g n m : Nat} (h : WT w g n m) (hb : Below w.heap.size w w') : WT w' g n m := by
  obtain ⟨arr, ha, hs⟩ := h
  exact ⟨arr, (hb.block g (blk_lt ha)).trans ha, hs⟩
/-- All but block g is as it was. -/
def FT (g : Nat) (w w' : World) : Prop := Env w w' ∧ w.heap.size ≤ w'.heap.size ∧ ∀ k, k < w.heap.size → k ≠ g → w'.heap[k]? = w.heap[k]?
theorem FT.refl (g : Nat) (w : World) : FT g w w := ⟨Env.refl w, Nat.le_refl _, fun _ _ _ => rfl⟩
theorem FT.set {g : Nat} {w w' : World} (h : FT g w w') (o : Nat) (u : Value) : FT g w (w'.setCell ⟨g, o, none⟩ u) :=
  ⟨h.1, by simpa [World.setCell] using h.2.1, fun k hk hkg => by rw [Below.heap_setCell _ _ _ _ (by show k ≠ g; exact hkg)]; exact h.2.2 k hk hkg⟩
theorem FT.up {g : Nat} {w w' w2 : World} (h : FT g w w') (hb : Below w'.heap.size w' w2) : FT g w w2 :=
  ⟨h.1.trans ⟨hb.os, hb.tape, hb.output⟩, Nat.le_trans h.2.1 hb.size, fun k hk hkg => (hb.block k (Nat.lt_of_lt_of_le hk h.2.1)).trans (h.2.2 k hk hkg)⟩
theorem FT.below {g B : Nat} {w w' : World} (h : FT g w w') (hB : B ≤ g) (hw : B ≤ w.heap.size) : Below B w w' := ⟨h.1.1, h.1.2.1, h.1.2.2, h.2.1, fun k hk => h.2.2 k (by omega) (by omega)⟩
theorem WT.next {wr a2 : World} {g n i : Nat} (h : WT wr g n i) (hi : i < n) (hb : Below (wr.setCell ⟨g, i * 2, none⟩ (.int .i64 ((2 * i + 1 : Nat) : Int))).heap.size (wr.setCell ⟨g, i * 2, none⟩ (.int .i64 ((2 * i + 1 : Nat) : Int))) a2) :
    WT (a2.setCell ⟨g, i * 2 + 1, none⟩ (.string ⟨(mk (2 * i + 2)).toArray⟩)) g n (i + 1) := by
  obtain ⟨arr, ha, hs, hm⟩ := h
  have hl := blk_lt ha
  have e1 : (wr.setCell ⟨g, i * 2, none⟩ (.int .i64 ((2 * i + 1 : Nat) : Int))).heap.size = wr.heap.size := by simp [World.setCell]
  have r1 := blk_set ha (i * 2) (.int .i64 ((2 * i + 1 : Nat) : Int))
  have r2 := (hb.block g (by rw [e1]; exact hl)).trans r1
  refine ⟨_, blk_set r2 (i * 2 + 1) _, by simpa using hs, fun j hj => ?_⟩
  by_cases hji : j = i
  · subst hji
    refine ⟨?_, ?_⟩
    · rw [Array.getElem?_setIfInBounds, if_neg (by omega), Array.getElem?_setIfInBounds, if_pos rfl, if_pos (by omega)]
    · rw [Array.getElem?_setIfInBounds, if_pos rfl, if_pos (by simp; omega)]
  · obtain ⟨k1, k2⟩ := hm j (by omega)
    refine ⟨?_, ?_⟩
    · rw [Array.getElem?_setIfInBounds, if_neg (by omega), Array.getElem?_setIfInBounds, if_neg (by omega)]; exact k1
    · rw [Array.getElem?_setIfInBounds, if_neg (by omega), Array.getElem?_setIfInBounds, if_neg (by omega)]; exact k2

set_option maxRecDepth 100000 in
set_option maxHeartbeats 2000000 in
theorem markToks_none (ad : Option Addr) (c : Nat) (w : World) :
    Calls Try.prog 7 #[.slice ad 0 c, .int .i64 1] w fun e w' => e = .returned (.int .i64 1) ∧ w' = w := by
  go_enter Try.func7, Try.ntmps7
  go_wp2
  refine wp_loop_rounds 1 ?_
  rw [rounds_succ]
  go_wp2
  go_ret
  exact ⟨rfl, rfl⟩
set_option maxRecDepth 100000 in
set_option maxHeartbeats 2000000 in
theorem heldToks_none (ad : Option Addr) (c : Nat) (w : World) :
    Calls Try.prog 8 #[.slice ad 0 c, .int .i64 1] w fun e w' => e = .returned (.int .i64 1) ∧ w' = w := by
  go_enter Try.func8, Try.ntmps8
  go_wp2
  refine wp_loop_rounds 1 ?_
  rw [rounds_succ]
  go_wp2
  go_ret
  exact ⟨rfl, rfl⟩

set_option maxRecDepth 100000 in
set_option maxHeartbeats 2000000 in
theorem markToks_any (g n c : Nat) (w : World) (h : WT w g n 0) (hn2 : n ≤ 1000) :
    Calls Try.prog 7 #[.slice (some ⟨g, 0, none⟩) n c, .int .i64 1] w fun e w' => e = .returned (.int .i64 ((2 * n + 1 : Nat) : Int)) ∧ WT w' g n n ∧ FT g w w' := by
  have HW : Hid (WT w g n 0) := h
  clear h
  go_enter Try.func7, Try.ntmps7
  go_wp2
  go_loopw [1, 5] (fun q i wr => ∃ j : Nat, i = .int .i64 (j : Int) ∧ q = .int .i64 (2 * (j : Int) + 1) ∧ j ≤ n ∧ Hid (FT g w wr) ∧ Hid (WT wr g n j)) (fun _ i _ => n - (intOf i).toNat)
  case atStart => exact ⟨0, rfl, rfl, by omega, FT.refl _ _, HW.out⟩
  case round =>
    obtain ⟨j, rfl, rfl, hj, HF, HH⟩ := hrel
    by_cases hlt : j < n
    · obtain ⟨arr, ha, hs, -⟩ := HH.out
      have hgl := blk_lt ha
      have x0 := blk_cell ha (j * 2)
      rw [Array.getElem?_eq_getElem (by omega)] at x0
      have y0 := blk_free ha (j * 2)
      have i1 : (j : Int) < (n : Int) := by omega
      have r1 := blk_set ha (j * 2) (.int .i64 (2 * (j : Int) + 1))
      have hl1 : g < (wr.setCell ⟨g, j * 2, none⟩ (.int .i64 (2 * (j : Int) + 1))).heap.size := by simpa [World.setCell] using hgl
      have CT : Hid (∀ W : World, Calls Try.prog 14 #[.int .i64 (2 * (j : Int) + 1 + 1)] W fun e w' => e = .returned (.string ⟨(mk (2 * j + 2)).toArray⟩) ∧ Below W.heap.size W w') := fun W => markText_int _ (2 * j + 2) W (by omega) (by omega) (by omega)
      clear ha
      go_wp2_with fail
      refine (CT.out _).mono ?_
      rintro e a2 ⟨rfl, hb2⟩
      have r2 := (hb2.block g hl1).trans r1
      have x1 := blk_cell r2 (j * 2 + 1)
      rw [Array.getElem?_eq_getElem (by simp; omega)] at x1
      have y1 := blk_free r2 (j * 2 + 1)
      have e1 : ((2 * j + 1 : Nat) : Int) = 2 * (j : Int) + 1 := by omega
      have HN : Hid (WT (a2.setCell ⟨g, j * 2 + 1, none⟩ (.string ⟨(mk (2 * j + 2)).toArray⟩)) g n (j + 1)) := HH.out.next hlt (by rw [e1]; exact hb2)
      have HF2 : Hid (FT g w (a2.setCell ⟨g, j * 2 + 1, none⟩ (.string ⟨(mk (2 * j + 2)).toArray⟩))) := ((HF.out.set (j * 2) _).up hb2).set (j * 2 + 1) _
      clear r1 r2 hb2 HH HF CT x0 y0 e1
      go_wp2
      go_roundw
      case rel => exact ⟨j + 1, by go_num, by go_num, by omega, HF2.out, HN.out⟩
      case measure => simp [intOf]; omega
    · obtain rfl : j = n := by omega
      go_wp2
      go_ret
      exact ⟨by go_num, HH.out, HF.out⟩

set_option maxRecDepth 100000 in
set_option maxHeartbeats 2000000 in
theorem heldToks_any (g n c : Nat) (w : World) (h : WT w g n n) (hn2 : n ≤ 1000) :
    Calls Try.prog 8 #[.slice (some ⟨g, 0, none⟩) n c, .int .i64 1] w fun e w' => e = .returned (.int .i64 ((2 * n + 1 : Nat) : Int)) ∧ Below w.heap.size w w' := by
  have HW : Hid (WT w g n n) := h
  clear h
  go_enter Try.func8, Try.ntmps8
  go_wp2
  go_loopw [1, 5] (fun q i wr => ∃ j : Nat, i = .int .i64 (j : Int) ∧ q = .int .i64 (2 * (j : Int) + 1) ∧ j ≤ n ∧ Below w.heap.size w wr) (fun _ i _ => n - (intOf i).toNat)
  case atStart => exact ⟨0, rfl, rfl, by omega, Below.refl _ _⟩
  case round =>
    obtain ⟨j, rfl, rfl, hj, hbel⟩ := hrel
    have hsz := hbel.size
    by_cases hlt : j < n
    · obtain ⟨arr, ha, hs, hm⟩ := HW.out.keep hbel
      have hgl := blk_lt ha
      obtain ⟨m0, m1⟩ := hm j hlt
      have x0 : wr.cell? ⟨g, j * 2, none⟩ = some (.int .i64 (2 * (j : Int) + 1)) := by rw [blk_cell ha, m0]; congr 2
      have x1 := (blk_cell ha (j * 2 + 1)).trans m1
      obtain ⟨x, hx⟩ : ∃ x : ByteArray, x = ⟨(mk (2 * j + 2)).toArray⟩ := ⟨_, rfl⟩
      rw [← hx] at x1
      have i1 : (j : Int) < (n : Int) := by omega
      have i0 : (0 : Int) ≤ (j : Int) := by omega
      have CT : Hid (∀ W : World, Calls Try.prog 14 #[.int .i64 (2 * (j : Int) + 1 + 1)] W fun e w' => e = .returned (.string x) ∧ Below W.heap.size W w') := fun W => by
        have := markText_int (2 * (j : Int) + 1 + 1) (2 * j + 2) W (by omega) (by omega) (by omega)
        rwa [← hx] at this
      have hq : ((2 * (j : Int) + 1) != (2 * (j : Int) + 1)) = false := by simp
      clear ha hm m0 m1 hx
      go_wp2_with fail
      go_region_held3 (fun w' => w'.cell? ⟨g, j * 2 + 1, none⟩ = some (.string x)) (first | go_keep | (rw [hb2.cell (by exact hgl)]; exact x1)) ((go_at_call 14; refine (CT.out _).mono ?_; rintro e a2 ⟨rfl, hb2⟩))
      have hb4 : Below w.heap.size w a2 := hbel.trans (((Below.refl wr.heap.size wr).drew.trans hb2).mono hsz)
      go_wp2
      go_roundw
      case rel => exact ⟨j + 1, by go_num, by go_num, by omega, hb4⟩
      case measure => simp [intOf]; omega
    · obtain rfl : j = n := by omega
      go_wp2
      go_ret
      exact ⟨by go_num, hbel⟩
#print axioms heldToks_any
end Go.Proofs.Ytbiknfhfpmomfap
