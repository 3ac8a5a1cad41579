/- The law's own marks: rows of texts that are written and held. The law's own marks over a row of instructions. -/
import Derived.Test.YthnmopldpgdenaaMPTcZal
import Derived.Test.YthnmopldpgdenaaMPTcZap
import Derived.Test.YthnmopldpgdenaaMPTcZab
namespace Go.Proofs.Ythnmopldpgdenaa
section PartMsA
open Go.RowKit

/-- n texts in block r that may be written; the first m bear marks from k on. -/
def WT (w : World) (r n k m : Nat) : Prop := ∃ arr : Array Value, w.heap[r]? = some (.cells arr 9 (0, 0)) ∧ n ≤ arr.size ∧ ∀ i, i < m → arr[i]? = some (.string ⟨(mk (k + i)).toArray⟩)
theorem WT.blk {w w' : World} {r n k m : Nat} (h : WT w r n k m) (hk : w'.heap[r]? = w.heap[r]?) : WT w' r n k m := by
  obtain ⟨arr, ha, hs, hm⟩ := h
  exact ⟨arr, hk.trans ha, hs, hm⟩
theorem WT.lt {w : World} {r n k m : Nat} (h : WT w r n k m) : r < w.heap.size := by
  obtain ⟨arr, ha, -⟩ := h
  exact blk_lt ha
theorem WT.next {wr : World} {r n k j : Nat} (h : WT wr r n k j) (hj : j < n) : WT (wr.setCell ⟨r, j, none⟩ (.string ⟨(mk (k + j)).toArray⟩)) r n k (j + 1) := by
  obtain ⟨arr, ha, hs, hm⟩ := h
  refine ⟨_, blk_set ha j _, by simpa using hs, fun i hi => ?_⟩
  rw [Array.getElem?_setIfInBounds]
  by_cases e : j = i
  · subst e
    rw [if_pos rfl, if_pos (by omega)]
  · rw [if_neg e]
    exact hm i (by omega)
/-- The row v of n texts, in a block of S that may be written; the first m bear marks from k on. -/
def WTv (S : Nat → Prop) (w : World) (v : Value) (n k m : Nat) : Prop := ∃ ad c, v = .slice ad n c ∧ (0 < n → ∃ r, ad = some ⟨r, 0, none⟩ ∧ S r ∧ WT w r n k m)
theorem WTv.keep {S : Nat → Prop} {w w' : World} {v : Value} {n k m : Nat} (h : WTv S w v n k m) (hk : ∀ r, 0 < n → v.ownBlock = some r → w'.heap[r]? = w.heap[r]?) : WTv S w' v n k m := by
  obtain ⟨ad, c, rfl, f⟩ := h
  refine ⟨ad, c, rfl, fun h0 => ?_⟩
  obtain ⟨r, rfl, h1, h2⟩ := f h0
  exact ⟨r, rfl, h1, h2.blk (hk r h0 rfl)⟩
theorem WTv.lt {S : Nat → Prop} {w : World} {v : Value} {n k m : Nat} (h : WTv S w v n k m) (h0 : 0 < n) {r : Nat} (e : v.ownBlock = some r) : r < w.heap.size := by
  obtain ⟨ad, c, rfl, f⟩ := h
  obtain ⟨r', rfl, h1, h2⟩ := f h0
  obtain rfl : r' = r := by simpa [Value.ownBlock] using e
  exact h2.lt
theorem WTv.form {S : Nat → Prop} {w : World} {v : Value} {n k m : Nat} (h : WTv S w v n k m) : ∃ ad c, v = .slice ad n c := by
  obtain ⟨ad, c, hv, -⟩ := h
  exact ⟨ad, c, hv⟩

set_option maxRecDepth 100000 in
set_option maxHeartbeats 2000000 in
theorem markTxs_any (S : Nat → Prop) (n k : Nat) (v : Value) (w : World) (h : WTv S w v n k 0) (hn2 : n ≤ 2000000) (hk : k ≤ 10000000000000000) (hk0 : 0 < k) :
    Calls Try.prog 27 #[v, .int .i64 (k : Int)] w fun e w' => e = .returned (.int .i64 ((k + n : Nat) : Int)) ∧ WTv S w' v n k n ∧ FS S w w' := by
  obtain ⟨ad, c, rfl, f⟩ := h
  by_cases h0 : n = 0
  · subst h0
    clear f
    go_enter Try.func27, Try.ntmps27
    go_wp2
    refine wp_loop_rounds 1 ?_
    rw [rounds_succ]
    go_wp2
    go_ret
    exact ⟨rfl, ⟨ad, c, rfl, fun h => by omega⟩, FS.refl _ _⟩
  · obtain ⟨r, rfl, h1, hw⟩ := f (by omega)
    have HW : Hid (WT w r n k 0) := hw
    have HIN : Hid (S r) := h1
    clear f hw h1
    go_enter Try.func27, Try.ntmps27
    go_wp2
    go_loopw [1, 5] (fun q i wr => ∃ j : Nat, i = .int .i64 (j : Int) ∧ q = .int .i64 ((k : Int) + (j : Int)) ∧ j ≤ n ∧ Hid (FS S w wr) ∧ Hid (WT wr r n k j)) (fun _ i _ => n - (intOf i).toNat)
    case atStart => exact ⟨0, rfl, by simp, by omega, FS.refl _ _, HW.out⟩
    case round =>
      obtain ⟨j, rfl, rfl, hj, HF, HH⟩ := hrel
      by_cases hlt : j < n
      · have i1 : (j : Int) < (n : Int) := by omega
        have CT : Hid (∀ W : World, Calls Try.prog 52 #[.int .i64 ((k : Int) + (j : Int))] W fun e w' => e = .returned (.string ⟨(mk (k + j)).toArray⟩) ∧ Below W.heap.size W w') := fun W => markText_int _ (k + j) W (by omega) (by omega) (by omega)
        go_wp2_with fail
        refine (CT.out _).mono ?_
        rintro e a1 ⟨rfl, hb1⟩
        have hw1 : WT a1 r n k j := HH.out.blk (hb1.block r HH.out.lt)
        obtain ⟨arr, ha, hs, -⟩ := id hw1
        have x0 := blk_cell ha j
        rw [Array.getElem?_eq_getElem (by omega)] at x0
        have y0 := blk_free ha j
        have HN := hidOf3 (hw1.next hlt)
        have HF2 := hidOf3 ((HF.out.up hb1).set r j (.string ⟨(mk (k + j)).toArray⟩) HIN.out)
        clear HH HF ha hw1 hb1 CT
        go_wp2
        go_roundw
        case rel => exact ⟨j + 1, by go_num, by go_num, by omega, HF2.out, HN.out⟩
        case measure => simp [intOf]; omega
      · obtain rfl : j = n := by omega
        go_wp2
        go_ret
        exact ⟨rfl, ⟨_, c, rfl, fun _ => ⟨r, rfl, HIN.out, HH.out⟩⟩, HF.out⟩

set_option maxRecDepth 100000 in
set_option maxHeartbeats 2000000 in
theorem heldTxs_any (S : Nat → Prop) (n k : Nat) (v : Value) (w : World) (h : WTv S w v n k n) (hn2 : n ≤ 2000000) (hk : k ≤ 10000000000000000) (hk0 : 0 < k) :
    Calls Try.prog 31 #[v, .int .i64 (k : Int)] w fun e w' => e = .returned (.int .i64 ((k + n : Nat) : Int)) ∧ Below w.heap.size w w' := by
  obtain ⟨ad, c, rfl, f⟩ := h
  by_cases h0 : n = 0
  · subst h0
    clear f
    go_enter Try.func31, Try.ntmps31
    go_wp2
    refine wp_loop_rounds 1 ?_
    rw [rounds_succ]
    go_wp2
    go_ret
    exact ⟨rfl, Below.refl _ _⟩
  · obtain ⟨r, rfl, h1, hw⟩ := f (by omega)
    have HW : Hid (r < w.heap.size ∧ ∀ j, j < n → w.cell? ⟨r, j, none⟩ = some (.string ⟨(mk (k + j)).toArray⟩)) := ⟨hw.lt, by
      obtain ⟨arr, ha, hs, hm⟩ := hw
      exact fun j hj => (blk_cell ha j).trans (hm j hj)⟩
    clear f hw h1
    go_enter Try.func31, Try.ntmps31
    go_wp2
    go_loopw [1, 5] (fun q i wr => ∃ j : Nat, i = .int .i64 (j : Int) ∧ q = .int .i64 ((k : Int) + (j : Int)) ∧ j ≤ n ∧ Below w.heap.size w wr) (fun _ i _ => n - (intOf i).toNat)
    case atStart => exact ⟨0, rfl, by simp, by omega, Below.refl _ _⟩
    case round =>
      obtain ⟨j, rfl, rfl, hj, hbel⟩ := hrel
      have hsz := hbel.size
      by_cases hlt : j < n
      · have x1 := (hbel.cell (p := ⟨r, j, none⟩) HW.out.1).trans (HW.out.2 j hlt)
        have hrl : r < wr.heap.size := by have := HW.out.1; omega
        have i1 : (j : Int) < (n : Int) := by omega
        have i0 : (0 : Int) ≤ (j : Int) := by omega
        obtain ⟨x, hx⟩ : ∃ x : ByteArray, x = ⟨(mk (k + j)).toArray⟩ := ⟨_, rfl⟩
        rw [← hx] at x1
        have CT : Hid (∀ W : World, Calls Try.prog 52 #[.int .i64 ((k : Int) + (j : Int))] W fun e w' => e = .returned (.string x) ∧ Below W.heap.size W w') := fun W => by
          have := markText_int ((k : Int) + (j : Int)) (k + j) W (by omega) (by omega) (by omega)
          rwa [← hx] at this
        clear hx
        go_wp2_with fail
        go_region_held3 (fun w' => w'.cell? ⟨r, j, none⟩ = some (.string x)) (first | go_keep | (rw [hb2.cell (by exact hrl)]; exact x1)) ((go_at_call 52; refine (CT.out _).mono ?_; rintro e a2 ⟨rfl, hb2⟩))
        have hb4 : Below w.heap.size w a2 := hbel.trans (((Below.refl wr.heap.size wr).drew.trans hb2).mono hsz)
        clear hb2 CT
        go_wp2_with fail
        go_roundw
        case rel => exact ⟨j + 1, by go_num, by go_num, by omega, hb4⟩
        case measure => simp [intOf]; omega
      · obtain rfl : j = n := by omega
        go_wp2
        go_ret
        exact ⟨rfl, hbel⟩
end PartMsA
section PartKdM
open Go.RowKit

/-- n instructions in block r that may be written; the first m bear marks from k on. -/
def WJ (w : World) (r n k m : Nat) : Prop := ∃ arr : Array Value, w.heap[r]? = some (.cells arr 83 (0, 0)) ∧ n * 2 ≤ arr.size ∧ ∀ i, i < m → arr[i * 2]? = some (.int .i64 ((k + 2 * i : Nat) : Int)) ∧ arr[i * 2 + 1]? = some (.int .i64 ((k + 2 * i + 1 : Nat) : Int))
theorem WJ.blk {w w' : World} {r n k m : Nat} (h : WJ w r n k m) (hk : w'.heap[r]? = w.heap[r]?) : WJ w' r n k m := by
  obtain ⟨arr, ha, hs, hm⟩ := h
  exact ⟨arr, hk.trans ha, hs, hm⟩
theorem WJ.lt {w : World} {r n k m : Nat} (h : WJ w r n k m) : r < w.heap.size := by
  obtain ⟨arr, ha, -⟩ := h
  exact blk_lt ha
theorem WJ.next {wr : World} {r n k j : Nat} {a b : Int} (h : WJ wr r n k j) (hj : j < n) (ha : a = ((k + 2 * j : Nat) : Int)) (hb : b = ((k + 2 * j + 1 : Nat) : Int)) :
    WJ ((wr.setCell ⟨r, j * 2, none⟩ (.int .i64 a)).setCell ⟨r, j * 2 + 1, none⟩ (.int .i64 b)) r n k (j + 1) := by
  subst ha hb
  obtain ⟨arr, ha, hs, hm⟩ := h
  refine ⟨_, blk_set (blk_set ha (j * 2) _) (j * 2 + 1) _, by simpa using hs, fun i hi => ?_⟩
  by_cases e : i = j
  · subst e
    refine ⟨?_, ?_⟩
    · rw [Array.getElem?_setIfInBounds, if_neg (by omega), Array.getElem?_setIfInBounds, if_pos rfl, if_pos (by omega)]
    · rw [Array.getElem?_setIfInBounds, if_pos rfl, if_pos (by simp; omega)]
  · obtain ⟨m0, m1⟩ := hm i (by omega)
    refine ⟨?_, ?_⟩
    · rw [Array.getElem?_setIfInBounds, if_neg (by omega), Array.getElem?_setIfInBounds, if_neg (by omega)]; exact m0
    · rw [Array.getElem?_setIfInBounds, if_neg (by omega), Array.getElem?_setIfInBounds, if_neg (by omega)]; exact m1
/-- The row v of n instructions, in a block of S that may be written; the first m bear marks from k on. -/
def WJv (S : Nat → Prop) (w : World) (v : Value) (n k m : Nat) : Prop := ∃ ad c, v = .slice ad n c ∧ (0 < n → ∃ r, ad = some ⟨r, 0, none⟩ ∧ S r ∧ WJ w r n k m)

set_option maxRecDepth 100000 in
set_option maxHeartbeats 2000000 in
theorem markIns_any (S : Nat → Prop) (n k : Nat) (v : Value) (w : World) (h : WJv S w v n k 0) (hn2 : n ≤ 1048576) (hk : k ≤ 10000000000000000) :
    Calls Try.prog 51 #[v, .int .i64 (k : Int)] w fun e w' => e = .returned (.int .i64 ((k + 2 * n : Nat) : Int)) ∧ WJv S w' v n k n ∧ FS S w w' := by
  obtain ⟨ad, c, rfl, f⟩ := h
  by_cases h0 : n = 0
  · subst h0
    clear f
    go_enter Try.func51, Try.ntmps51
    go_wp2
    refine wp_loop_rounds 1 ?_
    rw [rounds_succ]
    go_wp2
    go_ret
    exact ⟨rfl, ⟨ad, c, rfl, fun h => by omega⟩, FS.refl _ _⟩
  · obtain ⟨r, rfl, h1, hw⟩ := f (by omega)
    have HW : Hid (WJ w r n k 0) := hw
    have HIN : Hid (S r) := h1
    clear f hw h1
    go_enter Try.func51, Try.ntmps51
    go_wp2
    go_loopw [1, 5] (fun q i wr => ∃ j : Nat, i = .int .i64 (j : Int) ∧ q = .int .i64 ((k : Int) + 2 * (j : Int)) ∧ j ≤ n ∧ Hid (FS S w wr) ∧ Hid (WJ wr r n k j)) (fun _ i _ => n - (intOf i).toNat)
    case atStart => exact ⟨0, rfl, by simp, by omega, FS.refl _ _, HW.out⟩
    case round =>
      obtain ⟨j, rfl, rfl, hj, HF, HH⟩ := hrel
      by_cases hlt : j < n
      · obtain ⟨arr, ha, hs, -⟩ := HH.out
        have i1 : (j : Int) < (n : Int) := by omega
        have x0 := blk_cell ha (j * 2)
        rw [Array.getElem?_eq_getElem (by omega)] at x0
        have y0 := blk_free ha (j * 2)
        have x1 := blk_cell ha (j * 2 + 1)
        rw [Array.getElem?_eq_getElem (by omega)] at x1
        have y1 := blk_free ha (j * 2 + 1)
        have HN := hidOf3 (HH.out.next hlt (a := (k : Int) + 2 * (j : Int)) (b := (k : Int) + 2 * (j : Int) + 1) (by omega) (by omega))
        have HF2 := hidOf3 ((HF.out.set r (j * 2) (.int .i64 ((k : Int) + 2 * (j : Int))) HIN.out).set r (j * 2 + 1) (.int .i64 ((k : Int) + 2 * (j : Int) + 1)) HIN.out)
        clear HH HF ha
        go_wp2
        go_roundw
        case rel => exact ⟨j + 1, by go_num, by go_num, by omega, HF2.out, HN.out⟩
        case measure => simp [intOf]; omega
      · obtain rfl : j = n := by omega
        go_wp2
        go_ret
        exact ⟨by go_num, ⟨_, c, rfl, fun _ => ⟨r, rfl, HIN.out, HH.out⟩⟩, HF.out⟩

set_option maxRecDepth 100000 in
set_option maxHeartbeats 2000000 in
theorem heldIns_any (S : Nat → Prop) (n k : Nat) (v : Value) (w : World) (h : WJv S w v n k n) (hn2 : n ≤ 1048576) (hk : k ≤ 10000000000000000) :
    Calls Try.prog 55 #[v, .int .i64 (k : Int)] w fun e w' => e = .returned (.int .i64 ((k + 2 * n : Nat) : Int)) ∧ w' = w := by
  obtain ⟨ad, c, rfl, f⟩ := h
  by_cases h0 : n = 0
  · subst h0
    clear f
    go_enter Try.func55, Try.ntmps55
    go_wp2
    refine wp_loop_rounds 1 ?_
    rw [rounds_succ]
    go_wp2
    go_ret
    exact ⟨rfl, rfl⟩
  · obtain ⟨r, rfl, h1, arr, ha, hs, hm⟩ := f (by omega)
    have HW : Hid (∀ j, j < n → w.cell? ⟨r, j * 2, none⟩ = some (.int .i64 ((k : Int) + 2 * (j : Int))) ∧ w.cell? ⟨r, j * 2 + 1, none⟩ = some (.int .i64 ((k : Int) + 2 * (j : Int) + 1))) := by
      intro j hj
      obtain ⟨m0, m1⟩ := hm j hj
      refine ⟨?_, ?_⟩
      · rw [blk_cell ha, m0]; rfl
      · rw [blk_cell ha, m1]; rfl
    clear f h1 ha hs hm
    go_enter Try.func55, Try.ntmps55
    go_wp2
    go_loop [1, 5] (fun q i => ∃ j : Nat, i = .int .i64 (j : Int) ∧ q = .int .i64 ((k : Int) + 2 * (j : Int)) ∧ j ≤ n) (fun _ i => n - (intOf i).toNat)
    case atStart => exact ⟨0, rfl, by simp, by omega⟩
    case round =>
      obtain ⟨j, rfl, rfl, hj⟩ := hrel
      by_cases hlt : j < n
      · obtain ⟨c0, c1⟩ := HW.out j hlt
        have i1 : (j : Int) < (n : Int) := by omega
        have hq : ∀ z : Int, (z != z) = false := by simp
        go_wp2
        go_round
        case rel => exact ⟨j + 1, by go_num, by go_num, by omega⟩
        case measure => simp [intOf]; omega
      · obtain rfl : j = n := by omega
        go_wp2
        go_ret
        exact ⟨by go_num, rfl⟩
theorem WJv.keep {S : Nat → Prop} {w w' : World} {v : Value} {n k m : Nat} (h : WJv S w v n k m) (hk : ∀ r, 0 < n → v.ownBlock = some r → w'.heap[r]? = w.heap[r]?) : WJv S w' v n k m := by
  obtain ⟨ad, c, rfl, f⟩ := h
  refine ⟨ad, c, rfl, fun h0 => ?_⟩
  obtain ⟨r, rfl, h1, h2⟩ := f h0
  exact ⟨r, rfl, h1, h2.blk (hk r h0 rfl)⟩
theorem WJv.lt {S : Nat → Prop} {w : World} {v : Value} {n k m : Nat} (h : WJv S w v n k m) (h0 : 0 < n) {r : Nat} (e : v.ownBlock = some r) : r < w.heap.size := by
  obtain ⟨ad, c, rfl, f⟩ := h
  obtain ⟨r', rfl, h1, h2⟩ := f h0
  obtain rfl : r' = r := by simpa [Value.ownBlock] using e
  exact h2.lt
end PartKdM
end Go.Proofs.Ythnmopldpgdenaa
