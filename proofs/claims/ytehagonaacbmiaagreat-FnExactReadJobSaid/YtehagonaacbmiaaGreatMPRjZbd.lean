/- The law's marks over a store. Frames: nothing but some blocks has changed. The law's own marks: rows of texts that are written and held. The law's own marks: instructions, and code that was read. -/
import Derived.Test.YtehagonaacbmiaaGreatMPRjZay
import Derived.Test.YtehagonaacbmiaaGreatMPRjZab
import Derived.Test.YtehagonaacbmiaaGreatMPRjZaq
namespace Go.Proofs.YtehagonaacbmiaaGreat
section PartRwB
open Go.RowKit

theorem FM.trans {B C : Nat} {w w1 w2 : World} (h : FM B C w w1) (k : FM B C w1 w2) : FM B C w w2 :=
  ⟨h.1.trans k.1, Nat.le_trans h.2.1 k.2.1, fun q hq hh => (k.2.2 q (Nat.lt_of_lt_of_le hq h.2.1) hh).trans (h.2.2 q hq hh)⟩
theorem FM.wider {B C B' C' : Nat} {w w1 : World} (h : FM B C w w1) (h1 : B' ≤ B) (h2 : C ≤ C') : FM B' C' w w1 :=
  ⟨h.1, h.2.1, fun q hq hh => h.2.2 q hq (by omega)⟩
theorem FM.ofBelow {B C : Nat} {w w1 : World} (h : Below w.heap.size w w1) : FM B C w w1 := ⟨⟨h.os, h.tape, h.output⟩, h.size, fun q hq _ => h.block q hq⟩

end PartRwB
section PartMfs
open Go.RowKit

/-- Nothing but blocks of S has changed. -/
def FS (S : Nat → Prop) (w w' : World) : Prop := Env w w' ∧ w.heap.size ≤ w'.heap.size ∧ ∀ k, k < w.heap.size → ¬ S k → w'.heap[k]? = w.heap[k]?
theorem FS.refl (S : Nat → Prop) (w : World) : FS S w w := ⟨Env.refl w, Nat.le_refl _, fun _ _ _ => rfl⟩
theorem FS.set {S : Nat → Prop} {w w' : World} (h : FS S w w') (r o : Nat) (u : Value) (h1 : S r) : FS S w (w'.setCell ⟨r, o, none⟩ u) :=
  ⟨h.1, by simpa [World.setCell] using h.2.1, fun k hk hkk => by rw [Below.heap_setCell _ _ _ _ (by show k ≠ r; exact fun e => hkk (e ▸ h1))]; exact h.2.2 k hk hkk⟩
theorem FS.up {S : Nat → Prop} {w w' w2 : World} (h : FS S w w') (hb : Below w'.heap.size w' w2) : FS S w w2 :=
  ⟨h.1.trans ⟨hb.os, hb.tape, hb.output⟩, Nat.le_trans h.2.1 hb.size, fun k hk hkk => (hb.block k (Nat.lt_of_lt_of_le hk h.2.1)).trans (h.2.2 k hk hkk)⟩
theorem FS.sub {S S' : Nat → Prop} {w w1 : World} (h : FS S w w1) (hs : ∀ k, S k → S' k) : FS S' w w1 := ⟨h.1, h.2.1, fun k hk hkk => h.2.2 k hk (fun e => hkk (hs k e))⟩
theorem hidOf3 {p : Prop} (h : p) : Hid p := h
theorem FS.trans {S : Nat → Prop} {w w1 w2 : World} (h : FS S w w1) (k : FS S w1 w2) : FS S w w2 :=
  ⟨h.1.trans k.1, Nat.le_trans h.2.1 k.2.1, fun q hq hs => (k.2.2 q (Nat.lt_of_lt_of_le hq h.2.1) hs).trans (h.2.2 q hq hs)⟩
theorem FS.ofBelow {S : Nat → Prop} {w w1 : World} (h : Below w.heap.size w w1) : FS S w w1 := ⟨⟨h.os, h.tape, h.output⟩, h.size, fun q hq _ => h.block q hq⟩
end PartMfs
section PartMsA
open Go.RowKit

/-- n texts in block r that may be written; the first m bear marks from k on. -/
def WT (w : World) (r n k m : Nat) : Prop := ∃ arr : Array Value, w.heap[r]? = some (.cells arr 9 (0, 0)) ∧ n ≤ arr.size ∧ ∀ i, i < m → arr[i]? = some (.string ⟨(mk (k + i)).toArray⟩)
theorem WT.blk {w w' : World} {r n k m : Nat} (h : WT w r n k m) (hk : w'.heap[r]? = w.heap[r]?) : WT w' r n k m := by
  obtain ⟨arr, ha, hs, hm⟩ := h
  exact ⟨arr, hk.trans ha, hs, hm⟩
theorem WT.lt {w : World} {r n k m : Nat} (h : WT w r n k m) : r < w.heap.size := by
  obtain ⟨arr, ha, -⟩ := h
  exact blk_lt ha
theorem WT.next {wr : World} {r n k j : Nat} (h : WT wr r n k j) (hj : j < n) : WT (wr.setCell ⟨r, j, none⟩ (.string ⟨(mk (k + j)).toArray⟩)) r n k (j + 1) := by
  obtain ⟨arr, ha, hs, hm⟩ := h
  refine ⟨_, blk_set ha j _, by simpa using hs, fun i hi => ?_⟩
  rw [Array.getElem?_setIfInBounds]
  by_cases e : j = i
  · subst e
    rw [if_pos rfl, if_pos (by omega)]
  · rw [if_neg e]
    exact hm i (by omega)
/-- The row v of n texts, in a block of S that may be written; the first m bear marks from k on. -/
def WTv (S : Nat → Prop) (w : World) (v : Value) (n k m : Nat) : Prop := ∃ ad c, v = .slice ad n c ∧ (0 < n → ∃ r, ad = some ⟨r, 0, none⟩ ∧ S r ∧ WT w r n k m)
theorem WTv.keep {S : Nat → Prop} {w w' : World} {v : Value} {n k m : Nat} (h : WTv S w v n k m) (hk : ∀ r, 0 < n → v.ownBlock = some r → w'.heap[r]? = w.heap[r]?) : WTv S w' v n k m := by
  obtain ⟨ad, c, rfl, f⟩ := h
  refine ⟨ad, c, rfl, fun h0 => ?_⟩
  obtain ⟨r, rfl, h1, h2⟩ := f h0
  exact ⟨r, rfl, h1, h2.blk (hk r h0 rfl)⟩
theorem WTv.lt {S : Nat → Prop} {w : World} {v : Value} {n k m : Nat} (h : WTv S w v n k m) (h0 : 0 < n) {r : Nat} (e : v.ownBlock = some r) : r < w.heap.size := by
  obtain ⟨ad, c, rfl, f⟩ := h
  obtain ⟨r', rfl, h1, h2⟩ := f h0
  obtain rfl : r' = r := by simpa [Value.ownBlock] using e
  exact h2.lt
theorem WTv.form {S : Nat → Prop} {w : World} {v : Value} {n k m : Nat} (h : WTv S w v n k m) : ∃ ad c, v = .slice ad n c := by
  obtain ⟨ad, c, hv, -⟩ := h
  exact ⟨ad, c, hv⟩

set_option maxRecDepth 100000 in
set_option maxHeartbeats 2000000 in
theorem markTxs_any (S : Nat → Prop) (n k : Nat) (v : Value) (w : World) (h : WTv S w v n k 0) (hn2 : n ≤ 2000000) (hk : k ≤ 10000000) (hk0 : 0 < k) :
    Calls Tryz.prog 41 #[v, .int .i64 (k : Int)] w fun e w' => e = .returned (.int .i64 ((k + n : Nat) : Int)) ∧ WTv S w' v n k n ∧ FS S w w' := by
  obtain ⟨ad, c, rfl, f⟩ := h
  by_cases h0 : n = 0
  · subst h0
    clear f
    go_enter Tryz.func41, Tryz.ntmps41
    go_wp2
    refine wp_loop_rounds 1 ?_
    rw [rounds_succ]
    go_wp2
    go_ret
    exact ⟨rfl, ⟨ad, c, rfl, fun h => by omega⟩, FS.refl _ _⟩
  · obtain ⟨r, rfl, h1, hw⟩ := f (by omega)
    have HW : Hid (WT w r n k 0) := hw
    have HIN : Hid (S r) := h1
    clear f hw h1
    go_enter Tryz.func41, Tryz.ntmps41
    go_wp2
    go_loopw [1, 5] (fun q i wr => ∃ j : Nat, i = .int .i64 (j : Int) ∧ q = .int .i64 ((k : Int) + (j : Int)) ∧ j ≤ n ∧ Hid (FS S w wr) ∧ Hid (WT wr r n k j)) (fun _ i _ => n - (intOf i).toNat)
    case atStart => exact ⟨0, rfl, by simp, by omega, FS.refl _ _, HW.out⟩
    case round =>
      obtain ⟨j, rfl, rfl, hj, HF, HH⟩ := hrel
      by_cases hlt : j < n
      · have i1 : (j : Int) < (n : Int) := by omega
        have CT : Hid (∀ W : World, Calls Tryz.prog 76 #[.int .i64 ((k : Int) + (j : Int))] W fun e w' => e = .returned (.string ⟨(mk (k + j)).toArray⟩) ∧ Below W.heap.size W w') := fun W => markText_int _ (k + j) W (by omega) (by omega) (by omega)
        go_wp2_with fail
        refine (CT.out _).mono ?_
        rintro e a1 ⟨rfl, hb1⟩
        have hw1 : WT a1 r n k j := HH.out.blk (hb1.block r HH.out.lt)
        obtain ⟨arr, ha, hs, -⟩ := id hw1
        have x0 := blk_cell ha j
        rw [Array.getElem?_eq_getElem (by omega)] at x0
        have y0 := blk_free ha j
        have HN := hidOf3 (hw1.next hlt)
        have HF2 := hidOf3 ((HF.out.up hb1).set r j (.string ⟨(mk (k + j)).toArray⟩) HIN.out)
        clear HH HF ha hw1 hb1 CT
        go_wp2
        go_roundw
        case rel => exact ⟨j + 1, by go_num, by go_num, by omega, HF2.out, HN.out⟩
        case measure => simp [intOf]; omega
      · obtain rfl : j = n := by omega
        go_wp2
        go_ret
        exact ⟨rfl, ⟨_, c, rfl, fun _ => ⟨r, rfl, HIN.out, HH.out⟩⟩, HF.out⟩

set_option maxRecDepth 100000 in
set_option maxHeartbeats 2000000 in
theorem heldTxs_any (S : Nat → Prop) (n k : Nat) (v : Value) (w : World) (h : WTv S w v n k n) (hn2 : n ≤ 2000000) (hk : k ≤ 10000000) (hk0 : 0 < k) :
    Calls Tryz.prog 44 #[v, .int .i64 (k : Int)] w fun e w' => e = .returned (.int .i64 ((k + n : Nat) : Int)) ∧ Below w.heap.size w w' := by
  obtain ⟨ad, c, rfl, f⟩ := h
  by_cases h0 : n = 0
  · subst h0
    clear f
    go_enter Tryz.func44, Tryz.ntmps44
    go_wp2
    refine wp_loop_rounds 1 ?_
    rw [rounds_succ]
    go_wp2
    go_ret
    exact ⟨rfl, Below.refl _ _⟩
  · obtain ⟨r, rfl, h1, hw⟩ := f (by omega)
    have HW : Hid (r < w.heap.size ∧ ∀ j, j < n → w.cell? ⟨r, j, none⟩ = some (.string ⟨(mk (k + j)).toArray⟩)) := ⟨hw.lt, by
      obtain ⟨arr, ha, hs, hm⟩ := hw
      exact fun j hj => (blk_cell ha j).trans (hm j hj)⟩
    clear f hw h1
    go_enter Tryz.func44, Tryz.ntmps44
    go_wp2
    go_loopw [1, 5] (fun q i wr => ∃ j : Nat, i = .int .i64 (j : Int) ∧ q = .int .i64 ((k : Int) + (j : Int)) ∧ j ≤ n ∧ Below w.heap.size w wr) (fun _ i _ => n - (intOf i).toNat)
    case atStart => exact ⟨0, rfl, by simp, by omega, Below.refl _ _⟩
    case round =>
      obtain ⟨j, rfl, rfl, hj, hbel⟩ := hrel
      have hsz := hbel.size
      by_cases hlt : j < n
      · have x1 := (hbel.cell (p := ⟨r, j, none⟩) HW.out.1).trans (HW.out.2 j hlt)
        have hrl : r < wr.heap.size := by have := HW.out.1; omega
        have i1 : (j : Int) < (n : Int) := by omega
        have i0 : (0 : Int) ≤ (j : Int) := by omega
        obtain ⟨x, hx⟩ : ∃ x : ByteArray, x = ⟨(mk (k + j)).toArray⟩ := ⟨_, rfl⟩
        rw [← hx] at x1
        have CT : Hid (∀ W : World, Calls Tryz.prog 76 #[.int .i64 ((k : Int) + (j : Int))] W fun e w' => e = .returned (.string x) ∧ Below W.heap.size W w') := fun W => by
          have := markText_int ((k : Int) + (j : Int)) (k + j) W (by omega) (by omega) (by omega)
          rwa [← hx] at this
        clear hx
        go_wp2_with fail
        go_region_held3 (fun w' => w'.cell? ⟨r, j, none⟩ = some (.string x)) (first | go_keep | (rw [hb2.cell (by exact hrl)]; exact x1)) ((go_at_call 76; refine (CT.out _).mono ?_; rintro e a2 ⟨rfl, hb2⟩))
        have hb4 : Below w.heap.size w a2 := hbel.trans (((Below.refl wr.heap.size wr).drew.trans hb2).mono hsz)
        clear hb2 CT
        go_wp2_with fail
        go_roundw
        case rel => exact ⟨j + 1, by go_num, by go_num, by omega, hb4⟩
        case measure => simp [intOf]; omega
      · obtain rfl : j = n := by omega
        go_wp2
        go_ret
        exact ⟨rfl, hbel⟩
end PartMsA
section PartMsB
open Go.RowKit

/-- n instructions in block r that may be written; the first m bear marks from k on. -/
def WJ (w : World) (r n k m : Nat) : Prop := ∃ arr : Array Value, w.heap[r]? = some (.cells arr 105 (0, 0)) ∧ n * 2 ≤ arr.size ∧ ∀ i, i < m → arr[i * 2]? = some (.int .i64 ((k + 2 * i : Nat) : Int)) ∧ arr[i * 2 + 1]? = some (.int .i64 ((k + 2 * i + 1 : Nat) : Int))
theorem WJ.blk {w w' : World} {r n k m : Nat} (h : WJ w r n k m) (hk : w'.heap[r]? = w.heap[r]?) : WJ w' r n k m := by
  obtain ⟨arr, ha, hs, hm⟩ := h
  exact ⟨arr, hk.trans ha, hs, hm⟩
theorem WJ.lt {w : World} {r n k m : Nat} (h : WJ w r n k m) : r < w.heap.size := by
  obtain ⟨arr, ha, -⟩ := h
  exact blk_lt ha
theorem WJ.next {wr : World} {r n k j : Nat} {a b : Int} (h : WJ wr r n k j) (hj : j < n) (ha : a = ((k + 2 * j : Nat) : Int)) (hb : b = ((k + 2 * j + 1 : Nat) : Int)) :
    WJ ((wr.setCell ⟨r, j * 2, none⟩ (.int .i64 a)).setCell ⟨r, j * 2 + 1, none⟩ (.int .i64 b)) r n k (j + 1) := by
  subst ha hb
  obtain ⟨arr, ha, hs, hm⟩ := h
  refine ⟨_, blk_set (blk_set ha (j * 2) _) (j * 2 + 1) _, by simpa using hs, fun i hi => ?_⟩
  by_cases e : i = j
  · subst e
    refine ⟨?_, ?_⟩
    · rw [Array.getElem?_setIfInBounds, if_neg (by omega), Array.getElem?_setIfInBounds, if_pos rfl, if_pos (by omega)]
    · rw [Array.getElem?_setIfInBounds, if_pos rfl, if_pos (by simp; omega)]
  · obtain ⟨m0, m1⟩ := hm i (by omega)
    refine ⟨?_, ?_⟩
    · rw [Array.getElem?_setIfInBounds, if_neg (by omega), Array.getElem?_setIfInBounds, if_neg (by omega)]; exact m0
    · rw [Array.getElem?_setIfInBounds, if_neg (by omega), Array.getElem?_setIfInBounds, if_neg (by omega)]; exact m1
/-- The row v of n instructions, in a block of S that may be written; the first m bear marks from k on. -/
def WJv (S : Nat → Prop) (w : World) (v : Value) (n k m : Nat) : Prop := ∃ ad c, v = .slice ad n c ∧ (0 < n → ∃ r, ad = some ⟨r, 0, none⟩ ∧ S r ∧ WJ w r n k m)

set_option maxRecDepth 100000 in
set_option maxHeartbeats 2000000 in
theorem markIns_any (S : Nat → Prop) (n k : Nat) (v : Value) (w : World) (h : WJv S w v n k 0) (hn2 : n ≤ 1000) (hk : k ≤ 10000000) :
    Calls Tryz.prog 73 #[v, .int .i64 (k : Int)] w fun e w' => e = .returned (.int .i64 ((k + 2 * n : Nat) : Int)) ∧ WJv S w' v n k n ∧ FS S w w' := by
  obtain ⟨ad, c, rfl, f⟩ := h
  by_cases h0 : n = 0
  · subst h0
    clear f
    go_enter Tryz.func73, Tryz.ntmps73
    go_wp2
    refine wp_loop_rounds 1 ?_
    rw [rounds_succ]
    go_wp2
    go_ret
    exact ⟨rfl, ⟨ad, c, rfl, fun h => by omega⟩, FS.refl _ _⟩
  · obtain ⟨r, rfl, h1, hw⟩ := f (by omega)
    have HW : Hid (WJ w r n k 0) := hw
    have HIN : Hid (S r) := h1
    clear f hw h1
    go_enter Tryz.func73, Tryz.ntmps73
    go_wp2
    go_loopw [1, 5] (fun q i wr => ∃ j : Nat, i = .int .i64 (j : Int) ∧ q = .int .i64 ((k : Int) + 2 * (j : Int)) ∧ j ≤ n ∧ Hid (FS S w wr) ∧ Hid (WJ wr r n k j)) (fun _ i _ => n - (intOf i).toNat)
    case atStart => exact ⟨0, rfl, by simp, by omega, FS.refl _ _, HW.out⟩
    case round =>
      obtain ⟨j, rfl, rfl, hj, HF, HH⟩ := hrel
      by_cases hlt : j < n
      · obtain ⟨arr, ha, hs, -⟩ := HH.out
        have i1 : (j : Int) < (n : Int) := by omega
        have x0 := blk_cell ha (j * 2)
        rw [Array.getElem?_eq_getElem (by omega)] at x0
        have y0 := blk_free ha (j * 2)
        have x1 := blk_cell ha (j * 2 + 1)
        rw [Array.getElem?_eq_getElem (by omega)] at x1
        have y1 := blk_free ha (j * 2 + 1)
        have HN := hidOf3 (HH.out.next hlt (a := (k : Int) + 2 * (j : Int)) (b := (k : Int) + 2 * (j : Int) + 1) (by omega) (by omega))
        have HF2 := hidOf3 ((HF.out.set r (j * 2) (.int .i64 ((k : Int) + 2 * (j : Int))) HIN.out).set r (j * 2 + 1) (.int .i64 ((k : Int) + 2 * (j : Int) + 1)) HIN.out)
        clear HH HF ha
        go_wp2
        go_roundw
        case rel => exact ⟨j + 1, by go_num, by go_num, by omega, HF2.out, HN.out⟩
        case measure => simp [intOf]; omega
      · obtain rfl : j = n := by omega
        go_wp2
        go_ret
        exact ⟨by go_num, ⟨_, c, rfl, fun _ => ⟨r, rfl, HIN.out, HH.out⟩⟩, HF.out⟩

set_option maxRecDepth 100000 in
set_option maxHeartbeats 2000000 in
theorem heldIns_any (S : Nat → Prop) (n k : Nat) (v : Value) (w : World) (h : WJv S w v n k n) (hn2 : n ≤ 1000) (hk : k ≤ 10000000) :
    Calls Tryz.prog 77 #[v, .int .i64 (k : Int)] w fun e w' => e = .returned (.int .i64 ((k + 2 * n : Nat) : Int)) ∧ w' = w := by
  obtain ⟨ad, c, rfl, f⟩ := h
  by_cases h0 : n = 0
  · subst h0
    clear f
    go_enter Tryz.func77, Tryz.ntmps77
    go_wp2
    refine wp_loop_rounds 1 ?_
    rw [rounds_succ]
    go_wp2
    go_ret
    exact ⟨rfl, rfl⟩
  · obtain ⟨r, rfl, h1, arr, ha, hs, hm⟩ := f (by omega)
    have HW : Hid (∀ j, j < n → w.cell? ⟨r, j * 2, none⟩ = some (.int .i64 ((k : Int) + 2 * (j : Int))) ∧ w.cell? ⟨r, j * 2 + 1, none⟩ = some (.int .i64 ((k : Int) + 2 * (j : Int) + 1))) := by
      intro j hj
      obtain ⟨m0, m1⟩ := hm j hj
      refine ⟨?_, ?_⟩
      · rw [blk_cell ha, m0]; rfl
      · rw [blk_cell ha, m1]; rfl
    clear f h1 ha hs hm
    go_enter Tryz.func77, Tryz.ntmps77
    go_wp2
    go_loop [1, 5] (fun q i => ∃ j : Nat, i = .int .i64 (j : Int) ∧ q = .int .i64 ((k : Int) + 2 * (j : Int)) ∧ j ≤ n) (fun _ i => n - (intOf i).toNat)
    case atStart => exact ⟨0, rfl, by simp, by omega⟩
    case round =>
      obtain ⟨j, rfl, rfl, hj⟩ := hrel
      by_cases hlt : j < n
      · obtain ⟨c0, c1⟩ := HW.out j hlt
        have i1 : (j : Int) < (n : Int) := by omega
        have hq : ∀ z : Int, (z != z) = false := by simp
        go_wp2
        go_round
        case rel => exact ⟨j + 1, by go_num, by go_num, by omega⟩
        case measure => simp [intOf]; omega
      · obtain rfl : j = n := by omega
        go_wp2
        go_ret
        exact ⟨by go_num, rfl⟩
theorem WJv.keep {S : Nat → Prop} {w w' : World} {v : Value} {n k m : Nat} (h : WJv S w v n k m) (hk : ∀ r, 0 < n → v.ownBlock = some r → w'.heap[r]? = w.heap[r]?) : WJv S w' v n k m := by
  obtain ⟨ad, c, rfl, f⟩ := h
  refine ⟨ad, c, rfl, fun h0 => ?_⟩
  obtain ⟨r, rfl, h1, h2⟩ := f h0
  exact ⟨r, rfl, h1, h2.blk (hk r h0 rfl)⟩
theorem WJv.lt {S : Nat → Prop} {w : World} {v : Value} {n k m : Nat} (h : WJv S w v n k m) (h0 : 0 < n) {r : Nat} (e : v.ownBlock = some r) : r < w.heap.size := by
  obtain ⟨ad, c, rfl, f⟩ := h
  obtain ⟨r', rfl, h1, h2⟩ := f h0
  obtain rfl : r' = r := by simpa [Value.ownBlock] using e
  exact h2.lt
/-- The block of a row of n. -/
def SBk (v : Value) (n : Nat) : Nat → Prop := fun x => 0 < n ∧ v.ownBlock = some x
/-- Code that was read, in memory of X .. C that may be written; m, k: how many texts and instructions are marked. -/
structure CW (X C : Nat) (w : World) (tv lv : Value) (n ln : Nat) (m k : Nat) : Prop where
  txs : WTv (SBk tv n) w tv n 1 m
  ins : WJv (SBk lv ln) w lv ln (1 + n) k
  inT : ∀ x, SBk tv n x → X ≤ x ∧ x < C
  inI : ∀ x, SBk lv ln x → X ≤ x ∧ x < C
  far : ∀ x, SBk lv ln x → ¬ SBk tv n x
theorem CW.keep {X C : Nat} {w w' : World} {tv lv : Value} {n ln m k : Nat} (h : CW X C w tv lv n ln m k) (hb : Below w.heap.size w w') : CW X C w' tv lv n ln m k :=
  ⟨h.txs.keep (fun r h0 e => hb.block r (h.txs.lt h0 e)), h.ins.keep (fun r h0 e => hb.block r (h.ins.lt h0 e)), h.inT, h.inI, h.far⟩
theorem cells5c {w : World} {g : Nat} {a b c d e : Value} {t : TypeId} (h : w.heap[g]? = some (.cells #[a, b, c, d, e] t (0, 0))) :
    w.cell? ⟨g, 0, none⟩ = some a ∧ w.cell? ⟨g, 1, none⟩ = some b ∧ w.cell? ⟨g, 2, none⟩ = some c ∧ w.cell? ⟨g, 3, none⟩ = some d ∧ w.cell? ⟨g, 4, none⟩ = some e :=
  ⟨(blk_cell h 0).trans rfl, (blk_cell h 1).trans rfl, (blk_cell h 2).trans rfl, (blk_cell h 3).trans rfl, (blk_cell h 4).trans rfl⟩
set_option maxRecDepth 100000 in
set_option maxHeartbeats 800000 in
theorem markCode_any (X C n ln : Nat) (tv lv : Value) (bg li en : Int) (w : World) (h0 : CW X C w tv lv n ln 0 0) (hC : C ≤ w.heap.size) (hn2 : n ≤ 1000) (hr2 : ln ≤ 1000) :
    Calls Tryz.prog 39 #[.agg #[tv, lv, .int .i64 bg, .int .i64 li, .int .i64 en], .int .i64 1] w fun e w' => e = .returned (.int .i64 ((1 + n + 2 * ln : Nat) : Int)) ∧ CW X C w' tv lv n ln n ln ∧ FS (fun x => X ≤ x ∧ x < C) w w' := by
  have hb : Below w.heap.size w (w.alloc (.cells #[tv, lv, .int .i64 bg, .int .i64 li, .int .i64 en] 36)) := (Below.refl _ _).alloc (Nat.le_refl _) _
  have q0 := heap_alloc_new w (.cells #[tv, lv, .int .i64 bg, .int .i64 li, .int .i64 en] 36)
  have h1 := h0.keep hb
  have HFS : Hid (FS (fun x => X ≤ x ∧ x < C) w (w.alloc (.cells #[tv, lv, .int .i64 bg, .int .i64 li, .int .i64 en] 36)) ∧ w.heap.size < (w.alloc (.cells #[tv, lv, .int .i64 bg, .int .i64 li, .int .i64 en] 36)).heap.size) := ⟨FS.ofBelow hb, blk_lt q0⟩
  have HQ0 := hidOf3 q0
  obtain ⟨va, vc, rfl⟩ := h0.txs.form
  obtain ⟨ra, rc, rfl, -⟩ := h0.ins
  have HP := hidOf3 h1
  clear hb q0 h0 h1
  go_enter Tryz.func39, Tryz.ntmps39
  go_wp2_with fail
  generalize w.alloc (.cells #[.slice va n vc, .slice ra ln rc, .int .i64 bg, .int .i64 li, .int .i64 en] 36) = W at *
  have CN := hidOf3 (markTxs_any _ n 1 _ W HP.out.txs (by omega) (by omega) (by omega))
  refine CN.out.mono ?_
  rintro e w1 ⟨rfl, hnw, hfs⟩
  have q1 : w1.heap[w.heap.size]? = some (.cells #[.slice va n vc, .slice ra ln rc, .int .i64 bg, .int .i64 li, .int .i64 en] 36 (0, 0)) := (hfs.2.2 _ HFS.out.2 (fun e => by have := HP.out.inT _ e; omega)).trans HQ0.out
  have hr1 : WJv (SBk (.slice ra ln rc) ln) w1 (.slice ra ln rc) ln (1 + n) 0 := HP.out.ins.keep (fun r h0 e => hfs.2.2 r (HP.out.ins.lt h0 e) (HP.out.far r ⟨h0, e⟩))
  have CR := hidOf3 (markIns_any _ ln (1 + n) _ w1 hr1 (by omega) (by omega))
  have HNW := hidOf3 (And.intro hnw (hfs.sub HP.out.inT))
  obtain ⟨k0, k1, -, -, -⟩ := cells5c q1
  clear hnw hfs hr1 CN q1
  go_wp2_with fail
  refine CR.out.mono ?_
  rintro e w2 ⟨rfl, hr3, hfs2⟩
  have HFIN : Hid (CW X C w2 (.slice va n vc) (.slice ra ln rc) n ln n ln ∧ FS (fun x => X ≤ x ∧ x < C) w w2) :=
    ⟨⟨HNW.out.1.keep (fun r h0 e => hfs2.2.2 r (HNW.out.1.lt h0 e) (fun e2 => HP.out.far r e2 ⟨h0, e⟩)), hr3, HP.out.inT, HP.out.inI, HP.out.far⟩, (HFS.out.1.trans HNW.out.2).trans (hfs2.sub HP.out.inI)⟩
  clear hr3 hfs2 CR k0 k1
  go_wp2
  go_ret
  exact ⟨by go_num, HFIN.out.1, HFIN.out.2⟩
set_option maxRecDepth 100000 in
set_option maxHeartbeats 800000 in
theorem heldCode_any (X C n ln : Nat) (tv lv : Value) (bg li en : Int) (w : World) (h0 : CW X C w tv lv n ln n ln) (hn2 : n ≤ 1000) (hr2 : ln ≤ 1000) :
    Calls Tryz.prog 42 #[.agg #[tv, lv, .int .i64 bg, .int .i64 li, .int .i64 en], .int .i64 1] w fun e w' => e = .returned (.int .i64 ((1 + n + 2 * ln : Nat) : Int)) ∧ Below w.heap.size w w' := by
  have hb : Below w.heap.size w (w.alloc (.cells #[tv, lv, .int .i64 bg, .int .i64 li, .int .i64 en] 36)) := (Below.refl _ _).alloc (Nat.le_refl _) _
  have q0 := heap_alloc_new w (.cells #[tv, lv, .int .i64 bg, .int .i64 li, .int .i64 en] 36)
  have h1 := h0.keep hb
  have HQ0 := hidOf3 (And.intro q0 hb)
  obtain ⟨va, vc, rfl⟩ := h0.txs.form
  obtain ⟨ra, rc, rfl, -⟩ := h0.ins
  have HP := hidOf3 h1
  clear hb q0 h0 h1
  have dm : decide (((1 + n : Nat) : Int) < 0) = false := decide_eq_false (by omega)
  have dm2 : decide ((1 : Int) + (n : Int) < 0) = false := decide_eq_false (by omega)
  have dz : decide (((1 + n + 2 * ln : Nat) : Int) < 0) = false := decide_eq_false (by omega)
  have dz2 : decide ((1 : Int) + (n : Int) + 2 * (ln : Int) < 0) = false := decide_eq_false (by omega)
  go_enter Tryz.func42, Tryz.ntmps42
  go_wp2_with fail
  generalize w.alloc (.cells #[.slice va n vc, .slice ra ln rc, .int .i64 bg, .int .i64 li, .int .i64 en] 36) = W at *
  have CN := hidOf3 (heldTxs_any _ n 1 _ W HP.out.txs (by omega) (by omega) (by omega))
  refine CN.out.mono ?_
  rintro e w1 ⟨rfl, hb1⟩
  have q1 : w1.heap[w.heap.size]? = some (.cells #[.slice va n vc, .slice ra ln rc, .int .i64 bg, .int .i64 li, .int .i64 en] 36 (0, 0)) := (hb1.block _ (blk_lt HQ0.out.1)).trans HQ0.out.1
  have CR := hidOf3 (heldIns_any _ ln (1 + n) _ w1 (HP.out.keep hb1).ins (by omega) (by omega))
  have HBB := hidOf3 (HQ0.out.2.trans (hb1.mono HQ0.out.2.size))
  obtain ⟨k0, k1, -, -, -⟩ := cells5c q1
  clear hb1 CN q1
  go_wp2_with fail
  refine CR.out.mono ?_
  rintro e w2 ⟨rfl, rfl⟩
  clear CR k0 k1
  go_wp2
  go_ret
  exact ⟨by go_num, HBB.out⟩
end PartMsB
end Go.Proofs.YtehagonaacbmiaaGreat
