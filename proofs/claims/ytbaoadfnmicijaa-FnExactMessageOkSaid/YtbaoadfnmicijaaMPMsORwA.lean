/- Rows of Vars and of Cells in memory of their own; the law's marks over them. -/
import Derived.Test.YtbaoadfnmicijaaMPMsOStS
import Derived.Test.YtbaoadfnmicijaaMPMsOZae
import Derived.Test.YtbaoadfnmicijaaMPMsOMkT
namespace Go.Proofs.Ytbaoadfnmicijaa
open Go.RowKit

/-- The slice v leads to the records xs, in a block of lo .. hi that may be written. -/
def VrIn (lo hi : Nat) (w : World) (v : Value) (xs : List Vr) : Prop := ∃ ad cap, v = .slice ad xs.length cap ∧ (0 < xs.length → ∃ (g : Nat) (arr : Array Value), ad = some ⟨g, 0, none⟩ ∧ lo ≤ g ∧ g < hi ∧ w.heap[g]? = some (.cells arr 53 (0, 0)) ∧ ∀ i, i < xs.length → arr[i * 2]? = some (.string (xs.getD i Vr.no).name) ∧ arr[i * 2 + 1]? = some (.string (xs.getD i Vr.no).val))
theorem VrIn.at {lo hi : Nat} {w : World} {v : Value} {xs : List Vr} (h : VrIn lo hi w v xs) : VrAt w v xs := by
  obtain ⟨ad, cap, rfl, f⟩ := h
  refine ⟨ad, cap, rfl, fun h0 => ?_⟩
  obtain ⟨g, arr, rfl, -, -, ha, hc⟩ := f h0
  refine ⟨g, 0, rfl, blk_lt ha, fun i hi => ?_⟩
  rw [Nat.zero_add]
  exact ⟨(blk_cell ha _).trans (hc i hi).1, (blk_cell ha _).trans (hc i hi).2⟩
theorem VrIn.keep {lo hi : Nat} {w w' : World} {v : Value} {xs : List Vr} (h : VrIn lo hi w v xs) (hk : ∀ b, lo ≤ b → b < hi → w'.heap[b]? = w.heap[b]?) : VrIn lo hi w' v xs := by
  obtain ⟨ad, cap, rfl, f⟩ := h
  refine ⟨ad, cap, rfl, fun h0 => ?_⟩
  obtain ⟨g, arr, rfl, h1, h2, ha, hc⟩ := f h0
  exact ⟨g, arr, rfl, h1, h2, (hk g h1 h2).trans ha, hc⟩
theorem VrCopy.in {w : World} {g lo hi : Nat} {xs : List Vr} (h : VrCopy w g xs.length xs xs.length) (h1 : lo ≤ g) (h2 : g < hi) (c : Nat) : VrIn lo hi w (.slice (some ⟨g, 0, none⟩) xs.length c) xs := by
  obtain ⟨⟨arr, ha, hs⟩, hQ⟩ := h
  refine ⟨_, c, rfl, fun _ => ⟨g, arr, rfl, h1, h2, ha, fun i hi => ?_⟩⟩
  have := hQ i hi
  rw [blk_cell ha, blk_cell ha] at this
  exact this
/-- N records in block g that may be written; the first j bear marks from k on. -/
def WrVr (w : World) (g N k j : Nat) : Prop := ∃ arr : Array Value, w.heap[g]? = some (.cells arr 53 (0, 0)) ∧ N * 2 ≤ arr.size ∧ ∀ i, i < j → arr[i * 2]? = some (.string ⟨(mk (k + 2 * i)).toArray⟩) ∧ arr[i * 2 + 1]? = some (.string ⟨(mk (k + 2 * i + 1)).toArray⟩)
theorem WrVr.next {wr a0 a1 : World} {g N k j : Nat} (h : WrVr wr g N k j) (hj : j < N) (h0 : Below wr.heap.size wr a0) (h1 : Below (a0.setCell ⟨g, j * 2, none⟩ (.string ⟨(mk (k + 2 * j)).toArray⟩)).heap.size (a0.setCell ⟨g, j * 2, none⟩ (.string ⟨(mk (k + 2 * j)).toArray⟩)) a1) :
    WrVr (a1.setCell ⟨g, j * 2 + 1, none⟩ (.string ⟨(mk (k + 2 * j + 1)).toArray⟩)) g N k (j + 1) := by
  obtain ⟨arr, ha, hs, hm⟩ := h
  have r0 := (h0.block g (blk_lt ha)).trans ha
  have s0 := blk_set r0 (j * 2) (.string ⟨(mk (k + 2 * j)).toArray⟩)
  have r1 := (h1.block g (blk_lt s0)).trans s0
  have s1 := blk_set r1 (j * 2 + 1) (.string ⟨(mk (k + 2 * j + 1)).toArray⟩)
  refine ⟨_, s1, by simpa using hs, fun i hi => ?_⟩
  by_cases e : i = j
  · subst e
    refine ⟨?_, ?_⟩
    · rw [Array.getElem?_setIfInBounds, if_neg (by omega), Array.getElem?_setIfInBounds, if_pos rfl, if_pos (by omega)]
    · rw [Array.getElem?_setIfInBounds, if_pos rfl, if_pos (by simp; omega)]
  · obtain ⟨m0, m1⟩ := hm i (by omega)
    refine ⟨?_, ?_⟩
    · rw [Array.getElem?_setIfInBounds, if_neg (by omega), Array.getElem?_setIfInBounds, if_neg (by omega)]; exact m0
    · rw [Array.getElem?_setIfInBounds, if_neg (by omega), Array.getElem?_setIfInBounds, if_neg (by omega)]; exact m1


/-- The slice v leads to the records xs, in a block of lo .. hi that may be written. -/
def ClIn (lo hi : Nat) (w : World) (v : Value) (xs : List Cl) : Prop := ∃ ad cap, v = .slice ad xs.length cap ∧ (0 < xs.length → ∃ (g : Nat) (arr : Array Value), ad = some ⟨g, 0, none⟩ ∧ lo ≤ g ∧ g < hi ∧ w.heap[g]? = some (.cells arr 55 (0, 0)) ∧ ∀ i, i < xs.length → arr[i * 3]? = some (.string (xs.getD i Cl.no).name) ∧ arr[i * 3 + 1]? = some (.string (xs.getD i Cl.no).key) ∧ arr[i * 3 + 2]? = some (.string (xs.getD i Cl.no).val))
theorem ClIn.at {lo hi : Nat} {w : World} {v : Value} {xs : List Cl} (h : ClIn lo hi w v xs) : ClAt w v xs := by
  obtain ⟨ad, cap, rfl, f⟩ := h
  refine ⟨ad, cap, rfl, fun h0 => ?_⟩
  obtain ⟨g, arr, rfl, -, -, ha, hc⟩ := f h0
  refine ⟨g, 0, rfl, blk_lt ha, fun i hi => ?_⟩
  rw [Nat.zero_add]
  exact ⟨(blk_cell ha _).trans (hc i hi).1, (blk_cell ha _).trans (hc i hi).2.1, (blk_cell ha _).trans (hc i hi).2.2⟩
theorem ClIn.keep {lo hi : Nat} {w w' : World} {v : Value} {xs : List Cl} (h : ClIn lo hi w v xs) (hk : ∀ b, lo ≤ b → b < hi → w'.heap[b]? = w.heap[b]?) : ClIn lo hi w' v xs := by
  obtain ⟨ad, cap, rfl, f⟩ := h
  refine ⟨ad, cap, rfl, fun h0 => ?_⟩
  obtain ⟨g, arr, rfl, h1, h2, ha, hc⟩ := f h0
  exact ⟨g, arr, rfl, h1, h2, (hk g h1 h2).trans ha, hc⟩
theorem ClCopy.in {w : World} {g lo hi : Nat} {xs : List Cl} (h : ClCopy w g xs.length xs xs.length) (h1 : lo ≤ g) (h2 : g < hi) (c : Nat) : ClIn lo hi w (.slice (some ⟨g, 0, none⟩) xs.length c) xs := by
  obtain ⟨⟨arr, ha, hs⟩, hQ⟩ := h
  refine ⟨_, c, rfl, fun _ => ⟨g, arr, rfl, h1, h2, ha, fun i hi => ?_⟩⟩
  have := hQ i hi
  rw [blk_cell ha, blk_cell ha, blk_cell ha] at this
  exact this
/-- N records in block g that may be written; the first j bear marks from k on. -/
def WrCl (w : World) (g N k j : Nat) : Prop := ∃ arr : Array Value, w.heap[g]? = some (.cells arr 55 (0, 0)) ∧ N * 3 ≤ arr.size ∧ ∀ i, i < j → arr[i * 3]? = some (.string ⟨(mk (k + 3 * i)).toArray⟩) ∧ arr[i * 3 + 1]? = some (.string ⟨(mk (k + 3 * i + 1)).toArray⟩) ∧ arr[i * 3 + 2]? = some (.string ⟨(mk (k + 3 * i + 2)).toArray⟩)
theorem WrCl.next {wr a0 a1 a2 : World} {g N k j : Nat} (h : WrCl wr g N k j) (hj : j < N) (h0 : Below wr.heap.size wr a0) (h1 : Below (a0.setCell ⟨g, j * 3, none⟩ (.string ⟨(mk (k + 3 * j)).toArray⟩)).heap.size (a0.setCell ⟨g, j * 3, none⟩ (.string ⟨(mk (k + 3 * j)).toArray⟩)) a1) (h2 : Below (a1.setCell ⟨g, j * 3 + 1, none⟩ (.string ⟨(mk (k + 3 * j + 1)).toArray⟩)).heap.size (a1.setCell ⟨g, j * 3 + 1, none⟩ (.string ⟨(mk (k + 3 * j + 1)).toArray⟩)) a2) :
    WrCl (a2.setCell ⟨g, j * 3 + 2, none⟩ (.string ⟨(mk (k + 3 * j + 2)).toArray⟩)) g N k (j + 1) := by
  obtain ⟨arr, ha, hs, hm⟩ := h
  have r0 := (h0.block g (blk_lt ha)).trans ha
  have s0 := blk_set r0 (j * 3) (.string ⟨(mk (k + 3 * j)).toArray⟩)
  have r1 := (h1.block g (blk_lt s0)).trans s0
  have s1 := blk_set r1 (j * 3 + 1) (.string ⟨(mk (k + 3 * j + 1)).toArray⟩)
  have r2 := (h2.block g (blk_lt s1)).trans s1
  have s2 := blk_set r2 (j * 3 + 2) (.string ⟨(mk (k + 3 * j + 2)).toArray⟩)
  refine ⟨_, s2, by simpa using hs, fun i hi => ?_⟩
  by_cases e : i = j
  · subst e
    refine ⟨?_, ?_, ?_⟩
    · rw [Array.getElem?_setIfInBounds, if_neg (by omega), Array.getElem?_setIfInBounds, if_neg (by omega), Array.getElem?_setIfInBounds, if_pos rfl, if_pos (by omega)]
    · rw [Array.getElem?_setIfInBounds, if_neg (by omega), Array.getElem?_setIfInBounds, if_pos rfl, if_pos (by simp; omega)]
    · rw [Array.getElem?_setIfInBounds, if_pos rfl, if_pos (by simp; omega)]
  · obtain ⟨m0, m1, m2⟩ := hm i (by omega)
    refine ⟨?_, ?_, ?_⟩
    · rw [Array.getElem?_setIfInBounds, if_neg (by omega), Array.getElem?_setIfInBounds, if_neg (by omega), Array.getElem?_setIfInBounds, if_neg (by omega)]; exact m0
    · rw [Array.getElem?_setIfInBounds, if_neg (by omega), Array.getElem?_setIfInBounds, if_neg (by omega), Array.getElem?_setIfInBounds, if_neg (by omega)]; exact m1
    · rw [Array.getElem?_setIfInBounds, if_neg (by omega), Array.getElem?_setIfInBounds, if_neg (by omega), Array.getElem?_setIfInBounds, if_neg (by omega)]; exact m2

end Go.Proofs.Ytbaoadfnmicijaa
