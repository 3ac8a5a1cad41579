/- Rows of Vars and of Cells in memory of their own; the law's marks over them. Rows of Vars and of Cells that grow; the program's copies of them. What is said: the program's copies of a store, with more said. A right store, plainly; what is set and said leaves it right. -/
import Derived.Test.YtmofljfffcnlbaaMPSxZab
import Derived.Test.YtmofljfffcnlbaaMPSxZae
import Derived.Test.YtmofljfffcnlbaaMPSxZah
import Derived.Deep.AppendLies
namespace Go.Proofs.Ytmofljfffcnlbaa
section PartRwA
open Go.RowKit

theorem cell_up {W W' : World} {p : Addr} {u : Value} (hb : Below W.heap.size W W') (h : W.cell? p = some u) : W'.cell? p = some u := (hb.cell (World.block_lt_of_cell? W _ h)).trans h
/-- The slice v leads to the records xs, in a block of lo .. hi that may be written. -/
def VrIn (lo hi : Nat) (w : World) (v : Value) (xs : List Vr) : Prop := ∃ ad cap, v = .slice ad xs.length cap ∧ (0 < xs.length → ∃ (g : Nat) (arr : Array Value), ad = some ⟨g, 0, none⟩ ∧ lo ≤ g ∧ g < hi ∧ w.heap[g]? = some (.cells arr 47 (0, 0)) ∧ ∀ i, i < xs.length → arr[i * 2]? = some (.string (xs.getD i Vr.no).name) ∧ arr[i * 2 + 1]? = some (.string (xs.getD i Vr.no).val))
theorem VrIn.at {lo hi : Nat} {w : World} {v : Value} {xs : List Vr} (h : VrIn lo hi w v xs) : VrAt w v xs := by
  obtain ⟨ad, cap, rfl, f⟩ := h
  refine ⟨ad, cap, rfl, fun h0 => ?_⟩
  obtain ⟨g, arr, rfl, -, -, ha, hc⟩ := f h0
  refine ⟨g, 0, rfl, blk_lt ha, fun i hi => ?_⟩
  rw [Nat.zero_add]
  exact ⟨(blk_cell ha _).trans (hc i hi).1, (blk_cell ha _).trans (hc i hi).2⟩
theorem VrIn.keep {lo hi : Nat} {w w' : World} {v : Value} {xs : List Vr} (h : VrIn lo hi w v xs) (hk : ∀ b, lo ≤ b → b < hi → w'.heap[b]? = w.heap[b]?) : VrIn lo hi w' v xs := by
  obtain ⟨ad, cap, rfl, f⟩ := h
  refine ⟨ad, cap, rfl, fun h0 => ?_⟩
  obtain ⟨g, arr, rfl, h1, h2, ha, hc⟩ := f h0
  exact ⟨g, arr, rfl, h1, h2, (hk g h1 h2).trans ha, hc⟩
theorem VrIn.wide {lo hi lo' hi' : Nat} {w : World} {v : Value} {xs : List Vr} (h : VrIn lo hi w v xs) (h1 : lo' ≤ lo) (h2 : hi ≤ hi') : VrIn lo' hi' w v xs := by
  obtain ⟨ad, cap, rfl, f⟩ := h
  refine ⟨ad, cap, rfl, fun h0 => ?_⟩
  obtain ⟨g, arr, rfl, e1, e2, ha, hc⟩ := f h0
  exact ⟨g, arr, rfl, by omega, by omega, ha, hc⟩
theorem VrCopy.in {w : World} {g lo hi : Nat} {xs : List Vr} (h : VrCopy w g xs.length xs xs.length) (h1 : lo ≤ g) (h2 : g < hi) (c : Nat) : VrIn lo hi w (.slice (some ⟨g, 0, none⟩) xs.length c) xs := by
  obtain ⟨⟨arr, ha, hs⟩, hQ⟩ := h
  refine ⟨_, c, rfl, fun _ => ⟨g, arr, rfl, h1, h2, ha, fun i hi => ?_⟩⟩
  have := hQ i hi
  rw [blk_cell ha, blk_cell ha] at this
  exact this
/-- N records in block g that may be written; the first j bear marks from k on. -/
def WrVr (w : World) (g N k j : Nat) : Prop := ∃ arr : Array Value, w.heap[g]? = some (.cells arr 47 (0, 0)) ∧ N * 2 ≤ arr.size ∧ ∀ i, i < j → arr[i * 2]? = some (.string ⟨(mk (k + 2 * i)).toArray⟩) ∧ arr[i * 2 + 1]? = some (.string ⟨(mk (k + 2 * i + 1)).toArray⟩)
theorem WrVr.next {wr a0 a1 : World} {g N k j : Nat} (h : WrVr wr g N k j) (hj : j < N) (h0 : Below wr.heap.size wr a0) (h1 : Below (a0.setCell ⟨g, j * 2, none⟩ (.string ⟨(mk (k + 2 * j)).toArray⟩)).heap.size (a0.setCell ⟨g, j * 2, none⟩ (.string ⟨(mk (k + 2 * j)).toArray⟩)) a1) :
    WrVr (a1.setCell ⟨g, j * 2 + 1, none⟩ (.string ⟨(mk (k + 2 * j + 1)).toArray⟩)) g N k (j + 1) := by
  obtain ⟨arr, ha, hs, hm⟩ := h
  have r0 := (h0.block g (blk_lt ha)).trans ha
  have s0 := blk_set r0 (j * 2) (.string ⟨(mk (k + 2 * j)).toArray⟩)
  have r1 := (h1.block g (blk_lt s0)).trans s0
  have s1 := blk_set r1 (j * 2 + 1) (.string ⟨(mk (k + 2 * j + 1)).toArray⟩)
  refine ⟨_, s1, by simpa using hs, fun i hi => ?_⟩
  by_cases e : i = j
  · subst e
    refine ⟨?_, ?_⟩
    · rw [Array.getElem?_setIfInBounds, if_neg (by omega), Array.getElem?_setIfInBounds, if_pos rfl, if_pos (by omega)]
    · rw [Array.getElem?_setIfInBounds, if_pos rfl, if_pos (by simp; omega)]
  · obtain ⟨m0, m1⟩ := hm i (by omega)
    refine ⟨?_, ?_⟩
    · rw [Array.getElem?_setIfInBounds, if_neg (by omega), Array.getElem?_setIfInBounds, if_neg (by omega)]; exact m0
    · rw [Array.getElem?_setIfInBounds, if_neg (by omega), Array.getElem?_setIfInBounds, if_neg (by omega)]; exact m1


/-- The slice v leads to the records xs, in a block of lo .. hi that may be written. -/
def ClIn (lo hi : Nat) (w : World) (v : Value) (xs : List Cl) : Prop := ∃ ad cap, v = .slice ad xs.length cap ∧ (0 < xs.length → ∃ (g : Nat) (arr : Array Value), ad = some ⟨g, 0, none⟩ ∧ lo ≤ g ∧ g < hi ∧ w.heap[g]? = some (.cells arr 50 (0, 0)) ∧ ∀ i, i < xs.length → arr[i * 3]? = some (.string (xs.getD i Cl.no).name) ∧ arr[i * 3 + 1]? = some (.string (xs.getD i Cl.no).key) ∧ arr[i * 3 + 2]? = some (.string (xs.getD i Cl.no).val))
theorem ClIn.at {lo hi : Nat} {w : World} {v : Value} {xs : List Cl} (h : ClIn lo hi w v xs) : ClAt w v xs := by
  obtain ⟨ad, cap, rfl, f⟩ := h
  refine ⟨ad, cap, rfl, fun h0 => ?_⟩
  obtain ⟨g, arr, rfl, -, -, ha, hc⟩ := f h0
  refine ⟨g, 0, rfl, blk_lt ha, fun i hi => ?_⟩
  rw [Nat.zero_add]
  exact ⟨(blk_cell ha _).trans (hc i hi).1, (blk_cell ha _).trans (hc i hi).2.1, (blk_cell ha _).trans (hc i hi).2.2⟩
theorem ClIn.keep {lo hi : Nat} {w w' : World} {v : Value} {xs : List Cl} (h : ClIn lo hi w v xs) (hk : ∀ b, lo ≤ b → b < hi → w'.heap[b]? = w.heap[b]?) : ClIn lo hi w' v xs := by
  obtain ⟨ad, cap, rfl, f⟩ := h
  refine ⟨ad, cap, rfl, fun h0 => ?_⟩
  obtain ⟨g, arr, rfl, h1, h2, ha, hc⟩ := f h0
  exact ⟨g, arr, rfl, h1, h2, (hk g h1 h2).trans ha, hc⟩
theorem ClIn.wide {lo hi lo' hi' : Nat} {w : World} {v : Value} {xs : List Cl} (h : ClIn lo hi w v xs) (h1 : lo' ≤ lo) (h2 : hi ≤ hi') : ClIn lo' hi' w v xs := by
  obtain ⟨ad, cap, rfl, f⟩ := h
  refine ⟨ad, cap, rfl, fun h0 => ?_⟩
  obtain ⟨g, arr, rfl, e1, e2, ha, hc⟩ := f h0
  exact ⟨g, arr, rfl, by omega, by omega, ha, hc⟩
theorem ClCopy.in {w : World} {g lo hi : Nat} {xs : List Cl} (h : ClCopy w g xs.length xs xs.length) (h1 : lo ≤ g) (h2 : g < hi) (c : Nat) : ClIn lo hi w (.slice (some ⟨g, 0, none⟩) xs.length c) xs := by
  obtain ⟨⟨arr, ha, hs⟩, hQ⟩ := h
  refine ⟨_, c, rfl, fun _ => ⟨g, arr, rfl, h1, h2, ha, fun i hi => ?_⟩⟩
  have := hQ i hi
  rw [blk_cell ha, blk_cell ha, blk_cell ha] at this
  exact this
/-- N records in block g that may be written; the first j bear marks from k on. -/
def WrCl (w : World) (g N k j : Nat) : Prop := ∃ arr : Array Value, w.heap[g]? = some (.cells arr 50 (0, 0)) ∧ N * 3 ≤ arr.size ∧ ∀ i, i < j → arr[i * 3]? = some (.string ⟨(mk (k + 3 * i)).toArray⟩) ∧ arr[i * 3 + 1]? = some (.string ⟨(mk (k + 3 * i + 1)).toArray⟩) ∧ arr[i * 3 + 2]? = some (.string ⟨(mk (k + 3 * i + 2)).toArray⟩)
theorem WrCl.next {wr a0 a1 a2 : World} {g N k j : Nat} (h : WrCl wr g N k j) (hj : j < N) (h0 : Below wr.heap.size wr a0) (h1 : Below (a0.setCell ⟨g, j * 3, none⟩ (.string ⟨(mk (k + 3 * j)).toArray⟩)).heap.size (a0.setCell ⟨g, j * 3, none⟩ (.string ⟨(mk (k + 3 * j)).toArray⟩)) a1) (h2 : Below (a1.setCell ⟨g, j * 3 + 1, none⟩ (.string ⟨(mk (k + 3 * j + 1)).toArray⟩)).heap.size (a1.setCell ⟨g, j * 3 + 1, none⟩ (.string ⟨(mk (k + 3 * j + 1)).toArray⟩)) a2) :
    WrCl (a2.setCell ⟨g, j * 3 + 2, none⟩ (.string ⟨(mk (k + 3 * j + 2)).toArray⟩)) g N k (j + 1) := by
  obtain ⟨arr, ha, hs, hm⟩ := h
  have r0 := (h0.block g (blk_lt ha)).trans ha
  have s0 := blk_set r0 (j * 3) (.string ⟨(mk (k + 3 * j)).toArray⟩)
  have r1 := (h1.block g (blk_lt s0)).trans s0
  have s1 := blk_set r1 (j * 3 + 1) (.string ⟨(mk (k + 3 * j + 1)).toArray⟩)
  have r2 := (h2.block g (blk_lt s1)).trans s1
  have s2 := blk_set r2 (j * 3 + 2) (.string ⟨(mk (k + 3 * j + 2)).toArray⟩)
  refine ⟨_, s2, by simpa using hs, fun i hi => ?_⟩
  by_cases e : i = j
  · subst e
    refine ⟨?_, ?_, ?_⟩
    · rw [Array.getElem?_setIfInBounds, if_neg (by omega), Array.getElem?_setIfInBounds, if_neg (by omega), Array.getElem?_setIfInBounds, if_pos rfl, if_pos (by omega)]
    · rw [Array.getElem?_setIfInBounds, if_neg (by omega), Array.getElem?_setIfInBounds, if_pos rfl, if_pos (by simp; omega)]
    · rw [Array.getElem?_setIfInBounds, if_pos rfl, if_pos (by simp; omega)]
  · obtain ⟨m0, m1, m2⟩ := hm i (by omega)
    refine ⟨?_, ?_, ?_⟩
    · rw [Array.getElem?_setIfInBounds, if_neg (by omega), Array.getElem?_setIfInBounds, if_neg (by omega), Array.getElem?_setIfInBounds, if_neg (by omega)]; exact m0
    · rw [Array.getElem?_setIfInBounds, if_neg (by omega), Array.getElem?_setIfInBounds, if_neg (by omega), Array.getElem?_setIfInBounds, if_neg (by omega)]; exact m1
    · rw [Array.getElem?_setIfInBounds, if_neg (by omega), Array.getElem?_setIfInBounds, if_neg (by omega), Array.getElem?_setIfInBounds, if_neg (by omega)]; exact m2

end PartRwA
section PartRwC
open Go.RowKit

theorem rowKeep {B : Nat} {w w' : World} {e : TypeId} {sz : Nat} {v : Value} {n : Nat} {cs : List Value} (h : w.ownsRow B e sz v n cs) (hk : ∀ q, v.ownBlock = some q → w'.heap[q]? = w.heap[q]?) : w'.ownsRow B e sz v n cs := by
  refine ⟨h.1, ?_⟩
  rcases h.2 with hn | ⟨g, cap, cur, rfl, h1, hg, rest⟩
  · exact .inl hn
  · exact .inr ⟨g, cap, cur, rfl, h1, (hk g rfl).trans hg, rest⟩

def cellsVr (xs : List Vr) : List Value := xs.flatMap fun x => [.string x.name, .string x.val]
/-- The row of the records xs, in memory of its own from block B on. -/
def VrRow (B : Nat) (w : World) (v : Value) (xs : List Vr) : Prop := w.ownsRow B 47 2 v xs.length (cellsVr xs)
theorem cellsVr_get (xs : List Vr) (i : Nat) (hi : i < xs.length) : (cellsVr xs)[i * 2]? = some (.string (xs.getD i Vr.no).name) ∧ (cellsVr xs)[i * 2 + 1]? = some (.string (xs.getD i Vr.no).val) := by
  induction xs generalizing i with
  | nil => simp at hi
  | cons x xs ih =>
    cases i with
    | zero => exact ⟨rfl, rfl⟩
    | succ i =>
      have := ih i (by simpa using hi)
      rw [show (i + 1) * 2 = i * 2 + 1 + 1 by omega]
      exact this
theorem VrRow.in {B : Nat} {w : World} {v : Value} {xs : List Vr} (h : VrRow B w v xs) : VrIn B w.heap.size w v xs := by
  have h' := h
  rcases h'.2 with ⟨rfl, hn⟩ | ⟨g, cap, cur, rfl, h1, hg, hc1, hc2, hc3, hc4⟩
  · exact ⟨none, 0, by rw [hn], fun h0 => by omega⟩
  · refine ⟨_, cap, rfl, fun _ => ⟨g, cur, rfl, h1, blk_lt hg, hg, fun i hi => ?_⟩⟩
    have e : ∀ j, j < xs.length * 2 → cur[j]? = (cellsVr xs)[j]? := by
      intro j hj
      rw [← hc4, List.getElem?_take, if_pos hj, Array.getElem?_toList]
    rw [e (i * 2) (by omega), e (i * 2 + 1) (by omega)]
    exact cellsVr_get xs i hi
theorem VrRow.push {ops : Array Oper} {rest : List Oper} {o : Oper} {a : Act} {Q : Exit → Act → World → Prop} {B : Nat} {w : World} {v : Value} {xs : List Vr}
    (hown : VrRow B w v xs) (hgd : o.guard = none) (s x : Operand)
    (ho : o.op = .call { callee := .builtin .append, args := #[s, x], argTypes := #[24, 24] })
    (hs : a.eval s = v) (y : Vr) (H : Nat) (hH : w.heap.size = H) (hx : a.eval x = .slice (some ⟨H, 0, none⟩) 1 1)
    (hlen : xs.length < 2000000) (hB : B ≤ w.heap.size)
    (h : ∀ q cap w', VrRow B w' (.slice (some ⟨q, 0, none⟩) (xs.length + 1) cap) (xs ++ [y]) → w.heap.size ≤ w'.heap.size → Below B w w' →
      wpList Try.prog ops Q rest (a.put o.dst (.slice (some ⟨q, 0, none⟩) (xs.length + 1) cap)) w') :
    wpList Try.prog ops Q (o :: rest) a (w.alloc (.cells #[.string y.name, .string y.val] 47)) := by
  subst hH
  obtain ⟨i0, hi, hz0, hz1, hz2⟩ := info_parts Try.infoVr
  refine wpList_append_lies _ hgd s x 24 ho B 47 i0 (.agg #[.string ByteArray.empty, .string ByteArray.empty]) 2 32 Try.underlying24 hi hz0 hz1 hz2 rfl (by decide) v xs.length (cellsVr xs) hs (World.ownsRow.alloc hown _) ⟨w.heap.size, 0, none⟩ 1 1 [.string y.name, .string y.val] hx rfl
    (World.news_of_block (cs := #[.string y.name, .string y.val]) (t := 47) (fr := (0, 0)) (heap_alloc_new w _)) ?_ (by omega) ?_ ?_ ?_ (w.heap.size + 1) (by simp) ?_
  · intro u hu
    simp at hu
    rcases hu with rfl | rfl <;> rfl
  · unfold maxLen; omega
  · omega
  · simp; omega
  · intro g cap w' h2 h3 h4 h5
    have hb0 : Below w.heap.size w (w.alloc (.cells #[.string y.name, .string y.val] 47)) := (Below.refl _ w).alloc (Nat.le_refl _) _
    have hs3 := h3.size
    simp at hs3
    have hb3 : Below B w w' := (hb0.mono hB).grown h3 (by simp; omega) (fun k hk => (World.ownsRow.lt hown k hk).1)
    refine h g cap w' ?_ (by omega) hb3
    unfold VrRow cellsVr
    rw [List.flatMap_append, List.length_append]
    exact h2



def cellsCl (xs : List Cl) : List Value := xs.flatMap fun x => [.string x.name, .string x.key, .string x.val]
/-- The row of the records xs, in memory of its own from block B on. -/
def ClRow (B : Nat) (w : World) (v : Value) (xs : List Cl) : Prop := w.ownsRow B 50 3 v xs.length (cellsCl xs)
theorem cellsCl_get (xs : List Cl) (i : Nat) (hi : i < xs.length) : (cellsCl xs)[i * 3]? = some (.string (xs.getD i Cl.no).name) ∧ (cellsCl xs)[i * 3 + 1]? = some (.string (xs.getD i Cl.no).key) ∧ (cellsCl xs)[i * 3 + 2]? = some (.string (xs.getD i Cl.no).val) := by
  induction xs generalizing i with
  | nil => simp at hi
  | cons x xs ih =>
    cases i with
    | zero => exact ⟨rfl, rfl, rfl⟩
    | succ i =>
      have := ih i (by simpa using hi)
      rw [show (i + 1) * 3 = i * 3 + 1 + 1 + 1 by omega]
      exact this
theorem ClRow.in {B : Nat} {w : World} {v : Value} {xs : List Cl} (h : ClRow B w v xs) : ClIn B w.heap.size w v xs := by
  have h' := h
  rcases h'.2 with ⟨rfl, hn⟩ | ⟨g, cap, cur, rfl, h1, hg, hc1, hc2, hc3, hc4⟩
  · exact ⟨none, 0, by rw [hn], fun h0 => by omega⟩
  · refine ⟨_, cap, rfl, fun _ => ⟨g, cur, rfl, h1, blk_lt hg, hg, fun i hi => ?_⟩⟩
    have e : ∀ j, j < xs.length * 3 → cur[j]? = (cellsCl xs)[j]? := by
      intro j hj
      rw [← hc4, List.getElem?_take, if_pos hj, Array.getElem?_toList]
    rw [e (i * 3) (by omega), e (i * 3 + 1) (by omega), e (i * 3 + 2) (by omega)]
    exact cellsCl_get xs i hi
theorem ClRow.push {ops : Array Oper} {rest : List Oper} {o : Oper} {a : Act} {Q : Exit → Act → World → Prop} {B : Nat} {w : World} {v : Value} {xs : List Cl}
    (hown : ClRow B w v xs) (hgd : o.guard = none) (s x : Operand)
    (ho : o.op = .call { callee := .builtin .append, args := #[s, x], argTypes := #[25, 25] })
    (hs : a.eval s = v) (y : Cl) (H : Nat) (hH : w.heap.size = H) (hx : a.eval x = .slice (some ⟨H, 0, none⟩) 1 1)
    (hlen : xs.length < 2000000) (hB : B ≤ w.heap.size)
    (h : ∀ q cap w', ClRow B w' (.slice (some ⟨q, 0, none⟩) (xs.length + 1) cap) (xs ++ [y]) → w.heap.size ≤ w'.heap.size → Below B w w' →
      wpList Try.prog ops Q rest (a.put o.dst (.slice (some ⟨q, 0, none⟩) (xs.length + 1) cap)) w') :
    wpList Try.prog ops Q (o :: rest) a (w.alloc (.cells #[.string y.name, .string y.key, .string y.val] 50)) := by
  subst hH
  obtain ⟨i0, hi, hz0, hz1, hz2⟩ := info_parts Try.infoCl
  refine wpList_append_lies _ hgd s x 25 ho B 50 i0 (.agg #[.string ByteArray.empty, .string ByteArray.empty, .string ByteArray.empty]) 3 48 Try.underlying25 hi hz0 hz1 hz2 rfl (by decide) v xs.length (cellsCl xs) hs (World.ownsRow.alloc hown _) ⟨w.heap.size, 0, none⟩ 1 1 [.string y.name, .string y.key, .string y.val] hx rfl
    (World.news_of_block (cs := #[.string y.name, .string y.key, .string y.val]) (t := 50) (fr := (0, 0)) (heap_alloc_new w _)) ?_ (by omega) ?_ ?_ ?_ (w.heap.size + 1) (by simp) ?_
  · intro u hu
    simp at hu
    rcases hu with rfl | rfl | rfl <;> rfl
  · unfold maxLen; omega
  · omega
  · simp; omega
  · intro g cap w' h2 h3 h4 h5
    have hb0 : Below w.heap.size w (w.alloc (.cells #[.string y.name, .string y.key, .string y.val] 50)) := (Below.refl _ w).alloc (Nat.le_refl _) _
    have hs3 := h3.size
    simp at hs3
    have hb3 : Below B w w' := (hb0.mono hB).grown h3 (by simp; omega) (fun k hk => (World.ownsRow.lt hown k hk).1)
    refine h g cap w' ?_ (by omega) hb3
    unfold ClRow cellsCl
    rw [List.flatMap_append, List.length_append]
    exact h2


end PartRwC
section PartRwD
open Go.RowKit

/-- The first 3000 bytes. -/
def St.cut3 (s : ByteArray) : ByteArray := if 3000 < s.size then s.extract 0 3000 else s
/-- A store in memory of its own: its Vars from lo to mid, its Cells from mid to hi. -/
def StIn (lo hi : Nat) (w : World) (u x : Value) (vs : List Vr) (cs : List Cl) : Prop := ∃ mid, lo ≤ mid ∧ mid ≤ hi ∧ VrIn lo mid w u vs ∧ ClIn mid hi w x cs

theorem StIn.keep {lo hi : Nat} {w w' : World} {u x : Value} {vs : List Vr} {cs : List Cl} (h : StIn lo hi w u x vs cs) (hk : ∀ b, lo ≤ b → b < hi → w'.heap[b]? = w.heap[b]?) : StIn lo hi w' u x vs cs := by
  obtain ⟨mid, h1, h2, h3, h4⟩ := h
  exact ⟨mid, h1, h2, h3.keep (fun b e1 e2 => hk b e1 (by omega)), h4.keep (fun b e1 e2 => hk b (by omega) e2)⟩
theorem StIn.wide {lo hi lo' hi' : Nat} {w : World} {u x : Value} {vs : List Vr} {cs : List Cl} (h : StIn lo hi w u x vs cs) (h1 : lo' ≤ lo) (h2 : hi ≤ hi') : StIn lo' hi' w u x vs cs := by
  obtain ⟨mid, e1, e2, h3, h4⟩ := h
  exact ⟨mid, by omega, by omega, h3.wide h1 (Nat.le_refl _), h4.wide (Nat.le_refl _) h2⟩

end PartRwD
section PartRtP
namespace St
theorem less_trans : ∀ a b c : List UInt8, Op.bytesLess a b = true → Op.bytesLess b c = true → Op.bytesLess a c = true
  | [], [], _, h, _ => by simp [Op.bytesLess] at h
  | [], _ :: _, [], _, h => by simp [Op.bytesLess] at h
  | [], _ :: _, _ :: _, _, _ => by simp [Op.bytesLess]
  | _ :: _, [], _, h, _ => by simp [Op.bytesLess] at h
  | _ :: _, _ :: _, [], _, h => by simp [Op.bytesLess] at h
  | a :: x, b :: y, c :: z, h1, h2 => by
    unfold Op.bytesLess at h1 h2 ⊢
    have ih := less_trans x y z
    simp only [Bool.or_eq_true, Bool.and_eq_true, decide_eq_true_eq, beq_iff_eq] at h1 h2 ⊢
    rcases h1 with h1 | ⟨rfl, h1⟩
    · rcases h2 with h2 | ⟨rfl, h2⟩
      · exact .inl (by have h3 : a.toNat < b.toNat := h1; have h4 : b.toNat < c.toNat := h2; show a.toNat < c.toNat; omega)
      · exact .inl h1
    · rcases h2 with h2 | ⟨rfl, h2⟩
      · exact .inl h2
      · exact .inr ⟨rfl, ih h1 h2⟩
theorem less_total : ∀ a b : List UInt8, Op.bytesLess a b = false → (a == b) = false → Op.bytesLess b a = true
  | [], [], _, h => by simp at h
  | [], _ :: _, h, _ => by simp [Op.bytesLess] at h
  | _ :: _, [], _, _ => by simp [Op.bytesLess]
  | a :: x, b :: y, h1, h2 => by
    have ih := less_total x y
    unfold Op.bytesLess at h1 ⊢
    by_cases e : a = b
    · subst e
      have h3 : (x == y) = false := by simpa using h2
      have h4 : Op.bytesLess x y = false := by simpa using h1
      simp [ih h4 h3]
    · have h3 : ¬ a.toNat < b.toNat := by
        intro h
        have : decide (a < b) = true := decide_eq_true h
        simp [this] at h1
      have h5 : a.toNat ≠ b.toNat := fun h => e (UInt8.toNat_inj.1 h)
      have h4 : b < a := by show b.toNat < a.toNat; omega
      simp [h4]
theorem lt2_irrefl (a b : ByteArray) : lt2 a b a b = false := by simp [lt2, less_irrefl]
theorem lt2_trans {a0 a1 b0 b1 c0 c1 : ByteArray} (h1 : lt2 a0 a1 b0 b1 = true) (h2 : lt2 b0 b1 c0 c1 = true) : lt2 a0 a1 c0 c1 = true := by
  simp only [lt2, Bool.or_eq_true, Bool.and_eq_true, beq_iff_eq] at h1 h2 ⊢
  rcases h1 with h1 | ⟨e1, h1⟩
  · rcases h2 with h2 | ⟨e2, h2⟩
    · exact .inl (less_trans _ _ _ h1 h2)
    · exact .inl (by rw [← e2]; exact h1)
  · rcases h2 with h2 | ⟨e2, h2⟩
    · exact .inl (by rw [e1]; exact h2)
    · exact .inr ⟨e1.trans e2, less_trans _ _ _ h1 h2⟩
theorem gtV_is (name : ByteArray) (x : Vr) (h : gtV name x = true) : Op.bytesLess name.toList x.name.toList = true := by
  unfold gtV at h
  simp only [Bool.not_eq_true', Bool.or_eq_false_iff] at h
  exact less_total _ _ h.1 h.2

/-- A right store. -/
structure Rt (vs : List Vr) (cs : List Cl) (o : ByteArray) : Prop where
  ascV : vs.Pairwise (fun a b => Op.bytesLess a.name.toList b.name.toList = true)
  ascC : cs.Pairwise (fun a b => lt2 a.name a.key b.name b.key = true)
  goodV : ∀ x ∈ vs, Cd.nm x.name.data.toList = true ∧ x.val.size ≤ 40
  goodC : ∀ x ∈ cs, Cd.nm x.name.data.toList = true ∧ x.key.size ≤ 40 ∧ x.val.size ≤ 40
  fewV : vs.length ≤ 60
  fewC : cs.length ≤ 2000
  out : o.size ≤ 3000
theorem cut_size (s : ByteArray) : (cut s).size ≤ 40 := by
  show (Pv.cut s.data.toList).toArray.size ≤ 40
  simp [Pv.cut]
  omega
theorem two_filters {α : Type} (p q : α → Bool) (h : ∀ x, p x = true → q x = false) (xs : List α) : (xs.filter p).length + (xs.filter q).length ≤ xs.length := by
  induction xs with
  | nil => simp
  | cons a xs ih =>
    cases hp : p a with
    | true =>
      rw [List.filter_cons_of_pos hp, List.filter_cons_of_neg (by rw [h a hp]; simp)]
      simp only [List.length_cons]
      omega
    | false =>
      rw [List.filter_cons_of_neg (by rw [hp]; simp)]
      cases hq : q a with
      | true => rw [List.filter_cons_of_pos hq]; simp only [List.length_cons]; omega
      | false => rw [List.filter_cons_of_neg (by rw [hq]; simp)]; simp only [List.length_cons]; omega
theorem newVars_len (vs : List Vr) (name val : ByteArray) : (newVars vs name val).length ≤ vs.length + 1 := by
  have := two_filters (ltV name) (gtV name) (fun x h => by unfold ltV at h; unfold gtV; rw [h]; rfl) vs
  unfold newVars
  simp only [List.length_append, List.length_cons, List.length_nil]
  omega
theorem lt_not_gt (name key : ByteArray) (x : Cl) (h : ltC name key x = true) : gtC name key x = false := by
  cases hg : gtC name key x with
  | false => rfl
  | true =>
    have := lt2_trans (by exact h) (by exact hg)
    rw [lt2_irrefl] at this
    exact absurd this (by simp)
theorem newCells_len (cs : List Cl) (name key val : ByteArray) : (newCells cs name key val).length ≤ cs.length + 1 := by
  have := two_filters (ltC name key) (gtC name key) (lt_not_gt name key) cs
  unfold newCells
  simp only [List.length_append, List.length_cons, List.length_nil]
  omega
theorem setVars_len (vs : List Vr) (name val : ByteArray) : (setVars vs name val).length ≤ vs.length + 1 := by
  have := newVars_len vs name val
  unfold setVars
  split <;> omega
theorem setCells_len (cs : List Cl) (name key val : ByteArray) : (setCells cs name key val).length ≤ cs.length + 1 := by
  have := newCells_len cs name key val
  unfold setCells
  split <;> omega
theorem newVars_asc {vs : List Vr} (name val : ByteArray) (h : vs.Pairwise (fun a b => Op.bytesLess a.name.toList b.name.toList = true)) : (newVars vs name val).Pairwise (fun a b => Op.bytesLess a.name.toList b.name.toList = true) := by
  unfold newVars
  rw [List.append_assoc, List.pairwise_append]
  refine ⟨h.filter _, ?_, ?_⟩
  · rw [List.singleton_append, List.pairwise_cons]
    exact ⟨fun b hb => gtV_is name b (List.mem_filter.1 hb).2, h.filter _⟩
  · intro a ha b hb
    have h1 : Op.bytesLess a.name.toList name.toList = true := (List.mem_filter.1 ha).2
    rw [List.singleton_append, List.mem_cons] at hb
    rcases hb with rfl | hb
    · exact h1
    · exact less_trans _ _ _ h1 (gtV_is name b (List.mem_filter.1 hb).2)
theorem newCells_asc {cs : List Cl} (name key val : ByteArray) (h : cs.Pairwise (fun a b => lt2 a.name a.key b.name b.key = true)) : (newCells cs name key val).Pairwise (fun a b => lt2 a.name a.key b.name b.key = true) := by
  unfold newCells
  rw [List.append_assoc, List.pairwise_append]
  refine ⟨h.filter _, ?_, ?_⟩
  · rw [List.singleton_append, List.pairwise_cons]
    exact ⟨fun b hb => (List.mem_filter.1 hb).2, h.filter _⟩
  · intro a ha b hb
    have h1 : lt2 a.name a.key name (cut key) = true := (List.mem_filter.1 ha).2
    rw [List.singleton_append, List.mem_cons] at hb
    rcases hb with rfl | hb
    · exact h1
    · exact lt2_trans h1 (List.mem_filter.1 hb).2
theorem newVars_mem {vs : List Vr} {name val : ByteArray} {x : Vr} (h : x ∈ newVars vs name val) : x ∈ vs ∨ x = ⟨name, cut val⟩ := by
  unfold newVars at h
  simp only [List.mem_append, List.mem_filter, List.mem_singleton] at h
  rcases h with (h | h) | h
  · exact .inl h.1
  · exact .inr h
  · exact .inl h.1
theorem newCells_mem {cs : List Cl} {name key val : ByteArray} {x : Cl} (h : x ∈ newCells cs name key val) : x ∈ cs ∨ x = ⟨name, cut key, cut val⟩ := by
  unfold newCells at h
  simp only [List.mem_append, List.mem_filter, List.mem_singleton] at h
  rcases h with (h | h) | h
  · exact .inl h.1
  · exact .inr h
  · exact .inl h.1
theorem Rt.none : Rt [] [] ⟨#[]⟩ := ⟨.nil, .nil, fun _ h => by simp at h, fun _ h => by simp at h, by simp, by simp, Nat.zero_le _⟩
theorem Rt.setV {vs : List Vr} {cs : List Cl} {o : ByteArray} (h : Rt vs cs o) {name : ByteArray} (hn : Cd.nm name.data.toList = true) (val : ByteArray) : Rt (setVars vs name val) cs o := by
  unfold setVars
  split
  · rename_i hl
    refine ⟨newVars_asc name val h.ascV, h.ascC, fun x hx => ?_, h.goodC, hl, h.fewC, h.out⟩
    rcases newVars_mem hx with hx | rfl
    · exact h.goodV x hx
    · exact ⟨hn, cut_size _⟩
  · exact h
theorem Rt.setC {vs : List Vr} {cs : List Cl} {o : ByteArray} (h : Rt vs cs o) {name : ByteArray} (hn : Cd.nm name.data.toList = true) (key val : ByteArray) : Rt vs (setCells cs name key val) o := by
  unfold setCells
  split
  · rename_i hl
    refine ⟨h.ascV, newCells_asc name key val h.ascC, h.goodV, fun x hx => ?_, h.fewV, hl, h.out⟩
    rcases newCells_mem hx with hx | rfl
    · exact h.goodC x hx
    · exact ⟨hn, cut_size _, cut_size _⟩
  · exact h
theorem Rt.outs {vs : List Vr} {cs : List Cl} {o o' : ByteArray} (h : Rt vs cs o) (ho : o'.size ≤ 3000) : Rt vs cs o' := ⟨h.ascV, h.ascC, h.goodV, h.goodC, h.fewV, h.fewC, ho⟩
theorem nm_size {s : ByteArray} (h : Cd.nm s.data.toList = true) : s.size ≤ 8 := by
  unfold Cd.nm at h
  simp at h
  have : s.data.toList.length = s.size := by simp
  omega
theorem Rt.small {vs : List Vr} {cs : List Cl} {o : ByteArray} (h : Rt vs cs o) : StSmall vs cs o := by
  have := h.fewV
  have := h.fewC
  have := h.out
  refine ⟨by omega, fun i hi => ?_, by omega, fun i hi => ?_, by omega⟩
  · have hm : vs.getD i Vr.no ∈ vs := by rw [List.getD_eq_getElem?_getD, List.getElem?_eq_getElem hi]; exact List.getElem_mem _
    obtain ⟨h1, h2⟩ := h.goodV _ hm
    have := nm_size h1
    exact ⟨by omega, by omega⟩
  · have hm : cs.getD i Cl.no ∈ cs := by rw [List.getD_eq_getElem?_getD, List.getElem?_eq_getElem hi]; exact List.getElem_mem _
    obtain ⟨h1, h2, h3⟩ := h.goodC _ hm
    have := nm_size h1
    exact ⟨by omega, by omega, by omega⟩
theorem get_mem {α : Type} (xs : List α) (no : α) (i : Nat) (h : i < xs.length) : xs.getD i no = xs[i] := by simp [h]
/-- Such a store is right. -/
theorem Rt.ok {vs : List Vr} {cs : List Cl} {o : ByteArray} (h : Rt vs cs o) : St.ok vs cs o = true := by
  rw [ok_yes (fun i hi => ⟨?_, ?_⟩) (fun i hi => ⟨?_, ?_⟩)]
  · simp [h.fewV, h.fewC, h.out]
  · obtain ⟨h1, h2⟩ := h.goodV vs[i] (List.getElem_mem _)
    unfold St.goodV
    rw [get_mem vs Vr.no i hi, h1]
    simp [h2]
  · unfold St.ascV St.aheadV
    by_cases e : i = 0
    · simp [e]
    · have := List.pairwise_iff_getElem.1 h.ascV (i - 1) i (by omega) hi (by omega)
      rw [lt2_empty, get_mem vs Vr.no i hi, get_mem vs Vr.no (i - 1) (by omega), this]
      simp
  · obtain ⟨h1, h2, h3⟩ := h.goodC cs[i] (List.getElem_mem _)
    unfold St.goodC
    rw [get_mem cs Cl.no i hi, h1]
    simp [h2, h3]
  · unfold St.ascC St.aheadC
    by_cases e : i = 0
    · simp [e]
    · have := List.pairwise_iff_getElem.1 h.ascC (i - 1) i (by omega) hi (by omega)
      rw [get_mem cs Cl.no i hi, get_mem cs Cl.no (i - 1) (by omega), this]
      simp
end St
/-- A right store of few things. -/
structure Dw (k : Nat) (vs : List Vr) (cs : List Cl) (o : ByteArray) : Prop where
  rt : St.Rt vs cs o
  v : vs.length ≤ k
  c : cs.length ≤ k
  o : o.size ≤ 43 * k
theorem Dw.none : Dw 0 [] [] ⟨#[]⟩ := ⟨St.Rt.none, by simp, by simp, Nat.zero_le _⟩
theorem Dw.up {k m : Nat} {vs : List Vr} {cs : List Cl} {o : ByteArray} (h : Dw k vs cs o) (hk : k ≤ m) : Dw m vs cs o := ⟨h.rt, by have := h.v; omega, by have := h.c; omega, by have := h.o; omega⟩
theorem Dw.setV {k : Nat} {vs : List Vr} {cs : List Cl} {o : ByteArray} (h : Dw k vs cs o) {name : ByteArray} (hn : Cd.nm name.data.toList = true) (val : ByteArray) : Dw (k + 1) (St.setVars vs name val) cs o :=
  ⟨h.rt.setV hn val, by have := St.setVars_len vs name val; have := h.v; omega, by have := h.c; omega, by have := h.o; omega⟩
theorem Dw.setC {k : Nat} {vs : List Vr} {cs : List Cl} {o : ByteArray} (h : Dw k vs cs o) {name : ByteArray} (hn : Cd.nm name.data.toList = true) (key val : ByteArray) : Dw (k + 1) vs (St.setCells cs name key val) o :=
  ⟨h.rt.setC hn key val, by have := h.v; omega, by have := St.setCells_len cs name key val; have := h.c; omega, by have := h.o; omega⟩
end PartRtP
end Go.Proofs.Ytmofljfffcnlbaa
