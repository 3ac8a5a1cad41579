/- The law's own marks: the text of a mark. Rows of Vars and of Cells in memory of their own; the law's marks over them. Rows of Vars and of Cells that grow; the program's copies of them. -/
import Derived.Test.YtohhhhkhkgmanaaZai
import Derived.Test.YtohhhhkhkgmanaaZaj
import Derived.Test.YtohhhhkhkgmanaaZab
import Derived.Test.YtohhhhkhkgmanaaZag
import Derived.Test.YtohhhhkhkgmanaaZac
import Derived.Deep.AppendLies
namespace Go.Proofs.Ytohhhhkhkgmanaa
section PartMkT
open Go.RowKit

/-- The mark of k. -/
def mk (k : Nat) : List UInt8 := 109 :: Pl.dg 20 k

end PartMkT
section PartRwA
open Go.RowKit

theorem cell_up {W W' : World} {p : Addr} {u : Value} (hb : Below W.heap.size W W') (h : W.cell? p = some u) : W'.cell? p = some u := (hb.cell (World.block_lt_of_cell? W _ h)).trans h
/-- The slice v leads to the records xs, in a block of lo .. hi that may be written. -/
def VrIn (lo hi : Nat) (w : World) (v : Value) (xs : List Vr) : Prop := ∃ ad cap, v = .slice ad xs.length cap ∧ (0 < xs.length → ∃ (g : Nat) (arr : Array Value), ad = some ⟨g, 0, none⟩ ∧ lo ≤ g ∧ g < hi ∧ w.heap[g]? = some (.cells arr 35 (0, 0)) ∧ ∀ i, i < xs.length → arr[i * 2]? = some (.string (xs.getD i Vr.no).name) ∧ arr[i * 2 + 1]? = some (.string (xs.getD i Vr.no).val))
theorem VrIn.at {lo hi : Nat} {w : World} {v : Value} {xs : List Vr} (h : VrIn lo hi w v xs) : VrAt w v xs := by
  obtain ⟨ad, cap, rfl, f⟩ := h
  refine ⟨ad, cap, rfl, fun h0 => ?_⟩
  obtain ⟨g, arr, rfl, -, -, ha, hc⟩ := f h0
  refine ⟨g, 0, rfl, blk_lt ha, fun i hi => ?_⟩
  rw [Nat.zero_add]
  exact ⟨(blk_cell ha _).trans (hc i hi).1, (blk_cell ha _).trans (hc i hi).2⟩
theorem VrIn.keep {lo hi : Nat} {w w' : World} {v : Value} {xs : List Vr} (h : VrIn lo hi w v xs) (hk : ∀ b, lo ≤ b → b < hi → w'.heap[b]? = w.heap[b]?) : VrIn lo hi w' v xs := by
  obtain ⟨ad, cap, rfl, f⟩ := h
  refine ⟨ad, cap, rfl, fun h0 => ?_⟩
  obtain ⟨g, arr, rfl, h1, h2, ha, hc⟩ := f h0
  exact ⟨g, arr, rfl, h1, h2, (hk g h1 h2).trans ha, hc⟩
theorem VrIn.wide {lo hi lo' hi' : Nat} {w : World} {v : Value} {xs : List Vr} (h : VrIn lo hi w v xs) (h1 : lo' ≤ lo) (h2 : hi ≤ hi') : VrIn lo' hi' w v xs := by
  obtain ⟨ad, cap, rfl, f⟩ := h
  refine ⟨ad, cap, rfl, fun h0 => ?_⟩
  obtain ⟨g, arr, rfl, e1, e2, ha, hc⟩ := f h0
  exact ⟨g, arr, rfl, by omega, by omega, ha, hc⟩
theorem VrCopy.in {w : World} {g lo hi : Nat} {xs : List Vr} (h : VrCopy w g xs.length xs xs.length) (h1 : lo ≤ g) (h2 : g < hi) (c : Nat) : VrIn lo hi w (.slice (some ⟨g, 0, none⟩) xs.length c) xs := by
  obtain ⟨⟨arr, ha, hs⟩, hQ⟩ := h
  refine ⟨_, c, rfl, fun _ => ⟨g, arr, rfl, h1, h2, ha, fun i hi => ?_⟩⟩
  have := hQ i hi
  rw [blk_cell ha, blk_cell ha] at this
  exact this
/-- N records in block g that may be written; the first j bear marks from k on. -/
def WrVr (w : World) (g N k j : Nat) : Prop := ∃ arr : Array Value, w.heap[g]? = some (.cells arr 35 (0, 0)) ∧ N * 2 ≤ arr.size ∧ ∀ i, i < j → arr[i * 2]? = some (.string ⟨(mk (k + 2 * i)).toArray⟩) ∧ arr[i * 2 + 1]? = some (.string ⟨(mk (k + 2 * i + 1)).toArray⟩)
theorem WrVr.next {wr a0 a1 : World} {g N k j : Nat} (h : WrVr wr g N k j) (hj : j < N) (h0 : Below wr.heap.size wr a0) (h1 : Below (a0.setCell ⟨g, j * 2, none⟩ (.string ⟨(mk (k + 2 * j)).toArray⟩)).heap.size (a0.setCell ⟨g, j * 2, none⟩ (.string ⟨(mk (k + 2 * j)).toArray⟩)) a1) :
    WrVr (a1.setCell ⟨g, j * 2 + 1, none⟩ (.string ⟨(mk (k + 2 * j + 1)).toArray⟩)) g N k (j + 1) := by
  obtain ⟨arr, ha, hs, hm⟩ := h
  have r0 := (h0.block g (blk_lt ha)).trans ha
  have s0 := blk_set r0 (j * 2) (.string ⟨(mk (k + 2 * j)).toArray⟩)
  have r1 := (h1.block g (blk_lt s0)).trans s0
  have s1 := blk_set r1 (j * 2 + 1) (.string ⟨(mk (k + 2 * j + 1)).toArray⟩)
  refine ⟨_, s1, by simpa using hs, fun i hi => ?_⟩
  by_cases e : i = j
  · subst e
    refine ⟨?_, ?_⟩
    · rw [Array.getElem?_setIfInBounds, if_neg (by omega), Array.getElem?_setIfInBounds, if_pos rfl, if_pos (by omega)]
    · rw [Array.getElem?_setIfInBounds, if_pos rfl, if_pos (by simp; omega)]
  · obtain ⟨m0, m1⟩ := hm i (by omega)
    refine ⟨?_, ?_⟩
    · rw [Array.getElem?_setIfInBounds, if_neg (by omega), Array.getElem?_setIfInBounds, if_neg (by omega)]; exact m0
    · rw [Array.getElem?_setIfInBounds, if_neg (by omega), Array.getElem?_setIfInBounds, if_neg (by omega)]; exact m1


/-- The slice v leads to the records xs, in a block of lo .. hi that may be written. -/
def ClIn (lo hi : Nat) (w : World) (v : Value) (xs : List Cl) : Prop := ∃ ad cap, v = .slice ad xs.length cap ∧ (0 < xs.length → ∃ (g : Nat) (arr : Array Value), ad = some ⟨g, 0, none⟩ ∧ lo ≤ g ∧ g < hi ∧ w.heap[g]? = some (.cells arr 41 (0, 0)) ∧ ∀ i, i < xs.length → arr[i * 3]? = some (.string (xs.getD i Cl.no).name) ∧ arr[i * 3 + 1]? = some (.string (xs.getD i Cl.no).key) ∧ arr[i * 3 + 2]? = some (.string (xs.getD i Cl.no).val))
theorem ClIn.at {lo hi : Nat} {w : World} {v : Value} {xs : List Cl} (h : ClIn lo hi w v xs) : ClAt w v xs := by
  obtain ⟨ad, cap, rfl, f⟩ := h
  refine ⟨ad, cap, rfl, fun h0 => ?_⟩
  obtain ⟨g, arr, rfl, -, -, ha, hc⟩ := f h0
  refine ⟨g, 0, rfl, blk_lt ha, fun i hi => ?_⟩
  rw [Nat.zero_add]
  exact ⟨(blk_cell ha _).trans (hc i hi).1, (blk_cell ha _).trans (hc i hi).2.1, (blk_cell ha _).trans (hc i hi).2.2⟩
theorem ClIn.keep {lo hi : Nat} {w w' : World} {v : Value} {xs : List Cl} (h : ClIn lo hi w v xs) (hk : ∀ b, lo ≤ b → b < hi → w'.heap[b]? = w.heap[b]?) : ClIn lo hi w' v xs := by
  obtain ⟨ad, cap, rfl, f⟩ := h
  refine ⟨ad, cap, rfl, fun h0 => ?_⟩
  obtain ⟨g, arr, rfl, h1, h2, ha, hc⟩ := f h0
  exact ⟨g, arr, rfl, h1, h2, (hk g h1 h2).trans ha, hc⟩
theorem ClIn.wide {lo hi lo' hi' : Nat} {w : World} {v : Value} {xs : List Cl} (h : ClIn lo hi w v xs) (h1 : lo' ≤ lo) (h2 : hi ≤ hi') : ClIn lo' hi' w v xs := by
  obtain ⟨ad, cap, rfl, f⟩ := h
  refine ⟨ad, cap, rfl, fun h0 => ?_⟩
  obtain ⟨g, arr, rfl, e1, e2, ha, hc⟩ := f h0
  exact ⟨g, arr, rfl, by omega, by omega, ha, hc⟩
theorem ClCopy.in {w : World} {g lo hi : Nat} {xs : List Cl} (h : ClCopy w g xs.length xs xs.length) (h1 : lo ≤ g) (h2 : g < hi) (c : Nat) : ClIn lo hi w (.slice (some ⟨g, 0, none⟩) xs.length c) xs := by
  obtain ⟨⟨arr, ha, hs⟩, hQ⟩ := h
  refine ⟨_, c, rfl, fun _ => ⟨g, arr, rfl, h1, h2, ha, fun i hi => ?_⟩⟩
  have := hQ i hi
  rw [blk_cell ha, blk_cell ha, blk_cell ha] at this
  exact this
/-- N records in block g that may be written; the first j bear marks from k on. -/
def WrCl (w : World) (g N k j : Nat) : Prop := ∃ arr : Array Value, w.heap[g]? = some (.cells arr 41 (0, 0)) ∧ N * 3 ≤ arr.size ∧ ∀ i, i < j → arr[i * 3]? = some (.string ⟨(mk (k + 3 * i)).toArray⟩) ∧ arr[i * 3 + 1]? = some (.string ⟨(mk (k + 3 * i + 1)).toArray⟩) ∧ arr[i * 3 + 2]? = some (.string ⟨(mk (k + 3 * i + 2)).toArray⟩)
theorem WrCl.next {wr a0 a1 a2 : World} {g N k j : Nat} (h : WrCl wr g N k j) (hj : j < N) (h0 : Below wr.heap.size wr a0) (h1 : Below (a0.setCell ⟨g, j * 3, none⟩ (.string ⟨(mk (k + 3 * j)).toArray⟩)).heap.size (a0.setCell ⟨g, j * 3, none⟩ (.string ⟨(mk (k + 3 * j)).toArray⟩)) a1) (h2 : Below (a1.setCell ⟨g, j * 3 + 1, none⟩ (.string ⟨(mk (k + 3 * j + 1)).toArray⟩)).heap.size (a1.setCell ⟨g, j * 3 + 1, none⟩ (.string ⟨(mk (k + 3 * j + 1)).toArray⟩)) a2) :
    WrCl (a2.setCell ⟨g, j * 3 + 2, none⟩ (.string ⟨(mk (k + 3 * j + 2)).toArray⟩)) g N k (j + 1) := by
  obtain ⟨arr, ha, hs, hm⟩ := h
  have r0 := (h0.block g (blk_lt ha)).trans ha
  have s0 := blk_set r0 (j * 3) (.string ⟨(mk (k + 3 * j)).toArray⟩)
  have r1 := (h1.block g (blk_lt s0)).trans s0
  have s1 := blk_set r1 (j * 3 + 1) (.string ⟨(mk (k + 3 * j + 1)).toArray⟩)
  have r2 := (h2.block g (blk_lt s1)).trans s1
  have s2 := blk_set r2 (j * 3 + 2) (.string ⟨(mk (k + 3 * j + 2)).toArray⟩)
  refine ⟨_, s2, by simpa using hs, fun i hi => ?_⟩
  by_cases e : i = j
  · subst e
    refine ⟨?_, ?_, ?_⟩
    · rw [Array.getElem?_setIfInBounds, if_neg (by omega), Array.getElem?_setIfInBounds, if_neg (by omega), Array.getElem?_setIfInBounds, if_pos rfl, if_pos (by omega)]
    · rw [Array.getElem?_setIfInBounds, if_neg (by omega), Array.getElem?_setIfInBounds, if_pos rfl, if_pos (by simp; omega)]
    · rw [Array.getElem?_setIfInBounds, if_pos rfl, if_pos (by simp; omega)]
  · obtain ⟨m0, m1, m2⟩ := hm i (by omega)
    refine ⟨?_, ?_, ?_⟩
    · rw [Array.getElem?_setIfInBounds, if_neg (by omega), Array.getElem?_setIfInBounds, if_neg (by omega), Array.getElem?_setIfInBounds, if_neg (by omega)]; exact m0
    · rw [Array.getElem?_setIfInBounds, if_neg (by omega), Array.getElem?_setIfInBounds, if_neg (by omega), Array.getElem?_setIfInBounds, if_neg (by omega)]; exact m1
    · rw [Array.getElem?_setIfInBounds, if_neg (by omega), Array.getElem?_setIfInBounds, if_neg (by omega), Array.getElem?_setIfInBounds, if_neg (by omega)]; exact m2

end PartRwA
section PartRwC
open Go.RowKit

theorem rowKeep {B : Nat} {w w' : World} {e : TypeId} {sz : Nat} {v : Value} {n : Nat} {cs : List Value} (h : w.ownsRow B e sz v n cs) (hk : ∀ q, v.ownBlock = some q → w'.heap[q]? = w.heap[q]?) : w'.ownsRow B e sz v n cs := by
  refine ⟨h.1, ?_⟩
  rcases h.2 with hn | ⟨g, cap, cur, rfl, h1, hg, rest⟩
  · exact .inl hn
  · exact .inr ⟨g, cap, cur, rfl, h1, (hk g rfl).trans hg, rest⟩

def cellsVr (xs : List Vr) : List Value := xs.flatMap fun x => [.string x.name, .string x.val]
/-- The row of the records xs, in memory of its own from block B on. -/
def VrRow (B : Nat) (w : World) (v : Value) (xs : List Vr) : Prop := w.ownsRow B 35 2 v xs.length (cellsVr xs)
theorem cellsVr_get (xs : List Vr) (i : Nat) (hi : i < xs.length) : (cellsVr xs)[i * 2]? = some (.string (xs.getD i Vr.no).name) ∧ (cellsVr xs)[i * 2 + 1]? = some (.string (xs.getD i Vr.no).val) := by
  induction xs generalizing i with
  | nil => simp at hi
  | cons x xs ih =>
    cases i with
    | zero => exact ⟨rfl, rfl⟩
    | succ i =>
      have := ih i (by simpa using hi)
      rw [show (i + 1) * 2 = i * 2 + 1 + 1 by omega]
      exact this
theorem VrRow.in {B : Nat} {w : World} {v : Value} {xs : List Vr} (h : VrRow B w v xs) : VrIn B w.heap.size w v xs := by
  have h' := h
  rcases h'.2 with ⟨rfl, hn⟩ | ⟨g, cap, cur, rfl, h1, hg, hc1, hc2, hc3, hc4⟩
  · exact ⟨none, 0, by rw [hn], fun h0 => by omega⟩
  · refine ⟨_, cap, rfl, fun _ => ⟨g, cur, rfl, h1, blk_lt hg, hg, fun i hi => ?_⟩⟩
    have e : ∀ j, j < xs.length * 2 → cur[j]? = (cellsVr xs)[j]? := by
      intro j hj
      rw [← hc4, List.getElem?_take, if_pos hj, Array.getElem?_toList]
    rw [e (i * 2) (by omega), e (i * 2 + 1) (by omega)]
    exact cellsVr_get xs i hi
theorem VrRow.push {ops : Array Oper} {rest : List Oper} {o : Oper} {a : Act} {Q : Exit → Act → World → Prop} {B : Nat} {w : World} {v : Value} {xs : List Vr}
    (hown : VrRow B w v xs) (hgd : o.guard = none) (s x : Operand)
    (ho : o.op = .call { callee := .builtin .append, args := #[s, x], argTypes := #[24, 24] })
    (hs : a.eval s = v) (y : Vr) (H : Nat) (hH : w.heap.size = H) (hx : a.eval x = .slice (some ⟨H, 0, none⟩) 1 1)
    (hlen : xs.length < 2000000) (hB : B ≤ w.heap.size)
    (h : ∀ q cap w', VrRow B w' (.slice (some ⟨q, 0, none⟩) (xs.length + 1) cap) (xs ++ [y]) → w.heap.size ≤ w'.heap.size → Below B w w' →
      wpList Try.prog ops Q rest (a.put o.dst (.slice (some ⟨q, 0, none⟩) (xs.length + 1) cap)) w') :
    wpList Try.prog ops Q (o :: rest) a (w.alloc (.cells #[.string y.name, .string y.val] 35)) := by
  subst hH
  obtain ⟨i0, hi, hz0, hz1, hz2⟩ := info_parts Try.infoVr
  refine wpList_append_lies _ hgd s x 24 ho B 35 i0 (.agg #[.string ByteArray.empty, .string ByteArray.empty]) 2 32 Try.underlying24 hi hz0 hz1 hz2 rfl (by decide) v xs.length (cellsVr xs) hs (World.ownsRow.alloc hown _) ⟨w.heap.size, 0, none⟩ 1 1 [.string y.name, .string y.val] hx rfl
    (World.news_of_block (cs := #[.string y.name, .string y.val]) (t := 35) (fr := (0, 0)) (heap_alloc_new w _)) ?_ (by omega) ?_ ?_ ?_ (w.heap.size + 1) (by simp) ?_
  · intro u hu
    simp at hu
    rcases hu with rfl | rfl <;> rfl
  · unfold maxLen; omega
  · omega
  · simp; omega
  · intro g cap w' h2 h3 h4 h5
    have hb0 : Below w.heap.size w (w.alloc (.cells #[.string y.name, .string y.val] 35)) := (Below.refl _ w).alloc (Nat.le_refl _) _
    have hs3 := h3.size
    simp at hs3
    have hb3 : Below B w w' := (hb0.mono hB).grown h3 (by simp; omega) (fun k hk => (World.ownsRow.lt hown k hk).1)
    refine h g cap w' ?_ (by omega) hb3
    unfold VrRow cellsVr
    rw [List.flatMap_append, List.length_append]
    exact h2



def cellsCl (xs : List Cl) : List Value := xs.flatMap fun x => [.string x.name, .string x.key, .string x.val]
/-- The row of the records xs, in memory of its own from block B on. -/
def ClRow (B : Nat) (w : World) (v : Value) (xs : List Cl) : Prop := w.ownsRow B 41 3 v xs.length (cellsCl xs)
theorem cellsCl_get (xs : List Cl) (i : Nat) (hi : i < xs.length) : (cellsCl xs)[i * 3]? = some (.string (xs.getD i Cl.no).name) ∧ (cellsCl xs)[i * 3 + 1]? = some (.string (xs.getD i Cl.no).key) ∧ (cellsCl xs)[i * 3 + 2]? = some (.string (xs.getD i Cl.no).val) := by
  induction xs generalizing i with
  | nil => simp at hi
  | cons x xs ih =>
    cases i with
    | zero => exact ⟨rfl, rfl, rfl⟩
    | succ i =>
      have := ih i (by simpa using hi)
      rw [show (i + 1) * 3 = i * 3 + 1 + 1 + 1 by omega]
      exact this
theorem ClRow.in {B : Nat} {w : World} {v : Value} {xs : List Cl} (h : ClRow B w v xs) : ClIn B w.heap.size w v xs := by
  have h' := h
  rcases h'.2 with ⟨rfl, hn⟩ | ⟨g, cap, cur, rfl, h1, hg, hc1, hc2, hc3, hc4⟩
  · exact ⟨none, 0, by rw [hn], fun h0 => by omega⟩
  · refine ⟨_, cap, rfl, fun _ => ⟨g, cur, rfl, h1, blk_lt hg, hg, fun i hi => ?_⟩⟩
    have e : ∀ j, j < xs.length * 3 → cur[j]? = (cellsCl xs)[j]? := by
      intro j hj
      rw [← hc4, List.getElem?_take, if_pos hj, Array.getElem?_toList]
    rw [e (i * 3) (by omega), e (i * 3 + 1) (by omega), e (i * 3 + 2) (by omega)]
    exact cellsCl_get xs i hi
theorem ClRow.push {ops : Array Oper} {rest : List Oper} {o : Oper} {a : Act} {Q : Exit → Act → World → Prop} {B : Nat} {w : World} {v : Value} {xs : List Cl}
    (hown : ClRow B w v xs) (hgd : o.guard = none) (s x : Operand)
    (ho : o.op = .call { callee := .builtin .append, args := #[s, x], argTypes := #[25, 25] })
    (hs : a.eval s = v) (y : Cl) (H : Nat) (hH : w.heap.size = H) (hx : a.eval x = .slice (some ⟨H, 0, none⟩) 1 1)
    (hlen : xs.length < 2000000) (hB : B ≤ w.heap.size)
    (h : ∀ q cap w', ClRow B w' (.slice (some ⟨q, 0, none⟩) (xs.length + 1) cap) (xs ++ [y]) → w.heap.size ≤ w'.heap.size → Below B w w' →
      wpList Try.prog ops Q rest (a.put o.dst (.slice (some ⟨q, 0, none⟩) (xs.length + 1) cap)) w') :
    wpList Try.prog ops Q (o :: rest) a (w.alloc (.cells #[.string y.name, .string y.key, .string y.val] 41)) := by
  subst hH
  obtain ⟨i0, hi, hz0, hz1, hz2⟩ := info_parts Try.infoCl
  refine wpList_append_lies _ hgd s x 25 ho B 41 i0 (.agg #[.string ByteArray.empty, .string ByteArray.empty, .string ByteArray.empty]) 3 48 Try.underlying25 hi hz0 hz1 hz2 rfl (by decide) v xs.length (cellsCl xs) hs (World.ownsRow.alloc hown _) ⟨w.heap.size, 0, none⟩ 1 1 [.string y.name, .string y.key, .string y.val] hx rfl
    (World.news_of_block (cs := #[.string y.name, .string y.key, .string y.val]) (t := 41) (fr := (0, 0)) (heap_alloc_new w _)) ?_ (by omega) ?_ ?_ ?_ (w.heap.size + 1) (by simp) ?_
  · intro u hu
    simp at hu
    rcases hu with rfl | rfl | rfl <;> rfl
  · unfold maxLen; omega
  · omega
  · simp; omega
  · intro g cap w' h2 h3 h4 h5
    have hb0 : Below w.heap.size w (w.alloc (.cells #[.string y.name, .string y.key, .string y.val] 41)) := (Below.refl _ w).alloc (Nat.le_refl _) _
    have hs3 := h3.size
    simp at hs3
    have hb3 : Below B w w' := (hb0.mono hB).grown h3 (by simp; omega) (fun k hk => (World.ownsRow.lt hown k hk).1)
    refine h g cap w' ?_ (by omega) hb3
    unfold ClRow cellsCl
    rw [List.flatMap_append, List.length_append]
    exact h2


end PartRwC
end Go.Proofs.Ytohhhhkhkgmanaa
