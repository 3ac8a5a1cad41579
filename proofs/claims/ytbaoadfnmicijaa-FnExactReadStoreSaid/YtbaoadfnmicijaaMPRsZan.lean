/- Rows of Vars and of Cells that grow; the program's copies of them. What is said: the program's copies of a store, with more said. The specification's copy of a store. What is read of the bytes of a store: what both walks hold. -/
import Derived.Test.YtbaoadfnmicijaaMPRsRwA
import Derived.Test.YtbaoadfnmicijaaMPRsZah
import Derived.Deep.AppendLies
import Derived.Deep.Upon
import Derived.Deep.AppendSrc
import Derived.Test.YtbaoadfnmicijaaMPRsRvP
import Derived.Test.YtbaoadfnmicijaaMPRsZam
namespace Go.Proofs.Ytbaoadfnmicijaa
section PartRwC
open Go.RowKit

def cellsVr (xs : List Vr) : List Value := xs.flatMap fun x => [.string x.name, .string x.val]
/-- The row of the records xs, in memory of its own from block B on. -/
def VrRow (B : Nat) (w : World) (v : Value) (xs : List Vr) : Prop := w.ownsRow B 53 2 v xs.length (cellsVr xs)
theorem cellsVr_get (xs : List Vr) (i : Nat) (hi : i < xs.length) : (cellsVr xs)[i * 2]? = some (.string (xs.getD i Vr.no).name) ∧ (cellsVr xs)[i * 2 + 1]? = some (.string (xs.getD i Vr.no).val) := by
  induction xs generalizing i with
  | nil => simp at hi
  | cons x xs ih =>
    cases i with
    | zero => exact ⟨rfl, rfl⟩
    | succ i =>
      have := ih i (by simpa using hi)
      rw [show (i + 1) * 2 = i * 2 + 1 + 1 by omega]
      exact this
theorem VrRow.in {B : Nat} {w : World} {v : Value} {xs : List Vr} (h : VrRow B w v xs) : VrIn B w.heap.size w v xs := by
  have h' := h
  rcases h'.2 with ⟨rfl, hn⟩ | ⟨g, cap, cur, rfl, h1, hg, hc1, hc2, hc3, hc4⟩
  · exact ⟨none, 0, by rw [hn], fun h0 => by omega⟩
  · refine ⟨_, cap, rfl, fun _ => ⟨g, cur, rfl, h1, blk_lt hg, hg, fun i hi => ?_⟩⟩
    have e : ∀ j, j < xs.length * 2 → cur[j]? = (cellsVr xs)[j]? := by
      intro j hj
      rw [← hc4, List.getElem?_take, if_pos hj, Array.getElem?_toList]
    rw [e (i * 2) (by omega), e (i * 2 + 1) (by omega)]
    exact cellsVr_get xs i hi
theorem VrRow.push {ops : Array Oper} {rest : List Oper} {o : Oper} {a : Act} {Q : Exit → Act → World → Prop} {B : Nat} {w : World} {v : Value} {xs : List Vr}
    (hown : VrRow B w v xs) (hgd : o.guard = none) (s x : Operand)
    (ho : o.op = .call { callee := .builtin .append, args := #[s, x], argTypes := #[29, 29] })
    (hs : a.eval s = v) (y : Vr) (H : Nat) (hH : w.heap.size = H) (hx : a.eval x = .slice (some ⟨H, 0, none⟩) 1 1)
    (hlen : xs.length < 2000000) (hB : B ≤ w.heap.size)
    (h : ∀ q cap w', VrRow B w' (.slice (some ⟨q, 0, none⟩) (xs.length + 1) cap) (xs ++ [y]) → w.heap.size ≤ w'.heap.size → Below B w w' →
      wpList Try.prog ops Q rest (a.put o.dst (.slice (some ⟨q, 0, none⟩) (xs.length + 1) cap)) w') :
    wpList Try.prog ops Q (o :: rest) a (w.alloc (.cells #[.string y.name, .string y.val] 53)) := by
  subst hH
  obtain ⟨i0, hi, hz0, hz1, hz2⟩ := info_parts Try.infoVr
  refine wpList_append_lies _ hgd s x 29 ho B 53 i0 (.agg #[.string ByteArray.empty, .string ByteArray.empty]) 2 32 Try.underlying29 hi hz0 hz1 hz2 rfl (by decide) v xs.length (cellsVr xs) hs (World.ownsRow.alloc hown _) ⟨w.heap.size, 0, none⟩ 1 1 [.string y.name, .string y.val] hx rfl
    (World.news_of_block (cs := #[.string y.name, .string y.val]) (t := 53) (fr := (0, 0)) (heap_alloc_new w _)) ?_ (by omega) ?_ ?_ ?_ (w.heap.size + 1) (by simp) ?_
  · intro u hu
    simp at hu
    rcases hu with rfl | rfl <;> rfl
  · unfold maxLen; omega
  · omega
  · simp; omega
  · intro g cap w' h2 h3 h4 h5
    have hb0 : Below w.heap.size w (w.alloc (.cells #[.string y.name, .string y.val] 53)) := (Below.refl _ w).alloc (Nat.le_refl _) _
    have hs3 := h3.size
    simp at hs3
    have hb3 : Below B w w' := (hb0.mono hB).grown h3 (by simp; omega) (fun k hk => (World.ownsRow.lt hown k hk).1)
    refine h g cap w' ?_ (by omega) hb3
    unfold VrRow cellsVr
    rw [List.flatMap_append, List.length_append]
    exact h2



def cellsCl (xs : List Cl) : List Value := xs.flatMap fun x => [.string x.name, .string x.key, .string x.val]
/-- The row of the records xs, in memory of its own from block B on. -/
def ClRow (B : Nat) (w : World) (v : Value) (xs : List Cl) : Prop := w.ownsRow B 55 3 v xs.length (cellsCl xs)
theorem cellsCl_get (xs : List Cl) (i : Nat) (hi : i < xs.length) : (cellsCl xs)[i * 3]? = some (.string (xs.getD i Cl.no).name) ∧ (cellsCl xs)[i * 3 + 1]? = some (.string (xs.getD i Cl.no).key) ∧ (cellsCl xs)[i * 3 + 2]? = some (.string (xs.getD i Cl.no).val) := by
  induction xs generalizing i with
  | nil => simp at hi
  | cons x xs ih =>
    cases i with
    | zero => exact ⟨rfl, rfl, rfl⟩
    | succ i =>
      have := ih i (by simpa using hi)
      rw [show (i + 1) * 3 = i * 3 + 1 + 1 + 1 by omega]
      exact this
theorem ClRow.in {B : Nat} {w : World} {v : Value} {xs : List Cl} (h : ClRow B w v xs) : ClIn B w.heap.size w v xs := by
  have h' := h
  rcases h'.2 with ⟨rfl, hn⟩ | ⟨g, cap, cur, rfl, h1, hg, hc1, hc2, hc3, hc4⟩
  · exact ⟨none, 0, by rw [hn], fun h0 => by omega⟩
  · refine ⟨_, cap, rfl, fun _ => ⟨g, cur, rfl, h1, blk_lt hg, hg, fun i hi => ?_⟩⟩
    have e : ∀ j, j < xs.length * 3 → cur[j]? = (cellsCl xs)[j]? := by
      intro j hj
      rw [← hc4, List.getElem?_take, if_pos hj, Array.getElem?_toList]
    rw [e (i * 3) (by omega), e (i * 3 + 1) (by omega), e (i * 3 + 2) (by omega)]
    exact cellsCl_get xs i hi
theorem ClRow.push {ops : Array Oper} {rest : List Oper} {o : Oper} {a : Act} {Q : Exit → Act → World → Prop} {B : Nat} {w : World} {v : Value} {xs : List Cl}
    (hown : ClRow B w v xs) (hgd : o.guard = none) (s x : Operand)
    (ho : o.op = .call { callee := .builtin .append, args := #[s, x], argTypes := #[30, 30] })
    (hs : a.eval s = v) (y : Cl) (H : Nat) (hH : w.heap.size = H) (hx : a.eval x = .slice (some ⟨H, 0, none⟩) 1 1)
    (hlen : xs.length < 2000000) (hB : B ≤ w.heap.size)
    (h : ∀ q cap w', ClRow B w' (.slice (some ⟨q, 0, none⟩) (xs.length + 1) cap) (xs ++ [y]) → w.heap.size ≤ w'.heap.size → Below B w w' →
      wpList Try.prog ops Q rest (a.put o.dst (.slice (some ⟨q, 0, none⟩) (xs.length + 1) cap)) w') :
    wpList Try.prog ops Q (o :: rest) a (w.alloc (.cells #[.string y.name, .string y.key, .string y.val] 55)) := by
  subst hH
  obtain ⟨i0, hi, hz0, hz1, hz2⟩ := info_parts Try.infoCl
  refine wpList_append_lies _ hgd s x 30 ho B 55 i0 (.agg #[.string ByteArray.empty, .string ByteArray.empty, .string ByteArray.empty]) 3 48 Try.underlying30 hi hz0 hz1 hz2 rfl (by decide) v xs.length (cellsCl xs) hs (World.ownsRow.alloc hown _) ⟨w.heap.size, 0, none⟩ 1 1 [.string y.name, .string y.key, .string y.val] hx rfl
    (World.news_of_block (cs := #[.string y.name, .string y.key, .string y.val]) (t := 55) (fr := (0, 0)) (heap_alloc_new w _)) ?_ (by omega) ?_ ?_ ?_ (w.heap.size + 1) (by simp) ?_
  · intro u hu
    simp at hu
    rcases hu with rfl | rfl | rfl <;> rfl
  · unfold maxLen; omega
  · omega
  · simp; omega
  · intro g cap w' h2 h3 h4 h5
    have hb0 : Below w.heap.size w (w.alloc (.cells #[.string y.name, .string y.key, .string y.val] 55)) := (Below.refl _ w).alloc (Nat.le_refl _) _
    have hs3 := h3.size
    simp at hs3
    have hb3 : Below B w w' := (hb0.mono hB).grown h3 (by simp; omega) (fun k hk => (World.ownsRow.lt hown k hk).1)
    refine h g cap w' ?_ (by omega) hb3
    unfold ClRow cellsCl
    rw [List.flatMap_append, List.length_append]
    exact h2


end PartRwC
section PartRwD
open Go.RowKit

/-- A store in memory of its own: its Vars from lo to mid, its Cells from mid to hi. -/
def StIn (lo hi : Nat) (w : World) (u x : Value) (vs : List Vr) (cs : List Cl) : Prop := ∃ mid, lo ≤ mid ∧ mid ≤ hi ∧ VrIn lo mid w u vs ∧ ClIn mid hi w x cs

theorem StIn.keep {lo hi : Nat} {w w' : World} {u x : Value} {vs : List Vr} {cs : List Cl} (h : StIn lo hi w u x vs cs) (hk : ∀ b, lo ≤ b → b < hi → w'.heap[b]? = w.heap[b]?) : StIn lo hi w' u x vs cs := by
  obtain ⟨mid, h1, h2, h3, h4⟩ := h
  exact ⟨mid, h1, h2, h3.keep (fun b e1 e2 => hk b e1 (by omega)), h4.keep (fun b e1 e2 => hk b (by omega) e2)⟩
theorem StIn.wide {lo hi lo' hi' : Nat} {w : World} {u x : Value} {vs : List Vr} {cs : List Cl} (h : StIn lo hi w u x vs cs) (h1 : lo' ≤ lo) (h2 : hi ≤ hi') : StIn lo' hi' w u x vs cs := by
  obtain ⟨mid, e1, e2, h3, h4⟩ := h
  exact ⟨mid, by omega, by omega, h3.wide h1 (Nat.le_refl _), h4.wide (Nat.le_refl _) h2⟩

end PartRwD
section PartRwE
open Go.RowKit

end PartRwE
section PartRvA
open Go.RowKit

/-- What a walk of ReadStore holds, w where it began: the answer's cell, the reader, the store. -/
structure SW (T : TypeId) (w W : World) (s : ByteArray) (a : Nat) (bad : Bool) (u x : Value) (o : ByteArray) : Prop where
  res : W.heap[w.heap.size]? = some (.cells #[.slice none 0 0, .slice none 0 0, .string ⟨#[]⟩] 32 (0, 0))
  rd : W.heap[w.heap.size + 1]? = some (.cells #[.string s, .int .i64 (a : Int), .bool bad] T (0, 0))
  co : W.heap[w.heap.size + 2]? = some (.cells #[u, x, .string o] 32 (0, 0))
  env : Below w.heap.size w W
section
variable {T : TypeId} {w W W' : World} {s : ByteArray} {a a' : Nat} {bad bad' : Bool} {u x u' x' : Value} {o o' : ByteArray}
theorem SW.size (h : SW T w W s a bad u x o) : w.heap.size + 3 ≤ W.heap.size := by
  have := blk_lt h.co
  omega
theorem SW.start (T : TypeId) (w : World) (s : ByteArray) : SW T w (((w.alloc (.cells #[.slice none 0 0, .slice none 0 0, .string ⟨#[]⟩] 32)).alloc (.cells #[.string s, .int .i64 0, .bool false] T)).alloc (.cells #[.slice none 0 0, .slice none 0 0, .string ⟨#[]⟩] 32)) s 0 false (.slice none 0 0) (.slice none 0 0) ⟨#[]⟩ :=
  ⟨r3_0 _ _ _ _, alloc3_1 _ _ _ _, r3_2 _ _ _ _, (((Below.refl _ _).alloc (Nat.le_refl _) _).alloc (by simp) _).alloc (by simp; omega) _⟩
/-- The reader went on. -/
theorem SW.call (h : SW T w W s a bad u x o) (hg : W.grownBy W' (some (w.heap.size + 1)))
    (h2 : W'.heap[w.heap.size + 1]? = some (.cells #[.string s, .int .i64 (a' : Int), .bool bad'] T (0, 0))) : SW T w W' s a' bad' u x o := by
  have hs := h.size
  refine ⟨(hg.block _ (by omega) (by simp)).trans h.res, h2, (hg.block _ (by omega) (by simp)).trans h.co, h.env.grown hg (by omega) (fun k hk => by simp at hk; omega)⟩
/-- A row of the call's own grew. -/
theorem SW.grow {r : Option Nat} (h : SW T w W s a bad u x o) (hg : W.grownBy W' r) (hr : ∀ k, r = some k → w.heap.size + 3 ≤ k) : SW T w W' s a bad u x o := by
  have hs := h.size
  have hb : ∀ k, k < w.heap.size + 3 → W'.heap[k]? = W.heap[k]? := fun k hk => hg.block k (by omega) (fun e => by have := hr k e.symm; omega)
  exact ⟨(hb _ (by omega)).trans h.res, (hb _ (by omega)).trans h.rd, (hb _ (by omega)).trans h.co, h.env.grown hg (by omega) (fun k hk => by have := hr k hk; omega)⟩
theorem SW.alloc (h : SW T w W s a bad u x o) (ob : Obj) : SW T w (W.alloc ob) s a bad u x o :=
  h.grow (World.grownBy_alloc W ob none) (fun k hk => by cases hk)
theorem SW.drew (h : SW T w W s a bad u x o) : SW T w W.drew s a bad u x o := ⟨h.res, h.rd, h.co, h.env.drew⟩
/-- A cell of a box of the call's own, behind these three, is set. -/
theorem SW.far (h : SW T w W s a bad u x o) (g j : Nat) (v : Value) (hg : w.heap.size + 3 ≤ g) : SW T w (W.setCell ⟨g, j, none⟩ v) s a bad u x o := by
  have e : ∀ k, k < w.heap.size + 3 → (W.setCell ⟨g, j, none⟩ v).heap[k]? = W.heap[k]? := fun k hk => Below.heap_setCell _ _ _ _ (by show k ≠ g; omega)
  exact ⟨(e _ (by omega)).trans h.res, (e _ (by omega)).trans h.rd, (e _ (by omega)).trans h.co, h.env.setCell (by show w.heap.size ≤ g; omega) _⟩
/-- A field of the store is set. -/
theorem SW.setC (h : SW T w W s a bad u x o) (j : Nat) (v : Value) (hu : (#[u, x, .string o] : Array Value).setIfInBounds j v = #[u', x', .string o']) : SW T w (W.setCell ⟨w.heap.size + 2, j, none⟩ v) s a bad u' x' o' := by
  have hs := h.size
  refine ⟨(Below.heap_setCell _ _ _ _ (by show w.heap.size ≠ w.heap.size + 2; omega)).trans h.res, (Below.heap_setCell _ _ _ _ (by show w.heap.size + 1 ≠ w.heap.size + 2; omega)).trans h.rd, ?_, h.env.setCell (by show w.heap.size ≤ w.heap.size + 2; omega) _⟩
  have := blk_set h.co j v
  rw [hu] at this
  exact this
end
end PartRvA
end Go.Proofs.Ytbaoadfnmicijaa
