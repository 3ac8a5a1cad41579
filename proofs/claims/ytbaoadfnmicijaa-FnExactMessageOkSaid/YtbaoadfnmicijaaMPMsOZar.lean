/- Rows of Vars and of Cells that grow; the program's copies of them. What is said: the program's copies of a store, with more said. The specification's copy of a store. -/
import Derived.Test.YtbaoadfnmicijaaMPMsORwA
import Derived.Test.YtbaoadfnmicijaaMPMsOZal
import Derived.Deep.AppendLies
import Derived.Deep.Upon
import Derived.Deep.AppendSrc
namespace Go.Proofs.Ytbaoadfnmicijaa
section PartRwC
open Go.RowKit

def cellsVr (xs : List Vr) : List Value := xs.flatMap fun x => [.string x.name, .string x.val]
/-- The row of the records xs, in memory of its own from block B on. -/
def VrRow (B : Nat) (w : World) (v : Value) (xs : List Vr) : Prop := w.ownsRow B 53 2 v xs.length (cellsVr xs)
theorem cellsVr_get (xs : List Vr) (i : Nat) (hi : i < xs.length) : (cellsVr xs)[i * 2]? = some (.string (xs.getD i Vr.no).name) ∧ (cellsVr xs)[i * 2 + 1]? = some (.string (xs.getD i Vr.no).val) := by
  induction xs generalizing i with
  | nil => simp at hi
  | cons x xs ih =>
    cases i with
    | zero => exact ⟨rfl, rfl⟩
    | succ i =>
      have := ih i (by simpa using hi)
      rw [show (i + 1) * 2 = i * 2 + 1 + 1 by omega]
      exact this
theorem VrRow.in {B : Nat} {w : World} {v : Value} {xs : List Vr} (h : VrRow B w v xs) : VrIn B w.heap.size w v xs := by
  have h' := h
  rcases h'.2 with ⟨rfl, hn⟩ | ⟨g, cap, cur, rfl, h1, hg, hc1, hc2, hc3, hc4⟩
  · exact ⟨none, 0, by rw [hn], fun h0 => by omega⟩
  · refine ⟨_, cap, rfl, fun _ => ⟨g, cur, rfl, h1, blk_lt hg, hg, fun i hi => ?_⟩⟩
    have e : ∀ j, j < xs.length * 2 → cur[j]? = (cellsVr xs)[j]? := by
      intro j hj
      rw [← hc4, List.getElem?_take, if_pos hj, Array.getElem?_toList]
    rw [e (i * 2) (by omega), e (i * 2 + 1) (by omega)]
    exact cellsVr_get xs i hi
theorem VrRow.push {ops : Array Oper} {rest : List Oper} {o : Oper} {a : Act} {Q : Exit → Act → World → Prop} {B : Nat} {w : World} {v : Value} {xs : List Vr}
    (hown : VrRow B w v xs) (hgd : o.guard = none) (s x : Operand)
    (ho : o.op = .call { callee := .builtin .append, args := #[s, x], argTypes := #[29, 29] })
    (hs : a.eval s = v) (y : Vr) (H : Nat) (hH : w.heap.size = H) (hx : a.eval x = .slice (some ⟨H, 0, none⟩) 1 1)
    (hlen : xs.length < 2000000) (hB : B ≤ w.heap.size)
    (h : ∀ q cap w', VrRow B w' (.slice (some ⟨q, 0, none⟩) (xs.length + 1) cap) (xs ++ [y]) → w.heap.size ≤ w'.heap.size → Below B w w' →
      wpList Try.prog ops Q rest (a.put o.dst (.slice (some ⟨q, 0, none⟩) (xs.length + 1) cap)) w') :
    wpList Try.prog ops Q (o :: rest) a (w.alloc (.cells #[.string y.name, .string y.val] 53)) := by
  subst hH
  obtain ⟨i0, hi, hz0, hz1, hz2⟩ := info_parts Try.infoVr
  refine wpList_append_lies _ hgd s x 29 ho B 53 i0 (.agg #[.string ByteArray.empty, .string ByteArray.empty]) 2 32 Try.underlying29 hi hz0 hz1 hz2 rfl (by decide) v xs.length (cellsVr xs) hs (World.ownsRow.alloc hown _) ⟨w.heap.size, 0, none⟩ 1 1 [.string y.name, .string y.val] hx rfl
    (World.news_of_block (cs := #[.string y.name, .string y.val]) (t := 53) (fr := (0, 0)) (heap_alloc_new w _)) ?_ (by omega) ?_ ?_ ?_ (w.heap.size + 1) (by simp) ?_
  · intro u hu
    simp at hu
    rcases hu with rfl | rfl <;> rfl
  · unfold maxLen; omega
  · omega
  · simp; omega
  · intro g cap w' h2 h3 h4 h5
    have hb0 : Below w.heap.size w (w.alloc (.cells #[.string y.name, .string y.val] 53)) := (Below.refl _ w).alloc (Nat.le_refl _) _
    have hs3 := h3.size
    simp at hs3
    have hb3 : Below B w w' := (hb0.mono hB).grown h3 (by simp; omega) (fun k hk => (World.ownsRow.lt hown k hk).1)
    refine h g cap w' ?_ (by omega) hb3
    unfold VrRow cellsVr
    rw [List.flatMap_append, List.length_append]
    exact h2



def cellsCl (xs : List Cl) : List Value := xs.flatMap fun x => [.string x.name, .string x.key, .string x.val]
/-- The row of the records xs, in memory of its own from block B on. -/
def ClRow (B : Nat) (w : World) (v : Value) (xs : List Cl) : Prop := w.ownsRow B 55 3 v xs.length (cellsCl xs)
theorem cellsCl_get (xs : List Cl) (i : Nat) (hi : i < xs.length) : (cellsCl xs)[i * 3]? = some (.string (xs.getD i Cl.no).name) ∧ (cellsCl xs)[i * 3 + 1]? = some (.string (xs.getD i Cl.no).key) ∧ (cellsCl xs)[i * 3 + 2]? = some (.string (xs.getD i Cl.no).val) := by
  induction xs generalizing i with
  | nil => simp at hi
  | cons x xs ih =>
    cases i with
    | zero => exact ⟨rfl, rfl, rfl⟩
    | succ i =>
      have := ih i (by simpa using hi)
      rw [show (i + 1) * 3 = i * 3 + 1 + 1 + 1 by omega]
      exact this
theorem ClRow.in {B : Nat} {w : World} {v : Value} {xs : List Cl} (h : ClRow B w v xs) : ClIn B w.heap.size w v xs := by
  have h' := h
  rcases h'.2 with ⟨rfl, hn⟩ | ⟨g, cap, cur, rfl, h1, hg, hc1, hc2, hc3, hc4⟩
  · exact ⟨none, 0, by rw [hn], fun h0 => by omega⟩
  · refine ⟨_, cap, rfl, fun _ => ⟨g, cur, rfl, h1, blk_lt hg, hg, fun i hi => ?_⟩⟩
    have e : ∀ j, j < xs.length * 3 → cur[j]? = (cellsCl xs)[j]? := by
      intro j hj
      rw [← hc4, List.getElem?_take, if_pos hj, Array.getElem?_toList]
    rw [e (i * 3) (by omega), e (i * 3 + 1) (by omega), e (i * 3 + 2) (by omega)]
    exact cellsCl_get xs i hi
theorem ClRow.push {ops : Array Oper} {rest : List Oper} {o : Oper} {a : Act} {Q : Exit → Act → World → Prop} {B : Nat} {w : World} {v : Value} {xs : List Cl}
    (hown : ClRow B w v xs) (hgd : o.guard = none) (s x : Operand)
    (ho : o.op = .call { callee := .builtin .append, args := #[s, x], argTypes := #[30, 30] })
    (hs : a.eval s = v) (y : Cl) (H : Nat) (hH : w.heap.size = H) (hx : a.eval x = .slice (some ⟨H, 0, none⟩) 1 1)
    (hlen : xs.length < 2000000) (hB : B ≤ w.heap.size)
    (h : ∀ q cap w', ClRow B w' (.slice (some ⟨q, 0, none⟩) (xs.length + 1) cap) (xs ++ [y]) → w.heap.size ≤ w'.heap.size → Below B w w' →
      wpList Try.prog ops Q rest (a.put o.dst (.slice (some ⟨q, 0, none⟩) (xs.length + 1) cap)) w') :
    wpList Try.prog ops Q (o :: rest) a (w.alloc (.cells #[.string y.name, .string y.key, .string y.val] 55)) := by
  subst hH
  obtain ⟨i0, hi, hz0, hz1, hz2⟩ := info_parts Try.infoCl
  refine wpList_append_lies _ hgd s x 30 ho B 55 i0 (.agg #[.string ByteArray.empty, .string ByteArray.empty, .string ByteArray.empty]) 3 48 Try.underlying30 hi hz0 hz1 hz2 rfl (by decide) v xs.length (cellsCl xs) hs (World.ownsRow.alloc hown _) ⟨w.heap.size, 0, none⟩ 1 1 [.string y.name, .string y.key, .string y.val] hx rfl
    (World.news_of_block (cs := #[.string y.name, .string y.key, .string y.val]) (t := 55) (fr := (0, 0)) (heap_alloc_new w _)) ?_ (by omega) ?_ ?_ ?_ (w.heap.size + 1) (by simp) ?_
  · intro u hu
    simp at hu
    rcases hu with rfl | rfl | rfl <;> rfl
  · unfold maxLen; omega
  · omega
  · simp; omega
  · intro g cap w' h2 h3 h4 h5
    have hb0 : Below w.heap.size w (w.alloc (.cells #[.string y.name, .string y.key, .string y.val] 55)) := (Below.refl _ w).alloc (Nat.le_refl _) _
    have hs3 := h3.size
    simp at hs3
    have hb3 : Below B w w' := (hb0.mono hB).grown h3 (by simp; omega) (fun k hk => (World.ownsRow.lt hown k hk).1)
    refine h g cap w' ?_ (by omega) hb3
    unfold ClRow cellsCl
    rw [List.flatMap_append, List.length_append]
    exact h2


end PartRwC
section PartRwD
open Go.RowKit

/-- A store in memory of its own: its Vars from lo to mid, its Cells from mid to hi. -/
def StIn (lo hi : Nat) (w : World) (u x : Value) (vs : List Vr) (cs : List Cl) : Prop := ∃ mid, lo ≤ mid ∧ mid ≤ hi ∧ VrIn lo mid w u vs ∧ ClIn mid hi w x cs

theorem StIn.keep {lo hi : Nat} {w w' : World} {u x : Value} {vs : List Vr} {cs : List Cl} (h : StIn lo hi w u x vs cs) (hk : ∀ b, lo ≤ b → b < hi → w'.heap[b]? = w.heap[b]?) : StIn lo hi w' u x vs cs := by
  obtain ⟨mid, h1, h2, h3, h4⟩ := h
  exact ⟨mid, h1, h2, h3.keep (fun b e1 e2 => hk b e1 (by omega)), h4.keep (fun b e1 e2 => hk b (by omega) e2)⟩
end PartRwD
section PartRwE
open Go.RowKit

end PartRwE
end Go.Proofs.Ytbaoadfnmicijaa
