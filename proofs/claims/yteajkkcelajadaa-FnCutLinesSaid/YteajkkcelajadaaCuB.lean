/- Rows of rows of texts in memory of a call's own, that grow; two of the same. -/
import Derived.Test.YteajkkcelajadaaTxA
namespace Go.Proofs.Yteajkkcelajadaa
open Go.RowKit

def noV : Value := .slice none 0 0
/-- The row v of the rows vs, each of the texts of ps, all in memory of their own from block B on, apart from each other. -/
structure PsRow (B : Nat) (w : World) (v : Value) (ps : List (List ByteArray)) (vs : List Value) : Prop where
  row : w.ownsRow B 24 1 v vs.length vs
  len : vs.length = ps.length
  each : ∀ i, i < ps.length → TxRow B w (vs.getD i noV) (ps.getD i [])
  apart : ∀ i j, i < j → j < ps.length → ∀ q, (vs.getD i noV).ownBlock = some q → (vs.getD j noV).ownBlock ≠ some q
  own : ∀ i, i < ps.length → ∀ q, (vs.getD i noV).ownBlock = some q → v.ownBlock ≠ some q
theorem PsRow.nil (B : Nat) (w : World) : PsRow B w (.slice none 0 0) [] [] :=
  ⟨World.ownsRow_nil _ _ _ _, rfl, fun i hi => by simp at hi, fun i j _ hj => by simp at hj, fun i hi => by simp at hi⟩
theorem PsRow.none (B : Nat) (w : World) (hB : B ≤ w.heap.size) : PsRow B (w.alloc (.cells #[] 24)) (.slice (some ⟨w.heap.size, 0, Option.none⟩) 0 0) [] [] :=
  ⟨⟨rfl, .inr ⟨w.heap.size, 0, #[], rfl, hB, heap_alloc_new w _, Nat.le_refl _, by decide, rfl, rfl⟩⟩, rfl, fun i hi => by simp at hi, fun i j _ hj => by simp at hj, fun i hi => by simp at hi⟩
theorem PsRow.keepIf {B : Nat} {w w' : World} {v : Value} {ps : List (List ByteArray)} {vs : List Value} (h : PsRow B w v ps vs) (hk : ∀ q, B ≤ q → q < w.heap.size → w'.heap[q]? = w.heap[q]?) : PsRow B w' v ps vs :=
  ⟨ownKeep h.row (fun q hq => hk q (World.ownsRow.lt h.row q hq).1 (World.ownsRow.lt h.row q hq).2), h.len,
   fun i hi => ownKeep (h.each i hi) (fun q hq => hk q (World.ownsRow.lt (h.each i hi) q hq).1 (World.ownsRow.lt (h.each i hi) q hq).2), h.apart, h.own⟩
theorem PsRow.keep {B : Nat} {w w' : World} {v : Value} {ps : List (List ByteArray)} {vs : List Value} (h : PsRow B w v ps vs) (hb : Below w.heap.size w w') : PsRow B w' v ps vs :=
  h.keepIf (fun q _ hq => hb.block q hq)
theorem PsRow.form {B : Nat} {w : World} {v : Value} {ps : List (List ByteArray)} {vs : List Value} (h : PsRow B w v ps vs) : ∃ ad c, v = .slice ad ps.length c := by
  rcases h.row.2 with ⟨rfl, hn⟩ | ⟨g, cap, cur, rfl, _⟩
  · exact ⟨Option.none, 0, by rw [← h.len, hn]⟩
  · exact ⟨_, cap, by rw [← h.len]⟩

theorem Try.infoSs : (Try.prog.info? 24).map (fun i => (i.zero, i.size, i.bytes)) = some (some (.slice none 0 0), 1, 24) := by kernel_rfl

theorem getD_app_lt {α : Type} (l : List α) (x d : α) (i : Nat) (h : i < l.length) : (l ++ [x]).getD i d = l.getD i d := by
  simp [List.getD_eq_getElem?_getD, List.getElem?_append_left h]
theorem getD_app_eq {α : Type} (l : List α) (x d : α) (i : Nat) (h : i = l.length) : (l ++ [x]).getD i d = x := by
  subst h
  simp [List.getD_eq_getElem?_getD]

/-- One row more. -/
theorem PsRow.push {ops : Array Oper} {rest : List Oper} {o : Oper} {a : Act} {Q : Exit → Act → World → Prop} {B : Nat} {w : World} {v : Value} {ps : List (List ByteArray)} {vs : List Value}
    (hown : PsRow B w v ps vs) (hgd : o.guard = Option.none) (s x : Operand)
    (ho : o.op = .call { callee := .builtin .append, args := #[s, x], argTypes := #[27, 27] })
    (hs : a.eval s = v) (ua : Option Addr) (un uc : Nat) (t : List ByteArray) (ht : TxRow B w (.slice ua un uc) t)
    (hap : ∀ q, (Value.slice ua un uc).ownBlock = some q → v.ownBlock ≠ some q ∧ ∀ i, i < ps.length → (vs.getD i noV).ownBlock ≠ some q)
    (hx : a.eval x = .slice (some ⟨w.heap.size, 0, Option.none⟩) 1 1)
    (hlen : ps.length < 2000000) (hB : B ≤ w.heap.size)
    (h : ∀ q cap w', PsRow B w' (.slice (some ⟨q, 0, Option.none⟩) (ps.length + 1) cap) (ps ++ [t]) (vs ++ [.slice ua un uc]) → w.heap.size ≤ w'.heap.size → Below B w w' →
      wpList Try.prog ops Q rest (a.put o.dst (.slice (some ⟨q, 0, Option.none⟩) (ps.length + 1) cap)) w') :
    wpList Try.prog ops Q (o :: rest) a (w.alloc (.cells #[.slice ua un uc] 24)) := by
  obtain ⟨i0, hi, hz0, hz1, hz2⟩ := info_parts Try.infoSs
  have hl := hown.len
  refine wpList_append_lies _ hgd s x 27 ho B 24 i0 (.slice Option.none 0 0) 1 24 Try.underlying27 hi hz0 hz1 hz2 rfl (by decide) v vs.length vs hs (World.ownsRow.alloc hown.row _) ⟨w.heap.size, 0, Option.none⟩ 1 1 [.slice ua un uc] hx rfl
    (World.news_of_block (cs := #[.slice ua un uc]) (t := 24) (fr := (0, 0)) (heap_alloc_new w _)) ?_ (by omega) ?_ ?_ ?_ (w.heap.size + 1) (by simp) ?_
  · intro u hu
    simp at hu
    subst hu
    rfl
  · unfold maxLen; omega
  · omega
  · simp; omega
  · intro g cap w' h2 h3 h4 h5
    have hb0 : Below w.heap.size w (w.alloc (.cells #[.slice ua un uc] 24)) := (Below.refl _ w).alloc (Nat.le_refl _) _
    have hs3 := h3.size
    simp at hs3
    have hb3 : Below B w w' := (hb0.mono hB).grown h3 (by simp; omega) (fun k hk => (World.ownsRow.lt hown.row k hk).1)
    rw [hl] at h2 ⊢
    have hk : ∀ q, q < w.heap.size → v.ownBlock ≠ some q → w'.heap[q]? = w.heap[q]? := fun q hq hv => (h3.block q (by simp; omega) (fun e => hv e.symm)).trans (hb0.block q hq)
    have hg : ∀ q, q < w.heap.size → v.ownBlock ≠ some q → g ≠ q := by
      intro q hq hv e
      subst e
      rcases h4 with h4 | h4
      · exact hv h4
      · omega
    refine h g cap w' ⟨?_, ?_, ?_, ?_, ?_⟩ (by omega) hb3
    · rw [List.length_append, hl]; exact h2
    · simp [hl]
    · intro i hi
      by_cases hlt : i < ps.length
      · rw [getD_app_lt _ _ _ _ (by omega), getD_app_lt _ _ _ _ hlt]
        refine ownKeep (hown.each i hlt) (fun q hq => hk q (World.ownsRow.lt (hown.each i hlt) q hq).2 (hown.own i hlt q hq))
      · have e : i = ps.length := by simp at hi; omega
        rw [getD_app_eq _ _ _ _ (by omega), getD_app_eq _ _ _ _ e]
        exact ownKeep ht (fun q hq => hk q (World.ownsRow.lt ht q hq).2 (hap q hq).1)
    · intro i j hij hj q hq
      by_cases hlt : j < ps.length
      · rw [getD_app_lt _ _ _ _ (by omega)] at hq ⊢
        exact hown.apart i j hij hlt q hq
      · have e : j = ps.length := by simp at hj; omega
        rw [getD_app_lt _ _ _ _ (by omega)] at hq
        rw [getD_app_eq _ _ _ _ (by omega)]
        intro hq2
        exact (hap q hq2).2 i (by omega) hq
    · intro i hi q hq
      have key : q < w.heap.size ∧ v.ownBlock ≠ some q := by
        by_cases hlt : i < ps.length
        · rw [getD_app_lt _ _ _ _ (by omega)] at hq
          exact ⟨(World.ownsRow.lt (hown.each i hlt) q hq).2, hown.own i hlt q hq⟩
        · have e : i = ps.length := by simp at hi; omega
          rw [getD_app_eq _ _ _ _ (by omega)] at hq
          exact ⟨(World.ownsRow.lt ht q hq).2, (hap q hq).1⟩
      intro e
      have : g = q := by simpa [Value.ownBlock] using e
      exact hg q key.1 key.2 this

/-- The slice v leads to rows of the texts ps. -/
def SsAt (w : World) (v : Value) (ps : List (List ByteArray)) : Prop := ∃ (ka : Option Addr) (kc : Nat), v = .slice ka ps.length kc ∧
  (0 < ps.length → ∃ b, ka = some ⟨b, 0, none⟩ ∧ b < w.heap.size ∧ ∀ i, i < ps.length → ∃ u, w.cell? ⟨b, i, none⟩ = some u ∧ TsAt w u (ps.getD i []))
theorem SsAt.keep {w w' : World} {v : Value} {ps : List (List ByteArray)} (h : SsAt w v ps) (hb : Below w.heap.size w w') : SsAt w' v ps := by
  obtain ⟨ka, kc, rfl, f⟩ := h
  refine ⟨ka, kc, rfl, fun h0 => ?_⟩
  obtain ⟨b, rfl, hl, hc⟩ := f h0
  refine ⟨b, rfl, Nat.lt_of_lt_of_le hl hb.size, fun i hi => ?_⟩
  obtain ⟨u, h1, h2⟩ := hc i hi
  exact ⟨u, (hb.cell hl).trans h1, h2.keep hb⟩
theorem PsRow.at {B : Nat} {w : World} {v : Value} {ps : List (List ByteArray)} {vs : List Value} (h : PsRow B w v ps vs) : SsAt w v ps := by
  have h' := h.row
  have hl := h.len
  rcases h'.2 with ⟨rfl, hn⟩ | ⟨g, cap, cur, rfl, h1, hg, _⟩
  · exact ⟨Option.none, 0, by rw [← hl, hn], fun h0 => by omega⟩
  · refine ⟨_, cap, by rw [hl], fun _ => ⟨g, rfl, blk_lt hg, fun i hi => ⟨vs.getD i noV, ?_, (h.each i hi).at⟩⟩⟩
    rw [World.ownsRow.cellAt h.row i (by omega)]
    have hi2 : i < vs.length := by omega
    simp [hi2]

end Go.Proofs.Yteajkkcelajadaa
