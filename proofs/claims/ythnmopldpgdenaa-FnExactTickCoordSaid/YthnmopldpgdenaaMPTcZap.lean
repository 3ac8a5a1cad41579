/- Rows of rows of texts in memory of a call's own, that grow; two of the same. Frames: nothing but some blocks has changed. -/
import Derived.Test.YthnmopldpgdenaaMPTcZao
import Derived.Test.YthnmopldpgdenaaMPTcZae
namespace Go.Proofs.Ythnmopldpgdenaa
section PartCuB
open Go.RowKit

def noV : Value := .slice none 0 0
/-- The row v of the rows vs, each of the texts of ps, all in memory of their own from block B on, apart from each other. -/
structure PsRow (B : Nat) (w : World) (v : Value) (ps : List (List ByteArray)) (vs : List Value) : Prop where
  row : w.ownsRow B 22 1 v vs.length vs
  len : vs.length = ps.length
  each : ∀ i, i < ps.length → TxRow B w (vs.getD i noV) (ps.getD i [])
  apart : ∀ i j, i < j → j < ps.length → ∀ q, (vs.getD i noV).ownBlock = some q → (vs.getD j noV).ownBlock ≠ some q
  own : ∀ i, i < ps.length → ∀ q, (vs.getD i noV).ownBlock = some q → v.ownBlock ≠ some q
theorem PsRow.nil (B : Nat) (w : World) : PsRow B w (.slice none 0 0) [] [] :=
  ⟨World.ownsRow_nil _ _ _ _, rfl, fun i hi => by simp at hi, fun i j _ hj => by simp at hj, fun i hi => by simp at hi⟩
theorem PsRow.none (B : Nat) (w : World) (hB : B ≤ w.heap.size) : PsRow B (w.alloc (.cells #[] 22)) (.slice (some ⟨w.heap.size, 0, Option.none⟩) 0 0) [] [] :=
  ⟨⟨rfl, .inr ⟨w.heap.size, 0, #[], rfl, hB, heap_alloc_new w _, Nat.le_refl _, by decide, rfl, rfl⟩⟩, rfl, fun i hi => by simp at hi, fun i j _ hj => by simp at hj, fun i hi => by simp at hi⟩
theorem PsRow.keepIf {B : Nat} {w w' : World} {v : Value} {ps : List (List ByteArray)} {vs : List Value} (h : PsRow B w v ps vs) (hk : ∀ q, B ≤ q → q < w.heap.size → w'.heap[q]? = w.heap[q]?) : PsRow B w' v ps vs :=
  ⟨ownKeep h.row (fun q hq => hk q (World.ownsRow.lt h.row q hq).1 (World.ownsRow.lt h.row q hq).2), h.len,
   fun i hi => ownKeep (h.each i hi) (fun q hq => hk q (World.ownsRow.lt (h.each i hi) q hq).1 (World.ownsRow.lt (h.each i hi) q hq).2), h.apart, h.own⟩
theorem PsRow.keep {B : Nat} {w w' : World} {v : Value} {ps : List (List ByteArray)} {vs : List Value} (h : PsRow B w v ps vs) (hb : Below w.heap.size w w') : PsRow B w' v ps vs :=
  h.keepIf (fun q _ hq => hb.block q hq)
theorem PsRow.form {B : Nat} {w : World} {v : Value} {ps : List (List ByteArray)} {vs : List Value} (h : PsRow B w v ps vs) : ∃ ad c, v = .slice ad ps.length c := by
  rcases h.row.2 with ⟨rfl, hn⟩ | ⟨g, cap, cur, rfl, _⟩
  · exact ⟨Option.none, 0, by rw [← h.len, hn]⟩
  · exact ⟨_, cap, by rw [← h.len]⟩

theorem getD_app_lt {α : Type} (l : List α) (x d : α) (i : Nat) (h : i < l.length) : (l ++ [x]).getD i d = l.getD i d := by
  simp [List.getD_eq_getElem?_getD, List.getElem?_append_left h]
theorem getD_app_eq {α : Type} (l : List α) (x d : α) (i : Nat) (h : i = l.length) : (l ++ [x]).getD i d = x := by
  subst h
  simp [List.getD_eq_getElem?_getD]

/-- The slice v leads to rows of the texts ps. -/
def SsAt (w : World) (v : Value) (ps : List (List ByteArray)) : Prop := ∃ (ka : Option Addr) (kc : Nat), v = .slice ka ps.length kc ∧
  (0 < ps.length → ∃ b, ka = some ⟨b, 0, none⟩ ∧ b < w.heap.size ∧ ∀ i, i < ps.length → ∃ u, w.cell? ⟨b, i, none⟩ = some u ∧ TsAt w u (ps.getD i []))
theorem SsAt.keep {w w' : World} {v : Value} {ps : List (List ByteArray)} (h : SsAt w v ps) (hb : Below w.heap.size w w') : SsAt w' v ps := by
  obtain ⟨ka, kc, rfl, f⟩ := h
  refine ⟨ka, kc, rfl, fun h0 => ?_⟩
  obtain ⟨b, rfl, hl, hc⟩ := f h0
  refine ⟨b, rfl, Nat.lt_of_lt_of_le hl hb.size, fun i hi => ?_⟩
  obtain ⟨u, h1, h2⟩ := hc i hi
  exact ⟨u, (hb.cell hl).trans h1, h2.keep hb⟩
theorem PsRow.at {B : Nat} {w : World} {v : Value} {ps : List (List ByteArray)} {vs : List Value} (h : PsRow B w v ps vs) : SsAt w v ps := by
  have h' := h.row
  have hl := h.len
  rcases h'.2 with ⟨rfl, hn⟩ | ⟨g, cap, cur, rfl, h1, hg, _⟩
  · exact ⟨Option.none, 0, by rw [← hl, hn], fun h0 => by omega⟩
  · refine ⟨_, cap, by rw [hl], fun _ => ⟨g, rfl, blk_lt hg, fun i hi => ⟨vs.getD i noV, ?_, (h.each i hi).at⟩⟩⟩
    rw [World.ownsRow.cellAt h.row i (by omega)]
    have hi2 : i < vs.length := by omega
    simp [hi2]

end PartCuB
section PartMfs
open Go.RowKit

/-- Nothing but blocks of S has changed. -/
def FS (S : Nat → Prop) (w w' : World) : Prop := Env w w' ∧ w.heap.size ≤ w'.heap.size ∧ ∀ k, k < w.heap.size → ¬ S k → w'.heap[k]? = w.heap[k]?
theorem FS.refl (S : Nat → Prop) (w : World) : FS S w w := ⟨Env.refl w, Nat.le_refl _, fun _ _ _ => rfl⟩
theorem FS.set {S : Nat → Prop} {w w' : World} (h : FS S w w') (r o : Nat) (u : Value) (h1 : S r) : FS S w (w'.setCell ⟨r, o, none⟩ u) :=
  ⟨h.1, by simpa [World.setCell] using h.2.1, fun k hk hkk => by rw [Below.heap_setCell _ _ _ _ (by show k ≠ r; exact fun e => hkk (e ▸ h1))]; exact h.2.2 k hk hkk⟩
theorem FS.up {S : Nat → Prop} {w w' w2 : World} (h : FS S w w') (hb : Below w'.heap.size w' w2) : FS S w w2 :=
  ⟨h.1.trans ⟨hb.os, hb.tape, hb.output⟩, Nat.le_trans h.2.1 hb.size, fun k hk hkk => (hb.block k (Nat.lt_of_lt_of_le hk h.2.1)).trans (h.2.2 k hk hkk)⟩
theorem hidOf3 {p : Prop} (h : p) : Hid p := h
theorem FS.trans {S : Nat → Prop} {w w1 w2 : World} (h : FS S w w1) (k : FS S w1 w2) : FS S w w2 :=
  ⟨h.1.trans k.1, Nat.le_trans h.2.1 k.2.1, fun q hq hs => (k.2.2 q (Nat.lt_of_lt_of_le hq h.2.1) hs).trans (h.2.2 q hq hs)⟩
theorem FS.ofBelow {S : Nat → Prop} {w w1 : World} (h : Below w.heap.size w w1) : FS S w w1 := ⟨⟨h.os, h.tape, h.output⟩, h.size, fun q hq _ => h.block q hq⟩
end PartMfs
end Go.Proofs.Ythnmopldpgdenaa
