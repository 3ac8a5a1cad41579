/- Where a piece may end, by the specification: every piece. -/
import Derived.Test.YtibmagmdeacenacEnB
namespace Go.Proofs.Ytibmagmdeacenac
section PartSpJ
open Go.RowKit
namespace En
theorem Reach.first {ps : List Pi} {s : ByteArray} {k i v : Nat} (r : Reach ps s k i v) : v = i ∨ ∃ j, Ends ps s k i j ∧ Reach ps s k j v := by
  induction r with
  | here => exact .inl rfl
  | step _ h2 ih =>
    rcases ih with rfl | ⟨j, h, r2⟩
    · exact .inr ⟨_, h2, .here⟩
    · exact .inr ⟨j, h, .step r2 h2⟩
theorem star2 {ps : List Pi} {s : ByteArray} {k i e : Nat} (hop : (ps.getD k Pi.no).op = 7) : Ends ps s k i e ↔ e = i ∨ ∃ v, Reach ps s (kid (ps.getD k Pi.no) 0) i v ∧ Ends ps s (kid (ps.getD k Pi.no) 0) v e := by
  rw [star_iff hop]
  constructor
  · intro r
    cases r with
    | here => exact .inl rfl
    | step r h => exact .inr ⟨_, r, h⟩
  · rintro (rfl | ⟨v, r, h⟩)
    · exact .here
    · exact .step r h
theorem plus2 {ps : List Pi} {s : ByteArray} {k i e : Nat} (hop : (ps.getD k Pi.no).op = 8) : Ends ps s k i e ↔ ∃ v, Reach ps s (kid (ps.getD k Pi.no) 0) i v ∧ Ends ps s (kid (ps.getD k Pi.no) 0) v e := by
  rw [plus_iff hop]
  constructor
  · rintro ⟨j, h, r⟩
    cases r with
    | here => exact ⟨i, .here, h⟩
    | step r h2 => exact ⟨_, Reach.head h r, h2⟩
  · rintro ⟨v, r, h⟩
    rcases r.first with rfl | ⟨j, h1, r2⟩
    · exact ⟨e, h, .here⟩
    · exact ⟨j, h1, .step r2 h⟩
theorem opt2 {ps : List Pi} {s : ByteArray} {k i e : Nat} (hop : (ps.getD k Pi.no).op = 9) : Ends ps s k i e ↔ e = i ∨ Ends ps s (kid (ps.getD k Pi.no) 0) i e := by
  constructor
  · intro h
    cases h with
    | opt0 => exact .inl rfl
    | opt1 _ h => exact .inr h
    | one _ ho => omega
    | begin ho => omega
    | fin ho => omega
    | none ho => omega
    | cat ho => omega
    | altl ho => omega
    | altr ho => omega
    | star0 ho => omega
    | star1 ho => omega
    | plus0 ho => omega
    | plus1 ho => omega
  · rintro (rfl | h)
    · exact .opt0 hop
    · exact .opt1 hop h
theorem alt2 {ps : List Pi} {s : ByteArray} {k i e : Nat} (hop : (ps.getD k Pi.no).op = 6) : Ends ps s k i e ↔ Ends ps s (kid (ps.getD k Pi.no) 0) i e ∨ Ends ps s (kid (ps.getD k Pi.no) 1) i e := by
  constructor
  · intro h
    cases h with
    | altl _ h => exact .inl h
    | altr _ h => exact .inr h
    | one _ ho => omega
    | begin ho => omega
    | fin ho => omega
    | none ho => omega
    | cat ho => omega
    | opt0 ho => omega
    | opt1 ho => omega
    | star0 ho => omega
    | star1 ho => omega
    | plus0 ho => omega
    | plus1 ho => omega
  · rintro (h | h)
    · exact .altl hop h
    · exact .altr hop h
theorem cat2 {ps : List Pi} {s : ByteArray} {k i e : Nat} (hop : (ps.getD k Pi.no).op = 5) : Ends ps s k i e ↔ ∃ j, Ends ps s (kid (ps.getD k Pi.no) 0) i j ∧ Ends ps s (kid (ps.getD k Pi.no) 1) j e := by
  constructor
  · intro h
    cases h with
    | cat _ h1 h2 => exact ⟨_, h1, h2⟩
    | one _ ho => omega
    | begin ho => omega
    | fin ho => omega
    | none ho => omega
    | altl ho => omega
    | altr ho => omega
    | opt0 ho => omega
    | opt1 ho => omega
    | star0 ho => omega
    | star1 ho => omega
    | plus0 ho => omega
    | plus1 ho => omega
  · rintro ⟨j, h1, h2⟩
    exact .cat hop h1 h2
end En
theorem Pk.piece_kids {k : Nat} {p : Pi} (h : Pk.piece k p = true) : p.kids.length = Pk.kw p.op ∧ (∀ j, j < p.kids.length → ∃ a : Nat, p.kids.getD j 0 = (a : Int) ∧ a < k ∧ En.kid p j = a) ∧ 1 ≤ p.op ∧ p.op ≤ 12 ∧ p.text.size ≤ 24 := by
  unfold Pk.piece at h
  simp only [Bool.and_eq_true, decide_eq_true_eq] at h
  obtain ⟨h1, h2, h3, h4⟩ := h
  refine ⟨h3, fun j hj => ?_, h1.1, h1.2, ?_⟩
  · unfold Pk.ahead at h2
    rw [List.all_eq_true] at h2
    have := h2 p.kids[j] (List.getElem_mem hj)
    simp only [decide_eq_true_eq] at this
    have e : p.kids.getD j 0 = p.kids[j] := by simp [hj]
    refine ⟨p.kids[j].toNat, by rw [e]; omega, by omega, ?_⟩
    unfold En.kid
    rw [e]
  · unfold Pk.tx at h4
    split at h4
    · simp at h4; omega
    · split at h4
      · simp at h4; omega
      · simp at h4; simp [h4]
end PartSpJ
section PartSpK
open Go.RowKit

/-- Block q holds these Booleans first, and may be written. -/
def BFst (w : World) (q n : Nat) (f : Nat → Bool) : Prop := ∃ arr : Array Value, w.heap[q]? = some (.cells arr 4 (0, 0)) ∧ n ≤ arr.size ∧ ∀ j, j < n → arr[j]? = some (.bool (f j))
theorem BFst.cell {w : World} {q n : Nat} {f : Nat → Bool} (h : BFst w q n f) (j : Nat) (hj : j < n) : w.cell? ⟨q, j, none⟩ = some (.bool (f j)) ∧ w.frozen? ⟨q, j, none⟩ = false := by
  obtain ⟨arr, ha, hs, hf⟩ := h
  exact ⟨by rw [blk_cell ha]; exact hf j hj, blk_free ha j⟩
theorem BFst.set {w : World} {q n : Nat} {f : Nat → Bool} (h : BFst w q n f) (i : Nat) (b : Bool) (P : Nat → Prop) (hP : ∀ j, j < n → ((if j = i then b else f j) = true ↔ P j)) : BAt (w.setCell ⟨q, i, none⟩ (.bool b)) q n P := by
  obtain ⟨arr, ha, hs, hf⟩ := h
  have hh := blk_set ha i (.bool b)
  refine ⟨blk_lt hh, fun j hj => ⟨if j = i then b else f j, ?_, hP j hj⟩⟩
  rw [blk_cell hh, Array.getElem?_setIfInBounds]
  by_cases hji : i = j
  · subst hji
    rw [if_pos rfl, if_pos (by omega), if_pos rfl]
  · rw [if_neg hji, hf j hj, if_neg (fun e => hji e.symm)]
theorem BBlk.fst {w : World} {q n : Nat} {f : Nat → Bool} (h : BBlk w q n f) : BFst w q n f := by
  obtain ⟨arr, ha, hs, hf⟩ := h
  exact ⟨arr, ha, by omega, hf⟩
theorem kids2 {ks : List Int} (h : ks.length = 2) : ks = [ks.getD 0 0, ks.getD 1 0] := by
  match ks, h with
  | [a, b], _ => rfl
theorem kids1 {ks : List Int} (h : ks.length = 1) : ks = [ks.getD 0 0] := by
  match ks, h with
  | [a], _ => rfl
end PartSpK
section PartSpL
open Go.RowKit

/-- Two blocks more. -/
theorem two_more (w : World) (A B : Obj) : Below w.heap.size w ((w.alloc A).alloc B) ∧ ((w.alloc A).alloc B).heap.size = w.heap.size + 2 ∧ ((w.alloc A).alloc B).heap[w.heap.size]? = some A := by
  refine ⟨((Below.refl _ _).alloc (Nat.le_refl _) _).alloc (by simp) _, by simp, ?_⟩
  rw [((Below.refl (w.heap.size + 1) (w.alloc A)).alloc (by simp) B).block _ (by omega)]
  exact heap_alloc_new w A

end PartSpL
section PartSpM
open Go.RowKit

end PartSpM
section PartSpN
open Go.RowKit

end PartSpN
end Go.Proofs.Ytibmagmdeacenac
