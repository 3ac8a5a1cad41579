/- Where a piece may end, by the specification: 'at', one kind of piece after the other. -/
import Derived.Test.YtlnmbahakdmkgaaSpI
namespace Go.Proofs.Ytlnmbahakdmkgaa
open Go.RowKit
namespace En
theorem Reach.first {ps : List Pi} {s : ByteArray} {k i v : Nat} (r : Reach ps s k i v) : v = i ∨ ∃ j, Ends ps s k i j ∧ Reach ps s k j v := by
  induction r with
  | here => exact .inl rfl
  | step _ h2 ih =>
    rcases ih with rfl | ⟨j, h, r2⟩
    · exact .inr ⟨_, h2, .here⟩
    · exact .inr ⟨j, h, .step r2 h2⟩
theorem star2 {ps : List Pi} {s : ByteArray} {k i e : Nat} (hop : (ps.getD k Pi.no).op = 7) : Ends ps s k i e ↔ e = i ∨ ∃ v, Reach ps s (kid (ps.getD k Pi.no) 0) i v ∧ Ends ps s (kid (ps.getD k Pi.no) 0) v e := by
  rw [star_iff hop]
  constructor
  · intro r
    cases r with
    | here => exact .inl rfl
    | step r h => exact .inr ⟨_, r, h⟩
  · rintro (rfl | ⟨v, r, h⟩)
    · exact .here
    · exact .step r h
theorem plus2 {ps : List Pi} {s : ByteArray} {k i e : Nat} (hop : (ps.getD k Pi.no).op = 8) : Ends ps s k i e ↔ ∃ v, Reach ps s (kid (ps.getD k Pi.no) 0) i v ∧ Ends ps s (kid (ps.getD k Pi.no) 0) v e := by
  rw [plus_iff hop]
  constructor
  · rintro ⟨j, h, r⟩
    cases r with
    | here => exact ⟨i, .here, h⟩
    | step r h2 => exact ⟨_, Reach.head h r, h2⟩
  · rintro ⟨v, r, h⟩
    rcases r.first with rfl | ⟨j, h1, r2⟩
    · exact ⟨e, h, .here⟩
    · exact ⟨j, h1, .step r2 h⟩
theorem opt2 {ps : List Pi} {s : ByteArray} {k i e : Nat} (hop : (ps.getD k Pi.no).op = 9) : Ends ps s k i e ↔ e = i ∨ Ends ps s (kid (ps.getD k Pi.no) 0) i e := by
  constructor
  · intro h
    cases h with
    | opt0 => exact .inl rfl
    | opt1 _ h => exact .inr h
    | one _ ho => omega
    | begin ho => omega
    | fin ho => omega
    | none ho => omega
    | cat ho => omega
    | altl ho => omega
    | altr ho => omega
    | star0 ho => omega
    | star1 ho => omega
    | plus0 ho => omega
    | plus1 ho => omega
  · rintro (rfl | h)
    · exact .opt0 hop
    · exact .opt1 hop h
theorem alt2 {ps : List Pi} {s : ByteArray} {k i e : Nat} (hop : (ps.getD k Pi.no).op = 6) : Ends ps s k i e ↔ Ends ps s (kid (ps.getD k Pi.no) 0) i e ∨ Ends ps s (kid (ps.getD k Pi.no) 1) i e := by
  constructor
  · intro h
    cases h with
    | altl _ h => exact .inl h
    | altr _ h => exact .inr h
    | one _ ho => omega
    | begin ho => omega
    | fin ho => omega
    | none ho => omega
    | cat ho => omega
    | opt0 ho => omega
    | opt1 ho => omega
    | star0 ho => omega
    | star1 ho => omega
    | plus0 ho => omega
    | plus1 ho => omega
  · rintro (h | h)
    · exact .altl hop h
    · exact .altr hop h
theorem cat2 {ps : List Pi} {s : ByteArray} {k i e : Nat} (hop : (ps.getD k Pi.no).op = 5) : Ends ps s k i e ↔ ∃ j, Ends ps s (kid (ps.getD k Pi.no) 0) i j ∧ Ends ps s (kid (ps.getD k Pi.no) 1) j e := by
  constructor
  · intro h
    cases h with
    | cat _ h1 h2 => exact ⟨_, h1, h2⟩
    | one _ ho => omega
    | begin ho => omega
    | fin ho => omega
    | none ho => omega
    | altl ho => omega
    | altr ho => omega
    | opt0 ho => omega
    | opt1 ho => omega
    | star0 ho => omega
    | star1 ho => omega
    | plus0 ho => omega
    | plus1 ho => omega
  · rintro ⟨j, h1, h2⟩
    exact .cat hop h1 h2
end En
theorem Pk.piece_kids {k : Nat} {p : Pi} (h : Pk.piece k p = true) : p.kids.length = Pk.kw p.op ∧ (∀ j, j < p.kids.length → ∃ a : Nat, p.kids.getD j 0 = (a : Int) ∧ a < k ∧ En.kid p j = a) ∧ 1 ≤ p.op ∧ p.op ≤ 12 ∧ p.text.size ≤ 24 := by
  unfold Pk.piece at h
  simp only [Bool.and_eq_true, decide_eq_true_eq] at h
  obtain ⟨h1, h2, h3, h4⟩ := h
  refine ⟨h3, fun j hj => ?_, h1.1, h1.2, ?_⟩
  · unfold Pk.ahead at h2
    rw [List.all_eq_true] at h2
    have := h2 p.kids[j] (List.getElem_mem hj)
    simp only [decide_eq_true_eq] at this
    have e : p.kids.getD j 0 = p.kids[j] := by simp [hj]
    refine ⟨p.kids[j].toNat, by rw [e]; omega, by omega, ?_⟩
    unfold En.kid
    rw [e]
  · unfold Pk.tx at h4
    split at h4
    · simp at h4; omega
    · split at h4
      · simp at h4; omega
      · simp at h4; simp [h4]
#print axioms Pk.piece_kids
#print axioms En.plus2
end Go.Proofs.Ytlnmbahakdmkgaa
