/- Where a piece may end: the specification's EndsAt. -/
import Derived.Test.YtlnmbahakdmkgaaSpQ
import Derived.Test.YtlnmbahakdmkgaaPtG
namespace Go.Proofs.Ytlnmbahakdmkgaa
open Go.RowKit
open Classical in
/-- The places where piece k may end, from i on. -/
noncomputable def En.list (ps : List Pi) (s : ByteArray) (k i : Nat) : List Nat := (List.range (s.size + 1)).filter fun j => decide (En.Ends ps s k i j)
open Classical in
/-- What EndsAt answers. -/
noncomputable def En.ans (ps : List Pi) (s : ByteArray) (k i : Int) : List Nat := if Pk.pat ps = true ∧ (0 ≤ k ∧ k ≤ (ps.length : Int) - 1) ∧ (0 ≤ i ∧ i ≤ (s.size : Int)) then En.list ps s k.toNat i.toNat else []
theorem pat_pieces {ps : List Pi} (h : Pk.pat ps = true) : 0 < ps.length ∧ ps.length ≤ 60 ∧ ∀ k, k < ps.length → Pk.piece k (ps.getD k Pi.no) = true := by
  unfold Pk.pat at h
  simp only [Bool.and_eq_true, decide_eq_true_eq] at h
  refine ⟨by omega, by omega, fun k hk => ?_⟩
  have := h.2
  unfold Pk.upto at this
  rw [List.all_eq_true] at this
  exact this k (List.mem_range.2 hk)
/-- From a new memory on: where piece k may end. -/
theorem at_list {c : Mm} {w : World} {k i q : Nat} (h : BAt w q (c.s.size + 1) (En.Ends c.ps c.s k i)) : ∃ f : Nat → Bool, (∀ j, j < c.s.size + 1 → w.cell? ⟨q, j, none⟩ = some (.bool (f j))) ∧ (List.range (c.s.size + 1)).filter f = En.list c.ps c.s k i := by
  obtain ⟨f, hf⟩ := h.fn
  refine ⟨f, fun j hj => (hf j hj).1, List.filter_congr fun j hj => ?_⟩
  rw [List.mem_range] at hj
  have := (hf j hj).2
  rw [Bool.eq_iff_iff, this]
  simp

theorem Ws.low {B C : Nat} {w : World} {y : Value} {ws : List Nat} (h : Ws B w y ws) (hc : C ≤ B) : Ws C w y ws := by
  refine ⟨h.1, ?_⟩
  rcases h.2 with hn | ⟨g, cap, cur, rfl, h1, rest⟩
  · exact .inl hn
  · exact .inr ⟨g, cap, cur, rfl, Nat.le_trans hc h1, rest⟩

end Go.Proofs.Ytlnmbahakdmkgaa
