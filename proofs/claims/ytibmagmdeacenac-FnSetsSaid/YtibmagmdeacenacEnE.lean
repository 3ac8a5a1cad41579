/- The specification of EndsAt and FindIn. -/
import Derived.Test.YtibmagmdeacenacEnD
import Derived.Test.YtibmagmdeacenacPtG
namespace Go.Proofs.Ytibmagmdeacenac
section PartSpR
open Go.RowKit
open Classical in
/-- The places where piece k may end, from i on. -/
noncomputable def En.list (ps : List Pi) (s : ByteArray) (k i : Nat) : List Nat := (List.range (s.size + 1)).filter fun j => decide (En.Ends ps s k i j)
open Classical in
/-- What EndsAt answers. -/
noncomputable def En.ans (ps : List Pi) (s : ByteArray) (k i : Int) : List Nat := if Pk.pat ps = true ∧ (0 ≤ k ∧ k ≤ (ps.length : Int) - 1) ∧ (0 ≤ i ∧ i ≤ (s.size : Int)) then En.list ps s k.toNat i.toNat else []
theorem pat_pieces {ps : List Pi} (h : Pk.pat ps = true) : 0 < ps.length ∧ ps.length ≤ 60 ∧ ∀ k, k < ps.length → Pk.piece k (ps.getD k Pi.no) = true := by
  unfold Pk.pat at h
  simp only [Bool.and_eq_true, decide_eq_true_eq] at h
  refine ⟨by omega, by omega, fun k hk => ?_⟩
  have := h.2
  unfold Pk.upto at this
  rw [List.all_eq_true] at this
  exact this k (List.mem_range.2 hk)
/-- From a new memory on: where piece k may end. -/
theorem at_list {c : Mm} {w : World} {k i q : Nat} (h : BAt w q (c.s.size + 1) (En.Ends c.ps c.s k i)) : ∃ f : Nat → Bool, (∀ j, j < c.s.size + 1 → w.cell? ⟨q, j, none⟩ = some (.bool (f j))) ∧ (List.range (c.s.size + 1)).filter f = En.list c.ps c.s k i := by
  obtain ⟨f, hf⟩ := h.fn
  refine ⟨f, fun j hj => (hf j hj).1, List.filter_congr fun j hj => ?_⟩
  rw [List.mem_range] at hj
  have := (hf j hj).2
  rw [Bool.eq_iff_iff, this]
  simp

theorem Ws.low {B C : Nat} {w : World} {y : Value} {ws : List Nat} (h : Ws B w y ws) (hc : C ≤ B) : Ws C w y ws := by
  refine ⟨h.1, ?_⟩
  rcases h.2 with hn | ⟨g, cap, cur, rfl, h1, rest⟩
  · exact .inl hn
  · exact .inr ⟨g, cap, cur, rfl, Nat.le_trans hc h1, rest⟩

end PartSpR
section PartSpS
open Go.RowKit
/-- What FindIn answers. -/
def En.FindIs (ps : List Pi) (s : ByteArray) (a b : Int) (r : Bool) : Prop :=
  (r = true ∧ Pk.pat ps = true ∧ ∃ x e : Nat, a = (x : Int) ∧ b = (e : Int) ∧ x ≤ s.size ∧ En.Ends ps s (ps.length - 1) x e ∧ (∀ j, En.Ends ps s (ps.length - 1) x j → j ≤ e) ∧ ∀ y, y < x → ∀ j, ¬ En.Ends ps s (ps.length - 1) y j) ∨
  (r = false ∧ a = 0 ∧ b = 0 ∧ (Pk.pat ps = false ∨ ∀ y, y ≤ s.size → ∀ j, ¬ En.Ends ps s (ps.length - 1) y j))
theorem En.FindIs.one {ps : List Pi} {s : ByteArray} {a b a' b' : Int} {r r' : Bool} (h : En.FindIs ps s a b r) (k : En.FindIs ps s a' b' r') : a = a' ∧ b = b' ∧ r = r' := by
  rcases h with ⟨rfl, hp, x, e, rfl, rfl, h1, h2, h3, h4⟩ | ⟨rfl, rfl, rfl, h1⟩
  · rcases k with ⟨rfl, _, x', e', rfl, rfl, k1, k2, k3, k4⟩ | ⟨rfl, rfl, rfl, k1⟩
    · obtain rfl : x = x' := by
        rcases Nat.lt_trichotomy x x' with hl | hl | hl
        · exact absurd h2 (k4 x hl e)
        · exact hl
        · exact absurd k2 (h4 x' hl e')
      have := h3 _ k2
      have := k3 _ h2
      exact ⟨rfl, by omega, rfl⟩
    · rcases k1 with k1 | k1
      · rw [hp] at k1; cases k1
      · exact absurd h2 (k1 x h1 e)
  · rcases k with ⟨rfl, hp, x', e', rfl, rfl, k1, k2, k3, k4⟩ | ⟨rfl, rfl, rfl, k1⟩
    · rcases h1 with h1 | h1
      · rw [hp] at h1; cases h1
      · exact absurd k2 (h1 x' k1 e')
    · exact ⟨rfl, rfl, rfl⟩
theorem En.mem_list {ps : List Pi} {s : ByteArray} {k i j : Nat} : j ∈ En.list ps s k i ↔ j < s.size + 1 ∧ En.Ends ps s k i j := by
  unfold En.list
  rw [List.mem_filter, List.mem_range]
  simp
theorem En.list_sorted (ps : List Pi) (s : ByteArray) (k i : Nat) : (En.list ps s k i).Pairwise (· < ·) := by
  unfold En.list
  exact List.Pairwise.filter _ List.pairwise_lt_range
theorem sorted_last {l : List Nat} (h : l.Pairwise (· < ·)) (us : List Nat) (v : Nat) (e : l = us ++ [v]) : ∀ j, j ∈ l → j ≤ v := by
  subst e
  intro j hj
  rw [List.mem_append, List.mem_singleton] at hj
  rcases hj with hj | rfl
  · exact Nat.le_of_lt ((List.pairwise_append.1 h).2.2 j hj v (by simp))
  · exact Nat.le_refl _

end PartSpS
end Go.Proofs.Ytibmagmdeacenac
