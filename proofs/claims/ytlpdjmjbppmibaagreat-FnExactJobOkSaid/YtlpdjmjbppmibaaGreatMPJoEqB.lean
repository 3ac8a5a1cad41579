/- Are two stores the same: the specification's SameStore. -/
import Derived.Test.YtlpdjmjbppmibaaGreatMPJoZap
namespace Go.Proofs.YtlpdjmjbppmibaaGreat
open Go.RowKit

theorem VrAt.row {w : World} {a : Option Addr} {n c : Nat} {xs : List Vr} (h : VrAt w (.slice a n c) xs) (hn : xs.length = n) {j : Nat} (hj : j < n) : ∃ b o, a = some ⟨b, o, none⟩ ∧ b < w.heap.size ∧ w.cell? ⟨b, o + j * 2, none⟩ = some (.string (xs.getD j Vr.no).name) ∧ w.cell? ⟨b, o + j * 2 + 1, none⟩ = some (.string (xs.getD j Vr.no).val) := by
  obtain ⟨a', c', e, f⟩ := h
  obtain ⟨rfl, rfl, rfl⟩ : a = a' ∧ n = xs.length ∧ c = c' := by simpa using e
  obtain ⟨b, o, rfl, hb, hc⟩ := f (by omega)
  exact ⟨b, o, rfl, hb, hc j hj⟩
theorem ClAt.row {w : World} {a : Option Addr} {n c : Nat} {xs : List Cl} (h : ClAt w (.slice a n c) xs) (hn : xs.length = n) {j : Nat} (hj : j < n) : ∃ b o, a = some ⟨b, o, none⟩ ∧ b < w.heap.size ∧ w.cell? ⟨b, o + j * 3, none⟩ = some (.string (xs.getD j Cl.no).name) ∧ w.cell? ⟨b, o + j * 3 + 1, none⟩ = some (.string (xs.getD j Cl.no).key) ∧ w.cell? ⟨b, o + j * 3 + 2, none⟩ = some (.string (xs.getD j Cl.no).val) := by
  obtain ⟨a', c', e, f⟩ := h
  obtain ⟨rfl, rfl, rfl⟩ : a = a' ∧ n = xs.length ∧ c = c' := by simpa using e
  obtain ⟨b, o, rfl, hb, hc⟩ := f (by omega)
  exact ⟨b, o, rfl, hb, hc j hj⟩

end Go.Proofs.YtlpdjmjbppmibaaGreat
