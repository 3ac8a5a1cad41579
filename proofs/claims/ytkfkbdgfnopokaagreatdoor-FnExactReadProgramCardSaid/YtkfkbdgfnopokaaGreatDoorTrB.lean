/- Trees: what is shown of two with a sign between. -/
import Derived.Test.YtkfkbdgfnopokaaGreatDoorZaj
namespace Go.Proofs.YtkfkbdgfnopokaaGreatDoor
open Go.RowKit
def TwoS (w : World) : Prop := w.cell? ⟨0, 0, none⟩ = some (.string ⟨#[43]⟩) ∧ w.cell? ⟨0, 1, none⟩ = some (.string ⟨#[45]⟩) ∧ w.cell? ⟨0, 2, none⟩ = some (.string ⟨#[42]⟩) ∧ w.cell? ⟨0, 3, none⟩ = some (.string ⟨#[37]⟩) ∧ w.cell? ⟨0, 4, none⟩ = some (.string ⟨#[46]⟩) ∧ w.cell? ⟨0, 5, none⟩ = some (.string ⟨#[60]⟩) ∧ w.cell? ⟨0, 6, none⟩ = some (.string ⟨#[61, 61]⟩)
theorem TwoS.keep {X : Nat} {w w' : World} (h : TwoS w) (hX : X ≠ 0) (hb : But X w w') : TwoS w' := by
 obtain ⟨h0, h1, h2, h3, h4, h5, h6⟩ := h
 have k : ∀ {j : Nat} {x : Value}, w.cell? ⟨0, j, none⟩ = some x → w'.cell? ⟨0, j, none⟩ = some x := fun h => hb.cell (fun e => hX e.symm) h
 exact ⟨k h0, k h1, k h2, k h3, k h4, k h5, k h6⟩
end Go.Proofs.YtkfkbdgfnopokaaGreatDoor
