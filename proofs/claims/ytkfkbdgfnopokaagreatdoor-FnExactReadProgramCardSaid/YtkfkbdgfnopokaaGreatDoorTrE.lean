/- Trees: what is shown of a cell that is set, and of a choice. -/
import Derived.Test.YtkfkbdgfnopokaaGreatDoorTrD
namespace Go.Proofs.YtkfkbdgfnopokaaGreatDoor
open Go.RowKit
theorem tcells4 {w : World} {g : Nat} {a b c d : Value} {ty : TypeId} (h : w.heap[g]? = some (.cells #[a, b, c, d] ty (0, 0))) : w.cell? ⟨g, 0, none⟩ = some a ∧ w.cell? ⟨g, 1, none⟩ = some b ∧ w.cell? ⟨g, 2, none⟩ = some c ∧ w.cell? ⟨g, 3, none⟩ = some d := by
 simp [World.cell?, h]
end Go.Proofs.YtkfkbdgfnopokaaGreatDoor
