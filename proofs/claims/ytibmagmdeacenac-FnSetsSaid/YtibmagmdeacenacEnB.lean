/- Where a piece may end, by the specification: two pieces. -/
import Derived.Test.YtibmagmdeacenacSpF
namespace Go.Proofs.Ytibmagmdeacenac
section PartSpG
open Go.RowKit

theorem BAt.fn {w : World} {q n : Nat} {P : Nat → Prop} (h : BAt w q n P) : ∃ f : Nat → Bool, ∀ j, j < n → w.cell? ⟨q, j, none⟩ = some (.bool (f j)) ∧ (f j = true ↔ P j) := by
  refine ⟨fun j => match w.cell? ⟨q, j, none⟩ with | some (.bool b) => b | _ => false, fun j hj => ?_⟩
  obtain ⟨b, h1, h2⟩ := h.2 j hj
  simp only [h1]
  exact ⟨trivial, h2⟩
section
variable {c : Mm} {X : Nat → Prop} {w wr w2 : World} {op : Int} {tx : ByteArray} {kv : Value} {fo : Nat → Bool}
end
theorem cell_other {w w' : World} {q j : Nat} (h : w'.heap[q]? = w.heap[q]?) : w'.cell? ⟨q, j, none⟩ = w.cell? ⟨q, j, none⟩ := by simp [World.cell?, h]
section
variable {c : Mm} {X : Nat → Prop} {w wr : World} {op : Int} {tx : ByteArray} {kv : Value} {q : Nat} {f f0 : Nat → Bool} {e : Nat} {fo : Nat → Bool}
end
end PartSpG
section PartSpH
open Go.RowKit

end PartSpH
section PartSpI
open Go.RowKit

section
variable {c : Mm} {X : Nat → Prop} {w wr : World} {tx : ByteArray} {kv : Value} {q i a0 a1 t : Nat} {fo : Nat → Bool}
end

end PartSpI
end Go.Proofs.Ytibmagmdeacenac
