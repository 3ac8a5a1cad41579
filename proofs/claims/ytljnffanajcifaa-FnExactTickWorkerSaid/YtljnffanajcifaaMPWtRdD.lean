/- The specification's reader of a pattern: a set. -/
import Derived.Test.YtljnffanajcifaaMPWtRdB
import Derived.Test.YtljnffanajcifaaMPWtRdC
namespace Go.Proofs.Ytljnffanajcifaa
open Go.RowKit

/-- What may have changed: the reader itself, the row's own block, what is new. -/
def Fr (g : Nat) (v : Value) (w w' : World) : Prop := w.heap.size ≤ w'.heap.size ∧ (∀ k, k < w.heap.size → k ≠ g → v.ownBlock ≠ some k → w'.heap[k]? = w.heap[k]?) ∧ Env w w'
theorem Fr.refl (g : Nat) (v : Value) (w : World) : Fr g v w w := ⟨Nat.le_refl _, fun _ _ _ _ => rfl, rfl, rfl, rfl⟩
end Go.Proofs.Ytljnffanajcifaa
