/- The specification's reader of a pattern: the pieces that it has read, one more of them, and what each of its parts leaves. -/
import Derived.Test.YtljnffanajcifaaMPWtRdD
namespace Go.Proofs.Ytljnffanajcifaa
open Go.RowKit

def Pp.no : Pp.Pc := ⟨0, [], []⟩
/-- What may have changed: the reader itself, and what lies from block B on. -/
def FB (g B : Nat) (w w' : World) : Prop := w.heap.size ≤ w'.heap.size ∧ (∀ k, k < B → k ≠ g → w'.heap[k]? = w.heap[k]?) ∧ Env w w'
theorem FB.refl (g B : Nat) (w : World) : FB g B w w := ⟨Nat.le_refl _, fun _ _ _ => rfl, rfl, rfl, rfl⟩
theorem FB.trans {g B : Nat} {w w1 w2 : World} (h1 : FB g B w w1) (h2 : FB g B w1 w2) : FB g B w w2 := ⟨Nat.le_trans h1.1 h2.1, fun k hk hg => (h2.2.1 k hk hg).trans (h1.2.1 k hk hg), h2.2.2.1.trans h1.2.2.1, h2.2.2.2.1.trans h1.2.2.2.1, h2.2.2.2.2.trans h1.2.2.2.2⟩
end Go.Proofs.Ytljnffanajcifaa
