/- What the specification's ReadVar answers, at every text and place. What ShortText and ReadShort answer, the program's and the specification's, and that the laws on ReadVar, ShortText and ReadShort answer true. The program's writer of bytes: a strings.Builder that lies within a struct of the program's own. -/
import Derived.Test.YtlpdjmjbppmibaaGreatMPJoVrB
import Derived.Deep.RegionHeld3
import Derived.Test.YtlpdjmjbppmibaaGreatMPJoZal
import Derived.Test.YtlpdjmjbppmibaaGreatMPJoZaa
import Derived.Lib.Builder
import Derived.Lib.AppendStr
import Derived.Lib.AppendIntMem
import Derived.Shelf.Strings.Builder1
namespace Go.Proofs.YtlpdjmjbppmibaaGreat
section PartVrC
open Go.RowKit

end PartVrC
section PartVrD
open Go.RowKit

end PartVrD
section PartBwA
open Go.RowKit

/-- What lies in rows of another kind than bytes, but for block b, is as it was. -/
def Ok5 (b : Nat) (w w' : World) : Prop := ∀ (j : Nat) (arr : Array Value) (t : TypeId) (fr : Nat × Nat), w.heap[j]? = some (.cells arr t fr) → t ≠ 5 → j ≠ b → w'.heap[j]? = some (.cells arr t fr)
theorem Ok5.refl (b : Nat) (w : World) : Ok5 b w w := fun _ _ _ _ h _ _ => h
theorem Ok5.set {b : Nat} {w w' : World} (h : Ok5 b w w') (k : Nat) (u : Value) : Ok5 b w (w'.setCell ⟨b, k, none⟩ u) := fun j arr t fr h1 h2 h3 => by
  rw [Below.heap_setCell _ _ _ _ (by exact h3)]
  exact h j arr t fr h1 h2 h3
theorem Ok5.trans {b : Nat} {w w1 w2 : World} (h : Ok5 b w w1) (h' : Ok5 b w1 w2) : Ok5 b w w2 := fun j arr t fr h1 h2 h3 => h' j arr t fr (h j arr t fr h1 h2 h3) h2 h3
theorem Ok5.below {b : Nat} {w w1 : World} (h : Below w.heap.size w w1) : Ok5 b w w1 := fun j _ _ _ h1 _ _ => (h.block j (blk_lt h1)).trans h1

end PartBwA
end Go.Proofs.YtlpdjmjbppmibaaGreat
