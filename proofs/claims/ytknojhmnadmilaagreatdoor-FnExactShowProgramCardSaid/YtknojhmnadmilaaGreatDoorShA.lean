/- Cells of a world with a block more. -/
import Derived.Test.YtknojhmnadmilaaGreatDoorZak
import Derived.Test.YtknojhmnadmilaaGreatDoorZaf
import Derived.LoopTactic
import Derived.Laws.Runes
namespace Go.Proofs.YtknojhmnadmilaaGreatDoor
open Go.RowKit

theorem cell_alloc {w : World} {a : Addr} {u : Value} (o : Obj) (h : w.cell? a = some u) : (w.alloc o).cell? a = some u := (World.cell?_alloc_some w a o (by rw [h]; rfl)).trans h
theorem below2 (w : World) (A B : Obj) : Below w.heap.size w ((w.alloc A).alloc B) := ((Below.refl _ _).alloc (Nat.le_refl _) _).alloc (by simp) _
end Go.Proofs.YtknojhmnadmilaaGreatDoor
