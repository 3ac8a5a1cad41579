/- What a worker says by itself: the program's saidBy and the specification's TickWorker; a list of one message at most. -/
import Derived.Test.YtljnffanajcifaaMPWnWkA
namespace Go.Proofs.Ytljnffanajcifaa
open Go.RowKit

/-- The cells of a message. -/
def Ms.cells (m : Ms) : Array Value := #[.int .i64 m.kind, .int .i64 m.worker, .int .i64 m.task, .int .i64 m.try_, .string m.body]
/-- The messages ms, one at most, in a block of its own from B on. -/
def MsOwn (B : Nat) (w : World) (v : Value) (ms : List Ms) : Prop :=
  (ms = [] ∧ ∃ a c, v = .slice a 0 c) ∨ ∃ (m : Ms) (g c : Nat), ms = [m] ∧ v = .slice (some ⟨g, 0, none⟩) 1 c ∧ B ≤ g ∧ w.heap[g]? = some (.cells m.cells 37 (0, 0))
theorem MsOwn.mono {B B' : Nat} {w : World} {v : Value} {ms : List Ms} (h : MsOwn B w v ms) (hn : B' ≤ B) : MsOwn B' w v ms := by
  rcases h with h | ⟨m, g, c, rfl, rfl, h1, h2⟩
  · exact .inl h
  · exact .inr ⟨m, g, c, rfl, rfl, Nat.le_trans hn h1, h2⟩
theorem alloc2_1 (w : World) (A B : Obj) : ((w.alloc A).alloc B).heap[w.heap.size + 1]? = some B := by
  have := heap_alloc_new (w.alloc A) B
  rwa [show (w.alloc A).heap.size = w.heap.size + 1 by simp] at this
theorem MsOwn.new {w : World} {A : Obj} {m : Ms} {ms : List Ms} (h : ms = [m]) (c : Nat) : MsOwn w.heap.size ((w.alloc A).alloc (.cells m.cells 37 (0, 0))) (.slice (some ⟨w.heap.size + 1, 0, none⟩) 1 c) ms :=
  .inr ⟨m, _, c, h, rfl, by omega, alloc2_1 _ _ _⟩
theorem MsOwn.set {B : Nat} {w : World} {v : Value} {ms : List Ms} (h : MsOwn B w v ms) (p : Addr) (u : Value) (hp : p.block < B) : MsOwn B (w.setCell p u) v ms := by
  rcases h with h | ⟨m, g, c, rfl, rfl, h1, h2⟩
  · exact .inl h
  · exact .inr ⟨m, g, c, rfl, rfl, h1, (Below.heap_setCell _ _ _ _ (by omega)).trans h2⟩
end Go.Proofs.Ytljnffanajcifaa
