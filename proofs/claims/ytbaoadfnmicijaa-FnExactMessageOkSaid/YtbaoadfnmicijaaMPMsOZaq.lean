/- What is read of the bytes of code: rows that grow by one; what is bad stays bad. What is read of the bytes of code: what both walks hold; the program's reader in one form. The specification's reader of bytes, in one form. -/
import Derived.Test.YtbaoadfnmicijaaMPMsORcC
import Derived.Test.YtbaoadfnmicijaaMPMsOZae
import Derived.Test.YtbaoadfnmicijaaMPMsOZac
import Derived.Deep.RegionHeld3
namespace Go.Proofs.Ytbaoadfnmicijaa
section PartRcD
open Go.RowKit

/-- The row of the texts ts, in the call's own memory from block B on. -/
def TR (B : Nat) (w : World) (v : Value) (ts : List ByteArray) : Prop := w.ownsRow B 9 1 v ts.length (ts.map .string)
theorem TR.nil (B : Nat) (w : World) : TR B w (.slice none 0 0) [] := World.ownsRow_nil _ _ _ _
theorem TR.at {B : Nat} {w : World} {v : Value} {ts : List ByteArray} (h : TR B w v ts) : TsAt w v ts := by
  have h' := h
  rcases h'.2 with ⟨rfl, hn⟩ | ⟨g, cap, cur, rfl, h1, hg, _⟩
  · exact ⟨none, 0, by rw [hn], fun h0 => by omega⟩
  · refine ⟨_, cap, rfl, fun _ => ⟨g, 0, rfl, blk_lt hg, fun i hi => ?_⟩⟩
    rw [Nat.zero_add, World.ownsRow.cellAt h i (by omega)]
    simp [hi]
namespace Rc
end Rc
end PartRcD
section PartRcE
open Go.RowKit

theorem r3_0 (w : World) (A B C : Obj) : (((w.alloc A).alloc B).alloc C).heap[w.heap.size]? = some A := by
  show (((w.heap.push A).push B).push C)[w.heap.size]? = some A
  rw [Array.getElem?_push, if_neg (by simp; omega), Array.getElem?_push, if_neg (by simp), Array.getElem?_push]
  simp
theorem r3_2 (w : World) (A B C : Obj) : (((w.alloc A).alloc B).alloc C).heap[w.heap.size + 2]? = some C := by
  show (((w.heap.push A).push B).push C)[w.heap.size + 2]? = some C
  rw [Array.getElem?_push, if_pos (by simp)]
end PartRcE
section PartRcS
open Go.RowKit

end PartRcS
end Go.Proofs.Ytbaoadfnmicijaa
