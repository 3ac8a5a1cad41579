/- The law's own marks: rows of texts that are written and held. -/
import Derived.Test.YtljnffanajcifaaMPWfMkT
import Derived.Test.YtljnffanajcifaaMPWfMfs
namespace Go.Proofs.Ytljnffanajcifaa
open Go.RowKit

/-- n texts in block r that may be written; the first m bear marks from k on. -/
def WT (w : World) (r n k m : Nat) : Prop := ∃ arr : Array Value, w.heap[r]? = some (.cells arr 9 (0, 0)) ∧ n ≤ arr.size ∧ ∀ i, i < m → arr[i]? = some (.string ⟨(mk (k + i)).toArray⟩)
theorem WT.lt {w : World} {r n k m : Nat} (h : WT w r n k m) : r < w.heap.size := by
  obtain ⟨arr, ha, -⟩ := h
  exact blk_lt ha
/-- The row v of n texts, in a block of S that may be written; the first m bear marks from k on. -/
def WTv (S : Nat → Prop) (w : World) (v : Value) (n k m : Nat) : Prop := ∃ ad c, v = .slice ad n c ∧ (0 < n → ∃ r, ad = some ⟨r, 0, none⟩ ∧ S r ∧ WT w r n k m)
theorem WTv.lt {S : Nat → Prop} {w : World} {v : Value} {n k m : Nat} (h : WTv S w v n k m) (h0 : 0 < n) {r : Nat} (e : v.ownBlock = some r) : r < w.heap.size := by
  obtain ⟨ad, c, rfl, f⟩ := h
  obtain ⟨r', rfl, h1, h2⟩ := f h0
  obtain rfl : r' = r := by simpa [Value.ownBlock] using e
  exact h2.lt
end Go.Proofs.Ytljnffanajcifaa
