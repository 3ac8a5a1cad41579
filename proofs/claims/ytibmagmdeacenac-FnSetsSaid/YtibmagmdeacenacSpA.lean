/- Where a piece may end, by the specification: whether a piece takes a byte. -/
import Derived.Test.YtibmagmdeacenacPEn
import Derived.Test.YtibmagmdeacenacPtB
namespace Go.Proofs.Ytibmagmdeacenac
open Go.RowKit

theorem mem_take (t : ByteArray) (k : Nat) (b : UInt8) (h : k < t.size) : (b ∈ t.data.toList.take (k + 1)) ↔ (b ∈ t.data.toList.take k ∨ t[k].toNat = b.toNat) := by
  rw [List.take_succ_eq_append_getElem (by simpa using h), List.mem_append, List.mem_singleton]
  refine or_congr Iff.rfl ?_
  constructor
  · intro e; rw [e]; rfl
  · intro e; exact (UInt8.toNat_inj.1 e).symm

end Go.Proofs.Ytibmagmdeacenac
