/- What ShortText and ReadShort answer, the program's and the specification's, and that the laws on ReadVar, ShortText and ReadShort answer true. -/
import Derived.Test.YtdkenmpdgadcpaaDoorMPMtZac
import Derived.Test.YtdkenmpdgadcpaaDoorMPMtVrC
namespace Go.Proofs.YtdkenmpdgadcpaaDoor
open Go.RowKit

theorem implVar_nat (n : Nat) (w : World) (h : n ≤ 1000000000) :
    Calls Tryd.prog 32 #[.int .i64 n] w fun e w' => e = .returned (.tuple #[.string ⟨(Pl.vb 8 n).toArray⟩, .bool true]) ∧ Below w.heap.size w w' := by
  have := implVarText_any n w
  rwa [varRes_yes n (by omega)] at this

end Go.Proofs.YtdkenmpdgadcpaaDoor
