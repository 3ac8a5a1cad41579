/- A field of a value. -/
import Derived.Test.YtjbodcakhnkggarStS
namespace Go.Proofs.Ytjbodcakhnkggar
open Go.RowKit
set_option maxRecDepth 100000 in
theorem fieldVal (x0 x1 : ByteArray) (W : World) : (Instr.field 65 (.agg #[.string x0, .string x1]) 1).run Try.prog W = .ok (.string x1) W := by
  first | rfl | kernel_rfl | simp [Instr.field, go_sem]
set_option maxRecDepth 100000 in
theorem fieldVal3 (x0 x1 x2 : ByteArray) (W : World) : (Instr.field 43 (.agg #[.string x0, .string x1, .string x2]) 2).run Try.prog W = .ok (.string x2) W := by
  first | rfl | kernel_rfl | simp [Instr.field, go_sem]
end Go.Proofs.Ytjbodcakhnkggar
