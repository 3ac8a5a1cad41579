/- A message: when it is right; the specification of MessageOk. -/
import Derived.Test.YtljnffanajcifaaMPWnVrA
import Derived.Test.YtljnffanajcifaaMPWnCoS
import Derived.Lib.Strings
import Derived.Deep.RegionHeld3
import Derived.Deep.RegionWith
namespace Go.Proofs.Ytljnffanajcifaa
open Go.RowKit

/-- A message, plain. -/
structure Ms where
  kind : Int
  worker : Int
  task : Int
  try_ : Int
  body : ByteArray
namespace Ms
def val (m : Ms) : Value := .agg #[.int .i64 m.kind, .int .i64 m.worker, .int .i64 m.task, .int .i64 m.try_, .string m.body]
end Ms
end Go.Proofs.Ytljnffanajcifaa
