/- A message: when it is right; the specification of MessageOk. -/
import Derived.Test.YtljnffanajcifaaMPWtVrA
import Derived.Test.YtljnffanajcifaaMPWtCoS
import Derived.Lib.Strings
import Derived.Deep.RegionHeld3
import Derived.Deep.RegionWith
namespace Go.Proofs.Ytljnffanajcifaa
open Go.RowKit

/-- A message, plain. -/
structure Ms where
  kind : Int
  worker : Int
  task : Int
  try_ : Int
  body : ByteArray
namespace Ms
def val (m : Ms) : Value := .agg #[.int .i64 m.kind, .int .i64 m.worker, .int .i64 m.task, .int .i64 m.try_, .string m.body]
/-- When it is right. -/
def ok (m : Ms) : Bool := decide (1 ≤ m.kind ∧ m.kind ≤ 4) && (decide (1 ≤ m.worker ∧ m.worker ≤ 3) && (decide (0 ≤ m.task ∧ m.task ≤ 20) && (decide (0 ≤ m.try_ ∧ m.try_ ≤ 1000000000) && (decide (m.body.size ≤ 15000) && (decide (m.kind = 2) || (decide (m.kind = 3) || decide (m.body.size = 0)))))))
end Ms
end Go.Proofs.Ytljnffanajcifaa
