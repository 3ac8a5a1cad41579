/- A worker, plain; its size, its copy, how it is opened; two of the same; WorkerNew and FallWorker of the specification; the program's lock about a worker. -/
import Derived.Test.YtljnffanajcifaaMPWnMsL
import Derived.Test.YtljnffanajcifaaMPWnMfs
import Derived.Test.YtljnffanajcifaaMPWnShelfC
import Derived.Test.YtljnffanajcifaaMPWnWkM
namespace Go.Proofs.Ytljnffanajcifaa
open Go.RowKit

/-- A worker, plain. -/
structure Wk where
  id : Int
  up : Bool
  task : Int
  try_ : Int
  res : ByteArray
namespace Wk
def val (m : Wk) : Value := .agg #[.int .i64 m.id, .bool m.up, .int .i64 m.task, .int .i64 m.try_, .string m.res]
/-- One that is new, and one that has fallen. -/
def new (i : Int) : Wk := ⟨i, true, 0, 0, ByteArray.empty⟩
end Wk
theorem hidOfW {p : Prop} (h : p) : Hid p := h

set_option maxHeartbeats 2000000 in
set_option maxRecDepth 100000 in
theorem eqWorker_any (m : Wk) (w : World) : Calls Try.prog 8 #[m.val, m.val] w fun e w' => e = .returned (.bool true) ∧ Below w.heap.size w w' := by
  obtain ⟨kd, wk, tk, tr, bo⟩ := m
  unfold Wk.val
  simp only
  have HB : Hid (Below w.heap.size w ((w.alloc (.cells #[.int .i64 kd, .bool wk, .int .i64 tk, .int .i64 tr, .string bo] 23)).alloc (.cells #[.int .i64 kd, .bool wk, .int .i64 tk, .int .i64 tr, .string bo] 23))) := ((Below.refl _ _).alloc (Nat.le_refl _) _).alloc (by simp) _
  have n0 : (kd != kd) = false := by simp
  have n1 : (wk != wk) = false := by simp
  have n2 : (tk != tk) = false := by simp
  have n3 : (tr != tr) = false := by simp
  have n4 : (!(bo.toList == bo.toList)) = false := by simp
  go_enter Try.func8, Try.ntmps8
  go_wp2
  go_ret
  exact ⟨rfl, HB.out⟩

end Go.Proofs.Ytljnffanajcifaa
