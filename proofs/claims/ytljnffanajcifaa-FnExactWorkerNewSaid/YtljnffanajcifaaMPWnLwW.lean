/- The laws on WorkerNew, FallWorker and TickWorker: at every argument they answer as the specification. -/
import Derived.Test.YtljnffanajcifaaMPWnWkD
namespace Go.Proofs.Ytljnffanajcifaa
open Go.RowKit

set_option maxHeartbeats 4000000 in
set_option maxRecDepth 100000 in
theorem lawWorkerNew (i : Int) (w : World) : Calls Try.prog 3 #[.int .i64 i] w fun e w' => e = .returned (.bool true) ∧ Below w.heap.size w w' := by
  have CS := hidOfW (fun (W : World) => spNew i W)
  have CI := hidOfW (fun (W : World) => imNew i W)
  have CE := hidOfW (fun (W : World) => eqWorker_any (Wk.new i) W)
  unfold Wk.val Wk.new at *
  simp only at *
  generalize ByteArray.empty = em at *
  go_enter Try.func3, Try.ntmps3
  go_wp2_with fail
  refine (CS.out _).mono ?_
  rintro e w1 ⟨rfl, hb1⟩
  have HB : Hid (Below w.heap.size w (w1.alloc (.cells #[.int .i64 i, .bool true, .int .i64 0, .int .i64 0, .string em] 23))) := hb1.alloc hb1.size _
  have HQ := hidOfW (heap_alloc_new w1 (.cells #[.int .i64 i, .bool true, .int .i64 0, .int .i64 0, .string em] 23))
  clear hb1 CS
  go_wp2_with fail
  generalize w1.alloc (.cells #[.int .i64 i, .bool true, .int .i64 0, .int .i64 0, .string em] 23) = W0 at *
  refine (CI.out _).mono ?_
  rintro e w2 ⟨rfl, hb2⟩
  have hb3 := hb2.alloc hb2.size (.cells #[.int .i64 i, .bool true, .int .i64 0, .int .i64 0, .string em] 23)
  have R := (hb3.block _ (blk_lt HQ.out)).trans HQ.out
  have HB3 := hidOfW (HB.out.trans (hb3.mono HB.out.size))
  have x0 := (blk_cell R 0).trans rfl
  have x1 := (blk_cell R 1).trans rfl
  have x2 := (blk_cell R 2).trans rfl
  have x3 := (blk_cell R 3).trans rfl
  have x4 := (blk_cell R 4).trans rfl
  clear hb2 hb3 R CI HB HQ
  go_wp2_with fail
  refine (CE.out _).mono ?_
  rintro e w4 ⟨rfl, hb4⟩
  have HB4 := hidOfW (HB3.out.trans (hb4.mono HB3.out.size))
  clear hb4 CE HB3 x0 x1 x2 x3 x4
  go_wp2_with fail
  go_ret
  exact ⟨rfl, HB4.out⟩

end Go.Proofs.Ytljnffanajcifaa
