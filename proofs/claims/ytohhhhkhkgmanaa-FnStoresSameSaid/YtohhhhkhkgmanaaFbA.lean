/- What is found by: foundBy of a Var and of a Cell; the first one of a list. -/
import Derived.Test.YtohhhhkhkgmanaaZab
import Derived.Laws.StructEq
import Derived.Deep.RegionWith
namespace Go.Proofs.Ytohhhhkhkgmanaa
open Go.RowKit

set_option maxHeartbeats 800000 in
theorem foundVar (x0 x1 : ByteArray) (w : World) :
    Calls Try.prog 145 #[.agg #[.string x0, .string x1]] w fun e w' => e = .returned (.agg #[.string x0, .string ByteArray.empty]) ∧ Below w.heap.size w w' := by
  go_enter Try.func145, Try.ntmps145
  go_wp2_with fail
  refine bodyPost_ret (results_cell_row (p := 2) (ty := 59) rfl _ _ (w.heap.size + 1) 59 _ (0, 0) _ rfl (s2_1 _ _ _) Try.underlying59 rfl (by kernel_rfl)) rfl ?_
  exact ⟨rfl, ((Below.refl _ _).alloc (Nat.le_refl _) _).alloc (by simp) _⟩
set_option maxHeartbeats 800000 in
theorem foundCell (x0 x1 x2 : ByteArray) (w : World) :
    Calls Try.prog 147 #[.agg #[.string x0, .string x1, .string x2]] w fun e w' => e = .returned (.agg #[.string x0, .string x1]) ∧ Below w.heap.size w w' := by
  go_enter Try.func147, Try.ntmps147
  go_wp2_with fail
  refine bodyPost_ret (results_cell_row (p := 2) (ty := 59) rfl _ _ (w.heap.size + 1) 59 _ (0, 0) _ rfl (s2_1 _ _ _) Try.underlying59 rfl (by kernel_rfl)) rfl ?_
  exact ⟨rfl, ((Below.refl _ _).alloc (Nat.le_refl _) _).alloc (by simp) _⟩


end Go.Proofs.Ytohhhhkhkgmanaa
