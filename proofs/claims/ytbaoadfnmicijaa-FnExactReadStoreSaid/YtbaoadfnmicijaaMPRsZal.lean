/- strings.Compare What is found by: foundBy of a Var and of a Cell; the first one of a list. -/
import Derived.Shelf.Strings.Builder1
import Derived.Shelf.Small.Utf8
import Derived.Shelf.Small.Strs
import Derived.Shelf.Strings.BuilderF
import Derived.Shelf.Strings.BuilderK
import Derived.Shelf.LaysM
import Derived.Shelf.Strconv.Clone
import Derived.Shelf.Strings.Search1
import Derived.Shelf.Strings.Runes
import Derived.Test.YtbaoadfnmicijaaProg
import Derived.Test.YtbaoadfnmicijaaMPRsZak
import Derived.Laws.StructEq
import Derived.Deep.RegionWith
namespace Go.Proofs.Ytbaoadfnmicijaa
section PartShelfO
open Go.Shelf Go.Proofs
def Try.lays106_ren : Go.Shelf.Ren := ⟨fun | 106 => 68 | 213 => 72 | 265 => 74 | n => n, fun | 9 => 9 | 3 => 3 | n => n, fun | n => n⟩
theorem Try.lays106 : Go.Proofs.Lays.n106 Try.prog Try.lays106_ren := {
  mixed := by kernel_rfl
  f106 := Try.func68.trans (congrArg some (by kernel_rfl))
  f213 := Try.func72.trans (congrArg some (by kernel_rfl))
  f265 := Try.func74.trans (congrArg some (by kernel_rfl))
  t3 := Try.underlying3
  a3 := Try.isAgg3
  z3 := Try.sizeOf3
  v3 := Try.zeroValue3
  t9 := Try.underlying9
  a9 := Try.isAgg9
  z9 := Try.sizeOf9
  v9 := Try.zeroValue9 }
open Go.RowKit in
theorem Try.strings_Compare (a b : ByteArray) (w : World) :
    Calls Try.prog 68 #[.string a, .string b] w fun e w' => e = .returned (.int .i64 (Lib.compareBytes a.data.toList b.data.toList)) ∧ w' = w := Any.strings_Compare Try.lays106 a b w
end PartShelfO
section PartFbA
open Go.RowKit

set_option maxHeartbeats 800000 in
theorem foundVar (x0 x1 : ByteArray) (w : World) :
    Calls Try.prog 97 #[.agg #[.string x0, .string x1]] w fun e w' => e = .returned (.agg #[.string x0, .string ByteArray.empty]) ∧ Below w.heap.size w w' := by
  go_enter Try.func97, Try.ntmps97
  go_wp2_with fail
  refine bodyPost_ret (results_cell_row (p := 2) (ty := 108) rfl _ _ (w.heap.size + 1) 108 _ (0, 0) _ rfl (s2_1 _ _ _) Try.underlying108 rfl (by kernel_rfl)) rfl ?_
  exact ⟨rfl, ((Below.refl _ _).alloc (Nat.le_refl _) _).alloc (by simp) _⟩
set_option maxHeartbeats 800000 in
theorem foundCell (x0 x1 x2 : ByteArray) (w : World) :
    Calls Try.prog 99 #[.agg #[.string x0, .string x1, .string x2]] w fun e w' => e = .returned (.agg #[.string x0, .string x1]) ∧ Below w.heap.size w w' := by
  go_enter Try.func99, Try.ntmps99
  go_wp2_with fail
  refine bodyPost_ret (results_cell_row (p := 2) (ty := 108) rfl _ _ (w.heap.size + 1) 108 _ (0, 0) _ rfl (s2_1 _ _ _) Try.underlying108 rfl (by kernel_rfl)) rfl ?_
  exact ⟨rfl, ((Below.refl _ _).alloc (Nat.le_refl _) _).alloc (by simp) _⟩


end PartFbA
end Go.Proofs.Ytbaoadfnmicijaa
