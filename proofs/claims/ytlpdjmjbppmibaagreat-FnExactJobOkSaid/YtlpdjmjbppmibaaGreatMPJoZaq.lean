/- strings.Compare What is found by: foundBy of a Var and of a Cell; the first one of a list. When a store is right: how the program compares keys, and whether a list ascends. -/
import Derived.Shelf.Small.Utf8
import Derived.Shelf.Small.Strs
import Derived.Shelf.LaysM
import Derived.Shelf.Strconv.Clone
import Derived.Shelf.Strings.Search1
import Derived.Shelf.Strings.Search2
import Derived.Shelf.Strings.Cut
import Derived.Shelf.Strings.Shaped
import Derived.Shelf.Strings.Runes
import Derived.Shelf.Bits.Mul64
import Derived.Ground.Names2Prog
import Derived.Shelf.Slices.SearchI
import Derived.Test.YtlpdjmjbppmibaaGreatProg
import Derived.Test.YtlpdjmjbppmibaaGreatMPJoZah
import Derived.Laws.StructEq
import Derived.Deep.RegionWith
namespace Go.Proofs.YtlpdjmjbppmibaaGreat
section PartShelfO
open Go.Shelf Go.Proofs
def Tryz.lays106_ren : Go.Shelf.Ren := ⟨fun | 106 => 105 | 213 => 111 | 265 => 122 | n => n, fun | 9 => 9 | 3 => 3 | n => n, fun | n => n⟩
theorem Tryz.lays106 : Go.Proofs.Lays.n106 Tryz.prog Tryz.lays106_ren := {
  mixed := by kernel_rfl
  f106 := Tryz.func105.trans (congrArg some (by kernel_rfl))
  f213 := Tryz.func111.trans (congrArg some (by kernel_rfl))
  f265 := Tryz.func122.trans (congrArg some (by kernel_rfl))
  t3 := Tryz.underlying3
  a3 := Tryz.isAgg3
  z3 := Tryz.sizeOf3
  v3 := Tryz.zeroValue3
  t9 := Tryz.underlying9
  a9 := Tryz.isAgg9
  z9 := Tryz.sizeOf9
  v9 := Tryz.zeroValue9 }
open Go.RowKit in
theorem Tryz.strings_Compare (a b : ByteArray) (w : World) :
    Calls Tryz.prog 105 #[.string a, .string b] w fun e w' => e = .returned (.int .i64 (Lib.compareBytes a.data.toList b.data.toList)) ∧ w' = w := Any.strings_Compare Tryz.lays106 a b w
end PartShelfO
section PartFbA
open Go.RowKit

set_option maxHeartbeats 800000 in
theorem foundVar (x0 x1 : ByteArray) (w : World) :
    Calls Tryz.prog 160 #[.agg #[.string x0, .string x1]] w fun e w' => e = .returned (.agg #[.string x0, .string ByteArray.empty]) ∧ Below w.heap.size w w' := by
  go_enter Tryz.func160, Tryz.ntmps160
  go_wp2_with fail
  refine bodyPost_ret (results_cell_row (p := 2) (ty := 133) rfl _ _ (w.heap.size + 1) 133 _ (0, 0) _ rfl (s2_1 _ _ _) Tryz.underlying133 rfl (by kernel_rfl)) rfl ?_
  exact ⟨rfl, ((Below.refl _ _).alloc (Nat.le_refl _) _).alloc (by simp) _⟩
set_option maxHeartbeats 800000 in
theorem foundCell (x0 x1 x2 : ByteArray) (w : World) :
    Calls Tryz.prog 162 #[.agg #[.string x0, .string x1, .string x2]] w fun e w' => e = .returned (.agg #[.string x0, .string x1]) ∧ Below w.heap.size w w' := by
  go_enter Tryz.func162, Tryz.ntmps162
  go_wp2_with fail
  refine bodyPost_ret (results_cell_row (p := 2) (ty := 133) rfl _ _ (w.heap.size + 1) 133 _ (0, 0) _ rfl (s2_1 _ _ _) Tryz.underlying133 rfl (by kernel_rfl)) rfl ?_
  exact ⟨rfl, ((Below.refl _ _).alloc (Nat.le_refl _) _).alloc (by simp) _⟩


end PartFbA
section PartOkB
open Go.RowKit

set_option maxHeartbeats 800000 in
theorem orInt (x y : Int) (b : Nat) (w : World) (h : w.heap[b]? = some (.cells #[.int .i64 x, .int .i64 y] 3 (0, 0))) :
    Calls Tryz.prog 104 #[.slice (some ⟨b, 0, none⟩) 2 2] w fun e w' => e = .returned (.int .i64 (if x = 0 then y else x)) ∧ w' = w := by
  have c0 := blk_cell h 0
  have c1 := blk_cell h 1
  simp only [List.getElem?_toArray, List.getElem?_cons_zero, List.getElem?_cons_succ] at c0 c1
  clear h
  by_cases hx : x = 0
  · subst hx
    by_cases hy : y = 0
    · subst hy
      go_enter Tryz.func104, Tryz.ntmps104
      go_wp2
      refine wp_loop_rounds 3 ?_
      rw [rounds_succ]
      go_wp2
      rw [rounds_succ]
      go_wp2
      rw [rounds_succ]
      go_wp2
      go_ret
      exact ⟨rfl, rfl⟩
    · have d : (y != 0) = true := by simpa using hy
      go_enter Tryz.func104, Tryz.ntmps104
      go_wp2
      refine wp_loop_rounds 3 ?_
      rw [rounds_succ]
      go_wp2
      rw [rounds_succ]
      go_wp2
      go_ret
      exact ⟨rfl, rfl⟩
  · have d : (x != 0) = true := by simpa using hx
    have HX : Hid (¬ x = 0) := hx
    clear hx
    go_enter Tryz.func104, Tryz.ntmps104
    go_wp2
    refine wp_loop_rounds 3 ?_
    rw [rounds_succ]
    go_wp2
    go_ret
    exact ⟨rfl, rfl⟩

set_option maxRecDepth 100000 in
set_option maxHeartbeats 1600000 in
theorem compKey (a0 a1 b0 b1 : ByteArray) (w : World) :
    Calls Tryz.prog 90 #[.agg #[.string a0, .string a1], .agg #[.string b0, .string b1]] w fun e w' => e = .returned (.int .i64 (St.cmp2 a0 a1 b0 b1)) ∧ Below w.heap.size w w' := by
  have C0 : Hid (∀ W, Calls Tryz.prog 105 #[.string a0, .string b0] W fun e w' => e = .returned (.int .i64 (Lib.compareBytes a0.data.toList b0.data.toList)) ∧ w' = W) := fun W => Tryz.strings_Compare a0 b0 W
  have C1 : Hid (∀ W, Calls Tryz.prog 105 #[.string a1, .string b1] W fun e w' => e = .returned (.int .i64 (Lib.compareBytes a1.data.toList b1.data.toList)) ∧ w' = W) := fun W => Tryz.strings_Compare a1 b1 W
  obtain ⟨R, hR⟩ : ∃ R, R = St.cmp2 a0 a1 b0 b1 := ⟨_, rfl⟩
  obtain ⟨X, hX⟩ : ∃ X, X = Lib.compareBytes a0.data.toList b0.data.toList := ⟨_, rfl⟩
  obtain ⟨Y, hY⟩ : ∃ Y, Y = Lib.compareBytes a1.data.toList b1.data.toList := ⟨_, rfl⟩
  have HR : Hid (R = if X = 0 then Y else X) := by rw [hR, hX, hY]; rfl
  rw [← hX] at C0
  rw [← hY] at C1
  rw [← hR]
  clear hX hY hR
  have CO : Hid (∀ b W, W.heap[b]? = some (.cells #[.int .i64 X, .int .i64 Y] 3 (0, 0)) → Calls Tryz.prog 104 #[.slice (some ⟨b, 0, none⟩) 2 2] W fun e w' => e = .returned (.int .i64 R) ∧ w' = W) := fun b W h => by rw [HR.out]; exact orInt X Y b W h
  clear HR
  have HB : Hid (Below w.heap.size w ((w.alloc (.cells #[.string a0, .string a1] 133)).alloc (.cells #[.string b0, .string b1] 133))) := ((Below.refl _ _).alloc (Nat.le_refl _) _).alloc (by simp) _
  have q0 := s2_0 w (.cells #[.string a0, .string a1] 133) (.cells #[.string b0, .string b1] 133)
  have q1 := s2_1 w (.cells #[.string a0, .string a1] 133) (.cells #[.string b0, .string b1] 133)
  have z0 := blk_cell q0 0
  have z1 := blk_cell q0 1
  have z2 := blk_cell q1 0
  have z3 := blk_cell q1 1
  simp only [List.getElem?_toArray, List.getElem?_cons_zero, List.getElem?_cons_succ] at z0 z1 z2 z3
  clear q0 q1
  go_enter Tryz.func90, Tryz.ntmps90
  go_wp2_with fail
  generalize (w.alloc (.cells #[.string a0, .string a1] 133)).alloc (.cells #[.string b0, .string b1] 133) = W0 at *
  go_region_held3 (fun W => W.cell? ⟨w.heap.size, 0, none⟩ = some (.string a0) ∧ W.cell? ⟨w.heap.size, 1, none⟩ = some (.string a1) ∧ W.cell? ⟨w.heap.size + 1, 0, none⟩ = some (.string b0) ∧ W.cell? ⟨w.heap.size + 1, 1, none⟩ = some (.string b1)) (first | go_keep | assumption) ((first
    | (go_at_call_of 105 (Value.string a0); refine (C0.out _).mono ?_; rintro e w1 ⟨rfl, rfl⟩)
    | (go_at_call_of 105 (Value.string a1); refine (C1.out _).mono ?_; rintro e w1 ⟨rfl, rfl⟩)
    | (go_at_call 104; refine (CO.out W0.heap.size (W0.drew.alloc (.cells #[.int .i64 X, .int .i64 Y] 3)) (heap_alloc_new W0.drew (.cells #[.int .i64 X, .int .i64 Y] 3))).mono ?_; rintro e w1 ⟨rfl, rfl⟩)))
  all_goals
    go_wp2
    go_ret
    exact ⟨rfl, (HB.out.alloc HB.out.size _).drew⟩
end PartOkB
end Go.Proofs.YtlpdjmjbppmibaaGreat
