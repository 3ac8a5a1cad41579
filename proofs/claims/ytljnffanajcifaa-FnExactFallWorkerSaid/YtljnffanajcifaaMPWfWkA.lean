/- A worker, plain; its size, its copy, how it is opened; two of the same; WorkerNew and FallWorker of the specification; the program's lock about a worker. -/
import Derived.Test.YtljnffanajcifaaMPWfMsL
import Derived.Test.YtljnffanajcifaaMPWfMfs
import Derived.Test.YtljnffanajcifaaMPWfShelfC
import Derived.Test.YtljnffanajcifaaMPWfWkM
namespace Go.Proofs.Ytljnffanajcifaa
open Go.RowKit

/-- A worker, plain. -/
structure Wk where
  id : Int
  up : Bool
  task : Int
  try_ : Int
  res : ByteArray
namespace Wk
def val (m : Wk) : Value := .agg #[.int .i64 m.id, .bool m.up, .int .i64 m.task, .int .i64 m.try_, .string m.res]
def fall (m : Wk) : Wk := ⟨m.id, false, 0, 0, ByteArray.empty⟩
end Wk
theorem hidOfW {p : Prop} (h : p) : Hid p := h

set_option maxHeartbeats 1000000 in
set_option maxRecDepth 100000 in
theorem szWorker_any (m : Wk) (l : Int) (w : World) (hl0 : 0 ≤ l) (hl : l ≤ 1048576) (hb : m.res.size ≤ maxLen) :
    Calls Try.prog 9 #[m.val, .int .i64 l] w fun e w' => Below w.heap.size w w' ∧ ∃ r : Int, e = .returned (.int .i64 r) ∧ (r = -1 ∨ (0 ≤ r ∧ r ≤ l ∧ m.res.size ≤ 1048576)) := by
  obtain ⟨kd, wk, tk, tr, bo⟩ := m
  have hb2 : bo.size ≤ 9223372036854775807 := by unfold maxLen at hb; exact hb
  have HA : Hid (Below w.heap.size w (w.alloc (.cells #[.int .i64 kd, .bool wk, .int .i64 tk, .int .i64 tr, .string bo] 27))) := (Below.refl _ _).alloc (Nat.le_refl _) _
  clear hb
  unfold Wk.val
  simp only
  by_cases h : l - (bo.size : Int) < 0
  · have d0 : decide (l - (bo.size : Int) < 0) = true := decide_eq_true h
    go_enter Try.func9, Try.ntmps9
    go_wp2
    go_ret
    exact ⟨HA.out, -1, rfl, .inl rfl⟩
  · have d0 : decide (l - (bo.size : Int) < 0) = false := decide_eq_false h
    go_enter Try.func9, Try.ntmps9
    go_wp2
    go_ret
    exact ⟨HA.out, l - (bo.size : Int), rfl, .inr ⟨by omega, by omega, by omega⟩⟩

set_option maxHeartbeats 2000000 in
set_option maxRecDepth 100000 in
theorem toWorker_any (m : Wk) (w : World) : Calls Try.prog 11 #[m.val] w fun e w' => e = .returned m.val ∧ Below w.heap.size w w' := by
  obtain ⟨kd, wk, tk, tr, bo⟩ := m
  unfold Wk.val
  simp only
  go_enter Try.func11, Try.ntmps11
  go_wp2
  refine bodyPost_ret (results_cell_row rfl _ _ (w.heap.size + 1) 23 #[.int .i64 kd, .bool wk, .int .i64 tk, .int .i64 tr, .string bo] (0, 0) _ rfl (alloc3_1 _ _ _ _) Try.underlying23 rfl (by kernel_rfl)) rfl ?_
  exact ⟨rfl, (((Below.refl _ _).alloc (Nat.le_refl _) _).alloc (by simp) _).alloc (by simp; omega) _⟩

set_option maxHeartbeats 2000000 in
set_option maxRecDepth 100000 in
theorem eqWorker_any (m : Wk) (w : World) : Calls Try.prog 8 #[m.val, m.val] w fun e w' => e = .returned (.bool true) ∧ Below w.heap.size w w' := by
  obtain ⟨kd, wk, tk, tr, bo⟩ := m
  unfold Wk.val
  simp only
  have HB : Hid (Below w.heap.size w ((w.alloc (.cells #[.int .i64 kd, .bool wk, .int .i64 tk, .int .i64 tr, .string bo] 23)).alloc (.cells #[.int .i64 kd, .bool wk, .int .i64 tk, .int .i64 tr, .string bo] 23))) := ((Below.refl _ _).alloc (Nat.le_refl _) _).alloc (by simp) _
  have n0 : (kd != kd) = false := by simp
  have n1 : (wk != wk) = false := by simp
  have n2 : (tk != tk) = false := by simp
  have n3 : (tr != tr) = false := by simp
  have n4 : (!(bo.toList == bo.toList)) = false := by simp
  go_enter Try.func8, Try.ntmps8
  go_wp2
  go_ret
  exact ⟨rfl, HB.out⟩

open Go.ChangeShapes Go.WideShapes Go.ChangeAt Go.Deep in
set_option maxRecDepth 100000 in
theorem workerOpen {H : Type} {enc : TypeId × Value → H} {W : World} {base : Nat} {v : Value} {d : DataW H} {p : List MemPlace} (hval : Value.okWide Try.prog W .any base 27 v)
    (h : DataW.Trod enc Try.prog W 0 (fun _ => true) true 27 v d p) : ∃ m : Wk, v = m.val ∧ m.res.size ≤ maxLen := by
  obtain ⟨cs, rfl, hsz⟩ := okWide_struct Try.underlying27 hval
  have hC : Try.prog.cellsOf 27 = 5 := by kernel_rfl
  rw [hC] at hsz
  obtain ⟨l⟩ := cs
  match l, hsz with
  | [u0, u1, u2, u3, u4], _ =>
    obtain ⟨fuel, hf⟩ := h
    obtain ⟨ys, n, _, _, _, hxl, hff⟩ := DataW.trod_struct Try.underlying27 hf
    match ys, hxl with
    | [y0, y1, y2, y3, y4], _ =>
      have g0 := hff 0 _ rfl
      have g1 := hff 1 _ rfl
      have g2 := hff 2 _ rfl
      have g3 := hff 3 _ rfl
      have g4 := hff 4 _ rfl
      have c2 : Try.prog.cellsOf 3 = 1 := by kernel_rfl
      have c3 : Try.prog.cellsOf 9 = 1 := by kernel_rfl
      have c4 : Try.prog.cellsOf 4 = 1 := by kernel_rfl
      simp [Value.cells, c2, c3, c4] at g0 g1 g2 g3 g4
      obtain ⟨o0, e0, _, _⟩ := DataW.trod_int Try.underlying3 g0
      obtain ⟨o1, e1, _⟩ := DataW.trod_bool Try.underlying4 g1
      obtain ⟨o2, e2, _, _⟩ := DataW.trod_int Try.underlying3 g2
      obtain ⟨o3, e3, _, _⟩ := DataW.trod_int Try.underlying3 g3
      obtain ⟨o4, e4, _, t4⟩ := DataW.trod_string Try.underlying9 g4
      simp at e0 e1 e2 e3 e4
      subst e0 e1 e2 e3 e4
      exact ⟨⟨o0, o1, o2, o3, o4⟩, rfl, t4⟩
end Go.Proofs.Ytljnffanajcifaa
