/- A message in the law: its size, its copy, how it is opened; the law on MessageOk, from what the program answers. -/
import Derived.Test.YtdkenmpdgadcpaaDoorMPMtMsP
import Derived.Test.YtdkenmpdgadcpaaDoorMPMtCoS
namespace Go.Proofs.YtdkenmpdgadcpaaDoor
open Go.RowKit

theorem hidOfM {p : Prop} (h : p) : Hid p := h
set_option maxHeartbeats 1000000 in
set_option maxRecDepth 100000 in
theorem szMessage_any (m : Ms) (l : Int) (w : World) (hl0 : 0 ≤ l) (hl : l ≤ 1048576) (hb : m.body.size ≤ maxLen) :
    Calls Tryd.prog 5 #[m.val, .int .i64 l] w fun e w' => Below w.heap.size w w' ∧ ∃ r : Int, e = .returned (.int .i64 r) ∧ (r = -1 ∨ (0 ≤ r ∧ r ≤ l ∧ m.body.size ≤ 1048576)) := by
  obtain ⟨kd, wk, tk, tr, bo⟩ := m
  have hb2 : bo.size ≤ 9223372036854775807 := by unfold maxLen at hb; exact hb
  have HA : Hid (Below w.heap.size w (w.alloc (.cells #[.int .i64 kd, .int .i64 wk, .int .i64 tk, .int .i64 tr, .string bo] 23))) := (Below.refl _ _).alloc (Nat.le_refl _) _
  clear hb
  unfold Ms.val
  simp only
  by_cases h : l - (bo.size : Int) < 0
  · have d0 : decide (l - (bo.size : Int) < 0) = true := decide_eq_true h
    go_enter Tryd.func5, Tryd.ntmps5
    go_wp2
    go_ret
    exact ⟨HA.out, -1, rfl, .inl rfl⟩
  · have d0 : decide (l - (bo.size : Int) < 0) = false := decide_eq_false h
    go_enter Tryd.func5, Tryd.ntmps5
    go_wp2
    go_ret
    exact ⟨HA.out, l - (bo.size : Int), rfl, .inr ⟨by omega, by omega, by omega⟩⟩
set_option maxHeartbeats 2000000 in
set_option maxRecDepth 100000 in
theorem toMessage_any (m : Ms) (w : World) : Calls Tryd.prog 7 #[m.val] w fun e w' => e = .returned m.val ∧ Below w.heap.size w w' := by
  obtain ⟨kd, wk, tk, tr, bo⟩ := m
  unfold Ms.val
  simp only
  go_enter Tryd.func7, Tryd.ntmps7
  go_wp2
  refine bodyPost_ret (results_cell_row rfl _ _ (w.heap.size + 1) 27 #[.int .i64 kd, .int .i64 wk, .int .i64 tk, .int .i64 tr, .string bo] (0, 0) _ rfl (alloc3_1 _ _ _ _) Tryd.underlying27 rfl (by kernel_rfl)) rfl ?_
  exact ⟨rfl, (((Below.refl _ _).alloc (Nat.le_refl _) _).alloc (by simp) _).alloc (by simp; omega) _⟩

open Go.ChangeShapes Go.WideShapes Go.ChangeAt Go.Deep in
set_option maxRecDepth 100000 in
theorem msgOpen {H : Type} {enc : TypeId × Value → H} {W : World} {base : Nat} {v : Value} {d : DataW H} {p : List MemPlace} (hval : Value.okWide Tryd.prog W .any base 23 v)
    (h : DataW.Trod enc Tryd.prog W 0 (fun _ => true) true 23 v d p) : ∃ m : Ms, v = m.val ∧ m.body.size ≤ maxLen := by
  obtain ⟨cs, rfl, hsz⟩ := okWide_struct Tryd.underlying23 hval
  have hC : Tryd.prog.cellsOf 23 = 5 := by kernel_rfl
  rw [hC] at hsz
  obtain ⟨l⟩ := cs
  match l, hsz with
  | [u0, u1, u2, u3, u4], _ =>
    obtain ⟨fuel, hf⟩ := h
    obtain ⟨ys, n, _, _, _, hxl, hff⟩ := DataW.trod_struct Tryd.underlying23 hf
    match ys, hxl with
    | [y0, y1, y2, y3, y4], _ =>
      have g0 := hff 0 _ rfl
      have g1 := hff 1 _ rfl
      have g2 := hff 2 _ rfl
      have g3 := hff 3 _ rfl
      have g4 := hff 4 _ rfl
      have c2 : Tryd.prog.cellsOf 3 = 1 := by kernel_rfl
      have c3 : Tryd.prog.cellsOf 9 = 1 := by kernel_rfl
      simp [Value.cells, c2, c3] at g0 g1 g2 g3 g4
      obtain ⟨o0, e0, _, _⟩ := DataW.trod_int Tryd.underlying3 g0
      obtain ⟨o1, e1, _, _⟩ := DataW.trod_int Tryd.underlying3 g1
      obtain ⟨o2, e2, _, _⟩ := DataW.trod_int Tryd.underlying3 g2
      obtain ⟨o3, e3, _, _⟩ := DataW.trod_int Tryd.underlying3 g3
      obtain ⟨o4, e4, _, t4⟩ := DataW.trod_string Tryd.underlying9 g4
      simp at e0 e1 e2 e3 e4
      subst e0 e1 e2 e3 e4
      exact ⟨⟨o0, o1, o2, o3, o4⟩, rfl, t4⟩

end Go.Proofs.YtdkenmpdgadcpaaDoor
