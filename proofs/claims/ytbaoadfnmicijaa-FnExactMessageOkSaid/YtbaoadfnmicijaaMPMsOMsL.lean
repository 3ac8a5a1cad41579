/- A message in the law: its size, its copy, how it is opened; the law on MessageOk, from what the program answers. -/
import Derived.Test.YtbaoadfnmicijaaMPMsOMsP
import Derived.Test.YtbaoadfnmicijaaMPMsOStS
namespace Go.Proofs.Ytbaoadfnmicijaa
open Go.RowKit

theorem hidOfM {p : Prop} (h : p) : Hid p := h
set_option maxHeartbeats 1000000 in
set_option maxRecDepth 100000 in
theorem szMessage_any (m : Ms) (l : Int) (w : World) (hl0 : 0 ≤ l) (hl : l ≤ 1048576) (hb : m.body.size ≤ maxLen) :
    Calls Try.prog 15 #[m.val, .int .i64 l] w fun e w' => Below w.heap.size w w' ∧ ∃ r : Int, e = .returned (.int .i64 r) ∧ (r = -1 ∨ (0 ≤ r ∧ r ≤ l ∧ m.body.size ≤ 1048576)) := by
  obtain ⟨kd, wk, tk, tr, bo⟩ := m
  have hb2 : bo.size ≤ 9223372036854775807 := by unfold maxLen at hb; exact hb
  have HA : Hid (Below w.heap.size w (w.alloc (.cells #[.int .i64 kd, .int .i64 wk, .int .i64 tk, .int .i64 tr, .string bo] 41))) := (Below.refl _ _).alloc (Nat.le_refl _) _
  clear hb
  unfold Ms.val
  simp only
  by_cases h : l - (bo.size : Int) < 0
  · have d0 : decide (l - (bo.size : Int) < 0) = true := decide_eq_true h
    go_enter Try.func15, Try.ntmps15
    go_wp2
    go_ret
    exact ⟨HA.out, -1, rfl, .inl rfl⟩
  · have d0 : decide (l - (bo.size : Int) < 0) = false := decide_eq_false h
    go_enter Try.func15, Try.ntmps15
    go_wp2
    go_ret
    exact ⟨HA.out, l - (bo.size : Int), rfl, .inr ⟨by omega, by omega, by omega⟩⟩
set_option maxHeartbeats 2000000 in
set_option maxRecDepth 100000 in
theorem toMessage_any (m : Ms) (w : World) : Calls Try.prog 17 #[m.val] w fun e w' => e = .returned m.val ∧ Below w.heap.size w w' := by
  obtain ⟨kd, wk, tk, tr, bo⟩ := m
  unfold Ms.val
  simp only
  go_enter Try.func17, Try.ntmps17
  go_wp2
  refine bodyPost_ret (results_cell_row rfl _ _ (w.heap.size + 1) 44 #[.int .i64 kd, .int .i64 wk, .int .i64 tk, .int .i64 tr, .string bo] (0, 0) _ rfl (alloc3_1 _ _ _ _) Try.underlying44 rfl (by kernel_rfl)) rfl ?_
  exact ⟨rfl, (((Below.refl _ _).alloc (Nat.le_refl _) _).alloc (by simp) _).alloc (by simp; omega) _⟩

open Go.ChangeShapes Go.WideShapes Go.ChangeAt Go.Deep in
set_option maxRecDepth 100000 in
theorem msgOpen {H : Type} {enc : TypeId × Value → H} {W : World} {base : Nat} {v : Value} {d : DataW H} {p : List MemPlace} (hval : Value.okWide Try.prog W .any base 41 v)
    (h : DataW.Trod enc Try.prog W 0 (fun _ => true) true 41 v d p) : ∃ m : Ms, v = m.val ∧ m.body.size ≤ maxLen := by
  obtain ⟨cs, rfl, hsz⟩ := okWide_struct Try.underlying41 hval
  have hC : Try.prog.cellsOf 41 = 5 := by kernel_rfl
  rw [hC] at hsz
  obtain ⟨l⟩ := cs
  match l, hsz with
  | [u0, u1, u2, u3, u4], _ =>
    obtain ⟨fuel, hf⟩ := h
    obtain ⟨ys, n, _, _, _, hxl, hff⟩ := DataW.trod_struct Try.underlying41 hf
    match ys, hxl with
    | [y0, y1, y2, y3, y4], _ =>
      have g0 := hff 0 _ rfl
      have g1 := hff 1 _ rfl
      have g2 := hff 2 _ rfl
      have g3 := hff 3 _ rfl
      have g4 := hff 4 _ rfl
      have c2 : Try.prog.cellsOf 3 = 1 := by kernel_rfl
      have c3 : Try.prog.cellsOf 9 = 1 := by kernel_rfl
      simp [Value.cells, c2, c3] at g0 g1 g2 g3 g4
      obtain ⟨o0, e0, _, _⟩ := DataW.trod_int Try.underlying3 g0
      obtain ⟨o1, e1, _, _⟩ := DataW.trod_int Try.underlying3 g1
      obtain ⟨o2, e2, _, _⟩ := DataW.trod_int Try.underlying3 g2
      obtain ⟨o3, e3, _, _⟩ := DataW.trod_int Try.underlying3 g3
      obtain ⟨o4, e4, _, t4⟩ := DataW.trod_string Try.underlying9 g4
      simp at e0 e1 e2 e3 e4
      subst e0 e1 e2 e3 e4
      exact ⟨⟨o0, o1, o2, o3, o4⟩, rfl, t4⟩

set_option maxHeartbeats 4000000 in
set_option maxRecDepth 100000 in
theorem lwMessageOk_of (CI0 : ∀ (m : Ms) (W : World), m.body.size ≤ 1048576 → Calls Try.prog 18 #[m.val] W fun e w' => e = .returned (.bool m.ok) ∧ Below W.heap.size W w') (m : Ms) (w : World) (hb : m.body.size ≤ maxLen) :
    Calls Try.prog 5 #[m.val] w fun e w' => e = .returned (.bool true) ∧ Below w.heap.size w w' := by
  have CZ := hidOfM (fun (W : World) => szMessage_any m 1048576 W (by omega) (by omega) hb)
  have CT := hidOfM (fun (W : World) => toMessage_any m W)
  have CS := hidOfM (fun (W : World) => spMessageOk m W)
  have CI := hidOfM (fun (W : World) (h : m.body.size ≤ 1048576) => CI0 m W h)
  obtain ⟨V, hV⟩ : ∃ V, V = m.ok := ⟨_, rfl⟩
  rw [← hV] at CS CI
  obtain ⟨kd, wk, tk, tr, bo⟩ := m
  unfold Ms.val at *
  simp only at *
  clear hV CI0
  have hbw : Below w.heap.size w (w.alloc (.cells #[.int .i64 kd, .int .i64 wk, .int .i64 tk, .int .i64 tr, .string bo] 41)) := (Below.refl _ _).alloc (Nat.le_refl _) _
  have q0 := heap_alloc_new w (.cells #[.int .i64 kd, .int .i64 wk, .int .i64 tk, .int .i64 tr, .string bo] 41)
  have HQ : Hid (∀ W, Below (w.alloc (.cells #[.int .i64 kd, .int .i64 wk, .int .i64 tk, .int .i64 tr, .string bo] 41)).heap.size (w.alloc (.cells #[.int .i64 kd, .int .i64 wk, .int .i64 tk, .int .i64 tr, .string bo] 41)) W → (W.cell? ⟨w.heap.size, 0, none⟩ = some (.int .i64 kd) ∧ W.cell? ⟨w.heap.size, 1, none⟩ = some (.int .i64 wk) ∧ W.cell? ⟨w.heap.size, 2, none⟩ = some (.int .i64 tk) ∧ W.cell? ⟨w.heap.size, 3, none⟩ = some (.int .i64 tr) ∧ W.cell? ⟨w.heap.size, 4, none⟩ = some (.string bo)) ∧ Below w.heap.size w W) := fun W hb => by
    have R := (hb.block _ (blk_lt q0)).trans q0
    exact ⟨⟨(blk_cell R 0).trans rfl, (blk_cell R 1).trans rfl, (blk_cell R 2).trans rfl, (blk_cell R 3).trans rfl, (blk_cell R 4).trans rfl⟩, hbw.trans (hb.mono hbw.size)⟩
  clear hb hbw q0
  go_enter Try.func5, Try.ntmps5
  go_wp2_with fail
  generalize w.alloc (.cells #[.int .i64 kd, .int .i64 wk, .int .i64 tk, .int .i64 tr, .string bo] 41) = W0 at *
  refine (CZ.out _).mono ?_
  rintro e w1 ⟨hb1, r, rfl, hr⟩
  have H1 : Hid (Below W0.heap.size W0 w1) := hb1
  clear hb1 CZ
  obtain ⟨⟨z0, z1, z2, z3, z4⟩, -⟩ := HQ.out _ H1.out
  rcases hr with rfl | ⟨hr0, hr1, hbs⟩
  · go_wp2_with fail
    go_ret
    exact ⟨rfl, (HQ.out _ H1.out).2⟩
  have d1 : decide (r < 0) = false := decide_eq_false (by omega)
  have CI2 := hidOfM (fun W => CI.out W hbs)
  clear CI hr0 hr1 hbs
  go_wp2_with fail
  refine (CT.out _).mono ?_
  rintro e w2 ⟨rfl, hb2⟩
  have H2 : Hid (Below W0.heap.size W0 w2) := H1.out.trans (hb2.mono H1.out.size)
  clear hb2 H1 z0 z1 z2 z3 z4
  go_wp2_with fail
  refine (CS.out _).mono ?_
  rintro e w3 ⟨rfl, hb3⟩
  have H3 : Hid (Below W0.heap.size W0 w3) := H2.out.trans (hb3.mono H2.out.size)
  clear hb3 H2 CS
  obtain ⟨⟨z0, z1, z2, z3, z4⟩, -⟩ := HQ.out _ H3.out
  go_wp2_with fail
  refine (CT.out _).mono ?_
  rintro e w4 ⟨rfl, hb4⟩
  have H4 : Hid (Below W0.heap.size W0 w4) := H3.out.trans (hb4.mono H3.out.size)
  clear hb4 H3 z0 z1 z2 z3 z4
  go_wp2_with fail
  refine (CI2.out _).mono ?_
  rintro e w5 ⟨rfl, hb5⟩
  have H5 : Hid (Below W0.heap.size W0 w5) := H4.out.trans (hb5.mono H4.out.size)
  have hq : (V != V) = false := by simp
  clear hb5 H4
  go_wp2_with fail
  go_ret
  exact ⟨rfl, (HQ.out _ H5.out).2⟩
end Go.Proofs.Ytbaoadfnmicijaa
