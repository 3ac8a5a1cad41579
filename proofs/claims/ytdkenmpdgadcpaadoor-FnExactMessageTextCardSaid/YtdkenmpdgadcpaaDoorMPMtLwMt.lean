/- The law on MessageText: at every message it answers as the specification. -/
import Derived.Test.YtdkenmpdgadcpaaDoorMPMtMtS
import Derived.Test.YtdkenmpdgadcpaaDoorMPMtMtI
namespace Go.Proofs.YtdkenmpdgadcpaaDoor
open Go.RowKit

set_option maxHeartbeats 4000000 in
set_option maxRecDepth 100000 in
theorem lwMessageText (m : Ms) (w : World) (hb : m.body.size ≤ maxLen) (ht : Tabd w) :
    Calls Tryd.prog 3 #[m.val] w fun e w' => e = .returned (.bool true) ∧ Below w.heap.size w w' := by
  have CZ := hidOfM (fun (W : World) => szMessage_any m 1048576 W (by omega) (by omega) hb)
  have CT := hidOfM (fun (W : World) => toMessage_any m W)
  have CS := hidOfM (fun (W : World) => spMessageText m W)
  have CI : Hid (∀ (W : World), m.body.size ≤ 1048576 → Below w.heap.size w W → Calls Tryd.prog 8 #[m.val] W fun e w' => e = .returned m.text? ∧ Below W.heap.size W w') := fun W h hw => imMessageText m W h (ht.keep hw)
  obtain ⟨Y, V, hV⟩ : ∃ (Y : ByteArray) (V : Bool), m.text? = .tuple #[.string Y, .bool V] := by
    cases hk : m.ok with
    | false => exact ⟨_, _, Ms.text_no hk⟩
    | true =>
      obtain ⟨Y, h, -⟩ := Ms.text_yes hk
      exact ⟨_, _, h⟩
  rw [hV] at CS CI
  clear hV ht
  obtain ⟨kd, wk, tk, tr, bo⟩ := m
  unfold Ms.val at *
  simp only at *
  have hbw : Below w.heap.size w (w.alloc (.cells #[.int .i64 kd, .int .i64 wk, .int .i64 tk, .int .i64 tr, .string bo] 23)) := (Below.refl _ _).alloc (Nat.le_refl _) _
  have q0 := heap_alloc_new w (.cells #[.int .i64 kd, .int .i64 wk, .int .i64 tk, .int .i64 tr, .string bo] 23)
  have HQ : Hid (∀ W, Below (w.alloc (.cells #[.int .i64 kd, .int .i64 wk, .int .i64 tk, .int .i64 tr, .string bo] 23)).heap.size (w.alloc (.cells #[.int .i64 kd, .int .i64 wk, .int .i64 tk, .int .i64 tr, .string bo] 23)) W → (W.cell? ⟨w.heap.size, 0, none⟩ = some (.int .i64 kd) ∧ W.cell? ⟨w.heap.size, 1, none⟩ = some (.int .i64 wk) ∧ W.cell? ⟨w.heap.size, 2, none⟩ = some (.int .i64 tk) ∧ W.cell? ⟨w.heap.size, 3, none⟩ = some (.int .i64 tr) ∧ W.cell? ⟨w.heap.size, 4, none⟩ = some (.string bo)) ∧ Below w.heap.size w W) := fun W hb => by
    have R := (hb.block _ (blk_lt q0)).trans q0
    exact ⟨⟨(blk_cell R 0).trans rfl, (blk_cell R 1).trans rfl, (blk_cell R 2).trans rfl, (blk_cell R 3).trans rfl, (blk_cell R 4).trans rfl⟩, hbw.trans (hb.mono hbw.size)⟩
  clear hb hbw q0
  go_enter Tryd.func3, Tryd.ntmps3
  go_wp2_with fail
  generalize w.alloc (.cells #[.int .i64 kd, .int .i64 wk, .int .i64 tk, .int .i64 tr, .string bo] 23) = W0 at *
  refine (CZ.out _).mono ?_
  rintro e w1 ⟨hb1, r, rfl, hr⟩
  have H1 : Hid (Below W0.heap.size W0 w1) := hb1
  clear hb1 CZ
  obtain ⟨⟨z0, z1, z2, z3, z4⟩, -⟩ := HQ.out _ H1.out
  rcases hr with rfl | ⟨hr0, hr1, hbs⟩
  · go_wp2_with fail
    go_ret
    exact ⟨rfl, (HQ.out _ H1.out).2⟩
  have d1 : decide (r < 0) = false := decide_eq_false (by omega)
  have CI2 := hidOfM (fun W => CI.out W hbs)
  clear CI hr0 hr1 hbs
  go_wp2_with fail
  refine (CT.out _).mono ?_
  rintro e w2 ⟨rfl, hb2⟩
  have H2 : Hid (Below W0.heap.size W0 w2) := H1.out.trans (hb2.mono H1.out.size)
  clear hb2 H1 z0 z1 z2 z3 z4
  go_wp2_with fail
  refine (CS.out _).mono ?_
  rintro e w3 ⟨rfl, hb3⟩
  have H3 : Hid (Below W0.heap.size W0 w3) := H2.out.trans (hb3.mono H2.out.size)
  clear hb3 H2 CS
  obtain ⟨⟨z0, z1, z2, z3, z4⟩, -⟩ := HQ.out _ H3.out
  go_wp2_with fail
  refine (CT.out _).mono ?_
  rintro e w4 ⟨rfl, hb4⟩
  have H4 : Hid (Below W0.heap.size W0 w4) := H3.out.trans (hb4.mono H3.out.size)
  clear hb4 H3 z0 z1 z2 z3 z4
  go_wp2_with fail
  refine (CI2.out _ (HQ.out _ H4.out).2).mono ?_
  rintro e w5 ⟨rfl, hb5⟩
  have H5 : Hid (Below W0.heap.size W0 w5) := H4.out.trans (hb5.mono H4.out.size)
  have hq : (V != V) = false := by simp
  clear hb5 H4
  go_wp2_with fail
  go_ret
  exact ⟨rfl, (HQ.out _ H5.out).2⟩
end Go.Proofs.YtdkenmpdgadcpaaDoor
