/- The laws on WorkerNew, FallWorker and TickWorker: at every argument they answer as the specification. -/
import Derived.Test.YtljnffanajcifaaMPWfWkD
namespace Go.Proofs.Ytljnffanajcifaa
open Go.RowKit

/-- What the law's own box of a worker holds, behind whatever was done since. -/
def WBox (w W0 : World) (a0 a1 a2 a3 a4 : Value) (W : World) : Prop :=
  (W.cell? ⟨w.heap.size, 0, none⟩ = some a0 ∧ W.cell? ⟨w.heap.size, 1, none⟩ = some a1 ∧ W.cell? ⟨w.heap.size, 2, none⟩ = some a2 ∧ W.cell? ⟨w.heap.size, 3, none⟩ = some a3 ∧ W.cell? ⟨w.heap.size, 4, none⟩ = some a4) ∧ Below w.heap.size w W ∧ W0.heap.size ≤ W.heap.size
theorem wbox_any (w : World) (a0 a1 a2 a3 a4 : Value) : ∀ W, Below (w.alloc (.cells #[a0, a1, a2, a3, a4] 27)).heap.size (w.alloc (.cells #[a0, a1, a2, a3, a4] 27)) W → WBox w (w.alloc (.cells #[a0, a1, a2, a3, a4] 27)) a0 a1 a2 a3 a4 W := fun W hb => by
  have q0 := heap_alloc_new w (.cells #[a0, a1, a2, a3, a4] 27)
  have hbw : Below w.heap.size w (w.alloc (.cells #[a0, a1, a2, a3, a4] 27)) := (Below.refl _ _).alloc (Nat.le_refl _) _
  have R := (hb.block _ (blk_lt q0)).trans q0
  exact ⟨⟨(blk_cell R 0).trans rfl, (blk_cell R 1).trans rfl, (blk_cell R 2).trans rfl, (blk_cell R 3).trans rfl, (blk_cell R 4).trans rfl⟩, hbw.trans (hb.mono hbw.size), hb.size⟩

set_option maxHeartbeats 4000000 in
set_option maxRecDepth 100000 in
theorem lawFallWorker (m : Wk) (w : World) (hb : m.res.size ≤ maxLen) : Calls Try.prog 5 #[m.val] w fun e w' => e = .returned (.bool true) ∧ Below w.heap.size w w' := by
  have CZ := hidOfW (fun (W : World) => szWorker_any m 1048576 W (by omega) (by omega) hb)
  have CT := hidOfW (fun (W : World) => toWorker_any m W)
  have CS := hidOfW (fun (W : World) => spFall m W)
  have CI := hidOfW (fun (W : World) (h : m.res.size ≤ 1048576) => imFall m W (by omega))
  have CE := hidOfW (fun (W : World) => eqWorker_any m.fall W)
  obtain ⟨kd, wk, tk, tr, bo⟩ := m
  unfold Wk.val Wk.fall at *
  simp only at *
  generalize ByteArray.empty = em at *
  have HQ := hidOfW (wbox_any w (.int .i64 kd) (.bool wk) (.int .i64 tk) (.int .i64 tr) (.string bo))
  clear hb
  go_enter Try.func5, Try.ntmps5
  go_wp2_with fail
  generalize w.alloc (.cells #[.int .i64 kd, .bool wk, .int .i64 tk, .int .i64 tr, .string bo] 27) = W0 at *
  refine (CZ.out _).mono ?_
  rintro e w1 ⟨hb1, r, rfl, hr⟩
  have H1 : Hid (Below W0.heap.size W0 w1) := hb1
  clear hb1 CZ
  obtain ⟨⟨z0, z1, z2, z3, z4⟩, -, -⟩ := HQ.out _ H1.out
  rcases hr with rfl | ⟨hr0, hr1, hbs⟩
  · go_wp2_with fail
    go_ret
    exact ⟨rfl, (HQ.out _ H1.out).2.1⟩
  have d1 : decide (r < 0) = false := decide_eq_false (by omega)
  have CI2 := hidOfW (fun W => CI.out W hbs)
  clear CI hr0 hr1 hbs
  go_wp2_with fail
  refine (CT.out _).mono ?_
  rintro e w2 ⟨rfl, hb2⟩
  have H2 : Hid (Below W0.heap.size W0 w2) := H1.out.trans (hb2.mono H1.out.size)
  clear hb2 H1 z0 z1 z2 z3 z4
  go_wp2_with fail
  refine (CS.out _).mono ?_
  rintro e w3 ⟨rfl, hb3⟩
  have H3 : Hid (Below W0.heap.size W0 w3) := H2.out.trans (hb3.mono H2.out.size)
  have H3b : Hid (Below W0.heap.size W0 (w3.alloc (.cells #[.int .i64 kd, .bool false, .int .i64 0, .int .i64 0, .string em] 23))) := H3.out.alloc H3.out.size _
  have HA := hidOfW (heap_alloc_new w3 (.cells #[.int .i64 kd, .bool false, .int .i64 0, .int .i64 0, .string em] 23))
  obtain ⟨⟨z0, z1, z2, z3, z4⟩, -⟩ := HQ.out _ H3b.out
  clear hb3 H2 H3 CS
  go_wp2_with fail
  generalize w3.alloc (.cells #[.int .i64 kd, .bool false, .int .i64 0, .int .i64 0, .string em] 23) = W3 at *
  refine (CT.out _).mono ?_
  rintro e w4 ⟨rfl, hb4⟩
  have H4 : Hid (Below W0.heap.size W0 w4) := H3b.out.trans (hb4.mono H3b.out.size)
  have HA4 := hidOfW ((hb4.block _ (blk_lt HA.out)).trans HA.out)
  clear hb4 H3b HA z0 z1 z2 z3 z4 CT
  go_wp2_with fail
  refine (CI2.out _).mono ?_
  rintro e w5 ⟨rfl, hb5⟩
  have hb6 := hb5.alloc hb5.size (.cells #[.int .i64 kd, .bool false, .int .i64 0, .int .i64 0, .string em] 23)
  have H6 : Hid (Below W0.heap.size W0 (w5.alloc (.cells #[.int .i64 kd, .bool false, .int .i64 0, .int .i64 0, .string em] 23))) := H4.out.trans (hb6.mono H4.out.size)
  have R := (hb6.block _ (blk_lt HA4.out)).trans HA4.out
  have x0 := (blk_cell R 0).trans rfl
  have x1 := (blk_cell R 1).trans rfl
  have x2 := (blk_cell R 2).trans rfl
  have x3 := (blk_cell R 3).trans rfl
  have x4 := (blk_cell R 4).trans rfl
  clear hb5 hb6 R H4 HA4 CI2
  go_wp2_with fail
  refine (CE.out _).mono ?_
  rintro e w7 ⟨rfl, hb7⟩
  have H7 : Hid (Below W0.heap.size W0 w7) := H6.out.trans (hb7.mono H6.out.size)
  clear hb7 CE H6 x0 x1 x2 x3 x4
  go_wp2_with fail
  go_ret
  exact ⟨rfl, (HQ.out _ H7.out).2.1⟩

end Go.Proofs.Ytljnffanajcifaa
