/- The laws on WorkerNew, FallWorker and TickWorker: at every argument they answer as the specification. -/
import Derived.Test.YtljnffanajcifaaMPWtWkD
namespace Go.Proofs.Ytljnffanajcifaa
open Go.RowKit

/-- What the law's own box of a worker holds, behind whatever was done since. -/
def WBox (w W0 : World) (a0 a1 a2 a3 a4 : Value) (W : World) : Prop :=
  (W.cell? ⟨w.heap.size, 0, none⟩ = some a0 ∧ W.cell? ⟨w.heap.size, 1, none⟩ = some a1 ∧ W.cell? ⟨w.heap.size, 2, none⟩ = some a2 ∧ W.cell? ⟨w.heap.size, 3, none⟩ = some a3 ∧ W.cell? ⟨w.heap.size, 4, none⟩ = some a4) ∧ Below w.heap.size w W ∧ W0.heap.size ≤ W.heap.size
theorem wbox_any (w : World) (a0 a1 a2 a3 a4 : Value) : ∀ W, Below (w.alloc (.cells #[a0, a1, a2, a3, a4] 27)).heap.size (w.alloc (.cells #[a0, a1, a2, a3, a4] 27)) W → WBox w (w.alloc (.cells #[a0, a1, a2, a3, a4] 27)) a0 a1 a2 a3 a4 W := fun W hb => by
  have q0 := heap_alloc_new w (.cells #[a0, a1, a2, a3, a4] 27)
  have hbw : Below w.heap.size w (w.alloc (.cells #[a0, a1, a2, a3, a4] 27)) := (Below.refl _ _).alloc (Nat.le_refl _) _
  have R := (hb.block _ (blk_lt q0)).trans q0
  exact ⟨⟨(blk_cell R 0).trans rfl, (blk_cell R 1).trans rfl, (blk_cell R 2).trans rfl, (blk_cell R 3).trans rfl, (blk_cell R 4).trans rfl⟩, hbw.trans (hb.mono hbw.size), hb.size⟩

set_option maxHeartbeats 4000000 in
set_option maxRecDepth 100000 in
theorem lawTickWorker (m : Wk) (w : World) (hb : m.res.size ≤ maxLen) : Calls Try.prog 4 #[m.val] w fun e w' => e = .returned (.bool true) ∧ Below w.heap.size w w' := by
  have CZ := hidOfW (fun (W : World) => szWorker_any m 1048576 W (by omega) (by omega) hb)
  have CT := hidOfW (fun (W : World) => toWorker_any m W)
  have CS := hidOfW (fun (W : World) => spTick m W)
  have CI := hidOfW (fun (W : World) (h : m.res.size ≤ 1048576) => imTick m W (by omega))
  obtain ⟨L, hL⟩ : ∃ L, L = m.said := ⟨_, rfl⟩
  rw [← hL] at CS CI
  have CE := hidOfW (fun (B B2 : Nat) (v v2 : Value) (W : World) (h : MsOwn B W v L) (h2 : MsOwn B2 W v2 L) => eqMs_any B B2 v v2 L W h h2)
  have CM := hidOfW (fun (B : Nat) (v : Value) (W : World) (h : MsOwn B W v L) => markMs_any B v L W h)
  have CH := hidOfW (fun (B : Nat) (v : Value) (W : World) (h : MsOwn B W v (msMarked L)) => heldMs_any B v L W h)
  have hn0 : (msCount L < 0) = False := by unfold msCount; split <;> simp
  generalize msCount L = N at *
  clear hL
  obtain ⟨kd, wk, tk, tr, bo⟩ := m
  unfold Wk.val at *
  simp only at *
  have HQ := hidOfW (wbox_any w (.int .i64 kd) (.bool wk) (.int .i64 tk) (.int .i64 tr) (.string bo))
  clear hb
  go_enter Try.func4, Try.ntmps4
  go_wp2_with fail
  generalize w.alloc (.cells #[.int .i64 kd, .bool wk, .int .i64 tk, .int .i64 tr, .string bo] 27) = W0 at *
  refine (CZ.out _).mono ?_
  rintro e w1 ⟨hb1, r, rfl, hr⟩
  have H1 : Hid (Below W0.heap.size W0 w1) := hb1
  clear hb1 CZ
  obtain ⟨⟨z0, z1, z2, z3, z4⟩, -, -⟩ := HQ.out _ H1.out
  rcases hr with rfl | ⟨hr0, hr1, hbs⟩
  · go_wp2_with fail
    go_ret
    exact ⟨rfl, (HQ.out _ H1.out).2.1⟩
  have d1 : decide (r < 0) = false := decide_eq_false (by omega)
  have dN : decide (N < 0) = false := decide_eq_false (by rw [hn0]; exact id)
  have qN : (N != N) = false := by simp
  have CI2 := hidOfW (fun W => CI.out W hbs)
  clear CI hr0 hr1 hbs hn0
  go_wp2_with fail
  refine (CT.out _).mono ?_
  rintro e w2 ⟨rfl, hb2⟩
  have H2 : Hid (Below W0.heap.size W0 w2) := H1.out.trans (hb2.mono H1.out.size)
  clear hb2 H1 z0 z1 z2 z3 z4
  go_wp2_with fail
  refine (CS.out _).mono ?_
  rintro e w3 ⟨v1, rfl, hv1, hb3⟩
  have H3 : Hid (Below W0.heap.size W0 w3) := H2.out.trans (hb3.mono H2.out.size)
  have V1 : Hid (MsOwn W0.heap.size w3 v1 L) := hv1.mono H2.out.size
  obtain ⟨⟨z0, z1, z2, z3, z4⟩, -⟩ := HQ.out _ H3.out
  clear hb3 H2 CS hv1
  go_wp2_with fail
  refine (CT.out _).mono ?_
  rintro e w4 ⟨rfl, hb4⟩
  have H4 : Hid (Below W0.heap.size W0 w4) := H3.out.trans (hb4.mono H3.out.size)
  have V14 : Hid (MsOwn W0.heap.size w4 v1 L) := V1.out.keep hb4 (Nat.le_refl _)
  clear hb4 H3 V1 z0 z1 z2 z3 z4
  go_wp2_with fail
  refine (CI2.out _).mono ?_
  rintro e w5 ⟨v2, rfl, hv2, hb5⟩
  have H5 : Hid (Below W0.heap.size W0 w5) := H4.out.trans (hb5.mono H4.out.size)
  have K5 : Hid (Below w4.heap.size w4 w5) := hb5
  have V25 : Hid (MsOwn w4.heap.size w5 v2 L) := hv2
  clear hb5 hv2
  go_wp2_with fail
  refine (CE.out _ _ _ _ _ V25.out (V14.out.keep K5.out (Nat.le_refl _))).mono ?_
  rintro e w6 ⟨rfl, hb6⟩
  have K6 : Hid (Below w4.heap.size w4 w6) := K5.out.trans (hb6.mono K5.out.size)
  have V26 : Hid (MsOwn w4.heap.size w6 v2 L) := V25.out.keep hb6 (Nat.le_refl _)
  clear hb6 K5 V25 H5
  go_wp2_with fail
  refine (CM.out _ _ _ V26.out).mono ?_
  rintro e w7 ⟨rfl, hv7, hf7⟩
  have K7 : Hid (Below w4.heap.size w4 w7) := K6.out.trans (hf7.below (fun k hk => hk) K6.out.size)
  have V27 : Hid (MsOwn w4.heap.size w7 v2 (msMarked L)) := hv7
  clear hv7 hf7 K6 V26 CM
  go_wp2_with fail
  refine (CH.out _ _ _ V27.out).mono ?_
  rintro e w8 ⟨rfl, hb8⟩
  have K8 : Hid (Below w4.heap.size w4 w8) := K7.out.trans (hb8.mono K7.out.size)
  have V28 : Hid (MsOwn w4.heap.size w8 v2 (msMarked L)) := V27.out.keep hb8 (Nat.le_refl _)
  have H8 : Hid (Below W0.heap.size W0 w8) := H4.out.trans (K8.out.mono H4.out.size)
  obtain ⟨⟨z0, z1, z2, z3, z4⟩, -⟩ := HQ.out _ H8.out
  clear hb8 K7 V27
  go_wp2_with fail
  refine (CT.out _).mono ?_
  rintro e w9 ⟨rfl, hb9⟩
  have K9 : Hid (Below w4.heap.size w4 w9) := K8.out.trans (hb9.mono K8.out.size)
  have V29 : Hid (MsOwn w4.heap.size w9 v2 (msMarked L)) := V28.out.keep hb9 (Nat.le_refl _)
  clear hb9 K8 V28 H8 z0 z1 z2 z3 z4 CT
  go_wp2_with fail
  refine (CI2.out _).mono ?_
  rintro e w10 ⟨v3, rfl, hv3, hb10⟩
  have K10 : Hid (Below w4.heap.size w4 w10) := K9.out.trans (hb10.mono K9.out.size)
  have V2a : Hid (MsOwn w4.heap.size w10 v2 (msMarked L)) := V29.out.keep hb10 (Nat.le_refl _)
  have V3a : Hid (MsOwn w9.heap.size w10 v3 L) := hv3
  clear hb10 hv3 K9 V29 CI2
  go_wp2_with fail
  refine (CE.out _ _ _ _ _ V3a.out (V14.out.keep K10.out (Nat.le_refl _))).mono ?_
  rintro e w11 ⟨rfl, hb11⟩
  have K11 : Hid (Below w4.heap.size w4 w11) := K10.out.trans (hb11.mono K10.out.size)
  have V2b : Hid (MsOwn w4.heap.size w11 v2 (msMarked L)) := V2a.out.keep hb11 (Nat.le_refl _)
  clear hb11 K10 V2a V3a CE
  go_wp2_with fail
  refine (CH.out _ _ _ V2b.out).mono ?_
  rintro e w12 ⟨rfl, hb12⟩
  have K12 : Hid (Below w4.heap.size w4 w12) := K11.out.trans (hb12.mono K11.out.size)
  have H12 : Hid (Below W0.heap.size W0 w12) := H4.out.trans (K12.out.mono H4.out.size)
  clear hb12 K11 V2b CH K12 H4 V14
  go_wp2_with fail
  go_ret
  exact ⟨rfl, (HQ.out _ H12.out).2.1⟩
end Go.Proofs.Ytljnffanajcifaa
