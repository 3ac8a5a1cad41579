/- Trees: what is shown of two with a sign between. -/
import Derived.Test.YtknojhmnadmilaaGreatDoorTrA
namespace Go.Proofs.YtknojhmnadmilaaGreatDoor
open Go.RowKit

/-- The signs of two, in their order, as the program lays them. -/
def TwoS (w : World) : Prop := w.cell? ⟨0, 0, none⟩ = some (.string ⟨#[43]⟩) ∧ w.cell? ⟨0, 1, none⟩ = some (.string ⟨#[45]⟩) ∧ w.cell? ⟨0, 2, none⟩ = some (.string ⟨#[42]⟩) ∧ w.cell? ⟨0, 3, none⟩ = some (.string ⟨#[37]⟩) ∧ w.cell? ⟨0, 4, none⟩ = some (.string ⟨#[46]⟩) ∧ w.cell? ⟨0, 5, none⟩ = some (.string ⟨#[60]⟩) ∧ w.cell? ⟨0, 6, none⟩ = some (.string ⟨#[61, 61]⟩)
theorem TwoS.keep {X : Nat} {w w' : World} (h : TwoS w) (hX : X ≠ 0) (hb : But X w w') : TwoS w' := by
  obtain ⟨h0, h1, h2, h3, h4, h5, h6⟩ := h
  have k : ∀ {j : Nat} {x : Value}, w.cell? ⟨0, j, none⟩ = some x → w'.cell? ⟨0, j, none⟩ = some x := fun h => hb.cell (fun e => hX e.symm) h
  exact ⟨k h0, k h1, k h2, k h3, k h4, k h5, k h6⟩

set_option maxRecDepth 100000 in
set_option maxHeartbeats 1600000 in
theorem shows_two9 {X : Nat} (T0 T1 : TypeId) (x0 x1 : Value) (E D : List UInt8) (w : World) (ht : TwoS w) (hX : X ≠ 0) (h : Shows X w (.iface T0 x0) E) (h2 : Shows X w (.iface T1 x1) D) (hl : E.length ≤ 1000000) (hl2 : D.length ≤ 1000000) : Shows X w (.iface 93 (.agg #[.int .i64 9, .iface T0 x0, .iface T1 x1])) ([40] ++ E ++ [32] ++ [43] ++ [32] ++ D ++ [41]) := by
  intro W hW
  have q0 := fun v w => as_no (T := 93) Tryz.underlying78 Tryz.zeroValue78 (by decide) 57 v w
  have q1 := fun v w => as_no (T := 93) Tryz.underlying80 Tryz.zeroValue80 (by decide) 57 v w
  have q2 := fun v w => as_no (T := 93) Tryz.underlying82 Tryz.zeroValue82 (by decide) 57 v w
  have q3 := fun v w => as_no (T := 93) Tryz.underlying84 Tryz.zeroValue84 (by decide) 57 v w
  have q4 := fun v w => as_no (T := 93) Tryz.underlying87 Tryz.zeroValue87 (by decide) 57 v w
  have q5 := fun v w => as_no (T := 93) Tryz.underlying89 Tryz.zeroValue89 (by decide) 57 v w
  have q6 := fun v w => as_no (T := 93) Tryz.underlying90 Tryz.zeroValue90 (by decide) 57 v w
  have q7 := fun v w => as_no (T := 93) Tryz.underlying91 Tryz.zeroValue91 (by decide) 57 v w
  have q8 := fun v w => as_yes Tryz.underlying93 57 v w
  have n0 : ¬ 9223372036854775807 < 1 + E.length := by omega
  have n1 : ¬ 9223372036854775807 < 1 + E.length + 1 := by omega
  have n2 : ¬ 9223372036854775807 < 1 + E.length + 1 + 1 := by omega
  have n3 : ¬ 9223372036854775807 < 1 + E.length + 1 + 1 + 1 := by omega
  have n4 : ¬ 9223372036854775807 < 1 + E.length + 1 + 1 + 1 + D.length := by omega
  have n5 : ¬ 9223372036854775807 < 1 + E.length + 1 + 1 + 1 + D.length + 1 := by omega
  have hwr : IntKind.i64.wrap 0 = 0 := by decide
  have hwr2 : IntKind.i64.wrap (9 - 9) = 0 := by decide
  have hg := (ht.keep hX hW).1
  have HB : Hid (Below W.heap.size W (W.alloc (.cells #[.int .i64 9, .iface T0 x0, .iface T1 x1] 93))) := (Below.refl _ _).alloc (Nat.le_refl _) _
  have q := heap_alloc_new W (.cells #[.int .i64 9, .iface T0 x0, .iface T1 x1] 93)
  obtain ⟨m0, m1, m2⟩ := tcells3 q
  have m3 := (HB.out.cell (World.block_lt_of_cell? W _ hg)).trans hg
  clear q hg
  have HC : Hid (∀ W', Below W.heap.size W W' → Calls Tryz.prog 21 #[.iface T0 x0] W' fun e w' => e = .returned (.string ⟨E.toArray⟩) ∧ Below W'.heap.size W' w') := h.on hW
  have HC2 : Hid (∀ W', Below W.heap.size W W' → Calls Tryz.prog 21 #[.iface T1 x1] W' fun e w' => e = .returned (.string ⟨D.toArray⟩) ∧ Below W'.heap.size W' w') := h2.on hW
  have HD : Hid (∀ U, (U.cell? ⟨W.heap.size, 0, none⟩ = some (.int .i64 9) ∧ U.cell? ⟨W.heap.size, 1, none⟩ = some (.iface T0 x0) ∧ U.cell? ⟨W.heap.size, 2, none⟩ = some (.iface T1 x1) ∧ U.cell? ⟨0, 0, none⟩ = some (.string ⟨#[43]⟩) ∧ Hid (Below W.heap.size W U)) → Calls Tryz.prog 21 #[.iface T0 x0] U fun e w' => e = .returned (.string ⟨E.toArray⟩) ∧ Below U.heap.size U w') := fun U h => HC.out U h.2.2.2.2.out
  have HD2 : Hid (∀ U, (U.cell? ⟨W.heap.size, 0, none⟩ = some (.int .i64 9) ∧ U.cell? ⟨W.heap.size, 1, none⟩ = some (.iface T0 x0) ∧ U.cell? ⟨W.heap.size, 2, none⟩ = some (.iface T1 x1) ∧ U.cell? ⟨0, 0, none⟩ = some (.string ⟨#[43]⟩) ∧ Hid (Below W.heap.size W U)) → Calls Tryz.prog 21 #[.iface T1 x1] U fun e w' => e = .returned (.string ⟨D.toArray⟩) ∧ Below U.heap.size U w') := fun U h => HC2.out U h.2.2.2.2.out
  go_enter Tryz.func21, Tryz.ntmps21
  go_wp2_with fail
  generalize W.alloc (.cells #[.int .i64 9, .iface T0 x0, .iface T1 x1] 93) = W2 at *
  clear HC HC2 h h2 ht hX
  go_region_held3 (fun U => U.cell? ⟨W.heap.size, 0, none⟩ = some (.int .i64 9) ∧ U.cell? ⟨W.heap.size, 1, none⟩ = some (.iface T0 x0) ∧ U.cell? ⟨W.heap.size, 2, none⟩ = some (.iface T1 x1) ∧ U.cell? ⟨0, 0, none⟩ = some (.string ⟨#[43]⟩) ∧ Hid (Below W.heap.size W U)) (first | exact kp4 hb3 (kp4 hb2 (by assumption)) | exact kp4 hb3 (by assumption) | exact kp4 hb2 (by assumption) | exact ⟨m0, m1, m2, m3, HB.out.drew⟩ | assumption) (first | (go_at_call_of 21 (Value.iface T0 x0); refine (HD.out _ (by assumption)).mono ?_; rintro e a2 ⟨rfl, hb2⟩) | (go_at_call_of 21 (Value.iface T1 x1); refine (HD2.out _ (by assumption)).mono ?_; rintro e a3 ⟨rfl, hb3⟩))
  have hbf : Below W.heap.size W a3 := (HB.out.drew.trans (hb2.mono HB.out.size)).trans (hb3.mono (HB.out.drew.trans (hb2.mono HB.out.size)).size)
  go_wp2
  go_ret
  refine ⟨?_, hbf⟩
  apply congrArg Ending.returned
  apply congrArg Value.string
  apply ByteArray.ext
  simp

set_option maxRecDepth 100000 in
set_option maxHeartbeats 1600000 in
theorem shows_two10 {X : Nat} (T0 T1 : TypeId) (x0 x1 : Value) (E D : List UInt8) (w : World) (ht : TwoS w) (hX : X ≠ 0) (h : Shows X w (.iface T0 x0) E) (h2 : Shows X w (.iface T1 x1) D) (hl : E.length ≤ 1000000) (hl2 : D.length ≤ 1000000) : Shows X w (.iface 93 (.agg #[.int .i64 10, .iface T0 x0, .iface T1 x1])) ([40] ++ E ++ [32] ++ [45] ++ [32] ++ D ++ [41]) := by
  intro W hW
  have q0 := fun v w => as_no (T := 93) Tryz.underlying78 Tryz.zeroValue78 (by decide) 57 v w
  have q1 := fun v w => as_no (T := 93) Tryz.underlying80 Tryz.zeroValue80 (by decide) 57 v w
  have q2 := fun v w => as_no (T := 93) Tryz.underlying82 Tryz.zeroValue82 (by decide) 57 v w
  have q3 := fun v w => as_no (T := 93) Tryz.underlying84 Tryz.zeroValue84 (by decide) 57 v w
  have q4 := fun v w => as_no (T := 93) Tryz.underlying87 Tryz.zeroValue87 (by decide) 57 v w
  have q5 := fun v w => as_no (T := 93) Tryz.underlying89 Tryz.zeroValue89 (by decide) 57 v w
  have q6 := fun v w => as_no (T := 93) Tryz.underlying90 Tryz.zeroValue90 (by decide) 57 v w
  have q7 := fun v w => as_no (T := 93) Tryz.underlying91 Tryz.zeroValue91 (by decide) 57 v w
  have q8 := fun v w => as_yes Tryz.underlying93 57 v w
  have n0 : ¬ 9223372036854775807 < 1 + E.length := by omega
  have n1 : ¬ 9223372036854775807 < 1 + E.length + 1 := by omega
  have n2 : ¬ 9223372036854775807 < 1 + E.length + 1 + 1 := by omega
  have n3 : ¬ 9223372036854775807 < 1 + E.length + 1 + 1 + 1 := by omega
  have n4 : ¬ 9223372036854775807 < 1 + E.length + 1 + 1 + 1 + D.length := by omega
  have n5 : ¬ 9223372036854775807 < 1 + E.length + 1 + 1 + 1 + D.length + 1 := by omega
  have hwr : IntKind.i64.wrap 1 = 1 := by decide
  have hwr2 : IntKind.i64.wrap (10 - 9) = 1 := by decide
  have hg := (ht.keep hX hW).2.1
  have HB : Hid (Below W.heap.size W (W.alloc (.cells #[.int .i64 10, .iface T0 x0, .iface T1 x1] 93))) := (Below.refl _ _).alloc (Nat.le_refl _) _
  have q := heap_alloc_new W (.cells #[.int .i64 10, .iface T0 x0, .iface T1 x1] 93)
  obtain ⟨m0, m1, m2⟩ := tcells3 q
  have m3 := (HB.out.cell (World.block_lt_of_cell? W _ hg)).trans hg
  clear q hg
  have HC : Hid (∀ W', Below W.heap.size W W' → Calls Tryz.prog 21 #[.iface T0 x0] W' fun e w' => e = .returned (.string ⟨E.toArray⟩) ∧ Below W'.heap.size W' w') := h.on hW
  have HC2 : Hid (∀ W', Below W.heap.size W W' → Calls Tryz.prog 21 #[.iface T1 x1] W' fun e w' => e = .returned (.string ⟨D.toArray⟩) ∧ Below W'.heap.size W' w') := h2.on hW
  have HD : Hid (∀ U, (U.cell? ⟨W.heap.size, 0, none⟩ = some (.int .i64 10) ∧ U.cell? ⟨W.heap.size, 1, none⟩ = some (.iface T0 x0) ∧ U.cell? ⟨W.heap.size, 2, none⟩ = some (.iface T1 x1) ∧ U.cell? ⟨0, 1, none⟩ = some (.string ⟨#[45]⟩) ∧ Hid (Below W.heap.size W U)) → Calls Tryz.prog 21 #[.iface T0 x0] U fun e w' => e = .returned (.string ⟨E.toArray⟩) ∧ Below U.heap.size U w') := fun U h => HC.out U h.2.2.2.2.out
  have HD2 : Hid (∀ U, (U.cell? ⟨W.heap.size, 0, none⟩ = some (.int .i64 10) ∧ U.cell? ⟨W.heap.size, 1, none⟩ = some (.iface T0 x0) ∧ U.cell? ⟨W.heap.size, 2, none⟩ = some (.iface T1 x1) ∧ U.cell? ⟨0, 1, none⟩ = some (.string ⟨#[45]⟩) ∧ Hid (Below W.heap.size W U)) → Calls Tryz.prog 21 #[.iface T1 x1] U fun e w' => e = .returned (.string ⟨D.toArray⟩) ∧ Below U.heap.size U w') := fun U h => HC2.out U h.2.2.2.2.out
  go_enter Tryz.func21, Tryz.ntmps21
  go_wp2_with fail
  generalize W.alloc (.cells #[.int .i64 10, .iface T0 x0, .iface T1 x1] 93) = W2 at *
  clear HC HC2 h h2 ht hX
  go_region_held3 (fun U => U.cell? ⟨W.heap.size, 0, none⟩ = some (.int .i64 10) ∧ U.cell? ⟨W.heap.size, 1, none⟩ = some (.iface T0 x0) ∧ U.cell? ⟨W.heap.size, 2, none⟩ = some (.iface T1 x1) ∧ U.cell? ⟨0, 1, none⟩ = some (.string ⟨#[45]⟩) ∧ Hid (Below W.heap.size W U)) (first | exact kp4 hb3 (kp4 hb2 (by assumption)) | exact kp4 hb3 (by assumption) | exact kp4 hb2 (by assumption) | exact ⟨m0, m1, m2, m3, HB.out.drew⟩ | assumption) (first | (go_at_call_of 21 (Value.iface T0 x0); refine (HD.out _ (by assumption)).mono ?_; rintro e a2 ⟨rfl, hb2⟩) | (go_at_call_of 21 (Value.iface T1 x1); refine (HD2.out _ (by assumption)).mono ?_; rintro e a3 ⟨rfl, hb3⟩))
  have hbf : Below W.heap.size W a3 := (HB.out.drew.trans (hb2.mono HB.out.size)).trans (hb3.mono (HB.out.drew.trans (hb2.mono HB.out.size)).size)
  go_wp2
  go_ret
  refine ⟨?_, hbf⟩
  apply congrArg Ending.returned
  apply congrArg Value.string
  apply ByteArray.ext
  simp

set_option maxRecDepth 100000 in
set_option maxHeartbeats 1600000 in
theorem shows_two11 {X : Nat} (T0 T1 : TypeId) (x0 x1 : Value) (E D : List UInt8) (w : World) (ht : TwoS w) (hX : X ≠ 0) (h : Shows X w (.iface T0 x0) E) (h2 : Shows X w (.iface T1 x1) D) (hl : E.length ≤ 1000000) (hl2 : D.length ≤ 1000000) : Shows X w (.iface 93 (.agg #[.int .i64 11, .iface T0 x0, .iface T1 x1])) ([40] ++ E ++ [32] ++ [42] ++ [32] ++ D ++ [41]) := by
  intro W hW
  have q0 := fun v w => as_no (T := 93) Tryz.underlying78 Tryz.zeroValue78 (by decide) 57 v w
  have q1 := fun v w => as_no (T := 93) Tryz.underlying80 Tryz.zeroValue80 (by decide) 57 v w
  have q2 := fun v w => as_no (T := 93) Tryz.underlying82 Tryz.zeroValue82 (by decide) 57 v w
  have q3 := fun v w => as_no (T := 93) Tryz.underlying84 Tryz.zeroValue84 (by decide) 57 v w
  have q4 := fun v w => as_no (T := 93) Tryz.underlying87 Tryz.zeroValue87 (by decide) 57 v w
  have q5 := fun v w => as_no (T := 93) Tryz.underlying89 Tryz.zeroValue89 (by decide) 57 v w
  have q6 := fun v w => as_no (T := 93) Tryz.underlying90 Tryz.zeroValue90 (by decide) 57 v w
  have q7 := fun v w => as_no (T := 93) Tryz.underlying91 Tryz.zeroValue91 (by decide) 57 v w
  have q8 := fun v w => as_yes Tryz.underlying93 57 v w
  have n0 : ¬ 9223372036854775807 < 1 + E.length := by omega
  have n1 : ¬ 9223372036854775807 < 1 + E.length + 1 := by omega
  have n2 : ¬ 9223372036854775807 < 1 + E.length + 1 + 1 := by omega
  have n3 : ¬ 9223372036854775807 < 1 + E.length + 1 + 1 + 1 := by omega
  have n4 : ¬ 9223372036854775807 < 1 + E.length + 1 + 1 + 1 + D.length := by omega
  have n5 : ¬ 9223372036854775807 < 1 + E.length + 1 + 1 + 1 + D.length + 1 := by omega
  have hwr : IntKind.i64.wrap 2 = 2 := by decide
  have hwr2 : IntKind.i64.wrap (11 - 9) = 2 := by decide
  have hg := (ht.keep hX hW).2.2.1
  have HB : Hid (Below W.heap.size W (W.alloc (.cells #[.int .i64 11, .iface T0 x0, .iface T1 x1] 93))) := (Below.refl _ _).alloc (Nat.le_refl _) _
  have q := heap_alloc_new W (.cells #[.int .i64 11, .iface T0 x0, .iface T1 x1] 93)
  obtain ⟨m0, m1, m2⟩ := tcells3 q
  have m3 := (HB.out.cell (World.block_lt_of_cell? W _ hg)).trans hg
  clear q hg
  have HC : Hid (∀ W', Below W.heap.size W W' → Calls Tryz.prog 21 #[.iface T0 x0] W' fun e w' => e = .returned (.string ⟨E.toArray⟩) ∧ Below W'.heap.size W' w') := h.on hW
  have HC2 : Hid (∀ W', Below W.heap.size W W' → Calls Tryz.prog 21 #[.iface T1 x1] W' fun e w' => e = .returned (.string ⟨D.toArray⟩) ∧ Below W'.heap.size W' w') := h2.on hW
  have HD : Hid (∀ U, (U.cell? ⟨W.heap.size, 0, none⟩ = some (.int .i64 11) ∧ U.cell? ⟨W.heap.size, 1, none⟩ = some (.iface T0 x0) ∧ U.cell? ⟨W.heap.size, 2, none⟩ = some (.iface T1 x1) ∧ U.cell? ⟨0, 2, none⟩ = some (.string ⟨#[42]⟩) ∧ Hid (Below W.heap.size W U)) → Calls Tryz.prog 21 #[.iface T0 x0] U fun e w' => e = .returned (.string ⟨E.toArray⟩) ∧ Below U.heap.size U w') := fun U h => HC.out U h.2.2.2.2.out
  have HD2 : Hid (∀ U, (U.cell? ⟨W.heap.size, 0, none⟩ = some (.int .i64 11) ∧ U.cell? ⟨W.heap.size, 1, none⟩ = some (.iface T0 x0) ∧ U.cell? ⟨W.heap.size, 2, none⟩ = some (.iface T1 x1) ∧ U.cell? ⟨0, 2, none⟩ = some (.string ⟨#[42]⟩) ∧ Hid (Below W.heap.size W U)) → Calls Tryz.prog 21 #[.iface T1 x1] U fun e w' => e = .returned (.string ⟨D.toArray⟩) ∧ Below U.heap.size U w') := fun U h => HC2.out U h.2.2.2.2.out
  go_enter Tryz.func21, Tryz.ntmps21
  go_wp2_with fail
  generalize W.alloc (.cells #[.int .i64 11, .iface T0 x0, .iface T1 x1] 93) = W2 at *
  clear HC HC2 h h2 ht hX
  go_region_held3 (fun U => U.cell? ⟨W.heap.size, 0, none⟩ = some (.int .i64 11) ∧ U.cell? ⟨W.heap.size, 1, none⟩ = some (.iface T0 x0) ∧ U.cell? ⟨W.heap.size, 2, none⟩ = some (.iface T1 x1) ∧ U.cell? ⟨0, 2, none⟩ = some (.string ⟨#[42]⟩) ∧ Hid (Below W.heap.size W U)) (first | exact kp4 hb3 (kp4 hb2 (by assumption)) | exact kp4 hb3 (by assumption) | exact kp4 hb2 (by assumption) | exact ⟨m0, m1, m2, m3, HB.out.drew⟩ | assumption) (first | (go_at_call_of 21 (Value.iface T0 x0); refine (HD.out _ (by assumption)).mono ?_; rintro e a2 ⟨rfl, hb2⟩) | (go_at_call_of 21 (Value.iface T1 x1); refine (HD2.out _ (by assumption)).mono ?_; rintro e a3 ⟨rfl, hb3⟩))
  have hbf : Below W.heap.size W a3 := (HB.out.drew.trans (hb2.mono HB.out.size)).trans (hb3.mono (HB.out.drew.trans (hb2.mono HB.out.size)).size)
  go_wp2
  go_ret
  refine ⟨?_, hbf⟩
  apply congrArg Ending.returned
  apply congrArg Value.string
  apply ByteArray.ext
  simp

set_option maxRecDepth 100000 in
set_option maxHeartbeats 1600000 in
theorem shows_two12 {X : Nat} (T0 T1 : TypeId) (x0 x1 : Value) (E D : List UInt8) (w : World) (ht : TwoS w) (hX : X ≠ 0) (h : Shows X w (.iface T0 x0) E) (h2 : Shows X w (.iface T1 x1) D) (hl : E.length ≤ 1000000) (hl2 : D.length ≤ 1000000) : Shows X w (.iface 93 (.agg #[.int .i64 12, .iface T0 x0, .iface T1 x1])) ([40] ++ E ++ [32] ++ [37] ++ [32] ++ D ++ [41]) := by
  intro W hW
  have q0 := fun v w => as_no (T := 93) Tryz.underlying78 Tryz.zeroValue78 (by decide) 57 v w
  have q1 := fun v w => as_no (T := 93) Tryz.underlying80 Tryz.zeroValue80 (by decide) 57 v w
  have q2 := fun v w => as_no (T := 93) Tryz.underlying82 Tryz.zeroValue82 (by decide) 57 v w
  have q3 := fun v w => as_no (T := 93) Tryz.underlying84 Tryz.zeroValue84 (by decide) 57 v w
  have q4 := fun v w => as_no (T := 93) Tryz.underlying87 Tryz.zeroValue87 (by decide) 57 v w
  have q5 := fun v w => as_no (T := 93) Tryz.underlying89 Tryz.zeroValue89 (by decide) 57 v w
  have q6 := fun v w => as_no (T := 93) Tryz.underlying90 Tryz.zeroValue90 (by decide) 57 v w
  have q7 := fun v w => as_no (T := 93) Tryz.underlying91 Tryz.zeroValue91 (by decide) 57 v w
  have q8 := fun v w => as_yes Tryz.underlying93 57 v w
  have n0 : ¬ 9223372036854775807 < 1 + E.length := by omega
  have n1 : ¬ 9223372036854775807 < 1 + E.length + 1 := by omega
  have n2 : ¬ 9223372036854775807 < 1 + E.length + 1 + 1 := by omega
  have n3 : ¬ 9223372036854775807 < 1 + E.length + 1 + 1 + 1 := by omega
  have n4 : ¬ 9223372036854775807 < 1 + E.length + 1 + 1 + 1 + D.length := by omega
  have n5 : ¬ 9223372036854775807 < 1 + E.length + 1 + 1 + 1 + D.length + 1 := by omega
  have hwr : IntKind.i64.wrap 3 = 3 := by decide
  have hwr2 : IntKind.i64.wrap (12 - 9) = 3 := by decide
  have hg := (ht.keep hX hW).2.2.2.1
  have HB : Hid (Below W.heap.size W (W.alloc (.cells #[.int .i64 12, .iface T0 x0, .iface T1 x1] 93))) := (Below.refl _ _).alloc (Nat.le_refl _) _
  have q := heap_alloc_new W (.cells #[.int .i64 12, .iface T0 x0, .iface T1 x1] 93)
  obtain ⟨m0, m1, m2⟩ := tcells3 q
  have m3 := (HB.out.cell (World.block_lt_of_cell? W _ hg)).trans hg
  clear q hg
  have HC : Hid (∀ W', Below W.heap.size W W' → Calls Tryz.prog 21 #[.iface T0 x0] W' fun e w' => e = .returned (.string ⟨E.toArray⟩) ∧ Below W'.heap.size W' w') := h.on hW
  have HC2 : Hid (∀ W', Below W.heap.size W W' → Calls Tryz.prog 21 #[.iface T1 x1] W' fun e w' => e = .returned (.string ⟨D.toArray⟩) ∧ Below W'.heap.size W' w') := h2.on hW
  have HD : Hid (∀ U, (U.cell? ⟨W.heap.size, 0, none⟩ = some (.int .i64 12) ∧ U.cell? ⟨W.heap.size, 1, none⟩ = some (.iface T0 x0) ∧ U.cell? ⟨W.heap.size, 2, none⟩ = some (.iface T1 x1) ∧ U.cell? ⟨0, 3, none⟩ = some (.string ⟨#[37]⟩) ∧ Hid (Below W.heap.size W U)) → Calls Tryz.prog 21 #[.iface T0 x0] U fun e w' => e = .returned (.string ⟨E.toArray⟩) ∧ Below U.heap.size U w') := fun U h => HC.out U h.2.2.2.2.out
  have HD2 : Hid (∀ U, (U.cell? ⟨W.heap.size, 0, none⟩ = some (.int .i64 12) ∧ U.cell? ⟨W.heap.size, 1, none⟩ = some (.iface T0 x0) ∧ U.cell? ⟨W.heap.size, 2, none⟩ = some (.iface T1 x1) ∧ U.cell? ⟨0, 3, none⟩ = some (.string ⟨#[37]⟩) ∧ Hid (Below W.heap.size W U)) → Calls Tryz.prog 21 #[.iface T1 x1] U fun e w' => e = .returned (.string ⟨D.toArray⟩) ∧ Below U.heap.size U w') := fun U h => HC2.out U h.2.2.2.2.out
  go_enter Tryz.func21, Tryz.ntmps21
  go_wp2_with fail
  generalize W.alloc (.cells #[.int .i64 12, .iface T0 x0, .iface T1 x1] 93) = W2 at *
  clear HC HC2 h h2 ht hX
  go_region_held3 (fun U => U.cell? ⟨W.heap.size, 0, none⟩ = some (.int .i64 12) ∧ U.cell? ⟨W.heap.size, 1, none⟩ = some (.iface T0 x0) ∧ U.cell? ⟨W.heap.size, 2, none⟩ = some (.iface T1 x1) ∧ U.cell? ⟨0, 3, none⟩ = some (.string ⟨#[37]⟩) ∧ Hid (Below W.heap.size W U)) (first | exact kp4 hb3 (kp4 hb2 (by assumption)) | exact kp4 hb3 (by assumption) | exact kp4 hb2 (by assumption) | exact ⟨m0, m1, m2, m3, HB.out.drew⟩ | assumption) (first | (go_at_call_of 21 (Value.iface T0 x0); refine (HD.out _ (by assumption)).mono ?_; rintro e a2 ⟨rfl, hb2⟩) | (go_at_call_of 21 (Value.iface T1 x1); refine (HD2.out _ (by assumption)).mono ?_; rintro e a3 ⟨rfl, hb3⟩))
  have hbf : Below W.heap.size W a3 := (HB.out.drew.trans (hb2.mono HB.out.size)).trans (hb3.mono (HB.out.drew.trans (hb2.mono HB.out.size)).size)
  go_wp2
  go_ret
  refine ⟨?_, hbf⟩
  apply congrArg Ending.returned
  apply congrArg Value.string
  apply ByteArray.ext
  simp

set_option maxRecDepth 100000 in
set_option maxHeartbeats 1600000 in
theorem shows_two13 {X : Nat} (T0 T1 : TypeId) (x0 x1 : Value) (E D : List UInt8) (w : World) (ht : TwoS w) (hX : X ≠ 0) (h : Shows X w (.iface T0 x0) E) (h2 : Shows X w (.iface T1 x1) D) (hl : E.length ≤ 1000000) (hl2 : D.length ≤ 1000000) : Shows X w (.iface 93 (.agg #[.int .i64 13, .iface T0 x0, .iface T1 x1])) ([40] ++ E ++ [32] ++ [46] ++ [32] ++ D ++ [41]) := by
  intro W hW
  have q0 := fun v w => as_no (T := 93) Tryz.underlying78 Tryz.zeroValue78 (by decide) 57 v w
  have q1 := fun v w => as_no (T := 93) Tryz.underlying80 Tryz.zeroValue80 (by decide) 57 v w
  have q2 := fun v w => as_no (T := 93) Tryz.underlying82 Tryz.zeroValue82 (by decide) 57 v w
  have q3 := fun v w => as_no (T := 93) Tryz.underlying84 Tryz.zeroValue84 (by decide) 57 v w
  have q4 := fun v w => as_no (T := 93) Tryz.underlying87 Tryz.zeroValue87 (by decide) 57 v w
  have q5 := fun v w => as_no (T := 93) Tryz.underlying89 Tryz.zeroValue89 (by decide) 57 v w
  have q6 := fun v w => as_no (T := 93) Tryz.underlying90 Tryz.zeroValue90 (by decide) 57 v w
  have q7 := fun v w => as_no (T := 93) Tryz.underlying91 Tryz.zeroValue91 (by decide) 57 v w
  have q8 := fun v w => as_yes Tryz.underlying93 57 v w
  have n0 : ¬ 9223372036854775807 < 1 + E.length := by omega
  have n1 : ¬ 9223372036854775807 < 1 + E.length + 1 := by omega
  have n2 : ¬ 9223372036854775807 < 1 + E.length + 1 + 1 := by omega
  have n3 : ¬ 9223372036854775807 < 1 + E.length + 1 + 1 + 1 := by omega
  have n4 : ¬ 9223372036854775807 < 1 + E.length + 1 + 1 + 1 + D.length := by omega
  have n5 : ¬ 9223372036854775807 < 1 + E.length + 1 + 1 + 1 + D.length + 1 := by omega
  have hwr : IntKind.i64.wrap 4 = 4 := by decide
  have hwr2 : IntKind.i64.wrap (13 - 9) = 4 := by decide
  have hg := (ht.keep hX hW).2.2.2.2.1
  have HB : Hid (Below W.heap.size W (W.alloc (.cells #[.int .i64 13, .iface T0 x0, .iface T1 x1] 93))) := (Below.refl _ _).alloc (Nat.le_refl _) _
  have q := heap_alloc_new W (.cells #[.int .i64 13, .iface T0 x0, .iface T1 x1] 93)
  obtain ⟨m0, m1, m2⟩ := tcells3 q
  have m3 := (HB.out.cell (World.block_lt_of_cell? W _ hg)).trans hg
  clear q hg
  have HC : Hid (∀ W', Below W.heap.size W W' → Calls Tryz.prog 21 #[.iface T0 x0] W' fun e w' => e = .returned (.string ⟨E.toArray⟩) ∧ Below W'.heap.size W' w') := h.on hW
  have HC2 : Hid (∀ W', Below W.heap.size W W' → Calls Tryz.prog 21 #[.iface T1 x1] W' fun e w' => e = .returned (.string ⟨D.toArray⟩) ∧ Below W'.heap.size W' w') := h2.on hW
  have HD : Hid (∀ U, (U.cell? ⟨W.heap.size, 0, none⟩ = some (.int .i64 13) ∧ U.cell? ⟨W.heap.size, 1, none⟩ = some (.iface T0 x0) ∧ U.cell? ⟨W.heap.size, 2, none⟩ = some (.iface T1 x1) ∧ U.cell? ⟨0, 4, none⟩ = some (.string ⟨#[46]⟩) ∧ Hid (Below W.heap.size W U)) → Calls Tryz.prog 21 #[.iface T0 x0] U fun e w' => e = .returned (.string ⟨E.toArray⟩) ∧ Below U.heap.size U w') := fun U h => HC.out U h.2.2.2.2.out
  have HD2 : Hid (∀ U, (U.cell? ⟨W.heap.size, 0, none⟩ = some (.int .i64 13) ∧ U.cell? ⟨W.heap.size, 1, none⟩ = some (.iface T0 x0) ∧ U.cell? ⟨W.heap.size, 2, none⟩ = some (.iface T1 x1) ∧ U.cell? ⟨0, 4, none⟩ = some (.string ⟨#[46]⟩) ∧ Hid (Below W.heap.size W U)) → Calls Tryz.prog 21 #[.iface T1 x1] U fun e w' => e = .returned (.string ⟨D.toArray⟩) ∧ Below U.heap.size U w') := fun U h => HC2.out U h.2.2.2.2.out
  go_enter Tryz.func21, Tryz.ntmps21
  go_wp2_with fail
  generalize W.alloc (.cells #[.int .i64 13, .iface T0 x0, .iface T1 x1] 93) = W2 at *
  clear HC HC2 h h2 ht hX
  go_region_held3 (fun U => U.cell? ⟨W.heap.size, 0, none⟩ = some (.int .i64 13) ∧ U.cell? ⟨W.heap.size, 1, none⟩ = some (.iface T0 x0) ∧ U.cell? ⟨W.heap.size, 2, none⟩ = some (.iface T1 x1) ∧ U.cell? ⟨0, 4, none⟩ = some (.string ⟨#[46]⟩) ∧ Hid (Below W.heap.size W U)) (first | exact kp4 hb3 (kp4 hb2 (by assumption)) | exact kp4 hb3 (by assumption) | exact kp4 hb2 (by assumption) | exact ⟨m0, m1, m2, m3, HB.out.drew⟩ | assumption) (first | (go_at_call_of 21 (Value.iface T0 x0); refine (HD.out _ (by assumption)).mono ?_; rintro e a2 ⟨rfl, hb2⟩) | (go_at_call_of 21 (Value.iface T1 x1); refine (HD2.out _ (by assumption)).mono ?_; rintro e a3 ⟨rfl, hb3⟩))
  have hbf : Below W.heap.size W a3 := (HB.out.drew.trans (hb2.mono HB.out.size)).trans (hb3.mono (HB.out.drew.trans (hb2.mono HB.out.size)).size)
  go_wp2
  go_ret
  refine ⟨?_, hbf⟩
  apply congrArg Ending.returned
  apply congrArg Value.string
  apply ByteArray.ext
  simp

set_option maxRecDepth 100000 in
set_option maxHeartbeats 1600000 in
theorem shows_two14 {X : Nat} (T0 T1 : TypeId) (x0 x1 : Value) (E D : List UInt8) (w : World) (ht : TwoS w) (hX : X ≠ 0) (h : Shows X w (.iface T0 x0) E) (h2 : Shows X w (.iface T1 x1) D) (hl : E.length ≤ 1000000) (hl2 : D.length ≤ 1000000) : Shows X w (.iface 93 (.agg #[.int .i64 14, .iface T0 x0, .iface T1 x1])) ([40] ++ E ++ [32] ++ [60] ++ [32] ++ D ++ [41]) := by
  intro W hW
  have q0 := fun v w => as_no (T := 93) Tryz.underlying78 Tryz.zeroValue78 (by decide) 57 v w
  have q1 := fun v w => as_no (T := 93) Tryz.underlying80 Tryz.zeroValue80 (by decide) 57 v w
  have q2 := fun v w => as_no (T := 93) Tryz.underlying82 Tryz.zeroValue82 (by decide) 57 v w
  have q3 := fun v w => as_no (T := 93) Tryz.underlying84 Tryz.zeroValue84 (by decide) 57 v w
  have q4 := fun v w => as_no (T := 93) Tryz.underlying87 Tryz.zeroValue87 (by decide) 57 v w
  have q5 := fun v w => as_no (T := 93) Tryz.underlying89 Tryz.zeroValue89 (by decide) 57 v w
  have q6 := fun v w => as_no (T := 93) Tryz.underlying90 Tryz.zeroValue90 (by decide) 57 v w
  have q7 := fun v w => as_no (T := 93) Tryz.underlying91 Tryz.zeroValue91 (by decide) 57 v w
  have q8 := fun v w => as_yes Tryz.underlying93 57 v w
  have n0 : ¬ 9223372036854775807 < 1 + E.length := by omega
  have n1 : ¬ 9223372036854775807 < 1 + E.length + 1 := by omega
  have n2 : ¬ 9223372036854775807 < 1 + E.length + 1 + 1 := by omega
  have n3 : ¬ 9223372036854775807 < 1 + E.length + 1 + 1 + 1 := by omega
  have n4 : ¬ 9223372036854775807 < 1 + E.length + 1 + 1 + 1 + D.length := by omega
  have n5 : ¬ 9223372036854775807 < 1 + E.length + 1 + 1 + 1 + D.length + 1 := by omega
  have hwr : IntKind.i64.wrap 5 = 5 := by decide
  have hwr2 : IntKind.i64.wrap (14 - 9) = 5 := by decide
  have hg := (ht.keep hX hW).2.2.2.2.2.1
  have HB : Hid (Below W.heap.size W (W.alloc (.cells #[.int .i64 14, .iface T0 x0, .iface T1 x1] 93))) := (Below.refl _ _).alloc (Nat.le_refl _) _
  have q := heap_alloc_new W (.cells #[.int .i64 14, .iface T0 x0, .iface T1 x1] 93)
  obtain ⟨m0, m1, m2⟩ := tcells3 q
  have m3 := (HB.out.cell (World.block_lt_of_cell? W _ hg)).trans hg
  clear q hg
  have HC : Hid (∀ W', Below W.heap.size W W' → Calls Tryz.prog 21 #[.iface T0 x0] W' fun e w' => e = .returned (.string ⟨E.toArray⟩) ∧ Below W'.heap.size W' w') := h.on hW
  have HC2 : Hid (∀ W', Below W.heap.size W W' → Calls Tryz.prog 21 #[.iface T1 x1] W' fun e w' => e = .returned (.string ⟨D.toArray⟩) ∧ Below W'.heap.size W' w') := h2.on hW
  have HD : Hid (∀ U, (U.cell? ⟨W.heap.size, 0, none⟩ = some (.int .i64 14) ∧ U.cell? ⟨W.heap.size, 1, none⟩ = some (.iface T0 x0) ∧ U.cell? ⟨W.heap.size, 2, none⟩ = some (.iface T1 x1) ∧ U.cell? ⟨0, 5, none⟩ = some (.string ⟨#[60]⟩) ∧ Hid (Below W.heap.size W U)) → Calls Tryz.prog 21 #[.iface T0 x0] U fun e w' => e = .returned (.string ⟨E.toArray⟩) ∧ Below U.heap.size U w') := fun U h => HC.out U h.2.2.2.2.out
  have HD2 : Hid (∀ U, (U.cell? ⟨W.heap.size, 0, none⟩ = some (.int .i64 14) ∧ U.cell? ⟨W.heap.size, 1, none⟩ = some (.iface T0 x0) ∧ U.cell? ⟨W.heap.size, 2, none⟩ = some (.iface T1 x1) ∧ U.cell? ⟨0, 5, none⟩ = some (.string ⟨#[60]⟩) ∧ Hid (Below W.heap.size W U)) → Calls Tryz.prog 21 #[.iface T1 x1] U fun e w' => e = .returned (.string ⟨D.toArray⟩) ∧ Below U.heap.size U w') := fun U h => HC2.out U h.2.2.2.2.out
  go_enter Tryz.func21, Tryz.ntmps21
  go_wp2_with fail
  generalize W.alloc (.cells #[.int .i64 14, .iface T0 x0, .iface T1 x1] 93) = W2 at *
  clear HC HC2 h h2 ht hX
  go_region_held3 (fun U => U.cell? ⟨W.heap.size, 0, none⟩ = some (.int .i64 14) ∧ U.cell? ⟨W.heap.size, 1, none⟩ = some (.iface T0 x0) ∧ U.cell? ⟨W.heap.size, 2, none⟩ = some (.iface T1 x1) ∧ U.cell? ⟨0, 5, none⟩ = some (.string ⟨#[60]⟩) ∧ Hid (Below W.heap.size W U)) (first | exact kp4 hb3 (kp4 hb2 (by assumption)) | exact kp4 hb3 (by assumption) | exact kp4 hb2 (by assumption) | exact ⟨m0, m1, m2, m3, HB.out.drew⟩ | assumption) (first | (go_at_call_of 21 (Value.iface T0 x0); refine (HD.out _ (by assumption)).mono ?_; rintro e a2 ⟨rfl, hb2⟩) | (go_at_call_of 21 (Value.iface T1 x1); refine (HD2.out _ (by assumption)).mono ?_; rintro e a3 ⟨rfl, hb3⟩))
  have hbf : Below W.heap.size W a3 := (HB.out.drew.trans (hb2.mono HB.out.size)).trans (hb3.mono (HB.out.drew.trans (hb2.mono HB.out.size)).size)
  go_wp2
  go_ret
  refine ⟨?_, hbf⟩
  apply congrArg Ending.returned
  apply congrArg Value.string
  apply ByteArray.ext
  simp

set_option maxRecDepth 100000 in
set_option maxHeartbeats 1600000 in
theorem shows_two15 {X : Nat} (T0 T1 : TypeId) (x0 x1 : Value) (E D : List UInt8) (w : World) (ht : TwoS w) (hX : X ≠ 0) (h : Shows X w (.iface T0 x0) E) (h2 : Shows X w (.iface T1 x1) D) (hl : E.length ≤ 1000000) (hl2 : D.length ≤ 1000000) : Shows X w (.iface 93 (.agg #[.int .i64 15, .iface T0 x0, .iface T1 x1])) ([40] ++ E ++ [32] ++ [61, 61] ++ [32] ++ D ++ [41]) := by
  intro W hW
  have q0 := fun v w => as_no (T := 93) Tryz.underlying78 Tryz.zeroValue78 (by decide) 57 v w
  have q1 := fun v w => as_no (T := 93) Tryz.underlying80 Tryz.zeroValue80 (by decide) 57 v w
  have q2 := fun v w => as_no (T := 93) Tryz.underlying82 Tryz.zeroValue82 (by decide) 57 v w
  have q3 := fun v w => as_no (T := 93) Tryz.underlying84 Tryz.zeroValue84 (by decide) 57 v w
  have q4 := fun v w => as_no (T := 93) Tryz.underlying87 Tryz.zeroValue87 (by decide) 57 v w
  have q5 := fun v w => as_no (T := 93) Tryz.underlying89 Tryz.zeroValue89 (by decide) 57 v w
  have q6 := fun v w => as_no (T := 93) Tryz.underlying90 Tryz.zeroValue90 (by decide) 57 v w
  have q7 := fun v w => as_no (T := 93) Tryz.underlying91 Tryz.zeroValue91 (by decide) 57 v w
  have q8 := fun v w => as_yes Tryz.underlying93 57 v w
  have n0 : ¬ 9223372036854775807 < 1 + E.length := by omega
  have n1 : ¬ 9223372036854775807 < 1 + E.length + 1 := by omega
  have n2 : ¬ 9223372036854775807 < 1 + E.length + 1 + 2 := by omega
  have n3 : ¬ 9223372036854775807 < 1 + E.length + 1 + 2 + 1 := by omega
  have n4 : ¬ 9223372036854775807 < 1 + E.length + 1 + 2 + 1 + D.length := by omega
  have n5 : ¬ 9223372036854775807 < 1 + E.length + 1 + 2 + 1 + D.length + 1 := by omega
  have hwr : IntKind.i64.wrap 6 = 6 := by decide
  have hwr2 : IntKind.i64.wrap (15 - 9) = 6 := by decide
  have hg := (ht.keep hX hW).2.2.2.2.2.2
  have HB : Hid (Below W.heap.size W (W.alloc (.cells #[.int .i64 15, .iface T0 x0, .iface T1 x1] 93))) := (Below.refl _ _).alloc (Nat.le_refl _) _
  have q := heap_alloc_new W (.cells #[.int .i64 15, .iface T0 x0, .iface T1 x1] 93)
  obtain ⟨m0, m1, m2⟩ := tcells3 q
  have m3 := (HB.out.cell (World.block_lt_of_cell? W _ hg)).trans hg
  clear q hg
  have HC : Hid (∀ W', Below W.heap.size W W' → Calls Tryz.prog 21 #[.iface T0 x0] W' fun e w' => e = .returned (.string ⟨E.toArray⟩) ∧ Below W'.heap.size W' w') := h.on hW
  have HC2 : Hid (∀ W', Below W.heap.size W W' → Calls Tryz.prog 21 #[.iface T1 x1] W' fun e w' => e = .returned (.string ⟨D.toArray⟩) ∧ Below W'.heap.size W' w') := h2.on hW
  have HD : Hid (∀ U, (U.cell? ⟨W.heap.size, 0, none⟩ = some (.int .i64 15) ∧ U.cell? ⟨W.heap.size, 1, none⟩ = some (.iface T0 x0) ∧ U.cell? ⟨W.heap.size, 2, none⟩ = some (.iface T1 x1) ∧ U.cell? ⟨0, 6, none⟩ = some (.string ⟨#[61, 61]⟩) ∧ Hid (Below W.heap.size W U)) → Calls Tryz.prog 21 #[.iface T0 x0] U fun e w' => e = .returned (.string ⟨E.toArray⟩) ∧ Below U.heap.size U w') := fun U h => HC.out U h.2.2.2.2.out
  have HD2 : Hid (∀ U, (U.cell? ⟨W.heap.size, 0, none⟩ = some (.int .i64 15) ∧ U.cell? ⟨W.heap.size, 1, none⟩ = some (.iface T0 x0) ∧ U.cell? ⟨W.heap.size, 2, none⟩ = some (.iface T1 x1) ∧ U.cell? ⟨0, 6, none⟩ = some (.string ⟨#[61, 61]⟩) ∧ Hid (Below W.heap.size W U)) → Calls Tryz.prog 21 #[.iface T1 x1] U fun e w' => e = .returned (.string ⟨D.toArray⟩) ∧ Below U.heap.size U w') := fun U h => HC2.out U h.2.2.2.2.out
  go_enter Tryz.func21, Tryz.ntmps21
  go_wp2_with fail
  generalize W.alloc (.cells #[.int .i64 15, .iface T0 x0, .iface T1 x1] 93) = W2 at *
  clear HC HC2 h h2 ht hX
  go_region_held3 (fun U => U.cell? ⟨W.heap.size, 0, none⟩ = some (.int .i64 15) ∧ U.cell? ⟨W.heap.size, 1, none⟩ = some (.iface T0 x0) ∧ U.cell? ⟨W.heap.size, 2, none⟩ = some (.iface T1 x1) ∧ U.cell? ⟨0, 6, none⟩ = some (.string ⟨#[61, 61]⟩) ∧ Hid (Below W.heap.size W U)) (first | exact kp4 hb3 (kp4 hb2 (by assumption)) | exact kp4 hb3 (by assumption) | exact kp4 hb2 (by assumption) | exact ⟨m0, m1, m2, m3, HB.out.drew⟩ | assumption) (first | (go_at_call_of 21 (Value.iface T0 x0); refine (HD.out _ (by assumption)).mono ?_; rintro e a2 ⟨rfl, hb2⟩) | (go_at_call_of 21 (Value.iface T1 x1); refine (HD2.out _ (by assumption)).mono ?_; rintro e a3 ⟨rfl, hb3⟩))
  have hbf : Below W.heap.size W a3 := (HB.out.drew.trans (hb2.mono HB.out.size)).trans (hb3.mono (HB.out.drew.trans (hb2.mono HB.out.size)).size)
  go_wp2
  go_ret
  refine ⟨?_, hbf⟩
  apply congrArg Ending.returned
  apply congrArg Value.string
  apply ByteArray.ext
  simp

end Go.Proofs.YtknojhmnadmilaaGreatDoor
