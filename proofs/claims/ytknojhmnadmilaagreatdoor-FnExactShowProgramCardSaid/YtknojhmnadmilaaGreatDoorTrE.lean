/- Trees: what is shown of a cell that is set, and of a choice. -/
import Derived.Test.YtknojhmnadmilaaGreatDoorTrD
namespace Go.Proofs.YtknojhmnadmilaaGreatDoor
open Go.RowKit

theorem tcells4 {w : World} {g : Nat} {a b c d : Value} {ty : TypeId} (h : w.heap[g]? = some (.cells #[a, b, c, d] ty (0, 0))) : w.cell? ⟨g, 0, none⟩ = some a ∧ w.cell? ⟨g, 1, none⟩ = some b ∧ w.cell? ⟨g, 2, none⟩ = some c ∧ w.cell? ⟨g, 3, none⟩ = some d := by
  simp [World.cell?, h]
theorem neqNil (w : World) (T : TypeId) (x : Value) : (binOp .neq 57 (.iface T x) .nilIface).run Tryz.prog w = .ok (.bool true) w := by
  obtain ⟨ms, hi⟩ : ∃ ms, Tryz.prog.underlying 57 = some (.interface ms) := ⟨_, Tryz.underlying57⟩
  have h : ∀ d : Nat, (Op.equalIn (d + 1) 57 (.iface T x) .nilIface).run Tryz.prog w = .ok false w := fun d => by simp [Op.equalIn, run_underlying hi]
  simp only [binOp]
  simp [show Op.equal 57 (.iface T x) .nilIface = Op.equalIn (9999 + 1) 57 (.iface T x) .nilIface from rfl, h]
theorem neqNil2 (w : World) : (binOp .neq 57 .nilIface .nilIface).run Tryz.prog w = .ok (.bool false) w := by
  obtain ⟨ms, hi⟩ : ∃ ms, Tryz.prog.underlying 57 = some (.interface ms) := ⟨_, Tryz.underlying57⟩
  have h : ∀ d : Nat, (Op.equalIn (d + 1) 57 .nilIface .nilIface).run Tryz.prog w = .ok true w := fun d => by simp [Op.equalIn, run_underlying hi]
  simp only [binOp]
  simp [show Op.equal 57 .nilIface .nilIface = Op.equalIn (9999 + 1) 57 .nilIface .nilIface from rfl, h]

set_option maxRecDepth 100000 in
set_option maxHeartbeats 1600000 in
theorem shows_setCell20 {X : Nat} (t : ByteArray) (T0 T1 : TypeId) (x0 x1 : Value) (E D : List UInt8) (w : World) (h : Shows X w (.iface T0 x0) E) (h2 : Shows X w (.iface T1 x1) D) (hl : E.length ≤ 1000000) (hl2 : D.length ≤ 1000000) (ht : t.size ≤ 1000000) : Shows X w (.iface 112 (.agg #[.int .i64 20, .string t, .iface T0 x0, .iface T1 x1])) ((t.data.toList ++ [91] ++ E ++ [93]) ++ [32, 61, 32] ++ D) := by
  refine toSt_setCellTree _ _ w fun W hW => ?_
  have q0 := fun v w => as_no (T := 112) Tryz.underlying108 Tryz.zeroValue108 (by decide) 57 v w
  have q1 := fun v w => as_no (T := 112) Tryz.underlying110 Tryz.zeroValue110 (by decide) 57 v w
  have q2 := fun v w => as_yes Tryz.underlying112 57 v w
  have HC : Hid (∀ W', Below W.heap.size W W' → Calls Tryz.prog 21 #[.iface T1 x1] W' fun e w' => e = .returned (.string ⟨D.toArray⟩) ∧ Below W'.heap.size W' w') := h2.on hW
  have HX : Hid (∀ W', Below W.heap.size W W' → Calls Tryz.prog 38 #[.string t, .iface T0 x0] W' fun e w' => e = .returned (.string ⟨(t.data.toList ++ [91] ++ E ++ [93]).toArray⟩) ∧ Below W'.heap.size W' w') := fun W' hb => cellText_any t T0 x0 E w h hl ht W' (hW.up hb)
  have HE : Hid (∀ U : World, Calls Tryz.prog 51 #[.int .i64 20] U fun e w' => e = .returned (.string ⟨#[32, 61, 32]⟩) ∧ w' = U) := fun U => setText_any 20 U
  have hR : (t.data.toList ++ [91] ++ E ++ [93]).length ≤ 2000010 := by have : t.data.toList.length = t.size := by simp
                                                                        simp only [List.length_append, List.length_cons, List.length_nil]; omega
  obtain ⟨R, hRR⟩ : ∃ R, R = t.data.toList ++ [91] ++ E ++ [93] := ⟨_, rfl⟩
  rw [← hRR] at HX hR ⊢
  have HB : Hid (Below W.heap.size W (W.alloc (.cells #[.int .i64 20, .string t, .iface T0 x0, .iface T1 x1] 112))) := (Below.refl _ _).alloc (Nat.le_refl _) _
  have n0 : ¬ 9223372036854775807 < R.length + 3 := by omega
  have n1 : ¬ 9223372036854775807 < R.length + 3 + D.length := by omega
  obtain ⟨m0, m1, m2, m3⟩ := tcells4 (heap_alloc_new W (.cells #[.int .i64 20, .string t, .iface T0 x0, .iface T1 x1] 112))
  have HD : Hid (∀ U, (U.cell? ⟨W.heap.size, 0, none⟩ = some (.int .i64 20) ∧ U.cell? ⟨W.heap.size, 1, none⟩ = some (.string t) ∧ U.cell? ⟨W.heap.size, 2, none⟩ = some (.iface T0 x0) ∧ U.cell? ⟨W.heap.size, 3, none⟩ = some (.iface T1 x1) ∧ Hid (Below W.heap.size W U)) → Calls Tryz.prog 21 #[.iface T1 x1] U fun e w' => e = .returned (.string ⟨D.toArray⟩) ∧ Below U.heap.size U w') := fun U h => HC.out U h.2.2.2.2.out
  have HD2 : Hid (∀ U, (U.cell? ⟨W.heap.size, 0, none⟩ = some (.int .i64 20) ∧ U.cell? ⟨W.heap.size, 1, none⟩ = some (.string t) ∧ U.cell? ⟨W.heap.size, 2, none⟩ = some (.iface T0 x0) ∧ U.cell? ⟨W.heap.size, 3, none⟩ = some (.iface T1 x1) ∧ Hid (Below W.heap.size W U)) → Calls Tryz.prog 38 #[.string t, .iface T0 x0] U fun e w' => e = .returned (.string ⟨R.toArray⟩) ∧ Below U.heap.size U w') := fun U h => HX.out U h.2.2.2.2.out
  go_enter Tryz.func39, Tryz.ntmps39
  go_wp2_with fail
  generalize W.alloc (.cells #[.int .i64 20, .string t, .iface T0 x0, .iface T1 x1] 112) = W2 at *
  clear HC HX h h2 hRR hR
  go_region_held3 (fun U => U.cell? ⟨W.heap.size, 0, none⟩ = some (.int .i64 20) ∧ U.cell? ⟨W.heap.size, 1, none⟩ = some (.string t) ∧ U.cell? ⟨W.heap.size, 2, none⟩ = some (.iface T0 x0) ∧ U.cell? ⟨W.heap.size, 3, none⟩ = some (.iface T1 x1) ∧ Hid (Below W.heap.size W U)) (first | exact kp4 hb3 (kp4 hb2 (by assumption)) | exact kp4 hb3 (by assumption) | exact kp4 hb2 (by assumption) | exact ⟨m0, m1, m2, m3, HB.out.drew⟩ | assumption) (first | (go_at_call 51; refine (HE.out _).mono ?_; rintro e a1 ⟨rfl, rfl⟩) | (go_at_call 38; refine (HD2.out _ (by assumption)).mono ?_; rintro e a2 ⟨rfl, hb2⟩) | (go_at_call 21; refine (HD.out _ (by assumption)).mono ?_; rintro e a3 ⟨rfl, hb3⟩))
  have hbf : Below W.heap.size W a3 := (HB.out.drew.trans (hb2.mono HB.out.size)).trans (hb3.mono (HB.out.drew.trans (hb2.mono HB.out.size)).size)
  go_wp2
  go_ret
  refine ⟨?_, hbf⟩
  apply congrArg Ending.returned
  apply congrArg Value.string
  apply ByteArray.ext
  simp

set_option maxRecDepth 100000 in
set_option maxHeartbeats 1600000 in
theorem shows_setCell21 {X : Nat} (t : ByteArray) (T0 T1 : TypeId) (x0 x1 : Value) (E D : List UInt8) (w : World) (h : Shows X w (.iface T0 x0) E) (h2 : Shows X w (.iface T1 x1) D) (hl : E.length ≤ 1000000) (hl2 : D.length ≤ 1000000) (ht : t.size ≤ 1000000) : Shows X w (.iface 112 (.agg #[.int .i64 21, .string t, .iface T0 x0, .iface T1 x1])) ((t.data.toList ++ [91] ++ E ++ [93]) ++ [32, 43, 61, 32] ++ D) := by
  refine toSt_setCellTree _ _ w fun W hW => ?_
  have q0 := fun v w => as_no (T := 112) Tryz.underlying108 Tryz.zeroValue108 (by decide) 57 v w
  have q1 := fun v w => as_no (T := 112) Tryz.underlying110 Tryz.zeroValue110 (by decide) 57 v w
  have q2 := fun v w => as_yes Tryz.underlying112 57 v w
  have HC : Hid (∀ W', Below W.heap.size W W' → Calls Tryz.prog 21 #[.iface T1 x1] W' fun e w' => e = .returned (.string ⟨D.toArray⟩) ∧ Below W'.heap.size W' w') := h2.on hW
  have HX : Hid (∀ W', Below W.heap.size W W' → Calls Tryz.prog 38 #[.string t, .iface T0 x0] W' fun e w' => e = .returned (.string ⟨(t.data.toList ++ [91] ++ E ++ [93]).toArray⟩) ∧ Below W'.heap.size W' w') := fun W' hb => cellText_any t T0 x0 E w h hl ht W' (hW.up hb)
  have HE : Hid (∀ U : World, Calls Tryz.prog 51 #[.int .i64 21] U fun e w' => e = .returned (.string ⟨#[32, 43, 61, 32]⟩) ∧ w' = U) := fun U => setText_any 21 U
  have hR : (t.data.toList ++ [91] ++ E ++ [93]).length ≤ 2000010 := by have : t.data.toList.length = t.size := by simp
                                                                        simp only [List.length_append, List.length_cons, List.length_nil]; omega
  obtain ⟨R, hRR⟩ : ∃ R, R = t.data.toList ++ [91] ++ E ++ [93] := ⟨_, rfl⟩
  rw [← hRR] at HX hR ⊢
  have HB : Hid (Below W.heap.size W (W.alloc (.cells #[.int .i64 21, .string t, .iface T0 x0, .iface T1 x1] 112))) := (Below.refl _ _).alloc (Nat.le_refl _) _
  have n0 : ¬ 9223372036854775807 < R.length + 4 := by omega
  have n1 : ¬ 9223372036854775807 < R.length + 4 + D.length := by omega
  obtain ⟨m0, m1, m2, m3⟩ := tcells4 (heap_alloc_new W (.cells #[.int .i64 21, .string t, .iface T0 x0, .iface T1 x1] 112))
  have HD : Hid (∀ U, (U.cell? ⟨W.heap.size, 0, none⟩ = some (.int .i64 21) ∧ U.cell? ⟨W.heap.size, 1, none⟩ = some (.string t) ∧ U.cell? ⟨W.heap.size, 2, none⟩ = some (.iface T0 x0) ∧ U.cell? ⟨W.heap.size, 3, none⟩ = some (.iface T1 x1) ∧ Hid (Below W.heap.size W U)) → Calls Tryz.prog 21 #[.iface T1 x1] U fun e w' => e = .returned (.string ⟨D.toArray⟩) ∧ Below U.heap.size U w') := fun U h => HC.out U h.2.2.2.2.out
  have HD2 : Hid (∀ U, (U.cell? ⟨W.heap.size, 0, none⟩ = some (.int .i64 21) ∧ U.cell? ⟨W.heap.size, 1, none⟩ = some (.string t) ∧ U.cell? ⟨W.heap.size, 2, none⟩ = some (.iface T0 x0) ∧ U.cell? ⟨W.heap.size, 3, none⟩ = some (.iface T1 x1) ∧ Hid (Below W.heap.size W U)) → Calls Tryz.prog 38 #[.string t, .iface T0 x0] U fun e w' => e = .returned (.string ⟨R.toArray⟩) ∧ Below U.heap.size U w') := fun U h => HX.out U h.2.2.2.2.out
  go_enter Tryz.func39, Tryz.ntmps39
  go_wp2_with fail
  generalize W.alloc (.cells #[.int .i64 21, .string t, .iface T0 x0, .iface T1 x1] 112) = W2 at *
  clear HC HX h h2 hRR hR
  go_region_held3 (fun U => U.cell? ⟨W.heap.size, 0, none⟩ = some (.int .i64 21) ∧ U.cell? ⟨W.heap.size, 1, none⟩ = some (.string t) ∧ U.cell? ⟨W.heap.size, 2, none⟩ = some (.iface T0 x0) ∧ U.cell? ⟨W.heap.size, 3, none⟩ = some (.iface T1 x1) ∧ Hid (Below W.heap.size W U)) (first | exact kp4 hb3 (kp4 hb2 (by assumption)) | exact kp4 hb3 (by assumption) | exact kp4 hb2 (by assumption) | exact ⟨m0, m1, m2, m3, HB.out.drew⟩ | assumption) (first | (go_at_call 51; refine (HE.out _).mono ?_; rintro e a1 ⟨rfl, rfl⟩) | (go_at_call 38; refine (HD2.out _ (by assumption)).mono ?_; rintro e a2 ⟨rfl, hb2⟩) | (go_at_call 21; refine (HD.out _ (by assumption)).mono ?_; rintro e a3 ⟨rfl, hb3⟩))
  have hbf : Below W.heap.size W a3 := (HB.out.drew.trans (hb2.mono HB.out.size)).trans (hb3.mono (HB.out.drew.trans (hb2.mono HB.out.size)).size)
  go_wp2
  go_ret
  refine ⟨?_, hbf⟩
  apply congrArg Ending.returned
  apply congrArg Value.string
  apply ByteArray.ext
  simp

set_option maxRecDepth 100000 in
set_option maxHeartbeats 1600000 in
theorem shows_if2 {X : Nat} (T0 T1 : TypeId) (x0 x1 : Value) (E D : List UInt8) (w : World) (h : Shows X w (.iface T0 x0) E) (h2 : Shows X w (.iface T1 x1) D) (hl : E.length ≤ 1000000) (hl2 : D.length ≤ 1000000) : Shows X w (.iface 114 (.agg #[.iface T0 x0, .iface T1 x1, .nilIface])) ([105, 102, 32, 40] ++ E ++ [41, 32] ++ D) := by
  refine toSt_ifTree _ _ w fun W hW => ?_
  have q0 := fun v w => as_no (T := 114) Tryz.underlying108 Tryz.zeroValue108 (by decide) 57 v w
  have q1 := fun v w => as_no (T := 114) Tryz.underlying110 Tryz.zeroValue110 (by decide) 57 v w
  have q2 := fun v w => as_no (T := 114) Tryz.underlying112 Tryz.zeroValue112 (by decide) 57 v w
  have q3 := fun v w => as_yes Tryz.underlying114 57 v w
  have HC : Hid (∀ W', Below W.heap.size W W' → Calls Tryz.prog 21 #[.iface T0 x0] W' fun e w' => e = .returned (.string ⟨E.toArray⟩) ∧ Below W'.heap.size W' w') := h.on hW
  have HC2 : Hid (∀ W', Below W.heap.size W W' → Calls Tryz.prog 21 #[.iface T1 x1] W' fun e w' => e = .returned (.string ⟨D.toArray⟩) ∧ Below W'.heap.size W' w') := h2.on hW
  have HB : Hid (Below W.heap.size W (W.alloc (.cells #[.iface T0 x0, .iface T1 x1, .nilIface] 114))) := (Below.refl _ _).alloc (Nat.le_refl _) _
  have n0 : ¬ 9223372036854775807 < 4 + E.length := by omega
  have n1 : ¬ 9223372036854775807 < 4 + E.length + 2 := by omega
  have n2 : ¬ 9223372036854775807 < 4 + E.length + 2 + D.length := by omega
  obtain ⟨m0, m1, m2⟩ := tcells3 (heap_alloc_new W (.cells #[.iface T0 x0, .iface T1 x1, .nilIface] 114))
  have HD : Hid (∀ U, (U.cell? ⟨W.heap.size, 0, none⟩ = some (.iface T0 x0) ∧ U.cell? ⟨W.heap.size, 1, none⟩ = some (.iface T1 x1) ∧ U.cell? ⟨W.heap.size, 2, none⟩ = some (.nilIface) ∧ Hid (Below W.heap.size W U)) → Calls Tryz.prog 21 #[.iface T0 x0] U fun e w' => e = .returned (.string ⟨E.toArray⟩) ∧ Below U.heap.size U w') := fun U h => HC.out U h.2.2.2.out
  have HD2 : Hid (∀ U, (U.cell? ⟨W.heap.size, 0, none⟩ = some (.iface T0 x0) ∧ U.cell? ⟨W.heap.size, 1, none⟩ = some (.iface T1 x1) ∧ U.cell? ⟨W.heap.size, 2, none⟩ = some (.nilIface) ∧ Hid (Below W.heap.size W U)) → Calls Tryz.prog 21 #[.iface T1 x1] U fun e w' => e = .returned (.string ⟨D.toArray⟩) ∧ Below U.heap.size U w') := fun U h => HC2.out U h.2.2.2.out
  have qn := neqNil
  have qm := neqNil2
  go_enter Tryz.func39, Tryz.ntmps39
  go_wp2_with fail
  generalize W.alloc (.cells #[.iface T0 x0, .iface T1 x1, .nilIface] 114) = W2 at *
  clear HC HC2 h h2
  go_region_held3 (fun U => U.cell? ⟨W.heap.size, 0, none⟩ = some (.iface T0 x0) ∧ U.cell? ⟨W.heap.size, 1, none⟩ = some (.iface T1 x1) ∧ U.cell? ⟨W.heap.size, 2, none⟩ = some (.nilIface) ∧ Hid (Below W.heap.size W U)) (first | exact kp3 hb3 (kp3 hb2 (by assumption)) | exact kp3 hb3 (by assumption) | exact kp3 hb2 (by assumption) | exact ⟨m0, m1, m2, HB.out.drew⟩ | assumption) (first | (go_at_call_of 21 (Value.iface T0 x0); refine (HD.out _ (by assumption)).mono ?_; rintro e a2 ⟨rfl, hb2⟩) | (go_at_call_of 21 (Value.iface T1 x1); refine (HD2.out _ (by assumption)).mono ?_; rintro e a3 ⟨rfl, hb3⟩))
  have hbf : Below W.heap.size W a3 := (HB.out.drew.trans (hb2.mono HB.out.size)).trans (hb3.mono (HB.out.drew.trans (hb2.mono HB.out.size)).size)
  have HBF : Hid (Below W.heap.size W a3) := hbf
  have c2 : a3.cell? ⟨W.heap.size, 2, none⟩ = some (.nilIface) := (hb3.cell (World.block_lt_of_cell? _ _ ((hb2.cell (World.block_lt_of_cell? _ _ m2)).trans m2))).trans ((hb2.cell (World.block_lt_of_cell? _ _ m2)).trans m2)
  clear hb2 hb3 hbf HD HD2
  go_wp2_with fail
  go_ret
  refine ⟨?_, HBF.out⟩
  apply congrArg Ending.returned
  apply congrArg Value.string
  apply ByteArray.ext
  simp

set_option maxRecDepth 100000 in
set_option maxHeartbeats 1600000 in
theorem shows_if3 {X : Nat} (T0 T1 T2 : TypeId) (x0 x1 x2 : Value) (E D F : List UInt8) (w : World) (h : Shows X w (.iface T0 x0) E) (h2 : Shows X w (.iface T1 x1) D) (h3 : Shows X w (.iface T2 x2) F) (hl : E.length ≤ 1000000) (hl2 : D.length ≤ 1000000) (hl3 : F.length ≤ 1000000) : Shows X w (.iface 114 (.agg #[.iface T0 x0, .iface T1 x1, .iface T2 x2])) ([105, 102, 32, 40] ++ E ++ [41, 32] ++ D ++ ([32, 101, 108, 115, 101, 32] ++ F)) := by
  refine toSt_ifTree _ _ w fun W hW => ?_
  have q0 := fun v w => as_no (T := 114) Tryz.underlying108 Tryz.zeroValue108 (by decide) 57 v w
  have q1 := fun v w => as_no (T := 114) Tryz.underlying110 Tryz.zeroValue110 (by decide) 57 v w
  have q2 := fun v w => as_no (T := 114) Tryz.underlying112 Tryz.zeroValue112 (by decide) 57 v w
  have q3 := fun v w => as_yes Tryz.underlying114 57 v w
  have HC : Hid (∀ W', Below W.heap.size W W' → Calls Tryz.prog 21 #[.iface T0 x0] W' fun e w' => e = .returned (.string ⟨E.toArray⟩) ∧ Below W'.heap.size W' w') := h.on hW
  have HC2 : Hid (∀ W', Below W.heap.size W W' → Calls Tryz.prog 21 #[.iface T1 x1] W' fun e w' => e = .returned (.string ⟨D.toArray⟩) ∧ Below W'.heap.size W' w') := h2.on hW
  have HB : Hid (Below W.heap.size W (W.alloc (.cells #[.iface T0 x0, .iface T1 x1, .iface T2 x2] 114))) := (Below.refl _ _).alloc (Nat.le_refl _) _
  have n0 : ¬ 9223372036854775807 < 4 + E.length := by omega
  have n1 : ¬ 9223372036854775807 < 4 + E.length + 2 := by omega
  have n2 : ¬ 9223372036854775807 < 4 + E.length + 2 + D.length := by omega
  have HC3 : Hid (∀ W', Below W.heap.size W W' → Calls Tryz.prog 21 #[.iface T2 x2] W' fun e w' => e = .returned (.string ⟨F.toArray⟩) ∧ Below W'.heap.size W' w') := h3.on hW
  have n3 : ¬ 9223372036854775807 < 6 + F.length := by omega
  have n4 : ¬ 9223372036854775807 < 4 + E.length + 2 + D.length + (6 + F.length) := by omega
  obtain ⟨m0, m1, m2⟩ := tcells3 (heap_alloc_new W (.cells #[.iface T0 x0, .iface T1 x1, .iface T2 x2] 114))
  have HD : Hid (∀ U, (U.cell? ⟨W.heap.size, 0, none⟩ = some (.iface T0 x0) ∧ U.cell? ⟨W.heap.size, 1, none⟩ = some (.iface T1 x1) ∧ U.cell? ⟨W.heap.size, 2, none⟩ = some (.iface T2 x2) ∧ Hid (Below W.heap.size W U)) → Calls Tryz.prog 21 #[.iface T0 x0] U fun e w' => e = .returned (.string ⟨E.toArray⟩) ∧ Below U.heap.size U w') := fun U h => HC.out U h.2.2.2.out
  have HD2 : Hid (∀ U, (U.cell? ⟨W.heap.size, 0, none⟩ = some (.iface T0 x0) ∧ U.cell? ⟨W.heap.size, 1, none⟩ = some (.iface T1 x1) ∧ U.cell? ⟨W.heap.size, 2, none⟩ = some (.iface T2 x2) ∧ Hid (Below W.heap.size W U)) → Calls Tryz.prog 21 #[.iface T1 x1] U fun e w' => e = .returned (.string ⟨D.toArray⟩) ∧ Below U.heap.size U w') := fun U h => HC2.out U h.2.2.2.out
  have qn := neqNil
  have qm := neqNil2
  go_enter Tryz.func39, Tryz.ntmps39
  go_wp2_with fail
  generalize W.alloc (.cells #[.iface T0 x0, .iface T1 x1, .iface T2 x2] 114) = W2 at *
  clear HC HC2 h h2
  go_region_held3 (fun U => U.cell? ⟨W.heap.size, 0, none⟩ = some (.iface T0 x0) ∧ U.cell? ⟨W.heap.size, 1, none⟩ = some (.iface T1 x1) ∧ U.cell? ⟨W.heap.size, 2, none⟩ = some (.iface T2 x2) ∧ Hid (Below W.heap.size W U)) (first | exact kp3 hb3 (kp3 hb2 (by assumption)) | exact kp3 hb3 (by assumption) | exact kp3 hb2 (by assumption) | exact ⟨m0, m1, m2, HB.out.drew⟩ | assumption) (first | (go_at_call_of 21 (Value.iface T0 x0); refine (HD.out _ (by assumption)).mono ?_; rintro e a2 ⟨rfl, hb2⟩) | (go_at_call_of 21 (Value.iface T1 x1); refine (HD2.out _ (by assumption)).mono ?_; rintro e a3 ⟨rfl, hb3⟩))
  have hbf : Below W.heap.size W a3 := (HB.out.drew.trans (hb2.mono HB.out.size)).trans (hb3.mono (HB.out.drew.trans (hb2.mono HB.out.size)).size)
  have HBF : Hid (Below W.heap.size W a3) := hbf
  have c2 : a3.cell? ⟨W.heap.size, 2, none⟩ = some (.iface T2 x2) := (hb3.cell (World.block_lt_of_cell? _ _ ((hb2.cell (World.block_lt_of_cell? _ _ m2)).trans m2))).trans ((hb2.cell (World.block_lt_of_cell? _ _ m2)).trans m2)
  clear hb2 hb3 hbf HD HD2
  go_wp2_with fail
  refine (HC3.out _ HBF.out).mono ?_
  rintro e a4 ⟨rfl, hb4⟩
  have hbf := HBF.out.trans (hb4.mono HBF.out.size)
  clear hb4 HC3
  go_wp2
  go_ret
  refine ⟨?_, hbf⟩
  apply congrArg Ending.returned
  apply congrArg Value.string
  apply ByteArray.ext
  simp

end Go.Proofs.YtknojhmnadmilaaGreatDoor
