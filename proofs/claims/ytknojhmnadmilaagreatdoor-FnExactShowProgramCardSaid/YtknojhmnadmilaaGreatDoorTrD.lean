/- Trees: what is shown of a statement. -/
import Derived.Test.YtknojhmnadmilaaGreatDoorTrC
namespace Go.Proofs.YtknojhmnadmilaaGreatDoor
open Go.RowKit

/-- What is shown of the statement v, in every world behind w. -/
def ShowsS (X : Nat) (w : World) (v : Value) (s : List UInt8) : Prop := ∀ W, But X w W → Calls Tryz.prog 39 #[v] W fun e w' => e = .returned (.string ⟨s.toArray⟩) ∧ Below W.heap.size W w'

set_option maxRecDepth 100000 in
set_option maxHeartbeats 1600000 in
theorem toSt_printTree {X : Nat} (x : Value) (s : List UInt8) (w : World) (h : ShowsS X w (.iface 108 x) s) : Shows X w (.iface 108 x) s := by
  intro W hW
  have HC : Hid (∀ W, But X w W → Calls Tryz.prog 39 #[.iface 108 x] W fun e w' => e = .returned (.string ⟨s.toArray⟩) ∧ Below W.heap.size W w') := h
  have q0 := fun v w => as_no (T := 108) Tryz.underlying78 Tryz.zeroValue78 (by decide) 57 v w
  have q1 := fun v w => as_no (T := 108) Tryz.underlying80 Tryz.zeroValue80 (by decide) 57 v w
  have q2 := fun v w => as_no (T := 108) Tryz.underlying82 Tryz.zeroValue82 (by decide) 57 v w
  have q3 := fun v w => as_no (T := 108) Tryz.underlying84 Tryz.zeroValue84 (by decide) 57 v w
  have q4 := fun v w => as_no (T := 108) Tryz.underlying87 Tryz.zeroValue87 (by decide) 57 v w
  have q5 := fun v w => as_no (T := 108) Tryz.underlying89 Tryz.zeroValue89 (by decide) 57 v w
  have q6 := fun v w => as_no (T := 108) Tryz.underlying90 Tryz.zeroValue90 (by decide) 57 v w
  have q7 := fun v w => as_no (T := 108) Tryz.underlying91 Tryz.zeroValue91 (by decide) 57 v w
  have q8 := fun v w => as_no (T := 108) Tryz.underlying93 Tryz.zeroValue93 (by decide) 57 v w
  have q9 := fun v w => as_no (T := 108) Tryz.underlying96 Tryz.zeroValue96 (by decide) 57 v w
  go_enter Tryz.func21, Tryz.ntmps21
  go_wp2_with fail
  refine (HC.out _ hW).mono ?_
  rintro e w1 ⟨rfl, hb1⟩
  go_wp2
  go_ret
  exact ⟨rfl, hb1⟩

set_option maxRecDepth 100000 in
set_option maxHeartbeats 1600000 in
theorem toSt_setTree {X : Nat} (x : Value) (s : List UInt8) (w : World) (h : ShowsS X w (.iface 110 x) s) : Shows X w (.iface 110 x) s := by
  intro W hW
  have HC : Hid (∀ W, But X w W → Calls Tryz.prog 39 #[.iface 110 x] W fun e w' => e = .returned (.string ⟨s.toArray⟩) ∧ Below W.heap.size W w') := h
  have q0 := fun v w => as_no (T := 110) Tryz.underlying78 Tryz.zeroValue78 (by decide) 57 v w
  have q1 := fun v w => as_no (T := 110) Tryz.underlying80 Tryz.zeroValue80 (by decide) 57 v w
  have q2 := fun v w => as_no (T := 110) Tryz.underlying82 Tryz.zeroValue82 (by decide) 57 v w
  have q3 := fun v w => as_no (T := 110) Tryz.underlying84 Tryz.zeroValue84 (by decide) 57 v w
  have q4 := fun v w => as_no (T := 110) Tryz.underlying87 Tryz.zeroValue87 (by decide) 57 v w
  have q5 := fun v w => as_no (T := 110) Tryz.underlying89 Tryz.zeroValue89 (by decide) 57 v w
  have q6 := fun v w => as_no (T := 110) Tryz.underlying90 Tryz.zeroValue90 (by decide) 57 v w
  have q7 := fun v w => as_no (T := 110) Tryz.underlying91 Tryz.zeroValue91 (by decide) 57 v w
  have q8 := fun v w => as_no (T := 110) Tryz.underlying93 Tryz.zeroValue93 (by decide) 57 v w
  have q9 := fun v w => as_no (T := 110) Tryz.underlying96 Tryz.zeroValue96 (by decide) 57 v w
  go_enter Tryz.func21, Tryz.ntmps21
  go_wp2_with fail
  refine (HC.out _ hW).mono ?_
  rintro e w1 ⟨rfl, hb1⟩
  go_wp2
  go_ret
  exact ⟨rfl, hb1⟩

set_option maxRecDepth 100000 in
set_option maxHeartbeats 1600000 in
theorem toSt_setCellTree {X : Nat} (x : Value) (s : List UInt8) (w : World) (h : ShowsS X w (.iface 112 x) s) : Shows X w (.iface 112 x) s := by
  intro W hW
  have HC : Hid (∀ W, But X w W → Calls Tryz.prog 39 #[.iface 112 x] W fun e w' => e = .returned (.string ⟨s.toArray⟩) ∧ Below W.heap.size W w') := h
  have q0 := fun v w => as_no (T := 112) Tryz.underlying78 Tryz.zeroValue78 (by decide) 57 v w
  have q1 := fun v w => as_no (T := 112) Tryz.underlying80 Tryz.zeroValue80 (by decide) 57 v w
  have q2 := fun v w => as_no (T := 112) Tryz.underlying82 Tryz.zeroValue82 (by decide) 57 v w
  have q3 := fun v w => as_no (T := 112) Tryz.underlying84 Tryz.zeroValue84 (by decide) 57 v w
  have q4 := fun v w => as_no (T := 112) Tryz.underlying87 Tryz.zeroValue87 (by decide) 57 v w
  have q5 := fun v w => as_no (T := 112) Tryz.underlying89 Tryz.zeroValue89 (by decide) 57 v w
  have q6 := fun v w => as_no (T := 112) Tryz.underlying90 Tryz.zeroValue90 (by decide) 57 v w
  have q7 := fun v w => as_no (T := 112) Tryz.underlying91 Tryz.zeroValue91 (by decide) 57 v w
  have q8 := fun v w => as_no (T := 112) Tryz.underlying93 Tryz.zeroValue93 (by decide) 57 v w
  have q9 := fun v w => as_no (T := 112) Tryz.underlying96 Tryz.zeroValue96 (by decide) 57 v w
  go_enter Tryz.func21, Tryz.ntmps21
  go_wp2_with fail
  refine (HC.out _ hW).mono ?_
  rintro e w1 ⟨rfl, hb1⟩
  go_wp2
  go_ret
  exact ⟨rfl, hb1⟩

set_option maxRecDepth 100000 in
set_option maxHeartbeats 1600000 in
theorem toSt_ifTree {X : Nat} (x : Value) (s : List UInt8) (w : World) (h : ShowsS X w (.iface 114 x) s) : Shows X w (.iface 114 x) s := by
  intro W hW
  have HC : Hid (∀ W, But X w W → Calls Tryz.prog 39 #[.iface 114 x] W fun e w' => e = .returned (.string ⟨s.toArray⟩) ∧ Below W.heap.size W w') := h
  have q0 := fun v w => as_no (T := 114) Tryz.underlying78 Tryz.zeroValue78 (by decide) 57 v w
  have q1 := fun v w => as_no (T := 114) Tryz.underlying80 Tryz.zeroValue80 (by decide) 57 v w
  have q2 := fun v w => as_no (T := 114) Tryz.underlying82 Tryz.zeroValue82 (by decide) 57 v w
  have q3 := fun v w => as_no (T := 114) Tryz.underlying84 Tryz.zeroValue84 (by decide) 57 v w
  have q4 := fun v w => as_no (T := 114) Tryz.underlying87 Tryz.zeroValue87 (by decide) 57 v w
  have q5 := fun v w => as_no (T := 114) Tryz.underlying89 Tryz.zeroValue89 (by decide) 57 v w
  have q6 := fun v w => as_no (T := 114) Tryz.underlying90 Tryz.zeroValue90 (by decide) 57 v w
  have q7 := fun v w => as_no (T := 114) Tryz.underlying91 Tryz.zeroValue91 (by decide) 57 v w
  have q8 := fun v w => as_no (T := 114) Tryz.underlying93 Tryz.zeroValue93 (by decide) 57 v w
  have q9 := fun v w => as_no (T := 114) Tryz.underlying96 Tryz.zeroValue96 (by decide) 57 v w
  go_enter Tryz.func21, Tryz.ntmps21
  go_wp2_with fail
  refine (HC.out _ hW).mono ?_
  rintro e w1 ⟨rfl, hb1⟩
  go_wp2
  go_ret
  exact ⟨rfl, hb1⟩

set_option maxRecDepth 100000 in
set_option maxHeartbeats 1600000 in
theorem toSt_blockTree {X : Nat} (x : Value) (s : List UInt8) (w : World) (h : ShowsS X w (.iface 116 x) s) : Shows X w (.iface 116 x) s := by
  intro W hW
  have HC : Hid (∀ W, But X w W → Calls Tryz.prog 39 #[.iface 116 x] W fun e w' => e = .returned (.string ⟨s.toArray⟩) ∧ Below W.heap.size W w') := h
  have q0 := fun v w => as_no (T := 116) Tryz.underlying78 Tryz.zeroValue78 (by decide) 57 v w
  have q1 := fun v w => as_no (T := 116) Tryz.underlying80 Tryz.zeroValue80 (by decide) 57 v w
  have q2 := fun v w => as_no (T := 116) Tryz.underlying82 Tryz.zeroValue82 (by decide) 57 v w
  have q3 := fun v w => as_no (T := 116) Tryz.underlying84 Tryz.zeroValue84 (by decide) 57 v w
  have q4 := fun v w => as_no (T := 116) Tryz.underlying87 Tryz.zeroValue87 (by decide) 57 v w
  have q5 := fun v w => as_no (T := 116) Tryz.underlying89 Tryz.zeroValue89 (by decide) 57 v w
  have q6 := fun v w => as_no (T := 116) Tryz.underlying90 Tryz.zeroValue90 (by decide) 57 v w
  have q7 := fun v w => as_no (T := 116) Tryz.underlying91 Tryz.zeroValue91 (by decide) 57 v w
  have q8 := fun v w => as_no (T := 116) Tryz.underlying93 Tryz.zeroValue93 (by decide) 57 v w
  have q9 := fun v w => as_no (T := 116) Tryz.underlying96 Tryz.zeroValue96 (by decide) 57 v w
  go_enter Tryz.func21, Tryz.ntmps21
  go_wp2_with fail
  refine (HC.out _ hW).mono ?_
  rintro e w1 ⟨rfl, hb1⟩
  go_wp2
  go_ret
  exact ⟨rfl, hb1⟩

set_option maxRecDepth 100000 in
set_option maxHeartbeats 1600000 in
theorem toSt_dumpTree {X : Nat} (x : Value) (s : List UInt8) (w : World) (h : ShowsS X w (.iface 117 x) s) : Shows X w (.iface 117 x) s := by
  intro W hW
  have HC : Hid (∀ W, But X w W → Calls Tryz.prog 39 #[.iface 117 x] W fun e w' => e = .returned (.string ⟨s.toArray⟩) ∧ Below W.heap.size W w') := h
  have q0 := fun v w => as_no (T := 117) Tryz.underlying78 Tryz.zeroValue78 (by decide) 57 v w
  have q1 := fun v w => as_no (T := 117) Tryz.underlying80 Tryz.zeroValue80 (by decide) 57 v w
  have q2 := fun v w => as_no (T := 117) Tryz.underlying82 Tryz.zeroValue82 (by decide) 57 v w
  have q3 := fun v w => as_no (T := 117) Tryz.underlying84 Tryz.zeroValue84 (by decide) 57 v w
  have q4 := fun v w => as_no (T := 117) Tryz.underlying87 Tryz.zeroValue87 (by decide) 57 v w
  have q5 := fun v w => as_no (T := 117) Tryz.underlying89 Tryz.zeroValue89 (by decide) 57 v w
  have q6 := fun v w => as_no (T := 117) Tryz.underlying90 Tryz.zeroValue90 (by decide) 57 v w
  have q7 := fun v w => as_no (T := 117) Tryz.underlying91 Tryz.zeroValue91 (by decide) 57 v w
  have q8 := fun v w => as_no (T := 117) Tryz.underlying93 Tryz.zeroValue93 (by decide) 57 v w
  have q9 := fun v w => as_no (T := 117) Tryz.underlying96 Tryz.zeroValue96 (by decide) 57 v w
  go_enter Tryz.func21, Tryz.ntmps21
  go_wp2_with fail
  refine (HC.out _ hW).mono ?_
  rintro e w1 ⟨rfl, hb1⟩
  go_wp2
  go_ret
  exact ⟨rfl, hb1⟩

set_option maxRecDepth 100000 in
set_option maxHeartbeats 1600000 in
theorem toSt_nextTree {X : Nat} (x : Value) (s : List UInt8) (w : World) (h : ShowsS X w (.iface 118 x) s) : Shows X w (.iface 118 x) s := by
  intro W hW
  have HC : Hid (∀ W, But X w W → Calls Tryz.prog 39 #[.iface 118 x] W fun e w' => e = .returned (.string ⟨s.toArray⟩) ∧ Below W.heap.size W w') := h
  have q0 := fun v w => as_no (T := 118) Tryz.underlying78 Tryz.zeroValue78 (by decide) 57 v w
  have q1 := fun v w => as_no (T := 118) Tryz.underlying80 Tryz.zeroValue80 (by decide) 57 v w
  have q2 := fun v w => as_no (T := 118) Tryz.underlying82 Tryz.zeroValue82 (by decide) 57 v w
  have q3 := fun v w => as_no (T := 118) Tryz.underlying84 Tryz.zeroValue84 (by decide) 57 v w
  have q4 := fun v w => as_no (T := 118) Tryz.underlying87 Tryz.zeroValue87 (by decide) 57 v w
  have q5 := fun v w => as_no (T := 118) Tryz.underlying89 Tryz.zeroValue89 (by decide) 57 v w
  have q6 := fun v w => as_no (T := 118) Tryz.underlying90 Tryz.zeroValue90 (by decide) 57 v w
  have q7 := fun v w => as_no (T := 118) Tryz.underlying91 Tryz.zeroValue91 (by decide) 57 v w
  have q8 := fun v w => as_no (T := 118) Tryz.underlying93 Tryz.zeroValue93 (by decide) 57 v w
  have q9 := fun v w => as_no (T := 118) Tryz.underlying96 Tryz.zeroValue96 (by decide) 57 v w
  go_enter Tryz.func21, Tryz.ntmps21
  go_wp2_with fail
  refine (HC.out _ hW).mono ?_
  rintro e w1 ⟨rfl, hb1⟩
  go_wp2
  go_ret
  exact ⟨rfl, hb1⟩

set_option maxRecDepth 100000 in
set_option maxHeartbeats 1600000 in
theorem shows_next {X : Nat} (w : World) : Shows X w (.iface 118 (.agg #[])) ([110, 101, 120, 116]) := by
  refine toSt_nextTree _ _ w fun W hW => ?_
  have q0 := fun v w => as_no (T := 118) Tryz.underlying108 Tryz.zeroValue108 (by decide) 57 v w
  have q1 := fun v w => as_no (T := 118) Tryz.underlying110 Tryz.zeroValue110 (by decide) 57 v w
  have q2 := fun v w => as_no (T := 118) Tryz.underlying112 Tryz.zeroValue112 (by decide) 57 v w
  have q3 := fun v w => as_no (T := 118) Tryz.underlying114 Tryz.zeroValue114 (by decide) 57 v w
  have q4 := fun v w => as_no (T := 118) Tryz.underlying116 Tryz.zeroValue116 (by decide) 57 v w
  have q5 := fun v w => as_no (T := 118) Tryz.underlying117 Tryz.zeroValue117 (by decide) 57 v w
  go_enter Tryz.func39, Tryz.ntmps39
  go_wp2
  go_ret
  refine ⟨?_, Below.refl _ _⟩
  apply congrArg Ending.returned
  apply congrArg Value.string
  apply ByteArray.ext
  simp

set_option maxRecDepth 100000 in
set_option maxHeartbeats 1600000 in
theorem shows_dump {X : Nat} (t : ByteArray) (w : World) (ht : t.size ≤ 1000000) : Shows X w (.iface 117 (.agg #[.string t])) ([100, 117, 109, 112, 32] ++ t.data.toList) := by
  refine toSt_dumpTree _ _ w fun W hW => ?_
  have q0 := fun v w => as_no (T := 117) Tryz.underlying108 Tryz.zeroValue108 (by decide) 57 v w
  have q1 := fun v w => as_no (T := 117) Tryz.underlying110 Tryz.zeroValue110 (by decide) 57 v w
  have q2 := fun v w => as_no (T := 117) Tryz.underlying112 Tryz.zeroValue112 (by decide) 57 v w
  have q3 := fun v w => as_no (T := 117) Tryz.underlying114 Tryz.zeroValue114 (by decide) 57 v w
  have q4 := fun v w => as_no (T := 117) Tryz.underlying116 Tryz.zeroValue116 (by decide) 57 v w
  have q5 := fun v w => as_yes Tryz.underlying117 57 v w
  have n0 : ¬ 9223372036854775807 < 5 + t.size := by omega
  go_enter Tryz.func39, Tryz.ntmps39
  go_wp2
  go_ret
  refine ⟨?_, (Below.refl _ _).alloc (Nat.le_refl _) _⟩
  apply congrArg Ending.returned
  apply congrArg Value.string
  apply ByteArray.ext
  simp

set_option maxRecDepth 100000 in
set_option maxHeartbeats 1600000 in
theorem shows_print {X : Nat} (v : Value) (ks : List (TypeId × Value)) (es : List (List UInt8)) (w : World) (h : TreesAt X w v ks) (he : es.length = ks.length) (hS : ∀ j, j < ks.length → Shows X w (tv (ks.getD j tno)) (es.getD j [])) (h1 : 1 ≤ ks.length) (hk : ks.length ≤ 1000) (hl : (Lib.join es [44, 32]).length ≤ 1000000) : Shows X w (.iface 108 (.agg #[v])) ([112, 114, 105, 110, 116, 32] ++ Lib.join es [44, 32]) := by
  refine toSt_printTree _ _ w fun W hW => ?_
  have q0 := fun v w => as_yes Tryz.underlying108 57 v w
  have C := fun W' (hb : Below W.heap.size W W') => textsOf_any v ks es ⟨#[44, 32]⟩ w h he hS hk hl W' (hW.up hb)
  have eT : (⟨#[44, 32]⟩ : ByteArray).data.toList = [44, 32] := rfl
  rw [eT] at C
  obtain ⟨a, c, rfl, -⟩ := h
  obtain ⟨R, hR⟩ : ∃ R, R = Lib.join es [44, 32] := ⟨_, rfl⟩
  rw [← hR] at C hl ⊢
  have HC : Hid (∀ W', Below W.heap.size W W' → Calls Tryz.prog 50 #[.slice a ks.length c, .string ⟨#[44, 32]⟩] W' fun e w' => e = .returned (.string ⟨R.toArray⟩) ∧ Below W'.heap.size W' w') := C
  have n0 : ¬ 9223372036854775807 < 6 + R.length := by omega
  have d0 : ((ks.length : Int) == 0) = false := beq_eq_false_iff_ne.2 (by omega)
  generalize ks.length = n at *
  have HB : Hid (Below W.heap.size W (W.alloc (.cells #[.slice a n c] 108))) := (Below.refl _ _).alloc (Nat.le_refl _) _
  clear C hR hS he eT
  go_enter Tryz.func39, Tryz.ntmps39
  go_wp2_with fail
  refine (HC.out _ HB.out).mono ?_
  rintro e w1 ⟨rfl, hb1⟩
  have hbf := HB.out.trans (hb1.mono HB.out.size)
  clear hb1 HC
  go_wp2
  go_ret
  refine ⟨?_, hbf⟩
  apply congrArg Ending.returned
  apply congrArg Value.string
  apply ByteArray.ext
  simp

set_option maxRecDepth 100000 in
set_option maxHeartbeats 1600000 in
theorem shows_block {X : Nat} (v : Value) (ks : List (TypeId × Value)) (es : List (List UInt8)) (w : World) (h : TreesAt X w v ks) (he : es.length = ks.length) (hS : ∀ j, j < ks.length → Shows X w (tv (ks.getD j tno)) (es.getD j [])) (h1 : 1 ≤ ks.length) (hk : ks.length ≤ 1000) (hl : (Lib.join es [59, 32]).length ≤ 1000000) : Shows X w (.iface 116 (.agg #[v])) ([123, 32] ++ Lib.join es [59, 32] ++ [32, 125]) := by
  refine toSt_blockTree _ _ w fun W hW => ?_
  have q0 := fun v w => as_no (T := 116) Tryz.underlying108 Tryz.zeroValue108 (by decide) 57 v w
  have q1 := fun v w => as_no (T := 116) Tryz.underlying110 Tryz.zeroValue110 (by decide) 57 v w
  have q2 := fun v w => as_no (T := 116) Tryz.underlying112 Tryz.zeroValue112 (by decide) 57 v w
  have q3 := fun v w => as_no (T := 116) Tryz.underlying114 Tryz.zeroValue114 (by decide) 57 v w
  have q4 := fun v w => as_yes Tryz.underlying116 57 v w
  have C := fun W' (hb : Below W.heap.size W W') => textsOf_any v ks es ⟨#[59, 32]⟩ w h he hS hk hl W' (hW.up hb)
  have eT : (⟨#[59, 32]⟩ : ByteArray).data.toList = [59, 32] := rfl
  rw [eT] at C
  obtain ⟨a, c, rfl, -⟩ := h
  obtain ⟨R, hR⟩ : ∃ R, R = Lib.join es [59, 32] := ⟨_, rfl⟩
  rw [← hR] at C hl ⊢
  have HC : Hid (∀ W', Below W.heap.size W W' → Calls Tryz.prog 50 #[.slice a ks.length c, .string ⟨#[59, 32]⟩] W' fun e w' => e = .returned (.string ⟨R.toArray⟩) ∧ Below W'.heap.size W' w') := C
  have n0 : ¬ 9223372036854775807 < 2 + R.length := by omega
  have n1 : ¬ 9223372036854775807 < 2 + R.length + 2 := by omega
  have d0 : ((ks.length : Int) == 0) = false := beq_eq_false_iff_ne.2 (by omega)
  generalize ks.length = n at *
  have HB : Hid (Below W.heap.size W (W.alloc (.cells #[.slice a n c] 116))) := (Below.refl _ _).alloc (Nat.le_refl _) _
  clear C hR hS he eT
  go_enter Tryz.func39, Tryz.ntmps39
  go_wp2_with fail
  refine (HC.out _ HB.out).mono ?_
  rintro e w1 ⟨rfl, hb1⟩
  have hbf := HB.out.trans (hb1.mono HB.out.size)
  clear hb1 HC
  go_wp2
  go_ret
  refine ⟨?_, hbf⟩
  apply congrArg Ending.returned
  apply congrArg Value.string
  apply ByteArray.ext
  simp

set_option maxRecDepth 100000 in
set_option maxHeartbeats 1600000 in
theorem shows_block0 {X : Nat} (a : Option Addr) (c : Nat) (w : World) : Shows X w (.iface 116 (.agg #[.slice a 0 c])) ([123, 32, 125]) := by
  refine toSt_blockTree _ _ w fun W hW => ?_
  have q0 := fun v w => as_no (T := 116) Tryz.underlying108 Tryz.zeroValue108 (by decide) 57 v w
  have q1 := fun v w => as_no (T := 116) Tryz.underlying110 Tryz.zeroValue110 (by decide) 57 v w
  have q2 := fun v w => as_no (T := 116) Tryz.underlying112 Tryz.zeroValue112 (by decide) 57 v w
  have q3 := fun v w => as_no (T := 116) Tryz.underlying114 Tryz.zeroValue114 (by decide) 57 v w
  have q4 := fun v w => as_yes Tryz.underlying116 57 v w
  go_enter Tryz.func39, Tryz.ntmps39
  go_wp2
  go_ret
  refine ⟨?_, (Below.refl _ _).alloc (Nat.le_refl _) _⟩
  apply congrArg Ending.returned
  apply congrArg Value.string
  apply ByteArray.ext
  simp

set_option maxRecDepth 100000 in
set_option maxHeartbeats 1600000 in
theorem shows_set18 {X : Nat} (t : ByteArray) (T : TypeId) (x : Value) (E : List UInt8) (w : World) (h : Shows X w (.iface T x) E) (hl : E.length ≤ 1000000) (ht : t.size ≤ 1000000) : Shows X w (.iface 110 (.agg #[.int .i64 18, .string t, .iface T x])) (t.data.toList ++ [32, 61, 32] ++ E) := by
  refine toSt_setTree _ _ w fun W hW => ?_
  have q0 := fun v w => as_no (T := 110) Tryz.underlying108 Tryz.zeroValue108 (by decide) 57 v w
  have q1 := fun v w => as_yes Tryz.underlying110 57 v w
  have HC : Hid (∀ W', Below W.heap.size W W' → Calls Tryz.prog 21 #[.iface T x] W' fun e w' => e = .returned (.string ⟨E.toArray⟩) ∧ Below W'.heap.size W' w') := h.on hW
  have HE : Hid (∀ U : World, Calls Tryz.prog 51 #[.int .i64 18] U fun e w' => e = .returned (.string ⟨#[32, 61, 32]⟩) ∧ w' = U) := fun U => setText_any 18 U
  have HB : Hid (Below W.heap.size W (W.alloc (.cells #[.int .i64 18, .string t, .iface T x] 110))) := (Below.refl _ _).alloc (Nat.le_refl _) _
  have n0 : ¬ 9223372036854775807 < t.size + 3 := by omega
  have n1 : ¬ 9223372036854775807 < t.size + 3 + E.length := by omega
  obtain ⟨m0, m1, m2⟩ := tcells3 (heap_alloc_new W (.cells #[.int .i64 18, .string t, .iface T x] 110))
  have HD : Hid (∀ U, (U.cell? ⟨W.heap.size, 0, none⟩ = some (.int .i64 18) ∧ U.cell? ⟨W.heap.size, 1, none⟩ = some (.string t) ∧ U.cell? ⟨W.heap.size, 2, none⟩ = some (.iface T x) ∧ Hid (Below W.heap.size W U)) → Calls Tryz.prog 21 #[.iface T x] U fun e w' => e = .returned (.string ⟨E.toArray⟩) ∧ Below U.heap.size U w') := fun U h => HC.out U h.2.2.2.out
  go_enter Tryz.func39, Tryz.ntmps39
  go_wp2_with fail
  generalize W.alloc (.cells #[.int .i64 18, .string t, .iface T x] 110) = W2 at *
  clear HC h
  go_region_held3 (fun U => U.cell? ⟨W.heap.size, 0, none⟩ = some (.int .i64 18) ∧ U.cell? ⟨W.heap.size, 1, none⟩ = some (.string t) ∧ U.cell? ⟨W.heap.size, 2, none⟩ = some (.iface T x) ∧ Hid (Below W.heap.size W U)) (first | exact kp3 hb2 (by assumption) | exact ⟨m0, m1, m2, HB.out.drew⟩ | assumption) (first | (go_at_call 51; refine (HE.out _).mono ?_; rintro e a1 ⟨rfl, rfl⟩) | (go_at_call 21; refine (HD.out _ (by assumption)).mono ?_; rintro e a2 ⟨rfl, hb2⟩))
  have hbf : Below W.heap.size W a2 := HB.out.drew.trans (hb2.mono HB.out.size)
  go_wp2
  go_ret
  refine ⟨?_, hbf⟩
  apply congrArg Ending.returned
  apply congrArg Value.string
  apply ByteArray.ext
  simp

set_option maxRecDepth 100000 in
set_option maxHeartbeats 1600000 in
theorem shows_set19 {X : Nat} (t : ByteArray) (T : TypeId) (x : Value) (E : List UInt8) (w : World) (h : Shows X w (.iface T x) E) (hl : E.length ≤ 1000000) (ht : t.size ≤ 1000000) : Shows X w (.iface 110 (.agg #[.int .i64 19, .string t, .iface T x])) (t.data.toList ++ [32, 43, 61, 32] ++ E) := by
  refine toSt_setTree _ _ w fun W hW => ?_
  have q0 := fun v w => as_no (T := 110) Tryz.underlying108 Tryz.zeroValue108 (by decide) 57 v w
  have q1 := fun v w => as_yes Tryz.underlying110 57 v w
  have HC : Hid (∀ W', Below W.heap.size W W' → Calls Tryz.prog 21 #[.iface T x] W' fun e w' => e = .returned (.string ⟨E.toArray⟩) ∧ Below W'.heap.size W' w') := h.on hW
  have HE : Hid (∀ U : World, Calls Tryz.prog 51 #[.int .i64 19] U fun e w' => e = .returned (.string ⟨#[32, 43, 61, 32]⟩) ∧ w' = U) := fun U => setText_any 19 U
  have HB : Hid (Below W.heap.size W (W.alloc (.cells #[.int .i64 19, .string t, .iface T x] 110))) := (Below.refl _ _).alloc (Nat.le_refl _) _
  have n0 : ¬ 9223372036854775807 < t.size + 4 := by omega
  have n1 : ¬ 9223372036854775807 < t.size + 4 + E.length := by omega
  obtain ⟨m0, m1, m2⟩ := tcells3 (heap_alloc_new W (.cells #[.int .i64 19, .string t, .iface T x] 110))
  have HD : Hid (∀ U, (U.cell? ⟨W.heap.size, 0, none⟩ = some (.int .i64 19) ∧ U.cell? ⟨W.heap.size, 1, none⟩ = some (.string t) ∧ U.cell? ⟨W.heap.size, 2, none⟩ = some (.iface T x) ∧ Hid (Below W.heap.size W U)) → Calls Tryz.prog 21 #[.iface T x] U fun e w' => e = .returned (.string ⟨E.toArray⟩) ∧ Below U.heap.size U w') := fun U h => HC.out U h.2.2.2.out
  go_enter Tryz.func39, Tryz.ntmps39
  go_wp2_with fail
  generalize W.alloc (.cells #[.int .i64 19, .string t, .iface T x] 110) = W2 at *
  clear HC h
  go_region_held3 (fun U => U.cell? ⟨W.heap.size, 0, none⟩ = some (.int .i64 19) ∧ U.cell? ⟨W.heap.size, 1, none⟩ = some (.string t) ∧ U.cell? ⟨W.heap.size, 2, none⟩ = some (.iface T x) ∧ Hid (Below W.heap.size W U)) (first | exact kp3 hb2 (by assumption) | exact ⟨m0, m1, m2, HB.out.drew⟩ | assumption) (first | (go_at_call 51; refine (HE.out _).mono ?_; rintro e a1 ⟨rfl, rfl⟩) | (go_at_call 21; refine (HD.out _ (by assumption)).mono ?_; rintro e a2 ⟨rfl, hb2⟩))
  have hbf : Below W.heap.size W a2 := HB.out.drew.trans (hb2.mono HB.out.size)
  go_wp2
  go_ret
  refine ⟨?_, hbf⟩
  apply congrArg Ending.returned
  apply congrArg Value.string
  apply ByteArray.ext
  simp

end Go.Proofs.YtknojhmnadmilaaGreatDoor
