/- Trees: what is shown of a statement. -/
import Derived.Test.YtjbodcakhnkggapGreatDoorTrC
namespace Go.Proofs.YtjbodcakhnkggapGreatDoor
open Go.RowKit

/-- What is shown of the statement v, in every world behind w. -/
def ShowsS (X : Nat) (w : World) (v : Value) (s : List UInt8) : Prop := ∀ W, But X w W → Calls Tryz.prog 92 #[v] W fun e w' => e = .returned (.string ⟨s.toArray⟩) ∧ Below W.heap.size W w'

set_option maxRecDepth 100000 in
set_option maxHeartbeats 1600000 in
theorem toSt_printTree {X : Nat} (x : Value) (s : List UInt8) (w : World) (h : ShowsS X w (.iface 195 x) s) : Shows X w (.iface 195 x) s := by
  intro W hW
  have HC : Hid (∀ W, But X w W → Calls Tryz.prog 92 #[.iface 195 x] W fun e w' => e = .returned (.string ⟨s.toArray⟩) ∧ Below W.heap.size W w') := h
  have q0 := fun v w => as_no (T := 195) Tryz.underlying144 Tryz.zeroValue144 (by decide) 85 v w
  have q1 := fun v w => as_no (T := 195) Tryz.underlying146 Tryz.zeroValue146 (by decide) 85 v w
  have q2 := fun v w => as_no (T := 195) Tryz.underlying148 Tryz.zeroValue148 (by decide) 85 v w
  have q3 := fun v w => as_no (T := 195) Tryz.underlying150 Tryz.zeroValue150 (by decide) 85 v w
  have q4 := fun v w => as_no (T := 195) Tryz.underlying153 Tryz.zeroValue153 (by decide) 85 v w
  have q5 := fun v w => as_no (T := 195) Tryz.underlying154 Tryz.zeroValue154 (by decide) 85 v w
  have q6 := fun v w => as_no (T := 195) Tryz.underlying155 Tryz.zeroValue155 (by decide) 85 v w
  have q7 := fun v w => as_no (T := 195) Tryz.underlying156 Tryz.zeroValue156 (by decide) 85 v w
  have q8 := fun v w => as_no (T := 195) Tryz.underlying158 Tryz.zeroValue158 (by decide) 85 v w
  have q9 := fun v w => as_no (T := 195) Tryz.underlying161 Tryz.zeroValue161 (by decide) 85 v w
  go_enter Tryz.func47, Tryz.ntmps47
  go_wp2_with fail
  refine (HC.out _ hW).mono ?_
  rintro e w1 ⟨rfl, hb1⟩
  go_wp2
  go_ret
  exact ⟨rfl, hb1⟩

set_option maxRecDepth 100000 in
set_option maxHeartbeats 1600000 in
theorem toSt_setTree {X : Nat} (x : Value) (s : List UInt8) (w : World) (h : ShowsS X w (.iface 197 x) s) : Shows X w (.iface 197 x) s := by
  intro W hW
  have HC : Hid (∀ W, But X w W → Calls Tryz.prog 92 #[.iface 197 x] W fun e w' => e = .returned (.string ⟨s.toArray⟩) ∧ Below W.heap.size W w') := h
  have q0 := fun v w => as_no (T := 197) Tryz.underlying144 Tryz.zeroValue144 (by decide) 85 v w
  have q1 := fun v w => as_no (T := 197) Tryz.underlying146 Tryz.zeroValue146 (by decide) 85 v w
  have q2 := fun v w => as_no (T := 197) Tryz.underlying148 Tryz.zeroValue148 (by decide) 85 v w
  have q3 := fun v w => as_no (T := 197) Tryz.underlying150 Tryz.zeroValue150 (by decide) 85 v w
  have q4 := fun v w => as_no (T := 197) Tryz.underlying153 Tryz.zeroValue153 (by decide) 85 v w
  have q5 := fun v w => as_no (T := 197) Tryz.underlying154 Tryz.zeroValue154 (by decide) 85 v w
  have q6 := fun v w => as_no (T := 197) Tryz.underlying155 Tryz.zeroValue155 (by decide) 85 v w
  have q7 := fun v w => as_no (T := 197) Tryz.underlying156 Tryz.zeroValue156 (by decide) 85 v w
  have q8 := fun v w => as_no (T := 197) Tryz.underlying158 Tryz.zeroValue158 (by decide) 85 v w
  have q9 := fun v w => as_no (T := 197) Tryz.underlying161 Tryz.zeroValue161 (by decide) 85 v w
  go_enter Tryz.func47, Tryz.ntmps47
  go_wp2_with fail
  refine (HC.out _ hW).mono ?_
  rintro e w1 ⟨rfl, hb1⟩
  go_wp2
  go_ret
  exact ⟨rfl, hb1⟩

set_option maxRecDepth 100000 in
set_option maxHeartbeats 1600000 in
theorem toSt_setCellTree {X : Nat} (x : Value) (s : List UInt8) (w : World) (h : ShowsS X w (.iface 199 x) s) : Shows X w (.iface 199 x) s := by
  intro W hW
  have HC : Hid (∀ W, But X w W → Calls Tryz.prog 92 #[.iface 199 x] W fun e w' => e = .returned (.string ⟨s.toArray⟩) ∧ Below W.heap.size W w') := h
  have q0 := fun v w => as_no (T := 199) Tryz.underlying144 Tryz.zeroValue144 (by decide) 85 v w
  have q1 := fun v w => as_no (T := 199) Tryz.underlying146 Tryz.zeroValue146 (by decide) 85 v w
  have q2 := fun v w => as_no (T := 199) Tryz.underlying148 Tryz.zeroValue148 (by decide) 85 v w
  have q3 := fun v w => as_no (T := 199) Tryz.underlying150 Tryz.zeroValue150 (by decide) 85 v w
  have q4 := fun v w => as_no (T := 199) Tryz.underlying153 Tryz.zeroValue153 (by decide) 85 v w
  have q5 := fun v w => as_no (T := 199) Tryz.underlying154 Tryz.zeroValue154 (by decide) 85 v w
  have q6 := fun v w => as_no (T := 199) Tryz.underlying155 Tryz.zeroValue155 (by decide) 85 v w
  have q7 := fun v w => as_no (T := 199) Tryz.underlying156 Tryz.zeroValue156 (by decide) 85 v w
  have q8 := fun v w => as_no (T := 199) Tryz.underlying158 Tryz.zeroValue158 (by decide) 85 v w
  have q9 := fun v w => as_no (T := 199) Tryz.underlying161 Tryz.zeroValue161 (by decide) 85 v w
  go_enter Tryz.func47, Tryz.ntmps47
  go_wp2_with fail
  refine (HC.out _ hW).mono ?_
  rintro e w1 ⟨rfl, hb1⟩
  go_wp2
  go_ret
  exact ⟨rfl, hb1⟩

set_option maxRecDepth 100000 in
set_option maxHeartbeats 1600000 in
theorem toSt_ifTree {X : Nat} (x : Value) (s : List UInt8) (w : World) (h : ShowsS X w (.iface 201 x) s) : Shows X w (.iface 201 x) s := by
  intro W hW
  have HC : Hid (∀ W, But X w W → Calls Tryz.prog 92 #[.iface 201 x] W fun e w' => e = .returned (.string ⟨s.toArray⟩) ∧ Below W.heap.size W w') := h
  have q0 := fun v w => as_no (T := 201) Tryz.underlying144 Tryz.zeroValue144 (by decide) 85 v w
  have q1 := fun v w => as_no (T := 201) Tryz.underlying146 Tryz.zeroValue146 (by decide) 85 v w
  have q2 := fun v w => as_no (T := 201) Tryz.underlying148 Tryz.zeroValue148 (by decide) 85 v w
  have q3 := fun v w => as_no (T := 201) Tryz.underlying150 Tryz.zeroValue150 (by decide) 85 v w
  have q4 := fun v w => as_no (T := 201) Tryz.underlying153 Tryz.zeroValue153 (by decide) 85 v w
  have q5 := fun v w => as_no (T := 201) Tryz.underlying154 Tryz.zeroValue154 (by decide) 85 v w
  have q6 := fun v w => as_no (T := 201) Tryz.underlying155 Tryz.zeroValue155 (by decide) 85 v w
  have q7 := fun v w => as_no (T := 201) Tryz.underlying156 Tryz.zeroValue156 (by decide) 85 v w
  have q8 := fun v w => as_no (T := 201) Tryz.underlying158 Tryz.zeroValue158 (by decide) 85 v w
  have q9 := fun v w => as_no (T := 201) Tryz.underlying161 Tryz.zeroValue161 (by decide) 85 v w
  go_enter Tryz.func47, Tryz.ntmps47
  go_wp2_with fail
  refine (HC.out _ hW).mono ?_
  rintro e w1 ⟨rfl, hb1⟩
  go_wp2
  go_ret
  exact ⟨rfl, hb1⟩

set_option maxRecDepth 100000 in
set_option maxHeartbeats 1600000 in
theorem toSt_blockTree {X : Nat} (x : Value) (s : List UInt8) (w : World) (h : ShowsS X w (.iface 203 x) s) : Shows X w (.iface 203 x) s := by
  intro W hW
  have HC : Hid (∀ W, But X w W → Calls Tryz.prog 92 #[.iface 203 x] W fun e w' => e = .returned (.string ⟨s.toArray⟩) ∧ Below W.heap.size W w') := h
  have q0 := fun v w => as_no (T := 203) Tryz.underlying144 Tryz.zeroValue144 (by decide) 85 v w
  have q1 := fun v w => as_no (T := 203) Tryz.underlying146 Tryz.zeroValue146 (by decide) 85 v w
  have q2 := fun v w => as_no (T := 203) Tryz.underlying148 Tryz.zeroValue148 (by decide) 85 v w
  have q3 := fun v w => as_no (T := 203) Tryz.underlying150 Tryz.zeroValue150 (by decide) 85 v w
  have q4 := fun v w => as_no (T := 203) Tryz.underlying153 Tryz.zeroValue153 (by decide) 85 v w
  have q5 := fun v w => as_no (T := 203) Tryz.underlying154 Tryz.zeroValue154 (by decide) 85 v w
  have q6 := fun v w => as_no (T := 203) Tryz.underlying155 Tryz.zeroValue155 (by decide) 85 v w
  have q7 := fun v w => as_no (T := 203) Tryz.underlying156 Tryz.zeroValue156 (by decide) 85 v w
  have q8 := fun v w => as_no (T := 203) Tryz.underlying158 Tryz.zeroValue158 (by decide) 85 v w
  have q9 := fun v w => as_no (T := 203) Tryz.underlying161 Tryz.zeroValue161 (by decide) 85 v w
  go_enter Tryz.func47, Tryz.ntmps47
  go_wp2_with fail
  refine (HC.out _ hW).mono ?_
  rintro e w1 ⟨rfl, hb1⟩
  go_wp2
  go_ret
  exact ⟨rfl, hb1⟩

set_option maxRecDepth 100000 in
set_option maxHeartbeats 1600000 in
theorem toSt_dumpTree {X : Nat} (x : Value) (s : List UInt8) (w : World) (h : ShowsS X w (.iface 204 x) s) : Shows X w (.iface 204 x) s := by
  intro W hW
  have HC : Hid (∀ W, But X w W → Calls Tryz.prog 92 #[.iface 204 x] W fun e w' => e = .returned (.string ⟨s.toArray⟩) ∧ Below W.heap.size W w') := h
  have q0 := fun v w => as_no (T := 204) Tryz.underlying144 Tryz.zeroValue144 (by decide) 85 v w
  have q1 := fun v w => as_no (T := 204) Tryz.underlying146 Tryz.zeroValue146 (by decide) 85 v w
  have q2 := fun v w => as_no (T := 204) Tryz.underlying148 Tryz.zeroValue148 (by decide) 85 v w
  have q3 := fun v w => as_no (T := 204) Tryz.underlying150 Tryz.zeroValue150 (by decide) 85 v w
  have q4 := fun v w => as_no (T := 204) Tryz.underlying153 Tryz.zeroValue153 (by decide) 85 v w
  have q5 := fun v w => as_no (T := 204) Tryz.underlying154 Tryz.zeroValue154 (by decide) 85 v w
  have q6 := fun v w => as_no (T := 204) Tryz.underlying155 Tryz.zeroValue155 (by decide) 85 v w
  have q7 := fun v w => as_no (T := 204) Tryz.underlying156 Tryz.zeroValue156 (by decide) 85 v w
  have q8 := fun v w => as_no (T := 204) Tryz.underlying158 Tryz.zeroValue158 (by decide) 85 v w
  have q9 := fun v w => as_no (T := 204) Tryz.underlying161 Tryz.zeroValue161 (by decide) 85 v w
  go_enter Tryz.func47, Tryz.ntmps47
  go_wp2_with fail
  refine (HC.out _ hW).mono ?_
  rintro e w1 ⟨rfl, hb1⟩
  go_wp2
  go_ret
  exact ⟨rfl, hb1⟩

set_option maxRecDepth 100000 in
set_option maxHeartbeats 1600000 in
theorem toSt_nextTree {X : Nat} (x : Value) (s : List UInt8) (w : World) (h : ShowsS X w (.iface 205 x) s) : Shows X w (.iface 205 x) s := by
  intro W hW
  have HC : Hid (∀ W, But X w W → Calls Tryz.prog 92 #[.iface 205 x] W fun e w' => e = .returned (.string ⟨s.toArray⟩) ∧ Below W.heap.size W w') := h
  have q0 := fun v w => as_no (T := 205) Tryz.underlying144 Tryz.zeroValue144 (by decide) 85 v w
  have q1 := fun v w => as_no (T := 205) Tryz.underlying146 Tryz.zeroValue146 (by decide) 85 v w
  have q2 := fun v w => as_no (T := 205) Tryz.underlying148 Tryz.zeroValue148 (by decide) 85 v w
  have q3 := fun v w => as_no (T := 205) Tryz.underlying150 Tryz.zeroValue150 (by decide) 85 v w
  have q4 := fun v w => as_no (T := 205) Tryz.underlying153 Tryz.zeroValue153 (by decide) 85 v w
  have q5 := fun v w => as_no (T := 205) Tryz.underlying154 Tryz.zeroValue154 (by decide) 85 v w
  have q6 := fun v w => as_no (T := 205) Tryz.underlying155 Tryz.zeroValue155 (by decide) 85 v w
  have q7 := fun v w => as_no (T := 205) Tryz.underlying156 Tryz.zeroValue156 (by decide) 85 v w
  have q8 := fun v w => as_no (T := 205) Tryz.underlying158 Tryz.zeroValue158 (by decide) 85 v w
  have q9 := fun v w => as_no (T := 205) Tryz.underlying161 Tryz.zeroValue161 (by decide) 85 v w
  go_enter Tryz.func47, Tryz.ntmps47
  go_wp2_with fail
  refine (HC.out _ hW).mono ?_
  rintro e w1 ⟨rfl, hb1⟩
  go_wp2
  go_ret
  exact ⟨rfl, hb1⟩

set_option maxRecDepth 100000 in
set_option maxHeartbeats 1600000 in
theorem shows_next {X : Nat} (w : World) : Shows X w (.iface 205 (.agg #[])) ([110, 101, 120, 116]) := by
  refine toSt_nextTree _ _ w fun W hW => ?_
  have q0 := fun v w => as_no (T := 205) Tryz.underlying195 Tryz.zeroValue195 (by decide) 85 v w
  have q1 := fun v w => as_no (T := 205) Tryz.underlying197 Tryz.zeroValue197 (by decide) 85 v w
  have q2 := fun v w => as_no (T := 205) Tryz.underlying199 Tryz.zeroValue199 (by decide) 85 v w
  have q3 := fun v w => as_no (T := 205) Tryz.underlying201 Tryz.zeroValue201 (by decide) 85 v w
  have q4 := fun v w => as_no (T := 205) Tryz.underlying203 Tryz.zeroValue203 (by decide) 85 v w
  have q5 := fun v w => as_no (T := 205) Tryz.underlying204 Tryz.zeroValue204 (by decide) 85 v w
  go_enter Tryz.func92, Tryz.ntmps92
  go_wp2
  go_ret
  refine ⟨?_, Below.refl _ _⟩
  apply congrArg Ending.returned
  apply congrArg Value.string
  apply ByteArray.ext
  simp

set_option maxRecDepth 100000 in
set_option maxHeartbeats 1600000 in
theorem shows_dump {X : Nat} (t : ByteArray) (w : World) (ht : t.size ≤ 1000000) : Shows X w (.iface 204 (.agg #[.string t])) ([100, 117, 109, 112, 32] ++ t.data.toList) := by
  refine toSt_dumpTree _ _ w fun W hW => ?_
  have q0 := fun v w => as_no (T := 204) Tryz.underlying195 Tryz.zeroValue195 (by decide) 85 v w
  have q1 := fun v w => as_no (T := 204) Tryz.underlying197 Tryz.zeroValue197 (by decide) 85 v w
  have q2 := fun v w => as_no (T := 204) Tryz.underlying199 Tryz.zeroValue199 (by decide) 85 v w
  have q3 := fun v w => as_no (T := 204) Tryz.underlying201 Tryz.zeroValue201 (by decide) 85 v w
  have q4 := fun v w => as_no (T := 204) Tryz.underlying203 Tryz.zeroValue203 (by decide) 85 v w
  have q5 := fun v w => as_yes Tryz.underlying204 85 v w
  have n0 : ¬ 9223372036854775807 < 5 + t.size := by omega
  go_enter Tryz.func92, Tryz.ntmps92
  go_wp2
  go_ret
  refine ⟨?_, (Below.refl _ _).alloc (Nat.le_refl _) _⟩
  apply congrArg Ending.returned
  apply congrArg Value.string
  apply ByteArray.ext
  simp

set_option maxRecDepth 100000 in
set_option maxHeartbeats 1600000 in
theorem shows_print {X : Nat} (v : Value) (ks : List (TypeId × Value)) (es : List (List UInt8)) (w : World) (h : TreesAt X w v ks) (he : es.length = ks.length) (hS : ∀ j, j < ks.length → Shows X w (tv (ks.getD j tno)) (es.getD j [])) (h1 : 1 ≤ ks.length) (hk : ks.length ≤ 1000) (hl : (Lib.join es [44, 32]).length ≤ 1000000) : Shows X w (.iface 195 (.agg #[v])) ([112, 114, 105, 110, 116, 32] ++ Lib.join es [44, 32]) := by
  refine toSt_printTree _ _ w fun W hW => ?_
  have q0 := fun v w => as_yes Tryz.underlying195 85 v w
  have C := fun W' (hb : Below W.heap.size W W') => textsOf_any v ks es ⟨#[44, 32]⟩ w h he hS hk hl W' (hW.up hb)
  have eT : (⟨#[44, 32]⟩ : ByteArray).data.toList = [44, 32] := rfl
  rw [eT] at C
  obtain ⟨a, c, rfl, -⟩ := h
  obtain ⟨R, hR⟩ : ∃ R, R = Lib.join es [44, 32] := ⟨_, rfl⟩
  rw [← hR] at C hl ⊢
  have HC : Hid (∀ W', Below W.heap.size W W' → Calls Tryz.prog 130 #[.slice a ks.length c, .string ⟨#[44, 32]⟩] W' fun e w' => e = .returned (.string ⟨R.toArray⟩) ∧ Below W'.heap.size W' w') := C
  have n0 : ¬ 9223372036854775807 < 6 + R.length := by omega
  have d0 : ((ks.length : Int) == 0) = false := beq_eq_false_iff_ne.2 (by omega)
  generalize ks.length = n at *
  have HB : Hid (Below W.heap.size W (W.alloc (.cells #[.slice a n c] 195))) := (Below.refl _ _).alloc (Nat.le_refl _) _
  clear C hR hS he eT
  go_enter Tryz.func92, Tryz.ntmps92
  go_wp2_with fail
  refine (HC.out _ HB.out).mono ?_
  rintro e w1 ⟨rfl, hb1⟩
  have hbf := HB.out.trans (hb1.mono HB.out.size)
  clear hb1 HC
  go_wp2
  go_ret
  refine ⟨?_, hbf⟩
  apply congrArg Ending.returned
  apply congrArg Value.string
  apply ByteArray.ext
  simp

set_option maxRecDepth 100000 in
set_option maxHeartbeats 1600000 in
theorem shows_block {X : Nat} (v : Value) (ks : List (TypeId × Value)) (es : List (List UInt8)) (w : World) (h : TreesAt X w v ks) (he : es.length = ks.length) (hS : ∀ j, j < ks.length → Shows X w (tv (ks.getD j tno)) (es.getD j [])) (h1 : 1 ≤ ks.length) (hk : ks.length ≤ 1000) (hl : (Lib.join es [59, 32]).length ≤ 1000000) : Shows X w (.iface 203 (.agg #[v])) ([123, 32] ++ Lib.join es [59, 32] ++ [32, 125]) := by
  refine toSt_blockTree _ _ w fun W hW => ?_
  have q0 := fun v w => as_no (T := 203) Tryz.underlying195 Tryz.zeroValue195 (by decide) 85 v w
  have q1 := fun v w => as_no (T := 203) Tryz.underlying197 Tryz.zeroValue197 (by decide) 85 v w
  have q2 := fun v w => as_no (T := 203) Tryz.underlying199 Tryz.zeroValue199 (by decide) 85 v w
  have q3 := fun v w => as_no (T := 203) Tryz.underlying201 Tryz.zeroValue201 (by decide) 85 v w
  have q4 := fun v w => as_yes Tryz.underlying203 85 v w
  have C := fun W' (hb : Below W.heap.size W W') => textsOf_any v ks es ⟨#[59, 32]⟩ w h he hS hk hl W' (hW.up hb)
  have eT : (⟨#[59, 32]⟩ : ByteArray).data.toList = [59, 32] := rfl
  rw [eT] at C
  obtain ⟨a, c, rfl, -⟩ := h
  obtain ⟨R, hR⟩ : ∃ R, R = Lib.join es [59, 32] := ⟨_, rfl⟩
  rw [← hR] at C hl ⊢
  have HC : Hid (∀ W', Below W.heap.size W W' → Calls Tryz.prog 130 #[.slice a ks.length c, .string ⟨#[59, 32]⟩] W' fun e w' => e = .returned (.string ⟨R.toArray⟩) ∧ Below W'.heap.size W' w') := C
  have n0 : ¬ 9223372036854775807 < 2 + R.length := by omega
  have n1 : ¬ 9223372036854775807 < 2 + R.length + 2 := by omega
  have d0 : ((ks.length : Int) == 0) = false := beq_eq_false_iff_ne.2 (by omega)
  generalize ks.length = n at *
  have HB : Hid (Below W.heap.size W (W.alloc (.cells #[.slice a n c] 203))) := (Below.refl _ _).alloc (Nat.le_refl _) _
  clear C hR hS he eT
  go_enter Tryz.func92, Tryz.ntmps92
  go_wp2_with fail
  refine (HC.out _ HB.out).mono ?_
  rintro e w1 ⟨rfl, hb1⟩
  have hbf := HB.out.trans (hb1.mono HB.out.size)
  clear hb1 HC
  go_wp2
  go_ret
  refine ⟨?_, hbf⟩
  apply congrArg Ending.returned
  apply congrArg Value.string
  apply ByteArray.ext
  simp

set_option maxRecDepth 100000 in
set_option maxHeartbeats 1600000 in
theorem shows_block0 {X : Nat} (a : Option Addr) (c : Nat) (w : World) : Shows X w (.iface 203 (.agg #[.slice a 0 c])) ([123, 32, 125]) := by
  refine toSt_blockTree _ _ w fun W hW => ?_
  have q0 := fun v w => as_no (T := 203) Tryz.underlying195 Tryz.zeroValue195 (by decide) 85 v w
  have q1 := fun v w => as_no (T := 203) Tryz.underlying197 Tryz.zeroValue197 (by decide) 85 v w
  have q2 := fun v w => as_no (T := 203) Tryz.underlying199 Tryz.zeroValue199 (by decide) 85 v w
  have q3 := fun v w => as_no (T := 203) Tryz.underlying201 Tryz.zeroValue201 (by decide) 85 v w
  have q4 := fun v w => as_yes Tryz.underlying203 85 v w
  go_enter Tryz.func92, Tryz.ntmps92
  go_wp2
  go_ret
  refine ⟨?_, (Below.refl _ _).alloc (Nat.le_refl _) _⟩
  apply congrArg Ending.returned
  apply congrArg Value.string
  apply ByteArray.ext
  simp

set_option maxRecDepth 100000 in
set_option maxHeartbeats 1600000 in
theorem shows_set18 {X : Nat} (t : ByteArray) (T : TypeId) (x : Value) (E : List UInt8) (w : World) (h : Shows X w (.iface T x) E) (hl : E.length ≤ 1000000) (ht : t.size ≤ 1000000) : Shows X w (.iface 197 (.agg #[.int .i64 18, .string t, .iface T x])) (t.data.toList ++ [32, 61, 32] ++ E) := by
  refine toSt_setTree _ _ w fun W hW => ?_
  have q0 := fun v w => as_no (T := 197) Tryz.underlying195 Tryz.zeroValue195 (by decide) 85 v w
  have q1 := fun v w => as_yes Tryz.underlying197 85 v w
  have HC : Hid (∀ W', Below W.heap.size W W' → Calls Tryz.prog 47 #[.iface T x] W' fun e w' => e = .returned (.string ⟨E.toArray⟩) ∧ Below W'.heap.size W' w') := h.on hW
  have HE : Hid (∀ U : World, Calls Tryz.prog 131 #[.int .i64 18] U fun e w' => e = .returned (.string ⟨#[32, 61, 32]⟩) ∧ w' = U) := fun U => setText_any 18 U
  have HB : Hid (Below W.heap.size W (W.alloc (.cells #[.int .i64 18, .string t, .iface T x] 197))) := (Below.refl _ _).alloc (Nat.le_refl _) _
  have n0 : ¬ 9223372036854775807 < t.size + 3 := by omega
  have n1 : ¬ 9223372036854775807 < t.size + 3 + E.length := by omega
  obtain ⟨m0, m1, m2⟩ := tcells3 (heap_alloc_new W (.cells #[.int .i64 18, .string t, .iface T x] 197))
  have HD : Hid (∀ U, (U.cell? ⟨W.heap.size, 0, none⟩ = some (.int .i64 18) ∧ U.cell? ⟨W.heap.size, 1, none⟩ = some (.string t) ∧ U.cell? ⟨W.heap.size, 2, none⟩ = some (.iface T x) ∧ Hid (Below W.heap.size W U)) → Calls Tryz.prog 47 #[.iface T x] U fun e w' => e = .returned (.string ⟨E.toArray⟩) ∧ Below U.heap.size U w') := fun U h => HC.out U h.2.2.2.out
  go_enter Tryz.func92, Tryz.ntmps92
  go_wp2_with fail
  generalize W.alloc (.cells #[.int .i64 18, .string t, .iface T x] 197) = W2 at *
  clear HC h
  go_region_held3 (fun U => U.cell? ⟨W.heap.size, 0, none⟩ = some (.int .i64 18) ∧ U.cell? ⟨W.heap.size, 1, none⟩ = some (.string t) ∧ U.cell? ⟨W.heap.size, 2, none⟩ = some (.iface T x) ∧ Hid (Below W.heap.size W U)) (first | exact kp3 hb2 (by assumption) | exact ⟨m0, m1, m2, HB.out.drew⟩ | assumption) (first | (go_at_call 131; refine (HE.out _).mono ?_; rintro e a1 ⟨rfl, rfl⟩) | (go_at_call 47; refine (HD.out _ (by assumption)).mono ?_; rintro e a2 ⟨rfl, hb2⟩))
  have hbf : Below W.heap.size W a2 := HB.out.drew.trans (hb2.mono HB.out.size)
  go_wp2
  go_ret
  refine ⟨?_, hbf⟩
  apply congrArg Ending.returned
  apply congrArg Value.string
  apply ByteArray.ext
  simp

set_option maxRecDepth 100000 in
set_option maxHeartbeats 1600000 in
theorem shows_set19 {X : Nat} (t : ByteArray) (T : TypeId) (x : Value) (E : List UInt8) (w : World) (h : Shows X w (.iface T x) E) (hl : E.length ≤ 1000000) (ht : t.size ≤ 1000000) : Shows X w (.iface 197 (.agg #[.int .i64 19, .string t, .iface T x])) (t.data.toList ++ [32, 43, 61, 32] ++ E) := by
  refine toSt_setTree _ _ w fun W hW => ?_
  have q0 := fun v w => as_no (T := 197) Tryz.underlying195 Tryz.zeroValue195 (by decide) 85 v w
  have q1 := fun v w => as_yes Tryz.underlying197 85 v w
  have HC : Hid (∀ W', Below W.heap.size W W' → Calls Tryz.prog 47 #[.iface T x] W' fun e w' => e = .returned (.string ⟨E.toArray⟩) ∧ Below W'.heap.size W' w') := h.on hW
  have HE : Hid (∀ U : World, Calls Tryz.prog 131 #[.int .i64 19] U fun e w' => e = .returned (.string ⟨#[32, 43, 61, 32]⟩) ∧ w' = U) := fun U => setText_any 19 U
  have HB : Hid (Below W.heap.size W (W.alloc (.cells #[.int .i64 19, .string t, .iface T x] 197))) := (Below.refl _ _).alloc (Nat.le_refl _) _
  have n0 : ¬ 9223372036854775807 < t.size + 4 := by omega
  have n1 : ¬ 9223372036854775807 < t.size + 4 + E.length := by omega
  obtain ⟨m0, m1, m2⟩ := tcells3 (heap_alloc_new W (.cells #[.int .i64 19, .string t, .iface T x] 197))
  have HD : Hid (∀ U, (U.cell? ⟨W.heap.size, 0, none⟩ = some (.int .i64 19) ∧ U.cell? ⟨W.heap.size, 1, none⟩ = some (.string t) ∧ U.cell? ⟨W.heap.size, 2, none⟩ = some (.iface T x) ∧ Hid (Below W.heap.size W U)) → Calls Tryz.prog 47 #[.iface T x] U fun e w' => e = .returned (.string ⟨E.toArray⟩) ∧ Below U.heap.size U w') := fun U h => HC.out U h.2.2.2.out
  go_enter Tryz.func92, Tryz.ntmps92
  go_wp2_with fail
  generalize W.alloc (.cells #[.int .i64 19, .string t, .iface T x] 197) = W2 at *
  clear HC h
  go_region_held3 (fun U => U.cell? ⟨W.heap.size, 0, none⟩ = some (.int .i64 19) ∧ U.cell? ⟨W.heap.size, 1, none⟩ = some (.string t) ∧ U.cell? ⟨W.heap.size, 2, none⟩ = some (.iface T x) ∧ Hid (Below W.heap.size W U)) (first | exact kp3 hb2 (by assumption) | exact ⟨m0, m1, m2, HB.out.drew⟩ | assumption) (first | (go_at_call 131; refine (HE.out _).mono ?_; rintro e a1 ⟨rfl, rfl⟩) | (go_at_call 47; refine (HD.out _ (by assumption)).mono ?_; rintro e a2 ⟨rfl, hb2⟩))
  have hbf : Below W.heap.size W a2 := HB.out.drew.trans (hb2.mono HB.out.size)
  go_wp2
  go_ret
  refine ⟨?_, hbf⟩
  apply congrArg Ending.returned
  apply congrArg Value.string
  apply ByteArray.ext
  simp

end Go.Proofs.YtjbodcakhnkggapGreatDoor
