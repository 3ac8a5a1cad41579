/- Trees: which type a tree is of; what is shown of an expression. -/
import Derived.Test.YtknojhmnadmilaaGreatDoorProg
import Derived.WalkKit
import Derived.WalkSpells
import Derived.WalkLawsBesides
import Derived.Handy
import Derived.Lib.Strings
import Derived.BigQuiet
import Derived.Below
import Derived.Deep.QuietTactic
import Derived.Deep.RegionHeld3
import Derived.Deep.RegionWith
namespace Go.Proofs.YtknojhmnadmilaaGreatDoor
open Go.RowKit

theorem as_yes {P : Program} {T : TypeId} {fs : Array Field} (h : P.underlying T = some (.struct fs)) (xT : TypeId) (v : Value) (w : World) : (Instr.typeAssert (.iface T v) xT T true).run P w = .ok (.tuple #[v, .bool true]) w := by
  simp [Instr.typeAssert, run_underlying h]
theorem as_no {P : Program} {T U : TypeId} {fs : Array Field} {z : Value} (h : P.underlying U = some (.struct fs)) (hz : ∀ w, (zeroValue U).run P w = .ok z w) (hne : T ≠ U) (xT : TypeId) (v : Value) (w : World) : (Instr.typeAssert (.iface T v) xT U true).run P w = .ok (.tuple #[z, .bool false]) w := by
  simp [Instr.typeAssert, run_underlying h, hne, hz]
/-- The memory of w stands in W, but for block X. -/
def But (X : Nat) (w W : World) : Prop := w.heap.size ≤ W.heap.size ∧ ∀ g, g < w.heap.size → g ≠ X → W.heap[g]? = w.heap[g]?
theorem But.of {X : Nat} {w W : World} (h : Below w.heap.size w W) : But X w W := ⟨h.size, fun g hg _ => h.block g hg⟩
theorem But.trans {X : Nat} {w W U : World} (h : But X w W) (h2 : But X W U) : But X w U := ⟨Nat.le_trans h.1 h2.1, fun g hg hX => (h2.2 g (by have := h.1; omega) hX).trans (h.2 g hg hX)⟩
theorem But.up {X : Nat} {w W U : World} (h : But X w W) (h2 : Below W.heap.size W U) : But X w U := h.trans (But.of h2)
theorem But.cell {X : Nat} {w W : World} (h : But X w W) {p : Addr} {x : Value} (hX : p.block ≠ X) (hc : w.cell? p = some x) : W.cell? p = some x := by
  have hl := World.block_lt_of_cell? w _ hc
  have := h.2 p.block hl hX
  unfold World.cell? at hc ⊢
  rw [this]
  exact hc
/-- What is shown of the tree v, in every world behind w (block X may have changed). -/
def Shows (X : Nat) (w : World) (v : Value) (s : List UInt8) : Prop := ∀ W, But X w W → Calls Tryz.prog 21 #[v] W fun e w' => e = .returned (.string ⟨s.toArray⟩) ∧ Below W.heap.size W w'
theorem Shows.keep {X : Nat} {w w' : World} {v : Value} {s : List UInt8} (h : Shows X w v s) (hb : But X w w') : Shows X w' v s := fun W hW => h W (hb.trans hW)
theorem Shows.on {X : Nat} {w W : World} {v : Value} {s : List UInt8} (h : Shows X w v s) (hb : But X w W) : ∀ W', Below W.heap.size W W' → Calls Tryz.prog 21 #[v] W' fun e w' => e = .returned (.string ⟨s.toArray⟩) ∧ Below W'.heap.size W' w' := fun W' h' => h W' (hb.up h')
theorem tcells2 {w : World} {g : Nat} {a b : Value} {ty : TypeId} (h : w.heap[g]? = some (.cells #[a, b] ty (0, 0))) : w.cell? ⟨g, 0, none⟩ = some a ∧ w.cell? ⟨g, 1, none⟩ = some b := by
  simp [World.cell?, h]
theorem tcells3 {w : World} {g : Nat} {a b c : Value} {ty : TypeId} (h : w.heap[g]? = some (.cells #[a, b, c] ty (0, 0))) : w.cell? ⟨g, 0, none⟩ = some a ∧ w.cell? ⟨g, 1, none⟩ = some b ∧ w.cell? ⟨g, 2, none⟩ = some c := by
  simp [World.cell?, h]
theorem kp2 {w0 w a2 : World} {p1 p2 : Addr} {x1 x2 : Value} (hb : Below w.heap.size w a2) (h : w.cell? p1 = some x1 ∧ w.cell? p2 = some x2 ∧ Hid (Below w0.heap.size w0 w)) : a2.cell? p1 = some x1 ∧ a2.cell? p2 = some x2 ∧ Hid (Below w0.heap.size w0 a2) := by
  obtain ⟨h1, h2, h8⟩ := h
  have k : ∀ {p : Addr} {x : Value}, w.cell? p = some x → a2.cell? p = some x := fun h => (hb.cell (World.block_lt_of_cell? w _ h)).trans h
  exact ⟨k h1, k h2, h8.out.trans (hb.mono h8.out.size)⟩
theorem kp3 {w0 w a2 : World} {p1 p2 p3 : Addr} {x1 x2 x3 : Value} (hb : Below w.heap.size w a2) (h : w.cell? p1 = some x1 ∧ w.cell? p2 = some x2 ∧ w.cell? p3 = some x3 ∧ Hid (Below w0.heap.size w0 w)) : a2.cell? p1 = some x1 ∧ a2.cell? p2 = some x2 ∧ a2.cell? p3 = some x3 ∧ Hid (Below w0.heap.size w0 a2) := by
  obtain ⟨h1, h2, h3, h8⟩ := h
  have k : ∀ {p : Addr} {x : Value}, w.cell? p = some x → a2.cell? p = some x := fun h => (hb.cell (World.block_lt_of_cell? w _ h)).trans h
  exact ⟨k h1, k h2, k h3, h8.out.trans (hb.mono h8.out.size)⟩
theorem kp4 {w0 w a2 : World} {p1 p2 p3 p4 : Addr} {x1 x2 x3 x4 : Value} (hb : Below w.heap.size w a2) (h : w.cell? p1 = some x1 ∧ w.cell? p2 = some x2 ∧ w.cell? p3 = some x3 ∧ w.cell? p4 = some x4 ∧ Hid (Below w0.heap.size w0 w)) : a2.cell? p1 = some x1 ∧ a2.cell? p2 = some x2 ∧ a2.cell? p3 = some x3 ∧ a2.cell? p4 = some x4 ∧ Hid (Below w0.heap.size w0 a2) := by
  obtain ⟨h1, h2, h3, h4, h8⟩ := h
  have k : ∀ {p : Addr} {x : Value}, w.cell? p = some x → a2.cell? p = some x := fun h => (hb.cell (World.block_lt_of_cell? w _ h)).trans h
  exact ⟨k h1, k h2, k h3, k h4, h8.out.trans (hb.mono h8.out.size)⟩
theorem str_list (t : ByteArray) : (⟨t.data.toList.toArray⟩ : ByteArray) = t := by simp


set_option maxRecDepth 100000 in
set_option maxHeartbeats 1600000 in
theorem shows_num {X : Nat} (t : ByteArray) (w : World) : Shows X w (.iface 78 (.agg #[.string t])) (t.data.toList) := by
  intro W hW
  have q0 := fun v w => as_yes Tryz.underlying78 57 v w
  go_enter Tryz.func21, Tryz.ntmps21
  go_wp2
  go_ret
  refine ⟨?_, (Below.refl _ _).alloc (Nat.le_refl _) _⟩
  apply congrArg Ending.returned
  apply congrArg Value.string
  apply ByteArray.ext
  simp

set_option maxRecDepth 100000 in
set_option maxHeartbeats 1600000 in
theorem shows_name {X : Nat} (t : ByteArray) (w : World) : Shows X w (.iface 82 (.agg #[.string t])) (t.data.toList) := by
  intro W hW
  have q0 := fun v w => as_no (T := 82) Tryz.underlying78 Tryz.zeroValue78 (by decide) 57 v w
  have q1 := fun v w => as_no (T := 82) Tryz.underlying80 Tryz.zeroValue80 (by decide) 57 v w
  have q2 := fun v w => as_yes Tryz.underlying82 57 v w
  go_enter Tryz.func21, Tryz.ntmps21
  go_wp2
  go_ret
  refine ⟨?_, (Below.refl _ _).alloc (Nat.le_refl _) _⟩
  apply congrArg Ending.returned
  apply congrArg Value.string
  apply ByteArray.ext
  simp

set_option maxRecDepth 100000 in
set_option maxHeartbeats 1600000 in
theorem shows_text {X : Nat} (t : ByteArray) (w : World) (hl : t.size ≤ 1000000) : Shows X w (.iface 80 (.agg #[.string t])) ([34] ++ t.data.toList ++ [34]) := by
  intro W hW
  have q0 := fun v w => as_no (T := 80) Tryz.underlying78 Tryz.zeroValue78 (by decide) 57 v w
  have q1 := fun v w => as_yes Tryz.underlying80 57 v w
  have n0 : ¬ 9223372036854775807 < 1 + t.size := by omega
  have n1 : ¬ 9223372036854775807 < 1 + t.size + 1 := by omega
  go_enter Tryz.func21, Tryz.ntmps21
  go_wp2
  go_ret
  refine ⟨?_, (Below.refl _ _).alloc (Nat.le_refl _) _⟩
  apply congrArg Ending.returned
  apply congrArg Value.string
  apply ByteArray.ext
  simp

set_option maxRecDepth 100000 in
set_option maxHeartbeats 1600000 in
theorem shows_fields {X : Nat} (w : World) : Shows X w (.iface 89 (.agg #[])) ([78, 70]) := by
  intro W hW
  have q0 := fun v w => as_no (T := 89) Tryz.underlying78 Tryz.zeroValue78 (by decide) 57 v w
  have q1 := fun v w => as_no (T := 89) Tryz.underlying80 Tryz.zeroValue80 (by decide) 57 v w
  have q2 := fun v w => as_no (T := 89) Tryz.underlying82 Tryz.zeroValue82 (by decide) 57 v w
  have q3 := fun v w => as_no (T := 89) Tryz.underlying84 Tryz.zeroValue84 (by decide) 57 v w
  have q4 := fun v w => as_no (T := 89) Tryz.underlying87 Tryz.zeroValue87 (by decide) 57 v w
  have q5 := fun v w => as_yes Tryz.underlying89 57 v w
  go_enter Tryz.func21, Tryz.ntmps21
  go_wp2
  go_ret
  refine ⟨?_, (Below.refl _ _).alloc (Nat.le_refl _) _⟩
  apply congrArg Ending.returned
  apply congrArg Value.string
  apply ByteArray.ext
  simp

set_option maxRecDepth 100000 in
set_option maxHeartbeats 1600000 in
theorem shows_line {X : Nat} (w : World) : Shows X w (.iface 90 (.agg #[])) ([78, 82]) := by
  intro W hW
  have q0 := fun v w => as_no (T := 90) Tryz.underlying78 Tryz.zeroValue78 (by decide) 57 v w
  have q1 := fun v w => as_no (T := 90) Tryz.underlying80 Tryz.zeroValue80 (by decide) 57 v w
  have q2 := fun v w => as_no (T := 90) Tryz.underlying82 Tryz.zeroValue82 (by decide) 57 v w
  have q3 := fun v w => as_no (T := 90) Tryz.underlying84 Tryz.zeroValue84 (by decide) 57 v w
  have q4 := fun v w => as_no (T := 90) Tryz.underlying87 Tryz.zeroValue87 (by decide) 57 v w
  have q5 := fun v w => as_no (T := 90) Tryz.underlying89 Tryz.zeroValue89 (by decide) 57 v w
  have q6 := fun v w => as_yes Tryz.underlying90 57 v w
  go_enter Tryz.func21, Tryz.ntmps21
  go_wp2
  go_ret
  refine ⟨?_, (Below.refl _ _).alloc (Nat.le_refl _) _⟩
  apply congrArg Ending.returned
  apply congrArg Value.string
  apply ByteArray.ext
  simp

set_option maxRecDepth 100000 in
set_option maxHeartbeats 1600000 in
theorem shows_field {X : Nat} (T : TypeId) (x : Value) (E : List UInt8) (w : World) (h : Shows X w (.iface T x) E) (hl : E.length ≤ 1000000) : Shows X w (.iface 87 (.agg #[.iface T x])) ([36, 40] ++ E ++ [41]) := by
  intro W hW
  have q0 := fun v w => as_no (T := 87) Tryz.underlying78 Tryz.zeroValue78 (by decide) 57 v w
  have q1 := fun v w => as_no (T := 87) Tryz.underlying80 Tryz.zeroValue80 (by decide) 57 v w
  have q2 := fun v w => as_no (T := 87) Tryz.underlying82 Tryz.zeroValue82 (by decide) 57 v w
  have q3 := fun v w => as_no (T := 87) Tryz.underlying84 Tryz.zeroValue84 (by decide) 57 v w
  have q4 := fun v w => as_yes Tryz.underlying87 57 v w
  have n0 : ¬ 9223372036854775807 < 2 + E.length := by omega
  have n1 : ¬ 9223372036854775807 < 2 + E.length + 1 := by omega
  have HC : Hid (∀ W', Below W.heap.size W W' → Calls Tryz.prog 21 #[.iface T x] W' fun e w' => e = .returned (.string ⟨E.toArray⟩) ∧ Below W'.heap.size W' w') := h.on hW
  have HB : Hid (∀ o : Obj, Below W.heap.size W (W.alloc o)) := fun o => (Below.refl _ _).alloc (Nat.le_refl _) _
  go_enter Tryz.func21, Tryz.ntmps21
  go_wp2_with fail
  refine (HC.out _ (HB.out _)).mono ?_
  rintro e w1 ⟨rfl, hb1⟩
  have hbf := (HB.out _).trans (hb1.mono (HB.out _).size)
  clear hb1 HC
  go_wp2
  go_ret
  refine ⟨?_, hbf⟩
  apply congrArg Ending.returned
  apply congrArg Value.string
  apply ByteArray.ext
  simp

set_option maxRecDepth 100000 in
set_option maxHeartbeats 1600000 in
theorem shows_long {X : Nat} (T : TypeId) (x : Value) (E : List UInt8) (w : World) (h : Shows X w (.iface T x) E) (hl : E.length ≤ 1000000) : Shows X w (.iface 91 (.agg #[.iface T x])) ([108, 101, 110, 103, 116, 104, 40] ++ E ++ [41]) := by
  intro W hW
  have q0 := fun v w => as_no (T := 91) Tryz.underlying78 Tryz.zeroValue78 (by decide) 57 v w
  have q1 := fun v w => as_no (T := 91) Tryz.underlying80 Tryz.zeroValue80 (by decide) 57 v w
  have q2 := fun v w => as_no (T := 91) Tryz.underlying82 Tryz.zeroValue82 (by decide) 57 v w
  have q3 := fun v w => as_no (T := 91) Tryz.underlying84 Tryz.zeroValue84 (by decide) 57 v w
  have q4 := fun v w => as_no (T := 91) Tryz.underlying87 Tryz.zeroValue87 (by decide) 57 v w
  have q5 := fun v w => as_no (T := 91) Tryz.underlying89 Tryz.zeroValue89 (by decide) 57 v w
  have q6 := fun v w => as_no (T := 91) Tryz.underlying90 Tryz.zeroValue90 (by decide) 57 v w
  have q7 := fun v w => as_yes Tryz.underlying91 57 v w
  have n0 : ¬ 9223372036854775807 < 7 + E.length := by omega
  have n1 : ¬ 9223372036854775807 < 7 + E.length + 1 := by omega
  have HC : Hid (∀ W', Below W.heap.size W W' → Calls Tryz.prog 21 #[.iface T x] W' fun e w' => e = .returned (.string ⟨E.toArray⟩) ∧ Below W'.heap.size W' w') := h.on hW
  have HB : Hid (∀ o : Obj, Below W.heap.size W (W.alloc o)) := fun o => (Below.refl _ _).alloc (Nat.le_refl _) _
  go_enter Tryz.func21, Tryz.ntmps21
  go_wp2_with fail
  refine (HC.out _ (HB.out _)).mono ?_
  rintro e w1 ⟨rfl, hb1⟩
  have hbf := (HB.out _).trans (hb1.mono (HB.out _).size)
  clear hb1 HC
  go_wp2
  go_ret
  refine ⟨?_, hbf⟩
  apply congrArg Ending.returned
  apply congrArg Value.string
  apply ByteArray.ext
  simp

set_option maxRecDepth 100000 in
set_option maxHeartbeats 1600000 in
theorem cellText_any {X : Nat} (t : ByteArray) (T : TypeId) (x : Value) (E : List UInt8) (w : World) (h : Shows X w (.iface T x) E) (hl : E.length ≤ 1000000) (ht : t.size ≤ 1000000) :
    ∀ W, But X w W → Calls Tryz.prog 38 #[.string t, .iface T x] W fun e w' => e = .returned (.string ⟨(t.data.toList ++ [91] ++ E ++ [93]).toArray⟩) ∧ Below W.heap.size W w' := by
  intro W hW
  have n0 : ¬ 9223372036854775807 < t.size + 1 := by omega
  have n1 : ¬ 9223372036854775807 < t.size + 1 + E.length := by omega
  have n2 : ¬ 9223372036854775807 < t.size + 1 + E.length + 1 := by omega
  have HC : Hid (∀ W', Below W.heap.size W W' → Calls Tryz.prog 21 #[.iface T x] W' fun e w' => e = .returned (.string ⟨E.toArray⟩) ∧ Below W'.heap.size W' w') := h.on hW
  go_enter Tryz.func38, Tryz.ntmps38
  go_wp2_with fail
  refine (HC.out _ (Below.refl _ _)).mono ?_
  rintro e w1 ⟨rfl, hb1⟩
  go_wp2
  go_ret
  refine ⟨?_, hb1⟩
  apply congrArg Ending.returned
  apply congrArg Value.string
  apply ByteArray.ext
  simp

set_option maxRecDepth 100000 in
set_option maxHeartbeats 1600000 in
theorem shows_cell {X : Nat} (t : ByteArray) (T : TypeId) (x : Value) (E : List UInt8) (w : World) (h : Shows X w (.iface T x) E) (hl : E.length ≤ 1000000) (ht : t.size ≤ 1000000) : Shows X w (.iface 84 (.agg #[.string t, .iface T x])) (t.data.toList ++ [91] ++ E ++ [93]) := by
  intro W hW
  have q0 := fun v w => as_no (T := 84) Tryz.underlying78 Tryz.zeroValue78 (by decide) 57 v w
  have q1 := fun v w => as_no (T := 84) Tryz.underlying80 Tryz.zeroValue80 (by decide) 57 v w
  have q2 := fun v w => as_no (T := 84) Tryz.underlying82 Tryz.zeroValue82 (by decide) 57 v w
  have q3 := fun v w => as_yes Tryz.underlying84 57 v w
  have HC : Hid (∀ W', Below W.heap.size W W' → Calls Tryz.prog 38 #[.string t, .iface T x] W' fun e w' => e = .returned (.string ⟨(t.data.toList ++ [91] ++ E ++ [93]).toArray⟩) ∧ Below W'.heap.size W' w') := fun W' hb => cellText_any t T x E w h hl ht W' (hW.up hb)
  have HB : Hid (∀ o : Obj, Below W.heap.size W (W.alloc o)) := fun o => (Below.refl _ _).alloc (Nat.le_refl _) _
  generalize (t.data.toList ++ [91] ++ E ++ [93]) = R at *
  go_enter Tryz.func21, Tryz.ntmps21
  go_wp2_with fail
  refine (HC.out _ (HB.out _)).mono ?_
  rintro e w1 ⟨rfl, hb1⟩
  have hbf := (HB.out _).trans (hb1.mono (HB.out _).size)
  clear hb1 HC
  go_wp2
  go_ret
  exact ⟨rfl, hbf⟩

set_option maxRecDepth 100000 in
set_option maxHeartbeats 1600000 in
theorem shows_has {X : Nat} (t : ByteArray) (T : TypeId) (x : Value) (E : List UInt8) (w : World) (h : Shows X w (.iface T x) E) (hl : E.length ≤ 1000000) (ht : t.size ≤ 1000000) : Shows X w (.iface 96 (.agg #[.iface T x, .string t])) ([40] ++ E ++ [32, 126, 32, 47] ++ t.data.toList ++ [47, 41]) := by
  intro W hW
  have q0 := fun v w => as_no (T := 96) Tryz.underlying78 Tryz.zeroValue78 (by decide) 57 v w
  have q1 := fun v w => as_no (T := 96) Tryz.underlying80 Tryz.zeroValue80 (by decide) 57 v w
  have q2 := fun v w => as_no (T := 96) Tryz.underlying82 Tryz.zeroValue82 (by decide) 57 v w
  have q3 := fun v w => as_no (T := 96) Tryz.underlying84 Tryz.zeroValue84 (by decide) 57 v w
  have q4 := fun v w => as_no (T := 96) Tryz.underlying87 Tryz.zeroValue87 (by decide) 57 v w
  have q5 := fun v w => as_no (T := 96) Tryz.underlying89 Tryz.zeroValue89 (by decide) 57 v w
  have q6 := fun v w => as_no (T := 96) Tryz.underlying90 Tryz.zeroValue90 (by decide) 57 v w
  have q7 := fun v w => as_no (T := 96) Tryz.underlying91 Tryz.zeroValue91 (by decide) 57 v w
  have q8 := fun v w => as_no (T := 96) Tryz.underlying93 Tryz.zeroValue93 (by decide) 57 v w
  have q9 := fun v w => as_yes Tryz.underlying96 57 v w
  have HC : Hid (∀ W', Below W.heap.size W W' → Calls Tryz.prog 21 #[.iface T x] W' fun e w' => e = .returned (.string ⟨E.toArray⟩) ∧ Below W'.heap.size W' w') := h.on hW
  have HB : Hid (Below W.heap.size W (W.alloc (.cells #[.iface T x, .string t] 96))) := (Below.refl _ _).alloc (Nat.le_refl _) _
  have n0 : ¬ 9223372036854775807 < 1 + E.length := by omega
  have n1 : ¬ 9223372036854775807 < 1 + E.length + 1 := by omega
  have n2 : ¬ 9223372036854775807 < 1 + E.length + 1 + 1 := by omega
  have n3 : ¬ 9223372036854775807 < 1 + E.length + 1 + 1 + 2 := by omega
  have n4 : ¬ 9223372036854775807 < 1 + E.length + 1 + 1 + 2 + t.size := by omega
  have n5 : ¬ 9223372036854775807 < 1 + E.length + 1 + 1 + 2 + t.size + 2 := by omega
  have q := heap_alloc_new W (.cells #[.iface T x, .string t] 96)
  obtain ⟨m0, m1⟩ := tcells2 q
  clear q
  have HD : Hid (∀ U, (U.cell? ⟨W.heap.size, 0, none⟩ = some (.iface T x) ∧ U.cell? ⟨W.heap.size, 1, none⟩ = some (.string t) ∧ Hid (Below W.heap.size W U)) → Calls Tryz.prog 21 #[.iface T x] U fun e w' => e = .returned (.string ⟨E.toArray⟩) ∧ Below U.heap.size U w') := fun U h => HC.out U h.2.2.out
  go_enter Tryz.func21, Tryz.ntmps21
  go_wp2_with fail
  generalize W.alloc (.cells #[.iface T x, .string t] 96) = W2 at *
  clear HC h
  go_region_held3 (fun U => U.cell? ⟨W.heap.size, 0, none⟩ = some (.iface T x) ∧ U.cell? ⟨W.heap.size, 1, none⟩ = some (.string t) ∧ Hid (Below W.heap.size W U)) (first | exact kp2 hb2 (by assumption) | exact ⟨m0, m1, HB.out.drew⟩ | assumption) ((go_at_call 21; refine (HD.out _ (by assumption)).mono ?_; rintro e a2 ⟨rfl, hb2⟩))
  have hbf : Below W.heap.size W a2 := HB.out.drew.trans (hb2.mono HB.out.size)
  go_wp2
  go_ret
  refine ⟨?_, hbf⟩
  apply congrArg Ending.returned
  apply congrArg Value.string
  apply ByteArray.ext
  simp

end Go.Proofs.YtknojhmnadmilaaGreatDoor
