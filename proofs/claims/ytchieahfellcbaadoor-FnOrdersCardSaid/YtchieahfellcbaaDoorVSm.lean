/- What is the same, the program's and the specification's, at every two texts. -/
import Derived.Test.YtchieahfellcbaaDoorVLess
namespace Go.Proofs.YtchieahfellcbaaDoor
open Go.RowKit

set_option maxHeartbeats 400000 in
theorem numSame_any (x y : Int) (w : World) :
    Calls Tryd.prog 62 #[.agg #[.int .i64 x, .int .i64 y]] w fun e w' => e = .returned (.bool (x == y)) ∧ Below w.heap.size w w' := by
  go_enter Tryd.func62, Tryd.ntmps62
  go_wp2
  go_ret
  exact ⟨rfl, (Below.refl _ _).alloc (Nat.le_refl _) _⟩
set_option maxHeartbeats 400000 in
theorem strSame_any (x y : ByteArray) (w : World) :
    Calls Tryd.prog 63 #[.agg #[.string x, .string y]] w fun e w' => e = .returned (.bool (x.toList == y.toList)) ∧ Below w.heap.size w w' := by
  go_enter Tryd.func63, Tryd.ntmps63
  go_wp2
  go_ret
  exact ⟨rfl, (Below.refl _ _).alloc (Nat.le_refl _) _⟩

set_option maxHeartbeats 800000 in
set_option maxRecDepth 100000 in
theorem implSame_any (a b : ByteArray) (w : World) (ha : a.size ≤ 2097152) (hb : b.size ≤ 2097152) :
    Calls Tryd.prog 38 #[.string a, .string b] w fun e w' => e = .returned (.bool (smB a b)) ∧ Below w.heap.size w w' := by
  have C := numbersOf_any a b w ha hb
  unfold smB
  generalize (Pv.isn a.data.toList && Pv.isn b.data.toList) = p at *
  generalize Pv.nof a.data.toList = x at *
  generalize Pv.nof b.data.toList = y at *
  cases p
  · rw [if_neg (by decide)] at C ⊢
    have HC : Hid (Calls Tryd.prog 59 #[.string a, .string b] w fun e w' => Below w.heap.size w w' ∧ e = .returned (.tuple #[.agg #[.int .i64 0, .int .i64 0], .bool false])) := C
    clear C
    go_enter Tryd.func38, Tryd.ntmps38
    go_wp2_with fail
    refine HC.out.mono ?_
    rintro e w1 ⟨b1, rfl⟩
    go_wp2_with fail
    refine (strSame_any a b _).mono ?_
    rintro e w2 ⟨rfl, b2⟩
    go_wp2
    go_ret
    refine ⟨rfl, (b1.alloc b1.size _).trans (b2.mono ?_)⟩
    have := b1.size
    simp; omega
  · rw [if_pos rfl] at C ⊢
    have HC : Hid (Calls Tryd.prog 59 #[.string a, .string b] w fun e w' => Below w.heap.size w w' ∧ e = .returned (.tuple #[.agg #[.int .i64 (x : Int), .int .i64 (y : Int)], .bool true])) := C
    clear C
    have HD : Hid (((x : Int) == (y : Int)) = decide (x = y)) := by show _ = _; by_cases h : x = y <;> simp [h] <;> omega
    go_enter Tryd.func38, Tryd.ntmps38
    go_wp2_with fail
    refine HC.out.mono ?_
    rintro e w1 ⟨b1, rfl⟩
    go_wp2_with fail
    refine (numSame_any x y _).mono ?_
    rintro e w2 ⟨rfl, b2⟩
    go_wp2
    go_ret
    refine ⟨by rw [← HD.out]; rfl, (b1.alloc b1.size _).trans (b2.mono ?_)⟩
    have := b1.size
    simp; omega

set_option maxHeartbeats 800000 in
set_option maxRecDepth 100000 in
theorem specSame_any (a b : ByteArray) (w : World) (ha : a.size ≤ 2097152) (hb : b.size ≤ 2097152) :
    Calls Tryd.prog 40 #[.string a, .string b] w fun e w' => e = .returned (.bool (smB a b)) ∧ w' = w := by
  have CA : Hid (∀ w, Calls Tryd.prog 64 #[.string a] w fun e w' => e = .returned (.bool (Pv.isn a.data.toList)) ∧ w' = w) := fun w => specIsNum_any a w ha
  have CB : Hid (∀ w, Calls Tryd.prog 64 #[.string b] w fun e w' => e = .returned (.bool (Pv.isn b.data.toList)) ∧ w' = w) := fun w => specIsNum_any b w hb
  have NA : Hid (∀ w, Calls Tryd.prog 35 #[.string a] w fun e w' => e = .returned (.int .i64 (Pv.nof a.data.toList : Int)) ∧ w' = w) := fun w => specNumOf_any a w ha
  have NB : Hid (∀ w, Calls Tryd.prog 35 #[.string b] w fun e w' => e = .returned (.int .i64 (Pv.nof b.data.toList : Int)) ∧ w' = w) := fun w => specNumOf_any b w hb
  unfold smB
  generalize Pv.isn a.data.toList = p at *
  generalize Pv.isn b.data.toList = q at *
  generalize Pv.nof a.data.toList = x at *
  generalize Pv.nof b.data.toList = y at *
  cases p
  · rw [if_neg (by simp)]
    go_enter Tryd.func40, Tryd.ntmps40
    go_wp2_with fail
    refine (CA.out _).mono ?_
    rintro e w' ⟨rfl, rfl⟩
    go_wp2
    go_ret
    exact ⟨rfl, rfl⟩
  · cases q
    · rw [if_neg (by simp)]
      go_enter Tryd.func40, Tryd.ntmps40
      go_wp2_with fail
      refine (CA.out _).mono ?_
      rintro e w' ⟨rfl, rfl⟩
      go_wp2_with fail
      refine (CB.out _).mono ?_
      rintro e w' ⟨rfl, rfl⟩
      go_wp2
      go_ret
      exact ⟨rfl, rfl⟩
    · rw [if_pos (by decide)]
      have HD : Hid (((x : Int) == (y : Int)) = decide (x = y)) := by show _ = _; by_cases h : x = y <;> simp [h] <;> omega
      go_enter Tryd.func40, Tryd.ntmps40
      go_wp2_with fail
      refine (CA.out _).mono ?_
      rintro e w' ⟨rfl, rfl⟩
      go_wp2_with fail
      refine (CB.out _).mono ?_
      rintro e w' ⟨rfl, rfl⟩
      go_wp2_with fail
      refine (NA.out _).mono ?_
      rintro e w' ⟨rfl, rfl⟩
      go_wp2_with fail
      refine (NB.out _).mono ?_
      rintro e w' ⟨rfl, rfl⟩
      go_wp2
      go_ret
      exact ⟨by rw [← HD.out]; rfl, rfl⟩
#print axioms specSame_any
end Go.Proofs.YtchieahfellcbaaDoor
