/- What is less and what is the same, the program's and the specification's, at every two texts: by their numbers where both are numbers, byte by byte else. -/
import Derived.Test.YtchieahfellcbaaDoorVOfN
namespace Go.Proofs.YtchieahfellcbaaDoor
open Go.RowKit

/-- Less. -/
def lsB (a b : ByteArray) : Bool := if Pv.isn a.data.toList && Pv.isn b.data.toList then decide (Pv.nof a.data.toList < Pv.nof b.data.toList) else Op.bytesLess a.toList b.toList
/-- The same. -/
def smB (a b : ByteArray) : Bool := if Pv.isn a.data.toList && Pv.isn b.data.toList then decide (Pv.nof a.data.toList = Pv.nof b.data.toList) else a.toList == b.toList

set_option maxHeartbeats 400000 in
set_option maxRecDepth 100000 in
theorem numbersOf_any (a b : ByteArray) (w : World) (ha : a.size ≤ 2097152) (hb : b.size ≤ 2097152) :
    Calls Tryd.prog 59 #[.string a, .string b] w fun e w' => Below w.heap.size w w' ∧
      e = .returned (if Pv.isn a.data.toList && Pv.isn b.data.toList then .tuple #[.agg #[.int .i64 (Pv.nof a.data.toList : Int), .int .i64 (Pv.nof b.data.toList : Int)], .bool true] else .tuple #[.agg #[.int .i64 0, .int .i64 0], .bool false]) := by
  have CA : Hid (∀ w, Calls Tryd.prog 30 #[.string a] w fun e w' => e = .returned (.bool (Pv.isn a.data.toList)) ∧ w' = w) := fun w => implIsNum_any a w ha
  have CB : Hid (∀ w, Calls Tryd.prog 30 #[.string b] w fun e w' => e = .returned (.bool (Pv.isn b.data.toList)) ∧ w' = w) := fun w => implIsNum_any b w hb
  have NA : Hid (∀ w, Calls Tryd.prog 55 #[.string a] w fun e w' => e = .returned (.int .i64 (Pv.nof a.data.toList : Int)) ∧ w' = w) := fun w => numberOf_any a w ha
  have NB : Hid (∀ w, Calls Tryd.prog 55 #[.string b] w fun e w' => e = .returned (.int .i64 (Pv.nof b.data.toList : Int)) ∧ w' = w) := fun w => numberOf_any b w hb
  have la := Pv.nof_lt a.data.toList
  have lb := Pv.nof_lt b.data.toList
  generalize Pv.isn a.data.toList = p at *
  generalize Pv.isn b.data.toList = q at *
  generalize Pv.nof a.data.toList = x at *
  generalize Pv.nof b.data.toList = y at *
  cases p
  · go_enter Tryd.func59, Tryd.ntmps59
    go_wp2_with fail
    refine (CA.out _).mono ?_
    rintro e w' ⟨rfl, rfl⟩
    go_wp2
    refine bodyPost_ret (v := .tuple #[.agg #[.int .i64 0, .int .i64 0], .bool false]) (by simp [results, Tryd.results59, go_sem]) rfl ⟨(Below.refl _ _).alloc (Nat.le_refl _) _, rfl⟩
  · cases q
    · go_enter Tryd.func59, Tryd.ntmps59
      go_wp2_with fail
      refine (CA.out _).mono ?_
      rintro e w' ⟨rfl, rfl⟩
      go_wp2_with fail
      refine (CB.out _).mono ?_
      rintro e w' ⟨rfl, rfl⟩
      go_wp2
      refine bodyPost_ret (v := .tuple #[.agg #[.int .i64 0, .int .i64 0], .bool false]) (by simp [results, Tryd.results59, go_sem]) rfl ⟨(Below.refl _ _).alloc (Nat.le_refl _) _, rfl⟩
    · go_enter Tryd.func59, Tryd.ntmps59
      go_wp2_with fail
      refine (CA.out _).mono ?_
      rintro e w' ⟨rfl, rfl⟩
      go_wp2_with fail
      refine (CB.out _).mono ?_
      rintro e w' ⟨rfl, rfl⟩
      go_wp2_with fail
      refine (NA.out _).mono ?_
      rintro e w' ⟨rfl, rfl⟩
      go_wp2_with fail
      refine (NB.out _).mono ?_
      rintro e w' ⟨rfl, rfl⟩
      go_wp2
      refine bodyPost_ret (v := .tuple #[.agg #[.int .i64 (x : Int), .int .i64 (y : Int)], .bool true]) (by simp [results, Tryd.results59, go_sem]) rfl ⟨(Below.refl _ _).alloc (Nat.le_refl _) _, rfl⟩
#print axioms numbersOf_any
end Go.Proofs.YtchieahfellcbaaDoor
