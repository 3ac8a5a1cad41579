/- At every text, True of the program and of the specification answer the same. -/
import Derived.Test.YtmobohkcocidhaaProg
import Derived.WalkKit
import Derived.WalkSpells
import Derived.WalkLawsBesides
import Derived.Handy
import Derived.Lib.Strings
namespace Go.Proofs.Ytmobohkcocidhaa
open Go.RowKit

/-- Not empty, and not the figure 0. -/
def isTrue (s : ByteArray) : Bool := !(s.toList.isEmpty) && !(s.toList == [48])

set_option maxHeartbeats 400000 in
theorem specTrue_any (s : ByteArray) (w : World) :
    Calls Try.prog 12 #[.string s] w fun e w' => e = .returned (.bool (isTrue s)) ∧ w' = w := by
  obtain ⟨V, hV⟩ : ∃ V, V = isTrue s := ⟨_, rfl⟩
  have HV : Hid (V = (!(s.toList.isEmpty) && !(s.toList == [48]))) := hV
  rw [← hV]
  clear hV
  cases h0 : s.toList.isEmpty with
  | true =>
    have HR : Hid (V = false) := HV.out.trans (by rw [h0]; rfl)
    clear HV
    go_enter Try.func12, Try.ntmps12
    go_wp2
    go_ret
    exact ⟨by rw [HR.out]; rfl, rfl⟩
  | false =>
    cases h1 : (s.toList == [48]) with
    | true =>
      have HR : Hid (V = false) := HV.out.trans (by rw [h0, h1]; rfl)
      clear HV
      go_enter Try.func12, Try.ntmps12
      go_wp2
      go_ret
      exact ⟨by rw [HR.out]; rfl, rfl⟩
    | false =>
      have HR : Hid (V = true) := HV.out.trans (by rw [h0, h1]; rfl)
      clear HV
      go_enter Try.func12, Try.ntmps12
      go_wp2
      go_ret
      exact ⟨by rw [HR.out]; rfl, rfl⟩
set_option maxHeartbeats 400000 in
theorem implTrue_any (s : ByteArray) (w : World) :
    Calls Try.prog 13 #[.string s] w fun e w' => e = .returned (.bool (isTrue s)) ∧ w' = w := by
  obtain ⟨V, hV⟩ : ∃ V, V = isTrue s := ⟨_, rfl⟩
  have HV : Hid (V = (!(s.toList.isEmpty) && !(s.toList == [48]))) := hV
  rw [← hV]
  clear hV
  cases h0 : s.toList.isEmpty with
  | true =>
    have HR : Hid (V = false) := HV.out.trans (by rw [h0]; rfl)
    clear HV
    go_enter Try.func13, Try.ntmps13
    go_wp2
    go_ret
    exact ⟨by rw [HR.out]; rfl, rfl⟩
  | false =>
    cases h1 : (s.toList == [48]) with
    | true =>
      have HR : Hid (V = false) := HV.out.trans (by rw [h0, h1]; rfl)
      clear HV
      go_enter Try.func13, Try.ntmps13
      go_wp2
      go_ret
      exact ⟨by rw [HR.out]; rfl, rfl⟩
    | false =>
      have HR : Hid (V = true) := HV.out.trans (by rw [h0, h1]; rfl)
      clear HV
      go_enter Try.func13, Try.ntmps13
      go_wp2
      go_ret
      exact ⟨by rw [HR.out]; rfl, rfl⟩
set_option maxHeartbeats 400000 in
theorem lawTrue (s : ByteArray) (w : World) :
    Calls Try.prog 4 #[.string s] w fun e w' => e = .returned (.bool true) ∧ Below w.heap.size w w' := by
  by_cases hbig : (1048576 : Int) < (s.size : Int)
  · go_enter Try.func4, Try.ntmps4
    go_wp2
    go_ret
    exact ⟨rfl, Below.refl _ _⟩
  have hsm : s.size ≤ 1048576 := by omega
  clear hbig
  have C1 : Hid (∀ w, Calls Try.prog 12 #[.string s] w fun e w' => e = .returned (.bool (isTrue s)) ∧ w' = w) := fun w => specTrue_any s w
  have C2 : Hid (∀ w, Calls Try.prog 13 #[.string s] w fun e w' => e = .returned (.bool (isTrue s)) ∧ w' = w) := fun w => implTrue_any s w
  generalize isTrue s = b at *
  cases b
  all_goals
    go_enter Try.func4, Try.ntmps4
    go_wp2_with (first | (go_at_call 12; refine (C1.out _).mono ?_; rintro e w' ⟨rfl, rfl⟩) | (go_at_call 13; refine (C2.out _).mono ?_; rintro e w' ⟨rfl, rfl⟩))
    go_ret
    exact ⟨rfl, Below.refl _ _⟩
#print axioms lawTrue
end Go.Proofs.Ytmobohkcocidhaa
