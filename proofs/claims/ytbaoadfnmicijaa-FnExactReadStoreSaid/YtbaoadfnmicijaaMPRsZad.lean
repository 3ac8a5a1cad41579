/- The specification of Tokens: letters, figures, what stands between two marks. The specification of ProgramOk: names, plain texts. The specification of ProgramOk: names. What is a number: the program's IsNum and the specification's, at every text. -/
import Derived.Test.YtbaoadfnmicijaaMPRsZab
import Derived.Test.YtbaoadfnmicijaaMPRsZac
import Derived.Test.YtbaoadfnmicijaaProg
import Derived.WalkKit
import Derived.WalkSpells
import Derived.WalkLawsBesides
import Derived.Handy
import Derived.Lib.Strings
namespace Go.Proofs.Ytbaoadfnmicijaa
section PartTkA
open Go.RowKit

set_option maxHeartbeats 1000000 in
theorem spLetter (c : UInt8) (w : World) : Calls Try.prog 62 #[.int .u8 (c.toNat : Int)] w fun e w' => e = .returned (.bool (Tk.letter c)) ∧ w' = w := by
  obtain ⟨z, hz⟩ : ∃ z, z = c.toNat := ⟨_, rfl⟩
  have h256 : c.toNat < 256 := c.toNat_lt
  rw [← hz] at h256
  have HL : Hid (Tk.letter c = ((decide (97 ≤ z) && decide (z ≤ 122)) || (decide (65 ≤ z) && decide (z ≤ 90)))) := by rw [hz]; rfl
  rw [← hz]
  clear hz
  rcases (show z < 65 ∨ (65 ≤ z ∧ z ≤ 90) ∨ (90 < z ∧ z < 97) ∨ (97 ≤ z ∧ z ≤ 122) ∨ 122 < z by omega) with h | h | h | h | h
  · have e : Tk.letter c = false := by rw [HL.out]; simp; omega
    rw [e]; clear e HL
    have d1 : decide ((97 : Int) ≤ (z : Int)) = false := by simp; omega
    have d2 : decide ((z : Int) ≤ 122) = true := by simp; omega
    have d3 : decide ((65 : Int) ≤ (z : Int)) = false := by simp; omega
    have d4 : decide ((z : Int) ≤ 90) = true := by simp; omega
    go_enter Try.func62, Try.ntmps62
    go_wp2
    go_ret
    exact ⟨rfl, rfl⟩
  · have e : Tk.letter c = true := by rw [HL.out]; simp; omega
    rw [e]; clear e HL
    have d1 : decide ((97 : Int) ≤ (z : Int)) = false := by simp; omega
    have d2 : decide ((z : Int) ≤ 122) = true := by simp; omega
    have d3 : decide ((65 : Int) ≤ (z : Int)) = true := by simp; omega
    have d4 : decide ((z : Int) ≤ 90) = true := by simp; omega
    go_enter Try.func62, Try.ntmps62
    go_wp2
    go_ret
    exact ⟨rfl, rfl⟩
  · have e : Tk.letter c = false := by rw [HL.out]; simp; omega
    rw [e]; clear e HL
    have d1 : decide ((97 : Int) ≤ (z : Int)) = false := by simp; omega
    have d2 : decide ((z : Int) ≤ 122) = true := by simp; omega
    have d3 : decide ((65 : Int) ≤ (z : Int)) = true := by simp; omega
    have d4 : decide ((z : Int) ≤ 90) = false := by simp; omega
    go_enter Try.func62, Try.ntmps62
    go_wp2
    go_ret
    exact ⟨rfl, rfl⟩
  · have e : Tk.letter c = true := by rw [HL.out]; simp; omega
    rw [e]; clear e HL
    have d1 : decide ((97 : Int) ≤ (z : Int)) = true := by simp; omega
    have d2 : decide ((z : Int) ≤ 122) = true := by simp; omega
    have d3 : decide ((65 : Int) ≤ (z : Int)) = true := by simp; omega
    have d4 : decide ((z : Int) ≤ 90) = false := by simp; omega
    go_enter Try.func62, Try.ntmps62
    go_wp2
    go_ret
    exact ⟨rfl, rfl⟩
  · have e : Tk.letter c = false := by rw [HL.out]; simp; omega
    rw [e]; clear e HL
    have d1 : decide ((97 : Int) ≤ (z : Int)) = true := by simp; omega
    have d2 : decide ((z : Int) ≤ 122) = false := by simp; omega
    have d3 : decide ((65 : Int) ≤ (z : Int)) = true := by simp; omega
    have d4 : decide ((z : Int) ≤ 90) = false := by simp; omega
    go_enter Try.func62, Try.ntmps62
    go_wp2
    go_ret
    exact ⟨rfl, rfl⟩

theorem lst_at (s : ByteArray) (j : Nat) (h : j < s.size) : s.data.toList[j]'(by simpa using h) = s[j] := rfl
end PartTkA
section PartPgA
open Go.RowKit

set_option maxHeartbeats 400000 in
theorem sIn_any (x lo hi : Int) (w : World) : Calls Try.prog 42 #[.int .i64 x, .int .i64 lo, .int .i64 hi] w fun e w' => e = .returned (.bool (decide (lo ≤ x ∧ x ≤ hi))) ∧ w' = w := by
  by_cases h1 : lo ≤ x
  · by_cases h2 : x ≤ hi
    · have d1 : decide (lo ≤ x) = true := decide_eq_true h1
      have d2 : decide (x ≤ hi) = true := decide_eq_true h2
      have e : decide (lo ≤ x ∧ x ≤ hi) = true := decide_eq_true ⟨h1, h2⟩
      rw [e]; clear e h1 h2
      go_enter Try.func42, Try.ntmps42
      go_wp2
      go_ret
      exact ⟨rfl, rfl⟩
    · have d1 : decide (lo ≤ x) = true := decide_eq_true h1
      have d2 : decide (x ≤ hi) = false := decide_eq_false h2
      have e : decide (lo ≤ x ∧ x ≤ hi) = false := decide_eq_false (fun k => h2 k.2)
      rw [e]; clear e h1 h2
      go_enter Try.func42, Try.ntmps42
      go_wp2
      go_ret
      exact ⟨rfl, rfl⟩
  · have d1 : decide (lo ≤ x) = false := decide_eq_false h1
    have e : decide (lo ≤ x ∧ x ≤ hi) = false := decide_eq_false (fun k => h1 k.1)
    rw [e]; clear e h1
    go_enter Try.func42, Try.ntmps42
    go_wp2
    go_ret
    exact ⟨rfl, rfl⟩

end PartPgA
section PartPgB
open Go.RowKit

end PartPgB
section PartVNum
open Go.RowKit

end PartVNum
end Go.Proofs.Ytbaoadfnmicijaa
