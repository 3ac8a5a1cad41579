/- What is a number: the program's IsNum and the specification's, at every text. -/
import Derived.Test.YtifbgdinjdgdfapProg
import Derived.Test.YtifbgdinjdgdfapPV
import Derived.WalkKit
import Derived.WalkSpells
import Derived.WalkLawsBesides
import Derived.Handy
import Derived.Lib.Strings
namespace Go.Proofs.Ytifbgdinjdgdfap
open Go.RowKit

set_option maxHeartbeats 400000 in
theorem isFigure_any (z : Nat) (w : World) (h : z < 256) :
    Calls Try.prog 84 #[.int .u8 (z : Int)] w fun e w' => e = .returned (.bool (decide (48 ≤ z ∧ z ≤ 57))) ∧ w' = w := by
  by_cases h1 : 48 ≤ z
  · by_cases h2 : z ≤ 57
    · have d1 : decide ((48 : Int) ≤ (z : Int)) = true := by simp; omega
      have d2 : decide ((z : Int) ≤ 57) = true := by simp; omega
      have e : decide (48 ≤ z ∧ z ≤ 57) = true := by simp; omega
      rw [e]; clear e
      go_enter Try.func84, Try.ntmps84
      go_wp2
      go_ret
      exact ⟨rfl, rfl⟩
    · have d1 : decide ((48 : Int) ≤ (z : Int)) = true := by simp; omega
      have d2 : decide ((z : Int) ≤ 57) = false := by simp; omega
      have e : decide (48 ≤ z ∧ z ≤ 57) = false := by simp; omega
      rw [e]; clear e
      go_enter Try.func84, Try.ntmps84
      go_wp2
      go_ret
      exact ⟨rfl, rfl⟩
  · have d1 : decide ((48 : Int) ≤ (z : Int)) = false := by simp; omega
    have e : decide (48 ≤ z ∧ z ≤ 57) = false := by simp; omega
    rw [e]; clear e
    go_enter Try.func84, Try.ntmps84
    go_wp2
    go_ret
    exact ⟨rfl, rfl⟩
theorem isFigure_at (z : Nat) (b : Bool) (w : World) (h : z < 256) (hb : decide (48 ≤ z ∧ z ≤ 57) = b) :
    Calls Try.prog 84 #[.int .u8 (z : Int)] w fun e w' => e = .returned (.bool b) ∧ w' = w := by
  subst hb
  exact isFigure_any z w h

theorem str_ne (s : ByteArray) (h : 0 < s.size) : s.toList.isEmpty = false := by
  rw [Lib.toList_data]
  have e : s.data.toList.length = s.size := by simp
  cases hd : s.data.toList with
  | nil => rw [hd] at e; simp at e; omega
  | cons a l => rfl
theorem str_nil (s : ByteArray) (h : ¬ 0 < s.size) : s = (⟨#[]⟩ : ByteArray) := by
  apply ByteArray.ext
  apply Array.eq_empty_of_size_eq_zero
  have : s.data.size = s.size := rfl
  omega

set_option maxHeartbeats 400000 in
set_option maxRecDepth 100000 in
theorem implIsNum_any (s : ByteArray) (w : World) (hs : s.size ≤ 2097152) :
    Calls Try.prog 73 #[.string s] w fun e w' => e = .returned (.bool (Pv.isn s.data.toList)) ∧ w' = w := by
  by_cases h0 : 0 < s.size
  · have e0 := str_ne s h0
    by_cases h6 : 6 < s.size
    · have HN : Hid (Pv.isn s.data.toList = false) := Pv.isn_size s (.inr h6)
      have d6 : decide ((6 : Int) < (s.size : Int)) = true := by simp; omega
      go_enter Try.func73, Try.ntmps73
      go_wp2
      go_ret
      exact ⟨by rw [HN.out]; rfl, rfl⟩
    have d6 : decide ((6 : Int) < (s.size : Int)) = false := by simp; omega
    go_enter Try.func73, Try.ntmps73
    go_wp2
    go_loop [3] (fun i => ∃ k : Nat, i = .int .i64 (k : Int) ∧ k ≤ s.size ∧ Hid (∀ j (hj : j < s.size), j < k → 48 ≤ s[j].toNat ∧ s[j].toNat ≤ 57)) (fun i => s.size - (intOf i).toNat)
    case atStart => exact ⟨0, rfl, by omega, fun j _ hj => by omega⟩
    case round =>
      obtain ⟨k, rfl, hk, HP⟩ := hrel
      by_cases hlt : k < s.size
      · have h256 : s[k].toNat < 256 := s[k].toNat_lt
        by_cases hf : 48 ≤ s[k].toNat ∧ s[k].toNat ≤ 57
        · have C : Hid (∀ w, Calls Try.prog 84 #[.int .u8 (s[k].toNat : Int)] w fun e w' => e = .returned (.bool true) ∧ w' = w) := fun w => isFigure_at _ true w h256 (by simpa using hf)
          have HN : Hid (∀ j (hj : j < s.size), j < k + 1 → 48 ≤ s[j].toNat ∧ s[j].toNat ≤ 57) := by
            intro j hj hjk
            by_cases e : j = k
            · subst e; exact hf
            · exact HP.out j hj (by omega)
          clear hf
          go_wp2_with (go_at_call 84; refine (C.out _).mono ?_; rintro e w' ⟨rfl, rfl⟩)
          go_round
          case rel => exact ⟨k + 1, by go_num, by omega, HN.out⟩
          case measure => simp [intOf]; omega
        · have C : Hid (∀ w, Calls Try.prog 84 #[.int .u8 (s[k].toNat : Int)] w fun e w' => e = .returned (.bool false) ∧ w' = w) := fun w => isFigure_at _ false w h256 (by simpa using hf)
          have HN : Hid (Pv.isn s.data.toList = false) := Pv.isn_no s k hlt (by omega)
          clear hf
          go_wp2_with (go_at_call 84; refine (C.out _).mono ?_; rintro e w' ⟨rfl, rfl⟩)
          go_ret
          exact ⟨by rw [HN.out]; rfl, rfl⟩
      · have HY : Hid (Pv.isn s.data.toList = true) := by
          show _ = _
          rw [Pv.isn_all s (fun j hj => HP.out j hj (by omega))]
          simp; omega
        go_wp2
        go_ret
        exact ⟨by rw [HY.out]; rfl, rfl⟩
  · obtain rfl := str_nil s h0
    go_enter Try.func73, Try.ntmps73
    go_wp2
    go_ret
    exact ⟨rfl, rfl⟩

set_option maxHeartbeats 400000 in
theorem l01In_any (x : Nat) (w : World) (h : x ≤ 2097152) :
    Calls Try.prog 27 #[.int .i64 (x : Int), .int .i64 1, .int .i64 6] w fun e w' => e = .returned (.bool (decide (1 ≤ x ∧ x ≤ 6))) ∧ w' = w := by
  by_cases h1 : 1 ≤ x
  · by_cases h2 : x ≤ 6
    · have d1 : decide ((1 : Int) ≤ (x : Int)) = true := by simp; omega
      have d2 : decide ((x : Int) ≤ 6) = true := by simp; omega
      have e : decide (1 ≤ x ∧ x ≤ 6) = true := by simp; omega
      rw [e]; clear e
      go_enter Try.func27, Try.ntmps27
      go_wp2
      go_ret
      exact ⟨rfl, rfl⟩
    · have d1 : decide ((1 : Int) ≤ (x : Int)) = true := by simp; omega
      have d2 : decide ((x : Int) ≤ 6) = false := by simp; omega
      have e : decide (1 ≤ x ∧ x ≤ 6) = false := by simp; omega
      rw [e]; clear e
      go_enter Try.func27, Try.ntmps27
      go_wp2
      go_ret
      exact ⟨rfl, rfl⟩
  · have d1 : decide ((1 : Int) ≤ (x : Int)) = false := by simp; omega
    have e : decide (1 ≤ x ∧ x ≤ 6) = false := by simp; omega
    rw [e]; clear e
    go_enter Try.func27, Try.ntmps27
    go_wp2
    go_ret
    exact ⟨rfl, rfl⟩

set_option maxHeartbeats 400000 in
set_option maxRecDepth 100000 in
theorem specIsNum_any (s : ByteArray) (w : World) (hs : s.size ≤ 2097152) :
    Calls Try.prog 69 #[.string s] w fun e w' => e = .returned (.bool (Pv.isn s.data.toList)) ∧ w' = w := by
  go_enter Try.func69, Try.ntmps69
  go_wp2
  go_loop [3] (fun i => ∃ k : Nat, i = .int .i64 (k : Int) ∧ k ≤ s.size ∧ Hid (∀ j (hj : j < s.size), j < k → 48 ≤ s[j].toNat ∧ s[j].toNat ≤ 57)) (fun i => s.size - (intOf i).toNat)
  case atStart => exact ⟨0, rfl, by omega, fun j _ hj => by omega⟩
  case round =>
    obtain ⟨k, rfl, hk, HP⟩ := hrel
    by_cases hlt : k < s.size
    · have h256 : s[k].toNat < 256 := s[k].toNat_lt
      by_cases h1 : s[k].toNat < 48
      · have HN : Hid (Pv.isn s.data.toList = false) := Pv.isn_no s k hlt (.inl h1)
        go_wp2
        go_ret
        exact ⟨by rw [HN.out]; rfl, rfl⟩
      · by_cases h2 : 57 < s[k].toNat
        · have HN : Hid (Pv.isn s.data.toList = false) := Pv.isn_no s k hlt (.inr h2)
          have d2 : decide ((57 : Int) < (s[k].toNat : Int)) = true := by simp; omega
          go_wp2
          go_ret
          exact ⟨by rw [HN.out]; rfl, rfl⟩
        · have d2 : decide ((57 : Int) < (s[k].toNat : Int)) = false := by simp; omega
          have HN : Hid (∀ j (hj : j < s.size), j < k + 1 → 48 ≤ s[j].toNat ∧ s[j].toNat ≤ 57) := by
            intro j hj hjk
            by_cases e : j = k
            · subst e; omega
            · exact HP.out j hj (by omega)
          go_wp2
          go_round
          case rel => exact ⟨k + 1, by go_num, by omega, HN.out⟩
          case measure => simp [intOf]; omega
    · have HY : Hid (Pv.isn s.data.toList = decide (1 ≤ s.size ∧ s.size ≤ 6)) := Pv.isn_all s (fun j hj => HP.out j hj (by omega))
      have C : Hid (∀ w, Calls Try.prog 27 #[.int .i64 (s.size : Int), .int .i64 1, .int .i64 6] w fun e w' => e = .returned (.bool (Pv.isn s.data.toList)) ∧ w' = w) := by
        intro w
        rw [HY.out]
        exact l01In_any s.size w hs
      go_wp2_with (go_at_call 27; refine (C.out _).mono ?_; rintro e w' ⟨rfl, rfl⟩)
      go_ret
      exact ⟨rfl, rfl⟩
#print axioms specIsNum_any
end Go.Proofs.Ytifbgdinjdgdfap
