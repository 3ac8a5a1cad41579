/- The number of a text as the program reckons it: kept within its round at every figure. -/
import Derived.Test.YtchieahfellcbaaDoorVOf
namespace Go.Proofs.YtchieahfellcbaaDoor
open Go.RowKit

set_option maxHeartbeats 400000 in
theorem rounded_pos (z : Int) (n : Nat) (w : World) (hz : z = (n : Int)) (h : n ≤ 9223372036854775807) :
    Calls Tryd.prog 54 #[.int .i64 z] w fun e w' => e = .returned (.int .i64 ((n % 1000000 : Nat) : Int)) ∧ w' = w := by
  subst hz
  have HE : Hid ((((n : Int) % 1000000 + 1000000) % 1000000) = ((n % 1000000 : Nat) : Int)) := by show _ = _; omega
  go_enter Tryd.func54, Tryd.ntmps54
  go_wp2
  go_ret
  exact ⟨by rw [← HE.out]; rfl, rfl⟩

set_option maxHeartbeats 800000 in
set_option maxRecDepth 100000 in
theorem numberOf_any (s : ByteArray) (w : World) (hs : s.size ≤ 2097152) :
    Calls Tryd.prog 55 #[.string s] w fun e w' => e = .returned (.int .i64 (Pv.nof s.data.toList : Int)) ∧ w' = w := by
  have CT : Hid (∀ w, Calls Tryd.prog 67 #[.string s, .string ⟨#[32]⟩] w fun e w' => e = .returned (.string ⟨(Pv.skip s.data.toList).toArray⟩) ∧ w' = w) := trimLeft_any s
  obtain ⟨t, ht⟩ : ∃ t : ByteArray, t = ⟨(Pv.skip s.data.toList).toArray⟩ := ⟨_, rfl⟩
  rw [← ht] at CT
  have htl : t.data.toList = Pv.skip s.data.toList := by rw [ht]
  have hts : t.size ≤ 2097152 := by
    have h1 : t.size = t.data.toList.length := by simp
    have h2 := Pv.skip_len s.data.toList
    have h3 : s.data.toList.length = s.size := by simp
    rw [h1, htl]; omega
  have HNF : Hid (Pv.num 0 t.data.toList = Pv.nof s.data.toList) := by show _ = _; rw [htl]; rfl
  clear ht htl hs
  go_enter Tryd.func55, Tryd.ntmps55
  go_wp2_with (go_at_call 67; refine (CT.out _).mono ?_; rintro e w' ⟨rfl, rfl⟩)
  go_loop [3, 4] (fun v i => ∃ (k n : Nat), i = .int .i64 (k : Int) ∧ v = .int .i64 (n : Int) ∧ k ≤ t.size ∧ n < 1000000 ∧ Hid (Pv.num n (t.data.toList.drop k) = Pv.nof s.data.toList)) (fun _ i => t.size - (intOf i).toNat)
  case atStart => exact ⟨0, 0, rfl, rfl, by omega, by omega, HNF.out⟩
  case round =>
    obtain ⟨k, n, rfl, rfl, hk, hn, HQ⟩ := hrel
    by_cases hlt : k < t.size
    · have h256 : t[k].toNat < 256 := t[k].toNat_lt
      have d1 : decide ((k : Int) < (t.size : Int)) = true := by simp; omega
      by_cases hf : 48 ≤ t[k].toNat ∧ t[k].toNat ≤ 57
      · have C : Hid (∀ w, Calls Tryd.prog 56 #[.int .u8 (t[k].toNat : Int)] w fun e w' => e = .returned (.bool true) ∧ w' = w) := fun w => isFigure_at _ true w h256 (by simpa using hf)
        have HM : Hid (Pv.num ((n * 10 + (t[k].toNat - 48)) % 1000000) (t.data.toList.drop (k + 1)) = Pv.nof s.data.toList) := by
          have := HQ.out
          rw [Pv.drop_at t k hlt, Pv.num_fig _ _ _ hf.1 hf.2] at this
          exact this
        obtain ⟨hf1, hf2⟩ := hf
        go_wp2_with (first | (go_at_call 56; refine (C.out _).mono ?_; rintro e w' ⟨rfl, rfl⟩) | (go_at_call 54; refine (rounded_pos _ (n * 10 + (t[k].toNat - 48)) _ (by omega) (by omega)).mono ?_; rintro e w' ⟨rfl, rfl⟩))
        go_round
        case rel => exact ⟨k + 1, (n * 10 + (t[k].toNat - 48)) % 1000000, by go_num, rfl, by omega, by omega, HM.out⟩
        case measure => simp [intOf]; omega
      · have C : Hid (∀ w, Calls Tryd.prog 56 #[.int .u8 (t[k].toNat : Int)] w fun e w' => e = .returned (.bool false) ∧ w' = w) := fun w => isFigure_at _ false w h256 (by simpa using hf)
        have HM : Hid (n = Pv.nof s.data.toList) := by
          have := HQ.out
          rw [Pv.drop_at t k hlt, Pv.num_stop _ _ _ (by omega)] at this
          exact this
        clear hf
        go_wp2_with (go_at_call 56; refine (C.out _).mono ?_; rintro e w' ⟨rfl, rfl⟩)
        go_ret
        exact ⟨by rw [← HM.out]; rfl, rfl⟩
    · have d1 : decide ((k : Int) < (t.size : Int)) = false := by simp; omega
      have HM : Hid (n = Pv.nof s.data.toList) := by
        have := HQ.out
        rw [Pv.drop_end t k (by omega)] at this
        exact this
      go_wp2
      go_ret
      exact ⟨by rw [← HM.out]; rfl, rfl⟩

#print axioms numberOf_any
end Go.Proofs.YtchieahfellcbaaDoor
