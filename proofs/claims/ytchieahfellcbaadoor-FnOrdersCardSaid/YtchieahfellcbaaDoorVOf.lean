/- The number of a text, the program's and the specification's, at every text. -/
import Derived.Test.YtchieahfellcbaaDoorShelfT
namespace Go.Proofs.YtchieahfellcbaaDoor
open Go.RowKit

set_option maxHeartbeats 800000 in
set_option maxRecDepth 100000 in
theorem specNumOf_any (s : ByteArray) (w : World) (hs : s.size ≤ 2097152) :
    Calls Tryd.prog 35 #[.string s] w fun e w' => e = .returned (.int .i64 (Pv.nof s.data.toList : Int)) ∧ w' = w := by
  go_enter Tryd.func35, Tryd.ntmps35
  go_wp2
  go_loop [3] (fun i => ∃ k : Nat, i = .int .i64 (k : Int) ∧ k ≤ s.size ∧ Hid (Pv.skip (s.data.toList.drop k) = Pv.skip s.data.toList)) (fun i => s.size - (intOf i).toNat)
  case atStart => exact ⟨0, rfl, by omega, rfl⟩
  case round =>
    obtain ⟨k, rfl, hk, HP⟩ := hrel
    by_cases hlt : k < s.size
    · have h256 : s[k].toNat < 256 := s[k].toNat_lt
      have d1 : decide ((k : Int) < (s.size : Int)) = true := by simp; omega
      by_cases hb : s[k].toNat = 32
      · have HN : Hid (Pv.skip (s.data.toList.drop (k + 1)) = Pv.skip s.data.toList) := by
          have := HP.out
          rw [Pv.drop_at s k hlt, Pv.skip_blank _ _ hb] at this
          exact this
        have d2 : ((s[k].toNat : Int) == 32) = true := by simp; omega
        clear hb
        go_wp2
        go_round
        case rel => exact ⟨k + 1, by go_num, by omega, HN.out⟩
        case measure => simp [intOf]; omega
      · have HN : Hid (s.data.toList.drop k = Pv.skip s.data.toList) := by
          have := HP.out
          rw [Pv.drop_at s k hlt, Pv.skip_sign _ _ hb, ← Pv.drop_at s k hlt] at this
          exact this
        have d2 : ((s[k].toNat : Int) == 32) = false := by simp; omega
        clear hb h256 HP
        go_wp2
        clear d1 d2
        go_loop [3, 4] (fun i v => ∃ (k2 n : Nat), i = .int .i64 (k2 : Int) ∧ v = .int .i64 (n : Int) ∧ k2 ≤ s.size ∧ n < 1000000 ∧ Hid (Pv.num n (s.data.toList.drop k2) = Pv.nof s.data.toList)) (fun i _ => s.size - (intOf i).toNat)
        case atStart => exact ⟨k, 0, rfl, rfl, by omega, by omega, (by show _ = _; rw [HN.out]; rfl)⟩
        case round =>
          clear HN
          obtain ⟨k2, n, rfl, rfl, hk2, hn, HQ⟩ := hrel
          by_cases hlt2 : k2 < s.size
          · have h256 : s[k2].toNat < 256 := s[k2].toNat_lt
            have d1 : decide ((k2 : Int) < (s.size : Int)) = true := by simp; omega
            by_cases h1 : 48 ≤ s[k2].toNat
            · have d2 : decide ((48 : Int) ≤ (s[k2].toNat : Int)) = true := by simp; omega
              by_cases h2 : s[k2].toNat ≤ 57
              · have d3 : decide ((s[k2].toNat : Int) ≤ 57) = true := by simp; omega
                have HM : Hid (Pv.num ((n * 10 + (s[k2].toNat - 48)) % 1000000) (s.data.toList.drop (k2 + 1)) = Pv.nof s.data.toList) := by
                  have := HQ.out
                  rw [Pv.drop_at s k2 hlt2, Pv.num_fig _ _ _ h1 h2] at this
                  exact this
                go_wp2
                go_round
                case rel => exact ⟨k2 + 1, (n * 10 + (s[k2].toNat - 48)) % 1000000, by go_num, by go_num, by omega, by omega, HM.out⟩
                case measure => simp [intOf]; omega
              · have d3 : decide ((s[k2].toNat : Int) ≤ 57) = false := by simp; omega
                have HM : Hid (n = Pv.nof s.data.toList) := by
                  have := HQ.out
                  rw [Pv.drop_at s k2 hlt2, Pv.num_stop _ _ _ (by omega)] at this
                  exact this
                go_wp2
                go_ret
                exact ⟨by rw [← HM.out]; rfl, rfl⟩
            · have d2 : decide ((48 : Int) ≤ (s[k2].toNat : Int)) = false := by simp; omega
              have HM : Hid (n = Pv.nof s.data.toList) := by
                have := HQ.out
                rw [Pv.drop_at s k2 hlt2, Pv.num_stop _ _ _ (by omega)] at this
                exact this
              go_wp2
              go_ret
              exact ⟨by rw [← HM.out]; rfl, rfl⟩
          · have d1 : decide ((k2 : Int) < (s.size : Int)) = false := by simp; omega
            have HM : Hid (n = Pv.nof s.data.toList) := by
              have := HQ.out
              rw [Pv.drop_end s k2 (by omega)] at this
              exact this
            go_wp2
            go_ret
            exact ⟨by rw [← HM.out]; rfl, rfl⟩
    · have d1 : decide ((k : Int) < (s.size : Int)) = false := by simp; omega
      have HN : Hid (s.data.toList.drop k = Pv.skip s.data.toList) := by
        have := HP.out
        rw [Pv.drop_end s k (by omega)] at this ⊢
        exact this
      clear HP
      go_wp2
      clear d1
      go_loop [3, 4] (fun i v => ∃ (k2 n : Nat), i = .int .i64 (k2 : Int) ∧ v = .int .i64 (n : Int) ∧ k2 ≤ s.size ∧ n < 1000000 ∧ Hid (Pv.num n (s.data.toList.drop k2) = Pv.nof s.data.toList)) (fun i _ => s.size - (intOf i).toNat)
      case atStart => exact ⟨k, 0, rfl, rfl, by omega, by omega, (by show _ = _; rw [HN.out]; rfl)⟩
      case round =>
        clear HN
        obtain ⟨k2, n, rfl, rfl, hk2, hn, HQ⟩ := hrel
        by_cases hlt2 : k2 < s.size
        · have h256 : s[k2].toNat < 256 := s[k2].toNat_lt
          have d1 : decide ((k2 : Int) < (s.size : Int)) = true := by simp; omega
          by_cases h1 : 48 ≤ s[k2].toNat
          · have d2 : decide ((48 : Int) ≤ (s[k2].toNat : Int)) = true := by simp; omega
            by_cases h2 : s[k2].toNat ≤ 57
            · have d3 : decide ((s[k2].toNat : Int) ≤ 57) = true := by simp; omega
              have HM : Hid (Pv.num ((n * 10 + (s[k2].toNat - 48)) % 1000000) (s.data.toList.drop (k2 + 1)) = Pv.nof s.data.toList) := by
                have := HQ.out
                rw [Pv.drop_at s k2 hlt2, Pv.num_fig _ _ _ h1 h2] at this
                exact this
              go_wp2
              go_round
              case rel => exact ⟨k2 + 1, (n * 10 + (s[k2].toNat - 48)) % 1000000, by go_num, by go_num, by omega, by omega, HM.out⟩
              case measure => simp [intOf]; omega
            · have d3 : decide ((s[k2].toNat : Int) ≤ 57) = false := by simp; omega
              have HM : Hid (n = Pv.nof s.data.toList) := by
                have := HQ.out
                rw [Pv.drop_at s k2 hlt2, Pv.num_stop _ _ _ (by omega)] at this
                exact this
              go_wp2
              go_ret
              exact ⟨by rw [← HM.out]; rfl, rfl⟩
          · have d2 : decide ((48 : Int) ≤ (s[k2].toNat : Int)) = false := by simp; omega
            have HM : Hid (n = Pv.nof s.data.toList) := by
              have := HQ.out
              rw [Pv.drop_at s k2 hlt2, Pv.num_stop _ _ _ (by omega)] at this
              exact this
            go_wp2
            go_ret
            exact ⟨by rw [← HM.out]; rfl, rfl⟩
        · have d1 : decide ((k2 : Int) < (s.size : Int)) = false := by simp; omega
          have HM : Hid (n = Pv.nof s.data.toList) := by
            have := HQ.out
            rw [Pv.drop_end s k2 (by omega)] at this
            exact this
          go_wp2
          go_ret
          exact ⟨by rw [← HM.out]; rfl, rfl⟩
#print axioms specNumOf_any
end Go.Proofs.YtchieahfellcbaaDoor
