/- What the specification's FieldsOf answers, at every line. -/
import Derived.Test.YtchieahfellcbabVFld
namespace Go.Proofs.Ytchieahfellcbab
open Go.RowKit

set_option maxHeartbeats 2000000 in
set_option maxRecDepth 100000 in
theorem specFields_any (s : ByteArray) (w : World) (hs : s.size ≤ 2097152) :
    Calls Try.prog 13 #[.string s] w fun e w' => ∃ v, e = .returned v ∧ SRow w.heap.size w' v (Pv.flds s.data.toList) ∧ Below w.heap.size w w' := by
  go_enter Try.func13, Try.ntmps13
  go_wp2
  go_loopw [3, 4, 5] (fun v b i wr => ∃ (k p : Nat) (z : Int) (ws : List (List UInt8)), i = .int .i64 (k : Int) ∧ b = .int .i64 z ∧ k ≤ s.size + 1 ∧ p ≤ k ∧ (z = -1 ∧ p = k ∨ z = (p : Int) ∧ p < k ∧ k ≤ s.size) ∧ SRow w.heap.size wr v ws ∧ Below w.heap.size w wr ∧ ws.length ≤ 20 ∧ Hid (Pv.At s k p ws)) (fun _ _ i _ => s.size + 1 - (intOf i).toNat)
  case atStart => exact ⟨0, 0, -1, [], rfl, rfl, by omega, by omega, .inl ⟨rfl, rfl⟩, SRow.none w (Nat.le_refl _), (Below.refl _ _).alloc (Nat.le_refl _) _, by simp, Pv.At.start s⟩
  case round =>
    obtain ⟨k, p, z, ws, rfl, rfl, hk, hpk, hz, hrow, hbel, hfew, HP⟩ := hrel
    have hsz := hbel.size
    obtain ⟨ad, cap, rfl, _⟩ := hrow.form
    by_cases hle : k ≤ s.size
    · have d1 : decide ((k : Int) ≤ (s.size : Int)) = true := by simp; omega
      by_cases hlt : k < s.size
      · have h256 : s[k].toNat < 256 := s[k].toNat_lt
        have d3 : ((k : Int) == (s.size : Int)) = false := by simp; omega
        by_cases hb : s[k].toNat = 32 ∨ s[k].toNat = 9
        · have HG := HP.out.gap hlt hb
          rcases hz with ⟨rfl, hpe⟩ | ⟨rfl, hpl, _⟩
          · have HN : Hid (Pv.At s (k + 1) (k + 1) ws) := HG.2.2 (by omega)
            clear HG
            rcases hb with hb | hb
            · have d4 : ((s[k].toNat : Int) == 32) = true := by simp; omega
              clear hb
              go_wp2
              go_roundw
              case rel => exact ⟨k + 1, k + 1, -1, ws, by go_num, rfl, by omega, by omega, .inl ⟨rfl, rfl⟩, hrow, hbel, hfew, HN.out⟩
              case measure => simp [intOf]; omega
            · have d4 : ((s[k].toNat : Int) == 32) = false := by simp; omega
              have d5 : ((s[k].toNat : Int) == 9) = true := by simp; omega
              clear hb
              go_wp2
              go_roundw
              case rel => exact ⟨k + 1, k + 1, -1, ws, by go_num, rfl, by omega, by omega, .inl ⟨rfl, rfl⟩, hrow, hbel, hfew, HN.out⟩
              case measure => simp [intOf]; omega
          · have hp0 : decide ((0 : Int) ≤ (p : Int)) = true := by simp
            have hpi : (p : Int) ≤ (k : Int) := by omega
            by_cases h20 : ws.length < 20
            · have HN : Hid (Pv.At s (k + 1) (k + 1) (ws ++ [Pv.cut ((s.data.toList.drop p).take (k - p))])) := HG.1 hpl h20
              have d2 : decide ((ws.length : Int) < 20) = true := by simp; omega
              clear HG
              rcases hb with hb | hb
              · have d4 : ((s[k].toNat : Int) == 32) = true := by simp; omega
                clear hb
                go_wp2_with (first | (go_at_call 26; refine (specCut_any _ _).mono ?_; rintro e w1 ⟨rfl, rfl⟩) | (at_builtin; go_must (refine hrow.push rfl (.tmp 45) (.tmp 51) rfl rfl _ (Pv.cut ((s.data.toList.drop p).take (k - p))) ?hz rfl ?hl ?hb ?_)))
                case hz => rfl
                case hl => omega
                case hb => omega
                · intro v' w2 hrow' hbel'
                  go_wp2
                  go_roundw
                  case rel => exact ⟨k + 1, k + 1, -1, _, by go_num, rfl, by omega, by omega, .inl ⟨rfl, rfl⟩, hrow', hbel.trans hbel', by simp; omega, HN.out⟩
                  case measure => simp [intOf]; omega
              · have d4 : ((s[k].toNat : Int) == 32) = false := by simp; omega
                have d5 : ((s[k].toNat : Int) == 9) = true := by simp; omega
                clear hb
                go_wp2_with (first | (go_at_call 26; refine (specCut_any _ _).mono ?_; rintro e w1 ⟨rfl, rfl⟩) | (at_builtin; go_must (refine hrow.push rfl (.tmp 45) (.tmp 51) rfl rfl _ (Pv.cut ((s.data.toList.drop p).take (k - p))) ?hz rfl ?hl ?hb ?_)))
                case hz => rfl
                case hl => omega
                case hb => omega
                · intro v' w2 hrow' hbel'
                  go_wp2
                  go_roundw
                  case rel => exact ⟨k + 1, k + 1, -1, _, by go_num, rfl, by omega, by omega, .inl ⟨rfl, rfl⟩, hrow', hbel.trans hbel', by simp; omega, HN.out⟩
                  case measure => simp [intOf]; omega
            · have HN : Hid (Pv.At s (k + 1) (k + 1) ws) := HG.2.1 hpl (by omega)
              have d2 : decide ((ws.length : Int) < 20) = false := by simp; omega
              clear HG
              rcases hb with hb | hb
              · have d4 : ((s[k].toNat : Int) == 32) = true := by simp; omega
                clear hb
                go_wp2
                go_roundw
                case rel => exact ⟨k + 1, k + 1, -1, ws, by go_num, rfl, by omega, by omega, .inl ⟨rfl, rfl⟩, hrow, hbel, hfew, HN.out⟩
                case measure => simp [intOf]; omega
              · have d4 : ((s[k].toNat : Int) == 32) = false := by simp; omega
                have d5 : ((s[k].toNat : Int) == 9) = true := by simp; omega
                clear hb
                go_wp2
                go_roundw
                case rel => exact ⟨k + 1, k + 1, -1, ws, by go_num, rfl, by omega, by omega, .inl ⟨rfl, rfl⟩, hrow, hbel, hfew, HN.out⟩
                case measure => simp [intOf]; omega
        · have HN : Hid (Pv.At s (k + 1) p ws) := HP.out.sign hlt (by omega) (by omega)
          have d4 : ((s[k].toNat : Int) == 32) = false := by simp; omega
          have d5 : ((s[k].toNat : Int) == 9) = false := by simp; omega
          clear hb
          rcases hz with ⟨rfl, rfl⟩ | ⟨rfl, hpl, _⟩
          · go_wp2
            go_roundw
            case rel => exact ⟨p + 1, p, p, ws, by go_num, rfl, by omega, by omega, .inr ⟨rfl, by omega, by omega⟩, hrow, hbel, hfew, HN.out⟩
            case measure => simp [intOf]; omega
          · have hpn : decide ((p : Int) < 0) = false := by simp
            go_wp2
            go_roundw
            case rel => exact ⟨k + 1, p, p, ws, by go_num, rfl, by omega, by omega, .inr ⟨rfl, by omega, by omega⟩, hrow, hbel, hfew, HN.out⟩
            case measure => simp [intOf]; omega
      · have hks : k = s.size := by omega
        have HG := HP.out.last hks
        subst hks
        have d3 : ((s.size : Int) == (s.size : Int)) = true := by simp
        rcases hz with ⟨rfl, hpe⟩ | ⟨rfl, hpl, _⟩
        · have HN : Hid (Pv.At s (s.size + 1) (s.size + 1) ws) := HG.2.2 (by omega)
          clear HG
          go_wp2
          go_roundw
          case rel => exact ⟨s.size + 1, s.size + 1, -1, ws, by go_num, rfl, by omega, by omega, .inl ⟨rfl, rfl⟩, hrow, hbel, hfew, HN.out⟩
          case measure => first | (simp [intOf]; done) | (simp [intOf]; omega)
        · have hp0 : decide ((0 : Int) ≤ (p : Int)) = true := by simp
          have hpi : (p : Int) ≤ (s.size : Int) := by omega
          by_cases h20 : ws.length < 20
          · have HN : Hid (Pv.At s (s.size + 1) (s.size + 1) (ws ++ [Pv.cut ((s.data.toList.drop p).take (s.size - p))])) := HG.1 hpl h20
            have d2 : decide ((ws.length : Int) < 20) = true := by simp; omega
            clear HG
            go_wp2_with (first | (go_at_call 26; refine (specCut_any _ _).mono ?_; rintro e w1 ⟨rfl, rfl⟩) | (at_builtin; go_must (refine hrow.push rfl (.tmp 45) (.tmp 51) rfl rfl _ (Pv.cut ((s.data.toList.drop p).take (s.size - p))) ?hz rfl ?hl ?hb ?_)))
            case hz => rfl
            case hl => omega
            case hb => omega
            · intro v' w2 hrow' hbel'
              go_wp2
              go_roundw
              case rel => exact ⟨s.size + 1, s.size + 1, -1, _, by go_num, rfl, by omega, by omega, .inl ⟨rfl, rfl⟩, hrow', hbel.trans hbel', by simp; omega, HN.out⟩
              case measure => first | (simp [intOf]; done) | (simp [intOf]; omega)
          · have HN : Hid (Pv.At s (s.size + 1) (s.size + 1) ws) := HG.2.1 hpl (by omega)
            have d2 : decide ((ws.length : Int) < 20) = false := by simp; omega
            clear HG
            go_wp2
            go_roundw
            case rel => exact ⟨s.size + 1, s.size + 1, -1, ws, by go_num, rfl, by omega, by omega, .inl ⟨rfl, rfl⟩, hrow, hbel, hfew, HN.out⟩
            case measure => first | (simp [intOf]; done) | (simp [intOf]; omega)
    · have d1 : decide ((k : Int) ≤ (s.size : Int)) = false := by simp; omega
      have HE : Hid (ws = Pv.flds s.data.toList) := HP.out.over (by omega)
      go_wp2
      go_ret
      exact ⟨_, rfl, by rw [← HE.out]; exact hrow, hbel⟩
#print axioms specFields_any
end Go.Proofs.Ytchieahfellcbab
