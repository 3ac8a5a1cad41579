/- What FieldsOf answers, the program's and the specification's, at every line: its fields, in memory of their own. -/
import Derived.Test.YtchieahfellcbabVCut
import Derived.Test.YtchieahfellcbabKS
namespace Go.Proofs.Ytchieahfellcbab
open Go.RowKit

set_option maxHeartbeats 400000 in
theorem isGap_any (z : Nat) (w : World) (h : z < 256) :
    Calls Try.prog 24 #[.int .u8 (z : Int)] w fun e w' => e = .returned (.bool (decide (z = 32 ∨ z = 9))) ∧ w' = w := by
  by_cases h1 : z = 32
  · subst h1
    go_enter Try.func24, Try.ntmps24
    go_wp2
    go_ret
    exact ⟨rfl, rfl⟩
  · by_cases h2 : z = 9
    · subst h2
      go_enter Try.func24, Try.ntmps24
      go_wp2
      go_ret
      exact ⟨rfl, rfl⟩
    · have d1 : ((z : Int) == 32) = false := by simp; omega
      have d2 : ((z : Int) == 9) = false := by simp; omega
      have e : decide (z = 32 ∨ z = 9) = false := by simp; omega
      rw [e]; clear e
      go_enter Try.func24, Try.ntmps24
      go_wp2
      go_ret
      exact ⟨rfl, rfl⟩
theorem isGap_at (z : Nat) (b : Bool) (w : World) (h : z < 256) (hb : decide (z = 32 ∨ z = 9) = b) :
    Calls Try.prog 24 #[.int .u8 (z : Int)] w fun e w' => e = .returned (.bool b) ∧ w' = w := by
  subst hb
  exact isGap_any z w h

set_option maxHeartbeats 1000000 in
set_option maxRecDepth 100000 in
theorem implFields_any (s : ByteArray) (w : World) (hs : s.size ≤ 2097152) :
    Calls Try.prog 12 #[.string s] w fun e w' => ∃ v, e = .returned v ∧ SRow w.heap.size w' v (Pv.flds s.data.toList) ∧ Below w.heap.size w w' := by
  go_enter Try.func12, Try.ntmps12
  go_wp2
  go_loopw [3, 4, 5] (fun v b i wr => ∃ (k p : Nat) (ws : List (List UInt8)), i = .int .i64 (k : Int) ∧ b = .int .i64 (p : Int) ∧ k ≤ s.size + 1 ∧ p ≤ k ∧ SRow w.heap.size wr v ws ∧ Below w.heap.size w wr ∧ ws.length ≤ 20 ∧ Hid (Pv.At s k p ws)) (fun _ _ i _ => s.size + 1 - (intOf i).toNat)
  case atStart => exact ⟨0, 0, [], rfl, rfl, by omega, by omega, SRow.nil _ _, Below.refl _ _, by simp, Pv.At.start s⟩
  case round =>
    obtain ⟨k, p, ws, rfl, rfl, hk, hpk, hrow, hbel, hfew, HP⟩ := hrel
    have hsz := hbel.size
    obtain ⟨ad, cap, rfl, _⟩ := hrow.form
    by_cases hle : k ≤ s.size
    · by_cases h20 : ws.length < 20
      · have d1 : decide ((k : Int) ≤ (s.size : Int)) = true := by simp; omega
        have d2 : decide ((ws.length : Int) < 20) = true := by simp; omega
        by_cases hlt : k < s.size
        · have h256 : s[k].toNat < 256 := s[k].toNat_lt
          have d3 : decide ((k : Int) < (s.size : Int)) = true := by simp; omega
          by_cases hb : s[k].toNat = 32 ∨ s[k].toNat = 9
          · have C : Hid (∀ w, Calls Try.prog 24 #[.int .u8 (s[k].toNat : Int)] w fun e w' => e = .returned (.bool true) ∧ w' = w) := fun w => isGap_at _ true w h256 (by simpa using hb)
            by_cases hpl : p < k
            · have HN : Hid (Pv.At s (k + 1) (k + 1) (ws ++ [Pv.cut ((s.data.toList.drop p).take (k - p))])) := (HP.out.gap hlt hb).1 hpl h20
              have hx : (s.extract p k).size ≤ 2097152 := by rw [ByteArray.size_extract]; omega
              clear hb
              go_wp2_with (first | (go_at_call 24; refine (C.out _).mono ?_; rintro e w' ⟨rfl, rfl⟩) | (go_at_call 25; refine (implCut_any _ _ hx).mono ?_; rintro e w1 ⟨rfl, hb1⟩) | (at_builtin; go_must (refine (hrow.keep hb1).push rfl (.tmp 31) (.tmp 37) rfl rfl _ (Pv.cut ((s.data.toList.drop p).take (k - p))) ?hz rfl ?hl ?hb ?_)))
              case hz => rfl
              case hl => omega
              case hb => have := hb1.size; omega
              · intro v' w2 hrow' hbel'
                go_wp2
                go_roundw
                case rel => exact ⟨k + 1, k + 1, _, by go_num, by go_num, by omega, by omega, hrow', (hbel.trans (hb1.mono hsz)).trans hbel', by simp; omega, HN.out⟩
                case measure => simp [intOf]; omega
            · have HN : Hid (Pv.At s (k + 1) (k + 1) ws) := (HP.out.gap hlt hb).2.2 hpl
              clear hb
              go_wp2_with (go_at_call 24; refine (C.out _).mono ?_; rintro e w' ⟨rfl, rfl⟩)
              go_roundw
              case rel => exact ⟨k + 1, k + 1, ws, by go_num, by go_num, by omega, by omega, hrow, hbel, hfew, HN.out⟩
              case measure => simp [intOf]; omega
          · have C : Hid (∀ w, Calls Try.prog 24 #[.int .u8 (s[k].toNat : Int)] w fun e w' => e = .returned (.bool false) ∧ w' = w) := fun w => isGap_at _ false w h256 (by simpa using hb)
            have HN : Hid (Pv.At s (k + 1) p ws) := HP.out.sign hlt (by omega) (by omega)
            clear hb
            go_wp2_with (go_at_call 24; refine (C.out _).mono ?_; rintro e w' ⟨rfl, rfl⟩)
            go_roundw
            case rel => exact ⟨k + 1, p, ws, by go_num, rfl, by omega, by omega, hrow, hbel, hfew, HN.out⟩
            case measure => simp [intOf]; omega
        · have d3 : decide ((k : Int) < (s.size : Int)) = false := by simp; omega
          by_cases hpl : p < k
          · have HN : Hid (Pv.At s (k + 1) (k + 1) (ws ++ [Pv.cut ((s.data.toList.drop p).take (k - p))])) := (HP.out.last (by omega)).1 hpl h20
            have hx : (s.extract p k).size ≤ 2097152 := by rw [ByteArray.size_extract]; omega
            go_wp2_with (first | (go_at_call 25; refine (implCut_any _ _ hx).mono ?_; rintro e w1 ⟨rfl, hb1⟩) | (at_builtin; go_must (refine (hrow.keep hb1).push rfl (.tmp 31) (.tmp 37) rfl rfl _ (Pv.cut ((s.data.toList.drop p).take (k - p))) ?hz rfl ?hl ?hb ?_)))
            case hz => rfl
            case hl => omega
            case hb => have := hb1.size; omega
            · intro v' w2 hrow' hbel'
              go_wp2
              go_roundw
              case rel => exact ⟨k + 1, k + 1, _, by go_num, by go_num, by omega, by omega, hrow', (hbel.trans (hb1.mono hsz)).trans hbel', by simp; omega, HN.out⟩
              case measure => simp [intOf]; omega
          · have HN : Hid (Pv.At s (k + 1) (k + 1) ws) := (HP.out.last (by omega)).2.2 hpl
            go_wp2
            go_roundw
            case rel => exact ⟨k + 1, k + 1, ws, by go_num, by go_num, by omega, by omega, hrow, hbel, hfew, HN.out⟩
            case measure => simp [intOf]; omega
      · have d1 : decide ((k : Int) ≤ (s.size : Int)) = true := by simp; omega
        have d2 : decide ((ws.length : Int) < 20) = false := by simp; omega
        have HE : Hid (ws = Pv.flds s.data.toList) := HP.out.full (by omega)
        go_wp2
        go_ret
        exact ⟨_, rfl, by rw [← HE.out]; exact hrow, hbel⟩
    · have d1 : decide ((k : Int) ≤ (s.size : Int)) = false := by simp; omega
      have HE : Hid (ws = Pv.flds s.data.toList) := HP.out.over (by omega)
      go_wp2
      go_ret
      exact ⟨_, rfl, by rw [← HE.out]; exact hrow, hbel⟩
#print axioms implFields_any
end Go.Proofs.Ytchieahfellcbab
