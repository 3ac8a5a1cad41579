/- What the specification's LinesOf answers, at every text. -/
import Derived.Test.YtmobohkcocidhaaLnP
import Derived.Test.YtmobohkcocidhaaKS
namespace Go.Proofs.Ytmobohkcocidhaa
open Go.RowKit

set_option maxHeartbeats 2000000 in
set_option maxRecDepth 100000 in
theorem specLines_any (s : ByteArray) (w : World) (hs : s.size ≤ 2097152) :
    Calls Try.prog 10 #[.string s] w fun e w' => ∃ v, e = .returned v ∧ SRow w.heap.size w' v (Ln.all s.data.toList) ∧ Below w.heap.size w w' := by
  obtain ⟨O, hO⟩ : ∃ O, O = Ln.all s.data.toList := ⟨_, rfl⟩
  have HO : Hid (O = Ln.all s.data.toList) := hO
  rw [← hO]
  clear hO
  go_enter Try.func10, Try.ntmps10
  go_wp2
  go_loopw [3, 4, 5] (fun v b i wr => ∃ (k p : Nat) (ws : List (List UInt8)), i = .int .i64 (k : Int) ∧ b = .int .i64 (p : Int) ∧ k ≤ s.size ∧ p ≤ k ∧ SRow w.heap.size wr v ws ∧ Below w.heap.size w wr ∧ ws.length ≤ 20 ∧ Hid (Ln.At s k p ws)) (fun _ _ i _ => s.size - (intOf i).toNat)
  case atStart => exact ⟨0, 0, [], rfl, rfl, by omega, by omega, SRow.none w (Nat.le_refl _), (Below.refl _ _).alloc (Nat.le_refl _) _, by simp, Ln.At.start s⟩
  case round =>
    obtain ⟨k, p, ws, rfl, rfl, hk, hpk, hrow, hbel, hfew, HP⟩ := hrel
    have hsz := hbel.size
    obtain ⟨ad, cap, rfl, _⟩ := hrow.form
    by_cases hlt : k < s.size
    · have d1 : decide ((k : Int) < (s.size : Int)) = true := by simp; omega
      by_cases h20 : ws.length < 20
      · have d2 : decide ((ws.length : Int) < 20) = true := by simp; omega
        have h256 : s[k].toNat < 256 := s[k].toNat_lt
        have hpi : (p : Int) ≤ (k : Int) := by omega
        have hki : (k : Int) ≤ (s.size : Int) := by omega
        by_cases hb : s[k].toNat = 10
        · have HN : Hid (Ln.At s (k + 1) (k + 1) (ws ++ [(s.data.toList.drop p).take (k - p)])) := HP.out.cut hpk hlt hb h20
          have d4 : ((s[k].toNat : Int) == 10) = true := by simp; omega
          clear hb
          go_wp2_with (at_builtin; go_must (refine hrow.push rfl _ _ rfl rfl _ ((s.data.toList.drop p).take (k - p)) ?hz rfl ?hl ?hb ?_))
          case hz => exact Ln.ext_eq s p k
          case hl => omega
          case hb => omega
          · intro v' w2 hrow' hbel'
            go_wp2
            go_roundw
            case rel => exact ⟨k + 1, k + 1, _, by go_num, by go_num, by omega, by omega, hrow', hbel.trans hbel', by simp; omega, HN.out⟩
            case measure => simp [intOf]; omega
        · have HN : Hid (Ln.At s (k + 1) p ws) := HP.out.sign hlt hb
          have d4 : ((s[k].toNat : Int) == 10) = false := by simp; omega
          clear hb
          go_wp2
          go_roundw
          case rel => exact ⟨k + 1, p, ws, by go_num, rfl, by omega, by omega, hrow, hbel, hfew, HN.out⟩
          case measure => simp [intOf]; omega
      · have d2 : decide ((ws.length : Int) < 20) = false := by simp; omega
        have HE : Hid (ws = O) := HP.out.full h20 |>.trans HO.out.symm
        by_cases hps : p < s.size
        · have d5 : decide ((p : Int) < (s.size : Int)) = true := by simp; omega
          go_wp2
          go_ret
          exact ⟨_, rfl, by rw [← HE.out]; exact hrow, hbel⟩
        · omega
    · have d1 : decide ((k : Int) < (s.size : Int)) = false := by simp; omega
      by_cases hps : p < s.size
      · have d5 : decide ((p : Int) < (s.size : Int)) = true := by simp; omega
        by_cases h20 : ws.length < 20
        · have d2 : decide ((ws.length : Int) < 20) = true := by simp; omega
          have HE : Hid (ws ++ [s.data.toList.drop p] = O) := (HP.out.over (by omega) hps h20).trans HO.out.symm
          have hpi : (p : Int) ≤ (s.size : Int) := by omega
          go_wp2_with (at_builtin; go_must (refine hrow.push rfl _ _ rfl rfl _ (s.data.toList.drop p) ?hz rfl ?hl ?hb ?_))
          case hz => exact Ln.ext_end s p
          case hl => omega
          case hb => omega
          · intro v' w2 hrow' hbel'
            go_wp2
            go_ret
            exact ⟨_, rfl, by rw [← HE.out]; exact hrow', hbel.trans hbel'⟩
        · have d2 : decide ((ws.length : Int) < 20) = false := by simp; omega
          have HE : Hid (ws = O) := HP.out.full h20 |>.trans HO.out.symm
          go_wp2
          go_ret
          exact ⟨_, rfl, by rw [← HE.out]; exact hrow, hbel⟩
      · have d5 : decide ((p : Int) < (s.size : Int)) = false := by simp; omega
        have HE : Hid (ws = O) := HP.out.none_left (by omega) |>.trans HO.out.symm
        go_wp2
        go_ret
        exact ⟨_, rfl, by rw [← HE.out]; exact hrow, hbel⟩
#print axioms specLines_any
end Go.Proofs.Ytmobohkcocidhaa
