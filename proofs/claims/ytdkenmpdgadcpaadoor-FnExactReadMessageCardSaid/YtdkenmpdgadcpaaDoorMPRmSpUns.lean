/- What the specification's Unsealed answers, at every text. -/
import Derived.Test.YtdkenmpdgadcpaaDoorMPRmZau
import Derived.Test.YtdkenmpdgadcpaaDoorMPRmZas
import Derived.Deep.RegionHeld3
import Derived.BigQuiet
import Derived.Deep.QuietTactic
import Derived.Lib.Strings
namespace Go.Proofs.YtdkenmpdgadcpaaDoor
open Go.RowKit

set_option maxHeartbeats 800000 in
set_option maxRecDepth 100000 in
theorem specUnsealed_any (s : ByteArray) (w : World) (hs : s.size ≤ 1048576) :
    Calls Tryd.prog 21 #[.string s] w fun e w' => e = .returned (unsRes s) ∧ Below w.heap.size w w' := by
  by_cases h0 : s.size < 4
  · rw [unsRes_no s (fun h => by have := h.1; omega)]
    have hd0 : decide ((s.size : Int) - 4 < 0) = true := by simp; omega
    go_enter Tryd.func21, Tryd.ntmps21
    go_wp2_with fail
    go_quiet (fail)
    go_wp2
    go_ret2
    exact ⟨rfl, below_drewN (Below.refl _ _) _⟩
  by_cases h1 : 20004 < s.size
  · rw [unsRes_no s (fun h => by have := h.2.1; omega)]
    have hd0 : decide ((s.size : Int) - 4 < 0) = false := by simp; omega
    have hd : decide ((20000 : Int) < (s.size : Int) - 4) = true := by simp; omega
    go_enter Tryd.func21, Tryd.ntmps21
    go_wp2_with fail
    go_quiet (fail)
    go_wp2
    go_ret2
    exact ⟨rfl, below_drewN (Below.refl _ _) _⟩
  obtain ⟨k, hk⟩ : ∃ k, s.size = k + 4 := ⟨s.size - 4, by omega⟩
  have hk4 : ((s.size : Int) - 4) = (k : Int) := by omega
  have hd0 : decide ((k : Int) < 0) = false := by simp
  have hd : decide ((20000 : Int) < (k : Int)) = false := by simp; omega
  obtain ⟨x, hx⟩ : ∃ x, x = Ps.sm 4294967295 (s.data.toList.take k) := ⟨_, rfl⟩
  have hxl : x < 4294967296 := by rw [hx]; exact Ps.sm_lt _ _ (by decide)
  have C1 : Hid (∀ w, Calls Tryd.prog 30 #[.string (s.extract 0 k)] w fun e w' => e = .returned (.int .u32 (x : Int)) ∧ w' = w) := fun w => by
    have := specSumOf_any (s.extract 0 k) w (by simp; omega)
    rw [Ps.extract_head s k, ← hx] at this
    exact this
  have hsl : ∀ wx, (Instr.slice 9 (.string s) none (some (.int .i64 (k : Int))) none).run Tryd.prog wx = .ok (.string (s.extract 0 k)) wx := by
    intro wx
    rw [run_slice_string_to_if wx 9 s .i64 (k : Int) Tryd.underlying9, if_pos (by omega)]
    rfl
  have hsr : ∀ wx, (Instr.slice 9 (.string s) (some (.int .i64 (k : Int))) none none).run Tryd.prog wx = .ok (.string (s.extract k s.size)) wx := by
    intro wx
    rw [run_slice_string_from_if wx 9 s .i64 (k : Int) Tryd.underlying9, if_pos (by omega)]
    rfl
  have HX : Hid (x = Ps.sm 4294967295 (s.data.toList.take k)) := hx
  clear hx
  go_enter Tryd.func21, Tryd.ntmps21
  go_wp2_with fail
  go_region_held3 (fun _ => True) (go_keep) ((first | (go_at_call 30; refine (C1.out _).mono ?_; rintro e w1 ⟨rfl, rfl⟩) | (go_at_call 29; refine (four_any x _ hxl).mono ?_; rintro e w1 ⟨rfl, hb1⟩)))
  go_wp2
  · have hne : (!(s.extract k (k + 4)).toList == Ps.four x) = true := by assumption
    go_ret2
    refine ⟨?_, (Below.refl _ _).drew.trans hb1⟩
    rw [unsRes_no s (fun h => ?_)]
    · rfl
    · rw [Ps.isS_iff s k hk, ← HX.out, ← Ps.extract_tail s k, hk, ← Lib.toList_data] at h
      rw [h.2] at hne
      simp at hne
  · have hne : (!(s.extract k (k + 4)).toList == Ps.four x) = false := by assumption
    go_ret2
    refine ⟨?_, (Below.refl _ _).drew.trans hb1⟩
    rw [unsRes_yes s ?_, show s.size - 4 = k by omega, ← Ps.extract_head s k]
    · rfl
    · rw [Ps.isS_iff s k hk, ← HX.out, ← Ps.extract_tail s k, hk, ← Lib.toList_data]
      exact ⟨by omega, by simpa using hne⟩
end Go.Proofs.YtdkenmpdgadcpaaDoor
