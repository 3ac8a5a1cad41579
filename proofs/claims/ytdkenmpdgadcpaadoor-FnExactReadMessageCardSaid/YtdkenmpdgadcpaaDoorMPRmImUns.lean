/- What the program's Unsealed answers, at every text. -/
import Derived.Test.YtdkenmpdgadcpaaDoorMPRmZau
import Derived.Test.YtdkenmpdgadcpaaDoorMPRmZaz
import Derived.Test.YtdkenmpdgadcpaaDoorMPRmZac
namespace Go.Proofs.YtdkenmpdgadcpaaDoor
open Go.RowKit

set_option maxHeartbeats 800000 in
set_option maxRecDepth 100000 in
theorem implUnsealed_any (s : ByteArray) (w : World) (hs : s.size ≤ 1048576) (ht : Tabd w) :
    Calls Tryd.prog 23 #[.string s] w fun e w' => e = .returned (unsRes s) ∧ Below w.heap.size w w' := by
  have HT : Hid (Tabd w) := ht
  clear ht
  by_cases h0 : s.size < 4
  · rw [unsRes_no s (fun h => by have := h.1; omega)]
    go_enter Tryd.func23, Tryd.ntmps23
    go_wp2
    go_ret2
    exact ⟨rfl, Below.refl _ _⟩
  obtain ⟨k, hk⟩ : ∃ k, s.size = k + 4 := ⟨s.size - 4, by omega⟩
  have hk4 : ((s.size : Int) - 4) = (k : Int) := by omega
  have hsl : ∀ wx, (Instr.slice 9 (.string s) none (some (.int .i64 (k : Int))) none).run Tryd.prog wx = .ok (.string (s.extract 0 k)) wx := by
    intro wx
    rw [run_slice_string_to_if wx 9 s .i64 (k : Int) Tryd.underlying9, if_pos (by omega)]
    rfl
  have hes : (s.extract 0 k).size = k := by simp; omega
  by_cases h1 : 20000 < k
  · rw [unsRes_no s (fun h => by have := h.2.1; omega)]
    have C1 : Hid (Calls Tryd.prog 18 #[.string (s.extract 0 k)] w fun e w' => e = .returned (.tuple #[.string ⟨#[]⟩, .bool false]) ∧ Below w.heap.size w w') := by
      have := implSealed_any (s.extract 0 k) w (by omega) HT.out
      rw [sealRes_no _ (by omega)] at this
      exact this
    clear hes
    go_enter Tryd.func23, Tryd.ntmps23
    go_wp2_with (go_at_call 18; refine (C1.out).mono ?_; rintro e w1 ⟨rfl, hb1⟩)
    go_ret2
    exact ⟨rfl, hb1⟩
  obtain ⟨x, hx⟩ : ∃ x, x = Ps.sm 4294967295 (s.data.toList.take k) := ⟨_, rfl⟩
  obtain ⟨t, hte⟩ : ∃ t : ByteArray, t = ⟨(s.data.toList.take k ++ Ps.four x).toArray⟩ := ⟨_, rfl⟩
  have C1 : Hid (Calls Tryd.prog 18 #[.string (s.extract 0 k)] w fun e w' => e = .returned (.tuple #[.string t, .bool true]) ∧ Below w.heap.size w w') := by
    have := implSealed_any (s.extract 0 k) w (by omega) HT.out
    rw [sealRes_yes _ (by omega), Ps.extract_head s k, ← hx, ← hte] at this
    exact this
  have HQ : Hid (t.toList = s.toList ↔ Ps.isS s) := by
    show _ ↔ _
    rw [Ps.isS_iff s k hk, ← hx, hte, Lib.toList_data, Lib.toList_data]
    show (s.data.toList.take k ++ Ps.four x).toArray.toList = s.data.toList ↔ _
    constructor
    · intro h
      refine ⟨by omega, ?_⟩
      have h2 : s.data.toList.take k ++ Ps.four x = s.data.toList.take k ++ s.data.toList.drop k := by rw [List.take_append_drop]; simpa using h
      exact (List.append_cancel_left h2).symm
    · rintro ⟨_, h⟩
      rw [← h]
      simp
  clear hx hte
  by_cases hS : Ps.isS s
  · rw [unsRes_yes s hS, show s.size - 4 = k by omega, ← Ps.extract_head s k]
    have hq : (t.toList == s.toList) = true := by simpa using HQ.out.2 hS
    clear hS HQ
    go_enter Tryd.func23, Tryd.ntmps23
    go_wp2_with (first | (go_at_call 18; refine (C1.out).mono ?_; rintro e w1 ⟨rfl, hb1⟩) | (go_at_call 37; refine (clone_any _ _ (by omega)).mono ?_; rintro e w2 ⟨rfl, hb2⟩))
    go_ret2
    exact ⟨rfl, hb1.trans (hb2.mono hb1.size)⟩
  · rw [unsRes_no s hS]
    have hq : (t.toList == s.toList) = false := by
      rw [Bool.eq_false_iff]
      intro h
      exact hS (HQ.out.1 (by simpa using h))
    clear hS HQ
    go_enter Tryd.func23, Tryd.ntmps23
    go_wp2_with (go_at_call 18; refine (C1.out).mono ?_; rintro e w1 ⟨rfl, hb1⟩)
    go_ret2
    exact ⟨rfl, hb1⟩
end Go.Proofs.YtdkenmpdgadcpaaDoor
