/- The specification of ProgramOk: names, plain texts. -/
import Derived.Test.YtifbgdinjdgdfapPgP
import Derived.Test.YtifbgdinjdgdfapTkA
namespace Go.Proofs.Ytifbgdinjdgdfap
open Go.RowKit

set_option maxHeartbeats 400000 in
theorem sIn_any (x lo hi : Int) (w : World) : Calls Try.prog 27 #[.int .i64 x, .int .i64 lo, .int .i64 hi] w fun e w' => e = .returned (.bool (decide (lo ≤ x ∧ x ≤ hi))) ∧ w' = w := by
  by_cases h1 : lo ≤ x
  · by_cases h2 : x ≤ hi
    · have d1 : decide (lo ≤ x) = true := decide_eq_true h1
      have d2 : decide (x ≤ hi) = true := decide_eq_true h2
      have e : decide (lo ≤ x ∧ x ≤ hi) = true := decide_eq_true ⟨h1, h2⟩
      rw [e]; clear e h1 h2
      go_enter Try.func27, Try.ntmps27
      go_wp2
      go_ret
      exact ⟨rfl, rfl⟩
    · have d1 : decide (lo ≤ x) = true := decide_eq_true h1
      have d2 : decide (x ≤ hi) = false := decide_eq_false h2
      have e : decide (lo ≤ x ∧ x ≤ hi) = false := decide_eq_false (fun k => h2 k.2)
      rw [e]; clear e h1 h2
      go_enter Try.func27, Try.ntmps27
      go_wp2
      go_ret
      exact ⟨rfl, rfl⟩
  · have d1 : decide (lo ≤ x) = false := decide_eq_false h1
    have e : decide (lo ≤ x ∧ x ≤ hi) = false := decide_eq_false (fun k => h1 k.1)
    rw [e]; clear e h1
    go_enter Try.func27, Try.ntmps27
    go_wp2
    go_ret
    exact ⟨rfl, rfl⟩

theorem plain_no {s : ByteArray} {most : Nat} {m : UInt8} {j : Nat} (h : j < s.size) (hb : s[j] = m ∨ s[j] = 10) : Pg.plain s.data.toList most m = false := by
  have : s.data.toList.all (fun b => b != m && b != 10) = false := by
    rw [List.all_eq_false]
    refine ⟨s[j], ?_, ?_⟩
    · show s.data[j] ∈ s.data.toList
      simp
    · rcases hb with hb | hb <;> simp [hb]
  unfold Pg.plain
  rw [this]
  rfl
theorem plain_yes {s : ByteArray} {most : Nat} {m : UInt8} (h : ∀ j, ∀ h : j < s.size, s[j] ≠ m ∧ s[j] ≠ 10) : Pg.plain s.data.toList most m = decide (s.size ≤ most) := by
  have e : s.data.toList.all (fun b => b != m && b != 10) = true := by
    rw [List.all_eq_true]
    intro b hb
    obtain ⟨i, hi, rfl⟩ := List.mem_iff_getElem.1 hb
    have hi2 : i < s.size := by simpa using hi
    have := h i hi2
    rw [lst_at s i hi2]
    simp [this.1, this.2]
  unfold Pg.plain
  rw [e]
  simp

set_option maxHeartbeats 1000000 in
set_option maxRecDepth 100000 in
theorem spPlain (s : ByteArray) (most : Nat) (m : UInt8) (w : World) (hs : s.size ≤ 1048576) :
    Calls Try.prog 70 #[.string s, .int .i64 (most : Int), .int .u8 (m.toNat : Int)] w fun e w' => e = .returned (.bool (Pg.plain s.data.toList most m)) ∧ w' = w := by
  obtain ⟨V, hV⟩ : ∃ V, V = Pg.plain s.data.toList most m := ⟨_, rfl⟩
  rw [← hV]
  have HV : Hid (V = Pg.plain s.data.toList most m) := hV
  clear hV
  go_enter Try.func70, Try.ntmps70
  go_wp2
  go_loop [7] (fun i => ∃ j : Nat, i = .int .i64 (j : Int) ∧ j ≤ s.size ∧ Hid (∀ k, k < j → ∀ h : k < s.size, s[k] ≠ m ∧ s[k] ≠ 10)) (fun i => s.size - (intOf i).toNat)
  case atStart => exact ⟨0, rfl, by omega, fun k hk => by omega⟩
  case round =>
    obtain ⟨j, rfl, hj, HJ⟩ := hrel
    by_cases hlt : j < s.size
    · have hi : (j : Int) < (s.size : Int) := by omega
      have d0 : decide ((j : Int) < (s.size : Int)) = true := decide_eq_true hi
      by_cases h1 : s[j] = m
      · have d1 : ((s[j].toNat : Int) == (m.toNat : Int)) = true := by rw [h1]; simp
        have HF : Hid (V = false) := by show _ = _; rw [HV.out]; exact plain_no hlt (.inl h1)
        clear h1 HJ HV
        go_wp2
        go_ret
        exact ⟨by rw [HF.out]; rfl, rfl⟩
      · have d1 : ((s[j].toNat : Int) == (m.toNat : Int)) = false := beq_eq_false_iff_ne.2 (fun e => h1 (UInt8.toNat_inj.1 (by omega)))
        by_cases h2 : s[j] = 10
        · have d2 : ((s[j].toNat : Int) == 10) = true := by rw [h2]; rfl
          have HF : Hid (V = false) := by show _ = _; rw [HV.out]; exact plain_no hlt (.inr h2)
          clear h1 h2 HJ HV
          go_wp2
          go_ret
          exact ⟨by rw [HF.out]; rfl, rfl⟩
        · have d2 : ((s[j].toNat : Int) == 10) = false := beq_eq_false_iff_ne.2 (fun e => h2 (UInt8.toNat_inj.1 (by show _ = 10; omega)))
          have HN : Hid (∀ k, k < j + 1 → ∀ h : k < s.size, s[k] ≠ m ∧ s[k] ≠ 10) := by
            intro k hk h
            by_cases e : k = j
            · subst e; exact ⟨h1, h2⟩
            · exact HJ.out k (by omega) h
          clear h1 h2 HJ HV
          go_wp2
          go_round
          case rel => exact ⟨j + 1, by go_num, by omega, HN.out⟩
          case measure => simp [intOf]; omega
    · obtain rfl : j = s.size := by omega
      have d0 : decide ((s.size : Int) < (s.size : Int)) = false := decide_eq_false (by omega)
      have HF : Hid (V = decide (s.size ≤ most)) := by show _ = _; rw [HV.out]; exact plain_yes (fun k h => HJ.out k h h)
      clear HJ HV
      go_wp2
      go_ret
      refine ⟨?_, rfl⟩
      rw [HF.out]
      by_cases h : s.size ≤ most
      · have d : decide ((s.size : Int) ≤ (most : Int)) = true := decide_eq_true (by omega)
        simp [h]
      · simp [h]
#print axioms spPlain
end Go.Proofs.Ytifbgdinjdgdfap
