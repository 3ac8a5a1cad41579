/- 1 to 8 letters: isOfLetters. -/
import Derived.Test.YtbaoadfnmicijaaMPRsItD
import Derived.Test.YtbaoadfnmicijaaMPRsZap
namespace Go.Proofs.Ytbaoadfnmicijaa
open Go.RowKit

theorem take_all (p : UInt8 → Bool) : ∀ l : List UInt8, (l.takeWhile p).length = l.length ↔ l.all p = true
  | [] => by simp
  | b :: r => by
    cases h : p b
    · simp [h]
    · simp [h, take_all p r]
theorem row_same (p : UInt8 → Bool) (s : ByteArray) : ((tx (s.data.toList.take (Tk.run p s.data.toList 0))).toList == s.toList) = s.data.toList.all p := by
  rw [Lib.toList_data, Lib.toList_data]
  have e : Tk.run p s.data.toList 0 = (s.data.toList.takeWhile p).length := by simp [Tk.run]
  have e2 : (tx (s.data.toList.take (Tk.run p s.data.toList 0))).data.toList = s.data.toList.take (Tk.run p s.data.toList 0) := by simp
  rw [e2, e]
  generalize s.data.toList = l
  rw [Bool.eq_iff_iff, beq_iff_eq, ← take_all]
  constructor
  · intro h
    have h2 := congrArg List.length h
    rw [List.length_take] at h2
    have := (List.takeWhile_prefix p (l := l)).length_le
    omega
  · intro h
    rw [h, List.take_length]

set_option maxRecDepth 100000 in
set_option maxHeartbeats 1600000 in
/-- 1 to 8 letters. -/
theorem isOf_any (s : ByteArray) (w : World) : Calls Try.prog 51 #[.string s] w fun e w' => e = .returned (.bool (s.data.toList.all Tk.letter && decide (1 ≤ s.data.toList.length ∧ s.data.toList.length ≤ 8))) ∧ Below w.heap.size w w' := by
  obtain ⟨A, hA⟩ : ∃ A, A = s.data.toList.all Tk.letter := ⟨_, rfl⟩
  have hsl : s.data.toList.length = s.size := by simp
  obtain ⟨V, hV⟩ : ∃ V, V = (A && decide (1 ≤ s.size ∧ s.size ≤ 8)) := ⟨_, rfl⟩
  have HV : Hid (V = (A && decide (1 ≤ s.size ∧ s.size ≤ 8))) := hV
  obtain ⟨R, hR⟩ : ∃ R, R = tx (s.data.toList.take (Tk.run Tk.letter s.data.toList 0)) := ⟨_, rfl⟩
  have HRO : Hid (∀ w, Calls Try.prog 64 #[.string s, .string setLetters] w fun e w' => e = .returned (.string R) ∧ Below w.heap.size w w') := fun w => by rw [hR]; exact rowOf_any s setLetters Tk.letter w asc_letters letters_is
  have qR : (R.toList == s.toList) = A := by rw [hR, hA]; exact row_same _ _
  have hem : s.toList.isEmpty = decide (s.size = 0) := by
    rw [Lib.toList_data, ← hsl]
    cases s.data.toList <;> simp
  rw [hsl, ← hA, ← hV]
  clear hV hA hR hsl
  unfold setLetters at HRO
  by_cases h0 : s.size = 0
  · have HRR : Hid (V = false) := HV.out.trans (by rw [decide_eq_false (by omega)]; exact Bool.and_false _)
    rw [decide_eq_true h0] at hem
    clear HV HRO qR h0
    go_enter Try.func51, Try.ntmps51
    go_wp2
    go_ret
    exact ⟨by rw [HRR.out]; rfl, Below.refl _ _⟩
  rw [decide_eq_false h0] at hem
  by_cases h8 : ¬ s.size ≤ 8
  · have HRR : Hid (V = false) := HV.out.trans (by rw [decide_eq_false (by omega)]; exact Bool.and_false _)
    have d8 : decide ((s.size : Int) ≤ 8) = false := decide_eq_false (by omega)
    clear HV HRO qR h0 h8
    go_enter Try.func51, Try.ntmps51
    go_wp2
    go_ret
    exact ⟨by rw [HRR.out]; rfl, Below.refl _ _⟩
  have d8 : decide ((s.size : Int) ≤ 8) = true := decide_eq_true (by omega)
  have HV2 : Hid (V = A) := HV.out.trans (by rw [decide_eq_true (by omega)]; exact Bool.and_true _)
  clear HV h0 h8
  go_enter Try.func51, Try.ntmps51
  go_wp2_with fail
  refine (HRO.out _).mono ?_
  rintro e w1 ⟨rfl, hb1⟩
  clear HRO
  go_wp2
  go_ret
  exact ⟨by rw [HV2.out]; rfl, hb1⟩

end Go.Proofs.Ytbaoadfnmicijaa
