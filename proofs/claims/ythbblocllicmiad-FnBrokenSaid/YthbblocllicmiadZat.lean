/- HasPrefix and Contains laid at this program; the sets; the program's behindGaps. 1 to 8 letters: isOfLetters. -/
import Derived.Test.YthbblocllicmiadZas
import Derived.Laws.Strings3
import Derived.Lib.Strings
import Derived.Test.YthbblocllicmiadZar
namespace Go.Proofs.Ythbblocllicmiad
section PartItD
open Go.RowKit

set_option maxRecDepth 100000 in
set_option maxHeartbeats 1000000 in
theorem indexOneL_any (s : ByteArray) (c : UInt8) (w : World) :
    Calls Try.prog 51 #[.string s, .string ⟨#[c]⟩] w fun e w' => e = .returned (.int .i64 (Lib.indexByte s.data.toList c)) ∧ w' = w := by
  have C : Hid (∀ w, Calls Try.prog 41 #[.string s, .int .u8 (c.toNat : Int)] w fun e w' => e = .returned (.int .i64 (Lib.indexByte s.data.toList c)) ∧ w' = w) := fun w => by
    have := Try.stringslite_IndexByte s (c.toNat : Int) w
    rwa [toU8] at this
  go_enter Try.func51, Try.ntmps51
  go_wp2_with (go_at_call 41; refine (C.out _).mono ?_; rintro e w' ⟨rfl, rfl⟩)
  · have h : ([c] == s.toList) = true := by assumption
    go_ret
    refine ⟨?_, rfl⟩
    have e : s.data.toList = [c] := by rw [← Lib.toList_data]; exact (beq_iff_eq.1 h).symm
    rw [e]
    simp [Lib.indexByte]
  · go_ret
    exact ⟨rfl, rfl⟩

/-! The sets of the program -/
def setLetters : ByteArray := ⟨#[97, 98, 99, 100, 101, 102, 103, 104, 105, 106, 107, 108, 109, 110, 111, 112, 113, 114, 115, 116, 117, 118, 119, 120, 121, 122, 65, 66, 67, 68, 69, 70, 71, 72, 73, 74, 75, 76, 77, 78, 79, 80, 81, 82, 83, 84, 85, 86, 87, 88, 89, 90]⟩
def setFigures : ByteArray := ⟨#[48, 49, 50, 51, 52, 53, 54, 55, 56, 57]⟩
def setGaps : ByteArray := ⟨#[32, 9]⟩
def setLine : ByteArray := ⟨#[10]⟩
def setMark (m : UInt8) : ByteArray := ⟨#[m, 10]⟩
def setSigns : ByteArray := ⟨#[123, 125, 40, 41, 91, 93, 36, 126, 60, 43, 45, 42, 37, 46, 44, 61]⟩
theorem byte_all {p : UInt8 → Bool} (h : ∀ n : Fin 256, p (UInt8.ofNat n.val) = true) (b : UInt8) : p b = true := by
  have := h ⟨b.toNat, b.toNat_lt⟩
  simpa using this
set_option maxRecDepth 100000 in
theorem letters_is (b : UInt8) : setLetters.data.toList.contains b = Tk.letter b := by
  have := byte_all (p := fun b => setLetters.data.toList.contains b == Tk.letter b) (by decide) b
  simpa using this
set_option maxRecDepth 100000 in
theorem figures_is (b : UInt8) : setFigures.data.toList.contains b = Tk.figure b := by
  have := byte_all (p := fun b => setFigures.data.toList.contains b == Tk.figure b) (by decide) b
  simpa using this
theorem gaps_is (b : UInt8) : setGaps.data.toList.contains b = Tk.blank b := by
  rw [Bool.eq_iff_iff]
  simp [setGaps, Tk.blank]
theorem line_is (b : UInt8) : (!setLine.data.toList.contains b) = (b != 10) := by
  rw [Bool.eq_iff_iff]
  simp [setLine]
theorem mark_is (m b : UInt8) : (!(setMark m).data.toList.contains b) = (b != m && b != 10) := by
  rw [Bool.eq_iff_iff]
  simp [setMark]
theorem signs_is (b : UInt8) : setSigns.data.toList.contains b = decide (b ∈ Tk.signs) := by
  simp [setSigns, Tk.signs]
theorem asc_letters : Asc setLetters := by unfold Asc; decide
theorem asc_figures : Asc setFigures := by unfold Asc; decide
theorem asc_gaps : Asc setGaps := by unfold Asc; decide
theorem asc_line : Asc setLine := by unfold Asc; decide
theorem asc_mark (m : UInt8) (h : m.toNat < 128) : Asc (setMark m) := by
  intro b hb
  simp [setMark] at hb
  rcases hb with rfl | rfl
  · exact h
  · decide

theorem prefix_hash (l : List UInt8) : Lib.hasPrefix l [35] = decide (l[0]? = some 35) := by
  cases l with
  | nil => rfl
  | cons b r =>
    rw [Bool.eq_iff_iff]
    simp [Lib.hasPrefix, List.isPrefixOf]
    exact eq_comm
end PartItD
section PartPkN
open Go.RowKit

theorem take_all (p : UInt8 → Bool) : ∀ l : List UInt8, (l.takeWhile p).length = l.length ↔ l.all p = true
  | [] => by simp
  | b :: r => by
    cases h : p b
    · simp [h]
    · simp [h, take_all p r]
theorem row_same (p : UInt8 → Bool) (s : ByteArray) : ((tx (s.data.toList.take (Tk.run p s.data.toList 0))).toList == s.toList) = s.data.toList.all p := by
  rw [Lib.toList_data, Lib.toList_data]
  have e : Tk.run p s.data.toList 0 = (s.data.toList.takeWhile p).length := by simp [Tk.run]
  have e2 : (tx (s.data.toList.take (Tk.run p s.data.toList 0))).data.toList = s.data.toList.take (Tk.run p s.data.toList 0) := by simp
  rw [e2, e]
  generalize s.data.toList = l
  rw [Bool.eq_iff_iff, beq_iff_eq, ← take_all]
  constructor
  · intro h
    have h2 := congrArg List.length h
    rw [List.length_take] at h2
    have := (List.takeWhile_prefix p (l := l)).length_le
    omega
  · intro h
    rw [h, List.take_length]

set_option maxRecDepth 100000 in
set_option maxHeartbeats 1600000 in
/-- 1 to 8 letters. -/
theorem isOf_any (s : ByteArray) (w : World) : Calls Try.prog 23 #[.string s] w fun e w' => e = .returned (.bool (s.data.toList.all Tk.letter && decide (1 ≤ s.data.toList.length ∧ s.data.toList.length ≤ 8))) ∧ Below w.heap.size w w' := by
  obtain ⟨A, hA⟩ : ∃ A, A = s.data.toList.all Tk.letter := ⟨_, rfl⟩
  have hsl : s.data.toList.length = s.size := by simp
  obtain ⟨V, hV⟩ : ∃ V, V = (A && decide (1 ≤ s.size ∧ s.size ≤ 8)) := ⟨_, rfl⟩
  have HV : Hid (V = (A && decide (1 ≤ s.size ∧ s.size ≤ 8))) := hV
  obtain ⟨R, hR⟩ : ∃ R, R = tx (s.data.toList.take (Tk.run Tk.letter s.data.toList 0)) := ⟨_, rfl⟩
  have HRO : Hid (∀ w, Calls Try.prog 26 #[.string s, .string setLetters] w fun e w' => e = .returned (.string R) ∧ Below w.heap.size w w') := fun w => by rw [hR]; exact rowOf_any s setLetters Tk.letter w asc_letters letters_is
  have qR : (R.toList == s.toList) = A := by rw [hR, hA]; exact row_same _ _
  have hem : s.toList.isEmpty = decide (s.size = 0) := by
    rw [Lib.toList_data, ← hsl]
    cases s.data.toList <;> simp
  rw [hsl, ← hA, ← hV]
  clear hV hA hR hsl
  unfold setLetters at HRO
  by_cases h0 : s.size = 0
  · have HRR : Hid (V = false) := HV.out.trans (by rw [decide_eq_false (by omega)]; exact Bool.and_false _)
    rw [decide_eq_true h0] at hem
    clear HV HRO qR h0
    go_enter Try.func23, Try.ntmps23
    go_wp2
    go_ret
    exact ⟨by rw [HRR.out]; rfl, Below.refl _ _⟩
  rw [decide_eq_false h0] at hem
  by_cases h8 : ¬ s.size ≤ 8
  · have HRR : Hid (V = false) := HV.out.trans (by rw [decide_eq_false (by omega)]; exact Bool.and_false _)
    have d8 : decide ((s.size : Int) ≤ 8) = false := decide_eq_false (by omega)
    clear HV HRO qR h0 h8
    go_enter Try.func23, Try.ntmps23
    go_wp2
    go_ret
    exact ⟨by rw [HRR.out]; rfl, Below.refl _ _⟩
  have d8 : decide ((s.size : Int) ≤ 8) = true := decide_eq_true (by omega)
  have HV2 : Hid (V = A) := HV.out.trans (by rw [decide_eq_true (by omega)]; exact Bool.and_true _)
  clear HV h0 h8
  go_enter Try.func23, Try.ntmps23
  go_wp2_with fail
  refine (HRO.out _).mono ?_
  rintro e w1 ⟨rfl, hb1⟩
  clear HRO
  go_wp2
  go_ret
  exact ⟨by rw [HV2.out]; rfl, hb1⟩

end PartPkN
end Go.Proofs.Ythbblocllicmiad
