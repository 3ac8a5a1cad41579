/- HasPrefix and Contains laid at this program; the sets; the program's behindGaps. -/
import Derived.Test.YtbiknfhfpmomfapItC
import Derived.Laws.Strings3
import Derived.Lib.Strings
namespace Go.Proofs.Ytbiknfhfpmomfap
open Go.RowKit

set_option maxRecDepth 100000 in
set_option maxHeartbeats 1000000 in
theorem hasPrefixL_any (s p : ByteArray) (w : World) :
    Calls Try.prog 30 #[.string s, .string p] w fun e w' => e = .returned (.bool (Lib.hasPrefix s.data.toList p.data.toList)) ∧ w' = w := by
  rw [← Lib.hasPrefix_of_take, ← Lib.size_eq, ← Lib.size_eq]
  go_enter Try.func30, Try.ntmps30
  go_wp2
  · rename_i h
    go_ret
    refine ⟨?_, rfl⟩
    show Ending.returned (Value.bool ((s.extract 0 p.size).toList == p.toList)) = _
    rw [Lib.extract_toList, Lib.toList_data]
    simp [h]
  · rename_i h
    go_ret
    refine ⟨?_, rfl⟩
    show Ending.returned (Value.bool false) = _
    simp [h]
set_option maxRecDepth 100000 in
set_option maxHeartbeats 1000000 in
theorem hasPrefix_any (s p : ByteArray) (w : World) :
    Calls Try.prog 20 #[.string s, .string p] w fun e w' => e = .returned (.bool (Lib.hasPrefix s.data.toList p.data.toList)) ∧ w' = w := by
  have C : Hid (∀ w, Calls Try.prog 30 #[.string s, .string p] w fun e w' => e = .returned (.bool (Lib.hasPrefix s.data.toList p.data.toList)) ∧ w' = w) := fun w => hasPrefixL_any s p w
  go_enter Try.func20, Try.ntmps20
  go_wp2_with (go_at_call 30; refine (C.out _).mono ?_; rintro e w' ⟨rfl, rfl⟩)
  go_ret
  exact ⟨rfl, rfl⟩

set_option maxRecDepth 100000 in
set_option maxHeartbeats 1000000 in
theorem indexOneL_any (s : ByteArray) (c : UInt8) (w : World) :
    Calls Try.prog 38 #[.string s, .string ⟨#[c]⟩] w fun e w' => e = .returned (.int .i64 (Lib.indexByte s.data.toList c)) ∧ w' = w := by
  have C : Hid (∀ w, Calls Try.prog 46 #[.string s, .int .u8 (c.toNat : Int)] w fun e w' => e = .returned (.int .i64 (Lib.indexByte s.data.toList c)) ∧ w' = w) := fun w => by
    have := Try.stringslite_IndexByte s (c.toNat : Int) w
    rwa [toU8] at this
  go_enter Try.func38, Try.ntmps38
  go_wp2_with (go_at_call 46; refine (C.out _).mono ?_; rintro e w' ⟨rfl, rfl⟩)
  · have h : ([c] == s.toList) = true := by assumption
    go_ret
    refine ⟨?_, rfl⟩
    have e : s.data.toList = [c] := by rw [← Lib.toList_data]; exact (beq_iff_eq.1 h).symm
    rw [e]
    simp [Lib.indexByte]
  · go_ret
    exact ⟨rfl, rfl⟩
set_option maxRecDepth 100000 in
set_option maxHeartbeats 1000000 in
theorem indexOne_any (s : ByteArray) (c : UInt8) (w : World) :
    Calls Try.prog 31 #[.string s, .string ⟨#[c]⟩] w fun e w' => e = .returned (.int .i64 (Lib.indexByte s.data.toList c)) ∧ w' = w := by
  have C : Hid (∀ w, Calls Try.prog 38 #[.string s, .string ⟨#[c]⟩] w fun e w' => e = .returned (.int .i64 (Lib.indexByte s.data.toList c)) ∧ w' = w) := fun w => indexOneL_any s c w
  go_enter Try.func31, Try.ntmps31
  go_wp2_with (go_at_call 38; refine (C.out _).mono ?_; rintro e w' ⟨rfl, rfl⟩)
  go_ret
  exact ⟨rfl, rfl⟩
set_option maxRecDepth 100000 in
set_option maxHeartbeats 1000000 in
theorem containsOne_any (s : ByteArray) (c : UInt8) (w : World) :
    Calls Try.prog 22 #[.string s, .string (tx [c])] w fun e w' => e = .returned (.bool (s.data.toList.contains c)) ∧ w' = w := by
  rw [← indexByte_contains]
  show Calls Try.prog 22 #[.string s, .string ⟨#[c]⟩] w _
  have C : Hid (∀ w, Calls Try.prog 31 #[.string s, .string ⟨#[c]⟩] w fun e w' => e = .returned (.int .i64 (Lib.indexByte s.data.toList c)) ∧ w' = w) := fun w => indexOne_any s c w
  generalize Lib.indexByte s.data.toList c = z at *
  go_enter Try.func22, Try.ntmps22
  go_wp2_with (go_at_call 31; refine (C.out _).mono ?_; rintro e w' ⟨rfl, rfl⟩)
  go_ret
  exact ⟨rfl, rfl⟩
#print axioms containsOne_any

/-! The sets of the program -/
def setLetters : ByteArray := ⟨#[97, 98, 99, 100, 101, 102, 103, 104, 105, 106, 107, 108, 109, 110, 111, 112, 113, 114, 115, 116, 117, 118, 119, 120, 121, 122, 65, 66, 67, 68, 69, 70, 71, 72, 73, 74, 75, 76, 77, 78, 79, 80, 81, 82, 83, 84, 85, 86, 87, 88, 89, 90]⟩
def setFigures : ByteArray := ⟨#[48, 49, 50, 51, 52, 53, 54, 55, 56, 57]⟩
def setGaps : ByteArray := ⟨#[32, 9]⟩
def setLine : ByteArray := ⟨#[10]⟩
def setMark (m : UInt8) : ByteArray := ⟨#[m, 10]⟩
def setSigns : ByteArray := ⟨#[123, 125, 40, 41, 91, 93, 36, 126, 60, 43, 45, 42, 37, 46, 44, 61]⟩
theorem byte_all {p : UInt8 → Bool} (h : ∀ n : Fin 256, p (UInt8.ofNat n.val) = true) (b : UInt8) : p b = true := by
  have := h ⟨b.toNat, b.toNat_lt⟩
  simpa using this
set_option maxRecDepth 100000 in
theorem letters_is (b : UInt8) : setLetters.data.toList.contains b = Tk.letter b := by
  have := byte_all (p := fun b => setLetters.data.toList.contains b == Tk.letter b) (by decide) b
  simpa using this
set_option maxRecDepth 100000 in
theorem figures_is (b : UInt8) : setFigures.data.toList.contains b = Tk.figure b := by
  have := byte_all (p := fun b => setFigures.data.toList.contains b == Tk.figure b) (by decide) b
  simpa using this
theorem gaps_is (b : UInt8) : setGaps.data.toList.contains b = Tk.blank b := by
  rw [Bool.eq_iff_iff]
  simp [setGaps, Tk.blank]
theorem line_is (b : UInt8) : (!setLine.data.toList.contains b) = (b != 10) := by
  rw [Bool.eq_iff_iff]
  simp [setLine]
theorem mark_is (m b : UInt8) : (!(setMark m).data.toList.contains b) = (b != m && b != 10) := by
  rw [Bool.eq_iff_iff]
  simp [setMark]
theorem signs_is (b : UInt8) : setSigns.data.toList.contains b = decide (b ∈ Tk.signs) := by
  simp [setSigns, Tk.signs]
theorem asc_letters : Asc setLetters := by unfold Asc; decide
theorem asc_figures : Asc setFigures := by unfold Asc; decide
theorem asc_gaps : Asc setGaps := by unfold Asc; decide
theorem asc_line : Asc setLine := by unfold Asc; decide
theorem asc_mark (m : UInt8) (h : m.toNat < 128) : Asc (setMark m) := by
  intro b hb
  simp [setMark] at hb
  rcases hb with rfl | rfl
  · exact h
  · decide
#print axioms letters_is

theorem prefix_hash (l : List UInt8) : Lib.hasPrefix l [35] = decide (l[0]? = some 35) := by
  cases l with
  | nil => rfl
  | cons b r =>
    rw [Bool.eq_iff_iff]
    simp [Lib.hasPrefix, List.isPrefixOf]
    exact eq_comm
set_option maxRecDepth 100000 in
set_option maxHeartbeats 1000000 in
/-- What stands behind blanks, tabs and a remark. -/
theorem behindGaps_any (l : List UInt8) (w : World) :
    Calls Try.prog 10 #[.string (tx l)] w fun e w' => e = .returned (.string (tx (l.drop (Tk.gap l 0)))) ∧ Below w.heap.size w w' := by
  obtain ⟨k, hk⟩ : ∃ k, k = Tk.run Tk.blank l 0 := ⟨_, rfl⟩
  have hkl : k ≤ l.length := by rw [hk]; exact Tk.run_le _ (Nat.zero_le _)
  have C1 : Hid (∀ w, Calls Try.prog 19 #[.string (tx l), .string ⟨#[32, 9]⟩] w fun e w' => e = .returned (.string (tx (l.take k))) ∧ Below w.heap.size w w') := fun w => by
    rw [hk]
    exact rowOf_any (tx l) setGaps Tk.blank w asc_gaps gaps_is
  have HG : Hid (Tk.gap l 0 = if (l.drop k)[0]? = some 35 then k + Tk.run (fun b => b != 10) (l.drop k) 0 else k) := by
    show _ = _
    unfold Tk.gap
    rw [← hk, Tk.get_drop, Nat.add_zero, Tk.run_drop0 (fun b => b != 10) l k]
  have s1 : (tx (l.take k)).size = k := by rw [tx_size, List.length_take]; omega
  have s2 : (tx l).extract k (tx l).size = tx (l.drop k) := by
    rw [ext_take, tx_size, tx_list, List.take_of_length_le (by simp)]
  have C2 : Hid (∀ w, Calls Try.prog 20 #[.string (tx (l.drop k)), .string ⟨#[35]⟩] w fun e w' => e = .returned (.bool (decide ((l.drop k)[0]? = some 35))) ∧ w' = w) := fun w => by
    have := hasPrefix_any (tx (l.drop k)) ⟨#[35]⟩ w
    rw [tx_list, prefix_hash] at this
    exact this
  obtain ⟨r, hr⟩ : ∃ r, r = l.drop k := ⟨_, rfl⟩
  obtain ⟨j, hj⟩ : ∃ j, j = Tk.run (fun b => b != 10) r 0 := ⟨_, rfl⟩
  have hjl : j ≤ r.length := by rw [hj]; exact Tk.run_le _ (Nat.zero_le _)
  have C3 : Hid (∀ w, Calls Try.prog 21 #[.string (tx r), .string ⟨#[10]⟩] w fun e w' => e = .returned (.string (tx (r.take j))) ∧ Below w.heap.size w w') := fun w => by
    rw [hj]
    exact upTo_any (tx r) setLine (fun b => b != 10) w asc_line line_is
  have HT : Hid (r = l.drop k) := hr
  have hrl : r.length = l.length - k := by rw [hr]; simp
  rw [← hr] at C2 s2 HG
  rw [← hj] at HG
  have s3 : (tx (r.take j)).size = j := by rw [tx_size, List.length_take]; omega
  have s4 : (tx r).extract j (tx r).size = tx (r.drop j) := by
    rw [ext_take, tx_size, tx_list, List.take_of_length_le (by simp)]
  have z1 : (tx l).size = l.length := tx_size l
  have z2 : (tx r).size = r.length := tx_size r
  have i1 : (k : Int) ≤ (l.length : Int) := by omega
  have i2 : (j : Int) ≤ (r.length : Int) := by omega
  have i3 : (0 : Int) ≤ (k : Int) := by omega
  have i4 : (0 : Int) ≤ (j : Int) := by omega
  rw [z1] at s2
  rw [z2] at s4
  clear hk hj hr hrl
  by_cases h : r[0]? = some 35
  · rw [decide_eq_true h] at C2
    rw [if_pos h] at HG
    go_enter Try.func10, Try.ntmps10
    go_wp2_with fail
    refine (C1.out _).mono ?_
    rintro e w1 ⟨rfl, hb1⟩
    have B1 : Hid (Below w.heap.size w w1) := hb1
    clear hb1
    go_wp2_with fail
    refine (C2.out _).mono ?_
    rintro e w2 ⟨rfl, rfl⟩
    go_wp2_with fail
    refine (C3.out _).mono ?_
    rintro e w2 ⟨rfl, hb2⟩
    go_wp2
    go_ret
    refine ⟨?_, B1.out.trans (hb2.mono B1.out.size)⟩
    rw [HG.out, ← List.drop_drop, ← HT.out]
    rfl
  · rw [decide_eq_false h] at C2
    rw [if_neg h] at HG
    go_enter Try.func10, Try.ntmps10
    go_wp2_with fail
    refine (C1.out _).mono ?_
    rintro e w1 ⟨rfl, hb1⟩
    have B1 : Hid (Below w.heap.size w w1) := hb1
    clear hb1
    go_wp2_with fail
    refine (C2.out _).mono ?_
    rintro e w2 ⟨rfl, rfl⟩
    go_wp2
    go_ret
    refine ⟨?_, B1.out⟩
    rw [HG.out, ← HT.out]
    rfl
#print axioms behindGaps_any
end Go.Proofs.Ytbiknfhfpmomfap
