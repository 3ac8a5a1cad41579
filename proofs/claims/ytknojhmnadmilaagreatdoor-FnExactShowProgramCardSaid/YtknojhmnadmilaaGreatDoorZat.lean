/- 1 to 8 letters: isOfLetters. When a program is right: names, words, expressions, the op at a place. -/
import Derived.Test.YtknojhmnadmilaaGreatDoorZas
import Derived.Test.YtknojhmnadmilaaGreatDoorTkS
import Derived.Test.YtknojhmnadmilaaGreatDoorZag
namespace Go.Proofs.YtknojhmnadmilaaGreatDoor
section PartPkN
open Go.RowKit

theorem take_all (p : UInt8 → Bool) : ∀ l : List UInt8, (l.takeWhile p).length = l.length ↔ l.all p = true
  | [] => by simp
  | b :: r => by
    cases h : p b
    · simp [h]
    · simp [h, take_all p r]
theorem row_same (p : UInt8 → Bool) (s : ByteArray) : ((tx (s.data.toList.take (Tk.run p s.data.toList 0))).toList == s.toList) = s.data.toList.all p := by
  rw [Lib.toList_data, Lib.toList_data]
  have e : Tk.run p s.data.toList 0 = (s.data.toList.takeWhile p).length := by simp [Tk.run]
  have e2 : (tx (s.data.toList.take (Tk.run p s.data.toList 0))).data.toList = s.data.toList.take (Tk.run p s.data.toList 0) := by simp
  rw [e2, e]
  generalize s.data.toList = l
  rw [Bool.eq_iff_iff, beq_iff_eq, ← take_all]
  constructor
  · intro h
    have h2 := congrArg List.length h
    rw [List.length_take] at h2
    have := (List.takeWhile_prefix p (l := l)).length_le
    omega
  · intro h
    rw [h, List.take_length]

set_option maxRecDepth 100000 in
set_option maxHeartbeats 1600000 in
/-- 1 to 8 letters. -/
theorem isOf_any (s : ByteArray) (w : World) : Calls Tryz.prog 67 #[.string s] w fun e w' => e = .returned (.bool (s.data.toList.all Tk.letter && decide (1 ≤ s.data.toList.length ∧ s.data.toList.length ≤ 8))) ∧ Below w.heap.size w w' := by
  obtain ⟨A, hA⟩ : ∃ A, A = s.data.toList.all Tk.letter := ⟨_, rfl⟩
  have hsl : s.data.toList.length = s.size := by simp
  obtain ⟨V, hV⟩ : ∃ V, V = (A && decide (1 ≤ s.size ∧ s.size ≤ 8)) := ⟨_, rfl⟩
  have HV : Hid (V = (A && decide (1 ≤ s.size ∧ s.size ≤ 8))) := hV
  obtain ⟨R, hR⟩ : ∃ R, R = tx (s.data.toList.take (Tk.run Tk.letter s.data.toList 0)) := ⟨_, rfl⟩
  have HRO : Hid (∀ w, Calls Tryz.prog 81 #[.string s, .string setLetters] w fun e w' => e = .returned (.string R) ∧ Below w.heap.size w w') := fun w => by rw [hR]; exact rowOf_any s setLetters Tk.letter w asc_letters letters_is
  have qR : (R.toList == s.toList) = A := by rw [hR, hA]; exact row_same _ _
  have hem : s.toList.isEmpty = decide (s.size = 0) := by
    rw [Lib.toList_data, ← hsl]
    cases s.data.toList <;> simp
  rw [hsl, ← hA, ← hV]
  clear hV hA hR hsl
  unfold setLetters at HRO
  by_cases h0 : s.size = 0
  · have HRR : Hid (V = false) := HV.out.trans (by rw [decide_eq_false (by omega)]; exact Bool.and_false _)
    rw [decide_eq_true h0] at hem
    clear HV HRO qR h0
    go_enter Tryz.func67, Tryz.ntmps67
    go_wp2
    go_ret
    exact ⟨by rw [HRR.out]; rfl, Below.refl _ _⟩
  rw [decide_eq_false h0] at hem
  by_cases h8 : ¬ s.size ≤ 8
  · have HRR : Hid (V = false) := HV.out.trans (by rw [decide_eq_false (by omega)]; exact Bool.and_false _)
    have d8 : decide ((s.size : Int) ≤ 8) = false := decide_eq_false (by omega)
    clear HV HRO qR h0 h8
    go_enter Tryz.func67, Tryz.ntmps67
    go_wp2
    go_ret
    exact ⟨by rw [HRR.out]; rfl, Below.refl _ _⟩
  have d8 : decide ((s.size : Int) ≤ 8) = true := decide_eq_true (by omega)
  have HV2 : Hid (V = A) := HV.out.trans (by rw [decide_eq_true (by omega)]; exact Bool.and_true _)
  clear HV h0 h8
  go_enter Tryz.func67, Tryz.ntmps67
  go_wp2_with fail
  refine (HRO.out _).mono ?_
  rintro e w1 ⟨rfl, hb1⟩
  clear HRO
  go_wp2
  go_ret
  exact ⟨by rw [HV2.out]; rfl, hb1⟩

end PartPkN
section PartPkB
open Go.RowKit

set_option maxHeartbeats 400000 in
theorem isEx_any (op : Int) (w : World) : Calls Tryz.prog 34 #[.int .i64 op] w fun e w' => e = .returned (.bool (Pg.ex op)) ∧ w' = w := by
  by_cases h1 : 1 ≤ op
  · have d1 : decide ((1 : Int) ≤ op) = true := decide_eq_true h1
    have e : Pg.ex op = decide (op ≤ 16) := by unfold Pg.ex; exact decide_eq_decide.2 (by omega)
    rw [e]
    go_enter Tryz.func34, Tryz.ntmps34
    go_wp2
    go_ret
    exact ⟨rfl, rfl⟩
  · have d1 : decide ((1 : Int) ≤ op) = false := decide_eq_false h1
    have e : Pg.ex op = false := decide_eq_false (by omega)
    rw [e]
    go_enter Tryz.func34, Tryz.ntmps34
    go_wp2
    go_ret
    exact ⟨rfl, rfl⟩

theorem words_is (s : ByteArray) : Pg.words.contains s.data.toList = ((s.toList == [66, 69, 71, 73, 78]) || (s.toList == [69, 78, 68]) || (s.toList == [112, 114, 105, 110, 116]) || (s.toList == [110, 101, 120, 116]) || (s.toList == [100, 117, 109, 112]) || (s.toList == [105, 102]) || (s.toList == [101, 108, 115, 101]) || (s.toList == [108, 101, 110, 103, 116, 104]) || (s.toList == [78, 70]) || (s.toList == [78, 82])) := by
  rw [Lib.toList_data]
  generalize s.data.toList = l
  simp only [Pg.words, List.contains_cons, List.contains_nil, Bool.or_false]
  simp only [Bool.or_assoc]

set_option maxHeartbeats 1600000 in
theorem isWord_any (s : ByteArray) (w : World) : Calls Tryz.prog 68 #[.string s] w fun e w' => e = .returned (.bool (Pg.words.contains s.data.toList)) ∧ w' = w := by
  obtain ⟨V, hV⟩ : ∃ V, V = Pg.words.contains s.data.toList := ⟨_, rfl⟩
  have HV : Hid (V = ((s.toList == [66, 69, 71, 73, 78]) || (s.toList == [69, 78, 68]) || (s.toList == [112, 114, 105, 110, 116]) || (s.toList == [110, 101, 120, 116]) || (s.toList == [100, 117, 109, 112]) || (s.toList == [105, 102]) || (s.toList == [101, 108, 115, 101]) || (s.toList == [108, 101, 110, 103, 116, 104]) || (s.toList == [78, 70]) || (s.toList == [78, 82]))) := by rw [hV]; exact words_is s
  rw [← hV]
  clear hV
  by_cases h0 : (s.toList == [66, 69, 71, 73, 78]) = true
  · have HR : Hid (V = true) := HV.out.trans (by rw [h0]; simp)
    clear HV
    go_enter Tryz.func68, Tryz.ntmps68
    go_wp2
    go_ret
    exact ⟨by rw [HR.out]; rfl, rfl⟩
  replace h0 := Bool.eq_false_iff.2 h0
  by_cases h1 : (s.toList == [69, 78, 68]) = true
  · have HR : Hid (V = true) := HV.out.trans (by rw [h1]; simp)
    clear HV
    go_enter Tryz.func68, Tryz.ntmps68
    go_wp2
    go_ret
    exact ⟨by rw [HR.out]; rfl, rfl⟩
  replace h1 := Bool.eq_false_iff.2 h1
  by_cases h2 : (s.toList == [112, 114, 105, 110, 116]) = true
  · have HR : Hid (V = true) := HV.out.trans (by rw [h2]; simp)
    clear HV
    go_enter Tryz.func68, Tryz.ntmps68
    go_wp2
    go_ret
    exact ⟨by rw [HR.out]; rfl, rfl⟩
  replace h2 := Bool.eq_false_iff.2 h2
  by_cases h3 : (s.toList == [110, 101, 120, 116]) = true
  · have HR : Hid (V = true) := HV.out.trans (by rw [h3]; simp)
    clear HV
    go_enter Tryz.func68, Tryz.ntmps68
    go_wp2
    go_ret
    exact ⟨by rw [HR.out]; rfl, rfl⟩
  replace h3 := Bool.eq_false_iff.2 h3
  by_cases h4 : (s.toList == [100, 117, 109, 112]) = true
  · have HR : Hid (V = true) := HV.out.trans (by rw [h4]; simp)
    clear HV
    go_enter Tryz.func68, Tryz.ntmps68
    go_wp2
    go_ret
    exact ⟨by rw [HR.out]; rfl, rfl⟩
  replace h4 := Bool.eq_false_iff.2 h4
  by_cases h5 : (s.toList == [105, 102]) = true
  · have HR : Hid (V = true) := HV.out.trans (by rw [h5]; simp)
    clear HV
    go_enter Tryz.func68, Tryz.ntmps68
    go_wp2
    go_ret
    exact ⟨by rw [HR.out]; rfl, rfl⟩
  replace h5 := Bool.eq_false_iff.2 h5
  by_cases h6 : (s.toList == [101, 108, 115, 101]) = true
  · have HR : Hid (V = true) := HV.out.trans (by rw [h6]; simp)
    clear HV
    go_enter Tryz.func68, Tryz.ntmps68
    go_wp2
    go_ret
    exact ⟨by rw [HR.out]; rfl, rfl⟩
  replace h6 := Bool.eq_false_iff.2 h6
  by_cases h7 : (s.toList == [108, 101, 110, 103, 116, 104]) = true
  · have HR : Hid (V = true) := HV.out.trans (by rw [h7]; simp)
    clear HV
    go_enter Tryz.func68, Tryz.ntmps68
    go_wp2
    go_ret
    exact ⟨by rw [HR.out]; rfl, rfl⟩
  replace h7 := Bool.eq_false_iff.2 h7
  by_cases h8 : (s.toList == [78, 70]) = true
  · have HR : Hid (V = true) := HV.out.trans (by rw [h8]; simp)
    clear HV
    go_enter Tryz.func68, Tryz.ntmps68
    go_wp2
    go_ret
    exact ⟨by rw [HR.out]; rfl, rfl⟩
  replace h8 := Bool.eq_false_iff.2 h8
  by_cases h9 : (s.toList == [78, 82]) = true
  · have HR : Hid (V = true) := HV.out.trans (by rw [h9]; simp)
    clear HV
    go_enter Tryz.func68, Tryz.ntmps68
    go_wp2
    go_ret
    exact ⟨by rw [HR.out]; rfl, rfl⟩
  replace h9 := Bool.eq_false_iff.2 h9
  have HR : Hid (V = false) := HV.out.trans (by rw [h0, h1, h2, h3, h4, h5, h6, h7, h8, h9]; rfl)
  clear HV
  go_enter Tryz.func68, Tryz.ntmps68
  go_wp2
  go_ret
  exact ⟨by rw [HR.out]; rfl, rfl⟩

set_option maxRecDepth 100000 in
set_option maxHeartbeats 1600000 in
theorem isName_any (s : ByteArray) (w : World) : Calls Tryz.prog 60 #[.string s] w fun e w' => e = .returned (.bool (Pg.name s.data.toList)) ∧ Below w.heap.size w w' := by
  obtain ⟨V, hV⟩ : ∃ V, V = Pg.name s.data.toList := ⟨_, rfl⟩
  obtain ⟨A, hA⟩ : ∃ A, A = (s.data.toList.all Tk.letter && decide (1 ≤ s.data.toList.length ∧ s.data.toList.length ≤ 8)) := ⟨_, rfl⟩
  obtain ⟨B, hB⟩ : ∃ B, B = Pg.words.contains s.data.toList := ⟨_, rfl⟩
  have HV : Hid (V = (!B && A)) := by rw [hV, hA, hB, Pg.name, Bool.and_assoc]; exact rfl
  have HW : Hid (∀ w, Calls Tryz.prog 68 #[.string s] w fun e w' => e = .returned (.bool B) ∧ w' = w) := fun w => by rw [hB]; exact isWord_any s w
  have HO : Hid (∀ w, Calls Tryz.prog 67 #[.string s] w fun e w' => e = .returned (.bool A) ∧ Below w.heap.size w w') := fun w => by rw [hA]; exact isOf_any s w
  rw [← hV]
  clear hV hA hB
  cases A
  · have HRR : Hid (V = false) := HV.out.trans (Bool.and_false _)
    clear HV HW
    go_enter Tryz.func60, Tryz.ntmps60
    go_wp2_with fail
    refine (HO.out _).mono ?_
    rintro e w1 ⟨rfl, hb1⟩
    clear HO
    go_wp2
    go_ret
    exact ⟨by rw [HRR.out]; rfl, hb1⟩
  · have HRR : Hid (V = !B) := HV.out.trans (Bool.and_true _)
    clear HV
    go_enter Tryz.func60, Tryz.ntmps60
    go_wp2_with fail
    refine (HO.out _).mono ?_
    rintro e w1 ⟨rfl, hb1⟩
    clear HO
    go_wp2_with fail
    refine (HW.out _).mono ?_
    rintro e w2 ⟨rfl, hw2⟩
    rw [hw2]
    clear HW hw2
    go_wp2
    go_ret
    exact ⟨by rw [HRR.out]; rfl, hb1⟩

set_option maxHeartbeats 800000 in
/-- The op at a place, and 0 where there is none. -/
theorem opAt_any (v : Value) (ps : List Pi) (z : Int) (w : World) (h : PcsAt w v ps) (hl : ps.length ≤ 1048576) :
    Calls Tryz.prog 48 #[v, .int .i64 z] w fun e w' => e = .returned (.int .i64 (if 0 ≤ z ∧ z < (ps.length : Int) then Pg.opAt ps z else 0)) ∧ Below w.heap.size w w' := by
  obtain ⟨a, c, rfl, f⟩ := h
  by_cases h0 : z < 0
  · have d0 : decide (z < 0) = true := decide_eq_true h0
    rw [if_neg (by omega)]
    clear f
    go_enter Tryz.func48, Tryz.ntmps48
    go_wp2
    go_ret
    exact ⟨rfl, Below.refl _ _⟩
  have d0 : decide (z < 0) = false := decide_eq_false h0
  by_cases h1 : (ps.length : Int) ≤ z
  · have d1 : decide ((ps.length : Int) ≤ z) = true := decide_eq_true h1
    rw [if_neg (by omega)]
    clear f
    go_enter Tryz.func48, Tryz.ntmps48
    go_wp2
    go_ret
    exact ⟨rfl, Below.refl _ _⟩
  have d1 : decide ((ps.length : Int) ≤ z) = false := decide_eq_false h1
  rw [if_pos (by omega)]
  obtain ⟨k, rfl⟩ : ∃ k : Nat, z = (k : Int) := ⟨z.toNat, by omega⟩
  obtain ⟨b, o, rfl, hb, hp⟩ := f (by omega)
  obtain ⟨kv, p0, -, -, -⟩ := hp k (by omega)
  have e : Pg.opAt ps (k : Int) = (ps.getD k Pi.no).op := rfl
  rw [e]
  generalize (ps.getD k Pi.no).op = X at *
  have i1 : (k : Int) < (ps.length : Int) := by omega
  generalize ps.length = n at *
  clear hp f e
  go_enter Tryz.func48, Tryz.ntmps48
  go_wp2
  go_ret
  exact ⟨rfl, Below.refl _ _⟩
end PartPkB
end Go.Proofs.YtknojhmnadmilaaGreatDoor
