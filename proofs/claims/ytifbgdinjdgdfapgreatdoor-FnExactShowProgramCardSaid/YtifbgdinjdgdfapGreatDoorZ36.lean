/- HasPrefix and Contains laid at this program; the sets; the program's behindGaps. Plain facts: what the program counts of a node's kids is what the document asks of them. When a program is right: names, words, expressions, the op at a place. -/
import Derived.Test.YtifbgdinjdgdfapGreatDoorZ35
import Derived.Laws.Strings3
import Derived.Lib.Strings
import Derived.Test.YtifbgdinjdgdfapGreatDoorZ01
import Derived.Test.YtifbgdinjdgdfapGreatDoorZ04
namespace Go.Proofs.YtifbgdinjdgdfapGreatDoor
section PartItD
open Go.RowKit

set_option maxRecDepth 100000 in
set_option maxHeartbeats 1000000 in
theorem hasPrefixL_any (s p : ByteArray) (w : World) :
    Calls Tryz.prog 112 #[.string s, .string p] w fun e w' => e = .returned (.bool (Lib.hasPrefix s.data.toList p.data.toList)) ∧ w' = w := by
  rw [← Lib.hasPrefix_of_take, ← Lib.size_eq, ← Lib.size_eq]
  go_enter Tryz.func112, Tryz.ntmps112
  go_wp2
  · rename_i h
    go_ret
    refine ⟨?_, rfl⟩
    show Ending.returned (Value.bool ((s.extract 0 p.size).toList == p.toList)) = _
    rw [Lib.extract_toList, Lib.toList_data]
    simp [h]
  · rename_i h
    go_ret
    refine ⟨?_, rfl⟩
    show Ending.returned (Value.bool false) = _
    simp [h]
set_option maxRecDepth 100000 in
set_option maxHeartbeats 1000000 in
theorem hasPrefix_any (s p : ByteArray) (w : World) :
    Calls Tryz.prog 86 #[.string s, .string p] w fun e w' => e = .returned (.bool (Lib.hasPrefix s.data.toList p.data.toList)) ∧ w' = w := by
  have C : Hid (∀ w, Calls Tryz.prog 112 #[.string s, .string p] w fun e w' => e = .returned (.bool (Lib.hasPrefix s.data.toList p.data.toList)) ∧ w' = w) := fun w => hasPrefixL_any s p w
  go_enter Tryz.func86, Tryz.ntmps86
  go_wp2_with (go_at_call 112; refine (C.out _).mono ?_; rintro e w' ⟨rfl, rfl⟩)
  go_ret
  exact ⟨rfl, rfl⟩

set_option maxRecDepth 100000 in
set_option maxHeartbeats 1000000 in
theorem indexOneL_any (s : ByteArray) (c : UInt8) (w : World) :
    Calls Tryz.prog 129 #[.string s, .string ⟨#[c]⟩] w fun e w' => e = .returned (.int .i64 (Lib.indexByte s.data.toList c)) ∧ w' = w := by
  have C : Hid (∀ w, Calls Tryz.prog 149 #[.string s, .int .u8 (c.toNat : Int)] w fun e w' => e = .returned (.int .i64 (Lib.indexByte s.data.toList c)) ∧ w' = w) := fun w => by
    have := Tryz.stringslite_IndexByte s (c.toNat : Int) w
    rwa [toU8] at this
  go_enter Tryz.func129, Tryz.ntmps129
  go_wp2_with (go_at_call 149; refine (C.out _).mono ?_; rintro e w' ⟨rfl, rfl⟩)
  · have h : ([c] == s.toList) = true := by assumption
    go_ret
    refine ⟨?_, rfl⟩
    have e : s.data.toList = [c] := by rw [← Lib.toList_data]; exact (beq_iff_eq.1 h).symm
    rw [e]
    simp [Lib.indexByte]
  · go_ret
    exact ⟨rfl, rfl⟩
set_option maxRecDepth 100000 in
set_option maxHeartbeats 1000000 in
theorem indexOne_any (s : ByteArray) (c : UInt8) (w : World) :
    Calls Tryz.prog 113 #[.string s, .string ⟨#[c]⟩] w fun e w' => e = .returned (.int .i64 (Lib.indexByte s.data.toList c)) ∧ w' = w := by
  have C : Hid (∀ w, Calls Tryz.prog 129 #[.string s, .string ⟨#[c]⟩] w fun e w' => e = .returned (.int .i64 (Lib.indexByte s.data.toList c)) ∧ w' = w) := fun w => indexOneL_any s c w
  go_enter Tryz.func113, Tryz.ntmps113
  go_wp2_with (go_at_call 129; refine (C.out _).mono ?_; rintro e w' ⟨rfl, rfl⟩)
  go_ret
  exact ⟨rfl, rfl⟩
set_option maxRecDepth 100000 in
set_option maxHeartbeats 1000000 in
theorem containsOne_any (s : ByteArray) (c : UInt8) (w : World) :
    Calls Tryz.prog 88 #[.string s, .string (tx [c])] w fun e w' => e = .returned (.bool (s.data.toList.contains c)) ∧ w' = w := by
  rw [← indexByte_contains]
  show Calls Tryz.prog 88 #[.string s, .string ⟨#[c]⟩] w _
  have C : Hid (∀ w, Calls Tryz.prog 113 #[.string s, .string ⟨#[c]⟩] w fun e w' => e = .returned (.int .i64 (Lib.indexByte s.data.toList c)) ∧ w' = w) := fun w => indexOne_any s c w
  generalize Lib.indexByte s.data.toList c = z at *
  go_enter Tryz.func88, Tryz.ntmps88
  go_wp2_with (go_at_call 113; refine (C.out _).mono ?_; rintro e w' ⟨rfl, rfl⟩)
  go_ret
  exact ⟨rfl, rfl⟩

/-! The sets of the program -/
def setLetters : ByteArray := ⟨#[97, 98, 99, 100, 101, 102, 103, 104, 105, 106, 107, 108, 109, 110, 111, 112, 113, 114, 115, 116, 117, 118, 119, 120, 121, 122, 65, 66, 67, 68, 69, 70, 71, 72, 73, 74, 75, 76, 77, 78, 79, 80, 81, 82, 83, 84, 85, 86, 87, 88, 89, 90]⟩
def setFigures : ByteArray := ⟨#[48, 49, 50, 51, 52, 53, 54, 55, 56, 57]⟩
def setGaps : ByteArray := ⟨#[32, 9]⟩
def setLine : ByteArray := ⟨#[10]⟩
def setMark (m : UInt8) : ByteArray := ⟨#[m, 10]⟩
def setSigns : ByteArray := ⟨#[123, 125, 40, 41, 91, 93, 36, 126, 60, 43, 45, 42, 37, 46, 44, 61]⟩
theorem byte_all {p : UInt8 → Bool} (h : ∀ n : Fin 256, p (UInt8.ofNat n.val) = true) (b : UInt8) : p b = true := by
  have := h ⟨b.toNat, b.toNat_lt⟩
  simpa using this
set_option maxRecDepth 100000 in
theorem letters_is (b : UInt8) : setLetters.data.toList.contains b = Tk.letter b := by
  have := byte_all (p := fun b => setLetters.data.toList.contains b == Tk.letter b) (by decide) b
  simpa using this
set_option maxRecDepth 100000 in
theorem figures_is (b : UInt8) : setFigures.data.toList.contains b = Tk.figure b := by
  have := byte_all (p := fun b => setFigures.data.toList.contains b == Tk.figure b) (by decide) b
  simpa using this
theorem gaps_is (b : UInt8) : setGaps.data.toList.contains b = Tk.blank b := by
  rw [Bool.eq_iff_iff]
  simp [setGaps, Tk.blank]
theorem line_is (b : UInt8) : (!setLine.data.toList.contains b) = (b != 10) := by
  rw [Bool.eq_iff_iff]
  simp [setLine]
theorem mark_is (m b : UInt8) : (!(setMark m).data.toList.contains b) = (b != m && b != 10) := by
  rw [Bool.eq_iff_iff]
  simp [setMark]
theorem signs_is (b : UInt8) : setSigns.data.toList.contains b = decide (b ∈ Tk.signs) := by
  simp [setSigns, Tk.signs]
theorem asc_letters : Asc setLetters := by unfold Asc; decide
theorem asc_figures : Asc setFigures := by unfold Asc; decide
theorem asc_gaps : Asc setGaps := by unfold Asc; decide
theorem asc_line : Asc setLine := by unfold Asc; decide
theorem asc_mark (m : UInt8) (h : m.toNat < 128) : Asc (setMark m) := by
  intro b hb
  simp [setMark] at hb
  rcases hb with rfl | rfl
  · exact h
  · decide

theorem prefix_hash (l : List UInt8) : Lib.hasPrefix l [35] = decide (l[0]? = some 35) := by
  cases l with
  | nil => rfl
  | cons b r =>
    rw [Bool.eq_iff_iff]
    simp [Lib.hasPrefix, List.isPrefixOf]
    exact eq_comm
set_option maxRecDepth 100000 in
set_option maxHeartbeats 1000000 in
/-- What stands behind blanks, tabs and a remark. -/
theorem behindGaps_any (l : List UInt8) (w : World) :
    Calls Tryz.prog 53 #[.string (tx l)] w fun e w' => e = .returned (.string (tx (l.drop (Tk.gap l 0)))) ∧ Below w.heap.size w w' := by
  obtain ⟨k, hk⟩ : ∃ k, k = Tk.run Tk.blank l 0 := ⟨_, rfl⟩
  have hkl : k ≤ l.length := by rw [hk]; exact Tk.run_le _ (Nat.zero_le _)
  have C1 : Hid (∀ w, Calls Tryz.prog 85 #[.string (tx l), .string ⟨#[32, 9]⟩] w fun e w' => e = .returned (.string (tx (l.take k))) ∧ Below w.heap.size w w') := fun w => by
    rw [hk]
    exact rowOf_any (tx l) setGaps Tk.blank w asc_gaps gaps_is
  have HG : Hid (Tk.gap l 0 = if (l.drop k)[0]? = some 35 then k + Tk.run (fun b => b != 10) (l.drop k) 0 else k) := by
    show _ = _
    unfold Tk.gap
    rw [← hk, Tk.get_drop, Nat.add_zero, Tk.run_drop0 (fun b => b != 10) l k]
  have s1 : (tx (l.take k)).size = k := by rw [tx_size, List.length_take]; omega
  have s2 : (tx l).extract k (tx l).size = tx (l.drop k) := by
    rw [ext_take, tx_size, tx_list, List.take_of_length_le (by simp)]
  have C2 : Hid (∀ w, Calls Tryz.prog 86 #[.string (tx (l.drop k)), .string ⟨#[35]⟩] w fun e w' => e = .returned (.bool (decide ((l.drop k)[0]? = some 35))) ∧ w' = w) := fun w => by
    have := hasPrefix_any (tx (l.drop k)) ⟨#[35]⟩ w
    rw [tx_list, prefix_hash] at this
    exact this
  obtain ⟨r, hr⟩ : ∃ r, r = l.drop k := ⟨_, rfl⟩
  obtain ⟨j, hj⟩ : ∃ j, j = Tk.run (fun b => b != 10) r 0 := ⟨_, rfl⟩
  have hjl : j ≤ r.length := by rw [hj]; exact Tk.run_le _ (Nat.zero_le _)
  have C3 : Hid (∀ w, Calls Tryz.prog 87 #[.string (tx r), .string ⟨#[10]⟩] w fun e w' => e = .returned (.string (tx (r.take j))) ∧ Below w.heap.size w w') := fun w => by
    rw [hj]
    exact upTo_any (tx r) setLine (fun b => b != 10) w asc_line line_is
  have HT : Hid (r = l.drop k) := hr
  have hrl : r.length = l.length - k := by rw [hr]; simp
  rw [← hr] at C2 s2 HG
  rw [← hj] at HG
  have s3 : (tx (r.take j)).size = j := by rw [tx_size, List.length_take]; omega
  have s4 : (tx r).extract j (tx r).size = tx (r.drop j) := by
    rw [ext_take, tx_size, tx_list, List.take_of_length_le (by simp)]
  have z1 : (tx l).size = l.length := tx_size l
  have z2 : (tx r).size = r.length := tx_size r
  have i1 : (k : Int) ≤ (l.length : Int) := by omega
  have i2 : (j : Int) ≤ (r.length : Int) := by omega
  have i3 : (0 : Int) ≤ (k : Int) := by omega
  have i4 : (0 : Int) ≤ (j : Int) := by omega
  rw [z1] at s2
  rw [z2] at s4
  clear hk hj hr hrl
  by_cases h : r[0]? = some 35
  · rw [decide_eq_true h] at C2
    rw [if_pos h] at HG
    go_enter Tryz.func53, Tryz.ntmps53
    go_wp2_with fail
    refine (C1.out _).mono ?_
    rintro e w1 ⟨rfl, hb1⟩
    have B1 : Hid (Below w.heap.size w w1) := hb1
    clear hb1
    go_wp2_with fail
    refine (C2.out _).mono ?_
    rintro e w2 ⟨rfl, rfl⟩
    go_wp2_with fail
    refine (C3.out _).mono ?_
    rintro e w2 ⟨rfl, hb2⟩
    go_wp2
    go_ret
    refine ⟨?_, B1.out.trans (hb2.mono B1.out.size)⟩
    rw [HG.out, ← List.drop_drop, ← HT.out]
    rfl
  · rw [decide_eq_false h] at C2
    rw [if_neg h] at HG
    go_enter Tryz.func53, Tryz.ntmps53
    go_wp2_with fail
    refine (C1.out _).mono ?_
    rintro e w1 ⟨rfl, hb1⟩
    have B1 : Hid (Below w.heap.size w w1) := hb1
    clear hb1
    go_wp2_with fail
    refine (C2.out _).mono ?_
    rintro e w2 ⟨rfl, rfl⟩
    go_wp2
    go_ret
    refine ⟨?_, B1.out⟩
    rw [HG.out, ← HT.out]
    rfl
end PartItD
section PartPkA
namespace Pg
/-- Does place k of a node of this op want a statement? -/
def kst (op : Int) (k : Nat) : Bool := decide (op = 24) || (decide (op = 22) && decide (0 < k))
/-- Are the kids' ops as the op wants them? -/
def kops (op : Int) (os : List Int) : Bool := (List.range os.length).all fun k => !(kst op k == ex (os.getD k 0) || (decide (op = 22) && decide (os.getD k 0 = 22)))
/-- No if right within an if. -/
def noIf (op o : Int) : Bool := !(decide (o = 22) && decide (op = 22))
/-- The program's count of expressions and statements. -/
def cnt (op : Int) : List Int → Nat → Nat → Option (Nat × Nat)
  | [], e, s => some (e, s)
  | o :: r, e, s => if ex o then (if s = 0 then cnt op r (e + 1) s else none) else if noIf op o then cnt op r e (s + 1) else none
def fits (op : Int) (e s : Nat) : Bool :=
  if op = 4 ∨ op = 5 ∨ op = 8 ∨ op = 16 ∨ op = 18 ∨ op = 19 then decide (e = 1) && decide (s = 0)
  else if op = 9 ∨ op = 10 ∨ op = 11 ∨ op = 12 ∨ op = 13 ∨ op = 14 ∨ op = 15 ∨ op = 20 ∨ op = 21 then decide (e = 2) && decide (s = 0)
  else if op = 17 then decide (1 ≤ e) && (decide (e ≤ 4) && decide (s = 0))
  else if op = 22 then decide (e = 1) && (decide (1 ≤ s) && decide (s ≤ 2))
  else if op = 24 then decide (e = 0) && decide (s ≤ 20)
  else decide (e = 0) && decide (s = 0)
def counted (op : Int) (os : List Int) : Bool := match cnt op os 0 0 with | none => false | some (e, s) => fits op e s
theorem cnt_behind (op : Int) : ∀ (os : List Int) (e s : Nat), 0 < s → cnt op os e s = if os.all (fun o => !ex o && noIf op o) then some (e, s + os.length) else none
  | [], e, s, _ => by simp [cnt]
  | o :: r, e, s, h => by
    rw [cnt]
    cases h1 : ex o
    · cases h2 : noIf op o
      · simp [h1, h2]
      · simp only [Bool.false_eq_true, ↓reduceIte, cnt_behind op r e (s + 1) (by omega), List.all_cons, h1, h2, Bool.not_false, Bool.and_self, Bool.true_and, List.length_cons]
        rw [show s + 1 + r.length = s + (r.length + 1) by omega]
    · simp [h1, show ¬ s = 0 by omega]
theorem cnt_ahead (op : Int) : ∀ (os : List Int) (e : Nat), cnt op os e 0 = if (os.dropWhile ex).all (fun o => !ex o && noIf op o) then some (e + (os.takeWhile ex).length, (os.dropWhile ex).length) else none
  | [], e => by simp [cnt]
  | o :: r, e => by
    rw [cnt]
    cases h1 : ex o
    · cases h2 : noIf op o
      · simp [h1, h2]
      · simp only [Bool.false_eq_true, ↓reduceIte, cnt_behind op r e (0 + 1) (by omega), h1, h2, List.dropWhile_cons, List.takeWhile_cons, List.all_cons, Bool.not_false, Bool.and_self, Bool.true_and, List.length_cons, List.length_nil]
        rw [show 0 + 1 + r.length = r.length + 1 by omega]
        simp
    · simp only [↓reduceIte, cnt_ahead op r (e + 1), h1, List.dropWhile_cons, List.takeWhile_cons, List.length_cons]
      rw [show e + 1 + (r.takeWhile ex).length = e + ((r.takeWhile ex).length + 1) by omega]
theorem td_len (os : List Int) : (os.takeWhile ex).length + (os.dropWhile ex).length = os.length := by
  rw [← List.length_append, List.takeWhile_append_dropWhile]
theorem drop_nil (os : List Int) : (os.dropWhile ex).length = 0 ↔ os.all ex = true := by
  rw [List.length_eq_zero_iff]
  induction os with
  | nil => simp
  | cons o r ih => cases h : ex o <;> simp [h, ih]
theorem take_nil (os : List Int) : (os.takeWhile ex).length = 0 → os.dropWhile ex = os := by
  intro h
  have h2 := List.takeWhile_append_dropWhile (p := ex) (l := os)
  rw [List.length_eq_zero_iff.1 h] at h2
  exact h2
theorem all_range (os : List Int) (p : Int → Bool) : ((List.range os.length).all fun k => p (os.getD k 0)) = os.all p := by
  rw [Bool.eq_iff_iff, List.all_eq_true, List.all_eq_true]
  constructor
  · intro h o ho
    obtain ⟨k, hk, rfl⟩ := List.getElem_of_mem ho
    have := h k (List.mem_range.2 hk)
    simpa [hk] using this
  · intro h k hk
    have hk := List.mem_range.1 hk
    have := h _ (List.getElem_mem hk)
    simpa [hk] using this
theorem ex_ne {o : Int} (h : o = 22) : ex o = false := by subst h; decide
/-- Where every kid must be an expression. -/
theorem counted_exs (op : Int) (os : List Int) (lo hi : Nat) (h22 : op ≠ 22) (h24 : op ≠ 24) (hf : ∀ e s, fits op e s = (decide (lo ≤ e ∧ e ≤ hi) && decide (s = 0))) : counted op os = (decide (lo ≤ os.length ∧ os.length ≤ hi) && kops op os) := by
  have hk : kops op os = os.all ex := by
    unfold kops
    rw [← all_range]
    congr 1
    funext k
    simp [kst, h22, h24]
  rw [hk, counted, cnt_ahead]
  have hl := td_len os
  have hd := drop_nil os
  cases ha : os.all ex
  · rw [Bool.and_false]
    have hn : (os.dropWhile ex).length ≠ 0 := fun h => by rw [hd.1 h] at ha; cases ha
    split
    · rfl
    · rename_i e s h
      split at h
      · simp at h
        rw [hf, ← h.2]
        simp [hn]
      · cases h
  · have hn := hd.2 ha
    rw [List.length_eq_zero_iff.1 hn] at hl ⊢
    simp at hl
    simp [hf, hl]
theorem counted_is (op : Int) (os : List Int) : counted op os = (decide ((many op).1 ≤ os.length ∧ os.length ≤ (many op).2) && kops op os) := by
  by_cases h1 : op = 4 ∨ op = 5 ∨ op = 8 ∨ op = 16 ∨ op = 18 ∨ op = 19
  · rw [show many op = (1, 1) by simp only [many, if_pos h1]]
    refine counted_exs op os 1 1 (by omega) (by omega) fun e s => ?_
    simp only [fits, if_pos h1]
    congr 1
    exact decide_eq_decide.2 (by omega)
  by_cases h2 : op = 9 ∨ op = 10 ∨ op = 11 ∨ op = 12 ∨ op = 13 ∨ op = 14 ∨ op = 15 ∨ op = 20 ∨ op = 21
  · rw [show many op = (2, 2) by simp only [many, if_neg h1, if_pos h2]]
    refine counted_exs op os 2 2 (by omega) (by omega) fun e s => ?_
    simp only [fits, if_neg h1, if_pos h2]
    congr 1
    exact decide_eq_decide.2 (by omega)
  by_cases h3 : op = 17
  · rw [show many op = (1, 4) by simp only [many, if_neg h1, if_neg h2, if_pos h3]]
    refine counted_exs op os 1 4 (by omega) (by omega) fun e s => ?_
    simp only [fits, if_neg h1, if_neg h2, if_pos h3]
    by_cases q1 : 1 ≤ e <;> by_cases q2 : e ≤ 4 <;> simp [q1, q2]
  by_cases h4 : op = 22
  · subst h4
    rw [show many 22 = (2, 3) by decide, counted, cnt_ahead]
    have hl := td_len os
    by_cases hlen : 2 ≤ os.length ∧ os.length ≤ 3
    · rw [decide_eq_true hlen, Bool.true_and]
      have key : ∀ o : Int, ex o = true → o ≠ 22 := fun o h e => by subst e; exact absurd h (by decide)
      match os, hlen with
      | [a, b], _ =>
        cases ha : ex a <;> cases hb : ex b <;> by_cases ea : a = 22 <;> by_cases eb : b = 22 <;> first | (subst ea; exact absurd ha (by decide)) | simp_all [kops, kst, fits, noIf, List.range_succ, List.dropWhile, List.takeWhile]
      | [a, b, c], _ =>
        cases ha : ex a <;> cases hb : ex b <;> cases hc : ex c <;> by_cases ea : a = 22 <;> by_cases eb : b = 22 <;> by_cases ec : c = 22 <;> first | (subst ea; exact absurd ha (by decide)) | simp_all [kops, kst, fits, noIf, List.range_succ, List.dropWhile, List.takeWhile]
    · rw [decide_eq_false hlen, Bool.false_and]
      split
      · rfl
      · rename_i e s h
        split at h
        · simp at h
          simp [fits]
          omega
        · cases h
  by_cases h5 : op = 24
  · subst h5
    have hk : kops 24 os = os.all (fun o => !ex o) := by
      unfold kops
      rw [← all_range]
      congr 1
      funext k
      simp [kst]
    rw [show many 24 = (0, 20) by decide, counted, cnt_ahead, hk]
    have hl := td_len os
    by_cases ht : (os.takeWhile ex).length = 0
    · rw [take_nil os ht, ht]
      have : (os.all fun o => !ex o && noIf 24 o) = os.all fun o => !ex o := by congr 1; funext o; simp [noIf]
      rw [this]
      cases os.all (fun o => !ex o)
      · simp
      · simp [fits]
    · have hh : (os.all fun o => !ex o) = false := by
        match os, ht with
        | [], ht => simp at ht
        | a :: r, ht =>
          cases ha : ex a
          · simp [List.takeWhile, ha] at ht
          · simp [ha]
      rw [hh, Bool.and_false]
      split
      · rfl
      · rename_i e s h
        split at h
        · simp at h
          simp [fits]
          omega
        · cases h
  · rw [show many op = (0, 0) by simp only [many, if_neg h1, if_neg h2, if_neg h3, if_neg h4, if_neg h5]]
    refine counted_exs op os 0 0 h4 h5 fun e s => ?_
    simp only [fits, if_neg h1, if_neg h2, if_neg h3, if_neg h4, if_neg h5]
    congr 1
    exact decide_eq_decide.2 (by omega)
/-- Are all of them places ahead of i? -/
def ahead (i : Nat) (ks : List Int) : Bool := ks.all fun z => decide (0 ≤ z ∧ z < (i : Int))
/-- The op at a place. -/
def opAt (ps : List Pi) (z : Int) : Int := (ps.getD z.toNat Pi.no).op
theorem all_and (l : List Nat) (p q : Nat → Bool) : l.all (fun k => p k && q k) = (l.all p && l.all q) := by
  induction l with
  | nil => rfl
  | cons a r ih => simp only [List.all_cons, ih]; cases p a <;> cases q a <;> cases r.all p <;> simp
theorem node_is (ps : List Pi) (i : Nat) (op : Int) (t : ByteArray) (ks : List Int) (h : ps.getD i Pi.no = ⟨op, t, ks⟩) : node ps i = (ahead i ks && (decide (1 ≤ op ∧ op ≤ 25) && (text op t.data.toList && counted op (ks.map (opAt ps))))) := by
  have hk : (List.range ks.length).all (kid ps i ⟨op, t, ks⟩) = (ahead i ks && kops op (ks.map (opAt ps))) := by
    have e : kid ps i ⟨op, t, ks⟩ = fun k => decide (0 ≤ ks.getD k 0 ∧ ks.getD k 0 ≤ (i : Int) - 1) && !(kst op k == ex (opAt ps (ks.getD k 0)) || (decide (op = 22) && decide (opAt ps (ks.getD k 0) = 22))) := by
      funext k
      rfl
    rw [e, all_and]
    congr 1
    · rw [all_range ks (fun z => decide (0 ≤ z ∧ z ≤ (i : Int) - 1)), ahead]
      congr 1
      funext z
      exact decide_eq_decide.2 (by omega)
    · unfold kops
      rw [List.length_map]
      rw [Bool.eq_iff_iff, List.all_eq_true, List.all_eq_true]
      have g : ∀ k, k ∈ List.range ks.length → (ks.map (opAt ps)).getD k 0 = opAt ps (ks.getD k 0) := by
        intro k hk
        have hk := List.mem_range.1 hk
        simp [hk]
      constructor
      · intro hh k hm
        rw [g k hm]
        exact hh k hm
      · intro hh k hm
        have := hh k hm
        rw [g k hm] at this
        exact this
  unfold node
  rw [h]
  simp only
  rw [hk, counted_is, List.length_map]
  cases ahead i ks <;> cases decide (1 ≤ op ∧ op ≤ 25) <;> cases text op t.data.toList <;> simp
end Pg
end PartPkA
section PartPkB
open Go.RowKit

set_option maxHeartbeats 400000 in
theorem isEx_any (op : Int) (w : World) : Calls Tryz.prog 69 #[.int .i64 op] w fun e w' => e = .returned (.bool (Pg.ex op)) ∧ w' = w := by
  by_cases h1 : 1 ≤ op
  · have d1 : decide ((1 : Int) ≤ op) = true := decide_eq_true h1
    have e : Pg.ex op = decide (op ≤ 16) := by unfold Pg.ex; exact decide_eq_decide.2 (by omega)
    rw [e]
    go_enter Tryz.func69, Tryz.ntmps69
    go_wp2
    go_ret
    exact ⟨rfl, rfl⟩
  · have d1 : decide ((1 : Int) ≤ op) = false := decide_eq_false h1
    have e : Pg.ex op = false := decide_eq_false (by omega)
    rw [e]
    go_enter Tryz.func69, Tryz.ntmps69
    go_wp2
    go_ret
    exact ⟨rfl, rfl⟩

theorem words_is (s : ByteArray) : Pg.words.contains s.data.toList = ((s.toList == [66, 69, 71, 73, 78]) || (s.toList == [69, 78, 68]) || (s.toList == [112, 114, 105, 110, 116]) || (s.toList == [110, 101, 120, 116]) || (s.toList == [100, 117, 109, 112]) || (s.toList == [105, 102]) || (s.toList == [101, 108, 115, 101]) || (s.toList == [108, 101, 110, 103, 116, 104]) || (s.toList == [78, 70]) || (s.toList == [78, 82])) := by
  rw [Lib.toList_data]
  generalize s.data.toList = l
  simp only [Pg.words, List.contains_cons, List.contains_nil, Bool.or_false]
  simp only [Bool.or_assoc]

set_option maxHeartbeats 1600000 in
theorem isWord_any (s : ByteArray) (w : World) : Calls Tryz.prog 141 #[.string s] w fun e w' => e = .returned (.bool (Pg.words.contains s.data.toList)) ∧ w' = w := by
  obtain ⟨V, hV⟩ : ∃ V, V = Pg.words.contains s.data.toList := ⟨_, rfl⟩
  have HV : Hid (V = ((s.toList == [66, 69, 71, 73, 78]) || (s.toList == [69, 78, 68]) || (s.toList == [112, 114, 105, 110, 116]) || (s.toList == [110, 101, 120, 116]) || (s.toList == [100, 117, 109, 112]) || (s.toList == [105, 102]) || (s.toList == [101, 108, 115, 101]) || (s.toList == [108, 101, 110, 103, 116, 104]) || (s.toList == [78, 70]) || (s.toList == [78, 82]))) := by rw [hV]; exact words_is s
  rw [← hV]
  clear hV
  by_cases h0 : (s.toList == [66, 69, 71, 73, 78]) = true
  · have HR : Hid (V = true) := HV.out.trans (by rw [h0]; simp)
    clear HV
    go_enter Tryz.func141, Tryz.ntmps141
    go_wp2
    go_ret
    exact ⟨by rw [HR.out]; rfl, rfl⟩
  replace h0 := Bool.eq_false_iff.2 h0
  by_cases h1 : (s.toList == [69, 78, 68]) = true
  · have HR : Hid (V = true) := HV.out.trans (by rw [h1]; simp)
    clear HV
    go_enter Tryz.func141, Tryz.ntmps141
    go_wp2
    go_ret
    exact ⟨by rw [HR.out]; rfl, rfl⟩
  replace h1 := Bool.eq_false_iff.2 h1
  by_cases h2 : (s.toList == [112, 114, 105, 110, 116]) = true
  · have HR : Hid (V = true) := HV.out.trans (by rw [h2]; simp)
    clear HV
    go_enter Tryz.func141, Tryz.ntmps141
    go_wp2
    go_ret
    exact ⟨by rw [HR.out]; rfl, rfl⟩
  replace h2 := Bool.eq_false_iff.2 h2
  by_cases h3 : (s.toList == [110, 101, 120, 116]) = true
  · have HR : Hid (V = true) := HV.out.trans (by rw [h3]; simp)
    clear HV
    go_enter Tryz.func141, Tryz.ntmps141
    go_wp2
    go_ret
    exact ⟨by rw [HR.out]; rfl, rfl⟩
  replace h3 := Bool.eq_false_iff.2 h3
  by_cases h4 : (s.toList == [100, 117, 109, 112]) = true
  · have HR : Hid (V = true) := HV.out.trans (by rw [h4]; simp)
    clear HV
    go_enter Tryz.func141, Tryz.ntmps141
    go_wp2
    go_ret
    exact ⟨by rw [HR.out]; rfl, rfl⟩
  replace h4 := Bool.eq_false_iff.2 h4
  by_cases h5 : (s.toList == [105, 102]) = true
  · have HR : Hid (V = true) := HV.out.trans (by rw [h5]; simp)
    clear HV
    go_enter Tryz.func141, Tryz.ntmps141
    go_wp2
    go_ret
    exact ⟨by rw [HR.out]; rfl, rfl⟩
  replace h5 := Bool.eq_false_iff.2 h5
  by_cases h6 : (s.toList == [101, 108, 115, 101]) = true
  · have HR : Hid (V = true) := HV.out.trans (by rw [h6]; simp)
    clear HV
    go_enter Tryz.func141, Tryz.ntmps141
    go_wp2
    go_ret
    exact ⟨by rw [HR.out]; rfl, rfl⟩
  replace h6 := Bool.eq_false_iff.2 h6
  by_cases h7 : (s.toList == [108, 101, 110, 103, 116, 104]) = true
  · have HR : Hid (V = true) := HV.out.trans (by rw [h7]; simp)
    clear HV
    go_enter Tryz.func141, Tryz.ntmps141
    go_wp2
    go_ret
    exact ⟨by rw [HR.out]; rfl, rfl⟩
  replace h7 := Bool.eq_false_iff.2 h7
  by_cases h8 : (s.toList == [78, 70]) = true
  · have HR : Hid (V = true) := HV.out.trans (by rw [h8]; simp)
    clear HV
    go_enter Tryz.func141, Tryz.ntmps141
    go_wp2
    go_ret
    exact ⟨by rw [HR.out]; rfl, rfl⟩
  replace h8 := Bool.eq_false_iff.2 h8
  by_cases h9 : (s.toList == [78, 82]) = true
  · have HR : Hid (V = true) := HV.out.trans (by rw [h9]; simp)
    clear HV
    go_enter Tryz.func141, Tryz.ntmps141
    go_wp2
    go_ret
    exact ⟨by rw [HR.out]; rfl, rfl⟩
  replace h9 := Bool.eq_false_iff.2 h9
  have HR : Hid (V = false) := HV.out.trans (by rw [h0, h1, h2, h3, h4, h5, h6, h7, h8, h9]; rfl)
  clear HV
  go_enter Tryz.func141, Tryz.ntmps141
  go_wp2
  go_ret
  exact ⟨by rw [HR.out]; rfl, rfl⟩

theorem take_all (p : UInt8 → Bool) : ∀ l : List UInt8, (l.takeWhile p).length = l.length ↔ l.all p = true
  | [] => by simp
  | b :: r => by
    cases h : p b
    · simp [h]
    · simp [h, take_all p r]
theorem row_same (p : UInt8 → Bool) (s : ByteArray) : ((tx (s.data.toList.take (Tk.run p s.data.toList 0))).toList == s.toList) = s.data.toList.all p := by
  rw [Lib.toList_data, Lib.toList_data]
  have e : Tk.run p s.data.toList 0 = (s.data.toList.takeWhile p).length := by simp [Tk.run]
  have e2 : (tx (s.data.toList.take (Tk.run p s.data.toList 0))).data.toList = s.data.toList.take (Tk.run p s.data.toList 0) := by simp
  rw [e2, e]
  generalize s.data.toList = l
  rw [Bool.eq_iff_iff, beq_iff_eq, ← take_all]
  constructor
  · intro h
    have h2 := congrArg List.length h
    rw [List.length_take] at h2
    have := (List.takeWhile_prefix p (l := l)).length_le
    omega
  · intro h
    rw [h, List.take_length]

set_option maxRecDepth 100000 in
set_option maxHeartbeats 1600000 in
theorem isName_any (s : ByteArray) (w : World) : Calls Tryz.prog 122 #[.string s] w fun e w' => e = .returned (.bool (Pg.name s.data.toList)) ∧ Below w.heap.size w w' := by
  obtain ⟨V, hV⟩ : ∃ V, V = Pg.name s.data.toList := ⟨_, rfl⟩
  obtain ⟨A, hA⟩ : ∃ A, A = s.data.toList.all Tk.letter := ⟨_, rfl⟩
  obtain ⟨B, hB⟩ : ∃ B, B = Pg.words.contains s.data.toList := ⟨_, rfl⟩
  have hsl : s.data.toList.length = s.size := by simp
  have HV : Hid (V = (!B && A && decide (1 ≤ s.size ∧ s.size ≤ 8))) := by rw [hV, hA, hB, Pg.name, hsl]; exact rfl
  have HW : Hid (∀ w, Calls Tryz.prog 141 #[.string s] w fun e w' => e = .returned (.bool B) ∧ w' = w) := fun w => by rw [hB]; exact isWord_any s w
  obtain ⟨R, hR⟩ : ∃ R, R = tx (s.data.toList.take (Tk.run Tk.letter s.data.toList 0)) := ⟨_, rfl⟩
  have HRO : Hid (∀ w, Calls Tryz.prog 85 #[.string s, .string setLetters] w fun e w' => e = .returned (.string R) ∧ Below w.heap.size w w') := fun w => by rw [hR]; exact rowOf_any s setLetters Tk.letter w asc_letters letters_is
  have qR : (R.toList == s.toList) = A := by rw [hR, hA]; exact row_same _ _
  have hem : s.toList.isEmpty = decide (s.size = 0) := by
    rw [Lib.toList_data, ← hsl]
    cases s.data.toList <;> simp
  rw [← hV]
  clear hV hA hB hR hsl
  unfold setLetters at HRO
  by_cases h0 : s.size = 0
  · have HRR : Hid (V = false) := HV.out.trans (by rw [decide_eq_false (by omega)]; exact Bool.and_false _)
    rw [decide_eq_true h0] at hem
    clear HV HW HRO qR h0
    go_enter Tryz.func122, Tryz.ntmps122
    go_wp2
    go_ret
    exact ⟨by rw [HRR.out]; rfl, Below.refl _ _⟩
  rw [decide_eq_false h0] at hem
  by_cases h8 : ¬ s.size ≤ 8
  · have HRR : Hid (V = false) := HV.out.trans (by rw [decide_eq_false (by omega)]; exact Bool.and_false _)
    have d8 : decide ((s.size : Int) ≤ 8) = false := decide_eq_false (by omega)
    clear HV HW HRO qR h0 h8
    go_enter Tryz.func122, Tryz.ntmps122
    go_wp2
    go_ret
    exact ⟨by rw [HRR.out]; rfl, Below.refl _ _⟩
  have d8 : decide ((s.size : Int) ≤ 8) = true := decide_eq_true (by omega)
  have HV2 : Hid (V = (!B && A)) := HV.out.trans (by rw [decide_eq_true (by omega)]; exact Bool.and_true _)
  clear HV h0 h8
  cases A
  · have HRR : Hid (V = false) := HV2.out.trans (Bool.and_false _)
    clear HV2 HW
    go_enter Tryz.func122, Tryz.ntmps122
    go_wp2_with fail
    refine (HRO.out _).mono ?_
    rintro e w1 ⟨rfl, hb1⟩
    clear HRO
    go_wp2
    go_ret
    exact ⟨by rw [HRR.out]; rfl, hb1⟩
  · have HRR : Hid (V = !B) := HV2.out.trans (Bool.and_true _)
    clear HV2
    go_enter Tryz.func122, Tryz.ntmps122
    go_wp2_with fail
    refine (HRO.out _).mono ?_
    rintro e w1 ⟨rfl, hb1⟩
    clear HRO
    go_wp2_with fail
    refine (HW.out _).mono ?_
    rintro e w2 ⟨rfl, hw2⟩
    rw [hw2]
    clear HW hw2
    go_wp2
    go_ret
    exact ⟨by rw [HRR.out]; rfl, hb1⟩

set_option maxHeartbeats 800000 in
/-- The op at a place, and 0 where there is none. -/
theorem opAt_any (v : Value) (ps : List Pi) (z : Int) (w : World) (h : PcsAt w v ps) (hl : ps.length ≤ 1048576) :
    Calls Tryz.prog 97 #[v, .int .i64 z] w fun e w' => e = .returned (.int .i64 (if 0 ≤ z ∧ z < (ps.length : Int) then Pg.opAt ps z else 0)) ∧ Below w.heap.size w w' := by
  obtain ⟨a, c, rfl, f⟩ := h
  by_cases h0 : z < 0
  · have d0 : decide (z < 0) = true := decide_eq_true h0
    rw [if_neg (by omega)]
    clear f
    go_enter Tryz.func97, Tryz.ntmps97
    go_wp2
    go_ret
    exact ⟨rfl, Below.refl _ _⟩
  have d0 : decide (z < 0) = false := decide_eq_false h0
  by_cases h1 : (ps.length : Int) ≤ z
  · have d1 : decide ((ps.length : Int) ≤ z) = true := decide_eq_true h1
    rw [if_neg (by omega)]
    clear f
    go_enter Tryz.func97, Tryz.ntmps97
    go_wp2
    go_ret
    exact ⟨rfl, Below.refl _ _⟩
  have d1 : decide ((ps.length : Int) ≤ z) = false := decide_eq_false h1
  rw [if_pos (by omega)]
  obtain ⟨k, rfl⟩ : ∃ k : Nat, z = (k : Int) := ⟨z.toNat, by omega⟩
  obtain ⟨b, o, rfl, hb, hp⟩ := f (by omega)
  obtain ⟨kv, p0, -, -, -⟩ := hp k (by omega)
  have e : Pg.opAt ps (k : Int) = (ps.getD k Pi.no).op := rfl
  rw [e]
  generalize (ps.getD k Pi.no).op = X at *
  have i1 : (k : Int) < (ps.length : Int) := by omega
  generalize ps.length = n at *
  clear hp f e
  go_enter Tryz.func97, Tryz.ntmps97
  go_wp2
  go_ret
  exact ⟨rfl, Below.refl _ _⟩
end PartPkB
end Go.Proofs.YtifbgdinjdgdfapGreatDoor
