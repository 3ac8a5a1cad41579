/- Plain facts: what the program counts of a node's kids is what the document asks of them. 1 to 8 letters: isOfLetters. -/
import Derived.Test.YthbblocllicmiapZac
import Derived.Test.YthbblocllicmiapZau
import Derived.Test.YthbblocllicmiapZar
namespace Go.Proofs.Ythbblocllicmiap
section PartPkA
namespace Pg
/-- Does place k of a node of this op want a statement? -/
def kst (op : Int) (k : Nat) : Bool := decide (op = 24) || (decide (op = 22) && decide (0 < k))
/-- Are the kids' ops as the op wants them? -/
def kops (op : Int) (os : List Int) : Bool := (List.range os.length).all fun k => !(kst op k == ex (os.getD k 0) || (decide (op = 22) && decide (os.getD k 0 = 22)))
/-- No if right within an if. -/
def noIf (op o : Int) : Bool := !(decide (o = 22) && decide (op = 22))
/-- The program's count of expressions and statements. -/
def cnt (op : Int) : List Int → Nat → Nat → Option (Nat × Nat)
  | [], e, s => some (e, s)
  | o :: r, e, s => if ex o then (if s = 0 then cnt op r (e + 1) s else none) else if noIf op o then cnt op r e (s + 1) else none
def fits (op : Int) (e s : Nat) : Bool :=
  if op = 4 ∨ op = 5 ∨ op = 8 ∨ op = 16 ∨ op = 18 ∨ op = 19 then decide (e = 1) && decide (s = 0)
  else if op = 9 ∨ op = 10 ∨ op = 11 ∨ op = 12 ∨ op = 13 ∨ op = 14 ∨ op = 15 ∨ op = 20 ∨ op = 21 then decide (e = 2) && decide (s = 0)
  else if op = 17 then decide (1 ≤ e) && (decide (e ≤ 4) && decide (s = 0))
  else if op = 22 then decide (e = 1) && (decide (1 ≤ s) && decide (s ≤ 2))
  else if op = 24 then decide (e = 0) && decide (s ≤ 20)
  else decide (e = 0) && decide (s = 0)
def counted (op : Int) (os : List Int) : Bool := match cnt op os 0 0 with | none => false | some (e, s) => fits op e s
theorem cnt_behind (op : Int) : ∀ (os : List Int) (e s : Nat), 0 < s → cnt op os e s = if os.all (fun o => !ex o && noIf op o) then some (e, s + os.length) else none
  | [], e, s, _ => by simp [cnt]
  | o :: r, e, s, h => by
    rw [cnt]
    cases h1 : ex o
    · cases h2 : noIf op o
      · simp [h1, h2]
      · simp only [Bool.false_eq_true, ↓reduceIte, cnt_behind op r e (s + 1) (by omega), List.all_cons, h1, h2, Bool.not_false, Bool.and_self, Bool.true_and, List.length_cons]
        rw [show s + 1 + r.length = s + (r.length + 1) by omega]
    · simp [h1, show ¬ s = 0 by omega]
theorem cnt_ahead (op : Int) : ∀ (os : List Int) (e : Nat), cnt op os e 0 = if (os.dropWhile ex).all (fun o => !ex o && noIf op o) then some (e + (os.takeWhile ex).length, (os.dropWhile ex).length) else none
  | [], e => by simp [cnt]
  | o :: r, e => by
    rw [cnt]
    cases h1 : ex o
    · cases h2 : noIf op o
      · simp [h1, h2]
      · simp only [Bool.false_eq_true, ↓reduceIte, cnt_behind op r e (0 + 1) (by omega), h1, h2, List.dropWhile_cons, List.takeWhile_cons, List.all_cons, Bool.not_false, Bool.and_self, Bool.true_and, List.length_cons, List.length_nil]
        rw [show 0 + 1 + r.length = r.length + 1 by omega]
        simp
    · simp only [↓reduceIte, cnt_ahead op r (e + 1), h1, List.dropWhile_cons, List.takeWhile_cons, List.length_cons]
      rw [show e + 1 + (r.takeWhile ex).length = e + ((r.takeWhile ex).length + 1) by omega]
theorem td_len (os : List Int) : (os.takeWhile ex).length + (os.dropWhile ex).length = os.length := by
  rw [← List.length_append, List.takeWhile_append_dropWhile]
theorem drop_nil (os : List Int) : (os.dropWhile ex).length = 0 ↔ os.all ex = true := by
  rw [List.length_eq_zero_iff]
  induction os with
  | nil => simp
  | cons o r ih => cases h : ex o <;> simp [h, ih]
theorem take_nil (os : List Int) : (os.takeWhile ex).length = 0 → os.dropWhile ex = os := by
  intro h
  have h2 := List.takeWhile_append_dropWhile (p := ex) (l := os)
  rw [List.length_eq_zero_iff.1 h] at h2
  exact h2
theorem all_range (os : List Int) (p : Int → Bool) : ((List.range os.length).all fun k => p (os.getD k 0)) = os.all p := by
  rw [Bool.eq_iff_iff, List.all_eq_true, List.all_eq_true]
  constructor
  · intro h o ho
    obtain ⟨k, hk, rfl⟩ := List.getElem_of_mem ho
    have := h k (List.mem_range.2 hk)
    simpa [hk] using this
  · intro h k hk
    have hk := List.mem_range.1 hk
    have := h _ (List.getElem_mem hk)
    simpa [hk] using this
theorem ex_ne {o : Int} (h : o = 22) : ex o = false := by subst h; decide
/-- Where every kid must be an expression. -/
theorem counted_exs (op : Int) (os : List Int) (lo hi : Nat) (h22 : op ≠ 22) (h24 : op ≠ 24) (hf : ∀ e s, fits op e s = (decide (lo ≤ e ∧ e ≤ hi) && decide (s = 0))) : counted op os = (decide (lo ≤ os.length ∧ os.length ≤ hi) && kops op os) := by
  have hk : kops op os = os.all ex := by
    unfold kops
    rw [← all_range]
    congr 1
    funext k
    simp [kst, h22, h24]
  rw [hk, counted, cnt_ahead]
  have hl := td_len os
  have hd := drop_nil os
  cases ha : os.all ex
  · rw [Bool.and_false]
    have hn : (os.dropWhile ex).length ≠ 0 := fun h => by rw [hd.1 h] at ha; cases ha
    split
    · rfl
    · rename_i e s h
      split at h
      · simp at h
        rw [hf, ← h.2]
        simp [hn]
      · cases h
  · have hn := hd.2 ha
    rw [List.length_eq_zero_iff.1 hn] at hl ⊢
    simp at hl
    simp [hf, hl]
theorem counted_is (op : Int) (os : List Int) : counted op os = (decide ((many op).1 ≤ os.length ∧ os.length ≤ (many op).2) && kops op os) := by
  by_cases h1 : op = 4 ∨ op = 5 ∨ op = 8 ∨ op = 16 ∨ op = 18 ∨ op = 19
  · rw [show many op = (1, 1) by simp only [many, if_pos h1]]
    refine counted_exs op os 1 1 (by omega) (by omega) fun e s => ?_
    simp only [fits, if_pos h1]
    congr 1
    exact decide_eq_decide.2 (by omega)
  by_cases h2 : op = 9 ∨ op = 10 ∨ op = 11 ∨ op = 12 ∨ op = 13 ∨ op = 14 ∨ op = 15 ∨ op = 20 ∨ op = 21
  · rw [show many op = (2, 2) by simp only [many, if_neg h1, if_pos h2]]
    refine counted_exs op os 2 2 (by omega) (by omega) fun e s => ?_
    simp only [fits, if_neg h1, if_pos h2]
    congr 1
    exact decide_eq_decide.2 (by omega)
  by_cases h3 : op = 17
  · rw [show many op = (1, 4) by simp only [many, if_neg h1, if_neg h2, if_pos h3]]
    refine counted_exs op os 1 4 (by omega) (by omega) fun e s => ?_
    simp only [fits, if_neg h1, if_neg h2, if_pos h3]
    by_cases q1 : 1 ≤ e <;> by_cases q2 : e ≤ 4 <;> simp [q1, q2]
  by_cases h4 : op = 22
  · subst h4
    rw [show many 22 = (2, 3) by decide, counted, cnt_ahead]
    have hl := td_len os
    by_cases hlen : 2 ≤ os.length ∧ os.length ≤ 3
    · rw [decide_eq_true hlen, Bool.true_and]
      have key : ∀ o : Int, ex o = true → o ≠ 22 := fun o h e => by subst e; exact absurd h (by decide)
      match os, hlen with
      | [a, b], _ =>
        cases ha : ex a <;> cases hb : ex b <;> by_cases ea : a = 22 <;> by_cases eb : b = 22 <;> first | (subst ea; exact absurd ha (by decide)) | simp_all [kops, kst, fits, noIf, List.range_succ, List.dropWhile, List.takeWhile]
      | [a, b, c], _ =>
        cases ha : ex a <;> cases hb : ex b <;> cases hc : ex c <;> by_cases ea : a = 22 <;> by_cases eb : b = 22 <;> by_cases ec : c = 22 <;> first | (subst ea; exact absurd ha (by decide)) | simp_all [kops, kst, fits, noIf, List.range_succ, List.dropWhile, List.takeWhile]
    · rw [decide_eq_false hlen, Bool.false_and]
      split
      · rfl
      · rename_i e s h
        split at h
        · simp at h
          simp [fits]
          omega
        · cases h
  by_cases h5 : op = 24
  · subst h5
    have hk : kops 24 os = os.all (fun o => !ex o) := by
      unfold kops
      rw [← all_range]
      congr 1
      funext k
      simp [kst]
    rw [show many 24 = (0, 20) by decide, counted, cnt_ahead, hk]
    have hl := td_len os
    by_cases ht : (os.takeWhile ex).length = 0
    · rw [take_nil os ht, ht]
      have : (os.all fun o => !ex o && noIf 24 o) = os.all fun o => !ex o := by congr 1; funext o; simp [noIf]
      rw [this]
      cases os.all (fun o => !ex o)
      · simp
      · simp [fits]
    · have hh : (os.all fun o => !ex o) = false := by
        match os, ht with
        | [], ht => simp at ht
        | a :: r, ht =>
          cases ha : ex a
          · simp [List.takeWhile, ha] at ht
          · simp [ha]
      rw [hh, Bool.and_false]
      split
      · rfl
      · rename_i e s h
        split at h
        · simp at h
          simp [fits]
          omega
        · cases h
  · rw [show many op = (0, 0) by simp only [many, if_neg h1, if_neg h2, if_neg h3, if_neg h4, if_neg h5]]
    refine counted_exs op os 0 0 h4 h5 fun e s => ?_
    simp only [fits, if_neg h1, if_neg h2, if_neg h3, if_neg h4, if_neg h5]
    congr 1
    exact decide_eq_decide.2 (by omega)
/-- Are all of them places ahead of i? -/
def ahead (i : Nat) (ks : List Int) : Bool := ks.all fun z => decide (0 ≤ z ∧ z < (i : Int))
/-- The op at a place. -/
def opAt (ps : List Pi) (z : Int) : Int := (ps.getD z.toNat Pi.no).op
theorem all_and (l : List Nat) (p q : Nat → Bool) : l.all (fun k => p k && q k) = (l.all p && l.all q) := by
  induction l with
  | nil => rfl
  | cons a r ih => simp only [List.all_cons, ih]; cases p a <;> cases q a <;> cases r.all p <;> simp
theorem node_is (ps : List Pi) (i : Nat) (op : Int) (t : ByteArray) (ks : List Int) (h : ps.getD i Pi.no = ⟨op, t, ks⟩) : node ps i = (ahead i ks && (decide (1 ≤ op ∧ op ≤ 25) && (text op t.data.toList && counted op (ks.map (opAt ps))))) := by
  have hk : (List.range ks.length).all (kid ps i ⟨op, t, ks⟩) = (ahead i ks && kops op (ks.map (opAt ps))) := by
    have e : kid ps i ⟨op, t, ks⟩ = fun k => decide (0 ≤ ks.getD k 0 ∧ ks.getD k 0 ≤ (i : Int) - 1) && !(kst op k == ex (opAt ps (ks.getD k 0)) || (decide (op = 22) && decide (opAt ps (ks.getD k 0) = 22))) := by
      funext k
      rfl
    rw [e, all_and]
    congr 1
    · rw [all_range ks (fun z => decide (0 ≤ z ∧ z ≤ (i : Int) - 1)), ahead]
      congr 1
      funext z
      exact decide_eq_decide.2 (by omega)
    · unfold kops
      rw [List.length_map]
      rw [Bool.eq_iff_iff, List.all_eq_true, List.all_eq_true]
      have g : ∀ k, k ∈ List.range ks.length → (ks.map (opAt ps)).getD k 0 = opAt ps (ks.getD k 0) := by
        intro k hk
        have hk := List.mem_range.1 hk
        simp [hk]
      constructor
      · intro hh k hm
        rw [g k hm]
        exact hh k hm
      · intro hh k hm
        have := hh k hm
        rw [g k hm] at this
        exact this
  unfold node
  rw [h]
  simp only
  rw [hk, counted_is, List.length_map]
  cases ahead i ks <;> cases decide (1 ≤ op ∧ op ≤ 25) <;> cases text op t.data.toList <;> simp
end Pg
end PartPkA
section PartPkN
open Go.RowKit

theorem take_all (p : UInt8 → Bool) : ∀ l : List UInt8, (l.takeWhile p).length = l.length ↔ l.all p = true
  | [] => by simp
  | b :: r => by
    cases h : p b
    · simp [h]
    · simp [h, take_all p r]
theorem row_same (p : UInt8 → Bool) (s : ByteArray) : ((tx (s.data.toList.take (Tk.run p s.data.toList 0))).toList == s.toList) = s.data.toList.all p := by
  rw [Lib.toList_data, Lib.toList_data]
  have e : Tk.run p s.data.toList 0 = (s.data.toList.takeWhile p).length := by simp [Tk.run]
  have e2 : (tx (s.data.toList.take (Tk.run p s.data.toList 0))).data.toList = s.data.toList.take (Tk.run p s.data.toList 0) := by simp
  rw [e2, e]
  generalize s.data.toList = l
  rw [Bool.eq_iff_iff, beq_iff_eq, ← take_all]
  constructor
  · intro h
    have h2 := congrArg List.length h
    rw [List.length_take] at h2
    have := (List.takeWhile_prefix p (l := l)).length_le
    omega
  · intro h
    rw [h, List.take_length]

set_option maxRecDepth 100000 in
set_option maxHeartbeats 1600000 in
/-- 1 to 8 letters. -/
theorem isOf_any (s : ByteArray) (w : World) : Calls Try.prog 86 #[.string s] w fun e w' => e = .returned (.bool (s.data.toList.all Tk.letter && decide (1 ≤ s.data.toList.length ∧ s.data.toList.length ≤ 8))) ∧ Below w.heap.size w w' := by
  obtain ⟨A, hA⟩ : ∃ A, A = s.data.toList.all Tk.letter := ⟨_, rfl⟩
  have hsl : s.data.toList.length = s.size := by simp
  obtain ⟨V, hV⟩ : ∃ V, V = (A && decide (1 ≤ s.size ∧ s.size ≤ 8)) := ⟨_, rfl⟩
  have HV : Hid (V = (A && decide (1 ≤ s.size ∧ s.size ≤ 8))) := hV
  obtain ⟨R, hR⟩ : ∃ R, R = tx (s.data.toList.take (Tk.run Tk.letter s.data.toList 0)) := ⟨_, rfl⟩
  have HRO : Hid (∀ w, Calls Try.prog 42 #[.string s, .string setLetters] w fun e w' => e = .returned (.string R) ∧ Below w.heap.size w w') := fun w => by rw [hR]; exact rowOf_any s setLetters Tk.letter w asc_letters letters_is
  have qR : (R.toList == s.toList) = A := by rw [hR, hA]; exact row_same _ _
  have hem : s.toList.isEmpty = decide (s.size = 0) := by
    rw [Lib.toList_data, ← hsl]
    cases s.data.toList <;> simp
  rw [hsl, ← hA, ← hV]
  clear hV hA hR hsl
  unfold setLetters at HRO
  by_cases h0 : s.size = 0
  · have HRR : Hid (V = false) := HV.out.trans (by rw [decide_eq_false (by omega)]; exact Bool.and_false _)
    rw [decide_eq_true h0] at hem
    clear HV HRO qR h0
    go_enter Try.func86, Try.ntmps86
    go_wp2
    go_ret
    exact ⟨by rw [HRR.out]; rfl, Below.refl _ _⟩
  rw [decide_eq_false h0] at hem
  by_cases h8 : ¬ s.size ≤ 8
  · have HRR : Hid (V = false) := HV.out.trans (by rw [decide_eq_false (by omega)]; exact Bool.and_false _)
    have d8 : decide ((s.size : Int) ≤ 8) = false := decide_eq_false (by omega)
    clear HV HRO qR h0 h8
    go_enter Try.func86, Try.ntmps86
    go_wp2
    go_ret
    exact ⟨by rw [HRR.out]; rfl, Below.refl _ _⟩
  have d8 : decide ((s.size : Int) ≤ 8) = true := decide_eq_true (by omega)
  have HV2 : Hid (V = A) := HV.out.trans (by rw [decide_eq_true (by omega)]; exact Bool.and_true _)
  clear HV h0 h8
  go_enter Try.func86, Try.ntmps86
  go_wp2_with fail
  refine (HRO.out _).mono ?_
  rintro e w1 ⟨rfl, hb1⟩
  clear HRO
  go_wp2
  go_ret
  exact ⟨by rw [HV2.out]; rfl, hb1⟩

end PartPkN
end Go.Proofs.Ythbblocllicmiap
