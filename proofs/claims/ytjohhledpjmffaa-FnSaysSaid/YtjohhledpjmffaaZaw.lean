/- What is dumped: plain facts. What is dumped, no more lines than may stay: plain facts. -/
import Derived.Test.YtjohhledpjmffaaZaq
import Derived.Test.YtjohhledpjmffaaZar
namespace Go.Proofs.Ytjohhledpjmffaa
section PartDmP
namespace St
/-- A cell's line. -/
def line (x : Cl) : List UInt8 := x.key.data.toList ++ ([32] ++ (x.val.data.toList ++ [10]))
/-- The lines of the cells of a name. -/
def lines (name : ByteArray) : List Cl → List UInt8
  | [] => []
  | x :: r => (if x.name.toList == name.toList then line x else []) ++ lines name r
theorem lines_snoc (name : ByteArray) (cs : List Cl) (x : Cl) : lines name (cs ++ [x]) = lines name cs ++ (if x.name.toList == name.toList then line x else []) := by
  induction cs with
  | nil => simp [lines]
  | cons y r ih => simp [lines, ih]
def ba (l : List UInt8) : ByteArray := ⟨l.toArray⟩
/-- What Dump says: nothing, where there is none of the name. -/
def dumped (o name : ByteArray) (cs : List Cl) : ByteArray := if lines name cs = [] then o else cut3 (o ++ ba (lines name cs))
theorem cut3_take (s : ByteArray) : (cut3 s).data.toList = s.data.toList.take 3000 := by
  have hs : s.data.toList.length = s.size := by simp
  unfold cut3
  split
  · rename_i h
    rw [ByteArray.data_extract, Array.toList_extract, List.extract_eq_take_drop]
    simp
  · rename_i h
    rw [List.take_of_length_le (by omega)]
theorem ba_list (s : ByteArray) : ba s.data.toList = s := by apply ByteArray.ext; simp [ba]
theorem ba_ext {a b : ByteArray} (h : a.data.toList = b.data.toList) : a = b := by
  rw [← ba_list a, ← ba_list b, h]
theorem app_list (a b : ByteArray) : (a ++ b).data.toList = a.data.toList ++ b.data.toList := by simp
theorem take_cut (P B : List UInt8) (k : Nat) : (P ++ B).take k = (P.take k ++ B).take k := by
  by_cases h : P.length ≤ k
  · rw [List.take_of_length_le h]
  · have e : (P.take k).length = k := by rw [List.length_take]; omega
    rw [List.take_append_of_le_length (by omega), List.take_append_of_le_length (by omega), List.take_take]
    simp
/-- One cell of the name more. -/
theorem dumped_yes (o name : ByteArray) (cs : List Cl) (x : Cl) (h : (x.name.toList == name.toList) = true) : dumped o name (cs ++ [x]) = cut3 (dumped o name cs ++ x.key ++ ⟨#[32]⟩ ++ x.val ++ ⟨#[10]⟩) := by
  have hl : lines name (cs ++ [x]) = lines name cs ++ line x := by rw [lines_snoc, h]; rfl
  have hne : lines name (cs ++ [x]) ≠ [] := by rw [hl]; unfold line; simp
  unfold dumped
  rw [if_neg hne]
  apply ba_ext
  rw [cut3_take, cut3_take, app_list, app_list, app_list, app_list, app_list]
  show List.take 3000 (o.data.toList ++ (lines name (cs ++ [x]))) = _
  rw [hl]
  have e32 : (⟨#[32]⟩ : ByteArray).data.toList = [32] := rfl
  have e10 : (⟨#[10]⟩ : ByteArray).data.toList = [10] := rfl
  rw [e32, e10]
  split
  · rename_i h0
    rw [h0]
    simp [line, List.append_assoc]
  · rw [cut3_take, app_list]
    show _ = List.take 3000 (List.take 3000 (o.data.toList ++ lines name cs) ++ x.key.data.toList ++ [32] ++ x.val.data.toList ++ [10])
    rw [← List.append_assoc, take_cut]
    simp only [line, List.append_assoc]
theorem dumped_no (o name : ByteArray) (cs : List Cl) (x : Cl) (h : (x.name.toList == name.toList) = false) : dumped o name (cs ++ [x]) = dumped o name cs := by
  unfold dumped
  rw [lines_snoc, h]
  simp
theorem lines_len (name : ByteArray) : ∀ (cs : List Cl), ClSmall cs cs.length → (lines name cs).length ≤ cs.length * 2097154
  | [], _ => by simp [lines]
  | x :: r, h => by
    have h0 := h 0 (by simp)
    have hr := lines_len name r (fun i hi => by have := h (i + 1) (by simpa using hi); simpa using this)
    simp only [List.getD_cons_zero] at h0
    have e1 : x.key.data.toList.length = x.key.size := by simp
    have e2 : x.val.data.toList.length = x.val.size := by simp
    have : (if x.name.toList == name.toList then line x else []).length ≤ 2097154 := by
      split
      · unfold line; simp only [List.length_append, List.length_singleton]; omega
      · simp
    unfold lines
    rw [List.length_append, List.length_cons]
    omega
end St
end PartDmP
section PartDmQ
namespace St
def bstep (name : ByteArray) (acc : List UInt8) (x : Cl) : List UInt8 := if (x.name.toList == name.toList) = true ∧ acc.length < 3000 then acc ++ line x else acc
/-- The lines of the cells of a name, none more once there are 3000 bytes. -/
def bl (name : ByteArray) : List UInt8 → List Cl → List UInt8
  | acc, [] => acc
  | acc, x :: r => bl name (bstep name acc x) r
theorem bl_snoc (name : ByteArray) (cs : List Cl) (x : Cl) : ∀ acc, bl name acc (cs ++ [x]) = bstep name (bl name acc cs) x := by
  induction cs with
  | nil => intro acc; rfl
  | cons y r ih => intro acc; exact ih _
theorem bl_full (name : ByteArray) (cs : List Cl) : ∀ acc, 3000 ≤ acc.length → bl name acc cs = acc := by
  induction cs with
  | nil => intro acc _; rfl
  | cons y r ih =>
    intro acc h
    show bl name (bstep name acc y) r = acc
    have : bstep name acc y = acc := by unfold bstep; rw [if_neg (fun e => by omega)]
    rw [this]; exact ih acc h
theorem bl_pre (name : ByteArray) (cs : List Cl) : ∀ acc, ∃ r, acc ++ lines name cs = bl name acc cs ++ r ∧ (r = [] ∨ 3000 ≤ (bl name acc cs).length) := by
  induction cs with
  | nil => intro acc; exact ⟨[], by simp [lines, bl], .inl rfl⟩
  | cons y t ih =>
    intro acc
    show ∃ r, acc ++ ((if y.name.toList == name.toList then line y else []) ++ lines name t) = bl name (bstep name acc y) t ++ r ∧ (r = [] ∨ 3000 ≤ (bl name (bstep name acc y) t).length)
    cases hn : (y.name.toList == name.toList) with
    | false =>
      have : bstep name acc y = acc := by unfold bstep; rw [if_neg (fun e => by rw [hn] at e; cases e.1)]
      rw [this]
      simpa using ih acc
    | true =>
      by_cases hl : acc.length < 3000
      · have : bstep name acc y = acc ++ line y := by unfold bstep; rw [if_pos ⟨hn, hl⟩]
        rw [this]
        simp only [if_true]
        rw [← List.append_assoc]
        exact ih (acc ++ line y)
      · have : bstep name acc y = acc := by unfold bstep; rw [if_neg (fun e => hl e.2)]
        rw [this, bl_full name t acc (by omega)]
        exact ⟨_, rfl, .inr (by omega)⟩
theorem bl_len (name : ByteArray) (cs : List Cl) : (bl name [] cs).length ≤ (lines name cs).length := by
  obtain ⟨r, h, -⟩ := bl_pre name cs []
  rw [List.nil_append] at h
  rw [h, List.length_append]; omega
theorem dumped_bl (o name : ByteArray) (cs : List Cl) : dumped o name cs = outW o (ba (bl name [] cs)) := by
  obtain ⟨r, h, h2⟩ := bl_pre name cs []
  rw [List.nil_append] at h
  have hsz : (ba (bl name [] cs)).size = (bl name [] cs).length := by show (bl name [] cs).toArray.size = _; simp
  unfold dumped outW
  rw [hsz]
  by_cases hb : bl name [] cs = []
  · have hr : r = [] := by
      rcases h2 with h2 | h2
      · exact h2
      · rw [hb] at h2; simp at h2
    rw [if_pos (by rw [h, hb, hr]; rfl), if_pos (by rw [hb]; rfl)]
  · rw [if_neg (by rw [h]; simp [hb]), if_neg (by simpa using hb)]
    apply ba_ext
    rw [cut3_take, cut3_take, app_list, app_list]
    show List.take 3000 (o.data.toList ++ lines name cs) = List.take 3000 (o.data.toList ++ bl name [] cs)
    rw [h, ← List.append_assoc]
    rcases h2 with rfl | h2
    · rw [List.append_nil]
    · rw [List.take_append_of_le_length (by rw [List.length_append]; omega)]
end St
end PartDmQ
end Go.Proofs.Ytjohhledpjmffaa
