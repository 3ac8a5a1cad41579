/- Plain facts, without the program: the parts of a line between blanks, and that they are what is not empty of the line cut at every blank. -/
import Derived.Lib.Split
namespace Go.Proofs.YtnckjnkbpdfjpamDoor
namespace Pl

/-- The parts of what is left, cur being read already. -/
def wd : List UInt8 → List UInt8 → List (List UInt8)
  | cur, [] => if cur = [] then [] else [cur]
  | cur, b :: r => if b = 32 then (if cur = [] then wd [] r else cur :: wd [] r) else wd (cur ++ [b]) r
/-- All pieces between blanks, the empty ones too. -/
def sp : List UInt8 → List UInt8 → List (List UInt8)
  | cur, [] => [cur]
  | cur, b :: r => if b = 32 then cur :: sp [] r else sp (cur ++ [b]) r

theorem wd_end (cur : List UInt8) (h : cur ≠ []) : wd cur [] = [cur] := by rw [wd, if_neg h]
theorem wd_end0 : wd [] [] = [] := rfl
theorem wd_blank (cur : List UInt8) (h : cur ≠ []) (r : List UInt8) : wd cur (32 :: r) = cur :: wd [] r := by rw [wd, if_pos rfl, if_neg h]
theorem wd_blank0 (r : List UInt8) : wd [] (32 :: r) = wd [] r := by rw [wd, if_pos rfl, if_pos rfl]
theorem wd_sign (cur : List UInt8) (b : UInt8) (h : b ≠ 32) (r : List UInt8) : wd cur (b :: r) = wd (cur ++ [b]) r := by rw [wd, if_neg h]

theorem sp_wd (cur r : List UInt8) : (sp cur r).filter (fun p => p ≠ []) = wd cur r := by
  induction r generalizing cur with
  | nil =>
    by_cases h : cur = []
    · subst h; rfl
    · rw [wd_end cur h]; simp [sp, h]
  | cons b r ih =>
    by_cases hb : b = 32
    · subst hb
      rw [sp, if_pos rfl]
      by_cases h : cur = []
      · subst h
        rw [wd_blank0, ← ih]
        simp
      · rw [wd_blank cur h, ← ih]
        simp [h]
    · rw [sp, if_neg hb, wd_sign cur b hb, ih]

theorem sp_over (cur p r : List UInt8) (h : ∀ b ∈ p, b ≠ 32) : sp cur (p ++ r) = sp (cur ++ p) r := by
  induction p generalizing cur with
  | nil => simp
  | cons b p ih =>
    rw [List.cons_append, sp, if_neg (h b (by simp)), ih _ (fun c hc => h c (by simp [hc]))]
    simp

theorem idx (l : List UInt8) : (Lib.index l [32] = -1 ∧ ∀ b ∈ l, b ≠ 32) ∨ ∃ i : Nat, Lib.index l [32] = i ∧ i < l.length ∧ (∀ b ∈ l.take i, b ≠ 32) ∧ l.drop i = 32 :: l.drop (i + 1) := by
  induction l with
  | nil => left; exact ⟨by decide, by simp⟩
  | cons b l ih =>
    by_cases hb : b = 32
    · subst hb
      right
      refine ⟨0, ?_, by simp, by simp, by simp⟩
      rw [Lib.index, if_pos (by simp)]
      rfl
    · have hp : ¬ ([32] : List UInt8).isPrefixOf (b :: l) = true := by
        simp [List.isPrefixOf]
        intro e; exact hb e.symm
      rw [Lib.index, if_neg hp]
      rcases ih with ⟨h1, h2⟩ | ⟨i, h1, h2, h3, h4⟩
      · left
        rw [h1]
        refine ⟨rfl, ?_⟩
        intro c hc
        simp at hc
        rcases hc with rfl | hc
        · exact hb
        · exact h2 c hc
      · right
        refine ⟨i + 1, ?_, by simp; omega, ?_, ?_⟩
        · rw [h1, if_neg (by rw [beq_iff_eq]; omega)]
          omega
        · intro c hc
          simp at hc
          rcases hc with rfl | hc
          · exact hb
          · exact h3 c hc
        · simpa using h4

theorem split_sp (k : Nat) (l : List UInt8) (hk : l.length ≤ k) : Lib.splitK [32] 0 (Lib.count l [32]) l = sp [] l := by
  induction k generalizing l with
  | zero =>
    obtain rfl : l = [] := by simpa using hk
    rw [Lib.count_miss (by decide)]
    rfl
  | succ k ih =>
    rcases idx l with ⟨h1, h2⟩ | ⟨i, h1, h2, h3, h4⟩
    · rw [Lib.count_miss h1]
      have := sp_over [] l [] h2
      simp only [List.append_nil, List.nil_append] at this
      rw [this]
      rfl
    · rw [Lib.count_hit (by decide) h1, Nat.add_comm 1, Lib.splitK, if_neg (by rw [h1, beq_iff_eq]; omega), h1]
      have e : l = l.take i ++ (32 :: l.drop (i + 1)) := by rw [← h4, List.take_append_drop]
      have hs : sp [] l = l.take i :: sp [] (l.drop (i + 1)) := by
        conv => lhs; rw [e]
        rw [sp_over [] _ _ h3, sp, if_pos rfl]
        simp
      rw [hs]
      have hi := ih (l.drop (i + 1)) (by simp; omega)
      simp only [Int.toNat_natCast, Nat.add_zero, List.length_singleton]
      rw [hi]

/-- The parts of a line: what is not empty of it, cut at every blank. -/
theorem split_wd (l : List UInt8) : (Lib.splitK [32] 0 (Lib.count l [32]) l).filter (fun p => p ≠ []) = wd [] l := by
  rw [split_sp l.length l (Nat.le_refl _), sp_wd]

/-- Is every byte a sign that is printed? -/
def prt (l : List UInt8) : Bool := l.all fun b => decide (32 ≤ b.toNat ∧ b.toNat ≤ 126)
theorem prt_no (s : ByteArray) (k : Nat) (h : k < s.size) (hb : s[k].toNat < 32 ∨ 126 < s[k].toNat) : prt s.data.toList = false := by
  unfold prt
  rw [List.all_eq_false]
  refine ⟨s[k], ?_, ?_⟩
  · exact List.getElem_mem (l := s.data.toList) (by simpa using h)
  · simp; omega
theorem prt_yes (s : ByteArray) (h : ∀ k (hk : k < s.size), 32 ≤ s[k].toNat ∧ s[k].toNat ≤ 126) : prt s.data.toList = true := by
  unfold prt
  rw [List.all_eq_true]
  intro b hb
  obtain ⟨i, hi, rfl⟩ := List.mem_iff_getElem.1 hb
  have := h i (by simpa using hi)
  exact decide_eq_true this

theorem wd_count (cur r : List UInt8) : (wd cur r).length ≤ r.length + 1 := by
  induction r generalizing cur with
  | nil =>
    by_cases h : cur = []
    · subst h; simp [wd]
    · rw [wd_end cur h]; simp
  | cons b r ih =>
    by_cases hb : b = 32
    · subst hb
      by_cases h : cur = []
      · subst h
        rw [wd_blank0]; have := ih []; simp; omega
      · rw [wd_blank cur h]; have := ih []; simp; omega
    · rw [wd_sign cur b hb]; have := ih (cur ++ [b]); simp; omega
#print axioms split_wd
end Pl
end Go.Proofs.YtnckjnkbpdfjpamDoor
