/- Plain facts: tokens told from what is left of a text. -/
import Derived.Test.YtknojhmnadmilaaGreatDoorZaq
namespace Go.Proofs.YtknojhmnadmilaaGreatDoor
namespace Tk

def blank (b : UInt8) : Bool := b == 32 || b == 9
theorem run_drop (p : UInt8 → Bool) (l : List UInt8) (a b : Nat) : run p l (a + b) = a + run p (l.drop a) b := by
  unfold run
  rw [List.drop_drop]
  omega
theorem run_drop0 (p : UInt8 → Bool) (l : List UInt8) (a : Nat) : run p l a = a + run p (l.drop a) 0 := run_drop p l a 0
theorem cut_drop (l : List UInt8) (a b c : Nat) : cut l (a + b) (a + c) = cut (l.drop a) b c := by
  unfold cut
  rw [List.drop_drop]
  congr 1
  omega
theorem cut_drop0 (l : List UInt8) (a c : Nat) : cut l a (a + c) = cut (l.drop a) 0 c := cut_drop l a 0 c
theorem getD_drop (l : List UInt8) (a : Nat) : (l.drop a).getD 0 0 = l.getD a 0 := by simp [List.getD]
theorem get_drop (l : List UInt8) (a i : Nat) : (l.drop a)[i]? = l[a + i]? := by simp
theorem textEnd_drop (l : List UInt8) (a : Nat) (m : UInt8) (most : Nat) : textEnd l a m most = if textEnd (l.drop a) 0 m most = 0 then 0 else a + textEnd (l.drop a) 0 m most := by
  unfold textEnd
  rw [run_drop (fun b => b != m && b != 10) l a 1, get_drop, Nat.zero_add]
  have h1 := run_ge (fun b => b != m && b != 10) (l.drop a) 1
  generalize run (fun b => b != m && b != 10) (l.drop a) 1 = R at *
  have e : a + R - a - 1 = R - 0 - 1 := by omega
  rw [e]
  split
  · rw [if_neg (by omega)]
  · rfl
theorem one_drop (l : List UInt8) (a : Nat) (last : Tok) : one l a last = (one (l.drop a) 0 last).map fun x => (x.1, a + x.2) := by
  have ha : ∀ R, a + R - a = R - 0 := fun R => by omega
  have et : ∀ (m : UInt8) (most : Nat), textEnd l a m most = 0 ↔ textEnd (l.drop a) 0 m most = 0 := by
    intro m most
    rw [textEnd_drop]
    by_cases h : textEnd (l.drop a) 0 m most = 0
    · rw [if_pos h]; simp [h]
    · rw [if_neg h]; simp [h]
  unfold one
  rw [getD_drop, run_drop0 letter l a, run_drop0 figure l a, ha, ha, get_drop]
  by_cases c1 : l.getD a 0 = 10 ∨ l.getD a 0 = 59
  · rw [if_pos c1, if_pos c1]; rfl
  rw [if_neg c1, if_neg c1]
  by_cases c2 : letter (l.getD a 0) = true
  · rw [if_pos c2, if_pos c2]
    by_cases c : 8 < run letter (l.drop a) 0 - 0
    · rw [if_pos c, if_pos c]; rfl
    · rw [if_neg c, if_neg c, cut_drop0]; rfl
  rw [if_neg c2, if_neg c2]
  by_cases c3 : figure (l.getD a 0) = true
  · rw [if_pos c3, if_pos c3]
    by_cases c : 6 < run figure (l.drop a) 0 - 0
    · rw [if_pos c, if_pos c]; rfl
    · rw [if_neg c, if_neg c, cut_drop0]; rfl
  rw [if_neg c3, if_neg c3]
  by_cases c4 : l.getD a 0 = 34
  · rw [if_pos c4, if_pos c4]
    by_cases c : textEnd (l.drop a) 0 34 30 = 0
    · rw [if_pos c, if_pos ((et _ _).2 c)]; rfl
    · rw [if_neg c, if_neg (fun e => c ((et _ _).1 e)), textEnd_drop, if_neg c, cut_drop l a 1]; simp [Nat.add_assoc]
  rw [if_neg c4, if_neg c4]
  by_cases c5 : l.getD a 0 = 47
  · rw [if_pos c5, if_pos c5]
    by_cases c : textEnd (l.drop a) 0 47 24 = 0 ∨ last.kind ≠ 5 ∨ last.text ≠ [126]
    · rw [if_pos c, if_pos (c.imp_left (et _ _).2)]; rfl
    · rw [if_neg c, if_neg (fun e => c (e.imp_left (et _ _).1)), textEnd_drop, if_neg (fun e => c (.inl e)), cut_drop l a 1, Nat.zero_add]
      by_cases c6 : (Pp.read (cut (l.drop a) 1 (textEnd (l.drop a) 0 47 24))).isSome = true
      · rw [if_pos c6, if_pos c6]; simp [Nat.add_assoc]
      · rw [if_neg c6, if_neg c6]; rfl
  rw [if_neg c5, if_neg c5, Nat.zero_add]
  by_cases c7 : l[a + 1]? = some 61 ∧ (l.getD a 0 = 43 ∨ l.getD a 0 = 61)
  · rw [if_pos c7, if_pos c7, cut_drop0]; rfl
  rw [if_neg c7, if_neg c7]
  by_cases c8 : l.getD a 0 ∈ signs
  · rw [if_pos c8, if_pos c8, cut_drop0]; rfl
  · rw [if_neg c8, if_neg c8]; rfl
theorem run_at (p : UInt8 → Bool) (l : List UInt8) : ∀ n i, l.length - i ≤ n → ∀ h : run p l i < l.length, p (l[run p l i]'h) = false := by
  intro n
  induction n with
  | zero =>
    intro i hn h
    have := run_ge p l i
    omega
  | succ n ih =>
    intro i hn h
    have hi : i < l.length := by have := run_ge p l i; omega
    cases hp : p l[i] with
    | true =>
      have e := run_step hi hp
      simp only [e]
      exact ih (i + 1) (by omega) (by omega)
    | false =>
      have e := run_stop hi hp
      simp only [e]
      exact hp
/-- The place behind blanks, tabs and a remark. -/
def gap (l : List UInt8) (k : Nat) : Nat := if l[run blank l k]? = some 35 then run (fun b => b != 10) l (run blank l k) else run blank l k
theorem gap_drop (l : List UInt8) (k : Nat) : gap l k = k + gap (l.drop k) 0 := by
  unfold gap
  rw [run_drop0 blank l k, get_drop]
  split
  · rw [run_drop]
  · rfl
theorem gap_ge (l : List UInt8) (k : Nat) : k ≤ gap l k := by
  unfold gap
  have := run_ge blank l k
  split
  · have := run_ge (fun b => b != 10) l (run blank l k); omega
  · omega
theorem gap_le (l : List UInt8) (k : Nat) (h : k ≤ l.length) : gap l k ≤ l.length := by
  unfold gap
  have := run_le blank h
  split
  · exact run_le _ this
  · exact this
theorem gap_at (l : List UInt8) (k : Nat) (h : gap l k < l.length) : ¬ (l.getD (gap l k) 0 = 32 ∨ l.getD (gap l k) 0 = 9) ∧ l.getD (gap l k) 0 ≠ 35 := by
  have hg : l.getD (gap l k) 0 = l[gap l k] := by simp [h]
  rw [hg]
  unfold gap at h
  by_cases c : l[run blank l k]? = some 35
  · have e : gap l k = run (fun b => b != 10) l (run blank l k) := by unfold gap; rw [if_pos c]
    rw [if_pos c] at h
    have := run_at (fun b => b != 10) l _ _ (Nat.le_refl _) h
    simp only [e]
    simp at this
    rw [this]
    decide
  · have e : gap l k = run blank l k := by unfold gap; rw [if_neg c]
    rw [if_neg c] at h
    have := run_at blank l _ _ (Nat.le_refl _) h
    simp only [e]
    simp [blank] at this
    rw [List.getElem?_eq_getElem h] at c
    simp at c
    exact ⟨fun h => h.elim this.1 this.2, c⟩
theorem loop_gap (l : List UInt8) : ∀ f k last out, k ≤ l.length → l.length < k + f → ∃ f', l.length < gap l k + f' ∧ loop l f k last out = loop l f' (gap l k) last out := by
  intro f
  induction f with
  | zero => intro k last out h1 h2; omega
  | succ f ih =>
    intro k last out h1 h2
    by_cases hk : k < l.length
    · have hg : l.getD k 0 = l[k] := by simp [hk]
      by_cases hb : l.getD k 0 = 32 ∨ l.getD k 0 = 9
      · have hbl : blank l[k] = true := by rw [← hg]; unfold blank; rcases hb with h | h <;> rw [h] <;> decide
        have e : gap l k = gap l (k + 1) := by unfold gap; rw [run_step hk hbl]
        rw [e, loop_blank hk hb]
        exact ih (k + 1) last out (by omega) (by omega)
      · have hbl : blank l[k] = false := by rw [← hg]; unfold blank; simp at hb ⊢; simpa using hb
        have er := run_stop hk hbl
        by_cases hh : l.getD k 0 = 35
        · have e : gap l k = run (fun b => b != 10) l k := by
            unfold gap
            rw [er, if_pos (by rw [List.getElem?_eq_getElem hk, ← hg, hh])]
          rw [e, loop_hash hk hb hh]
          refine ⟨f, ?_, rfl⟩
          rw [run_step hk (by rw [← hg, hh]; decide)]
          have := run_ge (fun b => b != 10) l (k + 1)
          omega
        · have e : gap l k = k := by
            unfold gap
            rw [er, if_neg (by rw [List.getElem?_eq_getElem hk, ← hg]; simpa using hh)]
          rw [e]
          exact ⟨f + 1, h2, rfl⟩
    · have e : gap l k = k := by
        unfold gap
        rw [run_end blank (by omega), if_neg (by rw [List.getElem?_eq_none (by omega)]; simp)]
      rw [e]
      exact ⟨f + 1, h2, rfl⟩
end Tk
#print axioms Tk.loop_gap
#print axioms Tk.one_drop
end Go.Proofs.YtknojhmnadmilaaGreatDoor
