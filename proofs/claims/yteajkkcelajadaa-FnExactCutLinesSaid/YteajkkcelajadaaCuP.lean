/- Rows cut into parts of n, plainly. -/
import Derived.Test.YteajkkcelajadaaProg
namespace Go.Proofs.Yteajkkcelajadaa
namespace Cu
variable {α : Type}
def cut (n : Nat) : Nat → List α → List (List α)
  | 0, _ => []
  | _ + 1, [] => []
  | f + 1, x :: xs => (x :: xs).take n :: cut n f ((x :: xs).drop n)
theorem cut_fuel (n : Nat) (hn : 0 < n) (f g : Nat) (ts : List α) (hf : ts.length ≤ f) (hg : ts.length ≤ g) : cut n f ts = cut n g ts := by
  induction f generalizing g ts with
  | zero =>
    have h0 : ts = [] := List.eq_nil_of_length_eq_zero (by omega)
    subst h0
    cases g <;> rfl
  | succ f ih =>
    cases ts with
    | nil => cases g <;> rfl
    | cons x xs =>
      cases g with
      | zero => simp at hg
      | succ g =>
        show _ :: _ = _ :: _
        rw [ih g ((x :: xs).drop n) (by simp at hf ⊢; omega) (by simp at hg ⊢; omega)]
/-- The parts of n, the last one what is left. -/
def all (n : Nat) (ts : List α) : List (List α) := cut n ts.length ts
theorem all_nil (n : Nat) : all n ([] : List α) = [] := rfl
theorem all_step (n : Nat) (hn : 0 < n) (ts : List α) (h : 0 < ts.length) : all n ts = ts.take n :: all n (ts.drop n) := by
  cases ts with
  | nil => simp at h
  | cons x xs =>
    show _ :: cut n xs.length ((x :: xs).drop n) = _
    unfold all
    rw [cut_fuel n hn xs.length ((x :: xs).drop n).length _ (by simp; omega) (Nat.le_refl _)]
/-- What is cut off, and what is left. -/
structure At (n : Nat) (ts : List α) (at_ : Nat) (ps : List (List α)) : Prop where
  all : ps ++ Cu.all n (ts.drop at_) = Cu.all n ts
  le : at_ ≤ ts.length
  few : ps.length ≤ at_
  sum : (ps.map List.length).sum = at_
  some : ∀ p ∈ ps, 0 < p.length
theorem At.start (n : Nat) (ts : List α) : At n ts 0 [] := ⟨by simp, by omega, by simp, by simp, by simp⟩
theorem At.next {n : Nat} {ts : List α} {a : Nat} {ps : List (List α)} (h : At n ts a ps) (hn : 0 < n) (ha : a < ts.length) (m : Nat) (hm : m = min n (ts.length - a)) : At n ts (a + m) (ps ++ [(ts.drop a).take m]) := by
  have hl : ((ts.drop a).take m).length = m := by simp; omega
  have e1 : (ts.drop a).take n = (ts.drop a).take m := by
    rw [hm]
    by_cases h1 : n ≤ ts.length - a
    · rw [Nat.min_eq_left h1]
    · rw [Nat.min_eq_right (by omega), List.take_of_length_le (by simp; omega), List.take_of_length_le (by simp)]
  have e2 : (ts.drop a).drop n = ts.drop (a + m) := by
    rw [List.drop_drop]
    by_cases h1 : n ≤ ts.length - a
    · rw [hm, Nat.min_eq_left h1]
    · rw [List.drop_of_length_le (by omega), List.drop_of_length_le (by omega)]
  refine ⟨?_, by omega, ?_, ?_, ?_⟩
  · rw [← h.all, all_step n hn (ts.drop a) (by simp; omega), e1, e2, List.append_assoc]
    rfl
  · rw [List.length_append]; have := h.few; simp; omega
  · rw [List.map_append, List.sum_append, h.sum]; simp [hl]
  · intro p hp
    rcases List.mem_append.1 hp with h1 | h1
    · exact h.some p h1
    · simp at h1; subst h1; omega
theorem At.over {n : Nat} {ts : List α} {a : Nat} {ps : List (List α)} (h : At n ts a ps) (ha : ts.length ≤ a) : ps = Cu.all n ts := by
  have := h.all
  rw [List.drop_of_length_le ha, all_nil, List.append_nil] at this
  exact this
theorem cut_few (n f : Nat) (ts : List α) : (cut n f ts).length ≤ f := by
  induction f generalizing ts with
  | zero => exact Nat.le_refl _
  | succ f ih =>
    cases ts with
    | nil => exact Nat.zero_le _
    | cons x xs =>
      show (cut n f _).length + 1 ≤ f + 1
      exact Nat.succ_le_succ (ih _)
theorem cut_sum (n f : Nat) (ts : List α) : ((cut n f ts).map List.length).sum ≤ ts.length := by
  induction f generalizing ts with
  | zero => exact Nat.zero_le _
  | succ f ih =>
    cases ts with
    | nil => exact Nat.zero_le _
    | cons x xs =>
      have h := ih ((x :: xs).drop n)
      have e : ((cut n (f + 1) (x :: xs)).map List.length).sum = ((x :: xs).take n).length + ((cut n f ((x :: xs).drop n)).map List.length).sum := rfl
      rw [e]
      rw [List.length_drop] at h
      rw [List.length_take]
      omega
theorem all_few (n : Nat) (ts : List α) : (all n ts).length ≤ ts.length := cut_few n _ ts
theorem all_sum (n : Nat) (ts : List α) : ((all n ts).map List.length).sum ≤ ts.length := cut_sum n _ ts
end Cu
end Go.Proofs.Yteajkkcelajadaa
