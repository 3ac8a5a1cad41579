/- Rows cut into parts of n, plainly. -/
import Derived.Test.YteajkkcelajadaaProg
namespace Go.Proofs.Yteajkkcelajadaa
namespace Cu
variable {α : Type}
def cut (n : Nat) : Nat → List α → List (List α)
  | 0, _ => []
  | _ + 1, [] => []
  | f + 1, x :: xs => (x :: xs).take n :: cut n f ((x :: xs).drop n)
theorem cut_fuel (n : Nat) (hn : 0 < n) (f g : Nat) (ts : List α) (hf : ts.length ≤ f) (hg : ts.length ≤ g) : cut n f ts = cut n g ts := by
  induction f generalizing g ts with
  | zero =>
    have h0 : ts = [] := List.eq_nil_of_length_eq_zero (by omega)
    subst h0
    cases g <;> rfl
  | succ f ih =>
    cases ts with
    | nil => cases g <;> rfl
    | cons x xs =>
      cases g with
      | zero => simp at hg
      | succ g =>
        show _ :: _ = _ :: _
        rw [ih g ((x :: xs).drop n) (by simp at hf ⊢; omega) (by simp at hg ⊢; omega)]
/-- The parts of n, the last one what is left. -/
def all (n : Nat) (ts : List α) : List (List α) := cut n ts.length ts
theorem all_nil (n : Nat) : all n ([] : List α) = [] := rfl
theorem all_step (n : Nat) (hn : 0 < n) (ts : List α) (h : 0 < ts.length) : all n ts = ts.take n :: all n (ts.drop n) := by
  cases ts with
  | nil => simp at h
  | cons x xs =>
    show _ :: cut n xs.length ((x :: xs).drop n) = _
    unfold all
    rw [cut_fuel n hn xs.length ((x :: xs).drop n).length _ (by simp; omega) (Nat.le_refl _)]
/-- What is cut off, and what is left. -/
structure At (n : Nat) (ts : List α) (at_ : Nat) (ps : List (List α)) : Prop where
  all : ps ++ Cu.all n (ts.drop at_) = Cu.all n ts
  le : at_ ≤ ts.length
  few : ps.length ≤ at_
  sum : (ps.map List.length).sum = at_
  some : ∀ p ∈ ps, 0 < p.length
theorem At.start (n : Nat) (ts : List α) : At n ts 0 [] := ⟨by simp, by omega, by simp, by simp, by simp⟩
theorem At.next {n : Nat} {ts : List α} {a : Nat} {ps : List (List α)} (h : At n ts a ps) (hn : 0 < n) (ha : a < ts.length) (m : Nat) (hm : m = min n (ts.length - a)) : At n ts (a + m) (ps ++ [(ts.drop a).take m]) := by
  have hl : ((ts.drop a).take m).length = m := by simp; omega
  have e1 : (ts.drop a).take n = (ts.drop a).take m := by
    rw [hm]
    by_cases h1 : n ≤ ts.length - a
    · rw [Nat.min_eq_left h1]
    · rw [Nat.min_eq_right (by omega), List.take_of_length_le (by simp; omega), List.take_of_length_le (by simp)]
  have e2 : (ts.drop a).drop n = ts.drop (a + m) := by
    rw [List.drop_drop]
    by_cases h1 : n ≤ ts.length - a
    · rw [hm, Nat.min_eq_left h1]
    · rw [List.drop_of_length_le (by omega), List.drop_of_length_le (by omega)]
  refine ⟨?_, by omega, ?_, ?_, ?_⟩
  · rw [← h.all, all_step n hn (ts.drop a) (by simp; omega), e1, e2, List.append_assoc]
    rfl
  · rw [List.length_append]; have := h.few; simp; omega
  · rw [List.map_append, List.sum_append, h.sum]; simp [hl]
  · intro p hp
    rcases List.mem_append.1 hp with h1 | h1
    · exact h.some p h1
    · simp at h1; subst h1; omega
theorem At.over {n : Nat} {ts : List α} {a : Nat} {ps : List (List α)} (h : At n ts a ps) (ha : ts.length ≤ a) : ps = Cu.all n ts := by
  have := h.all
  rw [List.drop_of_length_le ha, all_nil, List.append_nil] at this
  exact this
theorem cut_few (n f : Nat) (ts : List α) : (cut n f ts).length ≤ f := by
  induction f generalizing ts with
  | zero => exact Nat.le_refl _
  | succ f ih =>
    cases ts with
    | nil => exact Nat.zero_le _
    | cons x xs =>
      show (cut n f _).length + 1 ≤ f + 1
      exact Nat.succ_le_succ (ih _)
theorem all_few (n : Nat) (ts : List α) : (all n ts).length ≤ ts.length := cut_few n _ ts
theorem all_get (n : Nat) (hn : 0 < n) (k : Nat) : ∀ (ts : List α), ts.length ≤ k → ∀ i, i < (all n ts).length → (all n ts).getD i [] = (ts.drop (i * n)).take n ∧ i * n < ts.length := by
  induction k with
  | zero =>
    intro ts hk i hi
    have := all_few n ts
    omega
  | succ k ih =>
    intro ts hk i hi
    by_cases h0 : 0 < ts.length
    · rw [all_step n hn ts h0] at hi ⊢
      cases i with
      | zero => exact ⟨by simp, by omega⟩
      | succ i =>
        have h := ih (ts.drop n) (by simp; omega) i (by simpa using hi)
        rw [List.drop_drop, List.length_drop] at h
        have e : (i + 1) * n = n + i * n := by rw [Nat.add_mul, Nat.one_mul, Nat.add_comm]
        rw [e]
        exact ⟨h.1, by omega⟩
    · have := all_few n ts
      omega
theorem all_part (n : Nat) (hn : 0 < n) (ts : List α) (i : Nat) (hi : i < (all n ts).length) : 0 < ((all n ts).getD i []).length ∧ ((all n ts).getD i []).length ≤ n ∧ (i + 1 < (all n ts).length → ((all n ts).getD i []).length = n) := by
  obtain ⟨e1, e2⟩ := all_get n hn ts.length ts (Nat.le_refl _) i hi
  rw [e1, List.length_take, List.length_drop]
  refine ⟨by omega, by omega, fun h => ?_⟩
  have h2 := (all_get n hn ts.length ts (Nat.le_refl _) (i + 1) h).2
  have e : (i + 1) * n = i * n + n := by rw [Nat.add_mul, Nat.one_mul]
  omega
theorem all_flat (n : Nat) (hn : 0 < n) (k : Nat) : ∀ (ts : List α), ts.length ≤ k → (all n ts).flatten = ts := by
  induction k with
  | zero =>
    intro ts hk
    have e : ts = [] := List.eq_nil_of_length_eq_zero (by omega)
    subst e
    rfl
  | succ k ih =>
    intro ts hk
    by_cases h0 : 0 < ts.length
    · rw [all_step n hn ts h0, List.flatten_cons, ih (ts.drop n) (by simp; omega), List.take_append_drop]
    · have e : ts = [] := List.eq_nil_of_length_eq_zero (by omega)
      subst e
      rfl
theorem all_one (ts : List α) : (all ts.length ts).length ≤ 1 := by
  by_cases h0 : 0 < ts.length
  · rw [all_step _ h0 ts h0, List.drop_of_length_le (Nat.le_refl _), all_nil]
    exact Nat.le_refl _
  · have := all_few ts.length ts
    omega
end Cu
end Go.Proofs.Yteajkkcelajadaa
