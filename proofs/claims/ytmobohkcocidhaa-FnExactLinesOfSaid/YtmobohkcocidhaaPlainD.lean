/- Plain facts, without the program: what each figure of a text is worth, which is its place among the figures. -/
import Derived.Test.YtmobohkcocidhaaPlainC
namespace Go.Proofs.Ytmobohkcocidhaa
namespace Pl

/-- The place of b among the figures f. -/
def fnd (f : List UInt8) (b : UInt8) : Option Nat := f.findIdx? (· == b)
theorem fnd_hit (f : ByteArray) (b : UInt8) (m : Nat) (hm : m < f.size) (hb : b = f[m]) (h : ∀ i (hi : i < f.size), i < m → b ≠ f[i]) : fnd f.data.toList b = some m := by
  unfold fnd
  rw [List.findIdx?_eq_some_iff_getElem]
  refine ⟨by simpa using hm, ?_, ?_⟩
  · subst hb; simp; rfl
  · intro j hj
    have := h j (by omega) hj
    simp only [beq_iff_eq]
    intro e; apply this; rw [← e]; rfl
theorem fnd_miss (f : ByteArray) (b : UInt8) (h : ∀ i (hi : i < f.size), b ≠ f[i]) : fnd f.data.toList b = none := by
  unfold fnd
  rw [List.findIdx?_eq_none_iff]
  intro x hx
  obtain ⟨i, hi, rfl⟩ := List.mem_iff_getElem.1 hx
  have := h i (by simpa using hi)
  simp only [beq_eq_false_iff_ne, ne_eq]
  intro e; apply this; rw [← e]; rfl
theorem fnd_lt (f : List UInt8) (b : UInt8) (m : Nat) (h : fnd f b = some m) : m < f.length := by
  unfold fnd at h
  rw [List.findIdx?_eq_some_iff_getElem] at h
  exact h.1

/-- What the figures of a text are worth, behind those of acc. -/
def vals (f : List UInt8) : List UInt8 → List UInt8 → Option (List UInt8)
  | acc, [] => some acc
  | acc, b :: r => match fnd f b with
    | some m => vals f (acc ++ [UInt8.ofNat m]) r
    | none => none
theorem vals_hit (f acc r : List UInt8) (b : UInt8) (m : Nat) (h : fnd f b = some m) : vals f acc (b :: r) = vals f (acc ++ [UInt8.ofNat m]) r := by rw [vals, h]
theorem vals_miss (f acc r : List UInt8) (b : UInt8) (h : fnd f b = none) : vals f acc (b :: r) = none := by rw [vals, h]
theorem drop_at (s : ByteArray) (k : Nat) (h : k < s.size) : s.data.toList.drop k = s[k] :: s.data.toList.drop (k + 1) := by
  rw [List.drop_eq_getElem_cons (by simpa using h)]; rfl
theorem drop_out (s : ByteArray) (k : Nat) (h : s.size ≤ k) : s.data.toList.drop k = [] := List.drop_of_length_le (by simpa using h)
#print axioms fnd_miss
end Pl
end Go.Proofs.Ytmobohkcocidhaa
