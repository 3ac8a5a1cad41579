/- The specification's reader of a pattern: a thing with its signs behind it. Plain facts: how far the reader of a pattern goes, and how many pieces it tells. -/
import Derived.Test.YtmofljfffcnlbaaMPSxRdG
import Derived.Test.YtmofljfffcnlbaaMPSxZad
namespace Go.Proofs.Ytmofljfffcnlbaa
section PartRdH
open Go.RowKit

end PartRdH
section PartPPb
namespace Pp

theorem put_len {out o : List Pc} {x : Pc} {k : Nat} (h : put out x = some (o, k)) : o.length = out.length + 1 := by
  unfold put at h
  split at h
  · cases h
  · simp at h
    rw [← h.1]
    simp
theorem putm {out o : List Pc} {x : Pc} {k a e : Nat} (h : (put out x).map (fun (o, k) => (a, o, k)) = some (e, o, k)) : e = a ∧ o.length = out.length + 1 := by
  cases hp : put out x with
  | none => rw [hp] at h; simp at h
  | some r =>
    rw [hp] at h
    simp at h
    obtain ⟨h1, h2, h3⟩ := h
    exact ⟨h1.symm, by rw [← h2]; exact put_len (k := r.2) hp⟩
theorem close_le (l : List UInt8) (a : Nat) : a ≤ close l a ∧ close l a ≤ a + l.length := by
  induction l generalizing a with
  | nil => simp [close]
  | cons b r ih =>
    rw [close]
    split
    · simp
    · have := ih (a + 1)
      simp
      omega
theorem set_len {l : List UInt8} {a e k : Nat} {out o : List Pc} (h : set l a out = some (e, o, k)) : a + 2 ≤ e ∧ e ≤ l.length ∧ o.length = out.length + 1 := by
  have key : ∀ b x, a ≤ b → (if close (l.drop b) b = l.length ∨ close (l.drop b) b = b then none else (put out x).map fun (o, k) => (close (l.drop b) b + 1, o, k)) = some (e, o, k) → a + 2 ≤ e ∧ e ≤ l.length ∧ o.length = out.length + 1 := by
    intro b x hb h
    split at h
    · cases h
    · rename_i hn
      obtain ⟨h1, h2⟩ := putm h
      have := close_le (l.drop b) b
      simp at this
      refine ⟨by omega, ?_, h2⟩
      by_cases hbl : b ≤ l.length
      · omega
      · have : close (l.drop b) b = b := by rw [List.drop_of_length_le (by omega)]; rfl
        omega
  unfold set at h
  by_cases hneg : (l[a]? == some 94) = true
  · simp only [hneg, ↓reduceIte] at h
    exact key (a + 1) _ (by omega) h
  · have hneg : (l[a]? == some 94) = false := by simpa using hneg
    simp only [hneg, Bool.false_eq_true, ↓reduceIte] at h
    exact key a _ (Nat.le_refl _) h

/-- What each part reads, and how many pieces it makes of it. -/
structure Bd (l : List UInt8) (f : Nat) : Prop where
  thing : ∀ a out e o k, thing l f a out = some (e, o, k) → a < e ∧ e ≤ l.length ∧ o.length + 1 ≤ out.length + 2 * (e - a)
  more : ∀ a out j e o k, a ≤ l.length → more l f a out j = some (e, o, k) → a ≤ e ∧ e ≤ l.length ∧ o.length ≤ out.length + (e - a)
  many : ∀ a out e o k, many l f a out = some (e, o, k) → a < e ∧ e ≤ l.length ∧ o.length + 1 ≤ out.length + 2 * (e - a)
  rest : ∀ a out j e o k, a ≤ l.length → rest l f a out j = some (e, o, k) → a ≤ e ∧ e ≤ l.length ∧ o.length ≤ out.length + 2 * (e - a)
  row : ∀ a out e o k, a ≤ l.length → row l f a out = some (e, o, k) → a ≤ e ∧ e ≤ l.length ∧ o.length ≤ out.length + 2 * (e - a) + 1
  alts : ∀ a out j e o k, a ≤ l.length → alts l f a out j = some (e, o, k) → a ≤ e ∧ e ≤ l.length ∧ o.length ≤ out.length + 2 * (e - a)
  alt : ∀ a out e o k, a ≤ l.length → alt l f a out = some (e, o, k) → a ≤ e ∧ e ≤ l.length ∧ o.length ≤ out.length + 2 * (e - a) + 1

theorem lt_of_get {l : List UInt8} {a : Nat} {b : UInt8} (h : l[a]? = some b) : a < l.length := (List.getElem?_eq_some_iff.1 h).1

theorem bd (l : List UInt8) (f : Nat) : Bd l f := by
  induction f with
  | zero =>
    refine ⟨?_, ?_, ?_, ?_, ?_, ?_, ?_⟩
    · intro a out e o k h; rw [thing] at h; cases h
    · intro a out j e o k _ h; rw [more] at h; cases h
    · intro a out e o k h; rw [many] at h; cases h
    · intro a out j e o k _ h; rw [rest] at h; cases h
    · intro a out e o k _ h; rw [row] at h; cases h
    · intro a out j e o k _ h; rw [alts] at h; cases h
    · intro a out e o k _ h; rw [alt] at h; cases h
  | succ f ih =>
    refine ⟨?_, ?_, ?_, ?_, ?_, ?_, ?_⟩
    · intro a out e o k h
      rw [thing] at h
      split at h
      · cases h
      · rename_i b hb
        have hlt := lt_of_get hb
        split at h
        · have := putm h; omega
        split at h
        · have := putm h; omega
        split at h
        · have := putm h; omega
        split at h
        · have := set_len h; omega
        split at h
        · split at h
          · cases h
          · rename_i e1 o1 k1 h1
            have hi := ih.alt (a + 1) out e1 o1 k1 (by omega) h1
            split at h
            · rename_i h41
              have := lt_of_get h41
              simp at h
              obtain ⟨rfl, rfl, rfl⟩ := h
              omega
            · cases h
        split at h
        · split at h
          · cases h
          · rename_i c hc
            have := lt_of_get hc
            split at h
            · have := putm h; omega
            · cases h
        split at h
        · cases h
        · have := putm h; omega
    · intro a out j e o k ha h
      rw [more] at h
      split at h
      · simp at h
        obtain ⟨rfl, rfl, rfl⟩ := h
        omega
      · rename_i b hb
        have hlt := lt_of_get hb
        split at h
        · split at h
          · cases h
          · rename_i o1 j1 h1
            have hl := put_len h1
            have hi := ih.more (a + 1) o1 j1 e o k (by omega) h
            omega
        · simp at h
          obtain ⟨rfl, rfl, rfl⟩ := h
          omega
    · intro a out e o k h
      rw [many] at h
      split at h
      · cases h
      · rename_i e1 o1 k1 h1
        have hi := ih.thing a out e1 o1 k1 h1
        have hj := ih.more e1 o1 k1 e o k hi.2.1 h
        omega
    · intro a out j e o k ha h
      rw [rest] at h
      split at h
      · simp at h
        obtain ⟨rfl, rfl, rfl⟩ := h
        omega
      · rename_i b hb
        split at h
        · simp at h
          obtain ⟨rfl, rfl, rfl⟩ := h
          omega
        · split at h
          · cases h
          · rename_i e1 o1 j1 h1
            have hi := ih.many a out e1 o1 j1 h1
            split at h
            · cases h
            · rename_i o2 k2 h2
              have hl := put_len h2
              have hj := ih.rest e1 o2 k2 e o k hi.2.1 h
              omega
    · intro a out e o k ha h
      rw [row] at h
      split at h
      · have := putm h; omega
      · split at h
        · cases h
        · rename_i e1 o1 k1 h1
          have hi := ih.many a out e1 o1 k1 h1
          have hj := ih.rest e1 o1 k1 e o k hi.2.1 h
          omega
    · intro a out j e o k ha h
      rw [alts] at h
      split at h
      · rename_i h124
        have hlt := lt_of_get h124
        split at h
        · cases h
        · rename_i e1 o1 j1 h1
          have hi := ih.row (a + 1) out e1 o1 j1 (by omega) h1
          split at h
          · cases h
          · rename_i o2 k2 h2
            have hl := put_len h2
            have hj := ih.alts e1 o2 k2 e o k hi.2.1 h
            omega
      · simp at h
        obtain ⟨rfl, rfl, rfl⟩ := h
        omega
    · intro a out e o k ha h
      rw [alt] at h
      split at h
      · cases h
      · rename_i e1 o1 k1 h1
        have hi := ih.row a out e1 o1 k1 ha h1
        have hj := ih.alts e1 o1 k1 e o k hi.2.1 h
        omega
/-- Each part keeps the pieces that were there, and makes one at least. -/
structure Gr (l : List UInt8) (f : Nat) : Prop where
  thing : ∀ a out e o k, thing l f a out = some (e, o, k) → out.length < o.length
  more : ∀ a out j e o k, more l f a out j = some (e, o, k) → out.length ≤ o.length
  many : ∀ a out e o k, many l f a out = some (e, o, k) → out.length < o.length
  rest : ∀ a out j e o k, rest l f a out j = some (e, o, k) → out.length ≤ o.length
  row : ∀ a out e o k, row l f a out = some (e, o, k) → out.length < o.length
  alts : ∀ a out j e o k, alts l f a out j = some (e, o, k) → out.length ≤ o.length
  alt : ∀ a out e o k, alt l f a out = some (e, o, k) → out.length < o.length

theorem gr (l : List UInt8) (f : Nat) : Gr l f := by
  induction f with
  | zero =>
    refine ⟨?_, ?_, ?_, ?_, ?_, ?_, ?_⟩
    · intro a out e o k h; rw [thing] at h; cases h
    · intro a out j e o k h; rw [more] at h; cases h
    · intro a out e o k h; rw [many] at h; cases h
    · intro a out j e o k h; rw [rest] at h; cases h
    · intro a out e o k h; rw [row] at h; cases h
    · intro a out j e o k h; rw [alts] at h; cases h
    · intro a out e o k h; rw [alt] at h; cases h
  | succ f ih =>
    refine ⟨?_, ?_, ?_, ?_, ?_, ?_, ?_⟩
    · intro a out e o k h
      rw [thing] at h
      split at h
      · cases h
      · split at h
        · have := putm h; omega
        split at h
        · have := putm h; omega
        split at h
        · have := putm h; omega
        split at h
        · have := set_len h; omega
        split at h
        · split at h
          · cases h
          · rename_i e1 o1 k1 h1
            have hi := ih.alt (a + 1) out e1 o1 k1 h1
            split at h
            · simp at h
              obtain ⟨rfl, rfl, rfl⟩ := h
              omega
            · cases h
        split at h
        · split at h
          · cases h
          · split at h
            · have := putm h; omega
            · cases h
        split at h
        · cases h
        · have := putm h; omega
    · intro a out j e o k h
      rw [more] at h
      split at h
      · simp at h
        obtain ⟨rfl, rfl, rfl⟩ := h
        omega
      · split at h
        · split at h
          · cases h
          · rename_i o1 j1 h1
            have hl := put_len h1
            have hi := ih.more (a + 1) o1 j1 e o k h
            omega
        · simp at h
          obtain ⟨rfl, rfl, rfl⟩ := h
          omega
    · intro a out e o k h
      rw [many] at h
      split at h
      · cases h
      · rename_i e1 o1 k1 h1
        have hi := ih.thing a out e1 o1 k1 h1
        have hj := ih.more e1 o1 k1 e o k h
        omega
    · intro a out j e o k h
      rw [rest] at h
      split at h
      · simp at h
        obtain ⟨rfl, rfl, rfl⟩ := h
        omega
      · split at h
        · simp at h
          obtain ⟨rfl, rfl, rfl⟩ := h
          omega
        · split at h
          · cases h
          · rename_i e1 o1 j1 h1
            have hi := ih.many a out e1 o1 j1 h1
            split at h
            · cases h
            · rename_i o2 k2 h2
              have hl := put_len h2
              have hj := ih.rest e1 o2 k2 e o k h
              omega
    · intro a out e o k h
      rw [row] at h
      split at h
      · have := putm h; omega
      · split at h
        · cases h
        · rename_i e1 o1 k1 h1
          have hi := ih.many a out e1 o1 k1 h1
          have hj := ih.rest e1 o1 k1 e o k h
          omega
    · intro a out j e o k h
      rw [alts] at h
      split at h
      · split at h
        · cases h
        · rename_i e1 o1 j1 h1
          have hi := ih.row (a + 1) out e1 o1 j1 h1
          split at h
          · cases h
          · rename_i o2 k2 h2
            have hl := put_len h2
            have hj := ih.alts e1 o2 k2 e o k h
            omega
      · simp at h
        obtain ⟨rfl, rfl, rfl⟩ := h
        omega
    · intro a out e o k h
      rw [alt] at h
      split at h
      · cases h
      · rename_i e1 o1 k1 h1
        have hi := ih.row a out e1 o1 k1 h1
        have hj := ih.alts e1 o1 k1 e o k h
        omega
end Pp
end PartPPb
end Go.Proofs.Ytmofljfffcnlbaa
