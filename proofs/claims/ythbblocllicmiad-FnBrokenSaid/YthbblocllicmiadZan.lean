/- The specification's reader of a pattern: one thing behind the other. The specification's reader of a pattern: alternatives; and what ReadPattern of the specification answers, at every text. -/
import Derived.Test.YthbblocllicmiadZam
namespace Go.Proofs.Ythbblocllicmiad
section PartRdI
open Go.RowKit

/-- Does the row end here? -/
def stops (s : ByteArray) (a : Nat) : Prop := ∀ h : a < s.size, s[a].toNat = 124 ∨ s[a].toNat = 41
theorem stops_iff (s : ByteArray) (a : Nat) : (s.data.toList[a]? = none ∨ s.data.toList[a]? = some 124 ∨ s.data.toList[a]? = some 41) ↔ stops s a := by
  constructor
  · intro h hlt
    rw [getAt s a hlt] at h
    rcases h with h | h | h
    · cases h
    · left; rw [show s[a] = 124 by simpa using h]; rfl
    · right; rw [show s[a] = 41 by simpa using h]; rfl
  · intro h
    by_cases hlt : a < s.size
    · rw [getAt s a hlt]
      rcases h hlt with h | h
      · right; left; rw [show s[a] = 124 from UInt8.toNat_inj.1 h]
      · right; right; rw [show s[a] = 41 from UInt8.toNat_inj.1 h]
    · left; exact List.getElem?_eq_none (by simp; omega)
theorem rest_end (s : ByteArray) (f a : Nat) (ps : List Pp.Pc) (k : Nat) (h : stops s a) : Pp.rest s.data.toList (f + 1) a ps k = some (a, ps, k) := by
  rw [Pp.rest]
  cases hb : s.data.toList[a]? with
  | none => rfl
  | some b =>
    have hc : b = 124 ∨ b = 41 := by
      have := (stops_iff s a).2 h
      rw [hb] at this
      simpa using this
    simp only [hc, ↓reduceIte]
theorem rest_go (s : ByteArray) (f a : Nat) (ps : List Pp.Pc) (k : Nat) (h : ¬ stops s a) : Pp.rest s.data.toList (f + 1) a ps k = match Pp.many s.data.toList f a ps with
    | none => none
    | some (e, o, j) => (Pp.put o ⟨5, [], [k, j]⟩).bind fun r => Pp.rest s.data.toList f e r.1 r.2 := by
  rw [Pp.rest]
  have h2 : ¬ (s.data.toList[a]? = none ∨ s.data.toList[a]? = some 124 ∨ s.data.toList[a]? = some 41) := fun e => h ((stops_iff s a).1 e)
  cases hb : s.data.toList[a]? with
  | none => rw [hb] at h2; simp at h2
  | some b =>
    rw [hb] at h2
    have hc : ¬ (b = 124 ∨ b = 41) := by simpa using h2
    simp only [hc, ↓reduceIte]
    cases Pp.many s.data.toList f a ps with
    | none => rfl
    | some r =>
      obtain ⟨e, o, j⟩ := r
      show (match Pp.put o ⟨5, [], [k, j]⟩ with | none => none | some (o2, k2) => _) = (Pp.put o ⟨5, [], [k, j]⟩).bind fun r => Pp.rest s.data.toList f e r.1 r.2
      cases Pp.put o ⟨5, [], [k, j]⟩ <;> rfl

end PartRdI
section PartRdJ
open Go.RowKit

theorem alts_end (l : List UInt8) (f a : Nat) (ps : List Pp.Pc) (k : Nat) (h : ¬ l[a]? = some 124) : Pp.alts l (f + 1) a ps k = some (a, ps, k) := by
  rw [Pp.alts, if_neg h]
theorem alts_go (l : List UInt8) (f a : Nat) (ps : List Pp.Pc) (k : Nat) (h : l[a]? = some 124) : Pp.alts l (f + 1) a ps k = match Pp.row l f (a + 1) ps with
    | none => none
    | some (e, o, j) => (Pp.put o ⟨6, [], [k, j]⟩).bind fun r => Pp.alts l f e r.1 r.2 := by
  rw [Pp.alts, if_pos h]
  cases Pp.row l f (a + 1) ps with
  | none => rfl
  | some r =>
    obtain ⟨e, o, j⟩ := r
    show (match Pp.put o ⟨6, [], [k, j]⟩ with | none => none | some (o2, k2) => _) = (Pp.put o ⟨6, [], [k, j]⟩).bind fun r => Pp.alts l f e r.1 r.2
    cases Pp.put o ⟨6, [], [k, j]⟩ <;> rfl

end PartRdJ
end Go.Proofs.Ythbblocllicmiad
