/- Plain facts: no piece that is read has more than two kids, nor a text longer than what was read. -/
import Derived.Test.YtibmagmdeacenaoPPb
namespace Go.Proofs.Ytibmagmdeacenao
namespace Pp

def Good (l : List UInt8) (ps : List Pc) : Prop := ∀ p ∈ ps, p.kids.length ≤ 2 ∧ p.text.length ≤ l.length + 1
theorem put_good {l : List UInt8} {out o : List Pc} {x : Pc} {k : Nat} (hg : Good l out) (hx : x.kids.length ≤ 2 ∧ x.text.length ≤ l.length + 1) (h : put out x = some (o, k)) : Good l o := by
  unfold put at h
  split at h
  · cases h
  · simp at h
    rw [← h.1]
    intro p hp
    rcases List.mem_append.1 hp with hp | hp
    · exact hg p hp
    · rw [List.mem_singleton.1 hp]
      exact hx
theorem putm_good {l : List UInt8} {out o : List Pc} {x : Pc} {k a e : Nat} (hg : Good l out) (hx : x.kids.length ≤ 2 ∧ x.text.length ≤ l.length + 1) (h : (put out x).map (fun (o, k) => (a, o, k)) = some (e, o, k)) : Good l o := by
  cases hp : put out x with
  | none => rw [hp] at h; simp at h
  | some r =>
    rw [hp] at h
    simp at h
    obtain ⟨_, h2, _⟩ := h
    rw [← h2]
    exact put_good (k := r.2) hg hx hp
theorem set_good {l : List UInt8} {a e k : Nat} {out o : List Pc} (hg : Good l out) (h : set l a out = some (e, o, k)) : Good l o := by
  have key : ∀ b op, (if close (l.drop b) b = l.length ∨ close (l.drop b) b = b then none else (put out ⟨op, (l.drop b).take (close (l.drop b) b - b), []⟩).map fun (o, k) => (close (l.drop b) b + 1, o, k)) = some (e, o, k) → Good l o := by
    intro b op h
    split at h
    · cases h
    · exact putm_good hg ⟨by simp, by simp; omega⟩ h
  unfold set at h
  by_cases hneg : (l[a]? == some 94) = true
  · simp only [hneg, ↓reduceIte] at h
    exact key (a + 1) 4 h
  · have hneg : (l[a]? == some 94) = false := by simpa using hneg
    simp only [hneg, Bool.false_eq_true, ↓reduceIte] at h
    exact key a 3 h

structure Gd (l : List UInt8) (f : Nat) : Prop where
  thing : ∀ a out e o k, Good l out → thing l f a out = some (e, o, k) → Good l o
  more : ∀ a out j e o k, Good l out → more l f a out j = some (e, o, k) → Good l o
  many : ∀ a out e o k, Good l out → many l f a out = some (e, o, k) → Good l o
  rest : ∀ a out j e o k, Good l out → rest l f a out j = some (e, o, k) → Good l o
  row : ∀ a out e o k, Good l out → row l f a out = some (e, o, k) → Good l o
  alts : ∀ a out j e o k, Good l out → alts l f a out j = some (e, o, k) → Good l o
  alt : ∀ a out e o k, Good l out → alt l f a out = some (e, o, k) → Good l o

theorem gd (l : List UInt8) (f : Nat) : Gd l f := by
  induction f with
  | zero =>
    refine ⟨?_, ?_, ?_, ?_, ?_, ?_, ?_⟩
    · intro a out e o k _ h; rw [thing] at h; cases h
    · intro a out j e o k _ h; rw [more] at h; cases h
    · intro a out e o k _ h; rw [many] at h; cases h
    · intro a out j e o k _ h; rw [rest] at h; cases h
    · intro a out e o k _ h; rw [row] at h; cases h
    · intro a out j e o k _ h; rw [alts] at h; cases h
    · intro a out e o k _ h; rw [alt] at h; cases h
  | succ f ih =>
    refine ⟨?_, ?_, ?_, ?_, ?_, ?_, ?_⟩
    · intro a out e o k hg h
      rw [thing] at h
      split at h
      · cases h
      · split at h
        · exact putm_good hg ⟨by simp, by simp⟩ h
        split at h
        · exact putm_good hg ⟨by simp, by simp⟩ h
        split at h
        · exact putm_good hg ⟨by simp, by simp⟩ h
        split at h
        · exact set_good hg h
        split at h
        · split at h
          · cases h
          · rename_i e1 o1 k1 h1
            have hi := ih.alt (a + 1) out e1 o1 k1 hg h1
            split at h
            · simp at h
              obtain ⟨rfl, rfl, rfl⟩ := h
              exact hi
            · cases h
        split at h
        · split at h
          · cases h
          · split at h
            · exact putm_good hg ⟨by simp, by simp⟩ h
            · cases h
        split at h
        · cases h
        · exact putm_good hg ⟨by simp, by simp⟩ h
    · intro a out j e o k hg h
      rw [more] at h
      split at h
      · simp at h
        obtain ⟨rfl, rfl, rfl⟩ := h
        exact hg
      · split at h
        · split at h
          · cases h
          · rename_i o1 j1 h1
            exact ih.more (a + 1) o1 j1 e o k (put_good hg ⟨by simp, by simp⟩ h1) h
        · simp at h
          obtain ⟨rfl, rfl, rfl⟩ := h
          exact hg
    · intro a out e o k hg h
      rw [many] at h
      split at h
      · cases h
      · rename_i e1 o1 k1 h1
        exact ih.more e1 o1 k1 e o k (ih.thing a out e1 o1 k1 hg h1) h
    · intro a out j e o k hg h
      rw [rest] at h
      split at h
      · simp at h
        obtain ⟨rfl, rfl, rfl⟩ := h
        exact hg
      · split at h
        · simp at h
          obtain ⟨rfl, rfl, rfl⟩ := h
          exact hg
        · split at h
          · cases h
          · rename_i e1 o1 j1 h1
            split at h
            · cases h
            · rename_i o2 k2 h2
              exact ih.rest e1 o2 k2 e o k (put_good (ih.many a out e1 o1 j1 hg h1) ⟨by simp, by simp⟩ h2) h
    · intro a out e o k hg h
      rw [row] at h
      split at h
      · exact putm_good hg ⟨by simp, by simp⟩ h
      · split at h
        · cases h
        · rename_i e1 o1 k1 h1
          exact ih.rest e1 o1 k1 e o k (ih.many a out e1 o1 k1 hg h1) h
    · intro a out j e o k hg h
      rw [alts] at h
      split at h
      · split at h
        · cases h
        · rename_i e1 o1 j1 h1
          split at h
          · cases h
          · rename_i o2 k2 h2
            exact ih.alts e1 o2 k2 e o k (put_good (ih.row (a + 1) out e1 o1 j1 hg h1) ⟨by simp, by simp⟩ h2) h
      · simp at h
        obtain ⟨rfl, rfl, rfl⟩ := h
        exact hg
    · intro a out e o k hg h
      rw [alt] at h
      split at h
      · cases h
      · rename_i e1 o1 k1 h1
        exact ih.alts e1 o1 k1 e o k (ih.row a out e1 o1 k1 hg h1) h

theorem read_good (l : List UInt8) (ps : List Pc) (h : read l = some ps) : Good l ps ∧ l.length ≤ 24 := by
  unfold read at h
  split at h
  · rename_i hl
    split at h
    · cases h
    · rename_i e o k h1
      split at h
      · cases h
      · simp at h
        rw [← h]
        exact ⟨(gd l 200).alt 0 [] e o k (fun p hp => by cases hp) h1, hl.2⟩
  · cases h
end Pp
end Go.Proofs.Ytibmagmdeacenao
