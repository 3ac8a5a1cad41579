/- Where a piece may end, by the specification: again and again. -/
import Derived.Test.YtlnmbahakdmkgaaSpC
namespace Go.Proofs.Ytlnmbahakdmkgaa
open Go.RowKit
namespace En

/-- The worklist of 'again', as it stands. -/
structure Wl (ps : List Pi) (s : ByteArray) (k i : Nat) (ws : List Nat) (fo fs : Nat → Bool) : Prop where
  first : fs i = true
  seen : ∀ v, v < s.size + 1 → fs v = true → Reach ps s k i v
  out : ∀ j, j < s.size + 1 → fo j = true → ∃ v, Reach ps s k i v ∧ Ends ps s k v j
  done : ∀ v, v < s.size + 1 → fs v = true → v ∈ ws ∨ ∀ j, Ends ps s k v j → fo j = true ∧ fs j = true
  todo : ∀ v, v ∈ ws → v < s.size + 1 ∧ fs v = true
/-- .. with v taken off it, and its ends below j gone through. -/
structure Wj (ps : List Pi) (s : ByteArray) (k i v j : Nat) (ws : List Nat) (fo fs : Nat → Bool) : Prop where
  first : fs i = true
  seen : ∀ v, v < s.size + 1 → fs v = true → Reach ps s k i v
  out : ∀ j, j < s.size + 1 → fo j = true → ∃ v, Reach ps s k i v ∧ Ends ps s k v j
  done : ∀ u, u < s.size + 1 → fs u = true → u ∈ ws ∨ u = v ∨ ∀ j, Ends ps s k u j → fo j = true ∧ fs j = true
  todo : ∀ v, v ∈ ws → v < s.size + 1 ∧ fs v = true
  part : ∀ t, t < j → Ends ps s k v t → fo t = true ∧ fs t = true
  here : v < s.size + 1 ∧ fs v = true

theorem Wl.start (ps : List Pi) (s : ByteArray) (k i : Nat) (hi : i < s.size + 1) : Wl ps s k i [i] (fun _ => false) (fun j => if j = i then true else false) := by
  refine ⟨by simp, fun v _ h => ?_, fun j _ h => (by cases h), fun v _ h => ?_, fun v h => ?_⟩
  · by_cases hv : v = i
    · subst hv; exact .here
    · simp [hv] at h
  · by_cases hv : v = i
    · subst hv; exact .inl (by simp)
    · simp [hv] at h
  · rw [List.mem_singleton.1 h]; exact ⟨hi, by simp⟩
theorem Wl.pop {ps : List Pi} {s : ByteArray} {k i v : Nat} {ws : List Nat} {fo fs : Nat → Bool} (h : Wl ps s k i (ws ++ [v]) fo fs) : Wj ps s k i v 0 ws fo fs := by
  refine ⟨h.first, h.seen, h.out, fun u hu hf => ?_, fun u hu => h.todo u (List.mem_append_left _ hu), fun t ht => by omega, h.todo v (by simp)⟩
  rcases h.done u hu hf with hm | hd
  · rcases List.mem_append.1 hm with hm | hm
    · exact .inl hm
    · exact .inr (.inl (List.mem_singleton.1 hm))
  · exact .inr (.inr hd)
theorem Wj.over {ps : List Pi} {s : ByteArray} {k i v : Nat} {ws : List Nat} {fo fs : Nat → Bool} (h : Wj ps s k i v (s.size + 1) ws fo fs) : Wl ps s k i ws fo fs := by
  refine ⟨h.first, h.seen, h.out, fun u hu hf => ?_, h.todo⟩
  rcases h.done u hu hf with hm | rfl | hd
  · exact .inl hm
  · exact .inr fun j hj => h.part j (by have := hj.le; omega) hj
  · exact .inr hd
theorem Wj.skip {ps : List Pi} {s : ByteArray} {k i v j : Nat} {ws : List Nat} {fo fs : Nat → Bool} (h : Wj ps s k i v j ws fo fs) (hn : ¬ Ends ps s k v j) : Wj ps s k i v (j + 1) ws fo fs :=
  ⟨h.first, h.seen, h.out, h.done, h.todo, fun t ht he => by
    by_cases htj : t = j
    · subst htj; exact absurd he hn
    · exact h.part t (by omega) he, h.here⟩
theorem Wj.old {ps : List Pi} {s : ByteArray} {k i v j : Nat} {ws : List Nat} {fo fs : Nat → Bool} (h : Wj ps s k i v j ws fo fs) (he : Ends ps s k v j) (hs : fs j = true) : Wj ps s k i v (j + 1) ws (fun t => if t = j then true else fo t) fs := by
  have up : ∀ t, fo t = true → (if t = j then true else fo t) = true := fun t ht => by by_cases e : t = j <;> simp [e, ht]
  refine ⟨h.first, h.seen, fun t ht hf => ?_, fun u hu hf => ?_, h.todo, fun t ht hte => ?_, h.here⟩
  · by_cases htj : t = j
    · subst htj; exact ⟨v, h.seen v h.here.1 h.here.2, he⟩
    · exact h.out t ht (by simpa [htj] using hf)
  · rcases h.done u hu hf with hm | hm | hd
    · exact .inl hm
    · exact .inr (.inl hm)
    · exact .inr (.inr fun t ht => ⟨up t (hd t ht).1, (hd t ht).2⟩)
  · by_cases htj : t = j
    · subst htj; exact ⟨by simp, hs⟩
    · exact ⟨up t (h.part t (by omega) hte).1, (h.part t (by omega) hte).2⟩
theorem Wj.new {ps : List Pi} {s : ByteArray} {k i v j : Nat} {ws : List Nat} {fo fs : Nat → Bool} (h : Wj ps s k i v j ws fo fs) (hj : j < s.size + 1) (he : Ends ps s k v j) : Wj ps s k i v (j + 1) (ws ++ [j]) (fun t => if t = j then true else fo t) (fun t => if t = j then true else fs t) := by
  have up : ∀ t, fo t = true → (if t = j then true else fo t) = true := fun t ht => by by_cases e : t = j <;> simp [e, ht]
  have us : ∀ t, fs t = true → (if t = j then true else fs t) = true := fun t ht => by by_cases e : t = j <;> simp [e, ht]
  refine ⟨us i h.first, fun t ht hf => ?_, fun t ht hf => ?_, fun u hu hf => ?_, fun u hu => ?_, fun t ht hte => ?_, ⟨h.here.1, us v h.here.2⟩⟩
  · by_cases htj : t = j
    · subst htj; exact .step (h.seen v h.here.1 h.here.2) he
    · exact h.seen t ht (by simpa [htj] using hf)
  · by_cases htj : t = j
    · subst htj; exact ⟨v, h.seen v h.here.1 h.here.2, he⟩
    · exact h.out t ht (by simpa [htj] using hf)
  · by_cases huj : u = j
    · subst huj; exact .inl (by simp)
    · rcases h.done u hu (by simpa [huj] using hf) with hm | hm | hd
      · exact .inl (List.mem_append_left _ hm)
      · exact .inr (.inl hm)
      · exact .inr (.inr fun t ht => ⟨up t (hd t ht).1, us t (hd t ht).2⟩)
  · rcases List.mem_append.1 hu with hm | hm
    · exact ⟨(h.todo u hm).1, us u (h.todo u hm).2⟩
    · rw [List.mem_singleton.1 hm]; exact ⟨hj, by simp⟩
  · by_cases htj : t = j
    · subst htj; exact ⟨by simp, by simp⟩
    · exact ⟨up t (h.part t (by omega) hte).1, us t (h.part t (by omega) hte).2⟩
theorem Wl.fin {ps : List Pi} {s : ByteArray} {k i : Nat} {fo fs : Nat → Bool} (h : Wl ps s k i [] fo fs) (hi : i < s.size + 1) (j : Nat) (hj : j < s.size + 1) : fo j = true ↔ ∃ v, Reach ps s k i v ∧ Ends ps s k v j := by
  refine ⟨h.out j hj, fun ⟨v, hr, he⟩ => ?_⟩
  have key : ∀ v, Reach ps s k i v → v < s.size + 1 ∧ fs v = true := by
    intro v hr
    induction hr with
    | here => exact ⟨hi, h.first⟩
    | step _ h2 ih =>
      rcases h.done _ ih.1 ih.2 with hm | hd
      · cases hm
      · exact ⟨by have := h2.le; omega, (hd _ h2).2⟩
  obtain ⟨h1, h2⟩ := key v hr
  rcases h.done v h1 h2 with hm | hd
  · cases hm
  · exact (hd j he).1
end En

/-- How many are not seen yet, as the world holds it. -/
def unseen (q n : Nat) (w : World) : Nat := ((List.range n).filter fun j => match w.cell? ⟨q, j, none⟩ with
  | some (.bool true) => false
  | _ => true).length
def lenOf : Value → Nat
  | .slice _ n _ => n
  | _ => 0
theorem unseen_eq {w : World} {q n : Nat} {f : Nat → Bool} (h : BBlk w q n f) : unseen q n w = ((List.range n).filter fun j => !f j).length := by
  unfold unseen
  congr 1
  apply List.filter_congr
  intro j hj
  rw [(h.cell j (List.mem_range.1 hj)).1]
  cases f j <;> rfl
theorem unseen_set {n j : Nat} {f : Nat → Bool} (hj : j < n) (hf : f j = false) : ((List.range n).filter fun t => !(if t = j then true else f t)).length + 1 = ((List.range n).filter fun t => !f t).length := by
  have key : ∀ l : List Nat, l.Nodup → j ∈ l → (l.filter fun t => !(if t = j then true else f t)).length + 1 = (l.filter fun t => !f t).length := by
    intro l
    induction l with
    | nil => intro _ h; cases h
    | cons a r ih =>
      intro hnd hm
      have hnd2 := List.nodup_cons.1 hnd
      by_cases ha : a = j
      · subst ha
        have e : (r.filter fun t => !(if t = a then true else f t)) = r.filter fun t => !f t := by
          apply List.filter_congr
          intro t ht
          have : t ≠ a := fun e => hnd2.1 (e ▸ ht)
          simp [this]
        have e1 : ((a :: r).filter fun t => !(if t = a then true else f t)) = r.filter fun t => !f t := by
          rw [List.filter_cons, e]
          simp
        have e2 : ((a :: r).filter fun t => !f t) = a :: r.filter fun t => !f t := by
          rw [List.filter_cons, hf]
          simp
        rw [e1, e2]
        simp
      · have hm2 : j ∈ r := by
          rcases List.mem_cons.1 hm with e | e
          · exact absurd e.symm ha
          · exact e
        have := ih hnd2.2 hm2
        simp only [List.filter_cons, ha, ↓reduceIte]
        split
        · simp only [List.length_cons]; omega
        · exact this
  exact key _ List.nodup_range (List.mem_range.2 hj)
#print axioms unseen_set
end Go.Proofs.Ytlnmbahakdmkgaa
