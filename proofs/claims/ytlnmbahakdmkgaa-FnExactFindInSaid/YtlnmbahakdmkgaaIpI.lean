/- Where a piece may end, by the program: again and again: what is kept meanwhile. -/
import Derived.Test.YtlnmbahakdmkgaaIpH
namespace Go.Proofs.Ytlnmbahakdmkgaa
open Go.RowKit Go.Maps
namespace En
/-- What is found from the places of S0 on, while the ends of v are gone through; those of 'done' are. -/
structure Wv (ps : List Pi) (s : ByteArray) (k : Nat) (S0 S : Nat → Prop) (ws : List Nat) (v : Nat) (done : Nat → Prop) : Prop where
  beg : ∀ j, S0 j → S j
  todo : ∀ x, x ∈ ws → S x
  back : ∀ e, S e → ∃ j, S0 j ∧ Reach ps s k j e
  fwd : ∀ x, S x → x ∉ ws → x ≠ v → ∀ e, Ends ps s k x e → S e
  vd : ∀ e, done e → Ends ps s k v e → S e
  sv : S v
structure Wo (ps : List Pi) (s : ByteArray) (k : Nat) (S0 S : Nat → Prop) (ws : List Nat) : Prop where
  beg : ∀ j, S0 j → S j
  todo : ∀ x, x ∈ ws → S x
  back : ∀ e, S e → ∃ j, S0 j ∧ Reach ps s k j e
  fwd : ∀ x, S x → x ∉ ws → ∀ e, Ends ps s k x e → S e
section
variable {ps : List Pi} {s : ByteArray} {k : Nat} {S0 S : Nat → Prop} {ws : List Nat} {v : Nat} {done : Nat → Prop}
theorem Wo.pop (h : Wo ps s k S0 S (ws ++ [v])) : Wv ps s k S0 S ws v (fun _ => False) :=
  ⟨h.beg, fun x hx => h.todo x (by simp [hx]), h.back, fun x h1 h2 h3 => h.fwd x h1 (by simp [h2, h3]), fun _ h => h.elim, h.todo v (by simp)⟩
theorem Wv.old (h : Wv ps s k S0 S ws v done) (e : Nat) (he : S e) : Wv ps s k S0 S ws v (fun x => done x ∨ x = e) :=
  ⟨h.beg, h.todo, h.back, h.fwd, fun x hx hx2 => by
    rcases hx with hx | rfl
    · exact h.vd x hx hx2
    · exact he, h.sv⟩
theorem Wv.new (h : Wv ps s k S0 S ws v done) (e : Nat) (he : Ends ps s k v e) : Wv ps s k S0 (fun x => S x ∨ x = e) (ws ++ [e]) v (fun x => done x ∨ x = e) := by
  refine ⟨fun j hj => .inl (h.beg j hj), fun x hx => ?_, fun x hx => ?_, fun x hx h2 h3 e' he' => ?_, fun x hx hx2 => ?_, .inl h.sv⟩
  · rw [List.mem_append, List.mem_singleton] at hx
    rcases hx with hx | hx
    · exact .inl (h.todo x hx)
    · exact .inr hx
  · rcases hx with hx | rfl
    · exact h.back x hx
    · obtain ⟨j, h1, h2⟩ := h.back v h.sv
      exact ⟨j, h1, .step h2 he⟩
  · rw [List.mem_append, List.mem_singleton] at h2
    rcases hx with hx | rfl
    · exact .inl (h.fwd x hx (fun hh => h2 (.inl hh)) h3 e' he')
    · exact absurd (.inr rfl) h2
  · rcases hx with hx | rfl
    · exact .inl (h.vd x hx hx2)
    · exact .inr rfl
theorem Wv.fin (h : Wv ps s k S0 S ws v done) (hd : ∀ e, Ends ps s k v e → done e) : Wo ps s k S0 S ws :=
  ⟨h.beg, h.todo, h.back, fun x h1 h2 e he => by
    by_cases hx : x = v
    · subst hx; exact h.vd e (hd e he) he
    · exact h.fwd x h1 h2 hx e he⟩
theorem Wo.fin (h : Wo ps s k S0 S []) (e : Nat) : S e ↔ ∃ j, S0 j ∧ Reach ps s k j e := by
  refine ⟨h.back e, ?_⟩
  rintro ⟨j, h1, h2⟩
  induction h2 with
  | here => exact h.beg _ h1
  | step _ h3 ih => exact h.fwd _ ih (by simp) _ h3
end
end En
open Classical in
/-- How many places are not found yet. -/
noncomputable def Unf (n : Nat) (S : Nat → Prop) : Nat := Uns n (fun j => decide (S j))
theorem Unf.add {n e : Nat} {S : Nat → Prop} (he : e < n) (hn : ¬ S e) : Unf n (fun x => S x ∨ x = e) + 1 = Unf n S := by
  have h := unseen_set (f := fun j => @decide (S j) (Classical.propDecidable _)) he (by simpa using hn)
  have e1 : Unf n (fun x => S x ∨ x = e) = ((List.range n).filter fun t => !(if t = e then true else @decide (S t) (Classical.propDecidable _))).length := by
    unfold Unf Uns
    refine congrArg List.length (List.filter_congr fun j _ => ?_)
    by_cases hj : j = e
    · simp [hj]
    · simp [hj]
  rw [e1]
  exact h
/-- How many places block b's set holds. -/
def setSize (w : World) (b : Nat) : Nat := match w.heap[b]? with | some (.map es _) => es.size | _ => 0
theorem filter_both (p : Nat → Bool) (l : List Nat) : (l.filter p).length + (l.filter fun x => !p x).length = l.length := by
  induction l with
  | nil => rfl
  | cons x r ih =>
    by_cases h : p x = true
    · simp [h]; omega
    · simp [h]; omega
theorem Unf.size {w : World} {b n : Nat} {S : Nat → Prop} (h : ES w b S) (hn : ∀ k, S k → k < n) : n - setSize w b = Unf n S := by
  obtain ⟨D, h1, h2⟩ := h
  have h3 := (ES.keys h1 h2 n hn).length_eq
  rw [keys_len h1.isMap, List.length_map] at h3
  have h4 : setSize w b = Maps.size D := by
    obtain ⟨es, clock, hb, _, _, hD⟩ := h1
    unfold setSize
    rw [hb, hD]
    simp [Maps.size, length_sorted]
  have h5 := filter_both (fun k => @decide (S k) (Classical.propDecidable _)) (List.range n)
  rw [List.length_range] at h5
  rw [h4, ← h3]
  show n - _ = ((List.range n).filter fun j => !@decide (S j) (Classical.propDecidable _)).length
  omega
#print axioms Unf.size
#print axioms Unf.add
end Go.Proofs.Ytlnmbahakdmkgaa
