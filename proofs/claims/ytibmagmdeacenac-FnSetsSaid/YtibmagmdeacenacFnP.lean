/- Plain facts: a pattern within another one. -/
import Derived.Test.YtibmagmdeacenacEnC
import Derived.Test.YtibmagmdeacenacPPat
namespace Go.Proofs.Ytibmagmdeacenac
namespace En

theorem Reach.map {ps qs : List Pi} {s : ByteArray} {a b : Nat} (h : ∀ i j, Ends ps s a i j → Ends qs s b i j) {i j : Nat} (r : Reach ps s a i j) : Reach qs s b i j := by
  induction r with
  | here => exact .here
  | step _ h2 ih => exact .step ih (h _ _ h2)
theorem one_same {p q : Pi} (ho : p.op = q.op) (ht : p.text = q.text) (s : ByteArray) (i j : Nat) : EndsOne p s i j ↔ EndsOne q s i j := by
  have e : ∀ b, En.takes p b = En.takes q b := fun b => by unfold En.takes; rw [ho, ht]
  unfold EndsOne
  simp only [ho, e]
/-- The pieces qs lie in ps from place d on. -/
theorem emb {ps qs : List Pi} {d : Nat} (he : ∀ k, k < qs.length → (ps.getD (k + d) Pi.no).op = (qs.getD k Pi.no).op ∧ (ps.getD (k + d) Pi.no).text = (qs.getD k Pi.no).text ∧ ∀ x, x < (qs.getD k Pi.no).kids.length → kid (ps.getD (k + d) Pi.no) x = kid (qs.getD k Pi.no) x + d)
    (hw : ∀ k, k < qs.length → Pk.piece k (qs.getD k Pi.no) = true) (s : ByteArray) : ∀ k, k < qs.length → ∀ i j, Ends ps s (k + d) i j ↔ Ends qs s k i j := by
  intro k
  induction k using Nat.strongRecOn with
  | _ k ih =>
    intro hk i j
    obtain ⟨h1, h2, h3⟩ := he k hk
    obtain ⟨k1, k2, -⟩ := Pk.piece_kids (hw k hk)
    have kd : ∀ x, x < (qs.getD k Pi.no).kids.length → kid (ps.getD (k + d) Pi.no) x = kid (qs.getD k Pi.no) x + d ∧ ∀ i j, Ends ps s (kid (qs.getD k Pi.no) x + d) i j ↔ Ends qs s (kid (qs.getD k Pi.no) x) i j := by
      intro x hx
      obtain ⟨a, _, e2, e3⟩ := k2 x hx
      refine ⟨h3 x hx, ?_⟩
      rw [e3]
      exact ih a e2 (by omega)
    unfold Pk.kw at k1
    by_cases o5 : (qs.getD k Pi.no).op = 5
    · rw [if_pos (.inl o5)] at k1
      obtain ⟨a1, a2⟩ := kd 0 (by omega)
      obtain ⟨b1, b2⟩ := kd 1 (by omega)
      rw [cat2 (h1.trans o5), cat2 o5, a1, b1]
      simp only [a2, b2]
    by_cases o6 : (qs.getD k Pi.no).op = 6
    · rw [if_pos (.inr o6)] at k1
      obtain ⟨a1, a2⟩ := kd 0 (by omega)
      obtain ⟨b1, b2⟩ := kd 1 (by omega)
      rw [alt2 (h1.trans o6), alt2 o6, a1, b1]
      simp only [a2, b2]
    by_cases o7 : (qs.getD k Pi.no).op = 7
    · rw [if_neg (by omega), if_pos (.inl o7)] at k1
      obtain ⟨a1, a2⟩ := kd 0 (by omega)
      rw [star_iff (h1.trans o7), star_iff o7, a1]
      exact ⟨Reach.map fun i j => (a2 i j).1, Reach.map fun i j => (a2 i j).2⟩
    by_cases o8 : (qs.getD k Pi.no).op = 8
    · rw [if_neg (by omega), if_pos (.inr (.inl o8))] at k1
      obtain ⟨a1, a2⟩ := kd 0 (by omega)
      rw [plus_iff (h1.trans o8), plus_iff o8, a1]
      constructor
      · rintro ⟨u, h, r⟩; exact ⟨u, (a2 _ _).1 h, r.map fun i j => (a2 i j).1⟩
      · rintro ⟨u, h, r⟩; exact ⟨u, (a2 _ _).2 h, r.map fun i j => (a2 i j).2⟩
    by_cases o9 : (qs.getD k Pi.no).op = 9
    · rw [if_neg (by omega), if_pos (.inr (.inr o9))] at k1
      obtain ⟨a1, a2⟩ := kd 0 (by omega)
      rw [opt2 (h1.trans o9), opt2 o9, a1]
      simp only [a2]
    rw [ends_one ps s (k + d) i j (by rw [h1]; omega), ends_one qs s k i j (by omega)]
    exact one_same h1 h2 s i j
end En
/-- A piece as the program keeps it. -/
def tp (p : Pp.Pc) : Pi := ⟨(p.op : Int), ⟨p.text.toArray⟩, p.kids.map Int.ofNat⟩
namespace Pp
def nul : Pc := ⟨0, [], []⟩
def shift (d : Nat) (p : Pc) : Pc := ⟨p.op, p.text, p.kids.map (· + d)⟩
/-- Do the pieces qs lie in ps from place d on? -/
def within (qs ps : List Pc) (d : Nat) : Bool := (List.range qs.length).all fun k => decide (ps[k + d]? = (qs[k]?).map (shift d))
/-- Are all of them right? -/
def right (ps : List Pc) : Bool := (List.range ps.length).all fun k => Pk.piece k (tp (ps.getD k nul))
end Pp
theorem tp_get (ps : List Pp.Pc) (k : Nat) (h : k < ps.length) : (ps.map tp).getD k Pi.no = tp (ps.getD k Pp.nul) := by simp [h]
theorem within_ends {qs ps : List Pp.Pc} {d : Nat} (h : Pp.within qs ps d = true) (hr : Pp.right qs = true) (s : ByteArray) (k : Nat) (hk : k < qs.length) (i j : Nat) : En.Ends (ps.map tp) s (k + d) i j ↔ En.Ends (qs.map tp) s k i j := by
  have hw : ∀ k, k < (qs.map tp).length → Pk.piece k ((qs.map tp).getD k Pi.no) = true := by
    intro k hk
    rw [List.length_map] at hk
    rw [tp_get qs k hk]
    unfold Pp.right at hr
    rw [List.all_eq_true] at hr
    exact hr k (List.mem_range.2 hk)
  refine En.emb (fun k hk => ?_) hw s k (by simpa using hk) i j
  rw [List.length_map] at hk
  unfold Pp.within at h
  rw [List.all_eq_true] at h
  have h1 := h k (List.mem_range.2 hk)
  simp only [decide_eq_true_eq] at h1
  rw [List.getElem?_eq_getElem hk] at h1
  have h2 : k + d < ps.length := by
    rcases Nat.lt_or_ge (k + d) ps.length with h | h
    · exact h
    · rw [List.getElem?_eq_none h] at h1; cases h1
  rw [List.getElem?_eq_getElem h2] at h1
  have h3 : ps[k + d] = Pp.shift d qs[k] := by simpa using h1
  rw [tp_get ps _ h2, tp_get qs _ hk]
  have e1 : ps.getD (k + d) Pp.nul = ps[k + d] := by simp [h2]
  have e2 : qs.getD k Pp.nul = qs[k] := by simp [hk]
  rw [e1, e2, h3]
  refine ⟨rfl, rfl, fun x hx => ?_⟩
  have hx2 : x < qs[k].kids.length := by simpa [tp] using hx
  simp [En.kid, tp, Pp.shift, hx2]
  omega
/-- Where a read pattern may end. -/
def Em (ps : List Pp.Pc) (s : ByteArray) (i j : Nat) : Prop := En.Ends (ps.map tp) s (ps.length - 1) i j
#print axioms within_ends
end Go.Proofs.Ytibmagmdeacenac
