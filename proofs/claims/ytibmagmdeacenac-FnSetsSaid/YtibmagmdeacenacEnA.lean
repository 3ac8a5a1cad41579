/- Where a piece may end, by the specification: what is known, and again and again. -/
import Derived.Test.YtibmagmdeacenacSpB
import Derived.Test.YtibmagmdeacenacFrm
import Derived.Maps.AppendAt
namespace Go.Proofs.Ytibmagmdeacenac
section PartSpC
open Go.RowKit

/-- What the specification keeps: of each piece and place, whether it is known, and where it may end. It lies in the blocks from M0 up to M1; what came in lies below. -/
structure Mm where
  M0 : Nat
  M1 : Nat
  m : Nat
  K : Nat
  pv : Value
  cd : Nat
  ce : Nat
  s : ByteArray
  ps : List Pi
  d : Nat
  e : Nat
  D : Nat → Nat
  E : Nat → Nat
  wI : World

/-- How the blocks lie; what came in. -/
structure Lie (c : Mm) : Prop where
  hm : c.M0 ≤ c.m ∧ c.m < c.M1
  hd : c.M0 ≤ c.d ∧ c.d < c.M1
  he : c.M0 ≤ c.e ∧ c.e < c.M1
  hD : ∀ k, k < c.K → c.M0 ≤ c.D k ∧ c.D k < c.M1 ∧ c.D k ≠ c.m ∧ c.D k ≠ c.d ∧ c.D k ≠ c.e
  hE : ∀ k, k < c.K → c.M0 ≤ c.E k ∧ c.E k < c.M1 ∧ c.E k ≠ c.m ∧ c.E k ≠ c.d ∧ c.E k ≠ c.e
  hDD : ∀ k j, k < c.K → j < c.K → k ≠ j → c.D k ≠ c.D j
  hEE : ∀ k j, k < c.K → j < c.K → k ≠ j → c.E k ≠ c.E j
  hDE : ∀ k j, k < c.K → j < c.K → c.D k ≠ c.E j
  hI : c.M0 = c.wI.heap.size
  hp : PcsAt c.wI c.pv c.ps
  hK : c.K = c.ps.length
  hs : c.s.size ≤ 1048576

end PartSpC
section PartSpD
open Go.RowKit
namespace En

/-- The worklist of 'again', as it stands. -/
structure Wl (ps : List Pi) (s : ByteArray) (k i : Nat) (ws : List Nat) (fo fs : Nat → Bool) : Prop where
  first : fs i = true
  seen : ∀ v, v < s.size + 1 → fs v = true → Reach ps s k i v
  out : ∀ j, j < s.size + 1 → fo j = true → ∃ v, Reach ps s k i v ∧ Ends ps s k v j
  done : ∀ v, v < s.size + 1 → fs v = true → v ∈ ws ∨ ∀ j, Ends ps s k v j → fo j = true ∧ fs j = true
  todo : ∀ v, v ∈ ws → v < s.size + 1 ∧ fs v = true
/-- .. with v taken off it, and its ends below j gone through. -/
structure Wj (ps : List Pi) (s : ByteArray) (k i v j : Nat) (ws : List Nat) (fo fs : Nat → Bool) : Prop where
  first : fs i = true
  seen : ∀ v, v < s.size + 1 → fs v = true → Reach ps s k i v
  out : ∀ j, j < s.size + 1 → fo j = true → ∃ v, Reach ps s k i v ∧ Ends ps s k v j
  done : ∀ u, u < s.size + 1 → fs u = true → u ∈ ws ∨ u = v ∨ ∀ j, Ends ps s k u j → fo j = true ∧ fs j = true
  todo : ∀ v, v ∈ ws → v < s.size + 1 ∧ fs v = true
  part : ∀ t, t < j → Ends ps s k v t → fo t = true ∧ fs t = true
  here : v < s.size + 1 ∧ fs v = true

theorem Wl.start (ps : List Pi) (s : ByteArray) (k i : Nat) (hi : i < s.size + 1) : Wl ps s k i [i] (fun _ => false) (fun j => if j = i then true else false) := by
  refine ⟨by simp, fun v _ h => ?_, fun j _ h => (by cases h), fun v _ h => ?_, fun v h => ?_⟩
  · by_cases hv : v = i
    · subst hv; exact .here
    · simp [hv] at h
  · by_cases hv : v = i
    · subst hv; exact .inl (by simp)
    · simp [hv] at h
  · rw [List.mem_singleton.1 h]; exact ⟨hi, by simp⟩
theorem Wl.pop {ps : List Pi} {s : ByteArray} {k i v : Nat} {ws : List Nat} {fo fs : Nat → Bool} (h : Wl ps s k i (ws ++ [v]) fo fs) : Wj ps s k i v 0 ws fo fs := by
  refine ⟨h.first, h.seen, h.out, fun u hu hf => ?_, fun u hu => h.todo u (List.mem_append_left _ hu), fun t ht => by omega, h.todo v (by simp)⟩
  rcases h.done u hu hf with hm | hd
  · rcases List.mem_append.1 hm with hm | hm
    · exact .inl hm
    · exact .inr (.inl (List.mem_singleton.1 hm))
  · exact .inr (.inr hd)
theorem Wj.over {ps : List Pi} {s : ByteArray} {k i v : Nat} {ws : List Nat} {fo fs : Nat → Bool} (h : Wj ps s k i v (s.size + 1) ws fo fs) : Wl ps s k i ws fo fs := by
  refine ⟨h.first, h.seen, h.out, fun u hu hf => ?_, h.todo⟩
  rcases h.done u hu hf with hm | rfl | hd
  · exact .inl hm
  · exact .inr fun j hj => h.part j (by have := hj.le; omega) hj
  · exact .inr hd
theorem Wj.skip {ps : List Pi} {s : ByteArray} {k i v j : Nat} {ws : List Nat} {fo fs : Nat → Bool} (h : Wj ps s k i v j ws fo fs) (hn : ¬ Ends ps s k v j) : Wj ps s k i v (j + 1) ws fo fs :=
  ⟨h.first, h.seen, h.out, h.done, h.todo, fun t ht he => by
    by_cases htj : t = j
    · subst htj; exact absurd he hn
    · exact h.part t (by omega) he, h.here⟩
theorem Wj.old {ps : List Pi} {s : ByteArray} {k i v j : Nat} {ws : List Nat} {fo fs : Nat → Bool} (h : Wj ps s k i v j ws fo fs) (he : Ends ps s k v j) (hs : fs j = true) : Wj ps s k i v (j + 1) ws (fun t => if t = j then true else fo t) fs := by
  have up : ∀ t, fo t = true → (if t = j then true else fo t) = true := fun t ht => by by_cases e : t = j <;> simp [e, ht]
  refine ⟨h.first, h.seen, fun t ht hf => ?_, fun u hu hf => ?_, h.todo, fun t ht hte => ?_, h.here⟩
  · by_cases htj : t = j
    · subst htj; exact ⟨v, h.seen v h.here.1 h.here.2, he⟩
    · exact h.out t ht (by simpa [htj] using hf)
  · rcases h.done u hu hf with hm | hm | hd
    · exact .inl hm
    · exact .inr (.inl hm)
    · exact .inr (.inr fun t ht => ⟨up t (hd t ht).1, (hd t ht).2⟩)
  · by_cases htj : t = j
    · subst htj; exact ⟨by simp, hs⟩
    · exact ⟨up t (h.part t (by omega) hte).1, (h.part t (by omega) hte).2⟩
theorem Wj.new {ps : List Pi} {s : ByteArray} {k i v j : Nat} {ws : List Nat} {fo fs : Nat → Bool} (h : Wj ps s k i v j ws fo fs) (hj : j < s.size + 1) (he : Ends ps s k v j) : Wj ps s k i v (j + 1) (ws ++ [j]) (fun t => if t = j then true else fo t) (fun t => if t = j then true else fs t) := by
  have up : ∀ t, fo t = true → (if t = j then true else fo t) = true := fun t ht => by by_cases e : t = j <;> simp [e, ht]
  have us : ∀ t, fs t = true → (if t = j then true else fs t) = true := fun t ht => by by_cases e : t = j <;> simp [e, ht]
  refine ⟨us i h.first, fun t ht hf => ?_, fun t ht hf => ?_, fun u hu hf => ?_, fun u hu => ?_, fun t ht hte => ?_, ⟨h.here.1, us v h.here.2⟩⟩
  · by_cases htj : t = j
    · subst htj; exact .step (h.seen v h.here.1 h.here.2) he
    · exact h.seen t ht (by simpa [htj] using hf)
  · by_cases htj : t = j
    · subst htj; exact ⟨v, h.seen v h.here.1 h.here.2, he⟩
    · exact h.out t ht (by simpa [htj] using hf)
  · by_cases huj : u = j
    · subst huj; exact .inl (by simp)
    · rcases h.done u hu (by simpa [huj] using hf) with hm | hm | hd
      · exact .inl (List.mem_append_left _ hm)
      · exact .inr (.inl hm)
      · exact .inr (.inr fun t ht => ⟨up t (hd t ht).1, us t (hd t ht).2⟩)
  · rcases List.mem_append.1 hu with hm | hm
    · exact ⟨(h.todo u hm).1, us u (h.todo u hm).2⟩
    · rw [List.mem_singleton.1 hm]; exact ⟨hj, by simp⟩
  · by_cases htj : t = j
    · subst htj; exact ⟨by simp, by simp⟩
    · exact ⟨up t (h.part t (by omega) hte).1, us t (h.part t (by omega) hte).2⟩
theorem Wl.fin {ps : List Pi} {s : ByteArray} {k i : Nat} {fo fs : Nat → Bool} (h : Wl ps s k i [] fo fs) (hi : i < s.size + 1) (j : Nat) (hj : j < s.size + 1) : fo j = true ↔ ∃ v, Reach ps s k i v ∧ Ends ps s k v j := by
  refine ⟨h.out j hj, fun ⟨v, hr, he⟩ => ?_⟩
  have key : ∀ v, Reach ps s k i v → v < s.size + 1 ∧ fs v = true := by
    intro v hr
    induction hr with
    | here => exact ⟨hi, h.first⟩
    | step _ h2 ih =>
      rcases h.done _ ih.1 ih.2 with hm | hd
      · cases hm
      · exact ⟨by have := h2.le; omega, (hd _ h2).2⟩
  obtain ⟨h1, h2⟩ := key v hr
  rcases h.done v h1 h2 with hm | hd
  · cases hm
  · exact (hd j he).1
end En

/-- How many are not seen yet, as the world holds it. -/
def unseen (q n : Nat) (w : World) : Nat := ((List.range n).filter fun j => match w.cell? ⟨q, j, none⟩ with
  | some (.bool true) => false
  | _ => true).length
def lenOf : Value → Nat
  | .slice _ n _ => n
  | _ => 0
theorem unseen_eq {w : World} {q n : Nat} {f : Nat → Bool} (h : BBlk w q n f) : unseen q n w = ((List.range n).filter fun j => !f j).length := by
  unfold unseen
  congr 1
  apply List.filter_congr
  intro j hj
  rw [(h.cell j (List.mem_range.1 hj)).1]
  cases f j <;> rfl
theorem unseen_set {n j : Nat} {f : Nat → Bool} (hj : j < n) (hf : f j = false) : ((List.range n).filter fun t => !(if t = j then true else f t)).length + 1 = ((List.range n).filter fun t => !f t).length := by
  have key : ∀ l : List Nat, l.Nodup → j ∈ l → (l.filter fun t => !(if t = j then true else f t)).length + 1 = (l.filter fun t => !f t).length := by
    intro l
    induction l with
    | nil => intro _ h; cases h
    | cons a r ih =>
      intro hnd hm
      have hnd2 := List.nodup_cons.1 hnd
      by_cases ha : a = j
      · subst ha
        have e : (r.filter fun t => !(if t = a then true else f t)) = r.filter fun t => !f t := by
          apply List.filter_congr
          intro t ht
          have : t ≠ a := fun e => hnd2.1 (e ▸ ht)
          simp [this]
        have e1 : ((a :: r).filter fun t => !(if t = a then true else f t)) = r.filter fun t => !f t := by
          rw [List.filter_cons, e]
          simp
        have e2 : ((a :: r).filter fun t => !f t) = a :: r.filter fun t => !f t := by
          rw [List.filter_cons, hf]
          simp
        rw [e1, e2]
        simp
      · have hm2 : j ∈ r := by
          rcases List.mem_cons.1 hm with e | e
          · exact absurd e.symm ha
          · exact e
        have := ih hnd2.2 hm2
        simp only [List.filter_cons, ha, ↓reduceIte]
        split
        · simp only [List.length_cons]; omega
        · exact this
  exact key _ List.nodup_range (List.mem_range.2 hj)
end PartSpD
section PartSpE
open Go.RowKit

/-- The row of places that are still to be gone on from. -/
def Ws (B : Nat) (w : World) (v : Value) (ws : List Nat) : Prop := w.ownsRow B 3 1 v ws.length (ws.map fun (n : Nat) => iv n)
theorem Ws.form {B : Nat} {w : World} {v : Value} {ws : List Nat} (h : Ws B w v ws) (h0 : 0 < ws.length) : ∃ g cap, v = .slice (some ⟨g, 0, none⟩) ws.length cap ∧ B ≤ g ∧ g < w.heap.size ∧ ∀ j, j < ws.length → w.cell? ⟨g, j, none⟩ = some (.int .i64 ((ws.getD j 0 : Nat) : Int)) := by
  rcases h.2 with ⟨_, hn⟩ | ⟨g, cap, cur, rfl, h1, hg, _⟩
  · omega
  · refine ⟨g, cap, rfl, h1, blk_lt hg, fun j hj => ?_⟩
    rw [World.ownsRow.cellAt h j (by omega)]
    simp [hj, iv]
theorem Ws.pop {B : Nat} {w : World} {g n cap : Nat} {ws : List Nat} {v : Nat} (h : Ws B w (.slice (some ⟨g, 0, none⟩) n cap) (ws ++ [v])) : Ws B w (.slice (some ⟨g, 0, none⟩) ws.length cap) ws := by
  obtain ⟨h1, h2⟩ := h
  refine ⟨by simp, ?_⟩
  rcases h2 with ⟨e, _⟩ | ⟨g', cap', cur, e, k1, k2, k3, k4, k5, k6⟩
  · cases e
  · simp at e
    obtain ⟨rfl, _, rfl⟩ := e
    refine .inr ⟨g, cap, cur, rfl, k1, k2, by simp at k3; omega, k4, k5, ?_⟩
    have := congrArg (List.take ws.length) k6
    rw [List.take_take] at this
    simp at this
    simpa using this
theorem Ws.keep {B : Nat} {w w' : World} {v : Value} {ws : List Nat} (h : Ws B w v ws) (hb : ∀ q, v.ownBlock = some q → w'.heap[q]? = w.heap[q]?) : Ws B w' v ws := by
  refine ⟨h.1, ?_⟩
  rcases h.2 with hn | ⟨g, cap, cur, rfl, h1, hg, rest⟩
  · exact .inl hn
  · refine .inr ⟨g, cap, cur, rfl, h1, ?_, rest⟩
    rw [hb g rfl]
    exact hg

theorem FM.trans {B C : Nat} {w w1 w2 : World} (h : FM B C w w1) (k : FM B C w1 w2) : FM B C w w2 :=
  ⟨h.1.trans k.1, Nat.le_trans h.2.1 k.2.1, fun b hb hbb => (k.2.2 b (Nat.lt_of_lt_of_le hb h.2.1) hbb).trans (h.2.2 b hb hbb)⟩
theorem FM.own {B C : Nat} {w w' : World} (h : FM B C w w') (r o : Nat) (u : Value) (h1 : w.heap.size ≤ r) : FM B C w (w'.setCell ⟨r, o, none⟩ u) :=
  ⟨h.1, by simpa [World.setCell] using h.2.1, fun k hk hkk => by rw [Below.heap_setCell _ _ _ _ (by show k ≠ r; omega)]; exact h.2.2 k hk hkk⟩

/-- How many are not seen. -/
def Uns (n : Nat) (f : Nat → Bool) : Nat := ((List.range n).filter fun j => !f j).length
/-- The blocks that 'again' writes itself, beside those of X. -/
def Yo (X : Nat → Prop) (B : Nat) (y : Value) (b : Nat) : Prop := X b ∨ b = B ∨ b = B + 1 ∨ y.ownBlock = some b
section
variable {c : Mm} {X : Nat → Prop} {w wr w2 : World} {y : Value} {ws : List Nat} {fo fs : Nat → Bool}
end

section
variable {c : Mm} {X : Nat → Prop} {w wr : World} {k i v q m0 : Nat} {y : Value} {ws : List Nat} {fo fs : Nat → Bool} {j : Nat}
end
end PartSpE
end Go.Proofs.Ytibmagmdeacenac
