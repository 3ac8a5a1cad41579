/- Where a piece may end, by the specification: again and again. Where a piece may end, by the specification: again and again: what lies in memory meanwhile. -/
import Derived.Test.YtlnmbahakdmkgaaZac
import Derived.Maps.AppendAt
namespace Go.Proofs.Ytlnmbahakdmkgaa
section PartSpD
open Go.RowKit
namespace En

/-- The worklist of 'again', as it stands. -/
structure Wl (ps : List Pi) (s : ByteArray) (k i : Nat) (ws : List Nat) (fo fs : Nat → Bool) : Prop where
  first : fs i = true
  seen : ∀ v, v < s.size + 1 → fs v = true → Reach ps s k i v
  out : ∀ j, j < s.size + 1 → fo j = true → ∃ v, Reach ps s k i v ∧ Ends ps s k v j
  done : ∀ v, v < s.size + 1 → fs v = true → v ∈ ws ∨ ∀ j, Ends ps s k v j → fo j = true ∧ fs j = true
  todo : ∀ v, v ∈ ws → v < s.size + 1 ∧ fs v = true
/-- .. with v taken off it, and its ends below j gone through. -/
structure Wj (ps : List Pi) (s : ByteArray) (k i v j : Nat) (ws : List Nat) (fo fs : Nat → Bool) : Prop where
  first : fs i = true
  seen : ∀ v, v < s.size + 1 → fs v = true → Reach ps s k i v
  out : ∀ j, j < s.size + 1 → fo j = true → ∃ v, Reach ps s k i v ∧ Ends ps s k v j
  done : ∀ u, u < s.size + 1 → fs u = true → u ∈ ws ∨ u = v ∨ ∀ j, Ends ps s k u j → fo j = true ∧ fs j = true
  todo : ∀ v, v ∈ ws → v < s.size + 1 ∧ fs v = true
  part : ∀ t, t < j → Ends ps s k v t → fo t = true ∧ fs t = true
  here : v < s.size + 1 ∧ fs v = true

theorem Wl.start (ps : List Pi) (s : ByteArray) (k i : Nat) (hi : i < s.size + 1) : Wl ps s k i [i] (fun _ => false) (fun j => if j = i then true else false) := by
  refine ⟨by simp, fun v _ h => ?_, fun j _ h => (by cases h), fun v _ h => ?_, fun v h => ?_⟩
  · by_cases hv : v = i
    · subst hv; exact .here
    · simp [hv] at h
  · by_cases hv : v = i
    · subst hv; exact .inl (by simp)
    · simp [hv] at h
  · rw [List.mem_singleton.1 h]; exact ⟨hi, by simp⟩
theorem Wl.pop {ps : List Pi} {s : ByteArray} {k i v : Nat} {ws : List Nat} {fo fs : Nat → Bool} (h : Wl ps s k i (ws ++ [v]) fo fs) : Wj ps s k i v 0 ws fo fs := by
  refine ⟨h.first, h.seen, h.out, fun u hu hf => ?_, fun u hu => h.todo u (List.mem_append_left _ hu), fun t ht => by omega, h.todo v (by simp)⟩
  rcases h.done u hu hf with hm | hd
  · rcases List.mem_append.1 hm with hm | hm
    · exact .inl hm
    · exact .inr (.inl (List.mem_singleton.1 hm))
  · exact .inr (.inr hd)
theorem Wj.over {ps : List Pi} {s : ByteArray} {k i v : Nat} {ws : List Nat} {fo fs : Nat → Bool} (h : Wj ps s k i v (s.size + 1) ws fo fs) : Wl ps s k i ws fo fs := by
  refine ⟨h.first, h.seen, h.out, fun u hu hf => ?_, h.todo⟩
  rcases h.done u hu hf with hm | rfl | hd
  · exact .inl hm
  · exact .inr fun j hj => h.part j (by have := hj.le; omega) hj
  · exact .inr hd
theorem Wj.skip {ps : List Pi} {s : ByteArray} {k i v j : Nat} {ws : List Nat} {fo fs : Nat → Bool} (h : Wj ps s k i v j ws fo fs) (hn : ¬ Ends ps s k v j) : Wj ps s k i v (j + 1) ws fo fs :=
  ⟨h.first, h.seen, h.out, h.done, h.todo, fun t ht he => by
    by_cases htj : t = j
    · subst htj; exact absurd he hn
    · exact h.part t (by omega) he, h.here⟩
theorem Wj.old {ps : List Pi} {s : ByteArray} {k i v j : Nat} {ws : List Nat} {fo fs : Nat → Bool} (h : Wj ps s k i v j ws fo fs) (he : Ends ps s k v j) (hs : fs j = true) : Wj ps s k i v (j + 1) ws (fun t => if t = j then true else fo t) fs := by
  have up : ∀ t, fo t = true → (if t = j then true else fo t) = true := fun t ht => by by_cases e : t = j <;> simp [e, ht]
  refine ⟨h.first, h.seen, fun t ht hf => ?_, fun u hu hf => ?_, h.todo, fun t ht hte => ?_, h.here⟩
  · by_cases htj : t = j
    · subst htj; exact ⟨v, h.seen v h.here.1 h.here.2, he⟩
    · exact h.out t ht (by simpa [htj] using hf)
  · rcases h.done u hu hf with hm | hm | hd
    · exact .inl hm
    · exact .inr (.inl hm)
    · exact .inr (.inr fun t ht => ⟨up t (hd t ht).1, (hd t ht).2⟩)
  · by_cases htj : t = j
    · subst htj; exact ⟨by simp, hs⟩
    · exact ⟨up t (h.part t (by omega) hte).1, (h.part t (by omega) hte).2⟩
theorem Wj.new {ps : List Pi} {s : ByteArray} {k i v j : Nat} {ws : List Nat} {fo fs : Nat → Bool} (h : Wj ps s k i v j ws fo fs) (hj : j < s.size + 1) (he : Ends ps s k v j) : Wj ps s k i v (j + 1) (ws ++ [j]) (fun t => if t = j then true else fo t) (fun t => if t = j then true else fs t) := by
  have up : ∀ t, fo t = true → (if t = j then true else fo t) = true := fun t ht => by by_cases e : t = j <;> simp [e, ht]
  have us : ∀ t, fs t = true → (if t = j then true else fs t) = true := fun t ht => by by_cases e : t = j <;> simp [e, ht]
  refine ⟨us i h.first, fun t ht hf => ?_, fun t ht hf => ?_, fun u hu hf => ?_, fun u hu => ?_, fun t ht hte => ?_, ⟨h.here.1, us v h.here.2⟩⟩
  · by_cases htj : t = j
    · subst htj; exact .step (h.seen v h.here.1 h.here.2) he
    · exact h.seen t ht (by simpa [htj] using hf)
  · by_cases htj : t = j
    · subst htj; exact ⟨v, h.seen v h.here.1 h.here.2, he⟩
    · exact h.out t ht (by simpa [htj] using hf)
  · by_cases huj : u = j
    · subst huj; exact .inl (by simp)
    · rcases h.done u hu (by simpa [huj] using hf) with hm | hm | hd
      · exact .inl (List.mem_append_left _ hm)
      · exact .inr (.inl hm)
      · exact .inr (.inr fun t ht => ⟨up t (hd t ht).1, us t (hd t ht).2⟩)
  · rcases List.mem_append.1 hu with hm | hm
    · exact ⟨(h.todo u hm).1, us u (h.todo u hm).2⟩
    · rw [List.mem_singleton.1 hm]; exact ⟨hj, by simp⟩
  · by_cases htj : t = j
    · subst htj; exact ⟨by simp, by simp⟩
    · exact ⟨up t (h.part t (by omega) hte).1, us t (h.part t (by omega) hte).2⟩
theorem Wl.fin {ps : List Pi} {s : ByteArray} {k i : Nat} {fo fs : Nat → Bool} (h : Wl ps s k i [] fo fs) (hi : i < s.size + 1) (j : Nat) (hj : j < s.size + 1) : fo j = true ↔ ∃ v, Reach ps s k i v ∧ Ends ps s k v j := by
  refine ⟨h.out j hj, fun ⟨v, hr, he⟩ => ?_⟩
  have key : ∀ v, Reach ps s k i v → v < s.size + 1 ∧ fs v = true := by
    intro v hr
    induction hr with
    | here => exact ⟨hi, h.first⟩
    | step _ h2 ih =>
      rcases h.done _ ih.1 ih.2 with hm | hd
      · cases hm
      · exact ⟨by have := h2.le; omega, (hd _ h2).2⟩
  obtain ⟨h1, h2⟩ := key v hr
  rcases h.done v h1 h2 with hm | hd
  · cases hm
  · exact (hd j he).1
end En

/-- How many are not seen yet, as the world holds it. -/
def unseen (q n : Nat) (w : World) : Nat := ((List.range n).filter fun j => match w.cell? ⟨q, j, none⟩ with
  | some (.bool true) => false
  | _ => true).length
def lenOf : Value → Nat
  | .slice _ n _ => n
  | _ => 0
theorem unseen_eq {w : World} {q n : Nat} {f : Nat → Bool} (h : BBlk w q n f) : unseen q n w = ((List.range n).filter fun j => !f j).length := by
  unfold unseen
  congr 1
  apply List.filter_congr
  intro j hj
  rw [(h.cell j (List.mem_range.1 hj)).1]
  cases f j <;> rfl
theorem unseen_set {n j : Nat} {f : Nat → Bool} (hj : j < n) (hf : f j = false) : ((List.range n).filter fun t => !(if t = j then true else f t)).length + 1 = ((List.range n).filter fun t => !f t).length := by
  have key : ∀ l : List Nat, l.Nodup → j ∈ l → (l.filter fun t => !(if t = j then true else f t)).length + 1 = (l.filter fun t => !f t).length := by
    intro l
    induction l with
    | nil => intro _ h; cases h
    | cons a r ih =>
      intro hnd hm
      have hnd2 := List.nodup_cons.1 hnd
      by_cases ha : a = j
      · subst ha
        have e : (r.filter fun t => !(if t = a then true else f t)) = r.filter fun t => !f t := by
          apply List.filter_congr
          intro t ht
          have : t ≠ a := fun e => hnd2.1 (e ▸ ht)
          simp [this]
        have e1 : ((a :: r).filter fun t => !(if t = a then true else f t)) = r.filter fun t => !f t := by
          rw [List.filter_cons, e]
          simp
        have e2 : ((a :: r).filter fun t => !f t) = a :: r.filter fun t => !f t := by
          rw [List.filter_cons, hf]
          simp
        rw [e1, e2]
        simp
      · have hm2 : j ∈ r := by
          rcases List.mem_cons.1 hm with e | e
          · exact absurd e.symm ha
          · exact e
        have := ih hnd2.2 hm2
        simp only [List.filter_cons, ha, ↓reduceIte]
        split
        · simp only [List.length_cons]; omega
        · exact this
  exact key _ List.nodup_range (List.mem_range.2 hj)
end PartSpD
section PartSpE
open Go.RowKit

/-- The row of places that are still to be gone on from. -/
def Ws (B : Nat) (w : World) (v : Value) (ws : List Nat) : Prop := w.ownsRow B 3 1 v ws.length (ws.map fun (n : Nat) => iv n)
theorem Ws.form {B : Nat} {w : World} {v : Value} {ws : List Nat} (h : Ws B w v ws) (h0 : 0 < ws.length) : ∃ g cap, v = .slice (some ⟨g, 0, none⟩) ws.length cap ∧ B ≤ g ∧ g < w.heap.size ∧ ∀ j, j < ws.length → w.cell? ⟨g, j, none⟩ = some (.int .i64 ((ws.getD j 0 : Nat) : Int)) := by
  rcases h.2 with ⟨_, hn⟩ | ⟨g, cap, cur, rfl, h1, hg, _⟩
  · omega
  · refine ⟨g, cap, rfl, h1, blk_lt hg, fun j hj => ?_⟩
    rw [World.ownsRow.cellAt h j (by omega)]
    simp [hj, iv]
theorem Ws.pop {B : Nat} {w : World} {g n cap : Nat} {ws : List Nat} {v : Nat} (h : Ws B w (.slice (some ⟨g, 0, none⟩) n cap) (ws ++ [v])) : Ws B w (.slice (some ⟨g, 0, none⟩) ws.length cap) ws := by
  obtain ⟨h1, h2⟩ := h
  refine ⟨by simp, ?_⟩
  rcases h2 with ⟨e, _⟩ | ⟨g', cap', cur, e, k1, k2, k3, k4, k5, k6⟩
  · cases e
  · simp at e
    obtain ⟨rfl, _, rfl⟩ := e
    refine .inr ⟨g, cap, cur, rfl, k1, k2, by simp at k3; omega, k4, k5, ?_⟩
    have := congrArg (List.take ws.length) k6
    rw [List.take_take] at this
    simp at this
    simpa using this
theorem Ws.keep {B : Nat} {w w' : World} {v : Value} {ws : List Nat} (h : Ws B w v ws) (hb : ∀ q, v.ownBlock = some q → w'.heap[q]? = w.heap[q]?) : Ws B w' v ws := by
  refine ⟨h.1, ?_⟩
  rcases h.2 with hn | ⟨g, cap, cur, rfl, h1, hg, rest⟩
  · exact .inl hn
  · refine .inr ⟨g, cap, cur, rfl, h1, ?_, rest⟩
    rw [hb g rfl]
    exact hg

theorem FM.trans {B C : Nat} {w w1 w2 : World} (h : FM B C w w1) (k : FM B C w1 w2) : FM B C w w2 :=
  ⟨h.1.trans k.1, Nat.le_trans h.2.1 k.2.1, fun b hb hbb => (k.2.2 b (Nat.lt_of_lt_of_le hb h.2.1) hbb).trans (h.2.2 b hb hbb)⟩
theorem FM.own {B C : Nat} {w w' : World} (h : FM B C w w') (r o : Nat) (u : Value) (h1 : w.heap.size ≤ r) : FM B C w (w'.setCell ⟨r, o, none⟩ u) :=
  ⟨h.1, by simpa [World.setCell] using h.2.1, fun k hk hkk => by rw [Below.heap_setCell _ _ _ _ (by show k ≠ r; omega)]; exact h.2.2 k hk hkk⟩

/-- How many are not seen. -/
def Uns (n : Nat) (f : Nat → Bool) : Nat := ((List.range n).filter fun j => !f j).length
/-- The blocks that 'again' writes itself, beside those of X. -/
def Yo (X : Nat → Prop) (B : Nat) (y : Value) (b : Nat) : Prop := X b ∨ b = B ∨ b = B + 1 ∨ y.ownBlock = some b
/-- What 'again' keeps, from block w.heap.size on. -/
structure Ag (c : Mm) (X : Nat → Prop) (w : World) (y : Value) (wr : World) (ws : List Nat) (fo fs : Nat → Bool) : Prop where
  bo : BBlk wr w.heap.size (c.s.size + 1) fo
  bs : BBlk wr (w.heap.size + 1) (c.s.size + 1) fs
  way : Ws (w.heap.size + 2) wr y ws
  mem : Memo c (Yo X w.heap.size y) wr
  fm : FM c.M0 c.M1 w wr
  few : ws.length + Uns (c.s.size + 1) fs ≤ c.s.size + 1

section
variable {c : Mm} {X : Nat → Prop} {w wr w2 : World} {y : Value} {ws : List Nat} {fo fs : Nat → Bool}
theorem Ag.low (h : Ag c X w y wr ws fo fs) (hM : c.M1 ≤ w.heap.size) (hX : ∀ b, X b → c.M1 ≤ b ∧ b < w.heap.size) (b : Nat) (hb : Yo X w.heap.size y b) : c.M1 ≤ b ∧ b < wr.heap.size := by
  have h1 := h.bo.lt
  have h2 := h.bs.lt
  rcases hb with hb | rfl | rfl | hb
  · exact ⟨(hX b hb).1, by have := (hX b hb).2; omega⟩
  · exact ⟨hM, h1⟩
  · exact ⟨by omega, h2⟩
  · have := World.ownsRow.lt h.way b hb
    exact ⟨by omega, this.2⟩
theorem Ag.far (h : Ag c X w y wr ws fo fs) (q : Nat) (hq : y.ownBlock = some q) : w.heap.size + 2 ≤ q := (World.ownsRow.lt h.way q hq).1
theorem Ag.out (h : Ag c X w y wr ws fo fs) (L : Lie c) (hM : c.M1 ≤ w.heap.size) (hX : ∀ b, X b → c.M1 ≤ b ∧ b < w.heap.size) (j : Nat) (hj : j < c.s.size + 1) : Ag c X w y (wr.setCell ⟨w.heap.size, j, none⟩ (.bool true)) ws (fun t => if t = j then true else fo t) fs := by
  refine ⟨h.bo.set j true hj, h.bs.keep (Below.heap_setCell _ _ _ _ (by show w.heap.size + 1 ≠ w.heap.size; omega)), h.way.keep fun q hq => Below.heap_setCell _ _ _ _ (by show q ≠ w.heap.size; have := h.far q hq; omega), h.mem.frame L (fun b hb => (h.low hM hX b hb).1) ⟨rfl, rfl, rfl⟩ (by simp [World.setCell]) (fun b _ hn => Below.heap_setCell _ _ _ _ (by show b ≠ w.heap.size; exact fun e => hn (.inr (.inl e)))), h.fm.own _ _ _ (Nat.le_refl _), h.few⟩
theorem Ag.seen (h : Ag c X w y wr ws fo fs) (L : Lie c) (hM : c.M1 ≤ w.heap.size) (hX : ∀ b, X b → c.M1 ≤ b ∧ b < w.heap.size) (j : Nat) (hj : j < c.s.size + 1) (hf : fs j = false) : Ag c X w y (wr.setCell ⟨w.heap.size + 1, j, none⟩ (.bool true)) ws fo (fun t => if t = j then true else fs t) := by
  refine ⟨h.bo.keep (Below.heap_setCell _ _ _ _ (by show w.heap.size ≠ w.heap.size + 1; omega)), h.bs.set j true hj, h.way.keep fun q hq => Below.heap_setCell _ _ _ _ (by show q ≠ w.heap.size + 1; have := h.far q hq; omega), h.mem.frame L (fun b hb => (h.low hM hX b hb).1) ⟨rfl, rfl, rfl⟩ (by simp [World.setCell]) (fun b _ hn => Below.heap_setCell _ _ _ _ (by show b ≠ w.heap.size + 1; exact fun e => hn (.inr (.inr (.inl e))))), h.fm.own _ _ _ (by omega), ?_⟩
  have h1 := h.few
  have h2 : Uns (c.s.size + 1) (fun t => if t = j then true else fs t) + 1 = Uns (c.s.size + 1) fs := unseen_set hj hf
  omega
theorem Ag.called (h : Ag c X w y wr ws fo fs) (hM : c.M1 ≤ w.heap.size) (hm : Memo c (Yo X w.heap.size y) w2) (hf : FM c.M0 c.M1 wr w2) : Ag c X w y w2 ws fo fs := by
  refine ⟨h.bo.keep (hf.2.2 _ h.bo.lt (.inr hM)), h.bs.keep (hf.2.2 _ h.bs.lt (.inr (by omega))), h.way.keep fun q hq => hf.2.2 q (World.ownsRow.lt h.way q hq).2 (.inr (by have := h.far q hq; omega)), hm, h.fm.trans hf, h.few⟩
theorem Ag.pop {g n cap : Nat} {us : List Nat} {v : Nat} (h : Ag c X w (.slice (some ⟨g, 0, none⟩) n cap) wr (us ++ [v]) fo fs) : Ag c X w (.slice (some ⟨g, 0, none⟩) us.length cap) wr us fo fs :=
  ⟨h.bo, h.bs, h.way.pop, h.mem, h.fm, by have := h.few; simp at this; omega⟩
theorem Ag.grown (h : Ag c X w y wr ws fo fs) (L : Lie c) (hM : c.M1 ≤ w.heap.size) (hX : ∀ b, X b → c.M1 ≤ b ∧ b < w.heap.size) (o : Obj) (j : Nat) (y' : Value) (hway : Ws (w.heap.size + 2) w2 y' (ws ++ [j])) (hg : (wr.alloc o).grownBy w2 y.ownBlock) (hy : y'.ownBlock = y.ownBlock ∨ y'.ownBlock = some (wr.heap.size + 1)) (hfew : ws.length + 1 + Uns (c.s.size + 1) fs ≤ c.s.size + 1) : Ag c X w y' w2 (ws ++ [j]) fo fs := by
  have hs : wr.heap.size + 1 ≤ w2.heap.size := by have := hg.size; simpa using this
  have keep : ∀ b, b < wr.heap.size → y.ownBlock ≠ some b → w2.heap[b]? = wr.heap[b]? := by
    intro b hb hn
    rw [hg.block b (by simp; omega) (fun e => hn e.symm)]
    exact ((Below.refl wr.heap.size wr).alloc (Nat.le_refl _) o).block b hb
  have hen : Env wr w2 := ⟨hg.os, hg.tape, hg.output⟩
  have hfm : FM c.M0 c.M1 w w2 := ⟨h.fm.1.trans hen, by have := h.fm.2.1; omega, fun k hk hkk => (keep k (by have := h.fm.2.1; omega) (fun e => by have := h.far k e; omega)).trans (h.fm.2.2 k hk hkk)⟩
  refine ⟨h.bo.keep (keep _ h.bo.lt (fun e => by have := h.far _ e; omega)), h.bs.keep (keep _ h.bs.lt (fun e => by have := h.far _ e; omega)), hway, ?_, hfm, by simpa using hfew⟩
  have m1 : Memo c (fun b => Yo X w.heap.size y b ∨ b = wr.heap.size + 1) wr := h.mem.more fun b hb => by
    rcases hb with hb | rfl
    · exact .inl hb
    · exact .inr (by omega)
  have m2 : Memo c (fun b => Yo X w.heap.size y b ∨ b = wr.heap.size + 1) w2 := m1.frame L (fun b hb => by
    rcases hb with hb | rfl
    · exact (h.low hM hX b hb).1
    · have := h.bo.lt; omega) hen (by omega) (fun b hb hn => keep b hb (fun e => hn (.inl (.inr (.inr (.inr e))))))
  refine m2.more fun b hb => .inl ?_
  rcases hb with hb | hb | hb | hb
  · exact .inl (.inl hb)
  · exact .inl (.inr (.inl hb))
  · exact .inl (.inr (.inr (.inl hb)))
  · rcases hy with e | e
    · exact .inl (.inr (.inr (.inr (e.symm.trans hb))))
    · exact .inr (by rw [e] at hb; exact (Option.some.inj hb).symm)
/-- One place more to go on from: the append. -/
theorem Ag.push {ops : Array Oper} {rest : List Oper} {o : Oper} {a : Act} {Q : Exit → Act → World → Prop} (h : Ag c X w y wr ws fo fs) (L : Lie c) (hM : c.M1 ≤ w.heap.size) (hX : ∀ b, X b → c.M1 ≤ b ∧ b < w.heap.size) (hgd : o.guard = none) (s x : Operand)
    (ho : o.op = .call { callee := .builtin .append, args := #[s, x], argTypes := #[40, 40] })
    (hs : a.eval s = y) (j n0 : Nat) (hx : a.eval x = .slice (some ⟨n0, 0, none⟩) 1 1) (hn0 : n0 = wr.heap.size) (hfew : ws.length + 1 + Uns (c.s.size + 1) fs ≤ c.s.size + 1)
    (k : ∀ y' w2, Ag c X w y' w2 (ws ++ [j]) fo fs → wr.heap.size ≤ w2.heap.size → (∀ b, b < wr.heap.size → y.ownBlock ≠ some b → w2.heap[b]? = wr.heap[b]?) → (y'.ownBlock = y.ownBlock ∨ y'.ownBlock = some (wr.heap.size + 1)) → wpList Try.prog ops Q rest (a.put o.dst y') w2) :
    wpList Try.prog ops Q (o :: rest) a (wr.alloc (.cells #[.int .i64 (j : Int)] 3)) := by
  subst hn0
  obtain ⟨i0, hi, hz0, hz1, hz2⟩ := info_parts Try.infoI
  have hls := L.hs
  have hB : w.heap.size + 2 ≤ wr.heap.size := by have := h.bs.lt; omega
  refine wpList_append_own_at _ hgd s x 40 ho (w.heap.size + 2) 3 i0 (.int .i64 0) 1 8 Try.underlying40 hi hz0 hz1 hz2 rfl (by decide) y ws.length (ws.map fun (n : Nat) => iv n) hs (World.ownsRow.alloc h.way _) ⟨wr.heap.size, 0, none⟩ 1 1 [iv j] hx rfl (cell_one_new _ _ _) ?_ ?_ ?_ ?_ ?_
  · intro u hu; simp at hu; subst hu; rfl
  · unfold maxLen; omega
  · omega
  · simp; omega
  · intro y' w2 h2 h3 _ h5
    have h5' : y'.ownBlock = y.ownBlock ∨ y'.ownBlock = some (wr.heap.size + 1) := by simpa using h5
    refine k y' w2 (h.grown L hM hX _ j y' (by unfold Ws; simpa using h2) h3 h5' hfew) ?_ ?_ h5'
    · have := h3.size; simp at this; omega
    · intro b hb hn
      rw [h3.block b (by simp; omega) (fun e => hn e.symm)]
      exact ((Below.refl wr.heap.size wr).alloc (Nat.le_refl _) _).block b hb
end

/-- .. while the ends of v, which lie in block q, are gone through. -/
structure Ai (c : Mm) (X : Nat → Prop) (w : World) (k i v q m0 : Nat) (y : Value) (wr : World) (ws : List Nat) (fo fs : Nat → Bool) (j : Nat) : Prop where
  ag : Ag c X w y wr ws fo fs
  wj : En.Wj c.ps c.s k i v j ws fo fs
  ls : BAt wr q (c.s.size + 1) (En.Ends c.ps c.s k v)
  ny : ¬ Yo X w.heap.size y q
  le : 2 * Uns (c.s.size + 1) fs + ws.length < m0
section
variable {c : Mm} {X : Nat → Prop} {w wr : World} {k i v q m0 : Nat} {y : Value} {ws : List Nat} {fo fs : Nat → Bool} {j : Nat}
theorem Ai.skip (h : Ai c X w k i v q m0 y wr ws fo fs j) (hn : ¬ En.Ends c.ps c.s k v j) : Ai c X w k i v q m0 y wr ws fo fs (j + 1) := ⟨h.ag, h.wj.skip hn, h.ls, h.ny, h.le⟩
theorem Ai.nq (h : Ai c X w k i v q m0 y wr ws fo fs j) : q ≠ w.heap.size ∧ q ≠ w.heap.size + 1 ∧ y.ownBlock ≠ some q := ⟨fun e => h.ny (.inr (.inl e)), fun e => h.ny (.inr (.inr (.inl e))), fun e => h.ny (.inr (.inr (.inr e)))⟩
theorem Ai.old (h : Ai c X w k i v q m0 y wr ws fo fs j) (L : Lie c) (hM : c.M1 ≤ w.heap.size) (hX : ∀ b, X b → c.M1 ≤ b ∧ b < w.heap.size) (hj : j < c.s.size + 1) (he : En.Ends c.ps c.s k v j) (hs : fs j = true) : Ai c X w k i v q m0 y (wr.setCell ⟨w.heap.size, j, none⟩ (.bool true)) ws (fun t => if t = j then true else fo t) fs (j + 1) :=
  ⟨h.ag.out L hM hX j hj, h.wj.old he hs, h.ls.keep (Below.heap_setCell _ _ _ _ (by show q ≠ w.heap.size; exact h.nq.1)), h.ny, h.le⟩
/-- What the append of a new place leaves. -/
theorem Ai.new (h : Ai c X w k i v q m0 y wr ws fo fs j) (hj : j < c.s.size + 1) (he : En.Ends c.ps c.s k v j) (hs : fs j = false) {y' : Value} {w2 : World}
    (hag : Ag c X w y' w2 (ws ++ [j]) (fun t => if t = j then true else fo t) (fun t => if t = j then true else fs t))
    (hk : ∀ b, b < wr.heap.size → y.ownBlock ≠ some b → w2.heap[b]? = ((wr.setCell ⟨w.heap.size, j, none⟩ (.bool true)).setCell ⟨w.heap.size + 1, j, none⟩ (.bool true)).heap[b]?)
    (hy : y'.ownBlock = y.ownBlock ∨ y'.ownBlock = some (wr.heap.size + 1)) : Ai c X w k i v q m0 y' w2 (ws ++ [j]) (fun t => if t = j then true else fo t) (fun t => if t = j then true else fs t) (j + 1) := by
  have hq := h.nq
  have hql := h.ls.1
  refine ⟨hag, h.wj.new hj he, h.ls.keep ?_, ?_, ?_⟩
  · rw [hk q hql hq.2.2, Below.heap_setCell _ _ _ _ (by show q ≠ w.heap.size + 1; exact hq.2.1), Below.heap_setCell _ _ _ _ (by show q ≠ w.heap.size; exact hq.1)]
  · rintro (hb | hb | hb | hb)
    · exact h.ny (.inl hb)
    · exact hq.1 hb
    · exact hq.2.1 hb
    · rcases hy with e | e
      · exact hq.2.2 (e.symm.trans hb)
      · rw [e] at hb; have := Option.some.inj hb; omega
  · have h1 := h.le
    have h2 : Uns (c.s.size + 1) (fun t => if t = j then true else fs t) + 1 = Uns (c.s.size + 1) fs := unseen_set hj hs
    rw [List.length_append, List.length_singleton]
    omega
end
theorem Ag.begin (c : Mm) (L : Lie c) (X : Nat → Prop) (w : World) (hX : ∀ b, X b → c.M1 ≤ b ∧ b < w.heap.size) (h : Memo c X w) (i : Nat) (hi : i < c.s.size + 1) (M : Array Value) (hMs : M.size = c.s.size + 1) (hMat : ∀ j, j < c.s.size + 1 → M[j]? = some (.bool false)) :
    Ag c X w (.slice (some ⟨w.heap.size + 1 + 1, 0, none⟩) 1 1) (((w.alloc (.cells M 4)).alloc (.cells (M.setIfInBounds i (.bool true)) 4)).alloc (.cells #[.int .i64 (i : Int)] 3)) [i] (fun _ => false) (fun j => if j = i then true else false) := by
  have hM : c.M1 ≤ w.heap.size := h.2.2.2.2.2
  have hb : ∀ A B D : Obj, Below w.heap.size w (((w.alloc A).alloc B).alloc D) := fun A B D => (((Below.refl _ _).alloc (Nat.le_refl _) _).alloc (by simp) _).alloc (by simp; omega) _
  have e0 : ∀ A B D : Obj, (((w.alloc A).alloc B).alloc D).heap[w.heap.size]? = some A := fun A B D => by
    rw [(((Below.refl (w.heap.size + 1) (w.alloc A)).alloc (by simp) B).alloc (by simp) D).block _ (by omega)]
    exact heap_alloc_new w A
  have e1 : ∀ A B D : Obj, (((w.alloc A).alloc B).alloc D).heap[w.heap.size + 1]? = some B := fun A B D => by
    rw [((Below.refl (w.heap.size + 2) ((w.alloc A).alloc B)).alloc (by simp) D).block _ (by omega)]
    have := heap_alloc_new (w.alloc A) B
    rwa [show (w.alloc A).heap.size = w.heap.size + 1 by simp] at this
  have e2 : ∀ A B D : Obj, (((w.alloc A).alloc B).alloc D).heap[w.heap.size + 1 + 1]? = some D := fun A B D => by
    have := heap_alloc_new ((w.alloc A).alloc B) D
    rwa [show ((w.alloc A).alloc B).heap.size = w.heap.size + 1 + 1 by simp] at this
  refine ⟨⟨M, e0 _ _ _, hMs, hMat⟩, ⟨M.setIfInBounds i (.bool true), e1 _ _ _, by simpa using hMs, fun j hj => ?_⟩, ⟨rfl, .inr ⟨_, 1, #[.int .i64 (i : Int)], rfl, Nat.le_refl _, e2 _ _ _, Nat.le_refl _, by decide, rfl, rfl⟩⟩, ?_, (FM.refl _ _ w).up (hb _ _ _), ?_⟩
  · rw [Array.getElem?_setIfInBounds]
    by_cases hji : i = j
    · subst hji; simp [hMs, hj]
    · rw [if_neg hji, hMat j hj]
      show some (Value.bool false) = some (Value.bool (if j = i then true else false))
      rw [if_neg (fun e => hji e.symm)]
  · refine Memo.up L (h.more fun b hb => ?_) (fun b hb => ?_) (hb _ _ _)
    · rcases hb with hb | rfl | rfl | hb
      · exact .inl hb
      · exact .inr (Nat.le_refl _)
      · exact .inr (by omega)
      · have := Option.some.inj hb; exact .inr (by show w.heap.size ≤ b; simp at this; omega)
    · rcases hb with hb | rfl | rfl | hb
      · exact (hX b hb).1
      · exact hM
      · omega
      · have := Option.some.inj hb; simp at this; omega
  · have h2 : Uns (c.s.size + 1) (fun t => if t = i then true else false) + 1 = Uns (c.s.size + 1) (fun _ => false) := unseen_set (f := fun _ => false) hi rfl
    have h3 : Uns (c.s.size + 1) (fun _ => false) = c.s.size + 1 := by
      have e : (List.range (c.s.size + 1)).filter (fun j => !(fun _ : Nat => false) j) = List.range (c.s.size + 1) := List.filter_eq_self.2 (fun _ _ => rfl)
      show ((List.range (c.s.size + 1)).filter (fun j => !(fun _ : Nat => false) j)).length = _
      rw [e, List.length_range]
    rw [List.length_singleton]
    omega
theorem Ag.form0 {c : Mm} {X : Nat → Prop} {w wr : World} {y : Value} {fo fs : Nat → Bool} (h : Ag c X w y wr [] fo fs) : ∃ ya yc, y = .slice ya 0 yc := by
  rcases h.way.2 with ⟨e, _⟩ | ⟨g, cap, cur, e, _⟩
  · exact ⟨_, _, e⟩
  · exact ⟨_, _, e⟩
theorem Ag.form {c : Mm} {X : Nat → Prop} {w wr : World} {y : Value} {us : List Nat} {v : Nat} {fo fs : Nat → Bool} (h : Ag c X w y wr (us ++ [v]) fo fs) : ∃ g cap, y = .slice (some ⟨g, 0, none⟩) (us.length + 1) cap ∧ us.length + 1 ≤ cap ∧ wr.cell? ⟨g, us.length, none⟩ = some (.int .i64 (v : Int)) := by
  rcases h.way.2 with ⟨_, hn⟩ | ⟨g, cap, cur, e, h1, hg, hc, _⟩
  · simp at hn
  · have e2 : y = .slice (some ⟨g, 0, none⟩) (us.length + 1) cap := by simpa using e
    refine ⟨g, cap, e2, by simpa using hc, ?_⟩
    obtain ⟨g2, cap2, e3, _, _, hcell⟩ := h.way.form (by simp)
    rw [e2] at e3
    simp at e3
    obtain ⟨rfl, _⟩ := e3
    have := hcell us.length (by simp)
    simpa using this
theorem Ag.len {c : Mm} {X : Nat → Prop} {w wr : World} {y : Value} {ws : List Nat} {fo fs : Nat → Bool} (h : Ag c X w y wr ws fo fs) : lenOf y = ws.length := by
  rcases h.way.2 with ⟨e, hn⟩ | ⟨g, cap, cur, e, _⟩
  · rw [e, hn]; rfl
  · rw [e]; rfl
end PartSpE
end Go.Proofs.Ytlnmbahakdmkgaa
