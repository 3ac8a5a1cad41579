/- Where a piece may end, by the specification: two pieces, one behind the other or one of both. -/
import Derived.Test.YtlnmbahakdmkgaaSpF
namespace Go.Proofs.Ytlnmbahakdmkgaa
open Go.RowKit

theorem BAt.fn {w : World} {q n : Nat} {P : Nat → Prop} (h : BAt w q n P) : ∃ f : Nat → Bool, ∀ j, j < n → w.cell? ⟨q, j, none⟩ = some (.bool (f j)) ∧ (f j = true ↔ P j) := by
  refine ⟨fun j => match w.cell? ⟨q, j, none⟩ with | some (.bool b) => b | _ => false, fun j hj => ?_⟩
  obtain ⟨b, h1, h2⟩ := h.2 j hj
  simp only [h1]
  exact ⟨trivial, h2⟩
/-- What 'both' keeps: its piece, and the row that it answers. -/
structure Bt (c : Mm) (X : Nat → Prop) (w : World) (op : Int) (tx : ByteArray) (kv : Value) (wr : World) (fo : Nat → Bool) : Prop where
  xb : wr.heap[w.heap.size]? = some (.cells #[.int .i64 op, .string tx, kv] 81 (0, 0))
  bo : BBlk wr (w.heap.size + 1) (c.s.size + 1) fo
  mem : Memo c (fun b => X b ∨ b = w.heap.size + 1) wr
  fm : FM c.M0 c.M1 w wr
section
variable {c : Mm} {X : Nat → Prop} {w wr w2 : World} {op : Int} {tx : ByteArray} {kv : Value} {fo : Nat → Bool}
theorem Bt.low (h : Bt c X w op tx kv wr fo) (hM : c.M1 ≤ w.heap.size) (hX : ∀ b, X b → c.M1 ≤ b ∧ b < w.heap.size) (b : Nat) (hb : X b ∨ b = w.heap.size + 1) : c.M1 ≤ b ∧ b < wr.heap.size := by
  have h2 := h.bo.lt
  rcases hb with hb | rfl
  · exact ⟨(hX b hb).1, by have := (hX b hb).2; omega⟩
  · exact ⟨by omega, h2⟩
theorem Bt.set (h : Bt c X w op tx kv wr fo) (L : Lie c) (hM : c.M1 ≤ w.heap.size) (hX : ∀ b, X b → c.M1 ≤ b ∧ b < w.heap.size) (j : Nat) (hj : j < c.s.size + 1) (b : Bool) : Bt c X w op tx kv (wr.setCell ⟨w.heap.size + 1, j, none⟩ (.bool b)) (fun t => if t = j then b else fo t) :=
  ⟨(Below.heap_setCell _ _ _ _ (by show w.heap.size ≠ w.heap.size + 1; omega)).trans h.xb, h.bo.set j b hj, h.mem.frame L (fun b hb => (h.low hM hX b hb).1) ⟨rfl, rfl, rfl⟩ (by simp [World.setCell]) (fun b _ hn => Below.heap_setCell _ _ _ _ (by show b ≠ w.heap.size + 1; exact fun e => hn (.inr e))), h.fm.own _ _ _ (by omega)⟩
theorem Bt.called (h : Bt c X w op tx kv wr fo) (hM : c.M1 ≤ w.heap.size) (hm : Memo c (fun b => X b ∨ b = w.heap.size + 1) w2) (hf : FM c.M0 c.M1 wr w2) : Bt c X w op tx kv w2 fo :=
  ⟨(hf.2.2 _ (blk_lt h.xb) (.inr hM)).trans h.xb, h.bo.keep (hf.2.2 _ h.bo.lt (.inr (by omega))), hm, h.fm.trans hf⟩
theorem Bt.drawn (h : Bt c X w op tx kv wr fo) (L : Lie c) (hM : c.M1 ≤ w.heap.size) (hX : ∀ b, X b → c.M1 ≤ b ∧ b < w.heap.size) (hb : Below wr.heap.size wr w2) : Bt c X w op tx kv w2 fo :=
  ⟨(hb.block _ (blk_lt h.xb)).trans h.xb, h.bo.keep (hb.block _ h.bo.lt), h.mem.up L (fun b hb => (h.low hM hX b hb).1) hb, h.fm.up hb⟩
theorem Bt.cells (h : Bt c X w op tx kv wr fo) : wr.cell? ⟨w.heap.size, 0, none⟩ = some (.int .i64 op) ∧ wr.cell? ⟨w.heap.size, 1, none⟩ = some (.string tx) ∧ wr.cell? ⟨w.heap.size, 2, none⟩ = some kv :=
  ⟨by rw [blk_cell h.xb]; rfl, by rw [blk_cell h.xb]; rfl, by rw [blk_cell h.xb]; rfl⟩
end
theorem Bt.begin (c : Mm) (L : Lie c) (X : Nat → Prop) (w : World) (hX : ∀ b, X b → c.M1 ≤ b ∧ b < w.heap.size) (h : Memo c X w) (op : Int) (tx : ByteArray) (kv : Value) (M : Array Value) (hMs : M.size = c.s.size + 1) (hMat : ∀ j, j < c.s.size + 1 → M[j]? = some (.bool false)) :
    Bt c X w op tx kv ((w.alloc (.cells #[.int .i64 op, .string tx, kv] 81)).alloc (.cells M 4)) (fun _ => false) := by
  have hM : c.M1 ≤ w.heap.size := h.2.2.2.2.2
  have hb : ∀ A B : Obj, Below w.heap.size w ((w.alloc A).alloc B) := fun A B => ((Below.refl _ _).alloc (Nat.le_refl _) _).alloc (by simp) _
  have e0 : ∀ A B : Obj, ((w.alloc A).alloc B).heap[w.heap.size]? = some A := fun A B => by
    rw [((Below.refl (w.heap.size + 1) (w.alloc A)).alloc (by simp) B).block _ (by omega)]
    exact heap_alloc_new w A
  have e1 : ∀ A B : Obj, ((w.alloc A).alloc B).heap[w.heap.size + 1]? = some B := fun A B => by
    have := heap_alloc_new (w.alloc A) B
    rwa [show (w.alloc A).heap.size = w.heap.size + 1 by simp] at this
  refine ⟨e0 _ _, ⟨M, e1 _ _, hMs, hMat⟩, ?_, (FM.refl _ _ w).up (hb _ _)⟩
  refine Memo.up L (h.more fun b hb => ?_) (fun b hb => ?_) (hb _ _)
  · rcases hb with hb | rfl
    · exact .inl hb
    · exact .inr (by omega)
  · rcases hb with hb | rfl
    · exact (hX b hb).1
    · omega

/-- The row of block q, f, is taken up into what is answered, below e. -/
structure Or (c : Mm) (X : Nat → Prop) (w : World) (op : Int) (tx : ByteArray) (kv : Value) (q : Nat) (f f0 : Nat → Bool) (e : Nat) (wr : World) (fo : Nat → Bool) : Prop where
  bt : Bt c X w op tx kv wr fo
  ls : ∀ j, j < c.s.size + 1 → wr.cell? ⟨q, j, none⟩ = some (.bool (f j))
  nq : q ≠ w.heap.size + 1
  is : ∀ t, t < c.s.size + 1 → fo t = (f0 t || (decide (t < e) && f t))
theorem cell_other {w w' : World} {q j : Nat} (h : w'.heap[q]? = w.heap[q]?) : w'.cell? ⟨q, j, none⟩ = w.cell? ⟨q, j, none⟩ := by simp [World.cell?, h]
section
variable {c : Mm} {X : Nat → Prop} {w wr : World} {op : Int} {tx : ByteArray} {kv : Value} {q : Nat} {f f0 : Nat → Bool} {e : Nat} {fo : Nat → Bool}
theorem Or.step (h : Or c X w op tx kv q f f0 e wr fo) (L : Lie c) (hM : c.M1 ≤ w.heap.size) (hX : ∀ b, X b → c.M1 ≤ b ∧ b < w.heap.size) (he : e < c.s.size + 1) (b : Bool) (hb : b = (fo e || f e)) : Or c X w op tx kv q f f0 (e + 1) (wr.setCell ⟨w.heap.size + 1, e, none⟩ (.bool b)) (fun t => if t = e then b else fo t) := by
  refine ⟨h.bt.set L hM hX e he b, fun j hj => (cell_other (Below.heap_setCell _ _ _ _ (by show q ≠ w.heap.size + 1; exact h.nq))).trans (h.ls j hj), h.nq, fun t ht => ?_⟩
  by_cases hte : t = e
  · subst hte
    show (if t = t then b else fo t) = _
    rw [if_pos rfl, hb, h.is t ht]
    simp
  · show (if t = e then b else fo t) = _
    rw [if_neg hte, h.is t ht]
    by_cases h2 : t < e
    · rw [decide_eq_true h2, decide_eq_true (by omega : t < e + 1)]
    · rw [decide_eq_false h2, decide_eq_false (by omega : ¬ t < e + 1)]
theorem Or.start (h : Bt c X w op tx kv wr fo) (P : Nat → Prop) (hq : BAt wr q (c.s.size + 1) P) (hn : ¬ (X q ∨ q = w.heap.size + 1)) : ∃ f : Nat → Bool, (∀ j, j < c.s.size + 1 → (f j = true ↔ P j)) ∧ Or c X w op tx kv q f fo 0 wr fo := by
  obtain ⟨f, hf⟩ := hq.fn
  exact ⟨f, fun j hj => (hf j hj).2, h, fun j hj => (hf j hj).1, fun e => hn (.inr e), fun t _ => by simp⟩
theorem Or.fin (h : Or c X w op tx kv q f f0 (c.s.size + 1) wr fo) (t : Nat) (ht : t < c.s.size + 1) : fo t = true ↔ f0 t = true ∨ f t = true := by
  rw [h.is t ht, decide_eq_true ht]
  simp
end
#print axioms Or.step
end Go.Proofs.Ytlnmbahakdmkgaa
