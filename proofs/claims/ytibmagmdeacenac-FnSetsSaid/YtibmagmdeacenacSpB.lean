/- Where a piece may end, by the specification: a piece of one byte, or of none. -/
import Derived.Test.YtibmagmdeacenacSpA
namespace Go.Proofs.Ytibmagmdeacenac
open Go.RowKit

/-- Block q holds n Booleans: where P holds. -/
def BAt (w : World) (q n : Nat) (P : Nat → Prop) : Prop := q < w.heap.size ∧ ∀ j, j < n → ∃ b : Bool, w.cell? ⟨q, j, none⟩ = some (.bool b) ∧ (b = true ↔ P j)
theorem BAt.keep {w w' : World} {q n : Nat} {P : Nat → Prop} (h : BAt w q n P) (hb : w'.heap[q]? = w.heap[q]?) : BAt w' q n P := by
  refine ⟨?_, fun j hj => ?_⟩
  · obtain ⟨o, ho⟩ : ∃ o, w.heap[q]? = some o := ⟨_, Array.getElem?_eq_getElem h.1⟩
    exact blk_lt (hb.trans ho)
  · obtain ⟨b, h1, h2⟩ := h.2 j hj
    refine ⟨b, ?_, h2⟩
    rw [← h1]
    simp [World.cell?, hb]
/-- Block q holds just these Booleans, and may be written. -/
def BBlk (w : World) (q n : Nat) (f : Nat → Bool) : Prop := ∃ arr : Array Value, w.heap[q]? = some (.cells arr 4 (0, 0)) ∧ arr.size = n ∧ ∀ j, j < n → arr[j]? = some (.bool (f j))
theorem BBlk.at {w : World} {q n : Nat} {f : Nat → Bool} (h : BBlk w q n f) (P : Nat → Prop) (hP : ∀ j, j < n → (f j = true ↔ P j)) : BAt w q n P := by
  obtain ⟨arr, ha, hs, hf⟩ := h
  exact ⟨blk_lt ha, fun j hj => ⟨f j, by rw [blk_cell ha]; exact hf j hj, hP j hj⟩⟩
theorem BBlk.set {w : World} {q n : Nat} {f : Nat → Bool} (h : BBlk w q n f) (i : Nat) (b : Bool) (_hi : i < n) : BBlk (w.setCell ⟨q, i, none⟩ (.bool b)) q n (fun j => if j = i then b else f j) := by
  obtain ⟨arr, ha, hs, hf⟩ := h
  refine ⟨_, blk_set ha i (.bool b), by simpa using hs, fun j hj => ?_⟩
  rw [Array.getElem?_setIfInBounds]
  by_cases hji : i = j
  · subst hji
    simp only [↓reduceIte]
    rw [if_pos (by omega)]
  · rw [if_neg hji, hf j hj]
    show some (Value.bool (f j)) = some (Value.bool (if j = i then b else f j))
    rw [if_neg (fun e => hji e.symm)]
theorem BBlk.cell {w : World} {q n : Nat} {f : Nat → Bool} (h : BBlk w q n f) (j : Nat) (hj : j < n) : w.cell? ⟨q, j, none⟩ = some (.bool (f j)) ∧ w.frozen? ⟨q, j, none⟩ = false := by
  obtain ⟨arr, ha, hs, hf⟩ := h
  exact ⟨by rw [blk_cell ha]; exact hf j hj, blk_free ha j⟩
theorem BBlk.keep {w w' : World} {q n : Nat} {f : Nat → Bool} (h : BBlk w q n f) (hb : w'.heap[q]? = w.heap[q]?) : BBlk w' q n f := by
  obtain ⟨arr, ha, hs, hf⟩ := h
  exact ⟨arr, hb.trans ha, hs, hf⟩
theorem BBlk.lt {w : World} {q n : Nat} {f : Nat → Bool} (h : BBlk w q n f) : q < w.heap.size := by obtain ⟨arr, ha, _⟩ := h; exact blk_lt ha

theorem Try.infoB : (Try.prog.info? 4).map (fun i => (i.zero, i.size, i.bytes)) = some (some (.bool false), 1, 1) := by kernel_rfl
/-- Where a piece of one byte, or of none, may end. -/
def EndsOne (p : Pi) (s : ByteArray) (i j : Nat) : Prop :=
  ((p.op = 1 ∨ p.op = 2 ∨ p.op = 3 ∨ p.op = 4) ∧ (∃ h : i < s.size, En.takes p s[i] = true) ∧ j = i + 1) ∨ (p.op = 10 ∧ i = 0 ∧ j = i) ∨ (p.op = 11 ∧ i = s.size ∧ j = i) ∨ (p.op = 12 ∧ j = i)
theorem ends_one (ps : List Pi) (s : ByteArray) (k i j : Nat) (hop : (ps.getD k Pi.no).op ≠ 5 ∧ (ps.getD k Pi.no).op ≠ 6 ∧ (ps.getD k Pi.no).op ≠ 7 ∧ (ps.getD k Pi.no).op ≠ 8 ∧ (ps.getD k Pi.no).op ≠ 9) : En.Ends ps s k i j ↔ EndsOne (ps.getD k Pi.no) s i j := by
  constructor
  · intro h
    cases h with
    | one h ho ht => exact .inl ⟨ho, ⟨h, ht⟩, rfl⟩
    | begin ho h => exact .inr (.inl ⟨ho, h, rfl⟩)
    | fin ho h => exact .inr (.inr (.inl ⟨ho, h, rfl⟩))
    | none ho => exact .inr (.inr (.inr ⟨ho, rfl⟩))
    | cat ho => omega
    | altl ho => omega
    | altr ho => omega
    | opt0 ho => omega
    | opt1 ho => omega
    | star0 ho => omega
    | star1 ho => omega
    | plus0 ho => omega
    | plus1 ho => omega
  · rintro (⟨ho, ⟨h, ht⟩, rfl⟩ | ⟨ho, h, rfl⟩ | ⟨ho, h, rfl⟩ | ⟨ho, rfl⟩)
    · exact .one h ho ht
    · exact .begin ho h
    · exact .fin ho h
    · exact .none ho

end Go.Proofs.Ytibmagmdeacenac
