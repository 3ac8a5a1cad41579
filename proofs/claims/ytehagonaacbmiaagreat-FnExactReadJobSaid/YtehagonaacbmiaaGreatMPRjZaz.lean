/- The specification's copy of a store. What is read of the bytes of a store: what both walks hold. -/
import Derived.Test.YtehagonaacbmiaaGreatMPRjZay
import Derived.Deep.Upon
import Derived.Deep.AppendSrc
import Derived.Test.YtehagonaacbmiaaGreatMPRjZar
import Derived.Test.YtehagonaacbmiaaGreatMPRjZaq
namespace Go.Proofs.YtehagonaacbmiaaGreat
section PartRwE
open Go.RowKit

end PartRwE
section PartRvA
open Go.RowKit

/-- What a walk of ReadStore holds, w where it began: the answer's cell, the reader, the store. -/
structure SW (T : TypeId) (w W : World) (s : ByteArray) (a : Nat) (bad : Bool) (u x : Value) (o : ByteArray) : Prop where
  res : W.heap[w.heap.size]? = some (.cells #[.slice none 0 0, .slice none 0 0, .string ⟨#[]⟩] 40 (0, 0))
  rd : W.heap[w.heap.size + 1]? = some (.cells #[.string s, .int .i64 (a : Int), .bool bad] T (0, 0))
  co : W.heap[w.heap.size + 2]? = some (.cells #[u, x, .string o] 40 (0, 0))
  env : Below w.heap.size w W
section
variable {T : TypeId} {w W W' : World} {s : ByteArray} {a a' : Nat} {bad bad' : Bool} {u x u' x' : Value} {o o' : ByteArray}
theorem SW.size (h : SW T w W s a bad u x o) : w.heap.size + 3 ≤ W.heap.size := by
  have := blk_lt h.co
  omega
theorem SW.start (T : TypeId) (w : World) (s : ByteArray) : SW T w (((w.alloc (.cells #[.slice none 0 0, .slice none 0 0, .string ⟨#[]⟩] 40)).alloc (.cells #[.string s, .int .i64 0, .bool false] T)).alloc (.cells #[.slice none 0 0, .slice none 0 0, .string ⟨#[]⟩] 40)) s 0 false (.slice none 0 0) (.slice none 0 0) ⟨#[]⟩ :=
  ⟨r3_0 _ _ _ _, alloc3_1 _ _ _ _, r3_2 _ _ _ _, (((Below.refl _ _).alloc (Nat.le_refl _) _).alloc (by simp) _).alloc (by simp; omega) _⟩
/-- The reader went on. -/
theorem SW.call (h : SW T w W s a bad u x o) (hg : W.grownBy W' (some (w.heap.size + 1)))
    (h2 : W'.heap[w.heap.size + 1]? = some (.cells #[.string s, .int .i64 (a' : Int), .bool bad'] T (0, 0))) : SW T w W' s a' bad' u x o := by
  have hs := h.size
  refine ⟨(hg.block _ (by omega) (by simp)).trans h.res, h2, (hg.block _ (by omega) (by simp)).trans h.co, h.env.grown hg (by omega) (fun k hk => by simp at hk; omega)⟩
/-- A row of the call's own grew. -/
theorem SW.grow {r : Option Nat} (h : SW T w W s a bad u x o) (hg : W.grownBy W' r) (hr : ∀ k, r = some k → w.heap.size + 3 ≤ k) : SW T w W' s a bad u x o := by
  have hs := h.size
  have hb : ∀ k, k < w.heap.size + 3 → W'.heap[k]? = W.heap[k]? := fun k hk => hg.block k (by omega) (fun e => by have := hr k e.symm; omega)
  exact ⟨(hb _ (by omega)).trans h.res, (hb _ (by omega)).trans h.rd, (hb _ (by omega)).trans h.co, h.env.grown hg (by omega) (fun k hk => by have := hr k hk; omega)⟩
theorem SW.alloc (h : SW T w W s a bad u x o) (ob : Obj) : SW T w (W.alloc ob) s a bad u x o :=
  h.grow (World.grownBy_alloc W ob none) (fun k hk => by cases hk)
theorem SW.drew (h : SW T w W s a bad u x o) : SW T w W.drew s a bad u x o := ⟨h.res, h.rd, h.co, h.env.drew⟩
/-- A cell of a box of the call's own, behind these three, is set. -/
theorem SW.far (h : SW T w W s a bad u x o) (g j : Nat) (v : Value) (hg : w.heap.size + 3 ≤ g) : SW T w (W.setCell ⟨g, j, none⟩ v) s a bad u x o := by
  have e : ∀ k, k < w.heap.size + 3 → (W.setCell ⟨g, j, none⟩ v).heap[k]? = W.heap[k]? := fun k hk => Below.heap_setCell _ _ _ _ (by show k ≠ g; omega)
  exact ⟨(e _ (by omega)).trans h.res, (e _ (by omega)).trans h.rd, (e _ (by omega)).trans h.co, h.env.setCell (by show w.heap.size ≤ g; omega) _⟩
/-- A field of the store is set. -/
theorem SW.setC (h : SW T w W s a bad u x o) (j : Nat) (v : Value) (hu : (#[u, x, .string o] : Array Value).setIfInBounds j v = #[u', x', .string o']) : SW T w (W.setCell ⟨w.heap.size + 2, j, none⟩ v) s a bad u' x' o' := by
  have hs := h.size
  refine ⟨(Below.heap_setCell _ _ _ _ (by show w.heap.size ≠ w.heap.size + 2; omega)).trans h.res, (Below.heap_setCell _ _ _ _ (by show w.heap.size + 1 ≠ w.heap.size + 2; omega)).trans h.rd, ?_, h.env.setCell (by show w.heap.size ≤ w.heap.size + 2; omega) _⟩
  have := blk_set h.co j v
  rw [hu] at this
  exact this
end
end PartRvA
end Go.Proofs.YtehagonaacbmiaaGreat
