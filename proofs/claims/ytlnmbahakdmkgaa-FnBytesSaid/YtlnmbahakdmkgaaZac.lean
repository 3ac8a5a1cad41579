/- Frames: what of a world is as it was. Where a piece may end, by the specification: what its memory of what is known holds. -/
import Derived.Test.YtlnmbahakdmkgaaProg
import Derived.WalkKit
import Derived.Below
import Derived.Test.YtlnmbahakdmkgaaZab
namespace Go.Proofs.Ytlnmbahakdmkgaa
section PartFrm
open Go.RowKit

/-- All but the memory is as it was. -/
def Env (w w' : World) : Prop := w'.os = w.os ∧ w'.tape = w.tape ∧ w'.output = w.output
theorem Env.refl (w : World) : Env w w := ⟨rfl, rfl, rfl⟩
theorem Env.trans {w w1 w2 : World} (h : Env w w1) (k : Env w1 w2) : Env w w2 := ⟨k.1.trans h.1, k.2.1.trans h.2.1, k.2.2.trans h.2.2⟩
/-- A frame: what lies below B, and from C on, is as it was. -/
def FM (B C : Nat) (w w' : World) : Prop := Env w w' ∧ w.heap.size ≤ w'.heap.size ∧ ∀ k, k < w.heap.size → (k < B ∨ C ≤ k) → w'.heap[k]? = w.heap[k]?
theorem FM.refl (B C : Nat) (w : World) : FM B C w w := ⟨Env.refl w, Nat.le_refl _, fun _ _ _ => rfl⟩
theorem FM.set {B C : Nat} {w w' : World} (h : FM B C w w') (r o : Nat) (u : Value) (h1 : B ≤ r) (h2 : r < C) : FM B C w (w'.setCell ⟨r, o, none⟩ u) :=
  ⟨h.1, by simpa [World.setCell] using h.2.1, fun k hk hkk => by rw [Below.heap_setCell _ _ _ _ (by show k ≠ r; omega)]; exact h.2.2 k hk hkk⟩
theorem FM.up {B C : Nat} {w w' w2 : World} (h : FM B C w w') (hb : Below w'.heap.size w' w2) : FM B C w w2 :=
  ⟨h.1.trans ⟨hb.os, hb.tape, hb.output⟩, Nat.le_trans h.2.1 hb.size, fun k hk hkk => (hb.block k (Nat.lt_of_lt_of_le hk h.2.1)).trans (h.2.2 k hk hkk)⟩
theorem FM.below {B C : Nat} {w w' : World} (h : FM B C w w') (hB : B ≤ w.heap.size) : Below B w w' := ⟨h.1.1, h.1.2.1, h.1.2.2, h.2.1, fun k hk => h.2.2 k (by omega) (.inl hk)⟩
end PartFrm
section PartSpC
open Go.RowKit

/-- What the specification keeps: of each piece and place, whether it is known, and where it may end. It lies in the blocks from M0 up to M1; what came in lies below. -/
structure Mm where
  M0 : Nat
  M1 : Nat
  m : Nat
  K : Nat
  pv : Value
  cd : Nat
  ce : Nat
  s : ByteArray
  ps : List Pi
  d : Nat
  e : Nat
  D : Nat → Nat
  E : Nat → Nat
  wI : World

/-- What is known of piece k holds; X: blocks that others write. -/
def Kn (c : Mm) (X : Nat → Prop) (w : World) (k : Nat) : Prop := ∃ (f : Nat → Bool) (arr : Array Value), BBlk w (c.D k) (c.s.size + 1) f ∧ w.heap[c.E k]? = some (.cells arr 51 (0, 0)) ∧ arr.size = c.s.size + 1 ∧
  ∀ i, i < c.s.size + 1 → f i = true → ∃ q cc, arr[i]? = some (.slice (some ⟨q, 0, none⟩) (c.s.size + 1) cc) ∧ c.M1 ≤ q ∧ ¬ X q ∧ BAt w q (c.s.size + 1) (En.Ends c.ps c.s k i)

def Memo (c : Mm) (X : Nat → Prop) (w : World) : Prop :=
  w.heap[c.m]? = some (.cells #[c.pv, .string c.s, .slice (some ⟨c.d, 0, none⟩) c.K c.cd, .slice (some ⟨c.e, 0, none⟩) c.K c.ce] 86 (0, 0)) ∧
  (∃ a1, w.heap[c.d]? = some (.cells a1 51 (0, 0)) ∧ ∀ k, k < c.K → a1[k]? = some (.slice (some ⟨c.D k, 0, none⟩) (c.s.size + 1) (c.s.size + 1))) ∧
  (∃ a2, w.heap[c.e]? = some (.cells a2 83 (0, 0)) ∧ ∀ k, k < c.K → a2[k]? = some (.slice (some ⟨c.E k, 0, none⟩) (c.s.size + 1) (c.s.size + 1))) ∧
  (∀ k, k < c.K → Kn c X w k) ∧ Below c.M0 c.wI w ∧ c.M1 ≤ w.heap.size

/-- How the blocks lie; what came in. -/
structure Lie (c : Mm) : Prop where
  hm : c.M0 ≤ c.m ∧ c.m < c.M1
  hd : c.M0 ≤ c.d ∧ c.d < c.M1
  he : c.M0 ≤ c.e ∧ c.e < c.M1
  hD : ∀ k, k < c.K → c.M0 ≤ c.D k ∧ c.D k < c.M1 ∧ c.D k ≠ c.m ∧ c.D k ≠ c.d ∧ c.D k ≠ c.e
  hE : ∀ k, k < c.K → c.M0 ≤ c.E k ∧ c.E k < c.M1 ∧ c.E k ≠ c.m ∧ c.E k ≠ c.d ∧ c.E k ≠ c.e
  hDD : ∀ k j, k < c.K → j < c.K → k ≠ j → c.D k ≠ c.D j
  hEE : ∀ k j, k < c.K → j < c.K → k ≠ j → c.E k ≠ c.E j
  hDE : ∀ k j, k < c.K → j < c.K → c.D k ≠ c.E j
  hI : c.M0 = c.wI.heap.size
  hp : PcsAt c.wI c.pv c.ps
  hK : c.K = c.ps.length
  hs : c.s.size ≤ 1048576

/-- What is done in blocks of X, and in new ones, leaves it as it was. -/
theorem Memo.frame {c : Mm} {X : Nat → Prop} {w w' : World} (L : Lie c) (h : Memo c X w) (hX : ∀ b, X b → c.M1 ≤ b) (hen : Env w w') (hsz : w.heap.size ≤ w'.heap.size) (hb : ∀ b, b < w.heap.size → ¬ X b → w'.heap[b]? = w.heap[b]?) : Memo c X w' := by
  obtain ⟨h1, ⟨a1, h2, h2'⟩, ⟨a2, h3, h3'⟩, h4, h5, h6⟩ := h
  have lo : ∀ b, b < c.M1 → w'.heap[b]? = w.heap[b]? := fun b hbl => hb b (by omega) (fun hx => by have := hX b hx; omega)
  have hm := L.hm
  have hd := L.hd
  have he := L.he
  refine ⟨(lo _ (by omega)).trans h1, ⟨a1, (lo _ (by omega)).trans h2, h2'⟩, ⟨a2, (lo _ (by omega)).trans h3, h3'⟩, fun k hk => ?_, ?_, by omega⟩
  · obtain ⟨f, arr, k1, k2, k3, k5⟩ := h4 k hk
    have hDk := L.hD k hk
    have hEk := L.hE k hk
    refine ⟨f, arr, k1.keep (lo _ (by omega)), (lo _ (by omega)).trans k2, k3, fun i hi hf => ?_⟩
    obtain ⟨q, cc, j1, j2, j3, j4⟩ := k5 i hi hf
    exact ⟨q, cc, j1, j2, j3, j4.keep (hb q j4.1 j3)⟩
  · exact ⟨hen.1.trans h5.os, hen.2.1.trans h5.tape, hen.2.2.trans h5.output, Nat.le_trans h5.size hsz, fun k hk => (lo k (by omega)).trans (h5.block k hk)⟩
theorem Memo.up {c : Mm} {X : Nat → Prop} {w w' : World} (L : Lie c) (h : Memo c X w) (hX : ∀ b, X b → c.M1 ≤ b) (hb : Below w.heap.size w w') : Memo c X w' :=
  h.frame L hX ⟨hb.os, hb.tape, hb.output⟩ hb.size (fun b hbl _ => hb.block b hbl)
theorem Memo.more {c : Mm} {X Y : Nat → Prop} {w : World} (h : Memo c X w) (hY : ∀ b, Y b → X b ∨ w.heap.size ≤ b) : Memo c Y w := by
  obtain ⟨h1, h2, h3, h4, h5, h6⟩ := h
  refine ⟨h1, h2, h3, fun k hk => ?_, h5, h6⟩
  obtain ⟨f, arr, k1, k2, k3, k5⟩ := h4 k hk
  refine ⟨f, arr, k1, k2, k3, fun i hi hf => ?_⟩
  obtain ⟨q, cc, j1, j2, j3, j4⟩ := k5 i hi hf
  refine ⟨q, cc, j1, j2, fun hy => ?_, j4⟩
  rcases hY q hy with hx | hx
  · exact j3 hx
  · have := j4.1; omega
theorem Memo.pcs {c : Mm} {X : Nat → Prop} {w : World} (L : Lie c) (h : Memo c X w) : PcsAt w c.pv c.ps := by
  have h5 := h.2.2.2.2.1
  rw [L.hI] at h5
  exact L.hp.keep h5
/-- The cells that a look-up reads. -/
theorem Memo.cells {c : Mm} {X : Nat → Prop} {w : World} (h : Memo c X w) (k i : Nat) (hk : k < c.K) (hi : i < c.s.size + 1) :
    w.cell? ⟨c.m, 0, none⟩ = some c.pv ∧ w.cell? ⟨c.m, 1, none⟩ = some (.string c.s) ∧ w.cell? ⟨c.m, 2, none⟩ = some (.slice (some ⟨c.d, 0, none⟩) c.K c.cd) ∧ w.cell? ⟨c.m, 3, none⟩ = some (.slice (some ⟨c.e, 0, none⟩) c.K c.ce) ∧
    w.cell? ⟨c.d, k, none⟩ = some (.slice (some ⟨c.D k, 0, none⟩) (c.s.size + 1) (c.s.size + 1)) ∧ w.cell? ⟨c.e, k, none⟩ = some (.slice (some ⟨c.E k, 0, none⟩) (c.s.size + 1) (c.s.size + 1)) ∧
    w.frozen? ⟨c.D k, i, none⟩ = false ∧ w.frozen? ⟨c.E k, i, none⟩ = false ∧ ∃ (b : Bool) (u : Value), w.cell? ⟨c.D k, i, none⟩ = some (.bool b) ∧ w.cell? ⟨c.E k, i, none⟩ = some u ∧
      (b = true → ∃ q cc, u = .slice (some ⟨q, 0, none⟩) (c.s.size + 1) cc ∧ c.M1 ≤ q ∧ ¬ X q ∧ BAt w q (c.s.size + 1) (En.Ends c.ps c.s k i)) := by
  obtain ⟨h1, ⟨a1, h2, h2'⟩, ⟨a2, h3, h3'⟩, h4, h5, h6⟩ := h
  obtain ⟨f, arr, ⟨brr, b1, b2, b3⟩, k2, k3, k5⟩ := h4 k hk
  refine ⟨by rw [blk_cell h1]; rfl, by rw [blk_cell h1]; rfl, by rw [blk_cell h1]; rfl, by rw [blk_cell h1]; rfl, by rw [blk_cell h2]; exact h2' k hk, by rw [blk_cell h3]; exact h3' k hk, blk_free b1 i, blk_free k2 i, f i, arr[i]'(by omega), ?_, ?_, fun hf => ?_⟩
  · rw [blk_cell b1]; exact b3 i hi
  · rw [blk_cell k2, Array.getElem?_eq_getElem]
  · obtain ⟨q, cc, j1, j2, j3, j4⟩ := k5 i hi hf
    refine ⟨q, cc, ?_, j2, j3, j4⟩
    rw [Array.getElem?_eq_getElem (by omega)] at j1
    exact Option.some.inj j1

/-- One thing more is known. -/
theorem Memo.learn {c : Mm} {X : Nat → Prop} {w : World} (L : Lie c) (h : Memo c X w) (k i q cc : Nat) (hk : k < c.K) (hi : i < c.s.size + 1) (hq : c.M1 ≤ q) (hx : ¬ X q) (hb : BAt w q (c.s.size + 1) (En.Ends c.ps c.s k i)) :
    Memo c X ((w.setCell ⟨c.D k, i, none⟩ (.bool true)).setCell ⟨c.E k, i, none⟩ (.slice (some ⟨q, 0, none⟩) (c.s.size + 1) cc)) := by
  have hDk := L.hD k hk
  have hEk := L.hE k hk
  have hDE := L.hDE k k hk hk
  obtain ⟨w', hw'⟩ : ∃ w', w' = (w.setCell ⟨c.D k, i, none⟩ (.bool true)).setCell ⟨c.E k, i, none⟩ (.slice (some ⟨q, 0, none⟩) (c.s.size + 1) cc) := ⟨_, rfl⟩
  have ho : ∀ b, b ≠ c.D k → b ≠ c.E k → w'.heap[b]? = w.heap[b]? := by
    intro b h1 h2
    rw [hw', Below.heap_setCell _ _ _ _ (by show b ≠ c.E k; exact h2), Below.heap_setCell _ _ _ _ (by show b ≠ c.D k; exact h1)]
  have hsz : w'.heap.size = w.heap.size := by rw [hw']; simp [World.setCell]
  have hen : Env w w' := by rw [hw']; exact ⟨rfl, rfl, rfl⟩
  have hbl : ∀ q', c.M1 ≤ q' → w'.heap[q']? = w.heap[q']? := fun q' hq' => ho q' (by omega) (by omega)
  obtain ⟨h1, ⟨a1, h2, h2'⟩, ⟨a2, h3, h3'⟩, h4, h5, h6⟩ := h
  have hm := L.hm
  rw [← hw']
  refine ⟨(ho _ (fun e => hDk.2.2.1 e.symm) (fun e => hEk.2.2.1 e.symm)).trans h1, ⟨a1, (ho _ (fun e => hDk.2.2.2.1 e.symm) (fun e => hEk.2.2.2.1 e.symm)).trans h2, h2'⟩, ⟨a2, (ho _ (fun e => hDk.2.2.2.2 e.symm) (fun e => hEk.2.2.2.2 e.symm)).trans h3, h3'⟩, fun j hj => ?_, ?_, by omega⟩
  · obtain ⟨f, arr, k1, k2, k3, k5⟩ := h4 j hj
    by_cases hjk : j = k
    · subst hjk
      have n1 : BBlk w' (c.D j) (c.s.size + 1) (fun t => if t = i then true else f t) := by
        rw [hw']
        exact (k1.set i true hi).keep (Below.heap_setCell _ _ _ _ (by show c.D j ≠ c.E j; exact hDE))
      have n2 : w'.heap[c.E j]? = some (.cells (arr.setIfInBounds i (.slice (some ⟨q, 0, none⟩) (c.s.size + 1) cc)) 51 (0, 0)) := by
        rw [hw']
        exact blk_set ((Below.heap_setCell _ _ _ _ (by show c.E j ≠ c.D j; exact fun e => hDE e.symm)).trans k2) i _
      refine ⟨_, _, n1, n2, by simpa using k3, fun t ht hft => ?_⟩
      rw [Array.getElem?_setIfInBounds]
      by_cases hti : i = t
      · subst hti
        rw [if_pos rfl, if_pos (by omega)]
        exact ⟨q, cc, rfl, hq, hx, hb.keep (hbl q hq)⟩
      · rw [if_neg hti]
        have hft' : f t = true := by simpa [Ne.symm hti] using hft
        obtain ⟨q', cc', j1, j2, j3, j4⟩ := k5 t ht hft'
        exact ⟨q', cc', j1, j2, j3, j4.keep (hbl q' j2)⟩
    · have e1 := L.hDD j k hj hk hjk
      have e2 := L.hEE j k hj hk hjk
      have e3 := L.hDE j k hj hk
      have e4 := L.hDE k j hk hj
      refine ⟨f, arr, k1.keep (ho _ e1 e3), (ho _ (fun e => e4 e.symm) e2).trans k2, k3, fun t ht hft => ?_⟩
      obtain ⟨q', cc', j1, j2, j3, j4⟩ := k5 t ht hft
      exact ⟨q', cc', j1, j2, j3, j4.keep (hbl q' j2)⟩
  · exact ⟨hen.1.trans h5.os, hen.2.1.trans h5.tape, hen.2.2.trans h5.output, by rw [hsz]; exact h5.size, fun b hbb => (ho b (by omega) (by omega)).trans (h5.block b hbb)⟩

/-- What a look-up, or what reckons it, leaves: where what P tells may end. -/
def AtPost (c : Mm) (X : Nat → Prop) (P : Nat → Prop) (w : World) (e : Ending) (w' : World) : Prop :=
  ∃ q cc, e = .returned (.slice (some ⟨q, 0, none⟩) (c.s.size + 1) cc) ∧ c.M1 ≤ q ∧ ¬ X q ∧ BAt w' q (c.s.size + 1) P ∧ Memo c X w' ∧ FM c.M0 c.M1 w w'
/-- What 'at' promises of piece k. -/
def AtC (c : Mm) (k : Nat) : Prop := ∀ (X : Nat → Prop) (w : World) (i : Nat), (∀ b, X b → c.M1 ≤ b ∧ b < w.heap.size) → Memo c X w → i < c.s.size + 1 →
  Calls Try.prog 22 #[.pointer (some ⟨c.m, 0, none⟩), .int .i64 (k : Int), .int .i64 (i : Int)] w (AtPost c X (En.Ends c.ps c.s k i) w)
end PartSpC
end Go.Proofs.Ytlnmbahakdmkgaa
