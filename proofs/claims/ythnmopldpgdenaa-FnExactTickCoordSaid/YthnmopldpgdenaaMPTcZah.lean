/- The specification's reader of a pattern: a set. The specification's reader of a pattern: the pieces that it has read, one more of them, and what each of its parts leaves. -/
import Derived.Test.YthnmopldpgdenaaMPTcZag
namespace Go.Proofs.Ythnmopldpgdenaa
section PartRdD
open Go.RowKit

/-- What may have changed: the reader itself, the row's own block, what is new. -/
def Fr (g : Nat) (v : Value) (w w' : World) : Prop := w.heap.size ≤ w'.heap.size ∧ (∀ k, k < w.heap.size → k ≠ g → v.ownBlock ≠ some k → w'.heap[k]? = w.heap[k]?) ∧ Env w w'
theorem Fr.refl (g : Nat) (v : Value) (w : World) : Fr g v w w := ⟨Nat.le_refl _, fun _ _ _ _ => rfl, rfl, rfl, rfl⟩
theorem Fr.store {g : Nat} {v : Value} {w w' : World} (h : Fr g v w w') (o : Nat) (u : Value) : Fr g v w (w'.setCell ⟨g, o, none⟩ u) := by
  refine ⟨by simpa [World.setCell] using h.1, fun k hk hkg hkv => ?_, h.2.2⟩
  rw [Below.heap_setCell _ _ _ _ (by show k ≠ g; exact hkg)]
  exact h.2.1 k hk hkg hkv
theorem Fr.next {g : Nat} {v : Value} {w w1 w2 : World} (h1 : Fr g v w w1) (h2 : Fr g v w1 w2) : Fr g v w w2 :=
  ⟨Nat.le_trans h1.1 h2.1, fun k hk hkg hkv => (h2.2.1 k (Nat.lt_of_lt_of_le hk h1.1) hkg hkv).trans (h1.2.1 k hk hkg hkv), h2.2.2.1.trans h1.2.2.1, h2.2.2.2.1.trans h1.2.2.2.1, h2.2.2.2.2.trans h1.2.2.2.2⟩
end PartRdD
section PartRdE
open Go.RowKit

def Pp.no : Pp.Pc := ⟨0, [], []⟩
/-- What may have changed: the reader itself, and what lies from block B on. -/
def FB (g B : Nat) (w w' : World) : Prop := w.heap.size ≤ w'.heap.size ∧ (∀ k, k < B → k ≠ g → w'.heap[k]? = w.heap[k]?) ∧ Env w w'
theorem FB.refl (g B : Nat) (w : World) : FB g B w w := ⟨Nat.le_refl _, fun _ _ _ => rfl, rfl, rfl, rfl⟩
theorem FB.trans {g B : Nat} {w w1 w2 : World} (h1 : FB g B w w1) (h2 : FB g B w1 w2) : FB g B w w2 := ⟨Nat.le_trans h1.1 h2.1, fun k hk hg => (h2.2.1 k hk hg).trans (h1.2.1 k hk hg), h2.2.2.1.trans h1.2.2.1, h2.2.2.2.1.trans h1.2.2.2.1, h2.2.2.2.2.trans h1.2.2.2.2⟩
theorem FB.of {g B : Nat} {w w' : World} (h : Below B w w') : FB g B w w' := ⟨h.size, fun k hk _ => h.block k hk, h.os, h.tape, h.output⟩
end PartRdE
end Go.Proofs.Ythnmopldpgdenaa
