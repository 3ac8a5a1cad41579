/- The specification's reader of a pattern: the pieces that it has read, one more of them, and what each of its parts leaves. -/
import Derived.Test.YtnlbbomejpopnaaRdD
namespace Go.Proofs.Ytnlbbomejpopnaa
open Go.RowKit

def Pp.no : Pp.Pc := ⟨0, [], []⟩
/-- A piece's kids: nothing, or the slice of a block of their own. -/
def kvOf (q : Nat) (ks : List Nat) : Value := if ks = [] then .slice none 0 0 else .slice (some ⟨q, 0, none⟩) ks.length ks.length
theorem getD_push (ps : List Pp.Pc) (p : Pp.Pc) (i : Nat) : (ps ++ [p]).getD i Pp.no = if i < ps.length then ps.getD i Pp.no else if i = ps.length then p else Pp.no := by
  by_cases h : i < ps.length
  · simp [List.getElem?_append_left, h]
  · rw [if_neg h]
    by_cases h2 : i = ps.length
    · subst h2; simp
    · rw [if_neg h2]
      simp only [List.getD_eq_getElem?_getD]
      rw [List.getElem?_eq_none (by simp; omega)]
      rfl

/-- What may have changed: the reader itself, and what lies from block B on. -/
def FB (g B : Nat) (w w' : World) : Prop := w.heap.size ≤ w'.heap.size ∧ (∀ k, k < B → k ≠ g → w'.heap[k]? = w.heap[k]?) ∧ Env w w'
theorem FB.refl (g B : Nat) (w : World) : FB g B w w := ⟨Nat.le_refl _, fun _ _ _ => rfl, rfl, rfl, rfl⟩
theorem FB.trans {g B : Nat} {w w1 w2 : World} (h1 : FB g B w w1) (h2 : FB g B w1 w2) : FB g B w w2 := ⟨Nat.le_trans h1.1 h2.1, fun k hk hg => (h2.2.1 k hk hg).trans (h1.2.1 k hk hg), h2.2.2.1.trans h1.2.2.1, h2.2.2.2.1.trans h1.2.2.2.1, h2.2.2.2.2.trans h1.2.2.2.2⟩
theorem FB.of {g B : Nat} {w w' : World} (h : Below B w w') : FB g B w w' := ⟨h.size, fun k hk _ => h.block k hk, h.os, h.tape, h.output⟩
end Go.Proofs.Ytnlbbomejpopnaa
