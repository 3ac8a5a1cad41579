/- The specification's reader of a pattern: a set. -/
import Derived.Test.YtnlbbomejpopnaaRdB
import Derived.Test.YtnlbbomejpopnaaRdC
namespace Go.Proofs.Ytnlbbomejpopnaa
open Go.RowKit

/-- What may have changed: the reader itself, the row's own block, what is new. -/
def Fr (g : Nat) (v : Value) (w w' : World) : Prop := w.heap.size ≤ w'.heap.size ∧ (∀ k, k < w.heap.size → k ≠ g → v.ownBlock ≠ some k → w'.heap[k]? = w.heap[k]?) ∧ Env w w'
theorem Fr.refl (g : Nat) (v : Value) (w : World) : Fr g v w w := ⟨Nat.le_refl _, fun _ _ _ _ => rfl, rfl, rfl, rfl⟩
theorem Fr.draw {g : Nat} {v : Value} {w w' : World} (h : Fr g v w w') (k : Nat) : Fr g v w (w'.drewN k) := h
theorem Fr.store {g : Nat} {v : Value} {w w' : World} (h : Fr g v w w') (o : Nat) (u : Value) : Fr g v w (w'.setCell ⟨g, o, none⟩ u) := by
  refine ⟨by simpa [World.setCell] using h.1, fun k hk hkg hkv => ?_, h.2.2⟩
  rw [Below.heap_setCell _ _ _ _ (by show k ≠ g; exact hkg)]
  exact h.2.1 k hk hkg hkv
theorem Fr.next {g : Nat} {v : Value} {w w1 w2 : World} (h1 : Fr g v w w1) (h2 : Fr g v w1 w2) : Fr g v w w2 :=
  ⟨Nat.le_trans h1.1 h2.1, fun k hk hkg hkv => (h2.2.1 k (Nat.lt_of_lt_of_le hk h1.1) hkg hkv).trans (h1.2.1 k hk hkg hkv), h2.2.2.1.trans h1.2.2.1, h2.2.2.2.1.trans h1.2.2.2.1, h2.2.2.2.2.trans h1.2.2.2.2⟩
/-- The reader's place, as the world holds it. -/
def placeOf (g : Nat) (w : World) : Nat := match w.cell? ⟨g, 1, none⟩ with
  | some (.int _ z) => z.toNat
  | _ => 0
theorem drop_at4 (s : ByteArray) (k : Nat) (h : k < s.size) : s.data.toList.drop k = s[k] :: s.data.toList.drop (k + 1) := by
  rw [List.drop_eq_getElem_cons (by simpa using h)]; rfl
theorem close_stop (s : ByteArray) (k : Nat) (h : k < s.size) (e : s[k].toNat = 93) : Pp.close (s.data.toList.drop k) k = k := by
  have : s[k] = 93 := UInt8.toNat_inj.1 (by rw [e]; rfl)
  rw [drop_at4 s k h, Pp.close, if_pos this]
theorem close_go (s : ByteArray) (k : Nat) (h : k < s.size) (e : s[k].toNat ≠ 93) : Pp.close (s.data.toList.drop k) k = Pp.close (s.data.toList.drop (k + 1)) (k + 1) := by
  have : ¬ s[k] = 93 := by intro e2; apply e; rw [e2]; rfl
  rw [drop_at4 s k h, Pp.close, if_neg this]
theorem close_end (s : ByteArray) (k : Nat) (h : k = s.size) : Pp.close (s.data.toList.drop k) k = k := by
  rw [List.drop_of_length_le (by simp; omega), Pp.close]

end Go.Proofs.Ytnlbbomejpopnaa
