/- The program's writer of bytes: a strings.Builder that lies within a struct of the program's own. -/
import Derived.Test.YtdkenmpdgadcpaaDoorMPRmVrD
import Derived.Test.YtdkenmpdgadcpaaDoorMPRmZab
import Derived.Lib.Builder
import Derived.Lib.AppendStr
import Derived.Lib.AppendIntMem
import Derived.Shelf.Strings.Builder1
namespace Go.Proofs.YtdkenmpdgadcpaaDoor
open Go.RowKit

/-- The writer in block b has written l. -/
def Bw (b : Nat) (w : World) (l : List UInt8) : Prop := Lib.IsBuilder 43 5 b b (Lib.byteCells l) w
theorem Bw.keep {b : Nat} {w w' : World} {l : List UInt8} (h : Bw b w l) (hb : Below w.heap.size w w') : Bw b w' l := by
  have key : ∀ p, Lib.BuilderAt 43 5 b b p (Lib.byteCells l) w → Lib.BuilderAt 43 5 b b p (Lib.byteCells l) w' := by
    rintro p ⟨hB, v, hbk, hown, hne⟩
    refine ⟨hB, v, (hb.block b (blk_lt hbk)).trans hbk, ⟨hown.1, ?_⟩, hne⟩
    rcases hown.2 with hn | ⟨g, cap, cur, rfl, h1, hg, rest⟩
    · exact .inl hn
    · exact .inr ⟨g, cap, cur, rfl, h1, (hb.block g (blk_lt hg)).trans hg, rest⟩
  exact h.elim (fun x => .inl (key _ x)) (fun x => .inr (key _ x))
/-- What lies in rows of another kind than bytes, but for block b, is as it was. -/
def Ok5 (b : Nat) (w w' : World) : Prop := ∀ (j : Nat) (arr : Array Value) (t : TypeId) (fr : Nat × Nat), w.heap[j]? = some (.cells arr t fr) → t ≠ 5 → j ≠ b → w'.heap[j]? = some (.cells arr t fr)
theorem Ok5.refl (b : Nat) (w : World) : Ok5 b w w := fun _ _ _ _ h _ _ => h
theorem Ok5.set {b : Nat} {w w' : World} (h : Ok5 b w w') (k : Nat) (u : Value) : Ok5 b w (w'.setCell ⟨b, k, none⟩ u) := fun j arr t fr h1 h2 h3 => by
  rw [Below.heap_setCell _ _ _ _ (by exact h3)]
  exact h j arr t fr h1 h2 h3
theorem Ok5.trans {b : Nat} {w w1 w2 : World} (h : Ok5 b w w1) (h' : Ok5 b w1 w2) : Ok5 b w w2 := fun j arr t fr h1 h2 h3 => h' j arr t fr (h j arr t fr h1 h2 h3) h2 h3
theorem Ok5.below {b : Nat} {w w1 : World} (h : Below w.heap.size w w1) : Ok5 b w w1 := fun j _ _ _ h1 _ _ => (h.block j (blk_lt h1)).trans h1

theorem l01_bytes (n : Nat) : (Pl.vb 8 n).length ≤ 9 := by
  suffices h : ∀ f n, (Pl.vb f n).length ≤ f + 1 from h 8 n
  intro f
  induction f with
  | zero => intro n; simp [Pl.vb]
  | succ f ih =>
    intro n
    by_cases h : 127 < n
    · rw [Pl.vb_more f n h]
      have := ih (n / 128)
      simp
      omega
    · rw [Pl.vb_last (f + 1) n h]
      simp

end Go.Proofs.YtdkenmpdgadcpaaDoor
