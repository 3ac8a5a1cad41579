/- Frames: nothing but some blocks has changed. -/
import Derived.Test.YtljnffanajcifaaMPWtFrm
namespace Go.Proofs.Ytljnffanajcifaa
open Go.RowKit

/-- Nothing but blocks of S has changed. -/
def FS (S : Nat → Prop) (w w' : World) : Prop := Env w w' ∧ w.heap.size ≤ w'.heap.size ∧ ∀ k, k < w.heap.size → ¬ S k → w'.heap[k]? = w.heap[k]?
theorem FS.refl (S : Nat → Prop) (w : World) : FS S w w := ⟨Env.refl w, Nat.le_refl _, fun _ _ _ => rfl⟩
theorem FS.set {S : Nat → Prop} {w w' : World} (h : FS S w w') (r o : Nat) (u : Value) (h1 : S r) : FS S w (w'.setCell ⟨r, o, none⟩ u) :=
  ⟨h.1, by simpa [World.setCell] using h.2.1, fun k hk hkk => by rw [Below.heap_setCell _ _ _ _ (by show k ≠ r; exact fun e => hkk (e ▸ h1))]; exact h.2.2 k hk hkk⟩
theorem FS.up {S : Nat → Prop} {w w' w2 : World} (h : FS S w w') (hb : Below w'.heap.size w' w2) : FS S w w2 :=
  ⟨h.1.trans ⟨hb.os, hb.tape, hb.output⟩, Nat.le_trans h.2.1 hb.size, fun k hk hkk => (hb.block k (Nat.lt_of_lt_of_le hk h.2.1)).trans (h.2.2 k hk hkk)⟩
theorem FS.trans {S : Nat → Prop} {w w1 w2 : World} (h : FS S w w1) (k : FS S w1 w2) : FS S w w2 :=
  ⟨h.1.trans k.1, Nat.le_trans h.2.1 k.2.1, fun q hq hs => (k.2.2 q (Nat.lt_of_lt_of_le hq h.2.1) hs).trans (h.2.2 q hq hs)⟩
end Go.Proofs.Ytljnffanajcifaa
