/- Small laws for the walks: make of bytes, and rows of bytes that are read and written in place. -/
import Derived.Test.YteajkkcelajadaaKit
namespace Go.Proofs.Yteajkkcelajadaa
open Go.RowKit

/-- The place of a row that holds something. -/
theorem Row.at {B : Nat} {w : World} {v : Value} {bs : List UInt8} (h : Row B w v bs) (hne : bs ≠ []) : ∃ g cap, v = .slice (some ⟨g, 0, none⟩) bs.length cap ∧ B ≤ g ∧ g < w.heap.size := by
  rcases h.2 with ⟨_, h0⟩ | ⟨g, cap, cur, rfl, hb, hg, _⟩
  · exact absurd (by simpa using h0) hne
  · exact ⟨g, cap, rfl, hb, (Array.getElem?_eq_some_iff.1 hg).1⟩
theorem Row.cell {B : Nat} {w : World} {g cap n : Nat} {bs : List UInt8} (h : Row B w (.slice (some ⟨g, 0, none⟩) n cap) bs) (hn : bs.length = n) (j : Nat) (hj : j < n) : w.cell? ⟨g, j, none⟩ = some (.int .u8 ((bs.getD j 0).toNat : Int)) := by
  subst hn
  have := World.ownsRow.cellAt h j (by omega)
  rw [this]
  simp [hj, bv]
end Go.Proofs.Yteajkkcelajadaa
