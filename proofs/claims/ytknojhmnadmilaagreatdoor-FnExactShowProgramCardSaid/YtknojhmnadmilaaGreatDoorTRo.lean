/- Rows of trees in a call's own memory. -/
import Derived.Test.YtknojhmnadmilaaGreatDoorTrC
namespace Go.Proofs.YtknojhmnadmilaaGreatDoor
open Go.RowKit

theorem Tryz.infoT : (Tryz.prog.info? 57).map (fun i => (i.zero, i.size, i.bytes)) = some (some .nilIface, 1, 16) := by kernel_rfl
/-- The row of the trees ks, in the call's own memory from block B on. -/
def TRow (B : Nat) (w : World) (v : Value) (ks : List (TypeId × Value)) : Prop := w.ownsRow B 57 1 v ks.length (ks.map tv)
theorem TRow.keep {B : Nat} {w w' : World} {v : Value} {ks : List (TypeId × Value)} (h : TRow B w v ks) (hb : Below w.heap.size w w') : TRow B w' v ks := by
  refine ⟨h.1, ?_⟩
  rcases h.2 with hn | ⟨g, cap, cur, rfl, h1, hg, rest⟩
  · exact .inl hn
  · refine .inr ⟨g, cap, cur, rfl, h1, ?_, rest⟩
    rw [hb.block g (Array.getElem?_eq_some_iff.1 hg).1]
    exact hg
theorem TRow.cells {B : Nat} {w : World} {g n cap : Nat} {ks : List (TypeId × Value)} (h : TRow B w (.slice (some ⟨g, 0, none⟩) n cap) ks) (hn : ks.length = n) (j : Nat) (hj : j < n) : w.cell? ⟨g, j, none⟩ = some (tv (ks.getD j tno)) := by
  subst hn
  rw [World.ownsRow.cellAt h j (by omega)]
  simp [hj]
theorem TRow.form {B : Nat} {w : World} {v : Value} {ks : List (TypeId × Value)} (h : TRow B w v ks) : ∃ ad cp, v = .slice ad ks.length cp := by
  rcases h.2 with ⟨rfl, hn⟩ | ⟨g, cap, cur, rfl, -⟩
  · exact ⟨none, 0, by rw [hn]⟩
  · exact ⟨_, _, rfl⟩
#print axioms TRow.cells
end Go.Proofs.YtknojhmnadmilaaGreatDoor
