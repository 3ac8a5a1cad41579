/- What ShowProgram of the program answers: any program. -/
import Derived.Test.YtknojhmnadmilaaGreatDoorTrK
namespace Go.Proofs.YtknojhmnadmilaaGreatDoor
open Go.RowKit

theorem implShow_any (v rv : Value) (ps : List Pi) (rs : List Pg.Rl) (w : World) (h : PcsAt w v ps) (hr : RlsAt w rv rs) (h2 : TwoS w) (hl : ps.length ≤ 1048576) (hl2 : rs.length ≤ 1048576) (hsm : Small ps ps.length) :
    Calls Tryz.prog 7 #[.agg #[v, rv]] w fun e w' => e = .returned (.tuple #[.string ⟨(Sh.shown ps rs).1.toArray⟩, .bool (Sh.shown ps rs).2]) ∧ Below w.heap.size w w' := by
  by_cases hok : Pg.ok ps rs = true
  · by_cases ht : Pg.total ps rs ≤ 2000
    · rw [show Sh.shown ps rs = (Sh.prog ps rs, true) by unfold Sh.shown; rw [if_pos ⟨hok, ht⟩]]
      exact implShow_yes v rv ps rs w h hr h2 hl hl2 hsm hok ht
    · rw [show Sh.shown ps rs = ([], false) by unfold Sh.shown; rw [if_neg (fun hh => ht hh.2)]]
      exact implShow_big v rv ps rs w h hr hl hl2 hsm hok (by omega)
  · rw [show Sh.shown ps rs = ([], false) by unfold Sh.shown; rw [if_neg (fun hh => hok hh.1)]]
    exact implShow_no v rv ps rs w h hr hl hl2 hsm (by simpa using hok)
theorem TwoS.below {w w' : World} (h : TwoS w) (hb : Below w.heap.size w w') : TwoS w' :=
  h.keep (X := w.heap.size) (by have := World.block_lt_of_cell? w _ h.1; simp at this; omega) (But.of hb)
#print axioms implShow_any
end Go.Proofs.YtknojhmnadmilaaGreatDoor
