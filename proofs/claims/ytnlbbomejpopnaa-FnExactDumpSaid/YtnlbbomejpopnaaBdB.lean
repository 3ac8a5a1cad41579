/- A strings.Builder that has written nothing: its text. -/
import Derived.Test.YtnlbbomejpopnaaBdA
namespace Go.Proofs.Ytnlbbomejpopnaa
open Go.RowKit

set_option maxHeartbeats 1000000 in
set_option maxRecDepth 100000 in
theorem bdText0 (b : Nat) (w : World) (h : Bd b w []) :
    Calls Try.prog 82 #[.pointer (some ⟨b, 0, none⟩)] w fun e w' => e = .returned (.string ByteArray.empty) ∧ Below b w w' := by
  obtain ⟨p, -, v, hbk, hown, -⟩ : ∃ p, Lib.BuilderAt 105 5 b b p (Lib.byteCells []) w := h.elim (fun x => ⟨_, x⟩) (fun x => ⟨_, x⟩)
  have c1 : w.drew.cell? ⟨b, 1, none⟩ = some v := by
    have : w.drew.heap[b]? = some (.cells #[p, v] 105 (0, 0)) := hbk
    rw [Lib.cell_of_heap this]; rfl
  have mixed : Try.prog.follows Departure.mixedOrders = true := by kernel_rfl
  have hbl : b < w.heap.size := blk_lt hbk
  have e0 : (Lib.byteCells []).length = 0 := rfl
  rw [e0] at hown
  clear h hbk
  rcases hown.2 with ⟨rfl, -⟩ | ⟨g, cap, cur, rfl, -, hg, -⟩
  · have hSD : (Builtin.unsafeSliceData_ #[22] 130 #[.slice none 0 0]).run Try.prog w.drew = .ok (.pointer none) w.drew := Lib.run_unsafeSliceData_nil _ _ _ _ _
    have hUS : (Builtin.unsafeString_ #[130, 3] 9 #[.pointer none, .int .i64 0]).run Try.prog w.drew = .ok (.string .empty) w.drew := Lib.run_unsafeString_none _ _ _ _ _
    have HE : Hid (Below b w w.drew) := Below.drew (Below.refl b w)
    clear hown
    go_enter Try.func82, Try.ntmps82
    go_wp2
    go_region_o
    all_goals
      go_wp2
      go_ret
      exact ⟨rfl, HE.out⟩
  · rcases Nat.eq_zero_or_pos cap with rfl | hcap
    · have hsh : w.drew.shape? g = some (5, cur.size) := by
        have hg2 : w.drew.heap[g]? = some (.cells cur 5 (0, 0)) := hg
        simp [World.shape?, hg2]
      have hSD : (Builtin.unsafeSliceData_ #[22] 130 #[.slice (some ⟨g, 0, none⟩) 0 0]).run Try.prog w.drew = .ok (.pointer (some ⟨w.heap.size, 0, none⟩)) ((w.alloc (.view ⟨g, 0, none⟩ 5)).drew) := Lib.run_unsafeSliceData_zero w.drew _ _ 5 Try.underlying130 ⟨g, 0, none⟩ 0 _ hsh
      have hUS : (Builtin.unsafeString_ #[130, 3] 9 #[.pointer (some ⟨w.heap.size, 0, none⟩), .int .i64 0]).run Try.prog (w.alloc (.view ⟨g, 0, none⟩ 5)).drew = .ok (.string .empty) (w.alloc (.view ⟨g, 0, none⟩ 5)).drew := Lib.run_unsafeString_none _ _ _ _ _
      have c2 : w.cell? ⟨b, 1, none⟩ = some (.slice (some ⟨g, 0, none⟩) 0 0) := c1
      have HE : Hid (Below b w (w.alloc (.view ⟨g, 0, none⟩ 5)).drew) := ((Below.refl b w).alloc (by omega) _).drew
      clear hown hg hsh
      go_enter Try.func82, Try.ntmps82
      go_wp2
      go_region_o
      all_goals
        go_wp2
        go_ret
        exact ⟨rfl, HE.out⟩
    · have hSD : (Builtin.unsafeSliceData_ #[22] 130 #[.slice (some ⟨g, 0, none⟩) 0 cap]).run Try.prog w.drew = .ok (.pointer (some ⟨g, 0, none⟩)) w.drew := Lib.run_unsafeSliceData_row _ _ _ _ _ _ (by omega)
      have hUS : (Builtin.unsafeString_ #[130, 3] 9 #[.pointer (some ⟨g, 0, none⟩), .int .i64 0]).run Try.prog w.drew = .ok (.string .empty) w.drew := Lib.run_unsafeString_none _ _ _ _ _
      have HE : Hid (Below b w w.drew) := Below.drew (Below.refl b w)
      clear hown hg
      go_enter Try.func82, Try.ntmps82
      go_wp2
      go_region_o
      all_goals
        go_wp2
        go_ret
        exact ⟨rfl, HE.out⟩
#print axioms bdText0
end Go.Proofs.Ytnlbbomejpopnaa
