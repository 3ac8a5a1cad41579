/- Code in memory: how great it is, the law's own copy of it, two of the same, what is handed in. -/
import Derived.Test.YtbghghflepjdkaaZaf
import Derived.Test.YtbghghflepjdkaaZaj
namespace Go.Proofs.Ytbghghflepjdkaa
open Go.RowKit

set_option maxHeartbeats 800000 in
theorem eqCode_any (v1 r1 v2 r2 : Value) (bg ln en : Int) (ts : List ByteArray) (xs : List Ins) (w : World) (h1 : TsAt w v1 ts) (g1 : InsAt w r1 xs) (h2 : TsAt w v2 ts) (g2 : InsAt w r2 xs) (hl : ts.length ≤ 1048576) (hlr : xs.length ≤ 1048576) :
    Calls Try.prog 6 #[.agg #[v1, r1, .int .i64 bg, .int .i64 ln, .int .i64 en], .agg #[v2, r2, .int .i64 bg, .int .i64 ln, .int .i64 en]] w fun e w' => e = .returned (.bool true) ∧ Below w.heap.size w w' := by
  have CC : Hid (∀ w', Below w.heap.size w w' → Calls Try.prog 17 #[v1, v2] w' fun e w'' => e = .returned (.bool true) ∧ Below w'.heap.size w' w'') := fun w' hb => eqTs_any v1 v2 ts w' (h1.keep hb) (h2.keep hb) hl
  have CR : Hid (∀ w', Below w.heap.size w w' → Calls Try.prog 18 #[r1, r2] w' fun e w'' => e = .returned (.bool true) ∧ Below w'.heap.size w' w'') := fun w' hb => eqInss_any r1 r2 xs w' (g1.keep hb) (g2.keep hb) hlr
  obtain ⟨a1, c1, rfl, -⟩ := h1
  obtain ⟨a2, c2, rfl, -⟩ := h2
  obtain ⟨d1, e1, rfl, -⟩ := g1
  obtain ⟨d2, e2, rfl, -⟩ := g2
  have q1 : (bg != bg) = false := by simp
  have q2 : (ln != ln) = false := by simp
  have q3 : (en != en) = false := by simp
  have HB : Hid (Below w.heap.size w ((w.alloc (.cells #[.slice a1 ts.length c1, .slice d1 xs.length e1, .int .i64 bg, .int .i64 ln, .int .i64 en] 25)).alloc (.cells #[.slice a2 ts.length c2, .slice d2 xs.length e2, .int .i64 bg, .int .i64 ln, .int .i64 en] 25))) := ((Below.refl _ _).alloc (Nat.le_refl _) _).alloc (by simp) _
  have R0 := alloc2_0 w (.cells #[.slice a1 ts.length c1, .slice d1 xs.length e1, .int .i64 bg, .int .i64 ln, .int .i64 en] 25) (.cells #[.slice a2 ts.length c2, .slice d2 xs.length e2, .int .i64 bg, .int .i64 ln, .int .i64 en] 25)
  have R1 := alloc2_1 w (.cells #[.slice a1 ts.length c1, .slice d1 xs.length e1, .int .i64 bg, .int .i64 ln, .int .i64 en] 25) (.cells #[.slice a2 ts.length c2, .slice d2 xs.length e2, .int .i64 bg, .int .i64 ln, .int .i64 en] 25)
  have hz : w.heap.size + 2 ≤ ((w.alloc (.cells #[.slice a1 ts.length c1, .slice d1 xs.length e1, .int .i64 bg, .int .i64 ln, .int .i64 en] 25)).alloc (.cells #[.slice a2 ts.length c2, .slice d2 xs.length e2, .int .i64 bg, .int .i64 ln, .int .i64 en] 25)).heap.size := by simp
  have HR : Hid _ := And.intro R0 R1
  clear R0 R1
  go_enter Try.func6, Try.ntmps6
  go_wp2_with fail
  generalize (w.alloc (.cells #[.slice a1 ts.length c1, .slice d1 xs.length e1, .int .i64 bg, .int .i64 ln, .int .i64 en] 25)).alloc (.cells #[.slice a2 ts.length c2, .slice d2 xs.length e2, .int .i64 bg, .int .i64 ln, .int .i64 en] 25) = W at *
  refine (CC.out _ HB.out).mono ?_
  rintro e w1 ⟨rfl, hb1⟩
  have x1 := blk_cell ((hb1.block w.heap.size (by omega)).trans HR.out.1) 1
  have x2 := blk_cell ((hb1.block (w.heap.size + 1) (by omega)).trans HR.out.2) 1
  simp only [List.getElem?_toArray, List.getElem?_cons_zero, List.getElem?_cons_succ] at x1 x2
  have HB1 : Hid (Below w.heap.size w w1) := HB.out.trans (hb1.mono HB.out.size)
  have HW1 : Hid (Below W.heap.size W w1) := hb1
  clear hb1 CC
  go_wp2_with fail
  refine (CR.out _ HB1.out).mono ?_
  rintro e w2 ⟨rfl, hb2⟩
  have HW2 : Hid (Below W.heap.size W w2) := HW1.out.trans (hb2.mono HW1.out.size)
  have R0 := (HW2.out.block w.heap.size (by omega)).trans HR.out.1
  have R1 := (HW2.out.block (w.heap.size + 1) (by omega)).trans HR.out.2
  have y2 := blk_cell R0 2
  have y3 := blk_cell R0 3
  have y4 := blk_cell R0 4
  have z2 := blk_cell R1 2
  have z3 := blk_cell R1 3
  have z4 := blk_cell R1 4
  simp only [List.getElem?_toArray, List.getElem?_cons_zero, List.getElem?_cons_succ] at y2 y3 y4 z2 z3 z4
  have HB2 : Hid (Below w.heap.size w w2) := HB1.out.trans (hb2.mono HB1.out.size)
  clear hb2 CR x1 x2 R0 R1 HW1 HW2 HR
  go_wp2
  go_ret
  exact ⟨rfl, HB2.out⟩

end Go.Proofs.Ytbghghflepjdkaa
