/- A store in memory: how great it is, the law's own copy of it, two of the same, what is handed in. -/
import Derived.Test.YtbaoadfnmicijaaMPRsStV
import Derived.Test.YtbaoadfnmicijaaMPRsStC
namespace Go.Proofs.Ytbaoadfnmicijaa
open Go.RowKit

theorem s2_1 (w : World) (A B : Obj) : ((w.alloc A).alloc B).heap[w.heap.size + 1]? = some B := by
  show ((w.heap.push A).push B)[w.heap.size + 1]? = some B
  rw [Array.getElem?_push]
  simp
theorem s2_0 (w : World) (A B : Obj) : ((w.alloc A).alloc B).heap[w.heap.size]? = some A := by
  show ((w.heap.push A).push B)[w.heap.size]? = some A
  rw [Array.getElem?_push, if_neg (by simp), Array.getElem?_push]
  simp
/-- A store that is not great. -/
def StSmall (vs : List Vr) (cs : List Cl) (o : ByteArray) : Prop :=
  vs.length ≤ 1048576 ∧ VrSmall vs vs.length ∧ cs.length ≤ 1048576 ∧ ClSmall cs cs.length ∧ o.size ≤ 1048576

set_option maxHeartbeats 800000 in
theorem eqStore_any (v1 r1 v2 r2 : Value) (o : ByteArray) (vs : List Vr) (cs : List Cl) (w : World) (h1 : VrAt w v1 vs) (g1 : ClAt w r1 cs) (h2 : VrAt w v2 vs) (g2 : ClAt w r2 cs) (hl : vs.length ≤ 1048576) (hlr : cs.length ≤ 1048576) :
    Calls Try.prog 10 #[.agg #[v1, r1, .string o], .agg #[v2, r2, .string o]] w fun e w' => e = .returned (.bool true) ∧ Below w.heap.size w w' := by
  have CC : Hid (∀ w', Below w.heap.size w w' → Calls Try.prog 31 #[v1, v2] w' fun e w'' => e = .returned (.bool true) ∧ Below w'.heap.size w' w'') := fun w' hb => eqVrs_any v1 v2 vs w' (h1.keep hb) (h2.keep hb) hl
  have CR : Hid (∀ w', Below w.heap.size w w' → Calls Try.prog 32 #[r1, r2] w' fun e w'' => e = .returned (.bool true) ∧ Below w'.heap.size w' w'') := fun w' hb => eqCls_any r1 r2 cs w' (g1.keep hb) (g2.keep hb) hlr
  obtain ⟨a1, c1, rfl, -⟩ := h1
  obtain ⟨a2, c2, rfl, -⟩ := h2
  obtain ⟨d1, e1, rfl, -⟩ := g1
  obtain ⟨d2, e2, rfl, -⟩ := g2
  have HB : Hid (Below w.heap.size w ((w.alloc (.cells #[.slice a1 vs.length c1, .slice d1 cs.length e1, .string o] 32)).alloc (.cells #[.slice a2 vs.length c2, .slice d2 cs.length e2, .string o] 32))) := ((Below.refl _ _).alloc (Nat.le_refl _) _).alloc (by simp) _
  have R0 := s2_0 w (.cells #[.slice a1 vs.length c1, .slice d1 cs.length e1, .string o] 32) (.cells #[.slice a2 vs.length c2, .slice d2 cs.length e2, .string o] 32)
  have R1 := s2_1 w (.cells #[.slice a1 vs.length c1, .slice d1 cs.length e1, .string o] 32) (.cells #[.slice a2 vs.length c2, .slice d2 cs.length e2, .string o] 32)
  have hz : w.heap.size + 2 ≤ ((w.alloc (.cells #[.slice a1 vs.length c1, .slice d1 cs.length e1, .string o] 32)).alloc (.cells #[.slice a2 vs.length c2, .slice d2 cs.length e2, .string o] 32)).heap.size := by simp
  have HR : Hid _ := And.intro R0 R1
  clear R0 R1
  go_enter Try.func10, Try.ntmps10
  go_wp2_with fail
  generalize (w.alloc (.cells #[.slice a1 vs.length c1, .slice d1 cs.length e1, .string o] 32)).alloc (.cells #[.slice a2 vs.length c2, .slice d2 cs.length e2, .string o] 32) = W at *
  refine (CC.out _ HB.out).mono ?_
  rintro e w1 ⟨rfl, hb1⟩
  have x1 := blk_cell ((hb1.block w.heap.size (by omega)).trans HR.out.1) 1
  have x2 := blk_cell ((hb1.block (w.heap.size + 1) (by omega)).trans HR.out.2) 1
  simp only [List.getElem?_toArray, List.getElem?_cons_zero, List.getElem?_cons_succ] at x1 x2
  have HB1 : Hid (Below w.heap.size w w1) := HB.out.trans (hb1.mono HB.out.size)
  have HW1 : Hid (Below W.heap.size W w1) := hb1
  clear hb1 CC
  go_wp2_with fail
  refine (CR.out _ HB1.out).mono ?_
  rintro e w2 ⟨rfl, hb2⟩
  have HW2 : Hid (Below W.heap.size W w2) := HW1.out.trans (hb2.mono HW1.out.size)
  have R0 := (HW2.out.block w.heap.size (by omega)).trans HR.out.1
  have R1 := (HW2.out.block (w.heap.size + 1) (by omega)).trans HR.out.2
  have y2 := blk_cell R0 2
  have z2 := blk_cell R1 2
  simp only [List.getElem?_toArray, List.getElem?_cons_zero, List.getElem?_cons_succ] at y2 z2
  have HB2 : Hid (Below w.heap.size w w2) := HB1.out.trans (hb2.mono HB1.out.size)
  clear hb2 CR x1 x2 R0 R1 HW1 HW2 HR
  go_wp2
  go_ret
  exact ⟨rfl, HB2.out⟩

end Go.Proofs.Ytbaoadfnmicijaa
