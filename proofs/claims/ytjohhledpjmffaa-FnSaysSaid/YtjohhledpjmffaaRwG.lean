/- The specification's copy of a store: rows of its own that may grow. -/
import Derived.Test.YtjohhledpjmffaaRwE
namespace Go.Proofs.Ytjohhledpjmffaa
open Go.RowKit

theorem rowLow {B B' : Nat} {w : World} {e : TypeId} {sz : Nat} {v : Value} {n : Nat} {cs : List Value} (h : w.ownsRow B e sz v n cs) (hB : B' ≤ B) : w.ownsRow B' e sz v n cs := by
  refine ⟨h.1, ?_⟩
  rcases h.2 with hn | ⟨g, cap, cur, rfl, h1, hg, rest⟩
  · exact .inl hn
  · exact .inr ⟨g, cap, cur, rfl, by omega, hg, rest⟩
set_option maxRecDepth 100000 in
set_option maxHeartbeats 4000000 in
theorem spCopyRow (tv lv : Value) (o : ByteArray) (vs : List Vr) (cs : List Cl) (w : World) (h1 : VrAt w tv vs) (h2 : ClAt w lv cs) (hs : StSmall vs cs o) :
    Calls Try.prog 44 #[.agg #[tv, lv, .string o]] w fun e w' => ∃ u x, e = .returned (.agg #[u, x, .string o]) ∧ VrRow w.heap.size w' u vs ∧ ClRow w.heap.size w' x cs ∧ Below w.heap.size w w' := by
  have HV : Hid (∀ W, Below w.heap.size w W → VrAt W tv vs ∧ ClAt W lv cs) := fun W hb => ⟨h1.keep hb, h2.keep hb⟩
  have HL : Hid (vs.length ≤ 1048576 ∧ cs.length ≤ 1048576) := ⟨hs.1, hs.2.2.1⟩
  obtain ⟨ad, c, rfl, -⟩ := h1
  obtain ⟨bd, d, rfl, -⟩ := h2
  obtain ⟨n, hn⟩ : ∃ n, n = vs.length := ⟨_, rfl⟩
  obtain ⟨m, hm⟩ : ∃ m, m = cs.length := ⟨_, rfl⟩
  rw [← hn, ← hm] at HV
  rw [← hn, ← hm]
  clear hn hm hs
  have HB : Hid (Below w.heap.size w ((w.alloc (.cells #[.slice ad n c, .slice bd m d, .string o] 27)).alloc (.cells #[.slice none 0 0, .slice none 0 0, .string ByteArray.empty] 27))) := ((Below.refl _ _).alloc (Nat.le_refl _) _).alloc (by simp) _
  have q0 := s2_0 w (.cells #[.slice ad n c, .slice bd m d, .string o] 27) (.cells #[.slice none 0 0, .slice none 0 0, .string ByteArray.empty] 27)
  have q1 := s2_1 w (.cells #[.slice ad n c, .slice bd m d, .string o] 27) (.cells #[.slice none 0 0, .slice none 0 0, .string ByteArray.empty] 27)
  have hz : w.heap.size + 1 < ((w.alloc (.cells #[.slice ad n c, .slice bd m d, .string o] 27)).alloc (.cells #[.slice none 0 0, .slice none 0 0, .string ByteArray.empty] 27)).heap.size := by simp
  have HZ : Hid _ := And.intro q1 hz
  have z0 := blk_cell q0 0
  have z1 := blk_cell q0 1
  have z2 := blk_cell q0 2
  simp only [List.getElem?_toArray, List.getElem?_cons_zero, List.getElem?_cons_succ] at z0 z1 z2
  clear q0 q1 hz
  go_enter Try.func44, Try.ntmps44
  go_wp2_with fail
  change Code.wp _ _ _ _ ((w.alloc (.cells #[.slice ad n c, .slice bd m d, .string o] 27)).alloc (.cells #[.slice none 0 0, .slice none 0 0, .string ByteArray.empty] 27))
  generalize (w.alloc (.cells #[.slice ad n c, .slice bd m d, .string o] 27)).alloc (.cells #[.slice none 0 0, .slice none 0 0, .string ByteArray.empty] 27) = W0 at *
  have HST : Hid (∀ W, Below W0.heap.size W0 W → W.heap[w.heap.size + 1]? = some (.cells #[.slice none 0 0, .slice none 0 0, .string ByteArray.empty] 27 (0, 0))) := fun W hb => (hb.block _ HZ.out.2).trans HZ.out.1
  have HW0 : Hid (∀ W, Below W0.heap.size W0 W → Below w.heap.size w W) := fun W hb => HB.out.trans (hb.mono HB.out.size)
  have hlt : w.heap.size < W0.heap.size := by have := HZ.out.2; omega
  go_region_held3 (fun W => W.cell? ⟨w.heap.size, 0, none⟩ = some (.slice ad n c) ∧ W.cell? ⟨w.heap.size, 1, none⟩ = some (.slice bd m d) ∧ W.cell? ⟨w.heap.size, 2, none⟩ = some (.string o)) (first | exact ⟨cell_bel B2.out hlt z0, cell_bel B2.out hlt z1, cell_bel B2.out hlt z2⟩ | exact ⟨cell_bel B1.out hlt z0, cell_bel B1.out hlt z1, cell_bel B1.out hlt z2⟩ | go_keep | exact ⟨z0, z1, z2⟩ | assumption)
    ((first
      | (refine VrRow.stepAll (B := W0.heap.size) (W := W0.drew.alloc (.cells #[] 35)) (x := .slice ad n c) (xs := vs) (by rfl) _ _ (by rfl) (W0.heap.size) (by rfl) (heap_alloc_new W0.drew (.cells #[] 35)) (by omega) (by rfl) (HV.out _ (HW0.out _ ((Below.refl W0.heap.size W0).drew.alloc (Nat.le_refl _) (.cells #[] 35)))).1 HL.out.1 ?_; intro ua uc w1 hr1 hg1; have B1 : Hid (Below W0.heap.size W0 w1) := ((Below.refl W0.heap.size W0).drew.alloc (Nat.le_refl _) (.cells #[] 35)).grown hg1 (by simp; try omega) (fun k hk => by simp at hk; omega))
      | (refine VrRow.stepAll (B := W0.heap.size) (W := (W0.drew.alloc (.cells #[] 35)).alloc (.cells #[] 41)) (x := .slice ad n c) (xs := vs) (by rfl) _ _ (by rfl) (W0.heap.size) (by rfl) (s2_0 W0.drew (.cells #[] 35) (.cells #[] 41)) (by omega) (by rfl) (HV.out _ (HW0.out _ (((Below.refl W0.heap.size W0).drew.alloc (Nat.le_refl _) (.cells #[] 35)).alloc (by simp) (.cells #[] 41)))).1 HL.out.1 ?_; intro ua uc w1 hr1 hg1; have B1 : Hid (Below W0.heap.size W0 w1) := (((Below.refl W0.heap.size W0).drew.alloc (Nat.le_refl _) (.cells #[] 35)).alloc (by simp) (.cells #[] 41)).grown hg1 (by simp; try omega) (fun k hk => by simp at hk; omega); have HC : Hid (w1.heap[W0.heap.size + 1]? = some (.cells #[] 41 (0, 0))) := (hg1.block (W0.heap.size + 1) (by simp) (by simp)).trans (s2_1 W0.drew (.cells #[] 35) (.cells #[] 41)))
      | (refine VrRow.stepAll (B := W0.heap.size) (W := (W0.drew.alloc (.cells #[] 41)).alloc (.cells #[] 35)) (x := .slice ad n c) (xs := vs) (by rfl) _ _ (by rfl) (W0.heap.size + 1) (by rfl) (s2_1 W0.drew (.cells #[] 41) (.cells #[] 35)) (by omega) (by rfl) (HV.out _ (HW0.out _ (((Below.refl W0.heap.size W0).drew.alloc (Nat.le_refl _) (.cells #[] 41)).alloc (by simp) (.cells #[] 35)))).1 HL.out.1 ?_; intro ua uc w1 hr1 hg1; have B1 : Hid (Below W0.heap.size W0 w1) := (((Below.refl W0.heap.size W0).drew.alloc (Nat.le_refl _) (.cells #[] 41)).alloc (by simp) (.cells #[] 35)).grown hg1 (by simp; try omega) (fun k hk => by simp at hk; omega); have HC : Hid (w1.heap[W0.heap.size]? = some (.cells #[] 41 (0, 0))) := (hg1.block W0.heap.size (by simp; try omega) (by simp)).trans (s2_0 W0.drew (.cells #[] 41) (.cells #[] 35)))
      | (refine ClRow.stepAll (B := W0.heap.size) (W := w1.alloc (.cells #[] 41)) (x := .slice bd m d) (xs := cs) (by rfl) _ _ (by rfl) w1.heap.size (by rfl) (heap_alloc_new w1 (.cells #[] 41)) B1.out.size (by rfl) (HV.out _ (HW0.out _ (B1.out.alloc B1.out.size _))).2 HL.out.2 ?_; intro xa xc w2 hr2 hg2; have B2 : Hid (Below W0.heap.size W0 w2) := (B1.out.alloc B1.out.size (.cells #[] 41)).grown hg2 (by have := B1.out.size; simp; omega) (fun k hk => by have := B1.out.size; simp at hk; omega); have HU2 : Hid (VrRow W0.heap.size w2 (.slice ua vs.length uc) vs) := rowKeep hr1 (fun q hq => (hg2.block q (by have := (World.ownsRow.lt hr1 q hq).2; simp; omega) (by have := (World.ownsRow.lt hr1 q hq).2; simp; omega)).trans (((Below.refl w1.heap.size w1).alloc (Nat.le_refl _) (.cells #[] 41)).block q (World.ownsRow.lt hr1 q hq).2)); have HX2 : Hid (ClRow W0.heap.size w2 (.slice xa cs.length xc) cs) := hr2; have R3 := HST.out w2 B2.out; have y0 : w2.cell? ⟨w.heap.size + 1, 0, none⟩ = some (.slice none 0 0) := (blk_cell R3 0).trans rfl; have y1 : w2.cell? ⟨w.heap.size + 1, 1, none⟩ = some (.slice none 0 0) := (blk_cell R3 1).trans rfl; have y2 : w2.cell? ⟨w.heap.size + 1, 2, none⟩ = some (.string ByteArray.empty) := (blk_cell R3 2).trans rfl; have f0 := blk_free R3 0; have f1 := blk_free R3 1; have f2 := blk_free R3 2; clear R3)
      | (refine ClRow.stepAll (B := W0.heap.size) (W := w1) (x := .slice bd m d) (xs := cs) (by rfl) _ _ (by rfl) (W0.heap.size + 1) (by rfl) HC.out (by omega) (by rfl) (HV.out _ (HW0.out _ B1.out)).2 HL.out.2 ?_; intro xa xc w2 hr2 hg2; have B2 : Hid (Below W0.heap.size W0 w2) := B1.out.grown hg2 B1.out.size (fun k hk => by simp at hk; omega); have HU2 : Hid (VrRow W0.heap.size w2 (.slice ua vs.length uc) vs) := rowKeep hr1 (fun q hq => hg2.block q (World.ownsRow.lt hr1 q hq).2 (fun e => rowNe hr1 HC.out (hq.trans e))); have HX2 : Hid (ClRow W0.heap.size w2 (.slice xa cs.length xc) cs) := hr2; have R3 := HST.out w2 B2.out; have y0 : w2.cell? ⟨w.heap.size + 1, 0, none⟩ = some (.slice none 0 0) := (blk_cell R3 0).trans rfl; have y1 : w2.cell? ⟨w.heap.size + 1, 1, none⟩ = some (.slice none 0 0) := (blk_cell R3 1).trans rfl; have y2 : w2.cell? ⟨w.heap.size + 1, 2, none⟩ = some (.string ByteArray.empty) := (blk_cell R3 2).trans rfl; have f0 := blk_free R3 0; have f1 := blk_free R3 1; have f2 := blk_free R3 2; clear R3)
      | (refine ClRow.stepAll (B := W0.heap.size) (W := w1) (x := .slice bd m d) (xs := cs) (by rfl) _ _ (by rfl) (W0.heap.size) (by rfl) HC.out (by omega) (by rfl) (HV.out _ (HW0.out _ B1.out)).2 HL.out.2 ?_; intro xa xc w2 hr2 hg2; have B2 : Hid (Below W0.heap.size W0 w2) := B1.out.grown hg2 B1.out.size (fun k hk => by simp at hk; omega); have HU2 : Hid (VrRow W0.heap.size w2 (.slice ua vs.length uc) vs) := rowKeep hr1 (fun q hq => hg2.block q (World.ownsRow.lt hr1 q hq).2 (fun e => rowNe hr1 HC.out (hq.trans e))); have HX2 : Hid (ClRow W0.heap.size w2 (.slice xa cs.length xc) cs) := hr2; have R3 := HST.out w2 B2.out; have y0 : w2.cell? ⟨w.heap.size + 1, 0, none⟩ = some (.slice none 0 0) := (blk_cell R3 0).trans rfl; have y1 : w2.cell? ⟨w.heap.size + 1, 1, none⟩ = some (.slice none 0 0) := (blk_cell R3 1).trans rfl; have y2 : w2.cell? ⟨w.heap.size + 1, 2, none⟩ = some (.string ByteArray.empty) := (blk_cell R3 2).trans rfl; have f0 := blk_free R3 0; have f1 := blk_free R3 1; have f2 := blk_free R3 2; clear R3)))
  all_goals
    have HSZ : Hid (w.heap.size + 1 < W0.heap.size ∧ W0.heap.size ≤ w2.heap.size) := ⟨HZ.out.2, B2.out.size⟩
    have HRR : Hid _ := HST.out w2 B2.out
    clear hr1 hg1 hr2 hg2
    go_wp2_with fail
    refine bodyPost_ret (results_cell_row (p := 2) (ty := 27) rfl _ _ (w.heap.size + 1) 27 _ (0, 0) _ rfl (blk_set (blk_set (blk_set HRR.out 0 _) 1 _) 2 _) Try.underlying27 rfl (by kernel_rfl)) rfl ?_
    have hsz := HSZ.out
    have hk : ∀ b, W0.heap.size ≤ b → (((w2.setCell ⟨w.heap.size + 1, 0, none⟩ (.slice ua vs.length uc)).setCell ⟨w.heap.size + 1, 1, none⟩ (.slice xa cs.length xc)).setCell ⟨w.heap.size + 1, 2, none⟩ (.string o)).heap[b]? = w2.heap[b]? := fun b hb => by
      rw [Below.heap_setCell _ _ _ _ (by show b ≠ w.heap.size + 1; omega), Below.heap_setCell _ _ _ _ (by show b ≠ w.heap.size + 1; omega), Below.heap_setCell _ _ _ _ (by show b ≠ w.heap.size + 1; omega)]
    refine ⟨_, _, rfl, ?_, ?_, ?_⟩
    · exact rowLow (rowKeep HU2.out (fun q hq => hk q (World.ownsRow.lt HU2.out q hq).1)) (by omega)
    · exact rowLow (rowKeep HX2.out (fun q hq => hk q (World.ownsRow.lt HX2.out q hq).1)) (by omega)
    · exact (((HW0.out _ B2.out).setCell (by show _ ≤ w.heap.size + 1; omega) _).setCell (by show _ ≤ w.heap.size + 1; omega) _).setCell (by show _ ≤ w.heap.size + 1; omega) _
end Go.Proofs.Ytjohhledpjmffaa
