/- Small laws for the walks: make of bytes, and rows of bytes that are read and written in place. A text of m bytes of one kind. The specification's copy of a store: rows of its own that may grow. -/
import Derived.Test.YtohhhhkhkgmanaaZai
import Derived.Test.YtohhhhkhkgmanaaZan
import Derived.Test.YtohhhhkhkgmanaaZal
namespace Go.Proofs.Ytohhhhkhkgmanaa
section PartKitM
open Go.RowKit

/-- make of n bytes, all nought. -/
theorem makeFull_run (n : Nat) (h : n ≤ 1000000000) : ∃ M : Array Value, M.size = n ∧ M.toList = (List.replicate n (0 : UInt8)).map bv ∧ ∀ W : World, (Instr.makeSlice 22 (.int .i64 (n : Int)) (.int .i64 (n : Int))).run Try.prog W = .ok (.slice (some ⟨W.heap.size, 0, none⟩) n n) (W.alloc (.cells M 5)) := by
  obtain ⟨i0, hi, hz0, hz1, hz2⟩ := info_parts Try.infoU
  refine ⟨madeCells (Value.int .u8 0).cells (((n : Nat) : Int).toNat * i0.size), ?_, ?_, fun W => ?_⟩
  · rw [size_madeCells, hz1]; simp
  · rw [hz1]
    have := toList_madeCells_one (.int .u8 0) n
    simp only [Int.toNat_natCast, Nat.mul_one, List.map_replicate]
    exact this
  · have h := run_make (P := Try.prog) W 22 5 i0 (.int .u8 0) Try.underlying22 hi hz0 .i64 .i64 (n : Int) (n : Int) (by omega) (by omega) (by rw [hz2]; omega) (by omega)
    simpa using h

theorem Row.full {B n : Nat} {M : Array Value} (w : World) (hB : B ≤ w.heap.size) (hn : n ≤ maxLen) (hs : M.size = n) (hM : M.toList = (List.replicate n (0 : UInt8)).map bv) :
    Row B (w.alloc (.cells M 5)) (.slice (some ⟨w.heap.size, 0, none⟩) n n) (List.replicate n 0) := by
  have := World.ownsRow_lit (base := B) (e := 5) (size := 1) w M n hB hn (by omega)
  unfold Row
  rw [hM] at this
  simpa using this

/-- The place of a row that holds something. -/
theorem Row.at {B : Nat} {w : World} {v : Value} {bs : List UInt8} (h : Row B w v bs) (hne : bs ≠ []) : ∃ g cap, v = .slice (some ⟨g, 0, none⟩) bs.length cap ∧ B ≤ g ∧ g < w.heap.size := by
  rcases h.2 with ⟨_, h0⟩ | ⟨g, cap, cur, rfl, hb, hg, _⟩
  · exact absurd (by simpa using h0) hne
  · exact ⟨g, cap, rfl, hb, (Array.getElem?_eq_some_iff.1 hg).1⟩
theorem Row.cell {B : Nat} {w : World} {g cap n : Nat} {bs : List UInt8} (h : Row B w (.slice (some ⟨g, 0, none⟩) n cap) bs) (hn : bs.length = n) (j : Nat) (hj : j < n) : w.cell? ⟨g, j, none⟩ = some (.int .u8 ((bs.getD j 0).toNat : Int)) := by
  subst hn
  have := World.ownsRow.cellAt h j (by omega)
  rw [this]
  simp [hj, bv]
theorem Row.free {B : Nat} {w : World} {g cap n : Nat} {bs : List UInt8} (h : Row B w (.slice (some ⟨g, 0, none⟩) n cap) bs) (hn : bs.length = n) (j : Nat) : w.frozen? ⟨g, j, none⟩ = false := by
  subst hn
  exact World.ownsRow.frozenAt h j
theorem Row.store {B : Nat} {w : World} {g cap n : Nat} {bs : List UInt8} (h : Row B w (.slice (some ⟨g, 0, none⟩) n cap) bs) (hn : bs.length = n) (j : Nat) (c : UInt8) :
    Row B (w.setCell ⟨g, j, none⟩ (.int .u8 (c.toNat : Int))) (.slice (some ⟨g, 0, none⟩) n cap) (bs.set j c) := by
  subst hn
  have := (World.ownsRow.stored h j (bv c)).1
  unfold Row
  rw [List.map_set, List.length_set]
  exact this

end PartKitM
section PartDLg
open Go.RowKit

set_option maxHeartbeats 1000000 in
set_option maxRecDepth 100000 in
/-- m bytes of one kind. -/
theorem long_any (m : Nat) (x : Nat) (w : World) (hm : m ≤ 1000000) (hx : x < 256) :
    Calls Try.prog 69 #[.int .i64 (m : Int), .int .u8 (x : Int)] w fun e w' => ∃ bs : List UInt8, bs.length = m ∧ e = .returned (.string ⟨bs.toArray⟩) ∧ Below w.heap.size w w' := by
  obtain ⟨M, hMs, hMl, hmk⟩ := makeFull_run m (by omega)
  go_enter Try.func69, Try.ntmps69
  go_wp2
  clear hmk
  go_loopw [6] (fun i wr => ∃ (k : Nat) (bs : List UInt8), i = .int .i64 (k : Int) ∧ k ≤ m ∧ Row w.heap.size wr (.slice (some ⟨w.heap.size, 0, none⟩) m m) bs ∧ Below w.heap.size w wr ∧ Hid (bs.length = m)) (fun i _ => m - (intOf i).toNat)
  case atStart => exact ⟨0, List.replicate m 0, rfl, by omega, Row.full w (Nat.le_refl _) (by unfold maxLen; omega) hMs hMl, (Below.refl _ _).alloc (Nat.le_refl _) _, (by show _ = _; simp)⟩
  case round =>
    obtain ⟨k, bs, rfl, hk, hrow, hbel, HL⟩ := hrel
    by_cases hlt : k < m
    · have hc := hrow.cell HL.out k hlt
      have hf := hrow.free HL.out k
      have hs := hrow.store HL.out k (UInt8.ofNat x)
      rw [Pl.small x hx] at hs
      have HS : Hid _ := hs
      clear hs
      go_wp2
      go_roundw
      case rel => exact ⟨k + 1, _, by go_num, by omega, HS.out, hbel.setCell (Nat.le_refl _) _, by have := HL.out; show _ = _; simpa using this⟩
      case measure => simp [intOf]; omega
    · have hst := hrow.str
      go_wp2
      go_ret
      exact ⟨bs, HL.out, rfl, hbel⟩

end PartDLg
section PartRwG
open Go.RowKit

theorem rowLow {B B' : Nat} {w : World} {e : TypeId} {sz : Nat} {v : Value} {n : Nat} {cs : List Value} (h : w.ownsRow B e sz v n cs) (hB : B' ≤ B) : w.ownsRow B' e sz v n cs := by
  refine ⟨h.1, ?_⟩
  rcases h.2 with hn | ⟨g, cap, cur, rfl, h1, hg, rest⟩
  · exact .inl hn
  · exact .inr ⟨g, cap, cur, rfl, by omega, hg, rest⟩
set_option maxRecDepth 100000 in
set_option maxHeartbeats 4000000 in
theorem spCopyRow (tv lv : Value) (o : ByteArray) (vs : List Vr) (cs : List Cl) (w : World) (h1 : VrAt w tv vs) (h2 : ClAt w lv cs) (hs : StSmall vs cs o) :
    Calls Try.prog 38 #[.agg #[tv, lv, .string o]] w fun e w' => ∃ u x, e = .returned (.agg #[u, x, .string o]) ∧ VrRow w.heap.size w' u vs ∧ ClRow w.heap.size w' x cs ∧ Below w.heap.size w w' := by
  have HV : Hid (∀ W, Below w.heap.size w W → VrAt W tv vs ∧ ClAt W lv cs) := fun W hb => ⟨h1.keep hb, h2.keep hb⟩
  have HL : Hid (vs.length ≤ 1048576 ∧ cs.length ≤ 1048576) := ⟨hs.1, hs.2.2.1⟩
  obtain ⟨ad, c, rfl, -⟩ := h1
  obtain ⟨bd, d, rfl, -⟩ := h2
  obtain ⟨n, hn⟩ : ∃ n, n = vs.length := ⟨_, rfl⟩
  obtain ⟨m, hm⟩ : ∃ m, m = cs.length := ⟨_, rfl⟩
  rw [← hn, ← hm] at HV
  rw [← hn, ← hm]
  clear hn hm hs
  have HB : Hid (Below w.heap.size w ((w.alloc (.cells #[.slice ad n c, .slice bd m d, .string o] 27)).alloc (.cells #[.slice none 0 0, .slice none 0 0, .string ByteArray.empty] 27))) := ((Below.refl _ _).alloc (Nat.le_refl _) _).alloc (by simp) _
  have q0 := s2_0 w (.cells #[.slice ad n c, .slice bd m d, .string o] 27) (.cells #[.slice none 0 0, .slice none 0 0, .string ByteArray.empty] 27)
  have q1 := s2_1 w (.cells #[.slice ad n c, .slice bd m d, .string o] 27) (.cells #[.slice none 0 0, .slice none 0 0, .string ByteArray.empty] 27)
  have hz : w.heap.size + 1 < ((w.alloc (.cells #[.slice ad n c, .slice bd m d, .string o] 27)).alloc (.cells #[.slice none 0 0, .slice none 0 0, .string ByteArray.empty] 27)).heap.size := by simp
  have HZ : Hid _ := And.intro q1 hz
  have z0 := blk_cell q0 0
  have z1 := blk_cell q0 1
  have z2 := blk_cell q0 2
  simp only [List.getElem?_toArray, List.getElem?_cons_zero, List.getElem?_cons_succ] at z0 z1 z2
  clear q0 q1 hz
  go_enter Try.func38, Try.ntmps38
  go_wp2_with fail
  change Code.wp _ _ _ _ ((w.alloc (.cells #[.slice ad n c, .slice bd m d, .string o] 27)).alloc (.cells #[.slice none 0 0, .slice none 0 0, .string ByteArray.empty] 27))
  generalize (w.alloc (.cells #[.slice ad n c, .slice bd m d, .string o] 27)).alloc (.cells #[.slice none 0 0, .slice none 0 0, .string ByteArray.empty] 27) = W0 at *
  have HST : Hid (∀ W, Below W0.heap.size W0 W → W.heap[w.heap.size + 1]? = some (.cells #[.slice none 0 0, .slice none 0 0, .string ByteArray.empty] 27 (0, 0))) := fun W hb => (hb.block _ HZ.out.2).trans HZ.out.1
  have HW0 : Hid (∀ W, Below W0.heap.size W0 W → Below w.heap.size w W) := fun W hb => HB.out.trans (hb.mono HB.out.size)
  have hlt : w.heap.size < W0.heap.size := by have := HZ.out.2; omega
  go_region_held3 (fun W => W.cell? ⟨w.heap.size, 0, none⟩ = some (.slice ad n c) ∧ W.cell? ⟨w.heap.size, 1, none⟩ = some (.slice bd m d) ∧ W.cell? ⟨w.heap.size, 2, none⟩ = some (.string o)) (first | exact ⟨cell_bel B2.out hlt z0, cell_bel B2.out hlt z1, cell_bel B2.out hlt z2⟩ | exact ⟨cell_bel B1.out hlt z0, cell_bel B1.out hlt z1, cell_bel B1.out hlt z2⟩ | go_keep | exact ⟨z0, z1, z2⟩ | assumption)
    ((first
      | (refine VrRow.stepAll (B := W0.heap.size) (W := W0.drew.alloc (.cells #[] 35)) (x := .slice ad n c) (xs := vs) (by rfl) _ _ (by rfl) (W0.heap.size) (by rfl) (heap_alloc_new W0.drew (.cells #[] 35)) (by omega) (by rfl) (HV.out _ (HW0.out _ ((Below.refl W0.heap.size W0).drew.alloc (Nat.le_refl _) (.cells #[] 35)))).1 HL.out.1 ?_; intro ua uc w1 hr1 hg1; have B1 : Hid (Below W0.heap.size W0 w1) := ((Below.refl W0.heap.size W0).drew.alloc (Nat.le_refl _) (.cells #[] 35)).grown hg1 (by simp; try omega) (fun k hk => by simp at hk; omega))
      | (refine VrRow.stepAll (B := W0.heap.size) (W := (W0.drew.alloc (.cells #[] 35)).alloc (.cells #[] 41)) (x := .slice ad n c) (xs := vs) (by rfl) _ _ (by rfl) (W0.heap.size) (by rfl) (s2_0 W0.drew (.cells #[] 35) (.cells #[] 41)) (by omega) (by rfl) (HV.out _ (HW0.out _ (((Below.refl W0.heap.size W0).drew.alloc (Nat.le_refl _) (.cells #[] 35)).alloc (by simp) (.cells #[] 41)))).1 HL.out.1 ?_; intro ua uc w1 hr1 hg1; have B1 : Hid (Below W0.heap.size W0 w1) := (((Below.refl W0.heap.size W0).drew.alloc (Nat.le_refl _) (.cells #[] 35)).alloc (by simp) (.cells #[] 41)).grown hg1 (by simp; try omega) (fun k hk => by simp at hk; omega); have HC : Hid (w1.heap[W0.heap.size + 1]? = some (.cells #[] 41 (0, 0))) := (hg1.block (W0.heap.size + 1) (by simp) (by simp)).trans (s2_1 W0.drew (.cells #[] 35) (.cells #[] 41)))
      | (refine VrRow.stepAll (B := W0.heap.size) (W := (W0.drew.alloc (.cells #[] 41)).alloc (.cells #[] 35)) (x := .slice ad n c) (xs := vs) (by rfl) _ _ (by rfl) (W0.heap.size + 1) (by rfl) (s2_1 W0.drew (.cells #[] 41) (.cells #[] 35)) (by omega) (by rfl) (HV.out _ (HW0.out _ (((Below.refl W0.heap.size W0).drew.alloc (Nat.le_refl _) (.cells #[] 41)).alloc (by simp) (.cells #[] 35)))).1 HL.out.1 ?_; intro ua uc w1 hr1 hg1; have B1 : Hid (Below W0.heap.size W0 w1) := (((Below.refl W0.heap.size W0).drew.alloc (Nat.le_refl _) (.cells #[] 41)).alloc (by simp) (.cells #[] 35)).grown hg1 (by simp; try omega) (fun k hk => by simp at hk; omega); have HC : Hid (w1.heap[W0.heap.size]? = some (.cells #[] 41 (0, 0))) := (hg1.block W0.heap.size (by simp; try omega) (by simp)).trans (s2_0 W0.drew (.cells #[] 41) (.cells #[] 35)))
      | (refine ClRow.stepAll (B := W0.heap.size) (W := w1.alloc (.cells #[] 41)) (x := .slice bd m d) (xs := cs) (by rfl) _ _ (by rfl) w1.heap.size (by rfl) (heap_alloc_new w1 (.cells #[] 41)) B1.out.size (by rfl) (HV.out _ (HW0.out _ (B1.out.alloc B1.out.size _))).2 HL.out.2 ?_; intro xa xc w2 hr2 hg2; have B2 : Hid (Below W0.heap.size W0 w2) := (B1.out.alloc B1.out.size (.cells #[] 41)).grown hg2 (by have := B1.out.size; simp; omega) (fun k hk => by have := B1.out.size; simp at hk; omega); have HU2 : Hid (VrRow W0.heap.size w2 (.slice ua vs.length uc) vs) := rowKeep hr1 (fun q hq => (hg2.block q (by have := (World.ownsRow.lt hr1 q hq).2; simp; omega) (by have := (World.ownsRow.lt hr1 q hq).2; simp; omega)).trans (((Below.refl w1.heap.size w1).alloc (Nat.le_refl _) (.cells #[] 41)).block q (World.ownsRow.lt hr1 q hq).2)); have HX2 : Hid (ClRow W0.heap.size w2 (.slice xa cs.length xc) cs) := hr2; have R3 := HST.out w2 B2.out; have y0 : w2.cell? ⟨w.heap.size + 1, 0, none⟩ = some (.slice none 0 0) := (blk_cell R3 0).trans rfl; have y1 : w2.cell? ⟨w.heap.size + 1, 1, none⟩ = some (.slice none 0 0) := (blk_cell R3 1).trans rfl; have y2 : w2.cell? ⟨w.heap.size + 1, 2, none⟩ = some (.string ByteArray.empty) := (blk_cell R3 2).trans rfl; have f0 := blk_free R3 0; have f1 := blk_free R3 1; have f2 := blk_free R3 2; clear R3)
      | (refine ClRow.stepAll (B := W0.heap.size) (W := w1) (x := .slice bd m d) (xs := cs) (by rfl) _ _ (by rfl) (W0.heap.size + 1) (by rfl) HC.out (by omega) (by rfl) (HV.out _ (HW0.out _ B1.out)).2 HL.out.2 ?_; intro xa xc w2 hr2 hg2; have B2 : Hid (Below W0.heap.size W0 w2) := B1.out.grown hg2 B1.out.size (fun k hk => by simp at hk; omega); have HU2 : Hid (VrRow W0.heap.size w2 (.slice ua vs.length uc) vs) := rowKeep hr1 (fun q hq => hg2.block q (World.ownsRow.lt hr1 q hq).2 (fun e => rowNe hr1 HC.out (hq.trans e))); have HX2 : Hid (ClRow W0.heap.size w2 (.slice xa cs.length xc) cs) := hr2; have R3 := HST.out w2 B2.out; have y0 : w2.cell? ⟨w.heap.size + 1, 0, none⟩ = some (.slice none 0 0) := (blk_cell R3 0).trans rfl; have y1 : w2.cell? ⟨w.heap.size + 1, 1, none⟩ = some (.slice none 0 0) := (blk_cell R3 1).trans rfl; have y2 : w2.cell? ⟨w.heap.size + 1, 2, none⟩ = some (.string ByteArray.empty) := (blk_cell R3 2).trans rfl; have f0 := blk_free R3 0; have f1 := blk_free R3 1; have f2 := blk_free R3 2; clear R3)
      | (refine ClRow.stepAll (B := W0.heap.size) (W := w1) (x := .slice bd m d) (xs := cs) (by rfl) _ _ (by rfl) (W0.heap.size) (by rfl) HC.out (by omega) (by rfl) (HV.out _ (HW0.out _ B1.out)).2 HL.out.2 ?_; intro xa xc w2 hr2 hg2; have B2 : Hid (Below W0.heap.size W0 w2) := B1.out.grown hg2 B1.out.size (fun k hk => by simp at hk; omega); have HU2 : Hid (VrRow W0.heap.size w2 (.slice ua vs.length uc) vs) := rowKeep hr1 (fun q hq => hg2.block q (World.ownsRow.lt hr1 q hq).2 (fun e => rowNe hr1 HC.out (hq.trans e))); have HX2 : Hid (ClRow W0.heap.size w2 (.slice xa cs.length xc) cs) := hr2; have R3 := HST.out w2 B2.out; have y0 : w2.cell? ⟨w.heap.size + 1, 0, none⟩ = some (.slice none 0 0) := (blk_cell R3 0).trans rfl; have y1 : w2.cell? ⟨w.heap.size + 1, 1, none⟩ = some (.slice none 0 0) := (blk_cell R3 1).trans rfl; have y2 : w2.cell? ⟨w.heap.size + 1, 2, none⟩ = some (.string ByteArray.empty) := (blk_cell R3 2).trans rfl; have f0 := blk_free R3 0; have f1 := blk_free R3 1; have f2 := blk_free R3 2; clear R3)))
  all_goals
    have HSZ : Hid (w.heap.size + 1 < W0.heap.size ∧ W0.heap.size ≤ w2.heap.size) := ⟨HZ.out.2, B2.out.size⟩
    have HRR : Hid _ := HST.out w2 B2.out
    clear hr1 hg1 hr2 hg2
    go_wp2_with fail
    refine bodyPost_ret (results_cell_row (p := 2) (ty := 27) rfl _ _ (w.heap.size + 1) 27 _ (0, 0) _ rfl (blk_set (blk_set (blk_set HRR.out 0 _) 1 _) 2 _) Try.underlying27 rfl (by kernel_rfl)) rfl ?_
    have hsz := HSZ.out
    have hk : ∀ b, W0.heap.size ≤ b → (((w2.setCell ⟨w.heap.size + 1, 0, none⟩ (.slice ua vs.length uc)).setCell ⟨w.heap.size + 1, 1, none⟩ (.slice xa cs.length xc)).setCell ⟨w.heap.size + 1, 2, none⟩ (.string o)).heap[b]? = w2.heap[b]? := fun b hb => by
      rw [Below.heap_setCell _ _ _ _ (by show b ≠ w.heap.size + 1; omega), Below.heap_setCell _ _ _ _ (by show b ≠ w.heap.size + 1; omega), Below.heap_setCell _ _ _ _ (by show b ≠ w.heap.size + 1; omega)]
    refine ⟨_, _, rfl, ?_, ?_, ?_⟩
    · exact rowLow (rowKeep HU2.out (fun q hq => hk q (World.ownsRow.lt HU2.out q hq).1)) (by omega)
    · exact rowLow (rowKeep HX2.out (fun q hq => hk q (World.ownsRow.lt HX2.out q hq).1)) (by omega)
    · exact (((HW0.out _ B2.out).setCell (by show _ ≤ w.heap.size + 1; omega) _).setCell (by show _ ≤ w.heap.size + 1; omega) _).setCell (by show _ ≤ w.heap.size + 1; omega) _
end PartRwG
end Go.Proofs.Ytohhhhkhkgmanaa
