/- Small laws for the walks: make of bytes, and rows of bytes that are read and written in place. A text of m bytes of one kind. The specification's copy of a store: rows of its own that may grow. A drawn store, right or not: what stands while it is drawn. -/
import Derived.Test.YtmofljfffcnlbaaMPSxZag
import Derived.Test.YtmofljfffcnlbaaMPSxZak
import Derived.Test.YtmofljfffcnlbaaMPSxZaj
import Derived.Test.YtmofljfffcnlbaaMPSxDSt
namespace Go.Proofs.Ytmofljfffcnlbaa
section PartKitM
open Go.RowKit

/-- make of n bytes, all nought. -/
theorem makeFull_run (n : Nat) (h : n ≤ 1000000000) : ∃ M : Array Value, M.size = n ∧ M.toList = (List.replicate n (0 : UInt8)).map bv ∧ ∀ W : World, (Instr.makeSlice 22 (.int .i64 (n : Int)) (.int .i64 (n : Int))).run Try.prog W = .ok (.slice (some ⟨W.heap.size, 0, none⟩) n n) (W.alloc (.cells M 5)) := by
  obtain ⟨i0, hi, hz0, hz1, hz2⟩ := info_parts Try.infoU
  refine ⟨madeCells (Value.int .u8 0).cells (((n : Nat) : Int).toNat * i0.size), ?_, ?_, fun W => ?_⟩
  · rw [size_madeCells, hz1]; simp
  · rw [hz1]
    have := toList_madeCells_one (.int .u8 0) n
    simp only [Int.toNat_natCast, Nat.mul_one, List.map_replicate]
    exact this
  · have h := run_make (P := Try.prog) W 22 5 i0 (.int .u8 0) Try.underlying22 hi hz0 .i64 .i64 (n : Int) (n : Int) (by omega) (by omega) (by rw [hz2]; omega) (by omega)
    simpa using h

theorem Row.full {B n : Nat} {M : Array Value} (w : World) (hB : B ≤ w.heap.size) (hn : n ≤ maxLen) (hs : M.size = n) (hM : M.toList = (List.replicate n (0 : UInt8)).map bv) :
    Row B (w.alloc (.cells M 5)) (.slice (some ⟨w.heap.size, 0, none⟩) n n) (List.replicate n 0) := by
  have := World.ownsRow_lit (base := B) (e := 5) (size := 1) w M n hB hn (by omega)
  unfold Row
  rw [hM] at this
  simpa using this

/-- The place of a row that holds something. -/
theorem Row.at {B : Nat} {w : World} {v : Value} {bs : List UInt8} (h : Row B w v bs) (hne : bs ≠ []) : ∃ g cap, v = .slice (some ⟨g, 0, none⟩) bs.length cap ∧ B ≤ g ∧ g < w.heap.size := by
  rcases h.2 with ⟨_, h0⟩ | ⟨g, cap, cur, rfl, hb, hg, _⟩
  · exact absurd (by simpa using h0) hne
  · exact ⟨g, cap, rfl, hb, (Array.getElem?_eq_some_iff.1 hg).1⟩
theorem Row.cell {B : Nat} {w : World} {g cap n : Nat} {bs : List UInt8} (h : Row B w (.slice (some ⟨g, 0, none⟩) n cap) bs) (hn : bs.length = n) (j : Nat) (hj : j < n) : w.cell? ⟨g, j, none⟩ = some (.int .u8 ((bs.getD j 0).toNat : Int)) := by
  subst hn
  have := World.ownsRow.cellAt h j (by omega)
  rw [this]
  simp [hj, bv]
theorem Row.free {B : Nat} {w : World} {g cap n : Nat} {bs : List UInt8} (h : Row B w (.slice (some ⟨g, 0, none⟩) n cap) bs) (hn : bs.length = n) (j : Nat) : w.frozen? ⟨g, j, none⟩ = false := by
  subst hn
  exact World.ownsRow.frozenAt h j
theorem Row.store {B : Nat} {w : World} {g cap n : Nat} {bs : List UInt8} (h : Row B w (.slice (some ⟨g, 0, none⟩) n cap) bs) (hn : bs.length = n) (j : Nat) (c : UInt8) :
    Row B (w.setCell ⟨g, j, none⟩ (.int .u8 (c.toNat : Int))) (.slice (some ⟨g, 0, none⟩) n cap) (bs.set j c) := by
  subst hn
  have := (World.ownsRow.stored h j (bv c)).1
  unfold Row
  rw [List.map_set, List.length_set]
  exact this

end PartKitM
section PartDLg
open Go.RowKit

set_option maxHeartbeats 1000000 in
set_option maxRecDepth 100000 in
/-- m bytes of one kind. -/
theorem long_any (m : Nat) (x : Nat) (w : World) (hm : m ≤ 1000000) (hx : x < 256) :
    Calls Try.prog 33 #[.int .i64 (m : Int), .int .u8 (x : Int)] w fun e w' => ∃ bs : List UInt8, bs.length = m ∧ e = .returned (.string ⟨bs.toArray⟩) ∧ Below w.heap.size w w' := by
  obtain ⟨M, hMs, hMl, hmk⟩ := makeFull_run m (by omega)
  go_enter Try.func33, Try.ntmps33
  go_wp2
  clear hmk
  go_loopw [6] (fun i wr => ∃ (k : Nat) (bs : List UInt8), i = .int .i64 (k : Int) ∧ k ≤ m ∧ Row w.heap.size wr (.slice (some ⟨w.heap.size, 0, none⟩) m m) bs ∧ Below w.heap.size w wr ∧ Hid (bs.length = m)) (fun i _ => m - (intOf i).toNat)
  case atStart => exact ⟨0, List.replicate m 0, rfl, by omega, Row.full w (Nat.le_refl _) (by unfold maxLen; omega) hMs hMl, (Below.refl _ _).alloc (Nat.le_refl _) _, (by show _ = _; simp)⟩
  case round =>
    obtain ⟨k, bs, rfl, hk, hrow, hbel, HL⟩ := hrel
    by_cases hlt : k < m
    · have hc := hrow.cell HL.out k hlt
      have hf := hrow.free HL.out k
      have hs := hrow.store HL.out k (UInt8.ofNat x)
      rw [Pl.small x hx] at hs
      have HS : Hid _ := hs
      clear hs
      go_wp2
      go_roundw
      case rel => exact ⟨k + 1, _, by go_num, by omega, HS.out, hbel.setCell (Nat.le_refl _) _, by have := HL.out; show _ = _; simpa using this⟩
      case measure => simp [intOf]; omega
    · have hst := hrow.str
      go_wp2
      go_ret
      exact ⟨bs, HL.out, rfl, hbel⟩

end PartDLg
section PartRwG
open Go.RowKit

theorem rowLow {B B' : Nat} {w : World} {e : TypeId} {sz : Nat} {v : Value} {n : Nat} {cs : List Value} (h : w.ownsRow B e sz v n cs) (hB : B' ≤ B) : w.ownsRow B' e sz v n cs := by
  refine ⟨h.1, ?_⟩
  rcases h.2 with hn | ⟨g, cap, cur, rfl, h1, hg, rest⟩
  · exact .inl hn
  · exact .inr ⟨g, cap, cur, rfl, by omega, hg, rest⟩
set_option maxRecDepth 100000 in
set_option maxHeartbeats 4000000 in
theorem spCopyRow (tv lv : Value) (o : ByteArray) (vs : List Vr) (cs : List Cl) (w : World) (h1 : VrAt w tv vs) (h2 : ClAt w lv cs) (hs : StSmall vs cs o) :
    Calls Try.prog 29 #[.agg #[tv, lv, .string o]] w fun e w' => ∃ u x, e = .returned (.agg #[u, x, .string o]) ∧ VrRow w.heap.size w' u vs ∧ ClRow w.heap.size w' x cs ∧ Below w.heap.size w w' := by
  have HV : Hid (∀ W, Below w.heap.size w W → VrAt W tv vs ∧ ClAt W lv cs) := fun W hb => ⟨h1.keep hb, h2.keep hb⟩
  have HL : Hid (vs.length ≤ 1048576 ∧ cs.length ≤ 1048576) := ⟨hs.1, hs.2.2.1⟩
  obtain ⟨ad, c, rfl, -⟩ := h1
  obtain ⟨bd, d, rfl, -⟩ := h2
  obtain ⟨n, hn⟩ : ∃ n, n = vs.length := ⟨_, rfl⟩
  obtain ⟨m, hm⟩ : ∃ m, m = cs.length := ⟨_, rfl⟩
  rw [← hn, ← hm] at HV
  rw [← hn, ← hm]
  clear hn hm hs
  have HB : Hid (Below w.heap.size w ((w.alloc (.cells #[.slice ad n c, .slice bd m d, .string o] 27)).alloc (.cells #[.slice none 0 0, .slice none 0 0, .string ByteArray.empty] 27))) := ((Below.refl _ _).alloc (Nat.le_refl _) _).alloc (by simp) _
  have q0 := s2_0 w (.cells #[.slice ad n c, .slice bd m d, .string o] 27) (.cells #[.slice none 0 0, .slice none 0 0, .string ByteArray.empty] 27)
  have q1 := s2_1 w (.cells #[.slice ad n c, .slice bd m d, .string o] 27) (.cells #[.slice none 0 0, .slice none 0 0, .string ByteArray.empty] 27)
  have hz : w.heap.size + 1 < ((w.alloc (.cells #[.slice ad n c, .slice bd m d, .string o] 27)).alloc (.cells #[.slice none 0 0, .slice none 0 0, .string ByteArray.empty] 27)).heap.size := by simp
  have HZ : Hid _ := And.intro q1 hz
  have z0 := blk_cell q0 0
  have z1 := blk_cell q0 1
  have z2 := blk_cell q0 2
  simp only [List.getElem?_toArray, List.getElem?_cons_zero, List.getElem?_cons_succ] at z0 z1 z2
  clear q0 q1 hz
  go_enter Try.func29, Try.ntmps29
  go_wp2_with fail
  change Code.wp _ _ _ _ ((w.alloc (.cells #[.slice ad n c, .slice bd m d, .string o] 27)).alloc (.cells #[.slice none 0 0, .slice none 0 0, .string ByteArray.empty] 27))
  generalize (w.alloc (.cells #[.slice ad n c, .slice bd m d, .string o] 27)).alloc (.cells #[.slice none 0 0, .slice none 0 0, .string ByteArray.empty] 27) = W0 at *
  have HST : Hid (∀ W, Below W0.heap.size W0 W → W.heap[w.heap.size + 1]? = some (.cells #[.slice none 0 0, .slice none 0 0, .string ByteArray.empty] 27 (0, 0))) := fun W hb => (hb.block _ HZ.out.2).trans HZ.out.1
  have HW0 : Hid (∀ W, Below W0.heap.size W0 W → Below w.heap.size w W) := fun W hb => HB.out.trans (hb.mono HB.out.size)
  have hlt : w.heap.size < W0.heap.size := by have := HZ.out.2; omega
  go_region_held3 (fun W => W.cell? ⟨w.heap.size, 0, none⟩ = some (.slice ad n c) ∧ W.cell? ⟨w.heap.size, 1, none⟩ = some (.slice bd m d) ∧ W.cell? ⟨w.heap.size, 2, none⟩ = some (.string o)) (first | exact ⟨cell_bel B2.out hlt z0, cell_bel B2.out hlt z1, cell_bel B2.out hlt z2⟩ | exact ⟨cell_bel B1.out hlt z0, cell_bel B1.out hlt z1, cell_bel B1.out hlt z2⟩ | go_keep | exact ⟨z0, z1, z2⟩ | assumption)
    ((first
      | (refine VrRow.stepAll (B := W0.heap.size) (W := W0.drew.alloc (.cells #[] 47)) (x := .slice ad n c) (xs := vs) (by rfl) _ _ (by rfl) (W0.heap.size) (by rfl) (heap_alloc_new W0.drew (.cells #[] 47)) (by omega) (by rfl) (HV.out _ (HW0.out _ ((Below.refl W0.heap.size W0).drew.alloc (Nat.le_refl _) (.cells #[] 47)))).1 HL.out.1 ?_; intro ua uc w1 hr1 hg1; have B1 : Hid (Below W0.heap.size W0 w1) := ((Below.refl W0.heap.size W0).drew.alloc (Nat.le_refl _) (.cells #[] 47)).grown hg1 (by simp; try omega) (fun k hk => by simp at hk; omega))
      | (refine VrRow.stepAll (B := W0.heap.size) (W := (W0.drew.alloc (.cells #[] 47)).alloc (.cells #[] 50)) (x := .slice ad n c) (xs := vs) (by rfl) _ _ (by rfl) (W0.heap.size) (by rfl) (s2_0 W0.drew (.cells #[] 47) (.cells #[] 50)) (by omega) (by rfl) (HV.out _ (HW0.out _ (((Below.refl W0.heap.size W0).drew.alloc (Nat.le_refl _) (.cells #[] 47)).alloc (by simp) (.cells #[] 50)))).1 HL.out.1 ?_; intro ua uc w1 hr1 hg1; have B1 : Hid (Below W0.heap.size W0 w1) := (((Below.refl W0.heap.size W0).drew.alloc (Nat.le_refl _) (.cells #[] 47)).alloc (by simp) (.cells #[] 50)).grown hg1 (by simp; try omega) (fun k hk => by simp at hk; omega); have HC : Hid (w1.heap[W0.heap.size + 1]? = some (.cells #[] 50 (0, 0))) := (hg1.block (W0.heap.size + 1) (by simp) (by simp)).trans (s2_1 W0.drew (.cells #[] 47) (.cells #[] 50)))
      | (refine VrRow.stepAll (B := W0.heap.size) (W := (W0.drew.alloc (.cells #[] 50)).alloc (.cells #[] 47)) (x := .slice ad n c) (xs := vs) (by rfl) _ _ (by rfl) (W0.heap.size + 1) (by rfl) (s2_1 W0.drew (.cells #[] 50) (.cells #[] 47)) (by omega) (by rfl) (HV.out _ (HW0.out _ (((Below.refl W0.heap.size W0).drew.alloc (Nat.le_refl _) (.cells #[] 50)).alloc (by simp) (.cells #[] 47)))).1 HL.out.1 ?_; intro ua uc w1 hr1 hg1; have B1 : Hid (Below W0.heap.size W0 w1) := (((Below.refl W0.heap.size W0).drew.alloc (Nat.le_refl _) (.cells #[] 50)).alloc (by simp) (.cells #[] 47)).grown hg1 (by simp; try omega) (fun k hk => by simp at hk; omega); have HC : Hid (w1.heap[W0.heap.size]? = some (.cells #[] 50 (0, 0))) := (hg1.block W0.heap.size (by simp; try omega) (by simp)).trans (s2_0 W0.drew (.cells #[] 50) (.cells #[] 47)))
      | (refine ClRow.stepAll (B := W0.heap.size) (W := w1.alloc (.cells #[] 50)) (x := .slice bd m d) (xs := cs) (by rfl) _ _ (by rfl) w1.heap.size (by rfl) (heap_alloc_new w1 (.cells #[] 50)) B1.out.size (by rfl) (HV.out _ (HW0.out _ (B1.out.alloc B1.out.size _))).2 HL.out.2 ?_; intro xa xc w2 hr2 hg2; have B2 : Hid (Below W0.heap.size W0 w2) := (B1.out.alloc B1.out.size (.cells #[] 50)).grown hg2 (by have := B1.out.size; simp; omega) (fun k hk => by have := B1.out.size; simp at hk; omega); have HU2 : Hid (VrRow W0.heap.size w2 (.slice ua vs.length uc) vs) := rowKeep hr1 (fun q hq => (hg2.block q (by have := (World.ownsRow.lt hr1 q hq).2; simp; omega) (by have := (World.ownsRow.lt hr1 q hq).2; simp; omega)).trans (((Below.refl w1.heap.size w1).alloc (Nat.le_refl _) (.cells #[] 50)).block q (World.ownsRow.lt hr1 q hq).2)); have HX2 : Hid (ClRow W0.heap.size w2 (.slice xa cs.length xc) cs) := hr2; have R3 := HST.out w2 B2.out; have y0 : w2.cell? ⟨w.heap.size + 1, 0, none⟩ = some (.slice none 0 0) := (blk_cell R3 0).trans rfl; have y1 : w2.cell? ⟨w.heap.size + 1, 1, none⟩ = some (.slice none 0 0) := (blk_cell R3 1).trans rfl; have y2 : w2.cell? ⟨w.heap.size + 1, 2, none⟩ = some (.string ByteArray.empty) := (blk_cell R3 2).trans rfl; have f0 := blk_free R3 0; have f1 := blk_free R3 1; have f2 := blk_free R3 2; clear R3)
      | (refine ClRow.stepAll (B := W0.heap.size) (W := w1) (x := .slice bd m d) (xs := cs) (by rfl) _ _ (by rfl) (W0.heap.size + 1) (by rfl) HC.out (by omega) (by rfl) (HV.out _ (HW0.out _ B1.out)).2 HL.out.2 ?_; intro xa xc w2 hr2 hg2; have B2 : Hid (Below W0.heap.size W0 w2) := B1.out.grown hg2 B1.out.size (fun k hk => by simp at hk; omega); have HU2 : Hid (VrRow W0.heap.size w2 (.slice ua vs.length uc) vs) := rowKeep hr1 (fun q hq => hg2.block q (World.ownsRow.lt hr1 q hq).2 (fun e => rowNe hr1 HC.out (hq.trans e))); have HX2 : Hid (ClRow W0.heap.size w2 (.slice xa cs.length xc) cs) := hr2; have R3 := HST.out w2 B2.out; have y0 : w2.cell? ⟨w.heap.size + 1, 0, none⟩ = some (.slice none 0 0) := (blk_cell R3 0).trans rfl; have y1 : w2.cell? ⟨w.heap.size + 1, 1, none⟩ = some (.slice none 0 0) := (blk_cell R3 1).trans rfl; have y2 : w2.cell? ⟨w.heap.size + 1, 2, none⟩ = some (.string ByteArray.empty) := (blk_cell R3 2).trans rfl; have f0 := blk_free R3 0; have f1 := blk_free R3 1; have f2 := blk_free R3 2; clear R3)
      | (refine ClRow.stepAll (B := W0.heap.size) (W := w1) (x := .slice bd m d) (xs := cs) (by rfl) _ _ (by rfl) (W0.heap.size) (by rfl) HC.out (by omega) (by rfl) (HV.out _ (HW0.out _ B1.out)).2 HL.out.2 ?_; intro xa xc w2 hr2 hg2; have B2 : Hid (Below W0.heap.size W0 w2) := B1.out.grown hg2 B1.out.size (fun k hk => by simp at hk; omega); have HU2 : Hid (VrRow W0.heap.size w2 (.slice ua vs.length uc) vs) := rowKeep hr1 (fun q hq => hg2.block q (World.ownsRow.lt hr1 q hq).2 (fun e => rowNe hr1 HC.out (hq.trans e))); have HX2 : Hid (ClRow W0.heap.size w2 (.slice xa cs.length xc) cs) := hr2; have R3 := HST.out w2 B2.out; have y0 : w2.cell? ⟨w.heap.size + 1, 0, none⟩ = some (.slice none 0 0) := (blk_cell R3 0).trans rfl; have y1 : w2.cell? ⟨w.heap.size + 1, 1, none⟩ = some (.slice none 0 0) := (blk_cell R3 1).trans rfl; have y2 : w2.cell? ⟨w.heap.size + 1, 2, none⟩ = some (.string ByteArray.empty) := (blk_cell R3 2).trans rfl; have f0 := blk_free R3 0; have f1 := blk_free R3 1; have f2 := blk_free R3 2; clear R3)))
  all_goals
    have HSZ : Hid (w.heap.size + 1 < W0.heap.size ∧ W0.heap.size ≤ w2.heap.size) := ⟨HZ.out.2, B2.out.size⟩
    have HRR : Hid _ := HST.out w2 B2.out
    clear hr1 hg1 hr2 hg2
    go_wp2_with fail
    refine bodyPost_ret (results_cell_row (p := 2) (ty := 27) rfl _ _ (w.heap.size + 1) 27 _ (0, 0) _ rfl (blk_set (blk_set (blk_set HRR.out 0 _) 1 _) 2 _) Try.underlying27 rfl (by kernel_rfl)) rfl ?_
    have hsz := HSZ.out
    have hk : ∀ b, W0.heap.size ≤ b → (((w2.setCell ⟨w.heap.size + 1, 0, none⟩ (.slice ua vs.length uc)).setCell ⟨w.heap.size + 1, 1, none⟩ (.slice xa cs.length xc)).setCell ⟨w.heap.size + 1, 2, none⟩ (.string o)).heap[b]? = w2.heap[b]? := fun b hb => by
      rw [Below.heap_setCell _ _ _ _ (by show b ≠ w.heap.size + 1; omega), Below.heap_setCell _ _ _ _ (by show b ≠ w.heap.size + 1; omega), Below.heap_setCell _ _ _ _ (by show b ≠ w.heap.size + 1; omega)]
    refine ⟨_, _, rfl, ?_, ?_, ?_⟩
    · exact rowLow (rowKeep HU2.out (fun q hq => hk q (World.ownsRow.lt HU2.out q hq).1)) (by omega)
    · exact rowLow (rowKeep HX2.out (fun q hq => hk q (World.ownsRow.lt HX2.out q hq).1)) (by omega)
    · exact (((HW0.out _ B2.out).setCell (by show _ ≤ w.heap.size + 1; omega) _).setCell (by show _ ≤ w.heap.size + 1; omega) _).setCell (by show _ ≤ w.heap.size + 1; omega) _
end PartRwG
section PartDAm
open Go.RowKit

theorem own_ne {B : Nat} {w : World} {e : TypeId} {sz : Nat} {v : Value} {n : Nat} {cs : List Value} (h : w.ownsRow B e sz v n cs) {b : Nat} {arr : Array Value} {t : TypeId} {fr : Nat × Nat} (hb : w.heap[b]? = some (.cells arr t fr)) (ht : t ≠ e) : v.ownBlock ≠ some b := by
  intro eq
  rcases h.2 with ⟨rfl, _⟩ | ⟨g, cap, cur, rfl, h1, hg, _⟩
  · simp [Value.ownBlock] at eq
  · obtain rfl : g = b := by simpa [Value.ownBlock] using eq
    rw [hg] at hb
    simp at hb
    exact ht hb.2.1.symm
theorem own_ne2 {B B' : Nat} {w : World} {e e' : TypeId} {sz sz' : Nat} {v v' : Value} {n n' : Nat} {cs cs' : List Value} (h : w.ownsRow B e sz v n cs) (h' : w.ownsRow B' e' sz' v' n' cs') (ht : e' ≠ e) {b : Nat} (hb : v'.ownBlock = some b) : v.ownBlock ≠ some b := by
  rcases h'.2 with ⟨rfl, _⟩ | ⟨g, cap, cur, rfl, h1, hg, _⟩
  · simp [Value.ownBlock] at hb
  · obtain rfl : g = b := by simpa [Value.ownBlock] using hb
    exact own_ne h hg ht
/-- One Var more, at a step of a sentence that draws its order. -/
theorem VrRow.step1 {ops : Array Oper} {o : Oper} {a : Act} {K : Act → World → Prop} {Q : Exit → Act → World → Prop} {E : Prop} {B : Nat} {W : World} {v : Value} {xs : List Vr}
    (hown : VrRow B W v xs) (hgd : o.guard = none) (s x : Operand)
    (ho : o.op = .call { callee := .builtin .append, args := #[s, x], argTypes := #[24, 24] })
    (hs : a.eval s = v) (y : Vr) (q0 : Nat) (hq : W.heap[q0]? = some (.cells #[.string y.name, .string y.val] 47 (0, 0))) (hx : a.eval x = .slice (some ⟨q0, 0, none⟩) 1 1)
    (hlen : xs.length < 2000000) (hB : B ≤ W.heap.size)
    (h : ∀ q cap w', VrRow B w' (.slice (some ⟨q, 0, none⟩) (xs.length + 1) cap) (xs ++ [y]) → W.grownBy w' v.ownBlock → K (a.put o.dst (.slice (some ⟨q, 0, none⟩) (xs.length + 1) cap)) w') :
    if Region.wanted o (yielded ops a.tmps) = true then Oper.wp Try.prog o a W K Q else E := by
  obtain ⟨i0, hi, hy0, hy1, hy2⟩ := info_parts Try.infoVr
  refine step_append_lies _ hgd s x 24 ho B 47 i0 (.agg #[.string ByteArray.empty, .string ByteArray.empty]) 2 32 Try.underlying24 hi hy0 hy1 hy2 rfl (by decide) v xs.length (cellsVr xs) hs hown ⟨q0, 0, none⟩ 1 1 [.string y.name, .string y.val] hx rfl
    (World.news_of_block (cs := #[.string y.name, .string y.val]) hq) ?_ (by omega) ?_ ?_ hB W.heap.size rfl ?_
  · intro u hu
    simp at hu
    rcases hu with rfl | rfl <;> rfl
  · unfold maxLen; omega
  · omega
  · intro q cap w' h2 h3 _ _
    refine h q cap w' ?_ h3
    unfold VrRow cellsVr
    rw [List.flatMap_append, List.length_append]
    exact h2
/-- One Cell more, likewise. -/
theorem ClRow.step1 {ops : Array Oper} {o : Oper} {a : Act} {K : Act → World → Prop} {Q : Exit → Act → World → Prop} {E : Prop} {B : Nat} {W : World} {v : Value} {xs : List Cl}
    (hown : ClRow B W v xs) (hgd : o.guard = none) (s x : Operand)
    (ho : o.op = .call { callee := .builtin .append, args := #[s, x], argTypes := #[25, 25] })
    (hs : a.eval s = v) (y : Cl) (q0 : Nat) (hq : W.heap[q0]? = some (.cells #[.string y.name, .string y.key, .string y.val] 50 (0, 0))) (hx : a.eval x = .slice (some ⟨q0, 0, none⟩) 1 1)
    (hlen : xs.length < 2000000) (hB : B ≤ W.heap.size)
    (h : ∀ q cap w', ClRow B w' (.slice (some ⟨q, 0, none⟩) (xs.length + 1) cap) (xs ++ [y]) → W.grownBy w' v.ownBlock → K (a.put o.dst (.slice (some ⟨q, 0, none⟩) (xs.length + 1) cap)) w') :
    if Region.wanted o (yielded ops a.tmps) = true then Oper.wp Try.prog o a W K Q else E := by
  obtain ⟨i0, hi, hy0, hy1, hy2⟩ := info_parts Try.infoCl
  refine step_append_lies _ hgd s x 25 ho B 50 i0 (.agg #[.string ByteArray.empty, .string ByteArray.empty, .string ByteArray.empty]) 3 48 Try.underlying25 hi hy0 hy1 hy2 rfl (by decide) v xs.length (cellsCl xs) hs hown ⟨q0, 0, none⟩ 1 1 [.string y.name, .string y.key, .string y.val] hx rfl
    (World.news_of_block (cs := #[.string y.name, .string y.key, .string y.val]) hq) ?_ (by omega) ?_ ?_ hB W.heap.size rfl ?_
  · intro u hu
    simp at hu
    rcases hu with rfl | rfl | rfl <;> rfl
  · unfold maxLen; omega
  · omega
  · intro q cap w' h2 h3 _ _
    refine h q cap w' ?_ h3
    unfold ClRow cellsCl
    rw [List.flatMap_append, List.length_append]
    exact h2
/-- Few things, all of them short. -/
structure Fw (vs : List Vr) (cs : List Cl) (o : ByteArray) : Prop where
  nv : vs.length ≤ 80
  nc : cs.length ≤ 80
  no : o.size ≤ 4000
  sv : ∀ y ∈ vs, y.name.size ≤ 100 ∧ y.val.size ≤ 100
  sc : ∀ y ∈ cs, y.name.size ≤ 100 ∧ y.key.size ≤ 100 ∧ y.val.size ≤ 100
theorem Fw.small {vs : List Vr} {cs : List Cl} {o : ByteArray} (h : Fw vs cs o) : StSmall vs cs o := by
  refine ⟨by have := h.nv; omega, fun i hi => ?_, by have := h.nc; omega, fun i hi => ?_, by have := h.no; omega⟩
  · rw [show vs.getD i Vr.no = vs[i] by simp [hi]]
    have := h.sv vs[i] (List.getElem_mem hi)
    omega
  · rw [show cs.getD i Cl.no = cs[i] by simp [hi]]
    have := h.sc cs[i] (List.getElem_mem hi)
    omega
theorem Fw.addV {vs : List Vr} {cs : List Cl} {o : ByteArray} (h : Fw vs cs o) (y : Vr) (hn : vs.length < 80) (hy : y.name.size ≤ 100 ∧ y.val.size ≤ 100) : Fw (vs ++ [y]) cs o := by
  refine ⟨by simp; omega, h.nc, h.no, fun z hz => ?_, h.sc⟩
  simp only [List.mem_append, List.mem_singleton] at hz
  rcases hz with hz | rfl
  · exact h.sv z hz
  · exact hy
theorem Fw.addC {vs : List Vr} {cs : List Cl} {o : ByteArray} (h : Fw vs cs o) (y : Cl) (hn : cs.length < 80) (hy : y.name.size ≤ 100 ∧ y.key.size ≤ 100 ∧ y.val.size ≤ 100) : Fw vs (cs ++ [y]) o := by
  refine ⟨h.nv, by simp; omega, h.no, h.sv, fun z hz => ?_⟩
  simp only [List.mem_append, List.mem_singleton] at hz
  rcases hz with hz | rfl
  · exact h.sc z hz
  · exact hy
theorem Dw.few {vs : List Vr} {cs : List Cl} {o : ByteArray} (h : Dw 8 vs cs o) : Fw vs cs o := by
  refine ⟨by have := h.v; omega, by have := h.c; omega, by have := h.rt.out; omega, fun y hy => ?_, fun y hy => ?_⟩
  · obtain ⟨h1, h2⟩ := h.rt.goodV y hy
    have := St.nm_size h1
    omega
  · obtain ⟨h1, h2, h3⟩ := h.rt.goodC y hy
    have := St.nm_size h1
    omega
/-- What stands while a store, right or not, is drawn: its box bs, its rows, the cursor. -/
structure LA (w : World) (B g n cap bs : Nat) (ad : Option Addr) (wr : World) (u x : Value) (vs : List Vr) (cs : List Cl) (o : ByteArray) : Prop where
  low : B ≤ w.heap.size
  res : wr.heap[w.heap.size]? = some (.cells #[.slice none 0 0, .slice none 0 0, .string ByteArray.empty] 27 (0, 0))
  bsl : w.heap.size < bs
  blk : wr.heap[bs]? = some (.cells #[u, x, .string o] 27 (0, 0))
  vi : VrRow w.heap.size wr u vs
  ci : ClRow w.heap.size wr x cs
  fw : Fw vs cs o
  dr : Drw B wr g ad n cap
  gr : w.grownBy wr (some g)
section
variable {w wr : World} {B g n cap bs : Nat} {ad : Option Addr} {u x : Value} {vs : List Vr} {cs : List Cl} {o : ByteArray}
theorem LA.sz (h : LA w B g n cap bs ad wr u x vs cs o) : w.heap.size + 1 ≤ wr.heap.size := blk_lt h.res
theorem LA.le (h : LA w B g n cap bs ad wr u x vs cs o) : B ≤ wr.heap.size := by have := h.sz; have := h.low; omega
theorem LA.cells (h : LA w B g n cap bs ad wr u x vs cs o) : wr.cell? ⟨bs, 0, none⟩ = some u ∧ wr.cell? ⟨bs, 1, none⟩ = some x ∧ wr.cell? ⟨bs, 2, none⟩ = some (.string o) :=
  ⟨(blk_cell h.blk 0).trans rfl, (blk_cell h.blk 1).trans rfl, (blk_cell h.blk 2).trans rfl⟩
theorem LA.over (h : LA w B g n cap bs ad wr u x vs cs o) : wr.cell? ⟨bs, 0, none⟩ = some u ∧ wr.cell? ⟨bs, 1, none⟩ = some x ∧ wr.cell? ⟨bs, 2, none⟩ = some (.string o) ∧ wr.frozen? ⟨bs, 0, none⟩ = false ∧ wr.frozen? ⟨bs, 1, none⟩ = false ∧ wr.frozen? ⟨bs, 2, none⟩ = false :=
  ⟨h.cells.1, h.cells.2.1, h.cells.2.2, blk_free h.blk 0, blk_free h.blk 1, blk_free h.blk 2⟩
theorem LA.draw (h : LA w B g n cap bs ad wr u x vs cs o) {w1 : World} (hd : Drw B w1 g ad n cap) (hg : wr.grownBy w1 (some g)) : LA w B g n cap bs ad w1 u x vs cs o := by
  have hs := h.sz
  have hl := h.low
  have hgB := h.dr.low
  have hbl := blk_lt h.blk
  have hbs := h.bsl
  have e : ∀ b, w.heap.size ≤ b → b < wr.heap.size → w1.heap[b]? = wr.heap[b]? := fun b h1 h2 => hg.block b h2 (fun e => by have hbg : b = g := Option.some.inj e; omega)
  exact ⟨hl, (e _ (Nat.le_refl _) (by omega)).trans h.res, hbs, (e _ (by omega) hbl).trans h.blk, rowKeep h.vi (fun q hq => e q (World.ownsRow.lt h.vi q hq).1 (World.ownsRow.lt h.vi q hq).2), rowKeep h.ci (fun q hq => e q (World.ownsRow.lt h.ci q hq).1 (World.ownsRow.lt h.ci q hq).2), h.fw, hd, grown_trans h.gr hg⟩
theorem LA.drew (h : LA w B g n cap bs ad wr u x vs cs o) : LA w B g n cap bs ad wr.drew u x vs cs o := h.draw (h.dr.keep (Below.refl _ _).drew) ⟨rfl, rfl, rfl, Nat.le_refl _, fun _ _ _ => rfl⟩
theorem LA.up (h : LA w B g n cap bs ad wr u x vs cs o) {w1 : World} (hb : Below wr.heap.size wr w1) : LA w B g n cap bs ad w1 u x vs cs o := h.draw (h.dr.keep (hb.mono h.le)) ⟨hb.os, hb.tape, hb.output, hb.size, fun b hb2 _ => hb.block b hb2⟩
theorem LA.alloc (h : LA w B g n cap bs ad wr u x vs cs o) (ob : Obj) : LA w B g n cap bs ad (wr.alloc ob) u x vs cs o := h.draw (h.dr.keep ((Below.refl _ _).alloc h.le _)) (World.grownBy_alloc wr ob _)
/-- A row of its own has grown, and is set in the box. -/
theorem LA.put (h : LA w B g n cap bs ad wr u x vs cs o) {w2 : World} {r : Option Nat} {k : Nat} {z u2 x2 : Value} {vs2 : List Vr} {cs2 : List Cl} {o2 : ByteArray} (hg : wr.grownBy w2 r) (hr : ∀ b, r = some b → w.heap.size < b ∧ b ≠ bs)
    (hv : VrRow w.heap.size w2 u2 vs2) (hc : ClRow w.heap.size w2 x2 cs2) (hf : Fw vs2 cs2 o2) (hz : (#[u, x, .string o] : Array Value).setIfInBounds k z = #[u2, x2, .string o2]) :
    LA w B g n cap bs ad (w2.setCell ⟨bs, k, none⟩ z) u2 x2 vs2 cs2 o2 := by
  have hs := h.sz
  have hl := h.low
  have hgB := h.dr.low
  have hbl := blk_lt h.blk
  have hbs := h.bsl
  have e : ∀ b, b < wr.heap.size → r ≠ some b → w2.heap[b]? = wr.heap[b]? := fun b h2 h3 => hg.block b h2 (fun e => h3 e.symm)
  have e2 : ∀ b, b ≠ bs → (w2.setCell ⟨bs, k, none⟩ z).heap[b]? = w2.heap[b]? := fun b hb => Below.heap_setCell _ _ _ _ (by show b ≠ bs; exact hb)
  have hb2 : w2.heap[bs]? = some (.cells #[u, x, .string o] 27 (0, 0)) := (e bs hbl (fun er => (hr bs er).2 rfl)).trans h.blk
  have hres : w2.heap[w.heap.size]? = some (.cells #[.slice none 0 0, .slice none 0 0, .string ByteArray.empty] 27 (0, 0)) := (e _ (by omega) (fun er => by have := (hr _ er).1; omega)).trans h.res
  have hB : Below w.heap.size wr (w2.setCell ⟨bs, k, none⟩ z) := ⟨hg.os, hg.tape, hg.output, by simpa [World.setCell] using hg.size, fun b hb => (e2 b (by omega)).trans (e b (by omega) (fun er => by have := (hr _ er).1; omega))⟩
  refine ⟨hl, (e2 _ (by omega)).trans hres, hbs, ?_, rowKeep hv (fun q hq => e2 q (fun er => own_ne hv hb2 (by decide) (er ▸ hq))), rowKeep hc (fun q hq => e2 q (fun er => own_ne hc hb2 (by decide) (er ▸ hq))), hf, h.dr.keep (hB.mono hl), ?_⟩
  · have := blk_set hb2 k z
    rw [hz] at this
    exact this
  · exact ⟨hB.os.trans h.gr.os, hB.tape.trans h.gr.tape, hB.output.trans h.gr.output, Nat.le_trans h.gr.size hB.size, fun b hb hne => (hB.block b hb).trans (h.gr.block b hb hne)⟩
theorem LA.rowV (h : LA w B g n cap bs ad wr u x vs cs o) (b : Nat) (e : u.ownBlock = some b) : w.heap.size < b ∧ b ≠ bs := by
  have h1 := (World.ownsRow.lt h.vi b e).1
  have h2 : b ≠ w.heap.size := fun er => own_ne h.vi h.res (by decide) (er ▸ e)
  exact ⟨by omega, fun er => own_ne h.vi h.blk (by decide) (er ▸ e)⟩
theorem LA.rowC (h : LA w B g n cap bs ad wr u x vs cs o) (b : Nat) (e : x.ownBlock = some b) : w.heap.size < b ∧ b ≠ bs := by
  have h1 := (World.ownsRow.lt h.ci b e).1
  have h2 : b ≠ w.heap.size := fun er => own_ne h.ci h.res (by decide) (er ▸ e)
  exact ⟨by omega, fun er => own_ne h.ci h.blk (by decide) (er ▸ e)⟩
theorem LA.growV (h : LA w B g n cap bs ad wr u x vs cs o) {w2 : World} {u2 : Value} {y : Vr} (hp : VrRow w.heap.size w2 u2 (vs ++ [y])) (hg : wr.grownBy w2 u.ownBlock) (hn : vs.length < 80) (hy : y.name.size ≤ 100 ∧ y.val.size ≤ 100) :
    LA w B g n cap bs ad (w2.setCell ⟨bs, 0, none⟩ u2) u2 x (vs ++ [y]) cs o :=
  h.put hg h.rowV hp (rowKeep h.ci (fun q hq => hg.block q (World.ownsRow.lt h.ci q hq).2 (fun e => own_ne2 h.vi h.ci (by decide) hq e.symm))) (h.fw.addV y hn hy) rfl
theorem LA.growC (h : LA w B g n cap bs ad wr u x vs cs o) {w2 : World} {x2 : Value} {y : Cl} (hp : ClRow w.heap.size w2 x2 (cs ++ [y])) (hg : wr.grownBy w2 x.ownBlock) (hn : cs.length < 80) (hy : y.name.size ≤ 100 ∧ y.key.size ≤ 100 ∧ y.val.size ≤ 100) :
    LA w B g n cap bs ad (w2.setCell ⟨bs, 1, none⟩ x2) u x2 vs (cs ++ [y]) o :=
  h.put hg h.rowC (rowKeep h.vi (fun q hq => hg.block q (World.ownsRow.lt h.vi q hq).2 (fun e => own_ne2 h.ci h.vi (by decide) hq e.symm))) hp (h.fw.addC y hn hy) rfl
theorem LA.setO (h : LA w B g n cap bs ad wr u x vs cs o) {w2 : World} (hb : Below wr.heap.size wr w2) {o2 : ByteArray} (ho : o2.size ≤ 4000) : LA w B g n cap bs ad (w2.setCell ⟨bs, 2, none⟩ (.string o2)) u x vs cs o2 :=
  (h.up hb).put (r := none) ⟨rfl, rfl, rfl, Nat.le_refl _, fun _ _ _ => rfl⟩ (fun b e => by cases e) (h.up hb).vi (h.up hb).ci ⟨h.fw.nv, h.fw.nc, ho, h.fw.sv, h.fw.sc⟩ rfl
/-- The box as it is after a row has grown, before it is set. -/
theorem LA.still (h : LA w B g n cap bs ad wr u x vs cs o) {w2 : World} {r : Option Nat} (hg : wr.grownBy w2 r) (hr : r ≠ some bs) : w2.cell? ⟨bs, 0, none⟩ = some u ∧ w2.cell? ⟨bs, 1, none⟩ = some x ∧ w2.cell? ⟨bs, 2, none⟩ = some (.string o) ∧ w2.frozen? ⟨bs, 0, none⟩ = false ∧ w2.frozen? ⟨bs, 1, none⟩ = false ∧ w2.frozen? ⟨bs, 2, none⟩ = false := by
  have hb2 := (hg.block bs (blk_lt h.blk) (fun e => hr e.symm)).trans h.blk
  exact ⟨(blk_cell hb2 0).trans rfl, (blk_cell hb2 1).trans rfl, (blk_cell hb2 2).trans rfl, blk_free hb2 0, blk_free hb2 1, blk_free hb2 2⟩
end
end PartDAm
end Go.Proofs.Ytmofljfffcnlbaa
