/- Programs in memory: the law's own copy of a row of nodes. Programs in memory: the law's own copy of a row of rules. -/
import Derived.Test.YthbblocllicmiapZad
import Derived.Test.YthbblocllicmiapZac
namespace Go.Proofs.Ythbblocllicmiap
section PartLgB
open Go.RowKit

theorem Try.infoN : (Try.prog.info? 59).map (fun i => (i.zero, i.size, i.bytes)) = some (some (.agg #[.int .i64 0, .string ByteArray.empty, .slice none 0 0]), 3, 48) := by kernel_rfl

/-- make of n pieces. -/
theorem makeN_run (n : Nat) (h : n ≤ 1000000000) : ∃ M : Array Value, M.size = n * 3 ∧ ∀ W : World, (Instr.makeSlice 34 (.int .i64 (n : Int)) (.int .i64 (n : Int))).run Try.prog W = .ok (.slice (some ⟨W.heap.size, 0, none⟩) n n) (W.alloc (.cells M 59)) := by
  obtain ⟨i0, hi, hz0, hz1, hz2⟩ := info_parts Try.infoN
  refine ⟨madeCells (Value.agg #[.int .i64 0, .string ByteArray.empty, .slice none 0 0]).cells (((n : Nat) : Int).toNat * i0.size), ?_, fun W => ?_⟩
  · rw [size_madeCells, hz1]; simp
  · have h := run_make (P := Try.prog) W 34 59 i0 _ Try.underlying34 hi hz0 .i64 .i64 (n : Int) (n : Int) (by omega) (by omega) (by rw [hz2]; omega) (by omega)
    simpa using h

set_option maxHeartbeats 800000 in
theorem toNode_any (kv : Value) (p : Pi) (w : World) (h : KidsAt w kv p.kids) (hk : p.kids.length ≤ 1048576) :
    Calls Try.prog 53 #[.agg #[.int .i64 p.op, .string p.text, kv]] w fun e w' => ∃ q, w.heap.size ≤ q ∧ q < w'.heap.size ∧ e = .returned (.agg #[.int .i64 p.op, .string p.text, .slice (some ⟨q, 0, none⟩) p.kids.length p.kids.length]) ∧ Below w.heap.size w w' ∧ KidsBlk w' q p.kids := by
  obtain ⟨op, t, ks⟩ := p
  simp only at h hk ⊢
  have CC : Hid (∀ w' : World, Below w.heap.size w w' → Calls Try.prog 72 #[kv] w' fun e w'' => e = .returned (.slice (some ⟨w'.heap.size, 0, none⟩) ks.length ks.length) ∧ Below w'.heap.size w' w'' ∧ w''.heap.size = w'.heap.size + 1 ∧ KidsBlk w'' w'.heap.size ks) :=
    fun w' hb => toInts_any kv ks w' (h.keep hb) hk
  obtain ⟨ka, kc, rfl, _⟩ := h
  go_enter Try.func53, Try.ntmps53
  go_wp2_with fail
  refine (CC.out _ ((((Below.refl _ _).alloc (Nat.le_refl _) _).alloc (by simp) _).alloc (by simp; omega) _)).mono ?_
  rintro e w1 ⟨rfl, hb1, hs1, hk1⟩
  have hs2 : w1.heap.size = w.heap.size + 4 := by rw [hs1]; simp
  have R3 := hb1.block (w.heap.size + 1 + 1) (by simp)
  have R2 := hb1.block (w.heap.size + 1) (by simp)
  rw [alloc3_2] at R3
  rw [alloc3_1] at R2
  have HK1 : Hid (KidsBlk w1 (w.heap.size + 3) ks) := by
    have e : (((w.alloc (Obj.cells #[Value.int IntKind.i64 op, Value.string t, Value.slice ka ks.length kc] 82)).alloc (Obj.cells #[Value.int IntKind.i64 0, Value.string { data := #[] }, Value.slice none 0 0] 59)).alloc (Obj.cells #[Value.int IntKind.i64 op, Value.string t, Value.slice none 0 0] 59)).heap.size = w.heap.size + 3 := by simp
    rw [e] at hk1
    exact hk1
  have HB1 : Hid (Below w.heap.size w w1) := ((((Below.refl _ _).alloc (Nat.le_refl _) _).alloc (by simp) _).alloc (by simp; omega) _).trans (hb1.mono (by simp; omega))
  clear hk1 hb1 hs1 CC
  have c3 := blk_cell R3 2
  have f3 := blk_free R3 2
  have R3' := blk_set R3 2 (.slice (some ⟨w.heap.size + 1 + 1 + 1, 0, none⟩) ks.length ks.length)
  have R2' := (Below.heap_setCell w1 ⟨w.heap.size + 1 + 1, 2, none⟩ (.slice (some ⟨w.heap.size + 1 + 1 + 1, 0, none⟩) ks.length ks.length) (w.heap.size + 1) (by simp)).trans R2
  have HR3 : Hid _ := R3'
  have HR2 : Hid _ := R2'
  have d0 := blk_cell R3' 0
  have d1 := blk_cell R3' 1
  have d2 := blk_cell R3' 2
  have b0 := blk_cell R2' 0
  have b1 := blk_cell R2' 1
  have b2 := blk_cell R2' 2
  have g0 := blk_free R2' 0
  have g1 := blk_free R2' 1
  have g2 := blk_free R2' 2
  clear R3' R2' R2 R3
  simp at c3 d0 d1 d2 b0 b1 b2
  go_wp2_with fail
  have Q := blk_set (blk_set (blk_set HR2.out 0 (.int .i64 op)) 1 (.string t)) 2 (.slice (some ⟨w.heap.size + 1 + 1 + 1, 0, none⟩) ks.length ks.length)
  refine bodyPost_ret (results_cell_row (p := 2) (ty := 59) rfl _ _ (w.heap.size + 1) 59 _ (0, 0) _ rfl Q Try.underlying59 rfl (by kernel_rfl)) rfl ?_
  refine ⟨w.heap.size + 1 + 1 + 1, by omega, ?_, rfl, ?_, ?_⟩
  · simp [World.setCell]; omega
  · exact (((HB1.out.setCell (by show _ ≤ w.heap.size + 1 + 1; omega) _).setCell (by show _ ≤ w.heap.size + 1; omega) _).setCell (by show _ ≤ w.heap.size + 1; omega) _).setCell (by show _ ≤ w.heap.size + 1; omega) _
  · show _ = _
    rw [Below.heap_setCell _ _ _ _ (by show w.heap.size + 1 + 1 + 1 ≠ w.heap.size + 1; omega), Below.heap_setCell _ _ _ _ (by show w.heap.size + 1 + 1 + 1 ≠ w.heap.size + 1; omega), Below.heap_setCell _ _ _ _ (by show w.heap.size + 1 + 1 + 1 ≠ w.heap.size + 1; omega), Below.heap_setCell _ _ _ _ (by show w.heap.size + 1 + 1 + 1 ≠ w.heap.size + 1 + 1; omega)]
    exact HK1.out

/-- The law's own copy of the pieces ps: its row in block g, and of each piece its kids in a block of its own, one behind the other. -/
def NCopy (w : World) (g n : Nat) (ps : List Pi) (k : Nat) : Prop :=
  (∃ arr, w.heap[g]? = some (.cells arr 59 (0, 0)) ∧ arr.size = n * 3) ∧
  ∃ Q : Nat → Nat, (∀ i, i < k → g < Q i ∧ w.cell? ⟨g, i * 3, none⟩ = some (.int .i64 (ps.getD i Pi.no).op) ∧ w.cell? ⟨g, i * 3 + 1, none⟩ = some (.string (ps.getD i Pi.no).text) ∧
    w.cell? ⟨g, i * 3 + 2, none⟩ = some (.slice (some ⟨Q i, 0, none⟩) (ps.getD i Pi.no).kids.length (ps.getD i Pi.no).kids.length) ∧ KidsBlk w (Q i) (ps.getD i Pi.no).kids) ∧ ∀ i j, i < j → j < k → Q i < Q j

theorem NCopy.keep {w w' : World} {g n k : Nat} {ps : List Pi} (h : NCopy w g n ps k) (hb : Below w.heap.size w w') : NCopy w' g n ps k := by
  obtain ⟨⟨arr, ha, hs⟩, Q, hQ, hm⟩ := h
  have hl := blk_lt ha
  refine ⟨⟨arr, (hb.block g hl).trans ha, hs⟩, Q, fun i hi => ?_, hm⟩
  obtain ⟨h1, h2, h3, h4, h5⟩ := hQ i hi
  exact ⟨h1, (hb.cell hl).trans h2, (hb.cell hl).trans h3, (hb.cell hl).trans h4, h5.keep hb⟩

theorem NCopy.at {w : World} {g : Nat} {ps : List Pi} (h : NCopy w g ps.length ps ps.length) (c : Nat) : PcsAt w (.slice (some ⟨g, 0, none⟩) ps.length c) ps := by
  obtain ⟨⟨arr, ha, hs⟩, Q, hQ, hm⟩ := h
  refine ⟨_, _, rfl, fun _ => ⟨g, 0, rfl, blk_lt ha, fun i hi => ?_⟩⟩
  obtain ⟨h1, h2, h3, h4, h5⟩ := hQ i hi
  rw [Nat.zero_add]
  exact ⟨_, h2, h3, h4, h5.at _⟩

/-- A store below a copy leaves it as it was. -/
theorem NCopy.setFar {w : World} {g n k : Nat} {ps : List Pi} (h : NCopy w g n ps k) (p : Addr) (u : Value) (hp : p.block < g) : NCopy (w.setCell p u) g n ps k := by
  obtain ⟨⟨arr, ha, hs⟩, Q, hQ, hm⟩ := h
  have hO : ∀ j, g ≤ j → (w.setCell p u).heap[j]? = w.heap[j]? := fun j hj => Below.heap_setCell _ _ _ _ (by omega)
  have hC : ∀ j, (w.setCell p u).cell? ⟨g, j, none⟩ = w.cell? ⟨g, j, none⟩ := fun j => by rw [blk_cell ((hO g (Nat.le_refl _)).trans ha), blk_cell ha]
  refine ⟨⟨arr, (hO g (Nat.le_refl _)).trans ha, hs⟩, Q, fun i hi => ?_, hm⟩
  obtain ⟨h1, h2, h3, h4, h5⟩ := hQ i hi
  exact ⟨h1, (hC _).trans h2, (hC _).trans h3, (hC _).trans h4, (hO _ (by omega)).trans h5⟩

/-- One piece more is stored. -/
theorem NCopy.more {w w1 : World} {g n k q : Nat} {ps : List Pi} (h : NCopy w g n ps k) (hk : k < n) (hb : Below w.heap.size w w1) (hq1 : w.heap.size ≤ q) (hq : KidsBlk w1 q (ps.getD k Pi.no).kids) :
    NCopy (((w1.setCell ⟨g, k * 3, none⟩ (.int .i64 (ps.getD k Pi.no).op)).setCell ⟨g, k * 3 + 1, none⟩ (.string (ps.getD k Pi.no).text)).setCell ⟨g, k * 3 + 2, none⟩ (.slice (some ⟨q, 0, none⟩) (ps.getD k Pi.no).kids.length (ps.getD k Pi.no).kids.length)) g n ps (k + 1) := by
  obtain ⟨⟨arr, ha, hs⟩, Q, hQ, hm⟩ := h.keep hb
  have hgl : g < w.heap.size := by obtain ⟨⟨_, ha', _⟩, _⟩ := h; exact blk_lt ha'
  have hQl : ∀ i, i < k → Q i < w1.heap.size := fun i hi => blk_lt (hQ i hi).2.2.2.2
  have R := blk_set (blk_set (blk_set ha (k * 3) (.int .i64 (ps.getD k Pi.no).op)) (k * 3 + 1) (.string (ps.getD k Pi.no).text)) (k * 3 + 2) (.slice (some ⟨q, 0, none⟩) (ps.getD k Pi.no).kids.length (ps.getD k Pi.no).kids.length)
  obtain ⟨w2, hw2⟩ : ∃ w2, w2 = (((w1.setCell ⟨g, k * 3, none⟩ (.int .i64 (ps.getD k Pi.no).op)).setCell ⟨g, k * 3 + 1, none⟩ (.string (ps.getD k Pi.no).text)).setCell ⟨g, k * 3 + 2, none⟩ (.slice (some ⟨q, 0, none⟩) (ps.getD k Pi.no).kids.length (ps.getD k Pi.no).kids.length)) := ⟨_, rfl⟩
  have hO : ∀ j, j ≠ g → w2.heap[j]? = w1.heap[j]? := by
    intro j hj
    rw [hw2, Below.heap_setCell _ _ _ _ (by show j ≠ g; exact hj), Below.heap_setCell _ _ _ _ (by show j ≠ g; exact hj), Below.heap_setCell _ _ _ _ (by show j ≠ g; exact hj)]
  rw [← hw2] at R ⊢
  clear hw2
  have hC : ∀ j, j < k * 3 → w2.cell? ⟨g, j, none⟩ = w1.cell? ⟨g, j, none⟩ := by
    intro j hj
    rw [blk_cell R, blk_cell ha]
    simp [Array.getElem?_setIfInBounds]
    rw [if_neg (by omega), if_neg (by omega), if_neg (by omega)]
  refine ⟨⟨_, R, by simpa using hs⟩, fun i => if i = k then q else Q i, fun i hi => ?_, fun i j hij hj => ?_⟩
  · by_cases hik : i = k
    · subst hik
      simp only [↓reduceIte]
      refine ⟨by omega, ?_, ?_, ?_, ?_⟩
      · rw [blk_cell R]; simp [Array.getElem?_setIfInBounds]; omega
      · rw [blk_cell R]; simp [Array.getElem?_setIfInBounds]; omega
      · rw [blk_cell R]; simp [Array.getElem?_setIfInBounds]; omega
      · exact (hO q (by omega)).trans hq
    · simp only [if_neg hik]
      obtain ⟨h1, h2, h3, h4, h5⟩ := hQ i (by omega)
      exact ⟨h1, (hC _ (by omega)).trans h2, (hC _ (by omega)).trans h3, (hC _ (by omega)).trans h4, (hO (Q i) (by omega)).trans h5⟩
  · have hi : i < k := by omega
    simp only [if_neg (show ¬ i = k by omega)]
    by_cases hjk : j = k
    · simp only [hjk, ↓reduceIte]
      have h0 : Q i < w.heap.size := by
        obtain ⟨_, Q', hQ', _⟩ := h
        have e1 := (hQ' i hi).2.2.2.1
        have e2 := (hQ i hi).2.2.2.1
        have e3 := hb.cell (p := ⟨g, i * 3 + 2, none⟩) hgl
        rw [e1, e2] at e3
        have : Q i = Q' i := by simpa using e3
        rw [this]
        exact blk_lt (hQ' i hi).2.2.2.2
      omega
    · simp only [if_neg hjk]
      exact hm i j hij (by omega)

set_option maxHeartbeats 800000 in
theorem toNodes_any (v : Value) (ps : List Pi) (w : World) (h : PcsAt w v ps) (hk : ps.length ≤ 1048576) (hs : Small ps ps.length) :
    Calls Try.prog 29 #[v] w fun e w' => e = .returned (.slice (some ⟨w.heap.size, 0, none⟩) ps.length ps.length) ∧ Below w.heap.size w w' ∧ NCopy w' w.heap.size ps.length ps ps.length := by
  obtain ⟨ad, c, rfl, f⟩ := h
  obtain ⟨n, hn⟩ : ∃ n, n = ps.length := ⟨_, rfl⟩
  have HS : Hid (Small ps n) := by rw [hn]; exact hs
  rw [← hn] at f hk ⊢
  clear hs
  obtain ⟨M, hM, hmk⟩ := makeN_run n (by omega)
  have HW : Hid (NCopy (w.alloc (.cells M 59)) w.heap.size n ps 0) := ⟨⟨M, heap_alloc_new w (.cells M 59), hM⟩, fun _ => 0, fun i hi => by omega, fun i j _ hj => by omega⟩
  by_cases h0 : n = 0
  · subst h0
    have hmk0 : ∀ W : World, (Instr.makeSlice 34 (.int .i64 0) (.int .i64 0)).run Try.prog W = .ok (.slice (some ⟨W.heap.size, 0, none⟩) 0 0) (W.alloc (.cells M 59)) := hmk
    clear f hn hM hmk
    go_enter Try.func29, Try.ntmps29
    go_wp2
    refine wp_loop_rounds 1 ?_
    rw [rounds_succ]
    go_wp2
    go_ret
    exact ⟨rfl, (Below.refl _ _).alloc (Nat.le_refl _) _, HW.out⟩
  · obtain ⟨b, o, rfl, hb, hc⟩ := f (by omega)
    have HC : Hid (∀ i, i < n → PieceAt w b (o + i * 3) (ps.getD i Pi.no)) := hc
    clear f hn hM hc
    go_enter Try.func29, Try.ntmps29
    go_wp2
    clear hmk
    go_loopw [4] (fun i wr => ∃ k : Nat, i = .int .i64 (k : Int) ∧ k ≤ n ∧ Below w.heap.size w wr ∧ w.heap.size < wr.heap.size ∧ Hid (NCopy wr w.heap.size n ps k)) (fun i _ => n - (intOf i).toNat)
    case atStart => exact ⟨0, rfl, by omega, (Below.refl _ _).alloc (Nat.le_refl _) _, by simp, HW.out⟩
    case round =>
      obtain ⟨k, rfl, hk2, hbel, hsz, HH⟩ := hrel
      by_cases hlt : k < n
      · obtain ⟨p, hp⟩ : ∃ p, p = ps.getD k Pi.no := ⟨_, rfl⟩
        have hpc := HC.out k hlt
        rw [← hp] at hpc
        obtain ⟨kv, c0, c1, c2, hkv⟩ := hpc
        have e0 := (hbel.cell hb).trans c0
        have e1 := (hbel.cell hb).trans c1
        have e2 := (hbel.cell hb).trans c2
        have hkv2 := hkv.keep hbel
        have hkl := HS.out k hlt
        rw [← hp] at hkl
        have CC : Hid (Calls Try.prog 53 #[.agg #[.int .i64 p.op, .string p.text, kv]] wr fun e w' => ∃ q, wr.heap.size ≤ q ∧ q < w'.heap.size ∧ e = .returned (.agg #[.int .i64 p.op, .string p.text, .slice (some ⟨q, 0, none⟩) p.kids.length p.kids.length]) ∧ Below wr.heap.size wr w' ∧ KidsBlk w' q p.kids) :=
          toNode_any kv p wr hkv2 hkl.1
        have CM : Hid (∀ (w1 : World) (q : Nat), Below wr.heap.size wr w1 → wr.heap.size ≤ q → KidsBlk w1 q p.kids → NCopy (((w1.setCell ⟨w.heap.size, k * 3, none⟩ (.int .i64 p.op)).setCell ⟨w.heap.size, k * 3 + 1, none⟩ (.string p.text)).setCell ⟨w.heap.size, k * 3 + 2, none⟩ (.slice (some ⟨q, 0, none⟩) p.kids.length p.kids.length)) w.heap.size n ps (k + 1)) := by
          rw [hp]
          exact fun w1 q h1 h2 h3 => HH.out.more hlt h1 h2 h3
        clear hp c0 c1 c2 hkl
        obtain ⟨⟨arr, ha, hsa⟩, _⟩ := HH.out
        obtain ⟨op, t, ks⟩ := p
        obtain ⟨ka, kc, rfl, _⟩ := hkv2
        clear hkv
        simp only at e0 e1 e2 CC CM
        have i1 : (k : Int) < (n : Int) := by omega
        go_wp2_with fail
        refine CC.out.mono ?_
        rintro e w1 ⟨q, hq1, hq2, rfl, hb1, hk1⟩
        have R := (hb1.block w.heap.size hsz).trans ha
        have c0 := blk_cell R (k * 3)
        have c1 := blk_cell R (k * 3 + 1)
        have c2 := blk_cell R (k * 3 + 2)
        have f0 := blk_free R (k * 3)
        have f1 := blk_free R (k * 3 + 1)
        have f2 := blk_free R (k * 3 + 2)
        rw [Array.getElem?_eq_getElem (by omega)] at c0 c1 c2
        have HCM : Hid _ := CM.out w1 q hb1 hq1 hk1
        clear R ha CC CM
        go_wp2_with fail
        go_roundw
        case rel => exact ⟨k + 1, by go_num, by omega, (((hbel.trans (hb1.mono (by omega))).setCell (by exact Nat.le_refl _) _).setCell (by exact Nat.le_refl _) _).setCell (by exact Nat.le_refl _) _, by have := hb1.size; simp [World.setCell]; omega, HCM.out⟩
        case measure => simp [intOf]; omega
      · obtain rfl : k = n := by omega
        go_wp2
        go_ret
        exact ⟨rfl, hbel, HH.out⟩

end PartLgB
section PartLgE
open Go.RowKit

theorem Try.infoR : (Try.prog.info? 55).map (fun i => (i.zero, i.size, i.bytes)) = some (some (.agg #[.int .i64 0, .int .i64 0, .int .i64 0]), 3, 24) := by kernel_rfl
/-- make of n rules. -/
theorem makeR_run (n : Nat) (h : n ≤ 1000000000) : ∃ M : Array Value, M.size = n * 3 ∧ ∀ W : World, (Instr.makeSlice 35 (.int .i64 (n : Int)) (.int .i64 (n : Int))).run Try.prog W = .ok (.slice (some ⟨W.heap.size, 0, none⟩) n n) (W.alloc (.cells M 55)) := by
  obtain ⟨i0, hi, hz0, hz1, hz2⟩ := info_parts Try.infoR
  refine ⟨madeCells (Value.agg #[.int .i64 0, .int .i64 0, .int .i64 0]).cells (((n : Nat) : Int).toNat * i0.size), ?_, fun W => ?_⟩
  · rw [size_madeCells, hz1]; simp
  · have h := run_make (P := Try.prog) W 35 55 i0 _ Try.underlying35 hi hz0 .i64 .i64 (n : Int) (n : Int) (by omega) (by omega) (by rw [hz2]; omega) (by omega)
    simpa using h

set_option maxHeartbeats 800000 in
theorem toRule_any (x y z : Int) (w : World) :
    Calls Try.prog 54 #[.agg #[.int .i64 x, .int .i64 y, .int .i64 z]] w fun e w' => e = .returned (.agg #[.int .i64 x, .int .i64 y, .int .i64 z]) ∧ Below w.heap.size w w' := by
  go_enter Try.func54, Try.ntmps54
  go_wp2_with fail
  refine bodyPost_ret (results_cell_row (p := 2) (ty := 55) rfl _ _ (w.heap.size + 1) 55 _ (0, 0) _ rfl (alloc3_1 _ _ _ _) Try.underlying55 rfl (by kernel_rfl)) rfl ?_
  exact ⟨rfl, (((Below.refl _ _).alloc (Nat.le_refl _) _).alloc (by simp) _).alloc (by simp; omega) _⟩

/-- The law's own copy of the rules rs: its row in block g. -/
def RCopy (w : World) (g n : Nat) (rs : List Pg.Rl) (k : Nat) : Prop :=
  (∃ arr, w.heap[g]? = some (.cells arr 55 (0, 0)) ∧ arr.size = n * 3) ∧
  ∀ i, i < k → w.cell? ⟨g, i * 3, none⟩ = some (.int .i64 (rs.getD i Pg.Rl.no).when) ∧ w.cell? ⟨g, i * 3 + 1, none⟩ = some (.int .i64 (rs.getD i Pg.Rl.no).cond) ∧ w.cell? ⟨g, i * 3 + 2, none⟩ = some (.int .i64 (rs.getD i Pg.Rl.no).act)
theorem RCopy.keep {w w' : World} {g n k : Nat} {rs : List Pg.Rl} (h : RCopy w g n rs k) (hb : Below w.heap.size w w') : RCopy w' g n rs k := by
  obtain ⟨⟨arr, ha, hs⟩, hQ⟩ := h
  have hl := blk_lt ha
  exact ⟨⟨arr, (hb.block g hl).trans ha, hs⟩, fun i hi => ⟨(hb.cell hl).trans (hQ i hi).1, (hb.cell hl).trans (hQ i hi).2.1, (hb.cell hl).trans (hQ i hi).2.2⟩⟩
theorem RCopy.at {w : World} {g : Nat} {rs : List Pg.Rl} (h : RCopy w g rs.length rs rs.length) (c : Nat) : RlsAt w (.slice (some ⟨g, 0, none⟩) rs.length c) rs := by
  obtain ⟨⟨arr, ha, hs⟩, hQ⟩ := h
  refine ⟨_, _, rfl, fun _ => ⟨g, 0, rfl, blk_lt ha, fun i hi => ?_⟩⟩
  rw [Nat.zero_add]
  exact hQ i hi
theorem RCopy.setFar {w : World} {g n k : Nat} {rs : List Pg.Rl} (h : RCopy w g n rs k) (p : Addr) (u : Value) (hp : p.block < g) : RCopy (w.setCell p u) g n rs k := by
  obtain ⟨⟨arr, ha, hs⟩, hQ⟩ := h
  have hO : ∀ j, g ≤ j → (w.setCell p u).heap[j]? = w.heap[j]? := fun j hj => Below.heap_setCell _ _ _ _ (by omega)
  have hC : ∀ j, (w.setCell p u).cell? ⟨g, j, none⟩ = w.cell? ⟨g, j, none⟩ := fun j => by rw [blk_cell ((hO g (Nat.le_refl _)).trans ha), blk_cell ha]
  exact ⟨⟨arr, (hO g (Nat.le_refl _)).trans ha, hs⟩, fun i hi => ⟨(hC _).trans (hQ i hi).1, (hC _).trans (hQ i hi).2.1, (hC _).trans (hQ i hi).2.2⟩⟩
theorem RCopy.more {w w1 : World} {g n k : Nat} {rs : List Pg.Rl} (h : RCopy w g n rs k) (hk : k < n) (hb : Below w.heap.size w w1) :
    RCopy (((w1.setCell ⟨g, k * 3, none⟩ (.int .i64 (rs.getD k Pg.Rl.no).when)).setCell ⟨g, k * 3 + 1, none⟩ (.int .i64 (rs.getD k Pg.Rl.no).cond)).setCell ⟨g, k * 3 + 2, none⟩ (.int .i64 (rs.getD k Pg.Rl.no).act)) g n rs (k + 1) := by
  obtain ⟨⟨arr, ha, hs⟩, hQ⟩ := h.keep hb
  have R := blk_set (blk_set (blk_set ha (k * 3) (.int .i64 (rs.getD k Pg.Rl.no).when)) (k * 3 + 1) (.int .i64 (rs.getD k Pg.Rl.no).cond)) (k * 3 + 2) (.int .i64 (rs.getD k Pg.Rl.no).act)
  obtain ⟨w2, hw2⟩ : ∃ w2, w2 = (((w1.setCell ⟨g, k * 3, none⟩ (.int .i64 (rs.getD k Pg.Rl.no).when)).setCell ⟨g, k * 3 + 1, none⟩ (.int .i64 (rs.getD k Pg.Rl.no).cond)).setCell ⟨g, k * 3 + 2, none⟩ (.int .i64 (rs.getD k Pg.Rl.no).act)) := ⟨_, rfl⟩
  rw [← hw2] at R ⊢
  clear hw2
  have hC : ∀ j, j < k * 3 → w2.cell? ⟨g, j, none⟩ = w1.cell? ⟨g, j, none⟩ := by
    intro j hj
    rw [blk_cell R, blk_cell ha]
    simp [Array.getElem?_setIfInBounds]
    rw [if_neg (by omega), if_neg (by omega), if_neg (by omega)]
  refine ⟨⟨_, R, by simpa using hs⟩, fun i hi => ?_⟩
  by_cases hik : i = k
  · subst hik
    refine ⟨?_, ?_, ?_⟩
    · rw [blk_cell R]; simp [Array.getElem?_setIfInBounds]; omega
    · rw [blk_cell R]; simp [Array.getElem?_setIfInBounds]; omega
    · rw [blk_cell R]; simp [Array.getElem?_setIfInBounds]; omega
  · obtain ⟨h1, h2, h3⟩ := hQ i (by omega)
    exact ⟨(hC _ (by omega)).trans h1, (hC _ (by omega)).trans h2, (hC _ (by omega)).trans h3⟩

set_option maxHeartbeats 800000 in
theorem toRules_any (v : Value) (rs : List Pg.Rl) (w : World) (h : RlsAt w v rs) (hk : rs.length ≤ 1048576) :
    Calls Try.prog 30 #[v] w fun e w' => e = .returned (.slice (some ⟨w.heap.size, 0, none⟩) rs.length rs.length) ∧ Below w.heap.size w w' ∧ RCopy w' w.heap.size rs.length rs rs.length := by
  obtain ⟨ad, c, rfl, f⟩ := h
  obtain ⟨n, hn⟩ : ∃ n, n = rs.length := ⟨_, rfl⟩
  rw [← hn] at f hk ⊢
  obtain ⟨M, hM, hmk⟩ := makeR_run n (by omega)
  have HW : Hid (RCopy (w.alloc (.cells M 55)) w.heap.size n rs 0) := ⟨⟨M, heap_alloc_new w (.cells M 55), hM⟩, fun i hi => by omega⟩
  by_cases h0 : n = 0
  · subst h0
    have hmk0 : ∀ W : World, (Instr.makeSlice 35 (.int .i64 0) (.int .i64 0)).run Try.prog W = .ok (.slice (some ⟨W.heap.size, 0, none⟩) 0 0) (W.alloc (.cells M 55)) := hmk
    clear f hn hM hmk
    go_enter Try.func30, Try.ntmps30
    go_wp2
    refine wp_loop_rounds 1 ?_
    rw [rounds_succ]
    go_wp2
    go_ret
    exact ⟨rfl, (Below.refl _ _).alloc (Nat.le_refl _) _, HW.out⟩
  · obtain ⟨b, o, rfl, hb, hc⟩ := f (by omega)
    have HC : Hid (∀ i, i < n → w.cell? ⟨b, o + i * 3, none⟩ = some (.int .i64 (rs.getD i Pg.Rl.no).when) ∧ w.cell? ⟨b, o + i * 3 + 1, none⟩ = some (.int .i64 (rs.getD i Pg.Rl.no).cond) ∧ w.cell? ⟨b, o + i * 3 + 2, none⟩ = some (.int .i64 (rs.getD i Pg.Rl.no).act)) := hc
    clear f hn hM hc
    go_enter Try.func30, Try.ntmps30
    go_wp2
    clear hmk
    go_loopw [4] (fun i wr => ∃ k : Nat, i = .int .i64 (k : Int) ∧ k ≤ n ∧ Below w.heap.size w wr ∧ w.heap.size < wr.heap.size ∧ Hid (RCopy wr w.heap.size n rs k)) (fun i _ => n - (intOf i).toNat)
    case atStart => exact ⟨0, rfl, by omega, (Below.refl _ _).alloc (Nat.le_refl _) _, by simp, HW.out⟩
    case round =>
      obtain ⟨k, rfl, hk2, hbel, hsz, HH⟩ := hrel
      by_cases hlt : k < n
      · obtain ⟨p, hp⟩ : ∃ p, p = rs.getD k Pg.Rl.no := ⟨_, rfl⟩
        have hpc := HC.out k hlt
        rw [← hp] at hpc
        obtain ⟨c0, c1, c2⟩ := hpc
        have e0 := (hbel.cell hb).trans c0
        have e1 := (hbel.cell hb).trans c1
        have e2 := (hbel.cell hb).trans c2
        have CC : Hid (Calls Try.prog 54 #[.agg #[.int .i64 p.when, .int .i64 p.cond, .int .i64 p.act]] wr fun e w' => e = .returned (.agg #[.int .i64 p.when, .int .i64 p.cond, .int .i64 p.act]) ∧ Below wr.heap.size wr w') := toRule_any _ _ _ wr
        have CM : Hid (∀ (w1 : World), Below wr.heap.size wr w1 → RCopy (((w1.setCell ⟨w.heap.size, k * 3, none⟩ (.int .i64 p.when)).setCell ⟨w.heap.size, k * 3 + 1, none⟩ (.int .i64 p.cond)).setCell ⟨w.heap.size, k * 3 + 2, none⟩ (.int .i64 p.act)) w.heap.size n rs (k + 1)) := by
          rw [hp]
          exact fun w1 h1 => HH.out.more hlt h1
        clear hp c0 c1 c2
        obtain ⟨⟨arr, ha, hsa⟩, _⟩ := HH.out
        obtain ⟨x, y, z⟩ := p
        simp only at e0 e1 e2 CC CM
        have i1 : (k : Int) < (n : Int) := by omega
        go_wp2_with fail
        refine CC.out.mono ?_
        rintro e w1 ⟨rfl, hb1⟩
        have R := (hb1.block w.heap.size hsz).trans ha
        have c0 := blk_cell R (k * 3)
        have c1 := blk_cell R (k * 3 + 1)
        have c2 := blk_cell R (k * 3 + 2)
        have f0 := blk_free R (k * 3)
        have f1 := blk_free R (k * 3 + 1)
        have f2 := blk_free R (k * 3 + 2)
        rw [Array.getElem?_eq_getElem (by omega)] at c0 c1 c2
        have HCM : Hid _ := CM.out w1 hb1
        clear R ha CC CM
        go_wp2_with fail
        go_roundw
        case rel => exact ⟨k + 1, by go_num, by omega, (((hbel.trans (hb1.mono (by omega))).setCell (by exact Nat.le_refl _) _).setCell (by exact Nat.le_refl _) _).setCell (by exact Nat.le_refl _) _, by have := hb1.size; simp [World.setCell]; omega, HCM.out⟩
        case measure => simp [intOf]; omega
      · obtain rfl : k = n := by omega
        go_wp2
        go_ret
        exact ⟨rfl, hbel, HH.out⟩

theorem alloc3_0 (w : World) (A B C : Obj) : (((w.alloc A).alloc B).alloc C).heap[w.heap.size]? = some A := by
  show (((w.heap.push A).push B).push C)[w.heap.size]? = some A
  rw [Array.getElem?_push, if_neg (by simp; omega), Array.getElem?_push, if_neg (by simp), Array.getElem?_push]
  simp
/-- A program's copy. -/
def ProgCopy (w : World) (v : Value) (B : Nat) (ps : List Pi) (rs : List Pg.Rl) : Prop := ∃ g h, v = .agg #[.slice (some ⟨g, 0, none⟩) ps.length ps.length, .slice (some ⟨h, 0, none⟩) rs.length rs.length] ∧ B ≤ g ∧ B ≤ h ∧ NCopy w g ps.length ps ps.length ∧ RCopy w h rs.length rs rs.length

set_option maxHeartbeats 1600000 in
theorem toProg_any (v rv : Value) (ps : List Pi) (rs : List Pg.Rl) (w : World) (h : PcsAt w v ps) (hr : RlsAt w rv rs) (hk : ps.length ≤ 1048576) (hs : Small ps ps.length) (hkr : rs.length ≤ 1048576) :
    Calls Try.prog 13 #[.agg #[v, rv]] w fun e w' => ∃ u, e = .returned u ∧ Below w.heap.size w w' ∧ ProgCopy w' u w.heap.size ps rs := by
  have CC : Hid (∀ w' : World, Below w.heap.size w w' → Calls Try.prog 29 #[v] w' fun e w'' => e = .returned (.slice (some ⟨w'.heap.size, 0, none⟩) ps.length ps.length) ∧ Below w'.heap.size w' w'' ∧ NCopy w'' w'.heap.size ps.length ps ps.length) :=
    fun w' hb => toNodes_any v ps w' (h.keep hb) hk hs
  have CR : Hid (∀ w' : World, Below w.heap.size w w' → Calls Try.prog 30 #[rv] w' fun e w'' => e = .returned (.slice (some ⟨w'.heap.size, 0, none⟩) rs.length rs.length) ∧ Below w'.heap.size w' w'' ∧ RCopy w'' w'.heap.size rs.length rs rs.length) :=
    fun w' hb => toRules_any rv rs w' (hr.keep hb) hkr
  obtain ⟨ad, c, rfl, _⟩ := h
  obtain ⟨ra, rc, rfl, _⟩ := hr
  go_enter Try.func13, Try.ntmps13
  go_wp2_with fail
  refine (CC.out _ ((((Below.refl _ _).alloc (Nat.le_refl _) _).alloc (by simp) _).alloc (by simp; omega) _)).mono ?_
  rintro e w1 ⟨rfl, hb1, hk1⟩
  have R3 := hb1.block (w.heap.size + 1 + 1) (by simp)
  have R2 := hb1.block (w.heap.size + 1) (by simp)
  have R1 := hb1.block w.heap.size (by simp; omega)
  rw [alloc3_2] at R3
  rw [alloc3_1] at R2
  rw [alloc3_0] at R1
  have HB1 : Hid (Below w.heap.size w w1) := ((((Below.refl _ _).alloc (Nat.le_refl _) _).alloc (by simp) _).alloc (by simp; omega) _).trans (hb1.mono (by simp; omega))
  have hs1 : w.heap.size + 1 + 1 + 1 ≤ w1.heap.size := by have := hb1.size; simpa using this
  simp only [World.size_alloc] at hk1
  have HK1 : Hid _ := hk1
  clear hk1 hb1 CC
  have c3 := blk_cell R3 0
  have f3 := blk_free R3 0
  have S3 := blk_set R3 0 (.slice (some ⟨w.heap.size + 1 + 1 + 1, 0, none⟩) ps.length ps.length)
  have S2 := (Below.heap_setCell w1 ⟨w.heap.size + 1 + 1, 0, none⟩ (.slice (some ⟨w.heap.size + 1 + 1 + 1, 0, none⟩) ps.length ps.length) (w.heap.size + 1) (by simp)).trans R2
  have S1 := (Below.heap_setCell w1 ⟨w.heap.size + 1 + 1, 0, none⟩ (.slice (some ⟨w.heap.size + 1 + 1 + 1, 0, none⟩) ps.length ps.length) w.heap.size (by simp; omega)).trans R1
  have a1 := blk_cell S1 1
  simp at c3 a1
  have HS3 : Hid _ := S3
  have HS2 : Hid _ := S2
  have HB2 : Hid (Below w.heap.size w (w1.setCell ⟨w.heap.size + 1 + 1, 0, none⟩ (.slice (some ⟨w.heap.size + 1 + 1 + 1, 0, none⟩) ps.length ps.length))) := HB1.out.setCell (by show _ ≤ w.heap.size + 1 + 1; omega) _
  have HK2 : Hid (NCopy (w1.setCell ⟨w.heap.size + 1 + 1, 0, none⟩ (.slice (some ⟨w.heap.size + 1 + 1 + 1, 0, none⟩) ps.length ps.length)) (w.heap.size + 1 + 1 + 1) ps.length ps ps.length) := NCopy.setFar HK1.out _ _ (by show w.heap.size + 1 + 1 < _; omega)
  have hs2 : w.heap.size + 1 + 1 + 1 ≤ (w1.setCell ⟨w.heap.size + 1 + 1, 0, none⟩ (.slice (some ⟨w.heap.size + 1 + 1 + 1, 0, none⟩) ps.length ps.length)).heap.size := by simpa [World.setCell] using hs1
  clear S1 S2 S3 R1 R2 R3
  go_wp2_with fail
  refine (CR.out _ HB2.out).mono ?_
  generalize w1.setCell ⟨w.heap.size + 1 + 1, 0, none⟩ (.slice (some ⟨w.heap.size + 1 + 1 + 1, 0, none⟩) ps.length ps.length) = w2 at *
  rintro e w3 ⟨rfl, hb3, hk3⟩
  have R3 := (hb3.block (w.heap.size + 1 + 1) (by omega)).trans HS3.out
  have R2 := (hb3.block (w.heap.size + 1) (by omega)).trans HS2.out
  have HB3 : Hid (Below w.heap.size w w3) := HB2.out.trans (hb3.mono (by omega))
  have HN3 : Hid (NCopy w3 (w.heap.size + 1 + 1 + 1) ps.length ps ps.length) := HK2.out.keep hb3
  have HR3 : Hid (RCopy w3 w2.heap.size rs.length rs rs.length) := hk3
  clear hk3 hb3 HK2 HS3 HS2 HB2 HK1 HB1 CR c3 f3 a1
  obtain ⟨G, hG⟩ : ∃ G, G = w2.heap.size := ⟨_, rfl⟩
  rw [← hG] at HR3 hs2 ⊢
  clear hG
  have d1 := blk_cell R3 1
  have f1 := blk_free R3 1
  have T3 := blk_set R3 1 (.slice (some ⟨G, 0, none⟩) rs.length rs.length)
  have T2 := (Below.heap_setCell w3 ⟨w.heap.size + 1 + 1, 1, none⟩ (.slice (some ⟨G, 0, none⟩) rs.length rs.length) (w.heap.size + 1) (by simp)).trans R2
  have HT2 : Hid _ := T2
  have e0 := blk_cell T3 0
  have e1 := blk_cell T3 1
  have b0 := blk_cell T2 0
  have b1 := blk_cell T2 1
  have g0 := blk_free T2 0
  have g1 := blk_free T2 1
  simp at d1 e0 e1 b0 b1
  clear T2 T3 R2 R3
  go_wp2_with fail
  have Q := blk_set (blk_set HT2.out 0 (.slice (some ⟨w.heap.size + 1 + 1 + 1, 0, none⟩) ps.length ps.length)) 1 (.slice (some ⟨G, 0, none⟩) rs.length rs.length)
  refine bodyPost_ret (results_cell_row (p := 2) (ty := 37) rfl _ _ (w.heap.size + 1) 37 _ (0, 0) _ rfl Q Try.underlying37 rfl (by kernel_rfl)) rfl ?_
  refine ⟨_, rfl, ?_, w.heap.size + 1 + 1 + 1, G, rfl, by omega, by omega, ?_, ?_⟩
  · exact ((HB3.out.setCell (by show _ ≤ w.heap.size + 1 + 1; omega) _).setCell (by show _ ≤ w.heap.size + 1; omega) _).setCell (by show _ ≤ w.heap.size + 1; omega) _
  · exact ((HN3.out.setFar _ _ (by show w.heap.size + 1 + 1 < _; omega)).setFar _ _ (by show w.heap.size + 1 < _; omega)).setFar _ _ (by show w.heap.size + 1 < _; omega)
  · exact ((HR3.out.setFar _ _ (by show w.heap.size + 1 + 1 < _; omega)).setFar _ _ (by show w.heap.size + 1 < _; omega)).setFar _ _ (by show w.heap.size + 1 < _; omega)
end PartLgE
end Go.Proofs.Ythbblocllicmiap
