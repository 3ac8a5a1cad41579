/- Patterns in memory: the law's own copy of a pattern. -/
import Derived.Test.YtlnmbahakdmkgaaPtA
import Derived.OwnWalk
import Derived.Laws.MakeOwn
import Derived.Laws.OwnMore
namespace Go.Proofs.Ytlnmbahakdmkgaa
open Go.RowKit

/-- A number as a value. -/
def iv (z : Int) : Value := .int .i64 z
/-- Block q holds the numbers ks, and no more. -/
def KidsBlk (w : World) (q : Nat) (ks : List Int) : Prop := w.heap[q]? = some (.cells (ks.map iv).toArray 3 (0, 0))
theorem blk_lt {w : World} {g : Nat} {o : Obj} (h : w.heap[g]? = some o) : g < w.heap.size := (Array.getElem?_eq_some_iff.1 h).1
theorem blk_cell {w : World} {g : Nat} {arr : Array Value} {t : TypeId} (h : w.heap[g]? = some (.cells arr t (0, 0))) (j : Nat) : w.cell? ⟨g, j, none⟩ = arr[j]? := by
  simp [World.cell?, h]
theorem blk_free {w : World} {g : Nat} {arr : Array Value} {t : TypeId} (h : w.heap[g]? = some (.cells arr t (0, 0))) (j : Nat) : w.frozen? ⟨g, j, none⟩ = false := by
  simp [World.frozen?, h]
theorem blk_set {w : World} {g : Nat} {arr : Array Value} {t : TypeId} (h : w.heap[g]? = some (.cells arr t (0, 0))) (j : Nat) (u : Value) : (w.setCell ⟨g, j, none⟩ u).heap[g]? = some (.cells (arr.setIfInBounds j u) t (0, 0)) := by
  simp [World.setCell, Array.getElem?_modify, h]
theorem KidsBlk.at {w : World} {q : Nat} {ks : List Int} (h : KidsBlk w q ks) (c : Nat) : KidsAt w (.slice (some ⟨q, 0, none⟩) ks.length c) ks := by
  refine ⟨_, _, rfl, fun _ => ⟨q, 0, rfl, blk_lt h, fun i hi => ?_⟩⟩
  rw [blk_cell h, Nat.zero_add]
  simp [hi, iv]

theorem Try.infoI : (Try.prog.info? 3).map (fun i => (i.zero, i.size, i.bytes)) = some (some (.int .i64 0), 1, 8) := by kernel_rfl
theorem Try.infoP : (Try.prog.info? 81).map (fun i => (i.zero, i.size, i.bytes)) = some (some (.agg #[.int .i64 0, .string ByteArray.empty, .slice none 0 0]), 3, 48) := by kernel_rfl

/-- make of n numbers, all nought. -/
theorem makeI_run (n : Nat) (h : n ≤ 1000000000) : ∃ M : Array Value, M = ((List.replicate n (0 : Int)).map iv).toArray ∧ ∀ W : World, (Instr.makeSlice 40 (.int .i64 (n : Int)) (.int .i64 (n : Int))).run Try.prog W = .ok (.slice (some ⟨W.heap.size, 0, none⟩) n n) (W.alloc (.cells M 3)) := by
  obtain ⟨i0, hi, hz0, hz1, hz2⟩ := info_parts Try.infoI
  refine ⟨madeCells (Value.int .i64 0).cells (((n : Nat) : Int).toNat * i0.size), ?_, fun W => ?_⟩
  · rw [hz1]
    have := toList_madeCells_one (.int .i64 0) n
    simp only [Int.toNat_natCast, Nat.mul_one, List.map_replicate]
    apply Array.ext'
    exact this.trans (by simp [iv])
  · have h := run_make (P := Try.prog) W 40 3 i0 (.int .i64 0) Try.underlying40 hi hz0 .i64 .i64 (n : Int) (n : Int) (by omega) (by omega) (by rw [hz2]; omega) (by omega)
    simpa using h
/-- make of n pieces. -/
theorem makeP_run (n : Nat) (h : n ≤ 1000000000) : ∃ M : Array Value, M.size = n * 3 ∧ ∀ W : World, (Instr.makeSlice 28 (.int .i64 (n : Int)) (.int .i64 (n : Int))).run Try.prog W = .ok (.slice (some ⟨W.heap.size, 0, none⟩) n n) (W.alloc (.cells M 81)) := by
  obtain ⟨i0, hi, hz0, hz1, hz2⟩ := info_parts Try.infoP
  refine ⟨madeCells (Value.agg #[.int .i64 0, .string ByteArray.empty, .slice none 0 0]).cells (((n : Nat) : Int).toNat * i0.size), ?_, fun W => ?_⟩
  · rw [size_madeCells, hz1]; simp
  · have h := run_make (P := Try.prog) W 28 81 i0 _ Try.underlying28 hi hz0 .i64 .i64 (n : Int) (n : Int) (by omega) (by omega) (by rw [hz2]; omega) (by omega)
    simpa using h

/-- The first k numbers, and noughts. -/
def half (ks : List Int) (k : Nat) : List Int := ks.take k ++ List.replicate (ks.length - k) 0
theorem half_set (ks : List Int) (k : Nat) (h : k < ks.length) : (half ks k).set k (ks.getD k 0) = half ks (k + 1) := by
  unfold half
  rw [List.set_append_right _ _ (by simp; omega)]
  have e1 : k - (ks.take k).length = 0 := by simp; omega
  rw [e1, show ks.length - k = (ks.length - (k + 1)) + 1 by omega, List.replicate_succ, List.set_cons_zero, List.take_succ_eq_append_getElem h, List.append_assoc]
  simp [h]

set_option maxHeartbeats 800000 in
theorem toInts_any (v : Value) (ks : List Int) (w : World) (h : KidsAt w v ks) (hk : ks.length ≤ 1048576) :
    Calls Try.prog 63 #[v] w fun e w' => e = .returned (.slice (some ⟨w.heap.size, 0, none⟩) ks.length ks.length) ∧ Below w.heap.size w w' ∧ w'.heap.size = w.heap.size + 1 ∧ KidsBlk w' w.heap.size ks := by
  obtain ⟨ka, kc, rfl, f⟩ := h
  obtain ⟨n, hn⟩ : ∃ n, n = ks.length := ⟨_, rfl⟩
  have HN : Hid (n = ks.length) := hn
  rw [← hn] at f hk ⊢
  obtain ⟨M, hM, hmk⟩ := makeI_run n (by omega)
  have hM2 : M = ((half ks 0).map iv).toArray := by rw [hM, hn]; simp [half]
  have hnew : (w.alloc (.cells M 3)).heap[w.heap.size]? = some (.cells ((half ks 0).map iv).toArray 3 (0, 0)) := by
    have := heap_alloc_new w (.cells M 3)
    rw [this, hM2]
  by_cases h0 : n = 0
  · subst h0
    have HK : Hid (KidsBlk (w.alloc (.cells M 3)) w.heap.size ks) := by
      show _ = _
      rw [hnew, List.eq_nil_of_length_eq_zero hn.symm]
      rfl
    have hmk0 : ∀ W : World, (Instr.makeSlice 40 (.int .i64 0) (.int .i64 0)).run Try.prog W = .ok (.slice (some ⟨W.heap.size, 0, none⟩) 0 0) (W.alloc (.cells M 3)) := hmk
    clear f hn hM hnew hM2 hmk
    go_enter Try.func63, Try.ntmps63
    go_wp2
    refine wp_loop_rounds 1 ?_
    rw [rounds_succ]
    go_wp2
    go_ret
    exact ⟨rfl, (Below.refl _ _).alloc (Nat.le_refl _) _, by simp, HK.out⟩
  · obtain ⟨b, o, rfl, hb, hc⟩ := f (by omega)
    have HC : Hid (∀ i, i < n → w.cell? ⟨b, o + i, none⟩ = some (.int .i64 (ks.getD i 0))) := hc
    have HW : Hid ((w.alloc (.cells M 3)).heap[w.heap.size]? = some (.cells ((half ks 0).map iv).toArray 3 (0, 0))) := hnew
    clear f hn hM hnew hM2 hc
    go_enter Try.func63, Try.ntmps63
    go_wp2
    clear hmk
    go_loopw [4] (fun i wr => ∃ k : Nat, i = .int .i64 (k : Int) ∧ k ≤ n ∧ Below w.heap.size w wr ∧ wr.heap.size = w.heap.size + 1 ∧ Hid (wr.heap[w.heap.size]? = some (.cells ((half ks k).map iv).toArray 3 (0, 0)))) (fun i _ => n - (intOf i).toNat)
    case atStart => exact ⟨0, rfl, by omega, (Below.refl _ _).alloc (Nat.le_refl _) _, by simp, HW.out⟩
    case round =>
      obtain ⟨k, rfl, hk2, hbel, hsz, HH⟩ := hrel
      by_cases hlt : k < n
      · have hlen : (half ks k).length = n := by have := HN.out; simp [half]; omega
        have c1 := (hbel.cell hb).trans (HC.out k hlt)
        have c2 : wr.cell? ⟨w.heap.size, k, none⟩ = some (iv ((half ks k).getD k 0)) := by rw [blk_cell HH.out]; simp [hlen, hlt]
        have f2 := blk_free HH.out k
        have HS := blk_set HH.out k (iv (ks.getD k 0))
        have HS2 : Hid ((wr.setCell ⟨w.heap.size, k, none⟩ (.int .i64 (ks.getD k 0))).heap[w.heap.size]? = some (.cells ((half ks (k + 1)).map iv).toArray 3 (0, 0))) := by
          show _ = _
          rw [← half_set ks k (by rw [← HN.out]; exact hlt)]
          rw [show (Value.int .i64 (ks.getD k 0)) = iv (ks.getD k 0) from rfl, HS]
          simp
        clear HS hlen
        have i1 : (k : Int) < (n : Int) := by omega
        unfold iv at c2
        go_wp2
        go_roundw
        case rel => exact ⟨k + 1, by go_num, by omega, hbel.setCell (Nat.le_refl _) _, by simpa [World.setCell] using hsz, HS2.out⟩
        case measure => simp [intOf]; omega
      · obtain rfl : k = n := by omega
        have HK : Hid (KidsBlk wr w.heap.size ks) := by
          show _ = _
          rw [HH.out, HN.out]
          simp [half]
        go_wp2
        go_ret
        exact ⟨rfl, hbel, hsz, HK.out⟩

theorem alloc3_2 (w : World) (A B C : Obj) : (((w.alloc A).alloc B).alloc C).heap[w.heap.size + 1 + 1]? = some C := by
  show (((w.heap.push A).push B).push C)[w.heap.size + 2]? = some C
  rw [Array.getElem?_push]
  simp
theorem alloc3_1 (w : World) (A B C : Obj) : (((w.alloc A).alloc B).alloc C).heap[w.heap.size + 1]? = some B := by
  show (((w.heap.push A).push B).push C)[w.heap.size + 1]? = some B
  rw [Array.getElem?_push, if_neg (by simp), Array.getElem?_push]
  simp

set_option maxHeartbeats 800000 in
theorem toPiece_any (kv : Value) (p : Pi) (w : World) (h : KidsAt w kv p.kids) (hk : p.kids.length ≤ 1048576) :
    Calls Try.prog 45 #[.agg #[.int .i64 p.op, .string p.text, kv]] w fun e w' => ∃ q, w.heap.size ≤ q ∧ q < w'.heap.size ∧ e = .returned (.agg #[.int .i64 p.op, .string p.text, .slice (some ⟨q, 0, none⟩) p.kids.length p.kids.length]) ∧ Below w.heap.size w w' ∧ KidsBlk w' q p.kids := by
  obtain ⟨op, t, ks⟩ := p
  simp only at h hk ⊢
  have CC : Hid (∀ w' : World, Below w.heap.size w w' → Calls Try.prog 63 #[kv] w' fun e w'' => e = .returned (.slice (some ⟨w'.heap.size, 0, none⟩) ks.length ks.length) ∧ Below w'.heap.size w' w'' ∧ w''.heap.size = w'.heap.size + 1 ∧ KidsBlk w'' w'.heap.size ks) :=
    fun w' hb => toInts_any kv ks w' (h.keep hb) hk
  obtain ⟨ka, kc, rfl, _⟩ := h
  go_enter Try.func45, Try.ntmps45
  go_wp2_with fail
  refine (CC.out _ ((((Below.refl _ _).alloc (Nat.le_refl _) _).alloc (by simp) _).alloc (by simp; omega) _)).mono ?_
  rintro e w1 ⟨rfl, hb1, hs1, hk1⟩
  have hs2 : w1.heap.size = w.heap.size + 4 := by rw [hs1]; simp
  have R3 := hb1.block (w.heap.size + 1 + 1) (by simp)
  have R2 := hb1.block (w.heap.size + 1) (by simp)
  rw [alloc3_2] at R3
  rw [alloc3_1] at R2
  have HK1 : Hid (KidsBlk w1 (w.heap.size + 3) ks) := by
    have e : (((w.alloc (Obj.cells #[Value.int IntKind.i64 op, Value.string t, Value.slice ka ks.length kc] 80)).alloc (Obj.cells #[Value.int IntKind.i64 0, Value.string { data := #[] }, Value.slice none 0 0] 81)).alloc (Obj.cells #[Value.int IntKind.i64 op, Value.string t, Value.slice none 0 0] 81)).heap.size = w.heap.size + 3 := by simp
    rw [e] at hk1
    exact hk1
  have HB1 : Hid (Below w.heap.size w w1) := ((((Below.refl _ _).alloc (Nat.le_refl _) _).alloc (by simp) _).alloc (by simp; omega) _).trans (hb1.mono (by simp; omega))
  clear hk1 hb1 hs1 CC
  have c3 := blk_cell R3 2
  have f3 := blk_free R3 2
  have R3' := blk_set R3 2 (.slice (some ⟨w.heap.size + 1 + 1 + 1, 0, none⟩) ks.length ks.length)
  have R2' := (Below.heap_setCell w1 ⟨w.heap.size + 1 + 1, 2, none⟩ (.slice (some ⟨w.heap.size + 1 + 1 + 1, 0, none⟩) ks.length ks.length) (w.heap.size + 1) (by simp)).trans R2
  have HR3 : Hid _ := R3'
  have HR2 : Hid _ := R2'
  have d0 := blk_cell R3' 0
  have d1 := blk_cell R3' 1
  have d2 := blk_cell R3' 2
  have b0 := blk_cell R2' 0
  have b1 := blk_cell R2' 1
  have b2 := blk_cell R2' 2
  have g0 := blk_free R2' 0
  have g1 := blk_free R2' 1
  have g2 := blk_free R2' 2
  clear R3' R2' R2 R3
  simp at c3 d0 d1 d2 b0 b1 b2
  go_wp2_with fail
  have Q := blk_set (blk_set (blk_set HR2.out 0 (.int .i64 op)) 1 (.string t)) 2 (.slice (some ⟨w.heap.size + 1 + 1 + 1, 0, none⟩) ks.length ks.length)
  refine bodyPost_ret (results_cell_row (p := 2) (ty := 81) rfl _ _ (w.heap.size + 1) 81 _ (0, 0) _ rfl Q Try.underlying81 rfl (by kernel_rfl)) rfl ?_
  refine ⟨w.heap.size + 1 + 1 + 1, by omega, ?_, rfl, ?_, ?_⟩
  · simp [World.setCell]; omega
  · exact (((HB1.out.setCell (by show _ ≤ w.heap.size + 1 + 1; omega) _).setCell (by show _ ≤ w.heap.size + 1; omega) _).setCell (by show _ ≤ w.heap.size + 1; omega) _).setCell (by show _ ≤ w.heap.size + 1; omega) _
  · show _ = _
    rw [Below.heap_setCell _ _ _ _ (by show w.heap.size + 1 + 1 + 1 ≠ w.heap.size + 1; omega), Below.heap_setCell _ _ _ _ (by show w.heap.size + 1 + 1 + 1 ≠ w.heap.size + 1; omega), Below.heap_setCell _ _ _ _ (by show w.heap.size + 1 + 1 + 1 ≠ w.heap.size + 1; omega), Below.heap_setCell _ _ _ _ (by show w.heap.size + 1 + 1 + 1 ≠ w.heap.size + 1 + 1; omega)]
    exact HK1.out

/-- The law's own copy of the pieces ps: its row in block g, and of each piece its kids in a block of its own, one behind the other. -/
def Copy (w : World) (g n : Nat) (ps : List Pi) (k : Nat) : Prop :=
  (∃ arr, w.heap[g]? = some (.cells arr 81 (0, 0)) ∧ arr.size = n * 3) ∧
  ∃ Q : Nat → Nat, (∀ i, i < k → g < Q i ∧ w.cell? ⟨g, i * 3, none⟩ = some (.int .i64 (ps.getD i Pi.no).op) ∧ w.cell? ⟨g, i * 3 + 1, none⟩ = some (.string (ps.getD i Pi.no).text) ∧
    w.cell? ⟨g, i * 3 + 2, none⟩ = some (.slice (some ⟨Q i, 0, none⟩) (ps.getD i Pi.no).kids.length (ps.getD i Pi.no).kids.length) ∧ KidsBlk w (Q i) (ps.getD i Pi.no).kids) ∧ ∀ i j, i < j → j < k → Q i < Q j

theorem KidsBlk.keep {w w' : World} {q : Nat} {ks : List Int} (h : KidsBlk w q ks) (hb : Below w.heap.size w w') : KidsBlk w' q ks := (hb.block q (blk_lt h)).trans h
theorem Copy.keep {w w' : World} {g n k : Nat} {ps : List Pi} (h : Copy w g n ps k) (hb : Below w.heap.size w w') : Copy w' g n ps k := by
  obtain ⟨⟨arr, ha, hs⟩, Q, hQ, hm⟩ := h
  have hl := blk_lt ha
  refine ⟨⟨arr, (hb.block g hl).trans ha, hs⟩, Q, fun i hi => ?_, hm⟩
  obtain ⟨h1, h2, h3, h4, h5⟩ := hQ i hi
  exact ⟨h1, (hb.cell hl).trans h2, (hb.cell hl).trans h3, (hb.cell hl).trans h4, h5.keep hb⟩
theorem Copy.at {w : World} {g : Nat} {ps : List Pi} (h : Copy w g ps.length ps ps.length) (c : Nat) : PcsAt w (.slice (some ⟨g, 0, none⟩) ps.length c) ps := by
  obtain ⟨⟨arr, ha, hs⟩, Q, hQ, hm⟩ := h
  refine ⟨_, _, rfl, fun _ => ⟨g, 0, rfl, blk_lt ha, fun i hi => ?_⟩⟩
  obtain ⟨h1, h2, h3, h4, h5⟩ := hQ i hi
  rw [Nat.zero_add]
  exact ⟨_, h2, h3, h4, h5.at _⟩

/-- A store below a copy leaves it as it was. -/
theorem Copy.setFar {w : World} {g n k : Nat} {ps : List Pi} (h : Copy w g n ps k) (p : Addr) (u : Value) (hp : p.block < g) : Copy (w.setCell p u) g n ps k := by
  obtain ⟨⟨arr, ha, hs⟩, Q, hQ, hm⟩ := h
  have hO : ∀ j, g ≤ j → (w.setCell p u).heap[j]? = w.heap[j]? := fun j hj => Below.heap_setCell _ _ _ _ (by omega)
  have hC : ∀ j, (w.setCell p u).cell? ⟨g, j, none⟩ = w.cell? ⟨g, j, none⟩ := fun j => by rw [blk_cell ((hO g (Nat.le_refl _)).trans ha), blk_cell ha]
  refine ⟨⟨arr, (hO g (Nat.le_refl _)).trans ha, hs⟩, Q, fun i hi => ?_, hm⟩
  obtain ⟨h1, h2, h3, h4, h5⟩ := hQ i hi
  exact ⟨h1, (hC _).trans h2, (hC _).trans h3, (hC _).trans h4, (hO _ (by omega)).trans h5⟩

/-- One piece more is stored. -/
theorem Copy.more {w w1 : World} {g n k q : Nat} {ps : List Pi} (h : Copy w g n ps k) (hk : k < n) (hb : Below w.heap.size w w1) (hq1 : w.heap.size ≤ q) (hq : KidsBlk w1 q (ps.getD k Pi.no).kids) :
    Copy (((w1.setCell ⟨g, k * 3, none⟩ (.int .i64 (ps.getD k Pi.no).op)).setCell ⟨g, k * 3 + 1, none⟩ (.string (ps.getD k Pi.no).text)).setCell ⟨g, k * 3 + 2, none⟩ (.slice (some ⟨q, 0, none⟩) (ps.getD k Pi.no).kids.length (ps.getD k Pi.no).kids.length)) g n ps (k + 1) := by
  obtain ⟨⟨arr, ha, hs⟩, Q, hQ, hm⟩ := h.keep hb
  have hgl : g < w.heap.size := by obtain ⟨⟨_, ha', _⟩, _⟩ := h; exact blk_lt ha'
  have hQl : ∀ i, i < k → Q i < w1.heap.size := fun i hi => blk_lt (hQ i hi).2.2.2.2
  have R := blk_set (blk_set (blk_set ha (k * 3) (.int .i64 (ps.getD k Pi.no).op)) (k * 3 + 1) (.string (ps.getD k Pi.no).text)) (k * 3 + 2) (.slice (some ⟨q, 0, none⟩) (ps.getD k Pi.no).kids.length (ps.getD k Pi.no).kids.length)
  obtain ⟨w2, hw2⟩ : ∃ w2, w2 = (((w1.setCell ⟨g, k * 3, none⟩ (.int .i64 (ps.getD k Pi.no).op)).setCell ⟨g, k * 3 + 1, none⟩ (.string (ps.getD k Pi.no).text)).setCell ⟨g, k * 3 + 2, none⟩ (.slice (some ⟨q, 0, none⟩) (ps.getD k Pi.no).kids.length (ps.getD k Pi.no).kids.length)) := ⟨_, rfl⟩
  have hO : ∀ j, j ≠ g → w2.heap[j]? = w1.heap[j]? := by
    intro j hj
    rw [hw2, Below.heap_setCell _ _ _ _ (by show j ≠ g; exact hj), Below.heap_setCell _ _ _ _ (by show j ≠ g; exact hj), Below.heap_setCell _ _ _ _ (by show j ≠ g; exact hj)]
  rw [← hw2] at R ⊢
  clear hw2
  have hC : ∀ j, j < k * 3 → w2.cell? ⟨g, j, none⟩ = w1.cell? ⟨g, j, none⟩ := by
    intro j hj
    rw [blk_cell R, blk_cell ha]
    simp [Array.getElem?_setIfInBounds]
    rw [if_neg (by omega), if_neg (by omega), if_neg (by omega)]
  refine ⟨⟨_, R, by simpa using hs⟩, fun i => if i = k then q else Q i, fun i hi => ?_, fun i j hij hj => ?_⟩
  · by_cases hik : i = k
    · subst hik
      simp only [↓reduceIte]
      refine ⟨by omega, ?_, ?_, ?_, ?_⟩
      · rw [blk_cell R]; simp [Array.getElem?_setIfInBounds]; omega
      · rw [blk_cell R]; simp [Array.getElem?_setIfInBounds]; omega
      · rw [blk_cell R]; simp [Array.getElem?_setIfInBounds]; omega
      · exact (hO q (by omega)).trans hq
    · simp only [if_neg hik]
      obtain ⟨h1, h2, h3, h4, h5⟩ := hQ i (by omega)
      exact ⟨h1, (hC _ (by omega)).trans h2, (hC _ (by omega)).trans h3, (hC _ (by omega)).trans h4, (hO (Q i) (by omega)).trans h5⟩
  · have hi : i < k := by omega
    simp only [if_neg (show ¬ i = k by omega)]
    by_cases hjk : j = k
    · simp only [hjk, ↓reduceIte]
      have h0 : Q i < w.heap.size := by
        obtain ⟨_, Q', hQ', _⟩ := h
        have e1 := (hQ' i hi).2.2.2.1
        have e2 := (hQ i hi).2.2.2.1
        have e3 := hb.cell (p := ⟨g, i * 3 + 2, none⟩) hgl
        rw [e1, e2] at e3
        have : Q i = Q' i := by simpa using e3
        rw [this]
        exact blk_lt (hQ' i hi).2.2.2.2
      omega
    · simp only [if_neg hjk]
      exact hm i j hij (by omega)

set_option maxHeartbeats 800000 in
theorem toPcs_any (v : Value) (ps : List Pi) (w : World) (h : PcsAt w v ps) (hk : ps.length ≤ 1048576) (hs : Small ps ps.length) :
    Calls Try.prog 23 #[v] w fun e w' => e = .returned (.slice (some ⟨w.heap.size, 0, none⟩) ps.length ps.length) ∧ Below w.heap.size w w' ∧ Copy w' w.heap.size ps.length ps ps.length := by
  obtain ⟨ad, c, rfl, f⟩ := h
  obtain ⟨n, hn⟩ : ∃ n, n = ps.length := ⟨_, rfl⟩
  have HS : Hid (Small ps n) := by rw [hn]; exact hs
  rw [← hn] at f hk ⊢
  clear hs
  obtain ⟨M, hM, hmk⟩ := makeP_run n (by omega)
  have HW : Hid (Copy (w.alloc (.cells M 81)) w.heap.size n ps 0) := ⟨⟨M, heap_alloc_new w (.cells M 81), hM⟩, fun _ => 0, fun i hi => by omega, fun i j _ hj => by omega⟩
  by_cases h0 : n = 0
  · subst h0
    have hmk0 : ∀ W : World, (Instr.makeSlice 28 (.int .i64 0) (.int .i64 0)).run Try.prog W = .ok (.slice (some ⟨W.heap.size, 0, none⟩) 0 0) (W.alloc (.cells M 81)) := hmk
    clear f hn hM hmk
    go_enter Try.func23, Try.ntmps23
    go_wp2
    refine wp_loop_rounds 1 ?_
    rw [rounds_succ]
    go_wp2
    go_ret
    exact ⟨rfl, (Below.refl _ _).alloc (Nat.le_refl _) _, HW.out⟩
  · obtain ⟨b, o, rfl, hb, hc⟩ := f (by omega)
    have HC : Hid (∀ i, i < n → PieceAt w b (o + i * 3) (ps.getD i Pi.no)) := hc
    clear f hn hM hc
    go_enter Try.func23, Try.ntmps23
    go_wp2
    clear hmk
    go_loopw [4] (fun i wr => ∃ k : Nat, i = .int .i64 (k : Int) ∧ k ≤ n ∧ Below w.heap.size w wr ∧ w.heap.size < wr.heap.size ∧ Hid (Copy wr w.heap.size n ps k)) (fun i _ => n - (intOf i).toNat)
    case atStart => exact ⟨0, rfl, by omega, (Below.refl _ _).alloc (Nat.le_refl _) _, by simp, HW.out⟩
    case round =>
      obtain ⟨k, rfl, hk2, hbel, hsz, HH⟩ := hrel
      by_cases hlt : k < n
      · obtain ⟨p, hp⟩ : ∃ p, p = ps.getD k Pi.no := ⟨_, rfl⟩
        have hpc := HC.out k hlt
        rw [← hp] at hpc
        obtain ⟨kv, c0, c1, c2, hkv⟩ := hpc
        have e0 := (hbel.cell hb).trans c0
        have e1 := (hbel.cell hb).trans c1
        have e2 := (hbel.cell hb).trans c2
        have hkv2 := hkv.keep hbel
        have hkl := HS.out k hlt
        rw [← hp] at hkl
        have CC : Hid (Calls Try.prog 45 #[.agg #[.int .i64 p.op, .string p.text, kv]] wr fun e w' => ∃ q, wr.heap.size ≤ q ∧ q < w'.heap.size ∧ e = .returned (.agg #[.int .i64 p.op, .string p.text, .slice (some ⟨q, 0, none⟩) p.kids.length p.kids.length]) ∧ Below wr.heap.size wr w' ∧ KidsBlk w' q p.kids) :=
          toPiece_any kv p wr hkv2 hkl.1
        have CM : Hid (∀ (w1 : World) (q : Nat), Below wr.heap.size wr w1 → wr.heap.size ≤ q → KidsBlk w1 q p.kids → Copy (((w1.setCell ⟨w.heap.size, k * 3, none⟩ (.int .i64 p.op)).setCell ⟨w.heap.size, k * 3 + 1, none⟩ (.string p.text)).setCell ⟨w.heap.size, k * 3 + 2, none⟩ (.slice (some ⟨q, 0, none⟩) p.kids.length p.kids.length)) w.heap.size n ps (k + 1)) := by
          rw [hp]
          exact fun w1 q h1 h2 h3 => HH.out.more hlt h1 h2 h3
        clear hp c0 c1 c2 hkl
        obtain ⟨⟨arr, ha, hsa⟩, _⟩ := HH.out
        obtain ⟨op, t, ks⟩ := p
        obtain ⟨ka, kc, rfl, _⟩ := hkv2
        clear hkv
        simp only at e0 e1 e2 CC CM
        have i1 : (k : Int) < (n : Int) := by omega
        go_wp2_with fail
        refine CC.out.mono ?_
        rintro e w1 ⟨q, hq1, hq2, rfl, hb1, hk1⟩
        have R := (hb1.block w.heap.size hsz).trans ha
        have c0 := blk_cell R (k * 3)
        have c1 := blk_cell R (k * 3 + 1)
        have c2 := blk_cell R (k * 3 + 2)
        have f0 := blk_free R (k * 3)
        have f1 := blk_free R (k * 3 + 1)
        have f2 := blk_free R (k * 3 + 2)
        rw [Array.getElem?_eq_getElem (by omega)] at c0 c1 c2
        have HCM : Hid _ := CM.out w1 q hb1 hq1 hk1
        clear R ha CC CM
        go_wp2_with fail
        go_roundw
        case rel => exact ⟨k + 1, by go_num, by omega, (((hbel.trans (hb1.mono (by omega))).setCell (by exact Nat.le_refl _) _).setCell (by exact Nat.le_refl _) _).setCell (by exact Nat.le_refl _) _, by have := hb1.size; simp [World.setCell]; omega, HCM.out⟩
        case measure => simp [intOf]; omega
      · obtain rfl : k = n := by omega
        go_wp2
        go_ret
        exact ⟨rfl, hbel, HH.out⟩

/-- A pattern's copy. -/
def PatCopy (w : World) (v : Value) (B : Nat) (ps : List Pi) : Prop := ∃ g, v = .agg #[.slice (some ⟨g, 0, none⟩) ps.length ps.length] ∧ B ≤ g ∧ Copy w g ps.length ps ps.length

set_option maxHeartbeats 800000 in
theorem toPat_any (v : Value) (ps : List Pi) (w : World) (h : PcsAt w v ps) (hk : ps.length ≤ 1048576) (hs : Small ps ps.length) :
    Calls Try.prog 8 #[.agg #[v]] w fun e w' => ∃ u, e = .returned u ∧ Below w.heap.size w w' ∧ PatCopy w' u w.heap.size ps := by
  have CC : Hid (∀ w' : World, Below w.heap.size w w' → Calls Try.prog 23 #[v] w' fun e w'' => e = .returned (.slice (some ⟨w'.heap.size, 0, none⟩) ps.length ps.length) ∧ Below w'.heap.size w' w'' ∧ Copy w'' w'.heap.size ps.length ps ps.length) :=
    fun w' hb => toPcs_any v ps w' (h.keep hb) hk hs
  obtain ⟨ad, c, rfl, _⟩ := h
  go_enter Try.func8, Try.ntmps8
  go_wp2_with fail
  refine (CC.out _ ((((Below.refl _ _).alloc (Nat.le_refl _) _).alloc (by simp) _).alloc (by simp; omega) _)).mono ?_
  rintro e w1 ⟨rfl, hb1, hk1⟩
  have R3 := hb1.block (w.heap.size + 1 + 1) (by simp)
  have R2 := hb1.block (w.heap.size + 1) (by simp)
  have hs1 := hb1.size
  rw [alloc3_2] at R3
  rw [alloc3_1] at R2
  have HB1 : Hid (Below w.heap.size w w1) := ((((Below.refl _ _).alloc (Nat.le_refl _) _).alloc (by simp) _).alloc (by simp; omega) _).trans (hb1.mono (by simp; omega))
  simp only [World.size_alloc] at hk1 hb1
  have HK1 : Hid _ := hk1
  clear hk1 hb1 hs1 CC
  obtain ⟨u, hu⟩ : ∃ u, u = Value.slice (some ⟨w.heap.size + 1 + 1 + 1, 0, none⟩) ps.length ps.length := ⟨_, rfl⟩
  have c3 := blk_cell R3 0
  have f3 := blk_free R3 0
  have R3' := blk_set R3 0 (.slice (some ⟨w.heap.size + 1 + 1 + 1, 0, none⟩) ps.length ps.length)
  have R2' := (Below.heap_setCell w1 ⟨w.heap.size + 1 + 1, 0, none⟩ (.slice (some ⟨w.heap.size + 1 + 1 + 1, 0, none⟩) ps.length ps.length) (w.heap.size + 1) (by simp)).trans R2
  have HR2 : Hid _ := R2'
  have d0 := blk_cell R3' 0
  have b0 := blk_cell R2' 0
  have g0 := blk_free R2' 0
  clear R3' R2' R2 R3
  simp at c3 d0 b0
  go_wp2_with fail
  have Q := blk_set HR2.out 0 (.slice (some ⟨w.heap.size + 1 + 1 + 1, 0, none⟩) ps.length ps.length)
  refine bodyPost_ret (results_cell_row (p := 2) (ty := 30) rfl _ _ (w.heap.size + 1) 30 _ (0, 0) _ rfl Q Try.underlying30 rfl (by kernel_rfl)) rfl ?_
  refine ⟨_, rfl, ?_, w.heap.size + 1 + 1 + 1, rfl, by omega, ?_⟩
  · exact (HB1.out.setCell (by show _ ≤ w.heap.size + 1 + 1; omega) _).setCell (by show _ ≤ w.heap.size + 1; omega) _
  · exact Copy.setFar (Copy.setFar HK1.out _ _ (by show w.heap.size + 1 + 1 < _; omega)) _ _ (by show w.heap.size + 1 < _; omega)
#print axioms toPat_any
end Go.Proofs.Ytlnmbahakdmkgaa
