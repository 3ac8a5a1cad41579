/- Code in memory: how great it is, the law's own copy of it, two of the same, what is handed in. Records of 2 fields in memory (Var): how great a row of them is, the law's own copy of it, two of the same. -/
import Derived.Test.YthnmopldpgdenaaMPTcZab
import Derived.Test.YthnmopldpgdenaaMPTcZaa
import Derived.Deep.SlicePairs
import Derived.Deep.Strs
import Derived.Deep.Fields
import Derived.ProofKit
import Derived.OpenShut
import Derived.ChangeOld
namespace Go.Proofs.Ythnmopldpgdenaa
section PartCoC
open Go.RowKit

theorem alloc2_0 (w : World) (A B : Obj) : ((w.alloc A).alloc B).heap[w.heap.size]? = some A := by
  show ((w.heap.push A).push B)[w.heap.size]? = some A
  rw [Array.getElem?_push, if_neg (by simp), Array.getElem?_push]
  simp
theorem alloc2_1 (w : World) (A B : Obj) : ((w.alloc A).alloc B).heap[w.heap.size + 1]? = some B := by
  show ((w.heap.push A).push B)[w.heap.size + 1]? = some B
  rw [Array.getElem?_push, if_pos (by simp)]
theorem alloc3_0c (w : World) (A B C : Obj) : (((w.alloc A).alloc B).alloc C).heap[w.heap.size]? = some A := by
  show (((w.heap.push A).push B).push C)[w.heap.size]? = some A
  rw [Array.getElem?_push, if_neg (by simp; omega), Array.getElem?_push, if_neg (by simp), Array.getElem?_push]
  simp

set_option maxHeartbeats 800000 in
theorem szCode_any (v rv : Value) (bg ln en : Int) (ts : List ByteArray) (xs : List Ins) (l : Int) (w : World) (h : TsAt w v ts) (hr : InsAt w rv xs) (hl0 : 0 ≤ l) (hl : l ≤ 1048576) (hf : ts.length ≤ maxLen) (hf2 : ∀ i, i < ts.length → (ts.getD i ByteArray.empty).size ≤ maxLen) (hfr : xs.length ≤ maxLen) :
    Calls Try.prog 11 #[.agg #[v, rv, .int .i64 bg, .int .i64 ln, .int .i64 en], .int .i64 l] w fun e w' => Below w.heap.size w w' ∧ ∃ r : Int, e = .returned (.int .i64 r) ∧ (r = -1 ∨ 0 ≤ r ∧ r ≤ l ∧ ts.length ≤ 1048576 ∧ TsSmall ts ts.length ∧ xs.length ≤ 1048576) := by
  have HB : Hid (Below w.heap.size w (w.alloc (.cells #[v, rv, .int .i64 bg, .int .i64 ln, .int .i64 en] 25))) := (Below.refl _ _).alloc (Nat.le_refl _) _
  have CC : Hid (∀ W, Below w.heap.size w W → Calls Try.prog 12 #[v, .int .i64 l] W fun e w' => Below W.heap.size W w' ∧ ∃ r : Int, e = .returned (.int .i64 r) ∧ (r = -1 ∨ 0 ≤ r ∧ r ≤ l ∧ ts.length ≤ 1048576 ∧ TsSmall ts ts.length)) :=
    fun W hb => szTs_any v ts l _ (h.keep hb) hl0 hl hf hf2
  have CR : Hid (∀ W (r : Int), Below w.heap.size w W → 0 ≤ r → r ≤ l → Calls Try.prog 34 #[rv, .int .i64 r] W fun e w' => w' = W ∧ ∃ r' : Int, e = .returned (.int .i64 r') ∧ (r' = -1 ∨ 0 ≤ r' ∧ r' ≤ r ∧ xs.length ≤ 1048576)) :=
    fun W r hb h0 h1 => szInss_any rv xs r W (hr.keep hb) h0 (by omega) hfr
  obtain ⟨ad, c, rfl, _⟩ := h
  obtain ⟨ra, rc, rfl, _⟩ := hr
  go_enter Try.func11, Try.ntmps11
  go_wp2_with fail
  refine (CC.out _ HB.out).mono ?_
  rintro e w1 ⟨hb1, r1, rfl, hr⟩
  have hb2 := HB.out.trans (hb1.mono (by simp))
  have c1 : w1.cell? ⟨w.heap.size, 1, none⟩ = some (.slice ra xs.length rc) := (hb1.cell (by simp)).trans (by simp)
  rcases hr with rfl | ⟨h3, h4, h5⟩
  · go_wp2
    go_ret
    exact ⟨hb2, -1, rfl, .inl rfl⟩
  · have d2 : decide (r1 < 0) = false := by simp; omega
    have H5 : Hid (ts.length ≤ 1048576 ∧ TsSmall ts ts.length) := h5
    clear h5 hb1
    go_wp2_with fail
    refine (CR.out _ _ hb2 h3 h4).mono ?_
    rintro e w2 ⟨rfl, r2, rfl, hr⟩
    rcases hr with rfl | ⟨h6, h7, h8⟩
    · go_wp2
      go_ret
      exact ⟨hb2, -1, rfl, .inl rfl⟩
    · have d3 : decide (r2 < 0) = false := by simp; omega
      go_wp2
      go_ret
      exact ⟨hb2, _, rfl, .inr ⟨h6, by omega, H5.out.1, H5.out.2, h8⟩⟩

set_option maxHeartbeats 800000 in
theorem eqCode_any (v1 r1 v2 r2 : Value) (bg ln en : Int) (ts : List ByteArray) (xs : List Ins) (w : World) (h1 : TsAt w v1 ts) (g1 : InsAt w r1 xs) (h2 : TsAt w v2 ts) (g2 : InsAt w r2 xs) (hl : ts.length ≤ 1048576) (hlr : xs.length ≤ 1048576) :
    Calls Try.prog 22 #[.agg #[v1, r1, .int .i64 bg, .int .i64 ln, .int .i64 en], .agg #[v2, r2, .int .i64 bg, .int .i64 ln, .int .i64 en]] w fun e w' => e = .returned (.bool true) ∧ Below w.heap.size w w' := by
  have CC : Hid (∀ w', Below w.heap.size w w' → Calls Try.prog 23 #[v1, v2] w' fun e w'' => e = .returned (.bool true) ∧ Below w'.heap.size w' w'') := fun w' hb => eqTs_any v1 v2 ts w' (h1.keep hb) (h2.keep hb) hl
  have CR : Hid (∀ w', Below w.heap.size w w' → Calls Try.prog 47 #[r1, r2] w' fun e w'' => e = .returned (.bool true) ∧ Below w'.heap.size w' w'') := fun w' hb => eqInss_any r1 r2 xs w' (g1.keep hb) (g2.keep hb) hlr
  obtain ⟨a1, c1, rfl, -⟩ := h1
  obtain ⟨a2, c2, rfl, -⟩ := h2
  obtain ⟨d1, e1, rfl, -⟩ := g1
  obtain ⟨d2, e2, rfl, -⟩ := g2
  have q1 : (bg != bg) = false := by simp
  have q2 : (ln != ln) = false := by simp
  have q3 : (en != en) = false := by simp
  have HB : Hid (Below w.heap.size w ((w.alloc (.cells #[.slice a1 ts.length c1, .slice d1 xs.length e1, .int .i64 bg, .int .i64 ln, .int .i64 en] 36)).alloc (.cells #[.slice a2 ts.length c2, .slice d2 xs.length e2, .int .i64 bg, .int .i64 ln, .int .i64 en] 36))) := ((Below.refl _ _).alloc (Nat.le_refl _) _).alloc (by simp) _
  have R0 := alloc2_0 w (.cells #[.slice a1 ts.length c1, .slice d1 xs.length e1, .int .i64 bg, .int .i64 ln, .int .i64 en] 36) (.cells #[.slice a2 ts.length c2, .slice d2 xs.length e2, .int .i64 bg, .int .i64 ln, .int .i64 en] 36)
  have R1 := alloc2_1 w (.cells #[.slice a1 ts.length c1, .slice d1 xs.length e1, .int .i64 bg, .int .i64 ln, .int .i64 en] 36) (.cells #[.slice a2 ts.length c2, .slice d2 xs.length e2, .int .i64 bg, .int .i64 ln, .int .i64 en] 36)
  have hz : w.heap.size + 2 ≤ ((w.alloc (.cells #[.slice a1 ts.length c1, .slice d1 xs.length e1, .int .i64 bg, .int .i64 ln, .int .i64 en] 36)).alloc (.cells #[.slice a2 ts.length c2, .slice d2 xs.length e2, .int .i64 bg, .int .i64 ln, .int .i64 en] 36)).heap.size := by simp
  have HR : Hid _ := And.intro R0 R1
  clear R0 R1
  go_enter Try.func22, Try.ntmps22
  go_wp2_with fail
  generalize (w.alloc (.cells #[.slice a1 ts.length c1, .slice d1 xs.length e1, .int .i64 bg, .int .i64 ln, .int .i64 en] 36)).alloc (.cells #[.slice a2 ts.length c2, .slice d2 xs.length e2, .int .i64 bg, .int .i64 ln, .int .i64 en] 36) = W at *
  refine (CC.out _ HB.out).mono ?_
  rintro e w1 ⟨rfl, hb1⟩
  have x1 := blk_cell ((hb1.block w.heap.size (by omega)).trans HR.out.1) 1
  have x2 := blk_cell ((hb1.block (w.heap.size + 1) (by omega)).trans HR.out.2) 1
  simp only [List.getElem?_toArray, List.getElem?_cons_zero, List.getElem?_cons_succ] at x1 x2
  have HB1 : Hid (Below w.heap.size w w1) := HB.out.trans (hb1.mono HB.out.size)
  have HW1 : Hid (Below W.heap.size W w1) := hb1
  clear hb1 CC
  go_wp2_with fail
  refine (CR.out _ HB1.out).mono ?_
  rintro e w2 ⟨rfl, hb2⟩
  have HW2 : Hid (Below W.heap.size W w2) := HW1.out.trans (hb2.mono HW1.out.size)
  have R0 := (HW2.out.block w.heap.size (by omega)).trans HR.out.1
  have R1 := (HW2.out.block (w.heap.size + 1) (by omega)).trans HR.out.2
  have y2 := blk_cell R0 2
  have y3 := blk_cell R0 3
  have y4 := blk_cell R0 4
  have z2 := blk_cell R1 2
  have z3 := blk_cell R1 3
  have z4 := blk_cell R1 4
  simp only [List.getElem?_toArray, List.getElem?_cons_zero, List.getElem?_cons_succ] at y2 y3 y4 z2 z3 z4
  have HB2 : Hid (Below w.heap.size w w2) := HB1.out.trans (hb2.mono HB1.out.size)
  clear hb2 CR x1 x2 R0 R1 HW1 HW2 HR
  go_wp2
  go_ret
  exact ⟨rfl, HB2.out⟩

end PartCoC
section PartStV
open Go.RowKit

structure Vr where
  name : ByteArray
  val : ByteArray
def Vr.no : Vr := ⟨ByteArray.empty, ByteArray.empty⟩
instance : Inhabited Vr := ⟨Vr.no⟩
/-- The slice v leads to the records xs. -/
def VrAt (w : World) (v : Value) (xs : List Vr) : Prop := ∃ (a : Option Addr) (c : Nat), v = .slice a xs.length c ∧
  (0 < xs.length → ∃ b o, a = some ⟨b, o, none⟩ ∧ b < w.heap.size ∧ ∀ i, i < xs.length → w.cell? ⟨b, o + i * 2, none⟩ = some (.string (xs.getD i Vr.no).name) ∧ w.cell? ⟨b, o + i * 2 + 1, none⟩ = some (.string (xs.getD i Vr.no).val))
theorem VrAt.keep {w w' : World} {v : Value} {xs : List Vr} (h : VrAt w v xs) (hb : Below w.heap.size w w') : VrAt w' v xs := by
  obtain ⟨ka, kc, rfl, f⟩ := h
  refine ⟨ka, kc, rfl, fun h0 => ?_⟩
  obtain ⟨b, o, rfl, hl, hc⟩ := f h0
  exact ⟨b, o, rfl, Nat.lt_of_lt_of_le hl hb.size, fun i hi => ⟨(hb.cell hl).trans ((hc i hi).1), (hb.cell hl).trans ((hc i hi).2)⟩⟩

theorem Try.infoVr : (Try.prog.info? 102).map (fun i => (i.zero, i.size, i.bytes)) = some (some (.agg #[.string ByteArray.empty, .string ByteArray.empty]), 2, 32) := by kernel_rfl
theorem makeVr_run (n : Nat) (h : n ≤ 1000000000) : ∃ M : Array Value, M.size = n * 2 ∧ ∀ W : World, (Instr.makeSlice 37 (.int .i64 (n : Int)) (.int .i64 (n : Int))).run Try.prog W = .ok (.slice (some ⟨W.heap.size, 0, none⟩) n n) (W.alloc (.cells M 102)) := by
  obtain ⟨i0, hi, hz0, hz1, hz2⟩ := info_parts Try.infoVr
  refine ⟨madeCells (Value.agg #[.string ByteArray.empty, .string ByteArray.empty]).cells (((n : Nat) : Int).toNat * i0.size), ?_, fun W => ?_⟩
  · rw [size_madeCells, hz1]; simp
  · have h := run_make (P := Try.prog) W 37 102 i0 _ Try.underlying37 hi hz0 .i64 .i64 (n : Int) (n : Int) (by omega) (by omega) (by rw [hz2]; omega) (by omega)
    simpa using h

set_option maxHeartbeats 800000 in
theorem toVr_any (x0 : ByteArray) (x1 : ByteArray) (w : World) :
    Calls Try.prog 61 #[.agg #[.string x0, .string x1]] w fun e w' => e = .returned (.agg #[.string x0, .string x1]) ∧ Below w.heap.size w w' := by
  go_enter Try.func61, Try.ntmps61
  go_wp2_with fail
  refine bodyPost_ret (results_cell_row (p := 2) (ty := 102) rfl _ _ (w.heap.size + 1) 102 _ (0, 0) _ rfl (alloc3_1 _ _ _ _) Try.underlying102 rfl (by kernel_rfl)) rfl ?_
  exact ⟨rfl, (((Below.refl _ _).alloc (Nat.le_refl _) _).alloc (by simp) _).alloc (by simp; omega) _⟩

/-- The law's own copy of the records xs: its row in block g. -/
def VrCopy (w : World) (g n : Nat) (xs : List Vr) (k : Nat) : Prop :=
  (∃ arr, w.heap[g]? = some (.cells arr 102 (0, 0)) ∧ arr.size = n * 2) ∧
  ∀ i, i < k → w.cell? ⟨g, i * 2, none⟩ = some (.string (xs.getD i Vr.no).name) ∧ w.cell? ⟨g, i * 2 + 1, none⟩ = some (.string (xs.getD i Vr.no).val)
theorem VrCopy.keep {w w' : World} {g n k : Nat} {xs : List Vr} (h : VrCopy w g n xs k) (hb : Below w.heap.size w w') : VrCopy w' g n xs k := by
  obtain ⟨⟨arr, ha, hs⟩, hQ⟩ := h
  have hl := blk_lt ha
  exact ⟨⟨arr, (hb.block g hl).trans ha, hs⟩, fun i hi => ⟨(hb.cell hl).trans ((hQ i hi).1), (hb.cell hl).trans ((hQ i hi).2)⟩⟩
theorem VrCopy.at {w : World} {g : Nat} {xs : List Vr} (h : VrCopy w g xs.length xs xs.length) (c : Nat) : VrAt w (.slice (some ⟨g, 0, none⟩) xs.length c) xs := by
  obtain ⟨⟨arr, ha, hs⟩, hQ⟩ := h
  refine ⟨_, _, rfl, fun _ => ⟨g, 0, rfl, blk_lt ha, fun i hi => ?_⟩⟩
  rw [Nat.zero_add]
  exact hQ i hi
theorem VrCopy.setFar {w : World} {g n k : Nat} {xs : List Vr} (h : VrCopy w g n xs k) (p : Addr) (u : Value) (hp : p.block < g) : VrCopy (w.setCell p u) g n xs k := by
  obtain ⟨⟨arr, ha, hs⟩, hQ⟩ := h
  have hO : ∀ j, g ≤ j → (w.setCell p u).heap[j]? = w.heap[j]? := fun j hj => Below.heap_setCell _ _ _ _ (by omega)
  have hC : ∀ j, (w.setCell p u).cell? ⟨g, j, none⟩ = w.cell? ⟨g, j, none⟩ := fun j => by rw [blk_cell ((hO g (Nat.le_refl _)).trans ha), blk_cell ha]
  exact ⟨⟨arr, (hO g (Nat.le_refl _)).trans ha, hs⟩, fun i hi => ⟨(hC _).trans ((hQ i hi).1), (hC _).trans ((hQ i hi).2)⟩⟩
theorem VrCopy.more {w w1 : World} {g n k : Nat} {xs : List Vr} (h : VrCopy w g n xs k) (hk : k < n) (hb : Below w.heap.size w w1) :
    VrCopy ((w1.setCell ⟨g, k * 2, none⟩ (.string (xs.getD k Vr.no).name)).setCell ⟨g, k * 2 + 1, none⟩ (.string (xs.getD k Vr.no).val)) g n xs (k + 1) := by
  obtain ⟨⟨arr, ha, hs⟩, hQ⟩ := h.keep hb
  have R := (blk_set (blk_set ha (k * 2) (.string (xs.getD k Vr.no).name)) (k * 2 + 1) (.string (xs.getD k Vr.no).val))
  obtain ⟨w2, hw2⟩ : ∃ w2, w2 = ((w1.setCell ⟨g, k * 2, none⟩ (.string (xs.getD k Vr.no).name)).setCell ⟨g, k * 2 + 1, none⟩ (.string (xs.getD k Vr.no).val)) := ⟨_, rfl⟩
  rw [← hw2] at R ⊢
  clear hw2
  have hC : ∀ j, j < k * 2 → w2.cell? ⟨g, j, none⟩ = w1.cell? ⟨g, j, none⟩ := by
    intro j hj
    rw [blk_cell R, blk_cell ha]
    simp [Array.getElem?_setIfInBounds]
    rw [if_neg (by omega), if_neg (by omega)]
  refine ⟨⟨_, R, by simpa using hs⟩, fun i hi => ?_⟩
  by_cases hik : i = k
  · subst hik
    refine ⟨?_, ?_⟩
    · rw [blk_cell R]; simp [Array.getElem?_setIfInBounds]; omega
    · rw [blk_cell R]; simp [Array.getElem?_setIfInBounds]; omega
  · obtain ⟨h0, h1⟩ := hQ i (by omega)
    exact ⟨(hC _ (by omega)).trans h0, (hC _ (by omega)).trans h1⟩

set_option maxHeartbeats 800000 in
theorem toVrs_any (v : Value) (xs : List Vr) (w : World) (h : VrAt w v xs) (hk : xs.length ≤ 1048576) :
    Calls Try.prog 40 #[v] w fun e w' => e = .returned (.slice (some ⟨w.heap.size, 0, none⟩) xs.length xs.length) ∧ Below w.heap.size w w' ∧ VrCopy w' w.heap.size xs.length xs xs.length := by
  obtain ⟨ad, c, rfl, f⟩ := h
  obtain ⟨n, hn⟩ : ∃ n, n = xs.length := ⟨_, rfl⟩
  rw [← hn] at f hk ⊢
  obtain ⟨M, hM, hmk⟩ := makeVr_run n (by omega)
  have HW : Hid (VrCopy (w.alloc (.cells M 102)) w.heap.size n xs 0) := ⟨⟨M, heap_alloc_new w (.cells M 102), hM⟩, fun i hi => by omega⟩
  by_cases h0 : n = 0
  · subst h0
    have hmk0 : ∀ W : World, (Instr.makeSlice 37 (.int .i64 0) (.int .i64 0)).run Try.prog W = .ok (.slice (some ⟨W.heap.size, 0, none⟩) 0 0) (W.alloc (.cells M 102)) := hmk
    clear f hn hM hmk
    go_enter Try.func40, Try.ntmps40
    go_wp2
    refine wp_loop_rounds 1 ?_
    rw [rounds_succ]
    go_wp2
    go_ret
    exact ⟨rfl, (Below.refl _ _).alloc (Nat.le_refl _) _, HW.out⟩
  · obtain ⟨b, o, rfl, hb, hc⟩ := f (by omega)
    have HC : Hid (∀ i, i < n → w.cell? ⟨b, o + i * 2, none⟩ = some (.string (xs.getD i Vr.no).name) ∧ w.cell? ⟨b, o + i * 2 + 1, none⟩ = some (.string (xs.getD i Vr.no).val)) := hc
    clear f hn hM hc
    go_enter Try.func40, Try.ntmps40
    go_wp2
    clear hmk
    go_loopw [4] (fun i wr => ∃ k : Nat, i = .int .i64 (k : Int) ∧ k ≤ n ∧ Below w.heap.size w wr ∧ w.heap.size < wr.heap.size ∧ Hid (VrCopy wr w.heap.size n xs k)) (fun i _ => n - (intOf i).toNat)
    case atStart => exact ⟨0, rfl, by omega, (Below.refl _ _).alloc (Nat.le_refl _) _, by simp, HW.out⟩
    case round =>
      obtain ⟨k, rfl, hk2, hbel, hsz, HH⟩ := hrel
      by_cases hlt : k < n
      · obtain ⟨p, hp⟩ : ∃ p, p = xs.getD k Vr.no := ⟨_, rfl⟩
        have hpc := HC.out k hlt
        rw [← hp] at hpc
        obtain ⟨c0, c1⟩ := hpc
        have e0 := (hbel.cell hb).trans c0
        have e1 := (hbel.cell hb).trans c1
        have CC : Hid (Calls Try.prog 61 #[.agg #[.string p.name, .string p.val]] wr fun e w' => e = .returned (.agg #[.string p.name, .string p.val]) ∧ Below wr.heap.size wr w') := toVr_any _ _ wr
        have CM : Hid (∀ (w1 : World), Below wr.heap.size wr w1 → VrCopy ((w1.setCell ⟨w.heap.size, k * 2, none⟩ (.string p.name)).setCell ⟨w.heap.size, k * 2 + 1, none⟩ (.string p.val)) w.heap.size n xs (k + 1)) := by
          rw [hp]
          exact fun w1 h1 => HH.out.more hlt h1
        clear hp c0 c1
        obtain ⟨⟨arr, ha, hsa⟩, _⟩ := HH.out
        obtain ⟨x0, x1⟩ := p
        simp only at e0 e1 CC CM
        have i1 : (k : Int) < (n : Int) := by omega
        go_wp2_with fail
        refine CC.out.mono ?_
        rintro e w1 ⟨rfl, hb1⟩
        have R := (hb1.block w.heap.size hsz).trans ha
        have c0 := blk_cell R (k * 2)
        have c1 := blk_cell R (k * 2 + 1)
        have f0 := blk_free R (k * 2)
        have f1 := blk_free R (k * 2 + 1)
        rw [Array.getElem?_eq_getElem (by omega)] at c0 c1
        have HCM : Hid _ := CM.out w1 hb1
        clear R ha CC CM
        go_wp2_with fail
        go_roundw
        case rel => exact ⟨k + 1, by go_num, by omega, (((hbel.trans (hb1.mono (by omega))).setCell (by exact Nat.le_refl _) _).setCell (by exact Nat.le_refl _) _), by have := hb1.size; simp [World.setCell]; omega, HCM.out⟩
        case measure => simp [intOf]; omega
      · obtain rfl : k = n := by omega
        go_wp2
        go_ret
        exact ⟨rfl, hbel, HH.out⟩


set_option maxHeartbeats 800000 in
theorem eqVr_any (x0 : ByteArray) (x1 : ByteArray) (w : World) :
    Calls Try.prog 67 #[.agg #[.string x0, .string x1], .agg #[.string x0, .string x1]] w fun e w' => e = .returned (.bool true) ∧ Below w.heap.size w w' := by

  go_enter Try.func67, Try.ntmps67
  go_wp2
  go_ret
  exact ⟨rfl, ((Below.refl _ _).alloc (Nat.le_refl _) _).alloc (by simp) _⟩

set_option maxHeartbeats 2000000 in
theorem eqVrs_any (v1 v2 : Value) (xs : List Vr) (w : World) (h1 : VrAt w v1 xs) (h2 : VrAt w v2 xs) (hl : xs.length ≤ 1048576) :
    Calls Try.prog 48 #[v1, v2] w fun e w' => e = .returned (.bool true) ∧ Below w.heap.size w w' := by
  obtain ⟨a1, c1, rfl, f1⟩ := h1
  obtain ⟨a2, c2, rfl, f2⟩ := h2
  obtain ⟨n, hn⟩ : ∃ n, n = xs.length := ⟨_, rfl⟩
  rw [← hn] at f1 f2 hl ⊢
  have hq : ((n : Int) != (n : Int)) = false := by simp
  by_cases h0 : n = 0
  · subst h0
    clear f1 f2 hn
    go_enter Try.func48, Try.ntmps48
    go_wp2
    refine wp_loop_rounds 1 ?_
    rw [rounds_succ]
    go_wp2
    go_ret
    exact ⟨rfl, Below.refl _ _⟩
  · obtain ⟨g1, o1, rfl, l1, k1⟩ := f1 (by omega)
    obtain ⟨g2, o2, rfl, l2, k2⟩ := f2 (by omega)
    have K1 : Hid (∀ i, i < n → w.cell? ⟨g1, o1 + i * 2, none⟩ = some (.string (xs.getD i Vr.no).name) ∧ w.cell? ⟨g1, o1 + i * 2 + 1, none⟩ = some (.string (xs.getD i Vr.no).val)) := k1
    have K2 : Hid (∀ i, i < n → w.cell? ⟨g2, o2 + i * 2, none⟩ = some (.string (xs.getD i Vr.no).name) ∧ w.cell? ⟨g2, o2 + i * 2 + 1, none⟩ = some (.string (xs.getD i Vr.no).val)) := k2
    clear k1 k2 f1 f2 hn
    go_enter Try.func48, Try.ntmps48
    go_wp2
    go_loopw [5] (fun i wr => ∃ k : Nat, i = .int .i64 (k : Int) ∧ k ≤ n ∧ Below w.heap.size w wr) (fun i _ => n - (intOf i).toNat)
    case atStart => exact ⟨0, rfl, by omega, Below.refl _ _⟩
    case round =>
      obtain ⟨k, rfl, hk, hbel⟩ := hrel
      have hsz := hbel.size
      by_cases hlt : k < n
      · have q1 := K1.out k hlt
        have q2 := K2.out k hlt
        obtain ⟨p, hp⟩ : ∃ p, p = xs.getD k Vr.no := ⟨_, rfl⟩
        rw [← hp] at q1 q2
        clear hp
        have y0 := (hbel.cell l1).trans q1.1
        have y1 := (hbel.cell l1).trans q1.2
        have z0 := (hbel.cell l2).trans q2.1
        have z1 := (hbel.cell l2).trans q2.2
        obtain ⟨x0, x1⟩ := p
        simp only at y0 z0 y1 z1
        have CC : Hid (∀ w', Calls Try.prog 67 #[.agg #[.string x0, .string x1], .agg #[.string x0, .string x1]] w' fun e w'' => e = .returned (.bool true) ∧ Below w'.heap.size w' w'') := fun w' => eqVr_any x0 x1 w'
        clear q1 q2
        have i1 : (k : Int) < (n : Int) := by omega
        have i0 : (0 : Int) ≤ (k : Int) := by omega
        go_wp2_with fail
        go_region_with ((go_at_call 67; refine (CC.out _).mono ?_; rintro e w1 ⟨rfl, hb1⟩))
        all_goals
          go_wp2
          go_roundw
          case rel => exact ⟨k + 1, by go_num, by omega, hbel.trans (((Below.refl _ _).drew.trans hb1).mono hsz)⟩
          case measure => simp [intOf]; omega
      · go_wp2
        go_ret
        exact ⟨rfl, hbel⟩


/-- The first k records have short texts. -/
def VrSmall (xs : List Vr) (k : Nat) : Prop := ∀ i, i < k → (xs.getD i Vr.no).name.size ≤ 1048576 ∧ (xs.getD i Vr.no).val.size ≤ 1048576
set_option maxHeartbeats 800000 in
theorem szVr_any (x0 : ByteArray) (x1 : ByteArray) (l : Int) (w : World) (hl0 : 0 ≤ l) (hl : l ≤ 1048576) (t0 : x0.size ≤ maxLen) (t1 : x1.size ≤ maxLen) :
    Calls Try.prog 58 #[.agg #[.string x0, .string x1], .int .i64 l] w fun e w' => Below w.heap.size w w' ∧ ∃ r : Int, e = .returned (.int .i64 r) ∧ (r = -1 ∨ 0 ≤ r ∧ r ≤ l ∧ x0.size ≤ 1048576 ∧ x1.size ≤ 1048576) := by
  unfold maxLen at t0 t1
  by_cases hq0 : l - (x0.size : Int) < 0
  · have d0 : decide (l - (x0.size : Int) < 0) = true := by simpa using hq0
    go_enter Try.func58, Try.ntmps58
    go_wp2
    go_ret
    exact ⟨(Below.refl _ _).alloc (Nat.le_refl _) _, -1, rfl, .inl rfl⟩
  have d0 : decide (l - (x0.size : Int) < 0) = false := by simpa using hq0
  by_cases hq1 : l - (x0.size : Int) - (x1.size : Int) < 0
  · have d1 : decide (l - (x0.size : Int) - (x1.size : Int) < 0) = true := by simpa using hq1
    go_enter Try.func58, Try.ntmps58
    go_wp2
    go_ret
    exact ⟨(Below.refl _ _).alloc (Nat.le_refl _) _, -1, rfl, .inl rfl⟩
  have d1 : decide (l - (x0.size : Int) - (x1.size : Int) < 0) = false := by simpa using hq1
  go_enter Try.func58, Try.ntmps58
  go_wp2
  go_ret
  exact ⟨(Below.refl _ _).alloc (Nat.le_refl _) _, _, rfl, .inr ⟨by omega, by omega, by omega, by omega⟩⟩

set_option maxHeartbeats 800000 in
theorem szVrs_any (v : Value) (xs : List Vr) (l : Int) (w : World) (h : VrAt w v xs) (hl0 : 0 ≤ l) (hl : l ≤ 1048576) (hk : xs.length ≤ maxLen) (hf : ∀ i, i < xs.length → (xs.getD i Vr.no).name.size ≤ maxLen ∧ (xs.getD i Vr.no).val.size ≤ maxLen) :
    Calls Try.prog 35 #[v, .int .i64 l] w fun e w' => Below w.heap.size w w' ∧ ∃ r : Int, e = .returned (.int .i64 r) ∧ (r = -1 ∨ 0 ≤ r ∧ r ≤ l ∧ xs.length ≤ 1048576 ∧ VrSmall xs xs.length) := by
  unfold maxLen at hk
  obtain ⟨ad, c, rfl, f⟩ := h
  obtain ⟨n, hn⟩ : ∃ n, n = xs.length := ⟨_, rfl⟩
  have HF : Hid (∀ i, i < n → (xs.getD i Vr.no).name.size ≤ maxLen ∧ (xs.getD i Vr.no).val.size ≤ maxLen) := by rw [hn]; exact hf
  rw [← hn] at f hk ⊢
  clear hf
  by_cases hq : l - (n : Int) < 0
  · have d : decide (l - (n : Int) < 0) = true := by simpa using hq
    clear f hn
    go_enter Try.func35, Try.ntmps35
    go_wp2
    go_ret
    exact ⟨Below.refl _ _, -1, rfl, .inl rfl⟩
  · have d : decide (l - (n : Int) < 0) = false := by simpa using hq
    have hn2 : n ≤ 1048576 := by omega
    by_cases h0 : n = 0
    · subst h0
      clear f hn HF
      have d : decide (l - ((0 : Nat) : Int) < 0) = false := by simpa using hq
      go_enter Try.func35, Try.ntmps35
      go_wp2
      refine wp_loop_rounds 1 ?_
      rw [rounds_succ]
      go_wp2
      go_ret
      exact ⟨Below.refl _ _, _, rfl, .inr ⟨by omega, by omega, by omega, fun i hi => by omega⟩⟩
    · obtain ⟨b, o, rfl, hb, hc⟩ := f (by omega)
      have HC : Hid (∀ i, i < n → w.cell? ⟨b, o + i * 2, none⟩ = some (.string (xs.getD i Vr.no).name) ∧ w.cell? ⟨b, o + i * 2 + 1, none⟩ = some (.string (xs.getD i Vr.no).val)) := hc
      clear hc f hn
      go_enter Try.func35, Try.ntmps35
      go_wp2
      go_loopw [1, 5] (fun q i wr => ∃ (k : Nat) (r : Int), i = .int .i64 (k : Int) ∧ q = .int .i64 r ∧ 0 ≤ r ∧ r ≤ l ∧ k ≤ n ∧ Below w.heap.size w wr ∧ Hid (VrSmall xs k)) (fun _ i _ => n - (intOf i).toNat)
      case atStart => exact ⟨0, _, rfl, rfl, by omega, by omega, by omega, Below.refl _ _, fun i hi => by omega⟩
      case round =>
        obtain ⟨k, r, rfl, rfl, hr0, hr1, hk, hbel, HS⟩ := hrel
        have hsz := hbel.size
        by_cases hlt : k < n
        · obtain ⟨p, hp⟩ : ∃ p, p = xs.getD k Vr.no := ⟨_, rfl⟩
          have hpc := HC.out k hlt
          have hkl := HF.out k hlt
          rw [← hp] at hpc hkl
          obtain ⟨c0, c1⟩ := hpc
          have e0 := (hbel.cell hb).trans c0
          have e1 := (hbel.cell hb).trans c1
          have HP : Hid (p = xs.getD k Vr.no) := hp
          clear hp c0 c1
          obtain ⟨x0, x1⟩ := p
          simp only at e0 e1 hkl
          have CC : Hid (Calls Try.prog 58 #[.agg #[.string x0, .string x1], .int .i64 r] wr fun e w' => Below wr.heap.size wr w' ∧ ∃ r' : Int, e = .returned (.int .i64 r') ∧ (r' = -1 ∨ 0 ≤ r' ∧ r' ≤ r ∧ x0.size ≤ 1048576 ∧ x1.size ≤ 1048576)) :=
            szVr_any x0 x1 r wr hr0 (by omega) hkl.1 hkl.2
          clear hkl
          have i1 : (k : Int) < (n : Int) := by omega
          go_wp2_with fail
          refine CC.out.mono ?_
          rintro e w1 ⟨hb1, r1, rfl, hr⟩
          rcases hr with rfl | ⟨h3, h4, h5⟩
          · go_wp2
            go_ret
            exact ⟨hbel.trans (hb1.mono hsz), -1, rfl, .inl rfl⟩
          · have d2 : decide (r1 < 0) = false := by simp; omega
            go_wp2
            go_roundw
            case rel =>
              refine ⟨k + 1, r1, by go_num, rfl, h3, by omega, by omega, hbel.trans (hb1.mono hsz), ?_⟩
              intro i hi
              by_cases hik : i = k
              · subst hik
                rw [← HP.out]
                exact h5
              · exact HS.out i (by omega)
            case measure => simp [intOf]; omega
        · obtain rfl : k = n := by omega
          go_wp2
          go_ret
          exact ⟨hbel, _, rfl, .inr ⟨hr0, hr1, by omega, HS.out⟩⟩


open Go.ChangeShapes Go.WideShapes Go.ChangeAt Go.Deep in
set_option maxRecDepth 100000 in
theorem VrOpen {H : Type} {enc : TypeId × Value → H} {W : World} {n : Nat} {s : Value} {x : DataW H × List MemPlace} (h : DataW.trod enc Try.prog W 0 (fun _ => true) true n 26 [s] = some x) :
    ∃ xs : List Vr, VrAt W s xs ∧ xs.length ≤ maxLen ∧ (∀ i, i < xs.length → (xs.getD i Vr.no).name.size ≤ maxLen) ∧ (∀ i, i < xs.length → (xs.getD i Vr.no).val.size ≤ maxLen) := by
  have hP : Try.prog.cellsOf 96 = 2 := by kernel_rfl
  rcases open_slice Try.underlying26 h with ⟨hcs, _⟩ | ⟨a, len, cap, m, n', D, Pl, hcs, hb, hl, hm, hmm, hx, hel⟩
  · simp at hcs
    subst hcs
    exact ⟨[], ⟨none, 0, rfl, fun h => by simp at h⟩, by simp, fun i hi => by simp at hi, fun i hi => by simp at hi⟩
  · simp at hcs
    subst hcs
    simp at hmm
    subst hmm
    have each : ∀ i, i < len → ∃ q : Vr, (W.cell? (a.add (i * 2)) = some (.string q.name) ∧ W.cell? (a.add (i * 2 + 1)) = some (.string q.val)) ∧ q.name.size ≤ maxLen ∧ q.val.size ≤ maxLen := by
      intro i hi
      obtain ⟨cs', h1, h2⟩ := hel i (by omega)
      rw [hP] at h1
      obtain ⟨_, hlen, hcell⟩ := World.cells?_some h1
      obtain ⟨ys, n2, _, _, _, hyl, hff⟩ := DataW.trod_struct Try.underlying96 h2
      match cs', hlen, ys, hyl with
      | [v0, v1], _, [y0, y1], _ =>
        have e0 := hcell 0 (by omega)
        have e1 := hcell 1 (by omega)
        rw [add_add] at e0 e1
        have qs : Try.prog.cellsOf 9 = 1 := by kernel_rfl
        have k0 := hff 0 _ rfl
        have k1 := hff 1 _ rfl
        simp [qs] at k0 k1
        obtain ⟨o0, u0, _, t0⟩ := DataW.trod_string Try.underlying9 k0
        obtain ⟨o1, u1, _, t1⟩ := DataW.trod_string Try.underlying9 k1
        simp at u0 u1
        subst u0 u1
        exact ⟨⟨o0, o1⟩, ⟨by simpa using e0, by simpa using e1⟩, t0, t1⟩
    obtain ⟨q, hq⟩ := choose_lt each
    have hlen : ((List.range len).map q).length = len := by simp
    have hget : ∀ i, i < len → ((List.range len).map q).getD i Vr.no = q i := by intro i hi; simp [hi]
    refine ⟨(List.range len).map q, ⟨some a, m, by rw [hlen], fun h0 => ?_⟩, by rw [hlen]; omega, fun i hi => by rw [hlen] at hi; rw [hget i hi]; exact (hq i hi).2.1, fun i hi => by rw [hlen] at hi; rw [hget i hi]; exact (hq i hi).2.2⟩
    rw [hlen] at h0 ⊢
    obtain ⟨b, off, spot⟩ := a
    have hc0 := (hq 0 h0).1.1
    have hspot : spot = none := by simpa [Addr.add] using World.cell?_spot hc0
    subst hspot
    have hadd : ∀ j, (⟨b, off, none⟩ : Addr).add j = ⟨b, off + j, none⟩ := fun j => by unfold Addr.add; split <;> simp_all
    refine ⟨b, off, rfl, ?_, fun i hi => ?_⟩
    · rw [hadd] at hc0
      exact World.block_lt_of_cell? W _ hc0
    · obtain ⟨h0, h1⟩ := (hq i hi).1
      rw [hadd] at h0 h1
      rw [hget i hi]
      exact ⟨h0, by rw [Nat.add_assoc]; exact h1⟩
end PartStV
end Go.Proofs.Ythnmopldpgdenaa
