/- Code in memory: how great it is, the law's own copy of it, two of the same, what is handed in. Plain facts: the tokens of a text. -/
import Derived.Test.YthbblocllicmiaqZab
import Derived.Test.YthbblocllicmiaqZah
import Derived.Test.YthbblocllicmiaqZac
namespace Go.Proofs.Ythbblocllicmiaq
section PartCoC
open Go.RowKit

theorem alloc3_0c (w : World) (A B C : Obj) : (((w.alloc A).alloc B).alloc C).heap[w.heap.size]? = some A := by
  show (((w.heap.push A).push B).push C)[w.heap.size]? = some A
  rw [Array.getElem?_push, if_neg (by simp; omega), Array.getElem?_push, if_neg (by simp), Array.getElem?_push]
  simp

set_option maxHeartbeats 800000 in
theorem szCode_any (v rv : Value) (bg ln en : Int) (ts : List ByteArray) (xs : List Ins) (l : Int) (w : World) (h : TsAt w v ts) (hr : InsAt w rv xs) (hl0 : 0 ≤ l) (hl : l ≤ 1048576) (hf : ts.length ≤ maxLen) (hf2 : ∀ i, i < ts.length → (ts.getD i ByteArray.empty).size ≤ maxLen) (hfr : xs.length ≤ maxLen) :
    Calls Try.prog 6 #[.agg #[v, rv, .int .i64 bg, .int .i64 ln, .int .i64 en], .int .i64 l] w fun e w' => Below w.heap.size w w' ∧ ∃ r : Int, e = .returned (.int .i64 r) ∧ (r = -1 ∨ 0 ≤ r ∧ r ≤ l ∧ ts.length ≤ 1048576 ∧ TsSmall ts ts.length ∧ xs.length ≤ 1048576) := by
  have HB : Hid (Below w.heap.size w (w.alloc (.cells #[v, rv, .int .i64 bg, .int .i64 ln, .int .i64 en] 25))) := (Below.refl _ _).alloc (Nat.le_refl _) _
  have CC : Hid (∀ W, Below w.heap.size w W → Calls Try.prog 17 #[v, .int .i64 l] W fun e w' => Below W.heap.size W w' ∧ ∃ r : Int, e = .returned (.int .i64 r) ∧ (r = -1 ∨ 0 ≤ r ∧ r ≤ l ∧ ts.length ≤ 1048576 ∧ TsSmall ts ts.length)) :=
    fun W hb => szTs_any v ts l _ (h.keep hb) hl0 hl hf hf2
  have CR : Hid (∀ W (r : Int), Below w.heap.size w W → 0 ≤ r → r ≤ l → Calls Try.prog 18 #[rv, .int .i64 r] W fun e w' => w' = W ∧ ∃ r' : Int, e = .returned (.int .i64 r') ∧ (r' = -1 ∨ 0 ≤ r' ∧ r' ≤ r ∧ xs.length ≤ 1048576)) :=
    fun W r hb h0 h1 => szInss_any rv xs r W (hr.keep hb) h0 (by omega) hfr
  obtain ⟨ad, c, rfl, _⟩ := h
  obtain ⟨ra, rc, rfl, _⟩ := hr
  go_enter Try.func6, Try.ntmps6
  go_wp2_with fail
  refine (CC.out _ HB.out).mono ?_
  rintro e w1 ⟨hb1, r1, rfl, hr⟩
  have hb2 := HB.out.trans (hb1.mono (by simp))
  have c1 : w1.cell? ⟨w.heap.size, 1, none⟩ = some (.slice ra xs.length rc) := (hb1.cell (by simp)).trans (by simp)
  rcases hr with rfl | ⟨h3, h4, h5⟩
  · go_wp2
    go_ret
    exact ⟨hb2, -1, rfl, .inl rfl⟩
  · have d2 : decide (r1 < 0) = false := by simp; omega
    have H5 : Hid (ts.length ≤ 1048576 ∧ TsSmall ts ts.length) := h5
    clear h5 hb1
    go_wp2_with fail
    refine (CR.out _ _ hb2 h3 h4).mono ?_
    rintro e w2 ⟨rfl, r2, rfl, hr⟩
    rcases hr with rfl | ⟨h6, h7, h8⟩
    · go_wp2
      go_ret
      exact ⟨hb2, -1, rfl, .inl rfl⟩
    · have d3 : decide (r2 < 0) = false := by simp; omega
      go_wp2
      go_ret
      exact ⟨hb2, _, rfl, .inr ⟨h6, by omega, H5.out.1, H5.out.2, h8⟩⟩

set_option maxHeartbeats 800000 in
theorem eqCode_any (v1 r1 v2 r2 : Value) (bg ln en : Int) (ts : List ByteArray) (xs : List Ins) (w : World) (h1 : TsAt w v1 ts) (g1 : InsAt w r1 xs) (h2 : TsAt w v2 ts) (g2 : InsAt w r2 xs) (hl : ts.length ≤ 1048576) (hlr : xs.length ≤ 1048576) :
    Calls Try.prog 10 #[.agg #[v1, r1, .int .i64 bg, .int .i64 ln, .int .i64 en], .agg #[v2, r2, .int .i64 bg, .int .i64 ln, .int .i64 en]] w fun e w' => e = .returned (.bool true) ∧ Below w.heap.size w w' := by
  have CC : Hid (∀ w', Below w.heap.size w w' → Calls Try.prog 26 #[v1, v2] w' fun e w'' => e = .returned (.bool true) ∧ Below w'.heap.size w' w'') := fun w' hb => eqTs_any v1 v2 ts w' (h1.keep hb) (h2.keep hb) hl
  have CR : Hid (∀ w', Below w.heap.size w w' → Calls Try.prog 27 #[r1, r2] w' fun e w'' => e = .returned (.bool true) ∧ Below w'.heap.size w' w'') := fun w' hb => eqInss_any r1 r2 xs w' (g1.keep hb) (g2.keep hb) hlr
  obtain ⟨a1, c1, rfl, -⟩ := h1
  obtain ⟨a2, c2, rfl, -⟩ := h2
  obtain ⟨d1, e1, rfl, -⟩ := g1
  obtain ⟨d2, e2, rfl, -⟩ := g2
  have q1 : (bg != bg) = false := by simp
  have q2 : (ln != ln) = false := by simp
  have q3 : (en != en) = false := by simp
  have HB : Hid (Below w.heap.size w ((w.alloc (.cells #[.slice a1 ts.length c1, .slice d1 xs.length e1, .int .i64 bg, .int .i64 ln, .int .i64 en] 30)).alloc (.cells #[.slice a2 ts.length c2, .slice d2 xs.length e2, .int .i64 bg, .int .i64 ln, .int .i64 en] 30))) := ((Below.refl _ _).alloc (Nat.le_refl _) _).alloc (by simp) _
  have R0 := alloc2_0 w (.cells #[.slice a1 ts.length c1, .slice d1 xs.length e1, .int .i64 bg, .int .i64 ln, .int .i64 en] 30) (.cells #[.slice a2 ts.length c2, .slice d2 xs.length e2, .int .i64 bg, .int .i64 ln, .int .i64 en] 30)
  have R1 := alloc2_1 w (.cells #[.slice a1 ts.length c1, .slice d1 xs.length e1, .int .i64 bg, .int .i64 ln, .int .i64 en] 30) (.cells #[.slice a2 ts.length c2, .slice d2 xs.length e2, .int .i64 bg, .int .i64 ln, .int .i64 en] 30)
  have hz : w.heap.size + 2 ≤ ((w.alloc (.cells #[.slice a1 ts.length c1, .slice d1 xs.length e1, .int .i64 bg, .int .i64 ln, .int .i64 en] 30)).alloc (.cells #[.slice a2 ts.length c2, .slice d2 xs.length e2, .int .i64 bg, .int .i64 ln, .int .i64 en] 30)).heap.size := by simp
  have HR : Hid _ := And.intro R0 R1
  clear R0 R1
  go_enter Try.func10, Try.ntmps10
  go_wp2_with fail
  generalize (w.alloc (.cells #[.slice a1 ts.length c1, .slice d1 xs.length e1, .int .i64 bg, .int .i64 ln, .int .i64 en] 30)).alloc (.cells #[.slice a2 ts.length c2, .slice d2 xs.length e2, .int .i64 bg, .int .i64 ln, .int .i64 en] 30) = W at *
  refine (CC.out _ HB.out).mono ?_
  rintro e w1 ⟨rfl, hb1⟩
  have x1 := blk_cell ((hb1.block w.heap.size (by omega)).trans HR.out.1) 1
  have x2 := blk_cell ((hb1.block (w.heap.size + 1) (by omega)).trans HR.out.2) 1
  simp only [List.getElem?_toArray, List.getElem?_cons_zero, List.getElem?_cons_succ] at x1 x2
  have HB1 : Hid (Below w.heap.size w w1) := HB.out.trans (hb1.mono HB.out.size)
  have HW1 : Hid (Below W.heap.size W w1) := hb1
  clear hb1 CC
  go_wp2_with fail
  refine (CR.out _ HB1.out).mono ?_
  rintro e w2 ⟨rfl, hb2⟩
  have HW2 : Hid (Below W.heap.size W w2) := HW1.out.trans (hb2.mono HW1.out.size)
  have R0 := (HW2.out.block w.heap.size (by omega)).trans HR.out.1
  have R1 := (HW2.out.block (w.heap.size + 1) (by omega)).trans HR.out.2
  have y2 := blk_cell R0 2
  have y3 := blk_cell R0 3
  have y4 := blk_cell R0 4
  have z2 := blk_cell R1 2
  have z3 := blk_cell R1 3
  have z4 := blk_cell R1 4
  simp only [List.getElem?_toArray, List.getElem?_cons_zero, List.getElem?_cons_succ] at y2 y3 y4 z2 z3 z4
  have HB2 : Hid (Below w.heap.size w w2) := HB1.out.trans (hb2.mono HB1.out.size)
  clear hb2 CR x1 x2 R0 R1 HW1 HW2 HR
  go_wp2
  go_ret
  exact ⟨rfl, HB2.out⟩

/-- The law's own copy of code. -/
def CodeCopy (w : World) (v : Value) (B : Nat) (ts : List ByteArray) (xs : List Ins) (bg ln en : Int) : Prop := ∃ g h, v = .agg #[.slice (some ⟨g, 0, none⟩) ts.length ts.length, .slice (some ⟨h, 0, none⟩) xs.length xs.length, .int .i64 bg, .int .i64 ln, .int .i64 en] ∧ B ≤ g ∧ B ≤ h ∧ TsBlk w g ts ∧ InsCopy w h xs.length xs xs.length

set_option maxRecDepth 100000 in
set_option maxHeartbeats 4000000 in
theorem toCode_any (v rv : Value) (bg ln en : Int) (ts : List ByteArray) (xs : List Ins) (w : World) (h : TsAt w v ts) (hr : InsAt w rv xs) (hk : ts.length ≤ 1048576) (hkr : xs.length ≤ 1048576) :
    Calls Try.prog 8 #[.agg #[v, rv, .int .i64 bg, .int .i64 ln, .int .i64 en]] w fun e w' => ∃ u, e = .returned u ∧ Below w.heap.size w w' ∧ CodeCopy w' u w.heap.size ts xs bg ln en := by
  have CC : Hid (∀ w' : World, Below w.heap.size w w' → Calls Try.prog 21 #[v] w' fun e w'' => e = .returned (.slice (some ⟨w'.heap.size, 0, none⟩) ts.length ts.length) ∧ Below w'.heap.size w' w'' ∧ TsBlk w'' w'.heap.size ts) :=
    fun w' hb => toTs_any v ts w' (h.keep hb) hk
  have CR : Hid (∀ w' : World, Below w.heap.size w w' → Calls Try.prog 22 #[rv] w' fun e w'' => e = .returned (.slice (some ⟨w'.heap.size, 0, none⟩) xs.length xs.length) ∧ Below w'.heap.size w' w'' ∧ InsCopy w'' w'.heap.size xs.length xs xs.length) :=
    fun w' hb => toInss_any rv xs w' (hr.keep hb) hkr
  obtain ⟨ad, c, rfl, _⟩ := h
  obtain ⟨ra, rc, rfl, _⟩ := hr
  go_enter Try.func8, Try.ntmps8
  go_wp2_with fail
  refine (CC.out _ ((((Below.refl _ _).alloc (Nat.le_refl _) _).alloc (by simp) _).alloc (by simp; omega) _)).mono ?_
  rintro e w1 ⟨rfl, hb1, hk1⟩
  have R3 := hb1.block (w.heap.size + 1 + 1) (by simp)
  have R2 := hb1.block (w.heap.size + 1) (by simp)
  have R1 := hb1.block w.heap.size (by simp; omega)
  rw [alloc3_2] at R3
  rw [alloc3_1] at R2
  rw [alloc3_0c] at R1
  have HB1 : Hid (Below w.heap.size w w1) := ((((Below.refl _ _).alloc (Nat.le_refl _) _).alloc (by simp) _).alloc (by simp; omega) _).trans (hb1.mono (by simp; omega))
  have hs1 : w.heap.size + 1 + 1 + 1 ≤ w1.heap.size := by have := hb1.size; simpa using this
  simp only [World.size_alloc] at hk1
  have HK1 : Hid _ := hk1
  clear hk1 hb1 CC
  have c3 := blk_cell R3 0
  have f3 := blk_free R3 0
  have S3 := blk_set R3 0 (.slice (some ⟨w.heap.size + 1 + 1 + 1, 0, none⟩) ts.length ts.length)
  have S2 := (Below.heap_setCell w1 ⟨w.heap.size + 1 + 1, 0, none⟩ (.slice (some ⟨w.heap.size + 1 + 1 + 1, 0, none⟩) ts.length ts.length) (w.heap.size + 1) (by simp)).trans R2
  have S1 := (Below.heap_setCell w1 ⟨w.heap.size + 1 + 1, 0, none⟩ (.slice (some ⟨w.heap.size + 1 + 1 + 1, 0, none⟩) ts.length ts.length) w.heap.size (by simp; omega)).trans R1
  have a1 := blk_cell S1 1
  simp at c3 a1
  have HS3 : Hid _ := S3
  have HS2 : Hid _ := S2
  have HS1 : Hid _ := S1
  have HB2 : Hid (Below w.heap.size w (w1.setCell ⟨w.heap.size + 1 + 1, 0, none⟩ (.slice (some ⟨w.heap.size + 1 + 1 + 1, 0, none⟩) ts.length ts.length))) := HB1.out.setCell (by show _ ≤ w.heap.size + 1 + 1; omega) _
  have HK2 : Hid (TsBlk (w1.setCell ⟨w.heap.size + 1 + 1, 0, none⟩ (.slice (some ⟨w.heap.size + 1 + 1 + 1, 0, none⟩) ts.length ts.length)) (w.heap.size + 1 + 1 + 1) ts) := TsBlk.setFar HK1.out _ _ (by show w.heap.size + 1 + 1 < _; omega)
  have hs2 : w.heap.size + 1 + 1 + 1 ≤ (w1.setCell ⟨w.heap.size + 1 + 1, 0, none⟩ (.slice (some ⟨w.heap.size + 1 + 1 + 1, 0, none⟩) ts.length ts.length)).heap.size := by simpa [World.setCell] using hs1
  clear S1 S2 S3 R1 R2 R3
  go_wp2_with fail
  refine (CR.out _ HB2.out).mono ?_
  generalize w1.setCell ⟨w.heap.size + 1 + 1, 0, none⟩ (.slice (some ⟨w.heap.size + 1 + 1 + 1, 0, none⟩) ts.length ts.length) = w2 at *
  rintro e w3 ⟨rfl, hb3, hk3⟩
  have R3 := (hb3.block (w.heap.size + 1 + 1) (by omega)).trans HS3.out
  have R2 := (hb3.block (w.heap.size + 1) (by omega)).trans HS2.out
  have R1 := (hb3.block w.heap.size (by omega)).trans HS1.out
  have HB3 : Hid (Below w.heap.size w w3) := HB2.out.trans (hb3.mono (by omega))
  have HN3 : Hid (TsBlk w3 (w.heap.size + 1 + 1 + 1) ts) := HK2.out.keep hb3
  have HR3 : Hid (InsCopy w3 w2.heap.size xs.length xs xs.length) := hk3
  clear hk3 hb3 HK2 HS3 HS2 HS1 HB2 HK1 HB1 CR c3 f3 a1
  obtain ⟨G, hG⟩ : ∃ G, G = w2.heap.size := ⟨_, rfl⟩
  rw [← hG] at HR3 hs2 ⊢
  clear hG
  simp only [List.setIfInBounds_toArray, List.set_cons_zero] at R3
  have d0 := blk_cell R3 0
  have d1 := blk_cell R3 1
  have d2 := blk_cell R3 2
  have d3 := blk_cell R3 3
  have d4 := blk_cell R3 4
  have f1 := blk_free R3 1
  have f2 := blk_free R3 2
  have f3 := blk_free R3 3
  have f4 := blk_free R3 4
  have a2 := blk_cell R1 2
  have a3 := blk_cell R1 3
  have a4 := blk_cell R1 4
  have b0 := blk_cell R2 0
  have b1 := blk_cell R2 1
  have b2 := blk_cell R2 2
  have b3 := blk_cell R2 3
  have b4 := blk_cell R2 4
  have g0 := blk_free R2 0
  have g1 := blk_free R2 1
  have g2 := blk_free R2 2
  have g3 := blk_free R2 3
  have g4 := blk_free R2 4
  simp only [List.getElem?_toArray, List.getElem?_cons_zero, List.getElem?_cons_succ] at d0 d1 d2 d3 d4 a2 a3 a4 b0 b1 b2 b3 b4
  have HT2 : Hid _ := R2
  clear R1 R2 R3
  go_wp2_with fail
  have K : ∀ (W : World) (j : Nat) (u : Value) {X : Option Obj}, W.heap[w.heap.size + 1]? = X → (W.setCell ⟨w.heap.size + 1 + 1, j, none⟩ u).heap[w.heap.size + 1]? = X := fun W j u X e => (Below.heap_setCell _ _ _ _ (by show w.heap.size + 1 ≠ w.heap.size + 1 + 1; omega)).trans e
  have Q := blk_set (blk_set (blk_set (blk_set (blk_set (K _ 4 (.int .i64 en) (K _ 3 (.int .i64 ln) (K _ 2 (.int .i64 bg) (K _ 1 (.slice (some ⟨G, 0, none⟩) xs.length xs.length) HT2.out)))) 0 (.slice (some ⟨w.heap.size + 1 + 1 + 1, 0, none⟩) ts.length ts.length)) 1 (.slice (some ⟨G, 0, none⟩) xs.length xs.length)) 2 (.int .i64 bg)) 3 (.int .i64 ln)) 4 (.int .i64 en)
  refine bodyPost_ret (results_cell_row (p := 2) (ty := 30) rfl _ _ (w.heap.size + 1) 30 _ (0, 0) _ rfl Q Try.underlying30 rfl (by kernel_rfl)) rfl ?_
  refine ⟨_, rfl, ?_, w.heap.size + 1 + 1 + 1, G, rfl, by omega, by omega, ?_, ?_⟩
  · exact (((((((((HB3.out.setCell (by show _ ≤ w.heap.size + 1 + 1; omega) _).setCell (by show _ ≤ w.heap.size + 1 + 1; omega) _).setCell (by show _ ≤ w.heap.size + 1 + 1; omega) _).setCell (by show _ ≤ w.heap.size + 1 + 1; omega) _).setCell (by show _ ≤ w.heap.size + 1; omega) _).setCell (by show _ ≤ w.heap.size + 1; omega) _).setCell (by show _ ≤ w.heap.size + 1; omega) _).setCell (by show _ ≤ w.heap.size + 1; omega) _).setCell (by show _ ≤ w.heap.size + 1; omega) _)
  · exact (((((((((HN3.out.setFar _ _ (by show w.heap.size + 1 + 1 < _; omega)).setFar _ _ (by show w.heap.size + 1 + 1 < _; omega)).setFar _ _ (by show w.heap.size + 1 + 1 < _; omega)).setFar _ _ (by show w.heap.size + 1 + 1 < _; omega)).setFar _ _ (by show w.heap.size + 1 < _; omega)).setFar _ _ (by show w.heap.size + 1 < _; omega)).setFar _ _ (by show w.heap.size + 1 < _; omega)).setFar _ _ (by show w.heap.size + 1 < _; omega)).setFar _ _ (by show w.heap.size + 1 < _; omega))
  · exact (((((((((HR3.out.setFar _ _ (by show w.heap.size + 1 + 1 < _; omega)).setFar _ _ (by show w.heap.size + 1 + 1 < _; omega)).setFar _ _ (by show w.heap.size + 1 + 1 < _; omega)).setFar _ _ (by show w.heap.size + 1 + 1 < _; omega)).setFar _ _ (by show w.heap.size + 1 < _; omega)).setFar _ _ (by show w.heap.size + 1 < _; omega)).setFar _ _ (by show w.heap.size + 1 < _; omega)).setFar _ _ (by show w.heap.size + 1 < _; omega)).setFar _ _ (by show w.heap.size + 1 < _; omega))

open Go.ChangeShapes Go.WideShapes Go.ChangeAt Go.Deep in
set_option maxRecDepth 100000 in
theorem codeOpen {H : Type} {enc : TypeId × Value → H} {W : World} {base : Nat} {v : Value} {d : DataW H} {p : List MemPlace} (hval : Value.okWide Try.prog W .any base 25 v)
    (h : DataW.Trod enc Try.prog W 0 (fun _ => true) true 25 v d p) : ∃ (s r : Value) (bg ln en : Int) (ts : List ByteArray) (xs : List Ins), v = .agg #[s, r, .int .i64 bg, .int .i64 ln, .int .i64 en] ∧ (TsAt W s ts ∧ ts.length ≤ maxLen ∧ ∀ i, i < ts.length → (ts.getD i ByteArray.empty).size ≤ maxLen) ∧ InsAt W r xs ∧ xs.length ≤ maxLen := by
  obtain ⟨cs, rfl, hsz⟩ := okWide_struct Try.underlying25 hval
  have hC : Try.prog.cellsOf 25 = 5 := by kernel_rfl
  rw [hC] at hsz
  obtain ⟨l⟩ := cs
  match l, hsz with
  | [s, r, u2, u3, u4], _ =>
    obtain ⟨fuel, hf⟩ := h
    obtain ⟨ys, n, _, _, _, hxl, hff⟩ := DataW.trod_struct Try.underlying25 hf
    match ys, hxl with
    | [y0, y1, y2, y3, y4], _ =>
      have g0 := hff 0 _ rfl
      have g1 := hff 1 _ rfl
      have g2 := hff 2 _ rfl
      have g3 := hff 3 _ rfl
      have g4 := hff 4 _ rfl
      have c1 : Try.prog.cellsOf 22 = 1 := by kernel_rfl
      have c2 : Try.prog.cellsOf 23 = 1 := by kernel_rfl
      have c3 : Try.prog.cellsOf 3 = 1 := by kernel_rfl
      simp [Value.cells, c1, c2, c3] at g0 g1 g2 g3 g4
      obtain ⟨ts, h1⟩ := TsOpen g0
      obtain ⟨xs, h3, h4⟩ := InsOpen g1
      obtain ⟨o2, e2, _, _⟩ := DataW.trod_int Try.underlying3 g2
      obtain ⟨o3, e3, _, _⟩ := DataW.trod_int Try.underlying3 g3
      obtain ⟨o4, e4, _, _⟩ := DataW.trod_int Try.underlying3 g4
      simp at e2 e3 e4
      subst e2 e3 e4
      exact ⟨s, r, o2, o3, o4, ts, xs, rfl, h1, h3, h4⟩
end PartCoC
section PartTkP
namespace Tk

/-- A token: its kind and its text. -/
structure Tok where
  kind : Nat
  text : List UInt8
def no : Tok := ⟨0, []⟩
def letter (b : UInt8) : Bool := (decide (97 ≤ b.toNat) && decide (b.toNat ≤ 122)) || (decide (65 ≤ b.toNat) && decide (b.toNat ≤ 90))
def figure (b : UInt8) : Bool := decide (48 ≤ b.toNat) && decide (b.toNat ≤ 57)
/-- The first place from i on whose byte is not so, or the end. -/
def run (p : UInt8 → Bool) (l : List UInt8) (i : Nat) : Nat := i + ((l.drop i).takeWhile p).length
theorem run_end (p : UInt8 → Bool) {l : List UInt8} {i : Nat} (h : l.length ≤ i) : run p l i = i := by
  unfold run
  rw [List.drop_eq_nil_of_le h]
  rfl
theorem run_step {p : UInt8 → Bool} {l : List UInt8} {i : Nat} (h : i < l.length) (hp : p l[i] = true) : run p l i = run p l (i + 1) := by
  unfold run
  rw [List.drop_eq_getElem_cons h, List.takeWhile_cons_of_pos hp]
  simp
  omega
theorem run_stop {p : UInt8 → Bool} {l : List UInt8} {i : Nat} (h : i < l.length) (hp : p l[i] = false) : run p l i = i := by
  unfold run
  rw [List.drop_eq_getElem_cons h, List.takeWhile_cons_of_neg (by simp [hp])]
  rfl
theorem run_ge (p : UInt8 → Bool) (l : List UInt8) (i : Nat) : i ≤ run p l i := by unfold run; omega
theorem run_le (p : UInt8 → Bool) {l : List UInt8} {i : Nat} (h : i ≤ l.length) : run p l i ≤ l.length := by
  unfold run
  have := (List.takeWhile_prefix p (l := l.drop i)).length_le
  simp at this
  omega
/-- What stands from a up to b. -/
def cut (l : List UInt8) (a b : Nat) : List UInt8 := (l.drop a).take (b - a)
/-- The end of what stands between two marks, from the first one on, or 0. -/
def textEnd (l : List UInt8) (a : Nat) (m : UInt8) (most : Nat) : Nat :=
  if l[run (fun b => b != m && b != 10) l (a + 1)]? = some m ∧ run (fun b => b != m && b != 10) l (a + 1) - a - 1 ≤ most then run (fun b => b != m && b != 10) l (a + 1) else 0
theorem textEnd_lt {l : List UInt8} {a : Nat} {m : UInt8} {most : Nat} (h : textEnd l a m most ≠ 0) : a < textEnd l a m most ∧ textEnd l a m most < l.length := by
  unfold textEnd at h ⊢
  split at h
  · rename_i k
    rw [if_pos k]
    refine ⟨by have := run_ge (fun b => b != m && b != 10) l (a + 1); omega, ?_⟩
    exact (List.getElem?_eq_some_iff.1 k.1).1
  · exact absurd rfl h
def signs : List UInt8 := [123, 125, 40, 41, 91, 93, 36, 126, 60, 43, 45, 42, 37, 46, 44, 61]
/-- The token at a, and the place behind it. -/
def one (l : List UInt8) (a : Nat) (last : Tok) : Option (Tok × Nat) :=
  if l.getD a 0 = 10 ∨ l.getD a 0 = 59 then some (⟨6, [59]⟩, a + 1)
  else if letter (l.getD a 0) = true then (if 8 < run letter l a - a then none else some (⟨1, cut l a (run letter l a)⟩, run letter l a))
  else if figure (l.getD a 0) = true then (if 6 < run figure l a - a then none else some (⟨2, cut l a (run figure l a)⟩, run figure l a))
  else if l.getD a 0 = 34 then (if textEnd l a 34 30 = 0 then none else some (⟨3, cut l (a + 1) (textEnd l a 34 30)⟩, textEnd l a 34 30 + 1))
  else if l.getD a 0 = 47 then (if textEnd l a 47 24 = 0 ∨ last.kind ≠ 5 ∨ last.text ≠ [126] then none else if (Pp.read (cut l (a + 1) (textEnd l a 47 24))).isSome = true then some (⟨4, cut l (a + 1) (textEnd l a 47 24)⟩, textEnd l a 47 24 + 1) else none)
  else if l[a + 1]? = some 61 ∧ (l.getD a 0 = 43 ∨ l.getD a 0 = 61) then some (⟨5, cut l a (a + 2)⟩, a + 2)
  else if l.getD a 0 ∈ signs then some (⟨5, cut l a (a + 1)⟩, a + 1)
  else none
/-- The token is behind its place. -/
theorem one_gt {l : List UInt8} {a : Nat} {last t : Tok} {n : Nat} (ha : a < l.length) (h : one l a last = some (t, n)) : a < n ∧ n ≤ l.length := by
  have hg : l.getD a 0 = l[a] := by simp [ha]
  unfold one at h
  split at h
  · simp only [Option.some.injEq, Prod.mk.injEq] at h; omega
  split at h
  · rename_i k
    split at h
    · cases h
    · simp only [Option.some.injEq, Prod.mk.injEq] at h
      rw [hg] at k
      have := run_step ha k
      have := run_ge letter l (a + 1)
      have := run_le letter (Nat.le_of_lt ha)
      omega
  split at h
  · rename_i k
    split at h
    · cases h
    · simp only [Option.some.injEq, Prod.mk.injEq] at h
      rw [hg] at k
      have := run_step ha k
      have := run_ge figure l (a + 1)
      have := run_le figure (Nat.le_of_lt ha)
      omega
  split at h
  · split at h
    · cases h
    · rename_i k
      simp only [Option.some.injEq, Prod.mk.injEq] at h
      have := textEnd_lt k
      omega
  split at h
  · split at h
    · cases h
    · rename_i k
      split at h
      · simp only [Option.some.injEq, Prod.mk.injEq] at h
        have := textEnd_lt (l := l) (a := a) (m := 47) (most := 24) (fun e => k (.inl e))
        omega
      · cases h
  split at h
  · rename_i k
    simp only [Option.some.injEq, Prod.mk.injEq] at h
    have := (List.getElem?_eq_some_iff.1 k.1).1
    omega
  split at h
  · simp only [Option.some.injEq, Prod.mk.injEq] at h; omega
  · cases h
/-- All tokens from a on, behind those of out, and the place of a fault, or 0. -/
def loop (l : List UInt8) : Nat → Nat → Tok → List Tok → List Tok × Nat
  | 0, _, _, out => (out, 0)
  | f + 1, a, last, out =>
    if l.length ≤ a then (out, 0)
    else if l.getD a 0 = 32 ∨ l.getD a 0 = 9 then loop l f (a + 1) last out
    else if l.getD a 0 = 35 then loop l f (run (fun b => b != 10) l a) last out
    else match one l a last with
      | none => ([], a + 1)
      | some (t, n) => if out.length = 200 then ([], a + 1) else loop l f n t (out ++ [t])
def tokens (l : List UInt8) : List Tok × Nat := if 600 < l.length then ([], 601) else loop l (l.length + 1) 0 no []
end Tk
end PartTkP
end Go.Proofs.Ythbblocllicmiaq
