/- A store in memory: how great it is, the law's own copy of it, two of the same, what is handed in. -/
import Derived.Test.YtbaoadfnmicijaaMStV
import Derived.Test.YtbaoadfnmicijaaMStC
namespace Go.Proofs.Ytbaoadfnmicijaa
open Go.RowKit

theorem s2_1 (w : World) (A B : Obj) : ((w.alloc A).alloc B).heap[w.heap.size + 1]? = some B := by
  show ((w.heap.push A).push B)[w.heap.size + 1]? = some B
  rw [Array.getElem?_push]
  simp
theorem s2_0 (w : World) (A B : Obj) : ((w.alloc A).alloc B).heap[w.heap.size]? = some A := by
  show ((w.heap.push A).push B)[w.heap.size]? = some A
  rw [Array.getElem?_push, if_neg (by simp), Array.getElem?_push]
  simp
theorem alloc3_0s (w : World) (A B C : Obj) : (((w.alloc A).alloc B).alloc C).heap[w.heap.size]? = some A := by
  show (((w.heap.push A).push B).push C)[w.heap.size]? = some A
  rw [Array.getElem?_push, if_neg (by simp; omega), Array.getElem?_push, if_neg (by simp), Array.getElem?_push]
  simp
/-- A store as it is handed in: its rows may be read. -/
def StFit (vs : List Vr) (cs : List Cl) (o : ByteArray) : Prop :=
  (vs.length ≤ maxLen ∧ ∀ i, i < vs.length → (vs.getD i Vr.no).name.size ≤ maxLen ∧ (vs.getD i Vr.no).val.size ≤ maxLen) ∧
  (cs.length ≤ maxLen ∧ ∀ i, i < cs.length → (cs.getD i Cl.no).name.size ≤ maxLen ∧ (cs.getD i Cl.no).key.size ≤ maxLen ∧ (cs.getD i Cl.no).val.size ≤ maxLen) ∧ o.size ≤ maxLen
/-- A store that is not great. -/
def StSmall (vs : List Vr) (cs : List Cl) (o : ByteArray) : Prop :=
  vs.length ≤ 1048576 ∧ VrSmall vs vs.length ∧ cs.length ≤ 1048576 ∧ ClSmall cs cs.length ∧ o.size ≤ 1048576

set_option maxHeartbeats 800000 in
theorem szStore_any (v rv : Value) (o : ByteArray) (vs : List Vr) (cs : List Cl) (l : Int) (w : World) (h : VrAt w v vs) (hr : ClAt w rv cs) (hl0 : 0 ≤ l) (hl : l ≤ 1048576) (hf : StFit vs cs o) :
    Calls Try.prog 6 #[.agg #[v, rv, .string o], .int .i64 l] w fun e w' => Below w.heap.size w w' ∧ ∃ r : Int, e = .returned (.int .i64 r) ∧ (r = -1 ∨ 0 ≤ r ∧ r ≤ l ∧ StSmall vs cs o) := by
  have HB : Hid (Below w.heap.size w (w.alloc (.cells #[v, rv, .string o] 25))) := (Below.refl _ _).alloc (Nat.le_refl _) _
  have CC : Hid (∀ W, Below w.heap.size w W → Calls Try.prog 19 #[v, .int .i64 l] W fun e w' => Below W.heap.size W w' ∧ ∃ r : Int, e = .returned (.int .i64 r) ∧ (r = -1 ∨ 0 ≤ r ∧ r ≤ l ∧ vs.length ≤ 1048576 ∧ VrSmall vs vs.length)) :=
    fun W hb => szVrs_any v vs l _ (h.keep hb) hl0 hl hf.1.1 hf.1.2
  have CR : Hid (∀ W (r : Int), Below w.heap.size w W → 0 ≤ r → r ≤ l → Calls Try.prog 20 #[rv, .int .i64 r] W fun e w' => Below W.heap.size W w' ∧ ∃ r' : Int, e = .returned (.int .i64 r') ∧ (r' = -1 ∨ 0 ≤ r' ∧ r' ≤ r ∧ cs.length ≤ 1048576 ∧ ClSmall cs cs.length)) :=
    fun W r hb h0 h1 => szCls_any rv cs r W (hr.keep hb) h0 (by omega) hf.2.1.1 hf.2.1.2
  have ho := hf.2.2
  unfold maxLen at ho
  obtain ⟨ad, c, rfl, _⟩ := h
  obtain ⟨ra, rc, rfl, _⟩ := hr
  go_enter Try.func6, Try.ntmps6
  go_wp2_with fail
  refine (CC.out _ HB.out).mono ?_
  rintro e w1 ⟨hb1, r1, rfl, hr⟩
  have hb2 := HB.out.trans (hb1.mono (by simp))
  have c1 : w1.cell? ⟨w.heap.size, 1, none⟩ = some (.slice ra cs.length rc) := (hb1.cell (by simp)).trans (by simp)
  have c2 : w1.cell? ⟨w.heap.size, 2, none⟩ = some (.string o) := (hb1.cell (by simp)).trans (by simp)
  have hz : w.heap.size < w1.heap.size := World.block_lt_of_cell? w1 _ c1
  rcases hr with rfl | ⟨h3, h4, h5⟩
  · go_wp2
    go_ret
    exact ⟨hb2, -1, rfl, .inl rfl⟩
  · have d2 : decide (r1 < 0) = false := by simp; omega
    have H5 : Hid (vs.length ≤ 1048576 ∧ VrSmall vs vs.length) := h5
    clear h5 hb1
    go_wp2_with fail
    refine (CR.out _ _ hb2 h3 h4).mono ?_
    rintro e w2 ⟨hb3, r2, rfl, hr⟩
    have c3 : w2.cell? ⟨w.heap.size, 2, none⟩ = some (.string o) := (hb3.cell (by exact hz)).trans c2
    have HB4 : Hid (Below w.heap.size w w2) := hb2.trans (hb3.mono (by omega))
    clear hb3 c1 c2
    rcases hr with rfl | ⟨h6, h7, h8⟩
    · go_wp2
      go_ret
      exact ⟨HB4.out, -1, rfl, .inl rfl⟩
    · have d3 : decide (r2 < 0) = false := by simp; omega
      have H8 : Hid (cs.length ≤ 1048576 ∧ ClSmall cs cs.length) := h8
      clear h8
      by_cases hq : r2 - (o.size : Int) < 0
      · have d4 : decide (r2 - (o.size : Int) < 0) = true := by simpa using hq
        go_wp2
        go_ret
        exact ⟨HB4.out, -1, rfl, .inl rfl⟩
      · have d4 : decide (r2 - (o.size : Int) < 0) = false := by simpa using hq
        go_wp2
        go_ret
        exact ⟨HB4.out, _, rfl, .inr ⟨by omega, by omega, H5.out.1, H5.out.2, H8.out.1, H8.out.2, by omega⟩⟩

set_option maxHeartbeats 800000 in
theorem eqStore_any (v1 r1 v2 r2 : Value) (o : ByteArray) (vs : List Vr) (cs : List Cl) (w : World) (h1 : VrAt w v1 vs) (g1 : ClAt w r1 cs) (h2 : VrAt w v2 vs) (g2 : ClAt w r2 cs) (hl : vs.length ≤ 1048576) (hlr : cs.length ≤ 1048576) :
    Calls Try.prog 10 #[.agg #[v1, r1, .string o], .agg #[v2, r2, .string o]] w fun e w' => e = .returned (.bool true) ∧ Below w.heap.size w w' := by
  have CC : Hid (∀ w', Below w.heap.size w w' → Calls Try.prog 31 #[v1, v2] w' fun e w'' => e = .returned (.bool true) ∧ Below w'.heap.size w' w'') := fun w' hb => eqVrs_any v1 v2 vs w' (h1.keep hb) (h2.keep hb) hl
  have CR : Hid (∀ w', Below w.heap.size w w' → Calls Try.prog 32 #[r1, r2] w' fun e w'' => e = .returned (.bool true) ∧ Below w'.heap.size w' w'') := fun w' hb => eqCls_any r1 r2 cs w' (g1.keep hb) (g2.keep hb) hlr
  obtain ⟨a1, c1, rfl, -⟩ := h1
  obtain ⟨a2, c2, rfl, -⟩ := h2
  obtain ⟨d1, e1, rfl, -⟩ := g1
  obtain ⟨d2, e2, rfl, -⟩ := g2
  have HB : Hid (Below w.heap.size w ((w.alloc (.cells #[.slice a1 vs.length c1, .slice d1 cs.length e1, .string o] 32)).alloc (.cells #[.slice a2 vs.length c2, .slice d2 cs.length e2, .string o] 32))) := ((Below.refl _ _).alloc (Nat.le_refl _) _).alloc (by simp) _
  have R0 := s2_0 w (.cells #[.slice a1 vs.length c1, .slice d1 cs.length e1, .string o] 32) (.cells #[.slice a2 vs.length c2, .slice d2 cs.length e2, .string o] 32)
  have R1 := s2_1 w (.cells #[.slice a1 vs.length c1, .slice d1 cs.length e1, .string o] 32) (.cells #[.slice a2 vs.length c2, .slice d2 cs.length e2, .string o] 32)
  have hz : w.heap.size + 2 ≤ ((w.alloc (.cells #[.slice a1 vs.length c1, .slice d1 cs.length e1, .string o] 32)).alloc (.cells #[.slice a2 vs.length c2, .slice d2 cs.length e2, .string o] 32)).heap.size := by simp
  have HR : Hid _ := And.intro R0 R1
  clear R0 R1
  go_enter Try.func10, Try.ntmps10
  go_wp2_with fail
  generalize (w.alloc (.cells #[.slice a1 vs.length c1, .slice d1 cs.length e1, .string o] 32)).alloc (.cells #[.slice a2 vs.length c2, .slice d2 cs.length e2, .string o] 32) = W at *
  refine (CC.out _ HB.out).mono ?_
  rintro e w1 ⟨rfl, hb1⟩
  have x1 := blk_cell ((hb1.block w.heap.size (by omega)).trans HR.out.1) 1
  have x2 := blk_cell ((hb1.block (w.heap.size + 1) (by omega)).trans HR.out.2) 1
  simp only [List.getElem?_toArray, List.getElem?_cons_zero, List.getElem?_cons_succ] at x1 x2
  have HB1 : Hid (Below w.heap.size w w1) := HB.out.trans (hb1.mono HB.out.size)
  have HW1 : Hid (Below W.heap.size W w1) := hb1
  clear hb1 CC
  go_wp2_with fail
  refine (CR.out _ HB1.out).mono ?_
  rintro e w2 ⟨rfl, hb2⟩
  have HW2 : Hid (Below W.heap.size W w2) := HW1.out.trans (hb2.mono HW1.out.size)
  have R0 := (HW2.out.block w.heap.size (by omega)).trans HR.out.1
  have R1 := (HW2.out.block (w.heap.size + 1) (by omega)).trans HR.out.2
  have y2 := blk_cell R0 2
  have z2 := blk_cell R1 2
  simp only [List.getElem?_toArray, List.getElem?_cons_zero, List.getElem?_cons_succ] at y2 z2
  have HB2 : Hid (Below w.heap.size w w2) := HB1.out.trans (hb2.mono HB1.out.size)
  clear hb2 CR x1 x2 R0 R1 HW1 HW2 HR
  go_wp2
  go_ret
  exact ⟨rfl, HB2.out⟩

/-- The law's own copy of a store. -/
def StCopy (w : World) (v : Value) (B : Nat) (vs : List Vr) (cs : List Cl) (o : ByteArray) : Prop := ∃ g h, v = .agg #[.slice (some ⟨g, 0, none⟩) vs.length vs.length, .slice (some ⟨h, 0, none⟩) cs.length cs.length, .string o] ∧ B ≤ g ∧ B ≤ h ∧ g < h ∧ VrCopy w g vs.length vs vs.length ∧ ClCopy w h cs.length cs cs.length

set_option maxRecDepth 100000 in
set_option maxHeartbeats 4000000 in
theorem toStore_any (v rv : Value) (o : ByteArray) (vs : List Vr) (cs : List Cl) (w : World) (h : VrAt w v vs) (hr : ClAt w rv cs) (hk : vs.length ≤ 1048576) (hkr : cs.length ≤ 1048576) :
    Calls Try.prog 8 #[.agg #[v, rv, .string o]] w fun e w' => ∃ u, e = .returned u ∧ Below w.heap.size w w' ∧ StCopy w' u w.heap.size vs cs o := by
  have CC : Hid (∀ w' : World, Below w.heap.size w w' → Calls Try.prog 24 #[v] w' fun e w'' => e = .returned (.slice (some ⟨w'.heap.size, 0, none⟩) vs.length vs.length) ∧ Below w'.heap.size w' w'' ∧ VrCopy w'' w'.heap.size vs.length vs vs.length) :=
    fun w' hb => toVrs_any v vs w' (h.keep hb) hk
  have CR : Hid (∀ w' : World, Below w.heap.size w w' → Calls Try.prog 25 #[rv] w' fun e w'' => e = .returned (.slice (some ⟨w'.heap.size, 0, none⟩) cs.length cs.length) ∧ Below w'.heap.size w' w'' ∧ ClCopy w'' w'.heap.size cs.length cs cs.length) :=
    fun w' hb => toCls_any rv cs w' (hr.keep hb) hkr
  obtain ⟨ad, c, rfl, _⟩ := h
  obtain ⟨ra, rc, rfl, _⟩ := hr
  go_enter Try.func8, Try.ntmps8
  go_wp2_with fail
  refine (CC.out _ ((((Below.refl _ _).alloc (Nat.le_refl _) _).alloc (by simp) _).alloc (by simp; omega) _)).mono ?_
  rintro e w1 ⟨rfl, hb1, hk1⟩
  have R3 := hb1.block (w.heap.size + 1 + 1) (by simp)
  have R2 := hb1.block (w.heap.size + 1) (by simp)
  have R1 := hb1.block w.heap.size (by simp; omega)
  rw [alloc3_2] at R3
  rw [alloc3_1] at R2
  rw [alloc3_0s] at R1
  have HB1 : Hid (Below w.heap.size w w1) := ((((Below.refl _ _).alloc (Nat.le_refl _) _).alloc (by simp) _).alloc (by simp; omega) _).trans (hb1.mono (by simp; omega))
  have hs1 : w.heap.size + 1 + 1 + 1 < w1.heap.size := by have := blk_lt hk1.1.choose_spec.1; simpa using this
  simp only [World.size_alloc] at hk1
  have HK1 : Hid _ := hk1
  clear hk1 hb1 CC
  have c3 := blk_cell R3 0
  have f3 := blk_free R3 0
  have S3 := blk_set R3 0 (.slice (some ⟨w.heap.size + 1 + 1 + 1, 0, none⟩) vs.length vs.length)
  have S2 := (Below.heap_setCell w1 ⟨w.heap.size + 1 + 1, 0, none⟩ (.slice (some ⟨w.heap.size + 1 + 1 + 1, 0, none⟩) vs.length vs.length) (w.heap.size + 1) (by simp)).trans R2
  have S1 := (Below.heap_setCell w1 ⟨w.heap.size + 1 + 1, 0, none⟩ (.slice (some ⟨w.heap.size + 1 + 1 + 1, 0, none⟩) vs.length vs.length) w.heap.size (by simp; omega)).trans R1
  have a1 := blk_cell S1 1
  simp at c3 a1
  have HS3 : Hid _ := S3
  have HS2 : Hid _ := S2
  have HS1 : Hid _ := S1
  have HB2 : Hid (Below w.heap.size w (w1.setCell ⟨w.heap.size + 1 + 1, 0, none⟩ (.slice (some ⟨w.heap.size + 1 + 1 + 1, 0, none⟩) vs.length vs.length))) := HB1.out.setCell (by show _ ≤ w.heap.size + 1 + 1; omega) _
  have HK2 : Hid (VrCopy (w1.setCell ⟨w.heap.size + 1 + 1, 0, none⟩ (.slice (some ⟨w.heap.size + 1 + 1 + 1, 0, none⟩) vs.length vs.length)) (w.heap.size + 1 + 1 + 1) vs.length vs vs.length) := VrCopy.setFar HK1.out _ _ (by show w.heap.size + 1 + 1 < _; omega)
  have hs2 : w.heap.size + 1 + 1 + 1 < (w1.setCell ⟨w.heap.size + 1 + 1, 0, none⟩ (.slice (some ⟨w.heap.size + 1 + 1 + 1, 0, none⟩) vs.length vs.length)).heap.size := by simpa [World.setCell] using hs1
  clear S1 S2 S3 R1 R2 R3
  go_wp2_with fail
  refine (CR.out _ HB2.out).mono ?_
  generalize w1.setCell ⟨w.heap.size + 1 + 1, 0, none⟩ (.slice (some ⟨w.heap.size + 1 + 1 + 1, 0, none⟩) vs.length vs.length) = w2 at *
  rintro e w3 ⟨rfl, hb3, hk3⟩
  have R3 := (hb3.block (w.heap.size + 1 + 1) (by omega)).trans HS3.out
  have R2 := (hb3.block (w.heap.size + 1) (by omega)).trans HS2.out
  have R1 := (hb3.block w.heap.size (by omega)).trans HS1.out
  have HB3 : Hid (Below w.heap.size w w3) := HB2.out.trans (hb3.mono (by omega))
  have HN3 : Hid (VrCopy w3 (w.heap.size + 1 + 1 + 1) vs.length vs vs.length) := HK2.out.keep hb3
  have HR3 : Hid (ClCopy w3 w2.heap.size cs.length cs cs.length) := hk3
  clear hk3 hb3 HK2 HS3 HS2 HS1 HB2 HK1 HB1 CR c3 f3 a1
  obtain ⟨G, hG⟩ : ∃ G, G = w2.heap.size := ⟨_, rfl⟩
  rw [← hG] at HR3 hs2 ⊢
  clear hG
  simp only [List.setIfInBounds_toArray, List.set_cons_zero] at R3
  have d0 := blk_cell R3 0
  have d1 := blk_cell R3 1
  have d2 := blk_cell R3 2
  have f1 := blk_free R3 1
  have f2 := blk_free R3 2
  have a2 := blk_cell R1 2
  have b0 := blk_cell R2 0
  have b1 := blk_cell R2 1
  have b2 := blk_cell R2 2
  have g0 := blk_free R2 0
  have g1 := blk_free R2 1
  have g2 := blk_free R2 2
  simp only [List.getElem?_toArray, List.getElem?_cons_zero, List.getElem?_cons_succ] at d0 d1 d2 a2 b0 b1 b2
  have HT2 : Hid _ := R2
  clear R1 R2 R3
  go_wp2_with fail
  have K : ∀ (W : World) (j : Nat) (u : Value) {X : Option Obj}, W.heap[w.heap.size + 1]? = X → (W.setCell ⟨w.heap.size + 1 + 1, j, none⟩ u).heap[w.heap.size + 1]? = X := fun W j u X e => (Below.heap_setCell _ _ _ _ (by show w.heap.size + 1 ≠ w.heap.size + 1 + 1; omega)).trans e
  have Q := blk_set (blk_set (blk_set (K _ 2 (.string o) (K _ 1 (.slice (some ⟨G, 0, none⟩) cs.length cs.length) HT2.out)) 0 (.slice (some ⟨w.heap.size + 1 + 1 + 1, 0, none⟩) vs.length vs.length)) 1 (.slice (some ⟨G, 0, none⟩) cs.length cs.length)) 2 (.string o)
  refine bodyPost_ret (results_cell_row (p := 2) (ty := 32) rfl _ _ (w.heap.size + 1) 32 _ (0, 0) _ rfl Q Try.underlying32 rfl (by kernel_rfl)) rfl ?_
  refine ⟨_, rfl, ?_, w.heap.size + 1 + 1 + 1, G, rfl, by omega, by omega, by omega, ?_, ?_⟩
  · exact (((((HB3.out.setCell (by show _ ≤ w.heap.size + 1 + 1; omega) _).setCell (by show _ ≤ w.heap.size + 1 + 1; omega) _).setCell (by show _ ≤ w.heap.size + 1; omega) _).setCell (by show _ ≤ w.heap.size + 1; omega) _).setCell (by show _ ≤ w.heap.size + 1; omega) _)
  · exact (((((HN3.out.setFar _ _ (by show w.heap.size + 1 + 1 < _; omega)).setFar _ _ (by show w.heap.size + 1 + 1 < _; omega)).setFar _ _ (by show w.heap.size + 1 < _; omega)).setFar _ _ (by show w.heap.size + 1 < _; omega)).setFar _ _ (by show w.heap.size + 1 < _; omega))
  · exact (((((HR3.out.setFar _ _ (by show w.heap.size + 1 + 1 < _; omega)).setFar _ _ (by show w.heap.size + 1 + 1 < _; omega)).setFar _ _ (by show w.heap.size + 1 < _; omega)).setFar _ _ (by show w.heap.size + 1 < _; omega)).setFar _ _ (by show w.heap.size + 1 < _; omega))

open Go.ChangeShapes Go.WideShapes Go.ChangeAt Go.Deep in
set_option maxRecDepth 100000 in
theorem storeOpen {H : Type} {enc : TypeId × Value → H} {W : World} {base : Nat} {v : Value} {d : DataW H} {p : List MemPlace} (hval : Value.okWide Try.prog W .any base 25 v)
    (h : DataW.Trod enc Try.prog W 0 (fun _ => true) true 25 v d p) : ∃ (s r : Value) (o : ByteArray) (vs : List Vr) (cs : List Cl), v = .agg #[s, r, .string o] ∧ VrAt W s vs ∧ ClAt W r cs ∧ StFit vs cs o := by
  obtain ⟨cs, rfl, hsz⟩ := okWide_struct Try.underlying25 hval
  have hC : Try.prog.cellsOf 25 = 3 := by kernel_rfl
  rw [hC] at hsz
  obtain ⟨l⟩ := cs
  match l, hsz with
  | [s, r, u2], _ =>
    obtain ⟨fuel, hf⟩ := h
    obtain ⟨ys, n, _, _, _, hxl, hff⟩ := DataW.trod_struct Try.underlying25 hf
    match ys, hxl with
    | [y0, y1, y2], _ =>
      have g0 := hff 0 _ rfl
      have g1 := hff 1 _ rfl
      have g2 := hff 2 _ rfl
      have c1 : Try.prog.cellsOf 22 = 1 := by kernel_rfl
      have c2 : Try.prog.cellsOf 23 = 1 := by kernel_rfl
      have c3 : Try.prog.cellsOf 9 = 1 := by kernel_rfl
      simp [Value.cells, c1, c2, c3] at g0 g1 g2
      obtain ⟨vs, h1, h2, h3, h3b⟩ := VrOpen g0
      obtain ⟨cs, h4, h5, h6, h6b, h6c⟩ := ClOpen g1
      obtain ⟨o2, e2, _, t2⟩ := DataW.trod_string Try.underlying9 g2
      simp at e2
      subst e2
      exact ⟨s, r, o2, vs, cs, rfl, h1, h4, ⟨h2, fun i hi => ⟨h3 i hi, h3b i hi⟩⟩, ⟨h5, fun i hi => ⟨h6 i hi, h6b i hi, h6c i hi⟩⟩, t2⟩
end Go.Proofs.Ytbaoadfnmicijaa
