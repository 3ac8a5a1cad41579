/- A store in memory: how great it is, the law's own copy of it, two of the same, what is handed in. Plain facts: the tokens of a text. Plain facts: when code is right. -/
import Derived.Test.YtlpdjmjbppmibaaGreatMPJoStV
import Derived.Test.YtlpdjmjbppmibaaGreatMPJoStC
import Derived.Test.YtlpdjmjbppmibaaGreatMPJoZab
import Derived.Test.YtlpdjmjbppmibaaGreatMPJoZaa
namespace Go.Proofs.YtlpdjmjbppmibaaGreat
section PartStS
open Go.RowKit

theorem s2_1 (w : World) (A B : Obj) : ((w.alloc A).alloc B).heap[w.heap.size + 1]? = some B := by
  show ((w.heap.push A).push B)[w.heap.size + 1]? = some B
  rw [Array.getElem?_push]
  simp
theorem s2_0 (w : World) (A B : Obj) : ((w.alloc A).alloc B).heap[w.heap.size]? = some A := by
  show ((w.heap.push A).push B)[w.heap.size]? = some A
  rw [Array.getElem?_push, if_neg (by simp), Array.getElem?_push]
  simp
theorem alloc3_0s (w : World) (A B C : Obj) : (((w.alloc A).alloc B).alloc C).heap[w.heap.size]? = some A := by
  show (((w.heap.push A).push B).push C)[w.heap.size]? = some A
  rw [Array.getElem?_push, if_neg (by simp; omega), Array.getElem?_push, if_neg (by simp), Array.getElem?_push]
  simp
/-- A store as it is handed in: its rows may be read. -/
def StFit (vs : List Vr) (cs : List Cl) (o : ByteArray) : Prop :=
  (vs.length ≤ maxLen ∧ ∀ i, i < vs.length → (vs.getD i Vr.no).name.size ≤ maxLen ∧ (vs.getD i Vr.no).val.size ≤ maxLen) ∧
  (cs.length ≤ maxLen ∧ ∀ i, i < cs.length → (cs.getD i Cl.no).name.size ≤ maxLen ∧ (cs.getD i Cl.no).key.size ≤ maxLen ∧ (cs.getD i Cl.no).val.size ≤ maxLen) ∧ o.size ≤ maxLen
/-- A store that is not great. -/
def StSmall (vs : List Vr) (cs : List Cl) (o : ByteArray) : Prop :=
  vs.length ≤ 1048576 ∧ VrSmall vs vs.length ∧ cs.length ≤ 1048576 ∧ ClSmall cs cs.length ∧ o.size ≤ 1048576

set_option maxHeartbeats 800000 in
theorem szStore_any (v rv : Value) (o : ByteArray) (vs : List Vr) (cs : List Cl) (l : Int) (w : World) (h : VrAt w v vs) (hr : ClAt w rv cs) (hl0 : 0 ≤ l) (hl : l ≤ 1048576) (hf : StFit vs cs o) :
    Calls Tryz.prog 15 #[.agg #[v, rv, .string o], .int .i64 l] w fun e w' => Below w.heap.size w w' ∧ ∃ r : Int, e = .returned (.int .i64 r) ∧ (r = -1 ∨ 0 ≤ r ∧ r ≤ l ∧ StSmall vs cs o) := by
  have HB : Hid (Below w.heap.size w (w.alloc (.cells #[v, rv, .string o] 29))) := (Below.refl _ _).alloc (Nat.le_refl _) _
  have CC : Hid (∀ W, Below w.heap.size w W → Calls Tryz.prog 46 #[v, .int .i64 l] W fun e w' => Below W.heap.size W w' ∧ ∃ r : Int, e = .returned (.int .i64 r) ∧ (r = -1 ∨ 0 ≤ r ∧ r ≤ l ∧ vs.length ≤ 1048576 ∧ VrSmall vs vs.length)) :=
    fun W hb => szVrs_any v vs l _ (h.keep hb) hl0 hl hf.1.1 hf.1.2
  have CR : Hid (∀ W (r : Int), Below w.heap.size w W → 0 ≤ r → r ≤ l → Calls Tryz.prog 47 #[rv, .int .i64 r] W fun e w' => Below W.heap.size W w' ∧ ∃ r' : Int, e = .returned (.int .i64 r') ∧ (r' = -1 ∨ 0 ≤ r' ∧ r' ≤ r ∧ cs.length ≤ 1048576 ∧ ClSmall cs cs.length)) :=
    fun W r hb h0 h1 => szCls_any rv cs r W (hr.keep hb) h0 (by omega) hf.2.1.1 hf.2.1.2
  have ho := hf.2.2
  unfold maxLen at ho
  obtain ⟨ad, c, rfl, _⟩ := h
  obtain ⟨ra, rc, rfl, _⟩ := hr
  go_enter Tryz.func15, Tryz.ntmps15
  go_wp2_with fail
  refine (CC.out _ HB.out).mono ?_
  rintro e w1 ⟨hb1, r1, rfl, hr⟩
  have hb2 := HB.out.trans (hb1.mono (by simp))
  have c1 : w1.cell? ⟨w.heap.size, 1, none⟩ = some (.slice ra cs.length rc) := (hb1.cell (by simp)).trans (by simp)
  have c2 : w1.cell? ⟨w.heap.size, 2, none⟩ = some (.string o) := (hb1.cell (by simp)).trans (by simp)
  have hz : w.heap.size < w1.heap.size := World.block_lt_of_cell? w1 _ c1
  rcases hr with rfl | ⟨h3, h4, h5⟩
  · go_wp2
    go_ret
    exact ⟨hb2, -1, rfl, .inl rfl⟩
  · have d2 : decide (r1 < 0) = false := by simp; omega
    have H5 : Hid (vs.length ≤ 1048576 ∧ VrSmall vs vs.length) := h5
    clear h5 hb1
    go_wp2_with fail
    refine (CR.out _ _ hb2 h3 h4).mono ?_
    rintro e w2 ⟨hb3, r2, rfl, hr⟩
    have c3 : w2.cell? ⟨w.heap.size, 2, none⟩ = some (.string o) := (hb3.cell (by exact hz)).trans c2
    have HB4 : Hid (Below w.heap.size w w2) := hb2.trans (hb3.mono (by omega))
    clear hb3 c1 c2
    rcases hr with rfl | ⟨h6, h7, h8⟩
    · go_wp2
      go_ret
      exact ⟨HB4.out, -1, rfl, .inl rfl⟩
    · have d3 : decide (r2 < 0) = false := by simp; omega
      have H8 : Hid (cs.length ≤ 1048576 ∧ ClSmall cs cs.length) := h8
      clear h8
      by_cases hq : r2 - (o.size : Int) < 0
      · have d4 : decide (r2 - (o.size : Int) < 0) = true := by simpa using hq
        go_wp2
        go_ret
        exact ⟨HB4.out, -1, rfl, .inl rfl⟩
      · have d4 : decide (r2 - (o.size : Int) < 0) = false := by simpa using hq
        go_wp2
        go_ret
        exact ⟨HB4.out, _, rfl, .inr ⟨by omega, by omega, H5.out.1, H5.out.2, H8.out.1, H8.out.2, by omega⟩⟩

set_option maxHeartbeats 800000 in
theorem eqStore_any (v1 r1 v2 r2 : Value) (o : ByteArray) (vs : List Vr) (cs : List Cl) (w : World) (h1 : VrAt w v1 vs) (g1 : ClAt w r1 cs) (h2 : VrAt w v2 vs) (g2 : ClAt w r2 cs) (hl : vs.length ≤ 1048576) (hlr : cs.length ≤ 1048576) :
    Calls Tryz.prog 27 #[.agg #[v1, r1, .string o], .agg #[v2, r2, .string o]] w fun e w' => e = .returned (.bool true) ∧ Below w.heap.size w w' := by
  have CC : Hid (∀ w', Below w.heap.size w w' → Calls Tryz.prog 62 #[v1, v2] w' fun e w'' => e = .returned (.bool true) ∧ Below w'.heap.size w' w'') := fun w' hb => eqVrs_any v1 v2 vs w' (h1.keep hb) (h2.keep hb) hl
  have CR : Hid (∀ w', Below w.heap.size w w' → Calls Tryz.prog 63 #[r1, r2] w' fun e w'' => e = .returned (.bool true) ∧ Below w'.heap.size w' w'') := fun w' hb => eqCls_any r1 r2 cs w' (g1.keep hb) (g2.keep hb) hlr
  obtain ⟨a1, c1, rfl, -⟩ := h1
  obtain ⟨a2, c2, rfl, -⟩ := h2
  obtain ⟨d1, e1, rfl, -⟩ := g1
  obtain ⟨d2, e2, rfl, -⟩ := g2
  have HB : Hid (Below w.heap.size w ((w.alloc (.cells #[.slice a1 vs.length c1, .slice d1 cs.length e1, .string o] 40)).alloc (.cells #[.slice a2 vs.length c2, .slice d2 cs.length e2, .string o] 40))) := ((Below.refl _ _).alloc (Nat.le_refl _) _).alloc (by simp) _
  have R0 := s2_0 w (.cells #[.slice a1 vs.length c1, .slice d1 cs.length e1, .string o] 40) (.cells #[.slice a2 vs.length c2, .slice d2 cs.length e2, .string o] 40)
  have R1 := s2_1 w (.cells #[.slice a1 vs.length c1, .slice d1 cs.length e1, .string o] 40) (.cells #[.slice a2 vs.length c2, .slice d2 cs.length e2, .string o] 40)
  have hz : w.heap.size + 2 ≤ ((w.alloc (.cells #[.slice a1 vs.length c1, .slice d1 cs.length e1, .string o] 40)).alloc (.cells #[.slice a2 vs.length c2, .slice d2 cs.length e2, .string o] 40)).heap.size := by simp
  have HR : Hid _ := And.intro R0 R1
  clear R0 R1
  go_enter Tryz.func27, Tryz.ntmps27
  go_wp2_with fail
  generalize (w.alloc (.cells #[.slice a1 vs.length c1, .slice d1 cs.length e1, .string o] 40)).alloc (.cells #[.slice a2 vs.length c2, .slice d2 cs.length e2, .string o] 40) = W at *
  refine (CC.out _ HB.out).mono ?_
  rintro e w1 ⟨rfl, hb1⟩
  have x1 := blk_cell ((hb1.block w.heap.size (by omega)).trans HR.out.1) 1
  have x2 := blk_cell ((hb1.block (w.heap.size + 1) (by omega)).trans HR.out.2) 1
  simp only [List.getElem?_toArray, List.getElem?_cons_zero, List.getElem?_cons_succ] at x1 x2
  have HB1 : Hid (Below w.heap.size w w1) := HB.out.trans (hb1.mono HB.out.size)
  have HW1 : Hid (Below W.heap.size W w1) := hb1
  clear hb1 CC
  go_wp2_with fail
  refine (CR.out _ HB1.out).mono ?_
  rintro e w2 ⟨rfl, hb2⟩
  have HW2 : Hid (Below W.heap.size W w2) := HW1.out.trans (hb2.mono HW1.out.size)
  have R0 := (HW2.out.block w.heap.size (by omega)).trans HR.out.1
  have R1 := (HW2.out.block (w.heap.size + 1) (by omega)).trans HR.out.2
  have y2 := blk_cell R0 2
  have z2 := blk_cell R1 2
  simp only [List.getElem?_toArray, List.getElem?_cons_zero, List.getElem?_cons_succ] at y2 z2
  have HB2 : Hid (Below w.heap.size w w2) := HB1.out.trans (hb2.mono HB1.out.size)
  clear hb2 CR x1 x2 R0 R1 HW1 HW2 HR
  go_wp2
  go_ret
  exact ⟨rfl, HB2.out⟩

/-- The law's own copy of a store. -/
def StCopy (w : World) (v : Value) (B : Nat) (vs : List Vr) (cs : List Cl) (o : ByteArray) : Prop := ∃ g h, v = .agg #[.slice (some ⟨g, 0, none⟩) vs.length vs.length, .slice (some ⟨h, 0, none⟩) cs.length cs.length, .string o] ∧ B ≤ g ∧ B ≤ h ∧ g < h ∧ VrCopy w g vs.length vs vs.length ∧ ClCopy w h cs.length cs cs.length

set_option maxRecDepth 100000 in
set_option maxHeartbeats 4000000 in
theorem toStore_any (v rv : Value) (o : ByteArray) (vs : List Vr) (cs : List Cl) (w : World) (h : VrAt w v vs) (hr : ClAt w rv cs) (hk : vs.length ≤ 1048576) (hkr : cs.length ≤ 1048576) :
    Calls Tryz.prog 21 #[.agg #[v, rv, .string o]] w fun e w' => ∃ u, e = .returned u ∧ Below w.heap.size w w' ∧ StCopy w' u w.heap.size vs cs o := by
  have CC : Hid (∀ w' : World, Below w.heap.size w w' → Calls Tryz.prog 53 #[v] w' fun e w'' => e = .returned (.slice (some ⟨w'.heap.size, 0, none⟩) vs.length vs.length) ∧ Below w'.heap.size w' w'' ∧ VrCopy w'' w'.heap.size vs.length vs vs.length) :=
    fun w' hb => toVrs_any v vs w' (h.keep hb) hk
  have CR : Hid (∀ w' : World, Below w.heap.size w w' → Calls Tryz.prog 54 #[rv] w' fun e w'' => e = .returned (.slice (some ⟨w'.heap.size, 0, none⟩) cs.length cs.length) ∧ Below w'.heap.size w' w'' ∧ ClCopy w'' w'.heap.size cs.length cs cs.length) :=
    fun w' hb => toCls_any rv cs w' (hr.keep hb) hkr
  obtain ⟨ad, c, rfl, _⟩ := h
  obtain ⟨ra, rc, rfl, _⟩ := hr
  go_enter Tryz.func21, Tryz.ntmps21
  go_wp2_with fail
  refine (CC.out _ ((((Below.refl _ _).alloc (Nat.le_refl _) _).alloc (by simp) _).alloc (by simp; omega) _)).mono ?_
  rintro e w1 ⟨rfl, hb1, hk1⟩
  have R3 := hb1.block (w.heap.size + 1 + 1) (by simp)
  have R2 := hb1.block (w.heap.size + 1) (by simp)
  have R1 := hb1.block w.heap.size (by simp; omega)
  rw [alloc3_2] at R3
  rw [alloc3_1] at R2
  rw [alloc3_0s] at R1
  have HB1 : Hid (Below w.heap.size w w1) := ((((Below.refl _ _).alloc (Nat.le_refl _) _).alloc (by simp) _).alloc (by simp; omega) _).trans (hb1.mono (by simp; omega))
  have hs1 : w.heap.size + 1 + 1 + 1 < w1.heap.size := by have := blk_lt hk1.1.choose_spec.1; simpa using this
  simp only [World.size_alloc] at hk1
  have HK1 : Hid _ := hk1
  clear hk1 hb1 CC
  have c3 := blk_cell R3 0
  have f3 := blk_free R3 0
  have S3 := blk_set R3 0 (.slice (some ⟨w.heap.size + 1 + 1 + 1, 0, none⟩) vs.length vs.length)
  have S2 := (Below.heap_setCell w1 ⟨w.heap.size + 1 + 1, 0, none⟩ (.slice (some ⟨w.heap.size + 1 + 1 + 1, 0, none⟩) vs.length vs.length) (w.heap.size + 1) (by simp)).trans R2
  have S1 := (Below.heap_setCell w1 ⟨w.heap.size + 1 + 1, 0, none⟩ (.slice (some ⟨w.heap.size + 1 + 1 + 1, 0, none⟩) vs.length vs.length) w.heap.size (by simp; omega)).trans R1
  have a1 := blk_cell S1 1
  simp at c3 a1
  have HS3 : Hid _ := S3
  have HS2 : Hid _ := S2
  have HS1 : Hid _ := S1
  have HB2 : Hid (Below w.heap.size w (w1.setCell ⟨w.heap.size + 1 + 1, 0, none⟩ (.slice (some ⟨w.heap.size + 1 + 1 + 1, 0, none⟩) vs.length vs.length))) := HB1.out.setCell (by show _ ≤ w.heap.size + 1 + 1; omega) _
  have HK2 : Hid (VrCopy (w1.setCell ⟨w.heap.size + 1 + 1, 0, none⟩ (.slice (some ⟨w.heap.size + 1 + 1 + 1, 0, none⟩) vs.length vs.length)) (w.heap.size + 1 + 1 + 1) vs.length vs vs.length) := VrCopy.setFar HK1.out _ _ (by show w.heap.size + 1 + 1 < _; omega)
  have hs2 : w.heap.size + 1 + 1 + 1 < (w1.setCell ⟨w.heap.size + 1 + 1, 0, none⟩ (.slice (some ⟨w.heap.size + 1 + 1 + 1, 0, none⟩) vs.length vs.length)).heap.size := by simpa [World.setCell] using hs1
  clear S1 S2 S3 R1 R2 R3
  go_wp2_with fail
  refine (CR.out _ HB2.out).mono ?_
  generalize w1.setCell ⟨w.heap.size + 1 + 1, 0, none⟩ (.slice (some ⟨w.heap.size + 1 + 1 + 1, 0, none⟩) vs.length vs.length) = w2 at *
  rintro e w3 ⟨rfl, hb3, hk3⟩
  have R3 := (hb3.block (w.heap.size + 1 + 1) (by omega)).trans HS3.out
  have R2 := (hb3.block (w.heap.size + 1) (by omega)).trans HS2.out
  have R1 := (hb3.block w.heap.size (by omega)).trans HS1.out
  have HB3 : Hid (Below w.heap.size w w3) := HB2.out.trans (hb3.mono (by omega))
  have HN3 : Hid (VrCopy w3 (w.heap.size + 1 + 1 + 1) vs.length vs vs.length) := HK2.out.keep hb3
  have HR3 : Hid (ClCopy w3 w2.heap.size cs.length cs cs.length) := hk3
  clear hk3 hb3 HK2 HS3 HS2 HS1 HB2 HK1 HB1 CR c3 f3 a1
  obtain ⟨G, hG⟩ : ∃ G, G = w2.heap.size := ⟨_, rfl⟩
  rw [← hG] at HR3 hs2 ⊢
  clear hG
  simp only [List.setIfInBounds_toArray, List.set_cons_zero] at R3
  have d0 := blk_cell R3 0
  have d1 := blk_cell R3 1
  have d2 := blk_cell R3 2
  have f1 := blk_free R3 1
  have f2 := blk_free R3 2
  have a2 := blk_cell R1 2
  have b0 := blk_cell R2 0
  have b1 := blk_cell R2 1
  have b2 := blk_cell R2 2
  have g0 := blk_free R2 0
  have g1 := blk_free R2 1
  have g2 := blk_free R2 2
  simp only [List.getElem?_toArray, List.getElem?_cons_zero, List.getElem?_cons_succ] at d0 d1 d2 a2 b0 b1 b2
  have HT2 : Hid _ := R2
  clear R1 R2 R3
  go_wp2_with fail
  have K : ∀ (W : World) (j : Nat) (u : Value) {X : Option Obj}, W.heap[w.heap.size + 1]? = X → (W.setCell ⟨w.heap.size + 1 + 1, j, none⟩ u).heap[w.heap.size + 1]? = X := fun W j u X e => (Below.heap_setCell _ _ _ _ (by show w.heap.size + 1 ≠ w.heap.size + 1 + 1; omega)).trans e
  have Q := blk_set (blk_set (blk_set (K _ 2 (.string o) (K _ 1 (.slice (some ⟨G, 0, none⟩) cs.length cs.length) HT2.out)) 0 (.slice (some ⟨w.heap.size + 1 + 1 + 1, 0, none⟩) vs.length vs.length)) 1 (.slice (some ⟨G, 0, none⟩) cs.length cs.length)) 2 (.string o)
  refine bodyPost_ret (results_cell_row (p := 2) (ty := 40) rfl _ _ (w.heap.size + 1) 40 _ (0, 0) _ rfl Q Tryz.underlying40 rfl (by kernel_rfl)) rfl ?_
  refine ⟨_, rfl, ?_, w.heap.size + 1 + 1 + 1, G, rfl, by omega, by omega, by omega, ?_, ?_⟩
  · exact (((((HB3.out.setCell (by show _ ≤ w.heap.size + 1 + 1; omega) _).setCell (by show _ ≤ w.heap.size + 1 + 1; omega) _).setCell (by show _ ≤ w.heap.size + 1; omega) _).setCell (by show _ ≤ w.heap.size + 1; omega) _).setCell (by show _ ≤ w.heap.size + 1; omega) _)
  · exact (((((HN3.out.setFar _ _ (by show w.heap.size + 1 + 1 < _; omega)).setFar _ _ (by show w.heap.size + 1 + 1 < _; omega)).setFar _ _ (by show w.heap.size + 1 < _; omega)).setFar _ _ (by show w.heap.size + 1 < _; omega)).setFar _ _ (by show w.heap.size + 1 < _; omega))
  · exact (((((HR3.out.setFar _ _ (by show w.heap.size + 1 + 1 < _; omega)).setFar _ _ (by show w.heap.size + 1 + 1 < _; omega)).setFar _ _ (by show w.heap.size + 1 < _; omega)).setFar _ _ (by show w.heap.size + 1 < _; omega)).setFar _ _ (by show w.heap.size + 1 < _; omega))

end PartStS
section PartTkP
namespace Tk

/-- A token: its kind and its text. -/
structure Tok where
  kind : Nat
  text : List UInt8
def no : Tok := ⟨0, []⟩
def letter (b : UInt8) : Bool := (decide (97 ≤ b.toNat) && decide (b.toNat ≤ 122)) || (decide (65 ≤ b.toNat) && decide (b.toNat ≤ 90))
/-- The first place from i on whose byte is not so, or the end. -/
def run (p : UInt8 → Bool) (l : List UInt8) (i : Nat) : Nat := i + ((l.drop i).takeWhile p).length
theorem run_end (p : UInt8 → Bool) {l : List UInt8} {i : Nat} (h : l.length ≤ i) : run p l i = i := by
  unfold run
  rw [List.drop_eq_nil_of_le h]
  rfl
theorem run_step {p : UInt8 → Bool} {l : List UInt8} {i : Nat} (h : i < l.length) (hp : p l[i] = true) : run p l i = run p l (i + 1) := by
  unfold run
  rw [List.drop_eq_getElem_cons h, List.takeWhile_cons_of_pos hp]
  simp
  omega
theorem run_stop {p : UInt8 → Bool} {l : List UInt8} {i : Nat} (h : i < l.length) (hp : p l[i] = false) : run p l i = i := by
  unfold run
  rw [List.drop_eq_getElem_cons h, List.takeWhile_cons_of_neg (by simp [hp])]
  rfl
/-- What stands from a up to b. -/
def cut (l : List UInt8) (a b : Nat) : List UInt8 := (l.drop a).take (b - a)
def signs : List UInt8 := [123, 125, 40, 41, 91, 93, 36, 126, 60, 43, 45, 42, 37, 46, 44, 61]
end Tk
end PartTkP
section PartCdP
namespace Cd

/-- 1 to 8 letters. -/
def nm (t : List UInt8) : Bool := t.all Tk.letter && decide (1 ≤ t.length ∧ t.length ≤ 8)
def text (ts : List ByteArray) (a : Int) : ByteArray := ts.getD a.toNat ByteArray.empty
/-- Is the arg of an instruction at a place right? -/
def arg (ts : List ByteArray) (x : Ins) (a : Int) (to : Int) : Bool :=
  if x.op = 1 then decide (x.arg < (ts.length : Int))
  else if x.op = 15 then decide (x.arg < (ts.length : Int)) && (Pp.read (text ts x.arg).data.toList).isSome
  else if x.op = 2 ∨ x.op = 3 ∨ x.op = 17 ∨ x.op = 18 ∨ x.op = 19 ∨ x.op = 20 ∨ x.op = 24 then decide (x.arg < (ts.length : Int)) && nm (text ts x.arg).data.toList
  else if x.op = 16 then decide (1 ≤ x.arg ∧ x.arg ≤ 4)
  else if x.op = 21 ∨ x.op = 22 then decide (a < x.arg) && decide (x.arg ≤ to)
  else decide (x.arg = 0)
def ins (ts : List ByteArray) (x : Ins) (a : Int) (to : Int) : Bool := decide (1 ≤ x.op ∧ x.op ≤ 24) && decide (0 ≤ x.arg ∧ x.arg ≤ 255) && arg ts x a to
/-- How many it takes, and how many it puts. -/
def needs (x : Ins) : Int × Int :=
  if x.op = 1 ∨ x.op = 2 ∨ x.op = 5 ∨ x.op = 6 then (0, 1)
  else if x.op = 3 ∨ x.op = 4 ∨ x.op = 7 ∨ x.op = 15 then (1, 1)
  else if x.op = 8 ∨ x.op = 9 ∨ x.op = 10 ∨ x.op = 11 ∨ x.op = 12 ∨ x.op = 13 ∨ x.op = 14 then (2, 1)
  else if x.op = 16 then (x.arg, 0)
  else if x.op = 17 ∨ x.op = 18 ∨ x.op = 21 then (1, 0)
  else if x.op = 19 ∨ x.op = 20 then (2, 0)
  else (0, 0)
/-- Where it goes on. -/
def next (x : Ins) (a : Nat) : List Nat := (if x.op = 23 ∨ x.op = 22 then [] else [a + 1]) ++ (if x.op = 21 ∨ x.op = 22 then [x.arg.toNat] else [])
/-- The height n is told of each of these places, unless one has another. -/
def mark (hs : List Int) (n : Int) : List Nat → Option (List Int)
  | [] => some hs
  | k :: ks => if 0 ≤ hs.getD k (-1) ∧ hs.getD k (-1) ≠ n then none else mark (hs.set k n) n ks
/-- The specification's round. -/
def loopS (ts : List ByteArray) (xs : List Ins) (to : Nat) : Nat → Nat → List Int → Bool
  | 0, _, hs => decide (hs.getD to (-1) ≤ 0)
  | f + 1, a, hs =>
    if ins ts (xs.getD a Ins.no) (a : Int) (to : Int) = false then false
    else if hs.getD a (-1) < 0 then loopS ts xs to f (a + 1) hs
    else if hs.getD a (-1) < (needs (xs.getD a Ins.no)).1 ∨ 20 < hs.getD a (-1) - (needs (xs.getD a Ins.no)).1 + (needs (xs.getD a Ins.no)).2 then false
    else match mark hs (hs.getD a (-1) - (needs (xs.getD a Ins.no)).1 + (needs (xs.getD a Ins.no)).2) (next (xs.getD a Ins.no) a) with
      | none => false
      | some hs' => loopS ts xs to f (a + 1) hs'
/-- The program's round. -/
def loopI (xs : List Ins) (to : Nat) : Nat → Nat → List Int → Bool
  | 0, _, hs => decide (hs.getD to (-1) = -1 ∨ hs.getD to (-1) = 0)
  | f + 1, a, hs =>
    if hs.getD a (-1) = -1 then loopI xs to f (a + 1) hs
    else if hs.getD a (-1) < (needs (xs.getD a Ins.no)).1 ∨ 20 < hs.getD a (-1) then false
    else match mark hs (hs.getD a (-1) - (needs (xs.getD a Ins.no)).1 + (needs (xs.getD a Ins.no)).2) (next (xs.getD a Ins.no) a) with
      | none => false
      | some hs' => loopI xs to f (a + 1) hs'
/-- Is each instruction right? -/
def allI (ts : List ByteArray) (xs : List Ins) (to : Nat) : Nat → Nat → Bool
  | 0, _ => true
  | f + 1, a => ins ts (xs.getD a Ins.no) (a : Int) (to : Int) && allI ts xs to f (a + 1)
def start (fr to : Nat) : List Int := (List.replicate (to + 1) (-1 : Int)).set fr 0
def part (ts : List ByteArray) (xs : List Ins) (fr to : Nat) : Bool := loopS ts xs to (to - fr) fr (start fr to)
def partI (ts : List ByteArray) (xs : List Ins) (fr to : Nat) : Bool := allI ts xs to (to - fr) fr && loopI xs to (to - fr) fr (start fr to)
/-- Is code right? -/
def ok (ts : List ByteArray) (xs : List Ins) (bg ln en : Int) : Bool :=
  ts.all (fun t => decide (t.size ≤ 30)) && (decide (ts.length ≤ 60) && (decide (xs.length ≤ 250) && (decide (bg = 0) && (decide (0 ≤ ln ∧ ln ≤ (xs.length : Int)) && (decide (ln ≤ en ∧ en ≤ (xs.length : Int)) &&
  (part ts xs 0 ln.toNat && (part ts xs ln.toNat en.toNat && part ts xs en.toNat xs.length)))))))

theorem getD_set (hs : List Int) (k j : Nat) (n : Int) : (hs.set k n).getD j (-1) = if j = k ∧ k < hs.length then n else hs.getD j (-1) := by
  simp only [List.getD_eq_getElem?_getD, List.getElem?_set]
  by_cases h : k = j
  · subst h
    by_cases h2 : k < hs.length
    · simp [h2]
    · simp [h2]
  · have : ¬ j = k := fun e => h e.symm
    simp [h, this]
theorem mark_len {n : Int} : ∀ {ks : List Nat} {hs hs' : List Int}, mark hs n ks = some hs' → hs'.length = hs.length
  | [], hs, hs', h => by simp [mark] at h; rw [h]
  | k :: ks, hs, hs', h => by
    simp only [mark] at h
    split at h
    · cases h
    · have := mark_len h
      simpa using this
theorem mark_keep {n : Int} : ∀ {ks : List Nat} {hs hs' : List Int} {j : Nat}, mark hs n ks = some hs' → 0 ≤ hs.getD j (-1) → hs'.getD j (-1) = hs.getD j (-1)
  | [], hs, hs', j, h, _ => by simp [mark] at h; rw [h]
  | k :: ks, hs, hs', j, h, hj => by
    simp only [mark] at h
    split at h
    · cases h
    · rename_i hne
      have e : (hs.set k n).getD j (-1) = hs.getD j (-1) := by
        rw [getD_set]
        by_cases hk : j = k ∧ k < hs.length
        · rw [if_pos hk]
          obtain ⟨rfl, _⟩ := hk
          by_cases e2 : hs.getD j (-1) = n
          · exact e2.symm
          · exact absurd ⟨hj, e2⟩ hne
        · rw [if_neg hk]
      have := mark_keep h (j := j) (by rw [e]; exact hj)
      rw [this, e]
/-- All heights are within. -/
def Inv (hs : List Int) (lo hi : Int) : Prop := ∀ j, lo ≤ hs.getD j (-1) ∧ hs.getD j (-1) ≤ hi
theorem Inv.set {hs : List Int} {lo hi n : Int} (h : Inv hs lo hi) (h1 : lo ≤ n) (h2 : n ≤ hi) (k : Nat) : Inv (hs.set k n) lo hi := by
  intro j
  rw [getD_set]
  split
  · exact ⟨h1, h2⟩
  · exact h j
theorem Inv.mark {lo hi n : Int} (h1 : lo ≤ n) (h2 : n ≤ hi) : ∀ {ks : List Nat} {hs hs' : List Int}, Inv hs lo hi → Cd.mark hs n ks = some hs' → Inv hs' lo hi
  | [], hs, hs', h, e => by simp [Cd.mark] at e; rw [← e]; exact h
  | k :: ks, hs, hs', h, e => by
    simp only [Cd.mark] at e
    split at e
    · cases e
    · exact Inv.mark h1 h2 (h.set h1 h2 k) e

theorem big_no (xs : List Ins) (to : Nat) : ∀ (f a : Nat) (hs : List Int), a + f = to → (∃ k, a ≤ k ∧ k ≤ to ∧ 20 < hs.getD k (-1)) → loopI xs to f a hs = false
  | 0, a, hs, h, ⟨k, h1, h2, h3⟩ => by
    obtain rfl : k = to := by omega
    simp only [loopI]
    exact decide_eq_false (by omega)
  | f + 1, a, hs, h, ⟨k, h1, h2, h3⟩ => by
    simp only [loopI]
    by_cases hm : hs.getD a (-1) = -1
    · rw [if_pos hm]
      have hne : k ≠ a := fun e => by rw [e] at h3; omega
      exact big_no xs to f (a + 1) hs (by omega) ⟨k, by omega, h2, h3⟩
    · rw [if_neg hm]
      split
      · rfl
      · rename_i hno
        split
        · rfl
        · rename_i hs' hmk
          have hne : k ≠ a := fun e => by rw [e] at h3; omega
          exact big_no xs to f (a + 1) hs' (by omega) ⟨k, by omega, h2, by rw [mark_keep hmk (by omega)]; exact h3⟩

theorem needs_ok {ts : List ByteArray} {x : Ins} {a to : Int} (h : ins ts x a to = true) : 0 ≤ (needs x).1 ∧ (needs x).1 ≤ 4 ∧ 0 ≤ (needs x).2 ∧ (needs x).2 ≤ 1 ∧ ((needs x).1 < (needs x).2 → x.op = 1 ∨ x.op = 2 ∨ x.op = 5 ∨ x.op = 6) := by
  have h4 : x.op = 16 → 1 ≤ x.arg ∧ x.arg ≤ 4 := by
    intro e
    unfold ins arg at h
    simp [e] at h
    omega
  unfold needs
  repeat' split
  all_goals first | (simp; done) | (simp; omega) | (simp only; omega)
/-- Jumps go on, within their part. -/
theorem next_ok {ts : List ByteArray} {x : Ins} {a to : Nat} (h : ins ts x (a : Int) (to : Int) = true) (ha : a < to) : ∀ k ∈ next x a, a < k ∧ k ≤ to := by
  have h4 : x.op = 21 ∨ x.op = 22 → (a : Int) < x.arg ∧ x.arg ≤ (to : Int) := by
    intro e
    unfold ins arg at h
    rcases e with e | e <;> simp [e] at h <;> omega
  intro k hk
  unfold next at hk
  simp only [List.mem_append] at hk
  rcases hk with hk | hk
  · split at hk
    · cases hk
    · simp at hk; omega
  · split at hk
    · rename_i hop
      have := h4 hop
      simp at hk
      omega
    · cases hk

theorem loop_same (ts : List ByteArray) (xs : List Ins) (to : Nat) : ∀ (f a : Nat) (hs : List Int), a + f = to → hs.length = to + 1 → Inv hs (-1) 20 → loopS ts xs to f a hs = (allI ts xs to f a && loopI xs to f a hs)
  | 0, a, hs, h, hl, hi => by
    simp only [loopS, loopI, allI, Bool.true_and]
    have := hi to
    rw [decide_eq_decide]
    omega
  | f + 1, a, hs, h, hl, hi => by
    simp only [loopS, loopI, allI]
    cases hin : ins ts (xs.getD a Ins.no) (a : Int) (to : Int)
    · simp
    · have hia := hi a
      obtain ⟨q1, q2, q3, q4, q5⟩ := needs_ok hin
      simp only [Bool.true_and, Bool.true_eq_false, ↓reduceIte]
      by_cases hm : hs.getD a (-1) < 0
      · rw [if_pos hm, if_pos (by omega)]
        exact loop_same ts xs to f (a + 1) hs (by omega) hl hi
      · rw [if_neg hm, if_neg (show ¬ hs.getD a (-1) = -1 by omega)]
        by_cases ht : hs.getD a (-1) < (needs (xs.getD a Ins.no)).1
        · rw [if_pos (.inl ht), if_pos (.inl ht)]
          simp
        · by_cases hb : 20 < hs.getD a (-1) - (needs (xs.getD a Ins.no)).1 + (needs (xs.getD a Ins.no)).2
          · rw [if_pos (.inr hb), if_neg (by omega)]
            have hop := q5 (by omega)
            have hnx : next (xs.getD a Ins.no) a = [a + 1] := by
              unfold next
              rw [if_neg (by omega), if_neg (by omega)]
              rfl
            rw [hnx]
            have : (match mark hs (hs.getD a (-1) - (needs (xs.getD a Ins.no)).1 + (needs (xs.getD a Ins.no)).2) [a + 1] with
              | none => false
              | some hs' => loopI xs to f (a + 1) hs') = false := by
              split
              · rfl
              · rename_i hs' hmk
                simp only [mark] at hmk
                split at hmk
                · cases hmk
                · simp only [Option.some.injEq] at hmk
                  refine big_no xs to f (a + 1) hs' (by omega) ⟨a + 1, by omega, by omega, ?_⟩
                  rw [← hmk, getD_set, if_pos ⟨rfl, by omega⟩]
                  exact hb
            rw [this, Bool.and_false]
          · rw [if_neg (by omega), if_neg (by omega)]
            cases hmk : mark hs (hs.getD a (-1) - (needs (xs.getD a Ins.no)).1 + (needs (xs.getD a Ins.no)).2) (next (xs.getD a Ins.no) a) with
            | none => simp
            | some hs' =>
              exact loop_same ts xs to f (a + 1) hs' (by omega) (by rw [mark_len hmk]; exact hl) (Inv.mark (by omega) (by omega) hi hmk)
theorem start_len (fr to : Nat) : (start fr to).length = to + 1 := by simp [start]
theorem start_inv (fr to : Nat) : Inv (start fr to) (-1) 20 := by
  unfold start
  refine Inv.set ?_ (by omega) (by omega) fr
  intro j
  rw [List.getD_eq_getElem?_getD, List.getElem?_replicate]
  split <;> simp
theorem part_same (ts : List ByteArray) (xs : List Ins) (fr to : Nat) (h : fr ≤ to) : part ts xs fr to = partI ts xs fr to :=
  loop_same ts xs to (to - fr) fr _ (by omega) (start_len fr to) (start_inv fr to)
end Cd
end PartCdP
end Go.Proofs.YtlpdjmjbppmibaaGreat
