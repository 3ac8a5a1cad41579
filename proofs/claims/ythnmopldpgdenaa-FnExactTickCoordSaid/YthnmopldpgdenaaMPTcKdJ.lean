/- The law's own copy of who gives and gathers. -/
import Derived.Test.YthnmopldpgdenaaMPTcZav
namespace Go.Proofs.Ythnmopldpgdenaa
open Go.RowKit

theorem setB5 {W : World} {g : Nat} {t : TypeId} {u0 u1 u2 u3 u4 : Value} (h : W.heap[g]? = some (.cells #[u0, u1, u2, u3, u4] t (0, 0))) (v0 v1 v2 v3 v4 : Value) : (((((W.setCell ⟨g, 0, none⟩ v0).setCell ⟨g, 1, none⟩ v1).setCell ⟨g, 2, none⟩ v2).setCell ⟨g, 3, none⟩ v3).setCell ⟨g, 4, none⟩ v4).heap[g]? = some (.cells #[v0, v1, v2, v3, v4] t (0, 0)) := by
  have h0 : (W.setCell ⟨g, 0, none⟩ v0).heap[g]? = some (.cells #[v0, u1, u2, u3, u4] t (0, 0)) := blk_set h 0 v0
  have h1 : ((W.setCell ⟨g, 0, none⟩ v0).setCell ⟨g, 1, none⟩ v1).heap[g]? = some (.cells #[v0, v1, u2, u3, u4] t (0, 0)) := blk_set h0 1 v1
  have h2 : (((W.setCell ⟨g, 0, none⟩ v0).setCell ⟨g, 1, none⟩ v1).setCell ⟨g, 2, none⟩ v2).heap[g]? = some (.cells #[v0, v1, v2, u3, u4] t (0, 0)) := blk_set h1 2 v2
  have h3 : ((((W.setCell ⟨g, 0, none⟩ v0).setCell ⟨g, 1, none⟩ v1).setCell ⟨g, 2, none⟩ v2).setCell ⟨g, 3, none⟩ v3).heap[g]? = some (.cells #[v0, v1, v2, v3, u4] t (0, 0)) := blk_set h2 3 v3
  have h4 : (((((W.setCell ⟨g, 0, none⟩ v0).setCell ⟨g, 1, none⟩ v1).setCell ⟨g, 2, none⟩ v2).setCell ⟨g, 3, none⟩ v3).setCell ⟨g, 4, none⟩ v4).heap[g]? = some (.cells #[v0, v1, v2, v3, v4] t (0, 0)) := blk_set h3 4 v4
  exact h4
theorem belowB5 {lo : Nat} {w W : World} {g : Nat} (h : Below lo w W) (hg : lo ≤ g) (v0 v1 v2 v3 v4 : Value) : Below lo w (((((W.setCell ⟨g, 0, none⟩ v0).setCell ⟨g, 1, none⟩ v1).setCell ⟨g, 2, none⟩ v2).setCell ⟨g, 3, none⟩ v3).setCell ⟨g, 4, none⟩ v4) :=
  (((((h.setCell (by exact hg) _).setCell (by exact hg) _).setCell (by exact hg) _).setCell (by exact hg) _).setCell (by exact hg) _)
theorem othB5 {W : World} {g : Nat} (v0 v1 v2 v3 v4 : Value) (q : Nat) (hq : q ≠ g) : (((((W.setCell ⟨g, 0, none⟩ v0).setCell ⟨g, 1, none⟩ v1).setCell ⟨g, 2, none⟩ v2).setCell ⟨g, 3, none⟩ v3).setCell ⟨g, 4, none⟩ v4).heap[q]? = W.heap[q]? := by
  rw [Below.heap_setCell _ _ _ _ hq, Below.heap_setCell _ _ _ _ hq, Below.heap_setCell _ _ _ _ hq, Below.heap_setCell _ _ _ _ hq, Below.heap_setCell _ _ _ _ hq]
theorem sizeB5 {W : World} {g : Nat} (v0 v1 v2 v3 v4 : Value) : (((((W.setCell ⟨g, 0, none⟩ v0).setCell ⟨g, 1, none⟩ v1).setCell ⟨g, 2, none⟩ v2).setCell ⟨g, 3, none⟩ v3).setCell ⟨g, 4, none⟩ v4).heap.size = W.heap.size := by simp [World.setCell]

theorem rowSetB {B : Nat} {w W : World} (h : Below B w W) (g : Nat) (cs : Array Value) (hg : B ≤ g) : Below B w (W.setRow g cs) :=
  ⟨h.os, h.tape, h.output, by simpa using h.size, fun k hk => (setRow_other W g k cs (by omega)).trans (h.block k hk)⟩
theorem wpList_store17 {ops : Array Oper} {rest : List Oper} {o : Oper} {a : Act} {w : World} {Q : Exit → Act → World → Prop} (hgd : o.guard = none) (ty : TypeId) (x y : Operand) (ho : o.op = .store ty x y)
    (g : Nat) (cells : Array Value) (hx : a.eval x = .pointer (some ⟨g, 0, none⟩)) (hy : a.eval y = .agg cells)
    (t : TypeId) (old : Array Value) (hg : w.heap[g]? = some (.cells old t (0, 0))) (hi : (Try.prog.info? ty).map (·.size) = some cells.size)
    (hold : old.size = cells.size) (h1 : cells.all (·.oneCell') = true)
    (h : wpList Try.prog ops Q rest (a.put o.dst undef) (w.setRow g cells)) : wpList Try.prog ops Q (o :: rest) a w :=
  wpList_plain hgd fun _ hK => wp_store_row ty x y ho g cells hx hy t old hg hi hold h1 (hK _ _ h)
theorem toInIn (v : Value) (xs : List Ins) (w : World) (h : InsAt w v xs) (hk : xs.length ≤ 1048576) :
    Calls Try.prog 39 #[v] w fun e w' => ∃ ad c, e = .returned (.slice ad xs.length c) ∧ Below w.heap.size w w' ∧ InIn w.heap.size w'.heap.size w' (.slice ad xs.length c) xs :=
  (toInss_any v xs w h hk).mono fun _ _ hh => ⟨_, _, hh.1, hh.2.1, hh.2.2.in (Nat.le_refl _) (blk_lt hh.2.2.1.choose_spec.1) _⟩

set_option maxHeartbeats 4000000 in
set_option maxRecDepth 100000 in
theorem toCodeIn (v rv : Value) (bg ln en : Int) (ts : List ByteArray) (xs : List Ins) (w : World) (h : TsAt w v ts) (hr : InsAt w rv xs) (hk : ts.length ≤ 1048576) (hkr : xs.length ≤ 1048576) :
    Calls Try.prog 16 #[.agg #[v, rv, .int .i64 bg, .int .i64 ln, .int .i64 en]] w fun e w' => ∃ ta tc la lc m, e = .returned (.agg #[.slice ta ts.length tc, .slice la xs.length lc, .int .i64 bg, .int .i64 ln, .int .i64 en]) ∧ Below w.heap.size w w' ∧ w.heap.size ≤ m ∧ m ≤ w'.heap.size ∧ TxIn w.heap.size m w' (.slice ta ts.length tc) ts ∧ InIn m w'.heap.size w' (.slice la xs.length lc) xs := by
  have C1 := hidOfT (fun (W : World) (hb : Below w.heap.size w W) => toTsIn v ts W (h.keep hb) hk)
  have C2 := hidOfT (fun (W : World) (hb : Below w.heap.size w W) => toInIn rv xs W (hr.keep hb) hkr)
  obtain ⟨ta, tc, rfl, -⟩ := h
  obtain ⟨la, lc, rfl, -⟩ := hr
  have HB : Hid (Below w.heap.size w (((w.alloc (.cells #[.slice ta ts.length tc, .slice la xs.length lc, .int .i64 bg, .int .i64 ln, .int .i64 en] 25)).alloc (.cells #[.slice none 0 0, .slice none 0 0, .int .i64 0, .int .i64 0, .int .i64 0] 36)).alloc (.cells #[.slice none 0 0, .slice none 0 0, .int .i64 0, .int .i64 0, .int .i64 0] 36))) := ((((Below.refl _ _).alloc (Nat.le_refl _) _).alloc (by simp) _).alloc (by simp; omega) _)
  have HA : Hid ((((w.alloc (.cells #[.slice ta ts.length tc, .slice la xs.length lc, .int .i64 bg, .int .i64 ln, .int .i64 en] 25)).alloc (.cells #[.slice none 0 0, .slice none 0 0, .int .i64 0, .int .i64 0, .int .i64 0] 36)).alloc (.cells #[.slice none 0 0, .slice none 0 0, .int .i64 0, .int .i64 0, .int .i64 0] 36)).heap[w.heap.size]? = some (.cells #[.slice ta ts.length tc, .slice la xs.length lc, .int .i64 bg, .int .i64 ln, .int .i64 en] 25 (0, 0))) := alloc3_0c _ _ _ _
  have HZ : Hid ((((w.alloc (.cells #[.slice ta ts.length tc, .slice la xs.length lc, .int .i64 bg, .int .i64 ln, .int .i64 en] 25)).alloc (.cells #[.slice none 0 0, .slice none 0 0, .int .i64 0, .int .i64 0, .int .i64 0] 36)).alloc (.cells #[.slice none 0 0, .slice none 0 0, .int .i64 0, .int .i64 0, .int .i64 0] 36)).heap[w.heap.size + 1]? = some (.cells #[.slice none 0 0, .slice none 0 0, .int .i64 0, .int .i64 0, .int .i64 0] 36 (0, 0))) := alloc3_1 _ _ _ _
  have HO : Hid ((((w.alloc (.cells #[.slice ta ts.length tc, .slice la xs.length lc, .int .i64 bg, .int .i64 ln, .int .i64 en] 25)).alloc (.cells #[.slice none 0 0, .slice none 0 0, .int .i64 0, .int .i64 0, .int .i64 0] 36)).alloc (.cells #[.slice none 0 0, .slice none 0 0, .int .i64 0, .int .i64 0, .int .i64 0] 36)).heap[w.heap.size + 1 + 1]? = some (.cells #[.slice none 0 0, .slice none 0 0, .int .i64 0, .int .i64 0, .int .i64 0] 36 (0, 0))) := alloc3_2 _ _ _ _
  obtain ⟨n0, hn0⟩ : ∃ n, n = (((w.alloc (.cells #[.slice ta ts.length tc, .slice la xs.length lc, .int .i64 bg, .int .i64 ln, .int .i64 en] 25)).alloc (.cells #[.slice none 0 0, .slice none 0 0, .int .i64 0, .int .i64 0, .int .i64 0] 36)).alloc (.cells #[.slice none 0 0, .slice none 0 0, .int .i64 0, .int .i64 0, .int .i64 0] 36)).heap.size := ⟨_, rfl⟩
  have HN0 : Hid ((((w.alloc (.cells #[.slice ta ts.length tc, .slice la xs.length lc, .int .i64 bg, .int .i64 ln, .int .i64 en] 25)).alloc (.cells #[.slice none 0 0, .slice none 0 0, .int .i64 0, .int .i64 0, .int .i64 0] 36)).alloc (.cells #[.slice none 0 0, .slice none 0 0, .int .i64 0, .int .i64 0, .int .i64 0] 36)).heap.size = n0 ∧ n0 = w.heap.size + 3) := ⟨hn0.symm, by rw [hn0]; simp⟩
  clear hn0
  go_enter Try.func16, Try.ntmps16
  go_wp2_with fail
  generalize (((w.alloc (.cells #[.slice ta ts.length tc, .slice la xs.length lc, .int .i64 bg, .int .i64 ln, .int .i64 en] 25)).alloc (.cells #[.slice none 0 0, .slice none 0 0, .int .i64 0, .int .i64 0, .int .i64 0] 36)).alloc (.cells #[.slice none 0 0, .slice none 0 0, .int .i64 0, .int .i64 0, .int .i64 0] 36)) = X0 at *
  refine (C1.out _ HB.out).mono ?_
  rintro e w1 ⟨tb, td, rfl, hb, hr⟩
  have HAy := hidOfT ((hb.block _ (blk_lt HA.out)).trans HA.out)
  have HZy := hidOfT ((hb.block _ (blk_lt HZ.out)).trans HZ.out)
  have HOy := hidOfT ((hb.block _ (blk_lt HO.out)).trans HO.out)
  have HBy := hidOfT (HB.out.trans (hb.mono HB.out.size))
  obtain ⟨n1, hn1⟩ : ∃ n, n = w1.heap.size := ⟨_, rfl⟩
  have HN1 : Hid (w1.heap.size = n1 ∧ n0 ≤ n1) := ⟨hn1.symm, by have := hb.size; have := HN0.out; omega⟩
  have PTy : Hid (TxIn n0 n1 w1 (.slice tb ts.length td) ts) := by rw [HN0.out.1, ← hn1] at hr; exact hr
  clear hn1 hb HB HA HZ HO  hr C1
  have cA1 := (blk_cell HAy.out 1).trans rfl
  have cA2 := (blk_cell HAy.out 2).trans rfl
  have cA3 := (blk_cell HAy.out 3).trans rfl
  have cA4 := (blk_cell HAy.out 4).trans rfl
  have cO0 := (blk_cell HOy.out 0).trans rfl
  have fO0 := blk_free HOy.out 0
  have gA0 : ((w1).setCell ⟨w.heap.size + 1 + 1, 0, none⟩ (.slice tb ts.length td)).heap[w.heap.size]? = some (.cells #[.slice ta ts.length tc, .slice la xs.length lc, .int .i64 bg, .int .i64 ln, .int .i64 en] 25 (0, 0)) := (Below.heap_setCell _ _ _ _ (by show w.heap.size ≠ w.heap.size + 1 + 1; omega)).trans HAy.out
  have gZ0 : ((w1).setCell ⟨w.heap.size + 1 + 1, 0, none⟩ (.slice tb ts.length td)).heap[w.heap.size + 1]? = some (.cells #[.slice none 0 0, .slice none 0 0, .int .i64 0, .int .i64 0, .int .i64 0] 36 (0, 0)) := (Below.heap_setCell _ _ _ _ (by show w.heap.size + 1 ≠ w.heap.size + 1 + 1; omega)).trans HZy.out
  have gO0 : ((w1).setCell ⟨w.heap.size + 1 + 1, 0, none⟩ (.slice tb ts.length td)).heap[w.heap.size + 1 + 1]? = some (.cells #[(.slice tb ts.length td), .slice none 0 0, .int .i64 0, .int .i64 0, .int .i64 0] 36 (0, 0)) := blk_set HOy.out 0 _
  have OT : ∀ q, n0 ≤ q → (w1.setCell ⟨w.heap.size + 1 + 1, 0, none⟩ (.slice tb ts.length td)).heap[q]? = w1.heap[q]? := by
    intro q hq
    have := HN0.out.2
    rw [Below.heap_setCell _ _ _ _ (by show q ≠ w.heap.size + 1 + 1; omega)]
  have HAx := hidOfT gA0
  have HZx := hidOfT gZ0
  have HOx := hidOfT gO0
  have HBx : Hid (Below w.heap.size w (w1.setCell ⟨w.heap.size + 1 + 1, 0, none⟩ (.slice tb ts.length td))) := (HBy.out.setCell (by show w.heap.size ≤ w.heap.size + 1 + 1; omega) (.slice tb ts.length td))
  have HN1x : Hid ((w1.setCell ⟨w.heap.size + 1 + 1, 0, none⟩ (.slice tb ts.length td)).heap.size = n1 ∧ n0 ≤ n1) := ⟨by have := HN1.out.1; simpa [World.setCell] using this, HN1.out.2⟩
  have PTx : Hid (TxIn n0 n1 (w1.setCell ⟨w.heap.size + 1 + 1, 0, none⟩ (.slice tb ts.length td)) (.slice tb ts.length td) ts) := PTy.out.keep (fun q q1 q2 => OT q (by have := HN0.out; have := HN1.out; omega))
  clear OT gA0 gZ0 gO0 HN1 HBy HAy HZy HOy PTy
  go_wp2_with fail
  generalize (w1.setCell ⟨w.heap.size + 1 + 1, 0, none⟩ (.slice tb ts.length td)) = X1 at *
  clear cA1 cA2 cA3 cA4 cO0 fO0
  have HA := hidOfT HAx.out
  have HZ := hidOfT HZx.out
  have HO := hidOfT HOx.out
  have HB := hidOfT HBx.out
  have HN1 := hidOfT HN1x.out
  have PT := hidOfT PTx.out
  clear HAx HZx HOx HBx HN1x PTx
  refine (C2.out _ HB.out).mono ?_
  rintro e w2 ⟨lb, ld, rfl, hb, hr⟩
  have HAy := hidOfT ((hb.block _ (blk_lt HA.out)).trans HA.out)
  have HZy := hidOfT ((hb.block _ (blk_lt HZ.out)).trans HZ.out)
  have HOy := hidOfT ((hb.block _ (blk_lt HO.out)).trans HO.out)
  have HBy := hidOfT (HB.out.trans (hb.mono HB.out.size))
  obtain ⟨n2, hn2⟩ : ∃ n, n = w2.heap.size := ⟨_, rfl⟩
  have HN2 : Hid (w2.heap.size = n2 ∧ n1 ≤ n2) := ⟨hn2.symm, by have := hb.size; have := HN1.out; omega⟩
  have PTy : Hid (TxIn n0 n1 w2 (.slice tb ts.length td) ts) := PT.out.keep (fun q q1 q2 => hb.block q (by have := HN0.out; have := HN1.out; omega))
  have PIy : Hid (InIn n1 n2 w2 (.slice lb xs.length ld) xs) := by rw [HN1.out.1, ← hn2] at hr; exact hr
  clear hn2 hb HB HA HZ HO PT hr C2
  have cA2 := (blk_cell HAy.out 2).trans rfl
  have cA3 := (blk_cell HAy.out 3).trans rfl
  have cA4 := (blk_cell HAy.out 4).trans rfl
  have cO0 := (blk_cell HOy.out 0).trans rfl
  have cO1 := (blk_cell HOy.out 1).trans rfl
  have cO2 := (blk_cell HOy.out 2).trans rfl
  have cO3 := (blk_cell HOy.out 3).trans rfl
  have cO4 := (blk_cell HOy.out 4).trans rfl
  have fO1 := blk_free HOy.out 1
  have fO2 := blk_free HOy.out 2
  have fO3 := blk_free HOy.out 3
  have fO4 := blk_free HOy.out 4
  have gA0 : ((w2).setCell ⟨w.heap.size + 1 + 1, 1, none⟩ (.slice lb xs.length ld)).heap[w.heap.size]? = some (.cells #[.slice ta ts.length tc, .slice la xs.length lc, .int .i64 bg, .int .i64 ln, .int .i64 en] 25 (0, 0)) := (Below.heap_setCell _ _ _ _ (by show w.heap.size ≠ w.heap.size + 1 + 1; omega)).trans HAy.out
  have gZ0 : ((w2).setCell ⟨w.heap.size + 1 + 1, 1, none⟩ (.slice lb xs.length ld)).heap[w.heap.size + 1]? = some (.cells #[.slice none 0 0, .slice none 0 0, .int .i64 0, .int .i64 0, .int .i64 0] 36 (0, 0)) := (Below.heap_setCell _ _ _ _ (by show w.heap.size + 1 ≠ w.heap.size + 1 + 1; omega)).trans HZy.out
  have gO0 : ((w2).setCell ⟨w.heap.size + 1 + 1, 1, none⟩ (.slice lb xs.length ld)).heap[w.heap.size + 1 + 1]? = some (.cells #[(.slice tb ts.length td), (.slice lb xs.length ld), .int .i64 0, .int .i64 0, .int .i64 0] 36 (0, 0)) := blk_set HOy.out 1 _
  have gA1 : (((w2.setCell ⟨w.heap.size + 1 + 1, 1, none⟩ (.slice lb xs.length ld))).setCell ⟨w.heap.size + 1 + 1, 2, none⟩ (.int .i64 bg)).heap[w.heap.size]? = some (.cells #[.slice ta ts.length tc, .slice la xs.length lc, .int .i64 bg, .int .i64 ln, .int .i64 en] 25 (0, 0)) := (Below.heap_setCell _ _ _ _ (by show w.heap.size ≠ w.heap.size + 1 + 1; omega)).trans gA0
  have gZ1 : (((w2.setCell ⟨w.heap.size + 1 + 1, 1, none⟩ (.slice lb xs.length ld))).setCell ⟨w.heap.size + 1 + 1, 2, none⟩ (.int .i64 bg)).heap[w.heap.size + 1]? = some (.cells #[.slice none 0 0, .slice none 0 0, .int .i64 0, .int .i64 0, .int .i64 0] 36 (0, 0)) := (Below.heap_setCell _ _ _ _ (by show w.heap.size + 1 ≠ w.heap.size + 1 + 1; omega)).trans gZ0
  have gO1 : (((w2.setCell ⟨w.heap.size + 1 + 1, 1, none⟩ (.slice lb xs.length ld))).setCell ⟨w.heap.size + 1 + 1, 2, none⟩ (.int .i64 bg)).heap[w.heap.size + 1 + 1]? = some (.cells #[(.slice tb ts.length td), (.slice lb xs.length ld), (.int .i64 bg), .int .i64 0, .int .i64 0] 36 (0, 0)) := blk_set gO0 2 _
  have gA2 : ((((w2.setCell ⟨w.heap.size + 1 + 1, 1, none⟩ (.slice lb xs.length ld)).setCell ⟨w.heap.size + 1 + 1, 2, none⟩ (.int .i64 bg))).setCell ⟨w.heap.size + 1 + 1, 3, none⟩ (.int .i64 ln)).heap[w.heap.size]? = some (.cells #[.slice ta ts.length tc, .slice la xs.length lc, .int .i64 bg, .int .i64 ln, .int .i64 en] 25 (0, 0)) := (Below.heap_setCell _ _ _ _ (by show w.heap.size ≠ w.heap.size + 1 + 1; omega)).trans gA1
  have gZ2 : ((((w2.setCell ⟨w.heap.size + 1 + 1, 1, none⟩ (.slice lb xs.length ld)).setCell ⟨w.heap.size + 1 + 1, 2, none⟩ (.int .i64 bg))).setCell ⟨w.heap.size + 1 + 1, 3, none⟩ (.int .i64 ln)).heap[w.heap.size + 1]? = some (.cells #[.slice none 0 0, .slice none 0 0, .int .i64 0, .int .i64 0, .int .i64 0] 36 (0, 0)) := (Below.heap_setCell _ _ _ _ (by show w.heap.size + 1 ≠ w.heap.size + 1 + 1; omega)).trans gZ1
  have gO2 : ((((w2.setCell ⟨w.heap.size + 1 + 1, 1, none⟩ (.slice lb xs.length ld)).setCell ⟨w.heap.size + 1 + 1, 2, none⟩ (.int .i64 bg))).setCell ⟨w.heap.size + 1 + 1, 3, none⟩ (.int .i64 ln)).heap[w.heap.size + 1 + 1]? = some (.cells #[(.slice tb ts.length td), (.slice lb xs.length ld), (.int .i64 bg), (.int .i64 ln), .int .i64 0] 36 (0, 0)) := blk_set gO1 3 _
  have gA3 : (((((w2.setCell ⟨w.heap.size + 1 + 1, 1, none⟩ (.slice lb xs.length ld)).setCell ⟨w.heap.size + 1 + 1, 2, none⟩ (.int .i64 bg)).setCell ⟨w.heap.size + 1 + 1, 3, none⟩ (.int .i64 ln))).setCell ⟨w.heap.size + 1 + 1, 4, none⟩ (.int .i64 en)).heap[w.heap.size]? = some (.cells #[.slice ta ts.length tc, .slice la xs.length lc, .int .i64 bg, .int .i64 ln, .int .i64 en] 25 (0, 0)) := (Below.heap_setCell _ _ _ _ (by show w.heap.size ≠ w.heap.size + 1 + 1; omega)).trans gA2
  have gZ3 : (((((w2.setCell ⟨w.heap.size + 1 + 1, 1, none⟩ (.slice lb xs.length ld)).setCell ⟨w.heap.size + 1 + 1, 2, none⟩ (.int .i64 bg)).setCell ⟨w.heap.size + 1 + 1, 3, none⟩ (.int .i64 ln))).setCell ⟨w.heap.size + 1 + 1, 4, none⟩ (.int .i64 en)).heap[w.heap.size + 1]? = some (.cells #[.slice none 0 0, .slice none 0 0, .int .i64 0, .int .i64 0, .int .i64 0] 36 (0, 0)) := (Below.heap_setCell _ _ _ _ (by show w.heap.size + 1 ≠ w.heap.size + 1 + 1; omega)).trans gZ2
  have gO3 : (((((w2.setCell ⟨w.heap.size + 1 + 1, 1, none⟩ (.slice lb xs.length ld)).setCell ⟨w.heap.size + 1 + 1, 2, none⟩ (.int .i64 bg)).setCell ⟨w.heap.size + 1 + 1, 3, none⟩ (.int .i64 ln))).setCell ⟨w.heap.size + 1 + 1, 4, none⟩ (.int .i64 en)).heap[w.heap.size + 1 + 1]? = some (.cells #[(.slice tb ts.length td), (.slice lb xs.length ld), (.int .i64 bg), (.int .i64 ln), (.int .i64 en)] 36 (0, 0)) := blk_set gO2 4 _
  have OT : ∀ q, n0 ≤ q → ((((w2.setCell ⟨w.heap.size + 1 + 1, 1, none⟩ (.slice lb xs.length ld)).setCell ⟨w.heap.size + 1 + 1, 2, none⟩ (.int .i64 bg)).setCell ⟨w.heap.size + 1 + 1, 3, none⟩ (.int .i64 ln)).setCell ⟨w.heap.size + 1 + 1, 4, none⟩ (.int .i64 en)).heap[q]? = w2.heap[q]? := by
    intro q hq
    have := HN0.out.2
    rw [Below.heap_setCell _ _ _ _ (by show q ≠ w.heap.size + 1 + 1; omega), Below.heap_setCell _ _ _ _ (by show q ≠ w.heap.size + 1 + 1; omega), Below.heap_setCell _ _ _ _ (by show q ≠ w.heap.size + 1 + 1; omega), Below.heap_setCell _ _ _ _ (by show q ≠ w.heap.size + 1 + 1; omega)]
  have HAx := hidOfT gA3
  have HZx := hidOfT gZ3
  have HOx := hidOfT gO3
  have HBx : Hid (Below w.heap.size w ((((w2.setCell ⟨w.heap.size + 1 + 1, 1, none⟩ (.slice lb xs.length ld)).setCell ⟨w.heap.size + 1 + 1, 2, none⟩ (.int .i64 bg)).setCell ⟨w.heap.size + 1 + 1, 3, none⟩ (.int .i64 ln)).setCell ⟨w.heap.size + 1 + 1, 4, none⟩ (.int .i64 en))) := ((((HBy.out.setCell (by show w.heap.size ≤ w.heap.size + 1 + 1; omega) (.slice lb xs.length ld)).setCell (by show w.heap.size ≤ w.heap.size + 1 + 1; omega) (.int .i64 bg)).setCell (by show w.heap.size ≤ w.heap.size + 1 + 1; omega) (.int .i64 ln)).setCell (by show w.heap.size ≤ w.heap.size + 1 + 1; omega) (.int .i64 en))
  have HN2x : Hid (((((w2.setCell ⟨w.heap.size + 1 + 1, 1, none⟩ (.slice lb xs.length ld)).setCell ⟨w.heap.size + 1 + 1, 2, none⟩ (.int .i64 bg)).setCell ⟨w.heap.size + 1 + 1, 3, none⟩ (.int .i64 ln)).setCell ⟨w.heap.size + 1 + 1, 4, none⟩ (.int .i64 en)).heap.size = n2 ∧ n1 ≤ n2) := ⟨by have := HN2.out.1; simpa [World.setCell] using this, HN2.out.2⟩
  have PTx : Hid (TxIn n0 n1 ((((w2.setCell ⟨w.heap.size + 1 + 1, 1, none⟩ (.slice lb xs.length ld)).setCell ⟨w.heap.size + 1 + 1, 2, none⟩ (.int .i64 bg)).setCell ⟨w.heap.size + 1 + 1, 3, none⟩ (.int .i64 ln)).setCell ⟨w.heap.size + 1 + 1, 4, none⟩ (.int .i64 en)) (.slice tb ts.length td) ts) := PTy.out.keep (fun q q1 q2 => OT q (by have := HN0.out; have := HN1.out; have := HN2.out; omega))
  have PIx : Hid (InIn n1 n2 ((((w2.setCell ⟨w.heap.size + 1 + 1, 1, none⟩ (.slice lb xs.length ld)).setCell ⟨w.heap.size + 1 + 1, 2, none⟩ (.int .i64 bg)).setCell ⟨w.heap.size + 1 + 1, 3, none⟩ (.int .i64 ln)).setCell ⟨w.heap.size + 1 + 1, 4, none⟩ (.int .i64 en)) (.slice lb xs.length ld) xs) := PIy.out.keep (fun q q1 q2 => OT q (by have := HN0.out; have := HN1.out; have := HN2.out; omega))
  have HRf := hidOfT (show (((((((((w2.setCell ⟨w.heap.size + 1 + 1, 1, none⟩ (.slice lb xs.length ld)).setCell ⟨w.heap.size + 1 + 1, 2, none⟩ (.int .i64 bg)).setCell ⟨w.heap.size + 1 + 1, 3, none⟩ (.int .i64 ln)).setCell ⟨w.heap.size + 1 + 1, 4, none⟩ (.int .i64 en)).setCell ⟨w.heap.size + 1, 0, none⟩ (.slice tb ts.length td)).setCell ⟨w.heap.size + 1, 1, none⟩ (.slice lb xs.length ld)).setCell ⟨w.heap.size + 1, 2, none⟩ (.int .i64 bg)).setCell ⟨w.heap.size + 1, 3, none⟩ (.int .i64 ln)).setCell ⟨w.heap.size + 1, 4, none⟩ (.int .i64 en)).heap[w.heap.size + 1]? = some (.cells #[.slice tb ts.length td, .slice lb xs.length ld, .int .i64 bg, .int .i64 ln, .int .i64 en] 36 (0, 0)) from setB5 HZx.out (.slice tb ts.length td) (.slice lb xs.length ld) (.int .i64 bg) (.int .i64 ln) (.int .i64 en))
  have HBf : Hid (Below w.heap.size w (((((((((w2.setCell ⟨w.heap.size + 1 + 1, 1, none⟩ (.slice lb xs.length ld)).setCell ⟨w.heap.size + 1 + 1, 2, none⟩ (.int .i64 bg)).setCell ⟨w.heap.size + 1 + 1, 3, none⟩ (.int .i64 ln)).setCell ⟨w.heap.size + 1 + 1, 4, none⟩ (.int .i64 en)).setCell ⟨w.heap.size + 1, 0, none⟩ (.slice tb ts.length td)).setCell ⟨w.heap.size + 1, 1, none⟩ (.slice lb xs.length ld)).setCell ⟨w.heap.size + 1, 2, none⟩ (.int .i64 bg)).setCell ⟨w.heap.size + 1, 3, none⟩ (.int .i64 ln)).setCell ⟨w.heap.size + 1, 4, none⟩ (.int .i64 en))) := belowB5 HBx.out (by omega) (.slice tb ts.length td) (.slice lb xs.length ld) (.int .i64 bg) (.int .i64 ln) (.int .i64 en)
  have HOf := hidOfT (fun (q : Nat) (hq : n0 ≤ q) => (show (((((((((w2.setCell ⟨w.heap.size + 1 + 1, 1, none⟩ (.slice lb xs.length ld)).setCell ⟨w.heap.size + 1 + 1, 2, none⟩ (.int .i64 bg)).setCell ⟨w.heap.size + 1 + 1, 3, none⟩ (.int .i64 ln)).setCell ⟨w.heap.size + 1 + 1, 4, none⟩ (.int .i64 en)).setCell ⟨w.heap.size + 1, 0, none⟩ (.slice tb ts.length td)).setCell ⟨w.heap.size + 1, 1, none⟩ (.slice lb xs.length ld)).setCell ⟨w.heap.size + 1, 2, none⟩ (.int .i64 bg)).setCell ⟨w.heap.size + 1, 3, none⟩ (.int .i64 ln)).setCell ⟨w.heap.size + 1, 4, none⟩ (.int .i64 en)).heap[q]? = ((((w2.setCell ⟨w.heap.size + 1 + 1, 1, none⟩ (.slice lb xs.length ld)).setCell ⟨w.heap.size + 1 + 1, 2, none⟩ (.int .i64 bg)).setCell ⟨w.heap.size + 1 + 1, 3, none⟩ (.int .i64 ln)).setCell ⟨w.heap.size + 1 + 1, 4, none⟩ (.int .i64 en)).heap[q]? from othB5 (.slice tb ts.length td) (.slice lb xs.length ld) (.int .i64 bg) (.int .i64 ln) (.int .i64 en) q (by have := HN0.out.2; omega)))
  have HSf : Hid ((((((((((w2.setCell ⟨w.heap.size + 1 + 1, 1, none⟩ (.slice lb xs.length ld)).setCell ⟨w.heap.size + 1 + 1, 2, none⟩ (.int .i64 bg)).setCell ⟨w.heap.size + 1 + 1, 3, none⟩ (.int .i64 ln)).setCell ⟨w.heap.size + 1 + 1, 4, none⟩ (.int .i64 en)).setCell ⟨w.heap.size + 1, 0, none⟩ (.slice tb ts.length td)).setCell ⟨w.heap.size + 1, 1, none⟩ (.slice lb xs.length ld)).setCell ⟨w.heap.size + 1, 2, none⟩ (.int .i64 bg)).setCell ⟨w.heap.size + 1, 3, none⟩ (.int .i64 ln)).setCell ⟨w.heap.size + 1, 4, none⟩ (.int .i64 en)).heap.size = n2) := (sizeB5 (.slice tb ts.length td) (.slice lb xs.length ld) (.int .i64 bg) (.int .i64 ln) (.int .i64 en)).trans HN2x.out.1
  have HEf : Hid (TxIn n0 n1 (((((((((w2.setCell ⟨w.heap.size + 1 + 1, 1, none⟩ (.slice lb xs.length ld)).setCell ⟨w.heap.size + 1 + 1, 2, none⟩ (.int .i64 bg)).setCell ⟨w.heap.size + 1 + 1, 3, none⟩ (.int .i64 ln)).setCell ⟨w.heap.size + 1 + 1, 4, none⟩ (.int .i64 en)).setCell ⟨w.heap.size + 1, 0, none⟩ (.slice tb ts.length td)).setCell ⟨w.heap.size + 1, 1, none⟩ (.slice lb xs.length ld)).setCell ⟨w.heap.size + 1, 2, none⟩ (.int .i64 bg)).setCell ⟨w.heap.size + 1, 3, none⟩ (.int .i64 ln)).setCell ⟨w.heap.size + 1, 4, none⟩ (.int .i64 en)) (.slice tb ts.length td) ts ∧ InIn n1 n2 (((((((((w2.setCell ⟨w.heap.size + 1 + 1, 1, none⟩ (.slice lb xs.length ld)).setCell ⟨w.heap.size + 1 + 1, 2, none⟩ (.int .i64 bg)).setCell ⟨w.heap.size + 1 + 1, 3, none⟩ (.int .i64 ln)).setCell ⟨w.heap.size + 1 + 1, 4, none⟩ (.int .i64 en)).setCell ⟨w.heap.size + 1, 0, none⟩ (.slice tb ts.length td)).setCell ⟨w.heap.size + 1, 1, none⟩ (.slice lb xs.length ld)).setCell ⟨w.heap.size + 1, 2, none⟩ (.int .i64 bg)).setCell ⟨w.heap.size + 1, 3, none⟩ (.int .i64 ln)).setCell ⟨w.heap.size + 1, 4, none⟩ (.int .i64 en)) (.slice lb xs.length ld) xs) := ⟨PTx.out.keep (fun q q1 q2 => HOf.out q q1), PIx.out.keep (fun q q1 q2 => HOf.out q (by have := HN1.out; omega))⟩
  clear OT gA0 gZ0 gO0 gA1 gZ1 gO1 gA2 gZ2 gO2 gA3 gZ3 gO3 HN2 HBy HAy HZy HOy PTy PIy
  have z0 := (blk_cell HZx.out 0).trans rfl
  have z1 := (blk_cell HZx.out 1).trans rfl
  have z2 := (blk_cell HZx.out 2).trans rfl
  have z3 := (blk_cell HZx.out 3).trans rfl
  have z4 := (blk_cell HZx.out 4).trans rfl
  have y0 := blk_free HZx.out 0
  have y1 := blk_free HZx.out 1
  have y2 := blk_free HZx.out 2
  have y3 := blk_free HZx.out 3
  have y4 := blk_free HZx.out 4
  clear HOf HOx HAx HBx PTx PIx
  go_wp2_with fail
  refine bodyPost_ret (results_cell_row (p := 2) (ty := 36) rfl _ _ (w.heap.size + 1) 36 _ (0, 0) _ rfl HRf.out Try.underlying36 rfl (by kernel_rfl)) rfl ?_
  exact ⟨_, _, _, _, n1, rfl, HBf.out, by have := HN0.out; have := HN1.out; omega, by have := HSf.out; have := HN2x.out; omega, HEf.out.1.wide (by have := HN0.out; omega) (Nat.le_refl _), HEf.out.2.wide (Nat.le_refl _) (by have := HSf.out; omega)⟩

/-- Who gives and gathers, all in memory of p0 .. p6. -/
structure Co.Own (p0 p1 p2 p3 p4 p5 p6 : Nat) (w : World) (tv lv nv bu bx kv fu fx : Value) (c : Co) (e : Nat → Te) : Prop where
  t : TxIn p0 p1 w tv c.ts
  l : InIn p1 p2 w lv c.xs
  n : TxIn p2 p3 w nv c.ns
  b : StIn p3 p4 w bu bx c.bv c.bc
  k : KsO p4 p5 w kv c.ks.length e
  f : StIn p5 p6 w fu fx c.fv c.fc
  s : Same c.ks c.ks.length e
  ord : p0 ≤ p1 ∧ p1 ≤ p2 ∧ p2 ≤ p3 ∧ p3 ≤ p4 ∧ p4 ≤ p5 ∧ p5 ≤ p6
theorem StIn.vrAt {lo hi : Nat} {w : World} {u x : Value} {vs : List Vr} {cs : List Cl} (h : StIn lo hi w u x vs cs) : VrAt w u vs ∧ ClAt w x cs := by
  obtain ⟨m, -, -, h1, h2⟩ := h
  exact ⟨h1.at, h2.at⟩
theorem Co.Own.at {p0 p1 p2 p3 p4 p5 p6 : Nat} {w : World} {tv lv nv bu bx kv fu fx : Value} {c : Co} {e : Nat → Te} (h : Co.Own p0 p1 p2 p3 p4 p5 p6 w tv lv nv bu bx kv fu fx c e) : Co.At w tv lv nv bu bx kv fu fx c :=
  ⟨h.t.at, h.l.at, h.n.at, h.b.vrAt.1, h.b.vrAt.2, h.k.at h.s, h.f.vrAt.1, h.f.vrAt.2⟩
theorem Co.Own.keep {p0 p1 p2 p3 p4 p5 p6 : Nat} {w w' : World} {tv lv nv bu bx kv fu fx : Value} {c : Co} {e : Nat → Te} (h : Co.Own p0 p1 p2 p3 p4 p5 p6 w tv lv nv bu bx kv fu fx c e) (hk : ∀ q, p0 ≤ q → q < p6 → w'.heap[q]? = w.heap[q]?) : Co.Own p0 p1 p2 p3 p4 p5 p6 w' tv lv nv bu bx kv fu fx c e := by
  have ho := h.ord
  exact ⟨h.t.keep (fun q q1 q2 => hk q (by omega) (by omega)), h.l.keep (fun q q1 q2 => hk q (by omega) (by omega)), h.n.keep (fun q q1 q2 => hk q (by omega) (by omega)), h.b.keep (fun q q1 q2 => hk q (by omega) (by omega)), h.k.keep (fun q q1 q2 => hk q (by omega) (by omega)), h.f.keep (fun q q1 q2 => hk q (by omega) (by omega)), h.s, h.ord⟩

set_option maxHeartbeats 16000000 in
set_option maxRecDepth 100000 in
theorem toCoord_any (tv lv nv bu bx kv fu fx : Value) (c : Co) (w : World) (h : Co.At w tv lv nv bu bx kv fu fx c) (hs : c.Sm) :
    Calls Try.prog 6 #[.agg (Co.cells tv lv nv bu bx kv fu fx c)] w fun r w' => ∃ ta tc la lc na nc ua uc xa xc ka kc ga gc ha hc p0 p1 p2 p3 p4 p5 p6 f, r = .returned (.agg #[.slice ta c.ts.length tc, .slice la c.xs.length lc, .int .i64 c.bg, .int .i64 c.li, .int .i64 c.en, .slice na c.ns.length nc, .slice ua c.bv.length uc, .slice xa c.bc.length xc, .string c.bo, .int .i64 c.cnt, .slice ka c.ks.length kc, .int .i64 c.now, .int .i64 c.tries, .bool c.over, .slice ga c.fv.length gc, .slice ha c.fc.length hc, .string c.fo]) ∧ Below w.heap.size w w' ∧ w.heap.size ≤ p0 ∧ p6 ≤ w'.heap.size ∧ Co.Own p0 p1 p2 p3 p4 p5 p6 w' (.slice ta c.ts.length tc) (.slice la c.xs.length lc) (.slice na c.ns.length nc) (.slice ua c.bv.length uc) (.slice xa c.bc.length xc) (.slice ka c.ks.length kc) (.slice ga c.fv.length gc) (.slice ha c.fc.length hc) c f := by
  have C1 := hidOfT (fun (W : World) (hb : Below w.heap.size w W) => toCodeIn tv lv c.bg c.li c.en c.ts c.xs W (h.t.keep hb) (h.l.keep hb) hs.tl hs.xl)
  have C2 := hidOfT (fun (W : World) (hb : Below w.heap.size w W) => toTsIn nv c.ns W (h.n.keep hb) hs.nl)
  have C3 := hidOfT (fun (W : World) (hb : Below w.heap.size w W) => toStIn bu bx c.bo c.bv c.bc W (h.u.keep hb) (h.x.keep hb) hs.b.1 hs.b.2.2.1)
  have C4 := hidOfT (fun (W : World) (hb : Below w.heap.size w W) => toTasks_any kv c.ks W (h.k.keep hb) hs.kl hs.kk)
  have C5 := hidOfT (fun (W : World) (hb : Below w.heap.size w W) => toStIn fu fx c.fo c.fv c.fc W (h.fu.keep hb) (h.fx.keep hb) hs.f.1 hs.f.2.2.1)
  obtain ⟨ta, tc, rfl, -⟩ := h.t
  obtain ⟨la, lc, rfl, -⟩ := h.l
  obtain ⟨na, nc, rfl, -⟩ := h.n
  obtain ⟨ua, uc, rfl, -⟩ := h.u
  obtain ⟨xa, xc, rfl, -⟩ := h.x
  obtain ⟨ka, kc, rfl, -⟩ := h.k
  obtain ⟨ga, gc, rfl, -⟩ := h.fu
  obtain ⟨ha, hc, rfl, -⟩ := h.fx
  unfold Co.cells
  clear h hs
  have HB : Hid (Below w.heap.size w (((w.alloc (.cells #[.slice ta c.ts.length tc, .slice la c.xs.length lc, .int .i64 c.bg, .int .i64 c.li, .int .i64 c.en, .slice na c.ns.length nc, .slice ua c.bv.length uc, .slice xa c.bc.length xc, .string c.bo, .int .i64 c.cnt, .slice ka c.ks.length kc, .int .i64 c.now, .int .i64 c.tries, .bool c.over, .slice ga c.fv.length gc, .slice ha c.fc.length hc, .string c.fo] 32)).alloc (.cells #[.slice none 0 0, .slice none 0 0, .int .i64 0, .int .i64 0, .int .i64 0, .slice none 0 0, .slice none 0 0, .slice none 0 0, .string ⟨#[]⟩, .int .i64 0, .slice none 0 0, .int .i64 0, .int .i64 0, .bool false, .slice none 0 0, .slice none 0 0, .string ⟨#[]⟩] 43)).alloc (.cells #[.slice none 0 0, .slice none 0 0, .int .i64 0, .int .i64 0, .int .i64 0, .slice none 0 0, .slice none 0 0, .slice none 0 0, .string ⟨#[]⟩, .int .i64 0, .slice none 0 0, .int .i64 0, .int .i64 0, .bool false, .slice none 0 0, .slice none 0 0, .string ⟨#[]⟩] 43))) := ((((Below.refl _ _).alloc (Nat.le_refl _) _).alloc (by simp) _).alloc (by simp; omega) _)
  have HA : Hid ((((w.alloc (.cells #[.slice ta c.ts.length tc, .slice la c.xs.length lc, .int .i64 c.bg, .int .i64 c.li, .int .i64 c.en, .slice na c.ns.length nc, .slice ua c.bv.length uc, .slice xa c.bc.length xc, .string c.bo, .int .i64 c.cnt, .slice ka c.ks.length kc, .int .i64 c.now, .int .i64 c.tries, .bool c.over, .slice ga c.fv.length gc, .slice ha c.fc.length hc, .string c.fo] 32)).alloc (.cells #[.slice none 0 0, .slice none 0 0, .int .i64 0, .int .i64 0, .int .i64 0, .slice none 0 0, .slice none 0 0, .slice none 0 0, .string ⟨#[]⟩, .int .i64 0, .slice none 0 0, .int .i64 0, .int .i64 0, .bool false, .slice none 0 0, .slice none 0 0, .string ⟨#[]⟩] 43)).alloc (.cells #[.slice none 0 0, .slice none 0 0, .int .i64 0, .int .i64 0, .int .i64 0, .slice none 0 0, .slice none 0 0, .slice none 0 0, .string ⟨#[]⟩, .int .i64 0, .slice none 0 0, .int .i64 0, .int .i64 0, .bool false, .slice none 0 0, .slice none 0 0, .string ⟨#[]⟩] 43)).heap[w.heap.size]? = some (.cells #[.slice ta c.ts.length tc, .slice la c.xs.length lc, .int .i64 c.bg, .int .i64 c.li, .int .i64 c.en, .slice na c.ns.length nc, .slice ua c.bv.length uc, .slice xa c.bc.length xc, .string c.bo, .int .i64 c.cnt, .slice ka c.ks.length kc, .int .i64 c.now, .int .i64 c.tries, .bool c.over, .slice ga c.fv.length gc, .slice ha c.fc.length hc, .string c.fo] 32 (0, 0))) := alloc3_0c _ _ _ _
  have HZ : Hid ((((w.alloc (.cells #[.slice ta c.ts.length tc, .slice la c.xs.length lc, .int .i64 c.bg, .int .i64 c.li, .int .i64 c.en, .slice na c.ns.length nc, .slice ua c.bv.length uc, .slice xa c.bc.length xc, .string c.bo, .int .i64 c.cnt, .slice ka c.ks.length kc, .int .i64 c.now, .int .i64 c.tries, .bool c.over, .slice ga c.fv.length gc, .slice ha c.fc.length hc, .string c.fo] 32)).alloc (.cells #[.slice none 0 0, .slice none 0 0, .int .i64 0, .int .i64 0, .int .i64 0, .slice none 0 0, .slice none 0 0, .slice none 0 0, .string ⟨#[]⟩, .int .i64 0, .slice none 0 0, .int .i64 0, .int .i64 0, .bool false, .slice none 0 0, .slice none 0 0, .string ⟨#[]⟩] 43)).alloc (.cells #[.slice none 0 0, .slice none 0 0, .int .i64 0, .int .i64 0, .int .i64 0, .slice none 0 0, .slice none 0 0, .slice none 0 0, .string ⟨#[]⟩, .int .i64 0, .slice none 0 0, .int .i64 0, .int .i64 0, .bool false, .slice none 0 0, .slice none 0 0, .string ⟨#[]⟩] 43)).heap[w.heap.size + 1]? = some (.cells #[.slice none 0 0, .slice none 0 0, .int .i64 0, .int .i64 0, .int .i64 0, .slice none 0 0, .slice none 0 0, .slice none 0 0, .string ⟨#[]⟩, .int .i64 0, .slice none 0 0, .int .i64 0, .int .i64 0, .bool false, .slice none 0 0, .slice none 0 0, .string ⟨#[]⟩] 43 (0, 0))) := alloc3_1 _ _ _ _
  have HO : Hid ((((w.alloc (.cells #[.slice ta c.ts.length tc, .slice la c.xs.length lc, .int .i64 c.bg, .int .i64 c.li, .int .i64 c.en, .slice na c.ns.length nc, .slice ua c.bv.length uc, .slice xa c.bc.length xc, .string c.bo, .int .i64 c.cnt, .slice ka c.ks.length kc, .int .i64 c.now, .int .i64 c.tries, .bool c.over, .slice ga c.fv.length gc, .slice ha c.fc.length hc, .string c.fo] 32)).alloc (.cells #[.slice none 0 0, .slice none 0 0, .int .i64 0, .int .i64 0, .int .i64 0, .slice none 0 0, .slice none 0 0, .slice none 0 0, .string ⟨#[]⟩, .int .i64 0, .slice none 0 0, .int .i64 0, .int .i64 0, .bool false, .slice none 0 0, .slice none 0 0, .string ⟨#[]⟩] 43)).alloc (.cells #[.slice none 0 0, .slice none 0 0, .int .i64 0, .int .i64 0, .int .i64 0, .slice none 0 0, .slice none 0 0, .slice none 0 0, .string ⟨#[]⟩, .int .i64 0, .slice none 0 0, .int .i64 0, .int .i64 0, .bool false, .slice none 0 0, .slice none 0 0, .string ⟨#[]⟩] 43)).heap[w.heap.size + 1 + 1]? = some (.cells #[.slice none 0 0, .slice none 0 0, .int .i64 0, .int .i64 0, .int .i64 0, .slice none 0 0, .slice none 0 0, .slice none 0 0, .string ⟨#[]⟩, .int .i64 0, .slice none 0 0, .int .i64 0, .int .i64 0, .bool false, .slice none 0 0, .slice none 0 0, .string ⟨#[]⟩] 43 (0, 0))) := alloc3_2 _ _ _ _
  obtain ⟨n0, hn0⟩ : ∃ n, n = (((w.alloc (.cells #[.slice ta c.ts.length tc, .slice la c.xs.length lc, .int .i64 c.bg, .int .i64 c.li, .int .i64 c.en, .slice na c.ns.length nc, .slice ua c.bv.length uc, .slice xa c.bc.length xc, .string c.bo, .int .i64 c.cnt, .slice ka c.ks.length kc, .int .i64 c.now, .int .i64 c.tries, .bool c.over, .slice ga c.fv.length gc, .slice ha c.fc.length hc, .string c.fo] 32)).alloc (.cells #[.slice none 0 0, .slice none 0 0, .int .i64 0, .int .i64 0, .int .i64 0, .slice none 0 0, .slice none 0 0, .slice none 0 0, .string ⟨#[]⟩, .int .i64 0, .slice none 0 0, .int .i64 0, .int .i64 0, .bool false, .slice none 0 0, .slice none 0 0, .string ⟨#[]⟩] 43)).alloc (.cells #[.slice none 0 0, .slice none 0 0, .int .i64 0, .int .i64 0, .int .i64 0, .slice none 0 0, .slice none 0 0, .slice none 0 0, .string ⟨#[]⟩, .int .i64 0, .slice none 0 0, .int .i64 0, .int .i64 0, .bool false, .slice none 0 0, .slice none 0 0, .string ⟨#[]⟩] 43)).heap.size := ⟨_, rfl⟩
  have HN0 : Hid ((((w.alloc (.cells #[.slice ta c.ts.length tc, .slice la c.xs.length lc, .int .i64 c.bg, .int .i64 c.li, .int .i64 c.en, .slice na c.ns.length nc, .slice ua c.bv.length uc, .slice xa c.bc.length xc, .string c.bo, .int .i64 c.cnt, .slice ka c.ks.length kc, .int .i64 c.now, .int .i64 c.tries, .bool c.over, .slice ga c.fv.length gc, .slice ha c.fc.length hc, .string c.fo] 32)).alloc (.cells #[.slice none 0 0, .slice none 0 0, .int .i64 0, .int .i64 0, .int .i64 0, .slice none 0 0, .slice none 0 0, .slice none 0 0, .string ⟨#[]⟩, .int .i64 0, .slice none 0 0, .int .i64 0, .int .i64 0, .bool false, .slice none 0 0, .slice none 0 0, .string ⟨#[]⟩] 43)).alloc (.cells #[.slice none 0 0, .slice none 0 0, .int .i64 0, .int .i64 0, .int .i64 0, .slice none 0 0, .slice none 0 0, .slice none 0 0, .string ⟨#[]⟩, .int .i64 0, .slice none 0 0, .int .i64 0, .int .i64 0, .bool false, .slice none 0 0, .slice none 0 0, .string ⟨#[]⟩] 43)).heap.size = n0 ∧ n0 = w.heap.size + 3) := ⟨hn0.symm, by rw [hn0]; simp⟩
  clear hn0
  go_enter Try.func6, Try.ntmps6
  go_wp2_with fail
  generalize (((w.alloc (.cells #[.slice ta c.ts.length tc, .slice la c.xs.length lc, .int .i64 c.bg, .int .i64 c.li, .int .i64 c.en, .slice na c.ns.length nc, .slice ua c.bv.length uc, .slice xa c.bc.length xc, .string c.bo, .int .i64 c.cnt, .slice ka c.ks.length kc, .int .i64 c.now, .int .i64 c.tries, .bool c.over, .slice ga c.fv.length gc, .slice ha c.fc.length hc, .string c.fo] 32)).alloc (.cells #[.slice none 0 0, .slice none 0 0, .int .i64 0, .int .i64 0, .int .i64 0, .slice none 0 0, .slice none 0 0, .slice none 0 0, .string ⟨#[]⟩, .int .i64 0, .slice none 0 0, .int .i64 0, .int .i64 0, .bool false, .slice none 0 0, .slice none 0 0, .string ⟨#[]⟩] 43)).alloc (.cells #[.slice none 0 0, .slice none 0 0, .int .i64 0, .int .i64 0, .int .i64 0, .slice none 0 0, .slice none 0 0, .slice none 0 0, .string ⟨#[]⟩, .int .i64 0, .slice none 0 0, .int .i64 0, .int .i64 0, .bool false, .slice none 0 0, .slice none 0 0, .string ⟨#[]⟩] 43)) = X0 at *
  refine (C1.out _ HB.out).mono ?_
  rintro e w1 ⟨tb, td, lb, ld, m, rfl, hb, hm1, hm2, hr1, hr2⟩
  have HAy := hidOfT ((hb.block _ (blk_lt HA.out)).trans HA.out)
  have HZy := hidOfT ((hb.block _ (blk_lt HZ.out)).trans HZ.out)
  have HOy := hidOfT ((hb.block _ (blk_lt HO.out)).trans HO.out)
  have HBy := hidOfT (HB.out.trans (hb.mono HB.out.size))
  obtain ⟨n1, hn1⟩ : ∃ n, n = w1.heap.size := ⟨_, rfl⟩
  have HN1 : Hid (w1.heap.size = n1 ∧ n0 ≤ n1) := ⟨hn1.symm, by have := hb.size; have := HN0.out; omega⟩
  clear hn1 hb HB HA HZ HO   C1
  have HM : Hid (n0 ≤ m ∧ m ≤ n1) := by rw [HN0.out.1] at hm1; have := HN1.out.1; exact ⟨hm1, by omega⟩
  have PTy : Hid (TxIn n0 m w1 (.slice tb c.ts.length td) c.ts) := by rw [HN0.out.1] at hr1; exact hr1
  have PIy : Hid (InIn m n1 w1 (.slice lb c.xs.length ld) c.xs) := by rw [HN1.out.1] at hr2; exact hr2
  clear hm1 hm2 hr1 hr2
  have cA5 := (blk_cell HAy.out 5).trans rfl
  have cO0 := (blk_cell HOy.out 0).trans rfl
  have cO1 := (blk_cell HOy.out 1).trans rfl
  have cO2 := (blk_cell HOy.out 2).trans rfl
  have cO3 := (blk_cell HOy.out 3).trans rfl
  have cO4 := (blk_cell HOy.out 4).trans rfl
  have fO0 := blk_free HOy.out 0
  have fO1 := blk_free HOy.out 1
  have fO2 := blk_free HOy.out 2
  have fO3 := blk_free HOy.out 3
  have fO4 := blk_free HOy.out 4
  have gA0 : ((w1).setCell ⟨w.heap.size + 1 + 1, 0, none⟩ (.slice tb c.ts.length td)).heap[w.heap.size]? = some (.cells #[.slice ta c.ts.length tc, .slice la c.xs.length lc, .int .i64 c.bg, .int .i64 c.li, .int .i64 c.en, .slice na c.ns.length nc, .slice ua c.bv.length uc, .slice xa c.bc.length xc, .string c.bo, .int .i64 c.cnt, .slice ka c.ks.length kc, .int .i64 c.now, .int .i64 c.tries, .bool c.over, .slice ga c.fv.length gc, .slice ha c.fc.length hc, .string c.fo] 32 (0, 0)) := (Below.heap_setCell _ _ _ _ (by show w.heap.size ≠ w.heap.size + 1 + 1; omega)).trans HAy.out
  have gZ0 : ((w1).setCell ⟨w.heap.size + 1 + 1, 0, none⟩ (.slice tb c.ts.length td)).heap[w.heap.size + 1]? = some (.cells #[.slice none 0 0, .slice none 0 0, .int .i64 0, .int .i64 0, .int .i64 0, .slice none 0 0, .slice none 0 0, .slice none 0 0, .string ⟨#[]⟩, .int .i64 0, .slice none 0 0, .int .i64 0, .int .i64 0, .bool false, .slice none 0 0, .slice none 0 0, .string ⟨#[]⟩] 43 (0, 0)) := (Below.heap_setCell _ _ _ _ (by show w.heap.size + 1 ≠ w.heap.size + 1 + 1; omega)).trans HZy.out
  have gO0 : ((w1).setCell ⟨w.heap.size + 1 + 1, 0, none⟩ (.slice tb c.ts.length td)).heap[w.heap.size + 1 + 1]? = some (.cells #[(.slice tb c.ts.length td), .slice none 0 0, .int .i64 0, .int .i64 0, .int .i64 0, .slice none 0 0, .slice none 0 0, .slice none 0 0, .string ⟨#[]⟩, .int .i64 0, .slice none 0 0, .int .i64 0, .int .i64 0, .bool false, .slice none 0 0, .slice none 0 0, .string ⟨#[]⟩] 43 (0, 0)) := blk_set HOy.out 0 _
  have gA1 : (((w1.setCell ⟨w.heap.size + 1 + 1, 0, none⟩ (.slice tb c.ts.length td))).setCell ⟨w.heap.size + 1 + 1, 1, none⟩ (.slice lb c.xs.length ld)).heap[w.heap.size]? = some (.cells #[.slice ta c.ts.length tc, .slice la c.xs.length lc, .int .i64 c.bg, .int .i64 c.li, .int .i64 c.en, .slice na c.ns.length nc, .slice ua c.bv.length uc, .slice xa c.bc.length xc, .string c.bo, .int .i64 c.cnt, .slice ka c.ks.length kc, .int .i64 c.now, .int .i64 c.tries, .bool c.over, .slice ga c.fv.length gc, .slice ha c.fc.length hc, .string c.fo] 32 (0, 0)) := (Below.heap_setCell _ _ _ _ (by show w.heap.size ≠ w.heap.size + 1 + 1; omega)).trans gA0
  have gZ1 : (((w1.setCell ⟨w.heap.size + 1 + 1, 0, none⟩ (.slice tb c.ts.length td))).setCell ⟨w.heap.size + 1 + 1, 1, none⟩ (.slice lb c.xs.length ld)).heap[w.heap.size + 1]? = some (.cells #[.slice none 0 0, .slice none 0 0, .int .i64 0, .int .i64 0, .int .i64 0, .slice none 0 0, .slice none 0 0, .slice none 0 0, .string ⟨#[]⟩, .int .i64 0, .slice none 0 0, .int .i64 0, .int .i64 0, .bool false, .slice none 0 0, .slice none 0 0, .string ⟨#[]⟩] 43 (0, 0)) := (Below.heap_setCell _ _ _ _ (by show w.heap.size + 1 ≠ w.heap.size + 1 + 1; omega)).trans gZ0
  have gO1 : (((w1.setCell ⟨w.heap.size + 1 + 1, 0, none⟩ (.slice tb c.ts.length td))).setCell ⟨w.heap.size + 1 + 1, 1, none⟩ (.slice lb c.xs.length ld)).heap[w.heap.size + 1 + 1]? = some (.cells #[(.slice tb c.ts.length td), (.slice lb c.xs.length ld), .int .i64 0, .int .i64 0, .int .i64 0, .slice none 0 0, .slice none 0 0, .slice none 0 0, .string ⟨#[]⟩, .int .i64 0, .slice none 0 0, .int .i64 0, .int .i64 0, .bool false, .slice none 0 0, .slice none 0 0, .string ⟨#[]⟩] 43 (0, 0)) := blk_set gO0 1 _
  have gA2 : ((((w1.setCell ⟨w.heap.size + 1 + 1, 0, none⟩ (.slice tb c.ts.length td)).setCell ⟨w.heap.size + 1 + 1, 1, none⟩ (.slice lb c.xs.length ld))).setCell ⟨w.heap.size + 1 + 1, 2, none⟩ (.int .i64 c.bg)).heap[w.heap.size]? = some (.cells #[.slice ta c.ts.length tc, .slice la c.xs.length lc, .int .i64 c.bg, .int .i64 c.li, .int .i64 c.en, .slice na c.ns.length nc, .slice ua c.bv.length uc, .slice xa c.bc.length xc, .string c.bo, .int .i64 c.cnt, .slice ka c.ks.length kc, .int .i64 c.now, .int .i64 c.tries, .bool c.over, .slice ga c.fv.length gc, .slice ha c.fc.length hc, .string c.fo] 32 (0, 0)) := (Below.heap_setCell _ _ _ _ (by show w.heap.size ≠ w.heap.size + 1 + 1; omega)).trans gA1
  have gZ2 : ((((w1.setCell ⟨w.heap.size + 1 + 1, 0, none⟩ (.slice tb c.ts.length td)).setCell ⟨w.heap.size + 1 + 1, 1, none⟩ (.slice lb c.xs.length ld))).setCell ⟨w.heap.size + 1 + 1, 2, none⟩ (.int .i64 c.bg)).heap[w.heap.size + 1]? = some (.cells #[.slice none 0 0, .slice none 0 0, .int .i64 0, .int .i64 0, .int .i64 0, .slice none 0 0, .slice none 0 0, .slice none 0 0, .string ⟨#[]⟩, .int .i64 0, .slice none 0 0, .int .i64 0, .int .i64 0, .bool false, .slice none 0 0, .slice none 0 0, .string ⟨#[]⟩] 43 (0, 0)) := (Below.heap_setCell _ _ _ _ (by show w.heap.size + 1 ≠ w.heap.size + 1 + 1; omega)).trans gZ1
  have gO2 : ((((w1.setCell ⟨w.heap.size + 1 + 1, 0, none⟩ (.slice tb c.ts.length td)).setCell ⟨w.heap.size + 1 + 1, 1, none⟩ (.slice lb c.xs.length ld))).setCell ⟨w.heap.size + 1 + 1, 2, none⟩ (.int .i64 c.bg)).heap[w.heap.size + 1 + 1]? = some (.cells #[(.slice tb c.ts.length td), (.slice lb c.xs.length ld), (.int .i64 c.bg), .int .i64 0, .int .i64 0, .slice none 0 0, .slice none 0 0, .slice none 0 0, .string ⟨#[]⟩, .int .i64 0, .slice none 0 0, .int .i64 0, .int .i64 0, .bool false, .slice none 0 0, .slice none 0 0, .string ⟨#[]⟩] 43 (0, 0)) := blk_set gO1 2 _
  have gA3 : (((((w1.setCell ⟨w.heap.size + 1 + 1, 0, none⟩ (.slice tb c.ts.length td)).setCell ⟨w.heap.size + 1 + 1, 1, none⟩ (.slice lb c.xs.length ld)).setCell ⟨w.heap.size + 1 + 1, 2, none⟩ (.int .i64 c.bg))).setCell ⟨w.heap.size + 1 + 1, 3, none⟩ (.int .i64 c.li)).heap[w.heap.size]? = some (.cells #[.slice ta c.ts.length tc, .slice la c.xs.length lc, .int .i64 c.bg, .int .i64 c.li, .int .i64 c.en, .slice na c.ns.length nc, .slice ua c.bv.length uc, .slice xa c.bc.length xc, .string c.bo, .int .i64 c.cnt, .slice ka c.ks.length kc, .int .i64 c.now, .int .i64 c.tries, .bool c.over, .slice ga c.fv.length gc, .slice ha c.fc.length hc, .string c.fo] 32 (0, 0)) := (Below.heap_setCell _ _ _ _ (by show w.heap.size ≠ w.heap.size + 1 + 1; omega)).trans gA2
  have gZ3 : (((((w1.setCell ⟨w.heap.size + 1 + 1, 0, none⟩ (.slice tb c.ts.length td)).setCell ⟨w.heap.size + 1 + 1, 1, none⟩ (.slice lb c.xs.length ld)).setCell ⟨w.heap.size + 1 + 1, 2, none⟩ (.int .i64 c.bg))).setCell ⟨w.heap.size + 1 + 1, 3, none⟩ (.int .i64 c.li)).heap[w.heap.size + 1]? = some (.cells #[.slice none 0 0, .slice none 0 0, .int .i64 0, .int .i64 0, .int .i64 0, .slice none 0 0, .slice none 0 0, .slice none 0 0, .string ⟨#[]⟩, .int .i64 0, .slice none 0 0, .int .i64 0, .int .i64 0, .bool false, .slice none 0 0, .slice none 0 0, .string ⟨#[]⟩] 43 (0, 0)) := (Below.heap_setCell _ _ _ _ (by show w.heap.size + 1 ≠ w.heap.size + 1 + 1; omega)).trans gZ2
  have gO3 : (((((w1.setCell ⟨w.heap.size + 1 + 1, 0, none⟩ (.slice tb c.ts.length td)).setCell ⟨w.heap.size + 1 + 1, 1, none⟩ (.slice lb c.xs.length ld)).setCell ⟨w.heap.size + 1 + 1, 2, none⟩ (.int .i64 c.bg))).setCell ⟨w.heap.size + 1 + 1, 3, none⟩ (.int .i64 c.li)).heap[w.heap.size + 1 + 1]? = some (.cells #[(.slice tb c.ts.length td), (.slice lb c.xs.length ld), (.int .i64 c.bg), (.int .i64 c.li), .int .i64 0, .slice none 0 0, .slice none 0 0, .slice none 0 0, .string ⟨#[]⟩, .int .i64 0, .slice none 0 0, .int .i64 0, .int .i64 0, .bool false, .slice none 0 0, .slice none 0 0, .string ⟨#[]⟩] 43 (0, 0)) := blk_set gO2 3 _
  have gA4 : ((((((w1.setCell ⟨w.heap.size + 1 + 1, 0, none⟩ (.slice tb c.ts.length td)).setCell ⟨w.heap.size + 1 + 1, 1, none⟩ (.slice lb c.xs.length ld)).setCell ⟨w.heap.size + 1 + 1, 2, none⟩ (.int .i64 c.bg)).setCell ⟨w.heap.size + 1 + 1, 3, none⟩ (.int .i64 c.li))).setCell ⟨w.heap.size + 1 + 1, 4, none⟩ (.int .i64 c.en)).heap[w.heap.size]? = some (.cells #[.slice ta c.ts.length tc, .slice la c.xs.length lc, .int .i64 c.bg, .int .i64 c.li, .int .i64 c.en, .slice na c.ns.length nc, .slice ua c.bv.length uc, .slice xa c.bc.length xc, .string c.bo, .int .i64 c.cnt, .slice ka c.ks.length kc, .int .i64 c.now, .int .i64 c.tries, .bool c.over, .slice ga c.fv.length gc, .slice ha c.fc.length hc, .string c.fo] 32 (0, 0)) := (Below.heap_setCell _ _ _ _ (by show w.heap.size ≠ w.heap.size + 1 + 1; omega)).trans gA3
  have gZ4 : ((((((w1.setCell ⟨w.heap.size + 1 + 1, 0, none⟩ (.slice tb c.ts.length td)).setCell ⟨w.heap.size + 1 + 1, 1, none⟩ (.slice lb c.xs.length ld)).setCell ⟨w.heap.size + 1 + 1, 2, none⟩ (.int .i64 c.bg)).setCell ⟨w.heap.size + 1 + 1, 3, none⟩ (.int .i64 c.li))).setCell ⟨w.heap.size + 1 + 1, 4, none⟩ (.int .i64 c.en)).heap[w.heap.size + 1]? = some (.cells #[.slice none 0 0, .slice none 0 0, .int .i64 0, .int .i64 0, .int .i64 0, .slice none 0 0, .slice none 0 0, .slice none 0 0, .string ⟨#[]⟩, .int .i64 0, .slice none 0 0, .int .i64 0, .int .i64 0, .bool false, .slice none 0 0, .slice none 0 0, .string ⟨#[]⟩] 43 (0, 0)) := (Below.heap_setCell _ _ _ _ (by show w.heap.size + 1 ≠ w.heap.size + 1 + 1; omega)).trans gZ3
  have gO4 : ((((((w1.setCell ⟨w.heap.size + 1 + 1, 0, none⟩ (.slice tb c.ts.length td)).setCell ⟨w.heap.size + 1 + 1, 1, none⟩ (.slice lb c.xs.length ld)).setCell ⟨w.heap.size + 1 + 1, 2, none⟩ (.int .i64 c.bg)).setCell ⟨w.heap.size + 1 + 1, 3, none⟩ (.int .i64 c.li))).setCell ⟨w.heap.size + 1 + 1, 4, none⟩ (.int .i64 c.en)).heap[w.heap.size + 1 + 1]? = some (.cells #[(.slice tb c.ts.length td), (.slice lb c.xs.length ld), (.int .i64 c.bg), (.int .i64 c.li), (.int .i64 c.en), .slice none 0 0, .slice none 0 0, .slice none 0 0, .string ⟨#[]⟩, .int .i64 0, .slice none 0 0, .int .i64 0, .int .i64 0, .bool false, .slice none 0 0, .slice none 0 0, .string ⟨#[]⟩] 43 (0, 0)) := blk_set gO3 4 _
  have OT : ∀ q, n0 ≤ q → (((((w1.setCell ⟨w.heap.size + 1 + 1, 0, none⟩ (.slice tb c.ts.length td)).setCell ⟨w.heap.size + 1 + 1, 1, none⟩ (.slice lb c.xs.length ld)).setCell ⟨w.heap.size + 1 + 1, 2, none⟩ (.int .i64 c.bg)).setCell ⟨w.heap.size + 1 + 1, 3, none⟩ (.int .i64 c.li)).setCell ⟨w.heap.size + 1 + 1, 4, none⟩ (.int .i64 c.en)).heap[q]? = w1.heap[q]? := by
    intro q hq
    have := HN0.out.2
    rw [Below.heap_setCell _ _ _ _ (by show q ≠ w.heap.size + 1 + 1; omega), Below.heap_setCell _ _ _ _ (by show q ≠ w.heap.size + 1 + 1; omega), Below.heap_setCell _ _ _ _ (by show q ≠ w.heap.size + 1 + 1; omega), Below.heap_setCell _ _ _ _ (by show q ≠ w.heap.size + 1 + 1; omega), Below.heap_setCell _ _ _ _ (by show q ≠ w.heap.size + 1 + 1; omega)]
  have HAx := hidOfT gA4
  have HZx := hidOfT gZ4
  have HOx := hidOfT gO4
  have HBx : Hid (Below w.heap.size w (((((w1.setCell ⟨w.heap.size + 1 + 1, 0, none⟩ (.slice tb c.ts.length td)).setCell ⟨w.heap.size + 1 + 1, 1, none⟩ (.slice lb c.xs.length ld)).setCell ⟨w.heap.size + 1 + 1, 2, none⟩ (.int .i64 c.bg)).setCell ⟨w.heap.size + 1 + 1, 3, none⟩ (.int .i64 c.li)).setCell ⟨w.heap.size + 1 + 1, 4, none⟩ (.int .i64 c.en))) := (((((HBy.out.setCell (by show w.heap.size ≤ w.heap.size + 1 + 1; omega) (.slice tb c.ts.length td)).setCell (by show w.heap.size ≤ w.heap.size + 1 + 1; omega) (.slice lb c.xs.length ld)).setCell (by show w.heap.size ≤ w.heap.size + 1 + 1; omega) (.int .i64 c.bg)).setCell (by show w.heap.size ≤ w.heap.size + 1 + 1; omega) (.int .i64 c.li)).setCell (by show w.heap.size ≤ w.heap.size + 1 + 1; omega) (.int .i64 c.en))
  have HN1x : Hid ((((((w1.setCell ⟨w.heap.size + 1 + 1, 0, none⟩ (.slice tb c.ts.length td)).setCell ⟨w.heap.size + 1 + 1, 1, none⟩ (.slice lb c.xs.length ld)).setCell ⟨w.heap.size + 1 + 1, 2, none⟩ (.int .i64 c.bg)).setCell ⟨w.heap.size + 1 + 1, 3, none⟩ (.int .i64 c.li)).setCell ⟨w.heap.size + 1 + 1, 4, none⟩ (.int .i64 c.en)).heap.size = n1 ∧ n0 ≤ n1) := ⟨by have := HN1.out.1; simpa [World.setCell] using this, HN1.out.2⟩
  have PTx : Hid (TxIn n0 m (((((w1.setCell ⟨w.heap.size + 1 + 1, 0, none⟩ (.slice tb c.ts.length td)).setCell ⟨w.heap.size + 1 + 1, 1, none⟩ (.slice lb c.xs.length ld)).setCell ⟨w.heap.size + 1 + 1, 2, none⟩ (.int .i64 c.bg)).setCell ⟨w.heap.size + 1 + 1, 3, none⟩ (.int .i64 c.li)).setCell ⟨w.heap.size + 1 + 1, 4, none⟩ (.int .i64 c.en)) (.slice tb c.ts.length td) c.ts) := PTy.out.keep (fun q q1 q2 => OT q (by have := HN0.out; have := HN1.out; have := HM.out; omega))
  have PIx : Hid (InIn m n1 (((((w1.setCell ⟨w.heap.size + 1 + 1, 0, none⟩ (.slice tb c.ts.length td)).setCell ⟨w.heap.size + 1 + 1, 1, none⟩ (.slice lb c.xs.length ld)).setCell ⟨w.heap.size + 1 + 1, 2, none⟩ (.int .i64 c.bg)).setCell ⟨w.heap.size + 1 + 1, 3, none⟩ (.int .i64 c.li)).setCell ⟨w.heap.size + 1 + 1, 4, none⟩ (.int .i64 c.en)) (.slice lb c.xs.length ld) c.xs) := PIy.out.keep (fun q q1 q2 => OT q (by have := HN0.out; have := HN1.out; have := HM.out; omega))
  clear OT gA0 gZ0 gO0 gA1 gZ1 gO1 gA2 gZ2 gO2 gA3 gZ3 gO3 gA4 gZ4 gO4 HN1 HBy HAy HZy HOy PTy PIy
  go_wp2_with fail
  generalize (((((w1.setCell ⟨w.heap.size + 1 + 1, 0, none⟩ (.slice tb c.ts.length td)).setCell ⟨w.heap.size + 1 + 1, 1, none⟩ (.slice lb c.xs.length ld)).setCell ⟨w.heap.size + 1 + 1, 2, none⟩ (.int .i64 c.bg)).setCell ⟨w.heap.size + 1 + 1, 3, none⟩ (.int .i64 c.li)).setCell ⟨w.heap.size + 1 + 1, 4, none⟩ (.int .i64 c.en)) = X1 at *
  clear cA5 cO0 cO1 cO2 cO3 cO4 fO0 fO1 fO2 fO3 fO4
  have HA := hidOfT HAx.out
  have HZ := hidOfT HZx.out
  have HO := hidOfT HOx.out
  have HB := hidOfT HBx.out
  have HN1 := hidOfT HN1x.out
  have PT := hidOfT PTx.out
  have PI := hidOfT PIx.out
  clear HAx HZx HOx HBx HN1x PTx PIx
  refine (C2.out _ HB.out).mono ?_
  rintro e w2 ⟨nb, nd, rfl, hb, hr⟩
  have HAy := hidOfT ((hb.block _ (blk_lt HA.out)).trans HA.out)
  have HZy := hidOfT ((hb.block _ (blk_lt HZ.out)).trans HZ.out)
  have HOy := hidOfT ((hb.block _ (blk_lt HO.out)).trans HO.out)
  have HBy := hidOfT (HB.out.trans (hb.mono HB.out.size))
  obtain ⟨n2, hn2⟩ : ∃ n, n = w2.heap.size := ⟨_, rfl⟩
  have HN2 : Hid (w2.heap.size = n2 ∧ n1 ≤ n2) := ⟨hn2.symm, by have := hb.size; have := HN1.out; omega⟩
  have PTy : Hid (TxIn n0 m w2 (.slice tb c.ts.length td) c.ts) := PT.out.keep (fun q q1 q2 => hb.block q (by have := HM.out; have := HN0.out; have := HN1.out; omega))
  have PIy : Hid (InIn m n1 w2 (.slice lb c.xs.length ld) c.xs) := PI.out.keep (fun q q1 q2 => hb.block q (by have := HM.out; have := HN0.out; have := HN1.out; omega))
  have PNy : Hid (TxIn n1 n2 w2 (.slice nb c.ns.length nd) c.ns) := by rw [HN1.out.1, ← hn2] at hr; exact hr
  clear hn2 hb HB HA HZ HO PT PI hr C2
  have cA6 := (blk_cell HAy.out 6).trans rfl
  have cA7 := (blk_cell HAy.out 7).trans rfl
  have cA8 := (blk_cell HAy.out 8).trans rfl
  have cO5 := (blk_cell HOy.out 5).trans rfl
  have fO5 := blk_free HOy.out 5
  have gA0 : ((w2).setCell ⟨w.heap.size + 1 + 1, 5, none⟩ (.slice nb c.ns.length nd)).heap[w.heap.size]? = some (.cells #[.slice ta c.ts.length tc, .slice la c.xs.length lc, .int .i64 c.bg, .int .i64 c.li, .int .i64 c.en, .slice na c.ns.length nc, .slice ua c.bv.length uc, .slice xa c.bc.length xc, .string c.bo, .int .i64 c.cnt, .slice ka c.ks.length kc, .int .i64 c.now, .int .i64 c.tries, .bool c.over, .slice ga c.fv.length gc, .slice ha c.fc.length hc, .string c.fo] 32 (0, 0)) := (Below.heap_setCell _ _ _ _ (by show w.heap.size ≠ w.heap.size + 1 + 1; omega)).trans HAy.out
  have gZ0 : ((w2).setCell ⟨w.heap.size + 1 + 1, 5, none⟩ (.slice nb c.ns.length nd)).heap[w.heap.size + 1]? = some (.cells #[.slice none 0 0, .slice none 0 0, .int .i64 0, .int .i64 0, .int .i64 0, .slice none 0 0, .slice none 0 0, .slice none 0 0, .string ⟨#[]⟩, .int .i64 0, .slice none 0 0, .int .i64 0, .int .i64 0, .bool false, .slice none 0 0, .slice none 0 0, .string ⟨#[]⟩] 43 (0, 0)) := (Below.heap_setCell _ _ _ _ (by show w.heap.size + 1 ≠ w.heap.size + 1 + 1; omega)).trans HZy.out
  have gO0 : ((w2).setCell ⟨w.heap.size + 1 + 1, 5, none⟩ (.slice nb c.ns.length nd)).heap[w.heap.size + 1 + 1]? = some (.cells #[(.slice tb c.ts.length td), (.slice lb c.xs.length ld), (.int .i64 c.bg), (.int .i64 c.li), (.int .i64 c.en), (.slice nb c.ns.length nd), .slice none 0 0, .slice none 0 0, .string ⟨#[]⟩, .int .i64 0, .slice none 0 0, .int .i64 0, .int .i64 0, .bool false, .slice none 0 0, .slice none 0 0, .string ⟨#[]⟩] 43 (0, 0)) := blk_set HOy.out 5 _
  have OT : ∀ q, n0 ≤ q → (w2.setCell ⟨w.heap.size + 1 + 1, 5, none⟩ (.slice nb c.ns.length nd)).heap[q]? = w2.heap[q]? := by
    intro q hq
    have := HN0.out.2
    rw [Below.heap_setCell _ _ _ _ (by show q ≠ w.heap.size + 1 + 1; omega)]
  have HAx := hidOfT gA0
  have HZx := hidOfT gZ0
  have HOx := hidOfT gO0
  have HBx : Hid (Below w.heap.size w (w2.setCell ⟨w.heap.size + 1 + 1, 5, none⟩ (.slice nb c.ns.length nd))) := (HBy.out.setCell (by show w.heap.size ≤ w.heap.size + 1 + 1; omega) (.slice nb c.ns.length nd))
  have HN2x : Hid ((w2.setCell ⟨w.heap.size + 1 + 1, 5, none⟩ (.slice nb c.ns.length nd)).heap.size = n2 ∧ n1 ≤ n2) := ⟨by have := HN2.out.1; simpa [World.setCell] using this, HN2.out.2⟩
  have PTx : Hid (TxIn n0 m (w2.setCell ⟨w.heap.size + 1 + 1, 5, none⟩ (.slice nb c.ns.length nd)) (.slice tb c.ts.length td) c.ts) := PTy.out.keep (fun q q1 q2 => OT q (by have := HN0.out; have := HN1.out; have := HN2.out; have := HM.out; omega))
  have PIx : Hid (InIn m n1 (w2.setCell ⟨w.heap.size + 1 + 1, 5, none⟩ (.slice nb c.ns.length nd)) (.slice lb c.xs.length ld) c.xs) := PIy.out.keep (fun q q1 q2 => OT q (by have := HN0.out; have := HN1.out; have := HN2.out; have := HM.out; omega))
  have PNx : Hid (TxIn n1 n2 (w2.setCell ⟨w.heap.size + 1 + 1, 5, none⟩ (.slice nb c.ns.length nd)) (.slice nb c.ns.length nd) c.ns) := PNy.out.keep (fun q q1 q2 => OT q (by have := HN0.out; have := HN1.out; have := HN2.out; have := HM.out; omega))
  clear OT gA0 gZ0 gO0 HN2 HBy HAy HZy HOy PTy PIy PNy
  go_wp2_with fail
  generalize (w2.setCell ⟨w.heap.size + 1 + 1, 5, none⟩ (.slice nb c.ns.length nd)) = X2 at *
  clear cA6 cA7 cA8 cO5 fO5
  have HA := hidOfT HAx.out
  have HZ := hidOfT HZx.out
  have HO := hidOfT HOx.out
  have HB := hidOfT HBx.out
  have HN2 := hidOfT HN2x.out
  have PT := hidOfT PTx.out
  have PI := hidOfT PIx.out
  have PN := hidOfT PNx.out
  clear HAx HZx HOx HBx HN2x PTx PIx PNx
  refine (C3.out _ HB.out).mono ?_
  rintro e w3 ⟨ub, ud, xb, xd, rfl, hb, hr⟩
  have HAy := hidOfT ((hb.block _ (blk_lt HA.out)).trans HA.out)
  have HZy := hidOfT ((hb.block _ (blk_lt HZ.out)).trans HZ.out)
  have HOy := hidOfT ((hb.block _ (blk_lt HO.out)).trans HO.out)
  have HBy := hidOfT (HB.out.trans (hb.mono HB.out.size))
  obtain ⟨n3, hn3⟩ : ∃ n, n = w3.heap.size := ⟨_, rfl⟩
  have HN3 : Hid (w3.heap.size = n3 ∧ n2 ≤ n3) := ⟨hn3.symm, by have := hb.size; have := HN2.out; omega⟩
  have PTy : Hid (TxIn n0 m w3 (.slice tb c.ts.length td) c.ts) := PT.out.keep (fun q q1 q2 => hb.block q (by have := HM.out; have := HN0.out; have := HN1.out; have := HN2.out; omega))
  have PIy : Hid (InIn m n1 w3 (.slice lb c.xs.length ld) c.xs) := PI.out.keep (fun q q1 q2 => hb.block q (by have := HM.out; have := HN0.out; have := HN1.out; have := HN2.out; omega))
  have PNy : Hid (TxIn n1 n2 w3 (.slice nb c.ns.length nd) c.ns) := PN.out.keep (fun q q1 q2 => hb.block q (by have := HM.out; have := HN0.out; have := HN1.out; have := HN2.out; omega))
  have PBy : Hid (StIn n2 n3 w3 (.slice ub c.bv.length ud) (.slice xb c.bc.length xd) c.bv c.bc) := by rw [HN2.out.1, ← hn3] at hr; exact hr
  clear hn3 hb HB HA HZ HO PT PI PN hr C3
  have cA9 := (blk_cell HAy.out 9).trans rfl
  have cA10 := (blk_cell HAy.out 10).trans rfl
  have cO6 := (blk_cell HOy.out 6).trans rfl
  have cO7 := (blk_cell HOy.out 7).trans rfl
  have cO8 := (blk_cell HOy.out 8).trans rfl
  have cO9 := (blk_cell HOy.out 9).trans rfl
  have fO6 := blk_free HOy.out 6
  have fO7 := blk_free HOy.out 7
  have fO8 := blk_free HOy.out 8
  have fO9 := blk_free HOy.out 9
  have gA0 : ((w3).setCell ⟨w.heap.size + 1 + 1, 6, none⟩ (.slice ub c.bv.length ud)).heap[w.heap.size]? = some (.cells #[.slice ta c.ts.length tc, .slice la c.xs.length lc, .int .i64 c.bg, .int .i64 c.li, .int .i64 c.en, .slice na c.ns.length nc, .slice ua c.bv.length uc, .slice xa c.bc.length xc, .string c.bo, .int .i64 c.cnt, .slice ka c.ks.length kc, .int .i64 c.now, .int .i64 c.tries, .bool c.over, .slice ga c.fv.length gc, .slice ha c.fc.length hc, .string c.fo] 32 (0, 0)) := (Below.heap_setCell _ _ _ _ (by show w.heap.size ≠ w.heap.size + 1 + 1; omega)).trans HAy.out
  have gZ0 : ((w3).setCell ⟨w.heap.size + 1 + 1, 6, none⟩ (.slice ub c.bv.length ud)).heap[w.heap.size + 1]? = some (.cells #[.slice none 0 0, .slice none 0 0, .int .i64 0, .int .i64 0, .int .i64 0, .slice none 0 0, .slice none 0 0, .slice none 0 0, .string ⟨#[]⟩, .int .i64 0, .slice none 0 0, .int .i64 0, .int .i64 0, .bool false, .slice none 0 0, .slice none 0 0, .string ⟨#[]⟩] 43 (0, 0)) := (Below.heap_setCell _ _ _ _ (by show w.heap.size + 1 ≠ w.heap.size + 1 + 1; omega)).trans HZy.out
  have gO0 : ((w3).setCell ⟨w.heap.size + 1 + 1, 6, none⟩ (.slice ub c.bv.length ud)).heap[w.heap.size + 1 + 1]? = some (.cells #[(.slice tb c.ts.length td), (.slice lb c.xs.length ld), (.int .i64 c.bg), (.int .i64 c.li), (.int .i64 c.en), (.slice nb c.ns.length nd), (.slice ub c.bv.length ud), .slice none 0 0, .string ⟨#[]⟩, .int .i64 0, .slice none 0 0, .int .i64 0, .int .i64 0, .bool false, .slice none 0 0, .slice none 0 0, .string ⟨#[]⟩] 43 (0, 0)) := blk_set HOy.out 6 _
  have gA1 : (((w3.setCell ⟨w.heap.size + 1 + 1, 6, none⟩ (.slice ub c.bv.length ud))).setCell ⟨w.heap.size + 1 + 1, 7, none⟩ (.slice xb c.bc.length xd)).heap[w.heap.size]? = some (.cells #[.slice ta c.ts.length tc, .slice la c.xs.length lc, .int .i64 c.bg, .int .i64 c.li, .int .i64 c.en, .slice na c.ns.length nc, .slice ua c.bv.length uc, .slice xa c.bc.length xc, .string c.bo, .int .i64 c.cnt, .slice ka c.ks.length kc, .int .i64 c.now, .int .i64 c.tries, .bool c.over, .slice ga c.fv.length gc, .slice ha c.fc.length hc, .string c.fo] 32 (0, 0)) := (Below.heap_setCell _ _ _ _ (by show w.heap.size ≠ w.heap.size + 1 + 1; omega)).trans gA0
  have gZ1 : (((w3.setCell ⟨w.heap.size + 1 + 1, 6, none⟩ (.slice ub c.bv.length ud))).setCell ⟨w.heap.size + 1 + 1, 7, none⟩ (.slice xb c.bc.length xd)).heap[w.heap.size + 1]? = some (.cells #[.slice none 0 0, .slice none 0 0, .int .i64 0, .int .i64 0, .int .i64 0, .slice none 0 0, .slice none 0 0, .slice none 0 0, .string ⟨#[]⟩, .int .i64 0, .slice none 0 0, .int .i64 0, .int .i64 0, .bool false, .slice none 0 0, .slice none 0 0, .string ⟨#[]⟩] 43 (0, 0)) := (Below.heap_setCell _ _ _ _ (by show w.heap.size + 1 ≠ w.heap.size + 1 + 1; omega)).trans gZ0
  have gO1 : (((w3.setCell ⟨w.heap.size + 1 + 1, 6, none⟩ (.slice ub c.bv.length ud))).setCell ⟨w.heap.size + 1 + 1, 7, none⟩ (.slice xb c.bc.length xd)).heap[w.heap.size + 1 + 1]? = some (.cells #[(.slice tb c.ts.length td), (.slice lb c.xs.length ld), (.int .i64 c.bg), (.int .i64 c.li), (.int .i64 c.en), (.slice nb c.ns.length nd), (.slice ub c.bv.length ud), (.slice xb c.bc.length xd), .string ⟨#[]⟩, .int .i64 0, .slice none 0 0, .int .i64 0, .int .i64 0, .bool false, .slice none 0 0, .slice none 0 0, .string ⟨#[]⟩] 43 (0, 0)) := blk_set gO0 7 _
  have gA2 : ((((w3.setCell ⟨w.heap.size + 1 + 1, 6, none⟩ (.slice ub c.bv.length ud)).setCell ⟨w.heap.size + 1 + 1, 7, none⟩ (.slice xb c.bc.length xd))).setCell ⟨w.heap.size + 1 + 1, 8, none⟩ (.string c.bo)).heap[w.heap.size]? = some (.cells #[.slice ta c.ts.length tc, .slice la c.xs.length lc, .int .i64 c.bg, .int .i64 c.li, .int .i64 c.en, .slice na c.ns.length nc, .slice ua c.bv.length uc, .slice xa c.bc.length xc, .string c.bo, .int .i64 c.cnt, .slice ka c.ks.length kc, .int .i64 c.now, .int .i64 c.tries, .bool c.over, .slice ga c.fv.length gc, .slice ha c.fc.length hc, .string c.fo] 32 (0, 0)) := (Below.heap_setCell _ _ _ _ (by show w.heap.size ≠ w.heap.size + 1 + 1; omega)).trans gA1
  have gZ2 : ((((w3.setCell ⟨w.heap.size + 1 + 1, 6, none⟩ (.slice ub c.bv.length ud)).setCell ⟨w.heap.size + 1 + 1, 7, none⟩ (.slice xb c.bc.length xd))).setCell ⟨w.heap.size + 1 + 1, 8, none⟩ (.string c.bo)).heap[w.heap.size + 1]? = some (.cells #[.slice none 0 0, .slice none 0 0, .int .i64 0, .int .i64 0, .int .i64 0, .slice none 0 0, .slice none 0 0, .slice none 0 0, .string ⟨#[]⟩, .int .i64 0, .slice none 0 0, .int .i64 0, .int .i64 0, .bool false, .slice none 0 0, .slice none 0 0, .string ⟨#[]⟩] 43 (0, 0)) := (Below.heap_setCell _ _ _ _ (by show w.heap.size + 1 ≠ w.heap.size + 1 + 1; omega)).trans gZ1
  have gO2 : ((((w3.setCell ⟨w.heap.size + 1 + 1, 6, none⟩ (.slice ub c.bv.length ud)).setCell ⟨w.heap.size + 1 + 1, 7, none⟩ (.slice xb c.bc.length xd))).setCell ⟨w.heap.size + 1 + 1, 8, none⟩ (.string c.bo)).heap[w.heap.size + 1 + 1]? = some (.cells #[(.slice tb c.ts.length td), (.slice lb c.xs.length ld), (.int .i64 c.bg), (.int .i64 c.li), (.int .i64 c.en), (.slice nb c.ns.length nd), (.slice ub c.bv.length ud), (.slice xb c.bc.length xd), (.string c.bo), .int .i64 0, .slice none 0 0, .int .i64 0, .int .i64 0, .bool false, .slice none 0 0, .slice none 0 0, .string ⟨#[]⟩] 43 (0, 0)) := blk_set gO1 8 _
  have gA3 : (((((w3.setCell ⟨w.heap.size + 1 + 1, 6, none⟩ (.slice ub c.bv.length ud)).setCell ⟨w.heap.size + 1 + 1, 7, none⟩ (.slice xb c.bc.length xd)).setCell ⟨w.heap.size + 1 + 1, 8, none⟩ (.string c.bo))).setCell ⟨w.heap.size + 1 + 1, 9, none⟩ (.int .i64 c.cnt)).heap[w.heap.size]? = some (.cells #[.slice ta c.ts.length tc, .slice la c.xs.length lc, .int .i64 c.bg, .int .i64 c.li, .int .i64 c.en, .slice na c.ns.length nc, .slice ua c.bv.length uc, .slice xa c.bc.length xc, .string c.bo, .int .i64 c.cnt, .slice ka c.ks.length kc, .int .i64 c.now, .int .i64 c.tries, .bool c.over, .slice ga c.fv.length gc, .slice ha c.fc.length hc, .string c.fo] 32 (0, 0)) := (Below.heap_setCell _ _ _ _ (by show w.heap.size ≠ w.heap.size + 1 + 1; omega)).trans gA2
  have gZ3 : (((((w3.setCell ⟨w.heap.size + 1 + 1, 6, none⟩ (.slice ub c.bv.length ud)).setCell ⟨w.heap.size + 1 + 1, 7, none⟩ (.slice xb c.bc.length xd)).setCell ⟨w.heap.size + 1 + 1, 8, none⟩ (.string c.bo))).setCell ⟨w.heap.size + 1 + 1, 9, none⟩ (.int .i64 c.cnt)).heap[w.heap.size + 1]? = some (.cells #[.slice none 0 0, .slice none 0 0, .int .i64 0, .int .i64 0, .int .i64 0, .slice none 0 0, .slice none 0 0, .slice none 0 0, .string ⟨#[]⟩, .int .i64 0, .slice none 0 0, .int .i64 0, .int .i64 0, .bool false, .slice none 0 0, .slice none 0 0, .string ⟨#[]⟩] 43 (0, 0)) := (Below.heap_setCell _ _ _ _ (by show w.heap.size + 1 ≠ w.heap.size + 1 + 1; omega)).trans gZ2
  have gO3 : (((((w3.setCell ⟨w.heap.size + 1 + 1, 6, none⟩ (.slice ub c.bv.length ud)).setCell ⟨w.heap.size + 1 + 1, 7, none⟩ (.slice xb c.bc.length xd)).setCell ⟨w.heap.size + 1 + 1, 8, none⟩ (.string c.bo))).setCell ⟨w.heap.size + 1 + 1, 9, none⟩ (.int .i64 c.cnt)).heap[w.heap.size + 1 + 1]? = some (.cells #[(.slice tb c.ts.length td), (.slice lb c.xs.length ld), (.int .i64 c.bg), (.int .i64 c.li), (.int .i64 c.en), (.slice nb c.ns.length nd), (.slice ub c.bv.length ud), (.slice xb c.bc.length xd), (.string c.bo), (.int .i64 c.cnt), .slice none 0 0, .int .i64 0, .int .i64 0, .bool false, .slice none 0 0, .slice none 0 0, .string ⟨#[]⟩] 43 (0, 0)) := blk_set gO2 9 _
  have OT : ∀ q, n0 ≤ q → ((((w3.setCell ⟨w.heap.size + 1 + 1, 6, none⟩ (.slice ub c.bv.length ud)).setCell ⟨w.heap.size + 1 + 1, 7, none⟩ (.slice xb c.bc.length xd)).setCell ⟨w.heap.size + 1 + 1, 8, none⟩ (.string c.bo)).setCell ⟨w.heap.size + 1 + 1, 9, none⟩ (.int .i64 c.cnt)).heap[q]? = w3.heap[q]? := by
    intro q hq
    have := HN0.out.2
    rw [Below.heap_setCell _ _ _ _ (by show q ≠ w.heap.size + 1 + 1; omega), Below.heap_setCell _ _ _ _ (by show q ≠ w.heap.size + 1 + 1; omega), Below.heap_setCell _ _ _ _ (by show q ≠ w.heap.size + 1 + 1; omega), Below.heap_setCell _ _ _ _ (by show q ≠ w.heap.size + 1 + 1; omega)]
  have HAx := hidOfT gA3
  have HZx := hidOfT gZ3
  have HOx := hidOfT gO3
  have HBx : Hid (Below w.heap.size w ((((w3.setCell ⟨w.heap.size + 1 + 1, 6, none⟩ (.slice ub c.bv.length ud)).setCell ⟨w.heap.size + 1 + 1, 7, none⟩ (.slice xb c.bc.length xd)).setCell ⟨w.heap.size + 1 + 1, 8, none⟩ (.string c.bo)).setCell ⟨w.heap.size + 1 + 1, 9, none⟩ (.int .i64 c.cnt))) := ((((HBy.out.setCell (by show w.heap.size ≤ w.heap.size + 1 + 1; omega) (.slice ub c.bv.length ud)).setCell (by show w.heap.size ≤ w.heap.size + 1 + 1; omega) (.slice xb c.bc.length xd)).setCell (by show w.heap.size ≤ w.heap.size + 1 + 1; omega) (.string c.bo)).setCell (by show w.heap.size ≤ w.heap.size + 1 + 1; omega) (.int .i64 c.cnt))
  have HN3x : Hid (((((w3.setCell ⟨w.heap.size + 1 + 1, 6, none⟩ (.slice ub c.bv.length ud)).setCell ⟨w.heap.size + 1 + 1, 7, none⟩ (.slice xb c.bc.length xd)).setCell ⟨w.heap.size + 1 + 1, 8, none⟩ (.string c.bo)).setCell ⟨w.heap.size + 1 + 1, 9, none⟩ (.int .i64 c.cnt)).heap.size = n3 ∧ n2 ≤ n3) := ⟨by have := HN3.out.1; simpa [World.setCell] using this, HN3.out.2⟩
  have PTx : Hid (TxIn n0 m ((((w3.setCell ⟨w.heap.size + 1 + 1, 6, none⟩ (.slice ub c.bv.length ud)).setCell ⟨w.heap.size + 1 + 1, 7, none⟩ (.slice xb c.bc.length xd)).setCell ⟨w.heap.size + 1 + 1, 8, none⟩ (.string c.bo)).setCell ⟨w.heap.size + 1 + 1, 9, none⟩ (.int .i64 c.cnt)) (.slice tb c.ts.length td) c.ts) := PTy.out.keep (fun q q1 q2 => OT q (by have := HN0.out; have := HN1.out; have := HN2.out; have := HN3.out; have := HM.out; omega))
  have PIx : Hid (InIn m n1 ((((w3.setCell ⟨w.heap.size + 1 + 1, 6, none⟩ (.slice ub c.bv.length ud)).setCell ⟨w.heap.size + 1 + 1, 7, none⟩ (.slice xb c.bc.length xd)).setCell ⟨w.heap.size + 1 + 1, 8, none⟩ (.string c.bo)).setCell ⟨w.heap.size + 1 + 1, 9, none⟩ (.int .i64 c.cnt)) (.slice lb c.xs.length ld) c.xs) := PIy.out.keep (fun q q1 q2 => OT q (by have := HN0.out; have := HN1.out; have := HN2.out; have := HN3.out; have := HM.out; omega))
  have PNx : Hid (TxIn n1 n2 ((((w3.setCell ⟨w.heap.size + 1 + 1, 6, none⟩ (.slice ub c.bv.length ud)).setCell ⟨w.heap.size + 1 + 1, 7, none⟩ (.slice xb c.bc.length xd)).setCell ⟨w.heap.size + 1 + 1, 8, none⟩ (.string c.bo)).setCell ⟨w.heap.size + 1 + 1, 9, none⟩ (.int .i64 c.cnt)) (.slice nb c.ns.length nd) c.ns) := PNy.out.keep (fun q q1 q2 => OT q (by have := HN0.out; have := HN1.out; have := HN2.out; have := HN3.out; have := HM.out; omega))
  have PBx : Hid (StIn n2 n3 ((((w3.setCell ⟨w.heap.size + 1 + 1, 6, none⟩ (.slice ub c.bv.length ud)).setCell ⟨w.heap.size + 1 + 1, 7, none⟩ (.slice xb c.bc.length xd)).setCell ⟨w.heap.size + 1 + 1, 8, none⟩ (.string c.bo)).setCell ⟨w.heap.size + 1 + 1, 9, none⟩ (.int .i64 c.cnt)) (.slice ub c.bv.length ud) (.slice xb c.bc.length xd) c.bv c.bc) := PBy.out.keep (fun q q1 q2 => OT q (by have := HN0.out; have := HN1.out; have := HN2.out; have := HN3.out; have := HM.out; omega))
  clear OT gA0 gZ0 gO0 gA1 gZ1 gO1 gA2 gZ2 gO2 gA3 gZ3 gO3 HN3 HBy HAy HZy HOy PTy PIy PNy PBy
  go_wp2_with fail
  generalize ((((w3.setCell ⟨w.heap.size + 1 + 1, 6, none⟩ (.slice ub c.bv.length ud)).setCell ⟨w.heap.size + 1 + 1, 7, none⟩ (.slice xb c.bc.length xd)).setCell ⟨w.heap.size + 1 + 1, 8, none⟩ (.string c.bo)).setCell ⟨w.heap.size + 1 + 1, 9, none⟩ (.int .i64 c.cnt)) = X3 at *
  clear cA9 cA10 cO6 cO7 cO8 cO9 fO6 fO7 fO8 fO9
  have HA := hidOfT HAx.out
  have HZ := hidOfT HZx.out
  have HO := hidOfT HOx.out
  have HB := hidOfT HBx.out
  have HN3 := hidOfT HN3x.out
  have PT := hidOfT PTx.out
  have PI := hidOfT PIx.out
  have PN := hidOfT PNx.out
  have PB := hidOfT PBx.out
  clear HAx HZx HOx HBx HN3x PTx PIx PNx PBx
  refine (C4.out _ HB.out).mono ?_
  rintro e w4 ⟨kb, kd, f, rfl, hb, hr, hsm⟩
  have HAy := hidOfT ((hb.block _ (blk_lt HA.out)).trans HA.out)
  have HZy := hidOfT ((hb.block _ (blk_lt HZ.out)).trans HZ.out)
  have HOy := hidOfT ((hb.block _ (blk_lt HO.out)).trans HO.out)
  have HBy := hidOfT (HB.out.trans (hb.mono HB.out.size))
  obtain ⟨n4, hn4⟩ : ∃ n, n = w4.heap.size := ⟨_, rfl⟩
  have HN4 : Hid (w4.heap.size = n4 ∧ n3 ≤ n4) := ⟨hn4.symm, by have := hb.size; have := HN3.out; omega⟩
  have PTy : Hid (TxIn n0 m w4 (.slice tb c.ts.length td) c.ts) := PT.out.keep (fun q q1 q2 => hb.block q (by have := HM.out; have := HN0.out; have := HN1.out; have := HN2.out; have := HN3.out; omega))
  have PIy : Hid (InIn m n1 w4 (.slice lb c.xs.length ld) c.xs) := PI.out.keep (fun q q1 q2 => hb.block q (by have := HM.out; have := HN0.out; have := HN1.out; have := HN2.out; have := HN3.out; omega))
  have PNy : Hid (TxIn n1 n2 w4 (.slice nb c.ns.length nd) c.ns) := PN.out.keep (fun q q1 q2 => hb.block q (by have := HM.out; have := HN0.out; have := HN1.out; have := HN2.out; have := HN3.out; omega))
  have PBy : Hid (StIn n2 n3 w4 (.slice ub c.bv.length ud) (.slice xb c.bc.length xd) c.bv c.bc) := PB.out.keep (fun q q1 q2 => hb.block q (by have := HM.out; have := HN0.out; have := HN1.out; have := HN2.out; have := HN3.out; omega))
  have PKy : Hid (KsO n3 n4 w4 (.slice kb c.ks.length kd) c.ks.length f) := by rw [HN3.out.1, ← hn4] at hr; exact hr
  clear hn4 hb HB HA HZ HO PT PI PN PB hr C4
  have HSM := hidOfT hsm
  clear hsm
  have cA11 := (blk_cell HAy.out 11).trans rfl
  have cA12 := (blk_cell HAy.out 12).trans rfl
  have cA13 := (blk_cell HAy.out 13).trans rfl
  have cA14 := (blk_cell HAy.out 14).trans rfl
  have cA15 := (blk_cell HAy.out 15).trans rfl
  have cA16 := (blk_cell HAy.out 16).trans rfl
  have cO10 := (blk_cell HOy.out 10).trans rfl
  have cO11 := (blk_cell HOy.out 11).trans rfl
  have cO12 := (blk_cell HOy.out 12).trans rfl
  have cO13 := (blk_cell HOy.out 13).trans rfl
  have fO10 := blk_free HOy.out 10
  have fO11 := blk_free HOy.out 11
  have fO12 := blk_free HOy.out 12
  have fO13 := blk_free HOy.out 13
  have gA0 : ((w4).setCell ⟨w.heap.size + 1 + 1, 10, none⟩ (.slice kb c.ks.length kd)).heap[w.heap.size]? = some (.cells #[.slice ta c.ts.length tc, .slice la c.xs.length lc, .int .i64 c.bg, .int .i64 c.li, .int .i64 c.en, .slice na c.ns.length nc, .slice ua c.bv.length uc, .slice xa c.bc.length xc, .string c.bo, .int .i64 c.cnt, .slice ka c.ks.length kc, .int .i64 c.now, .int .i64 c.tries, .bool c.over, .slice ga c.fv.length gc, .slice ha c.fc.length hc, .string c.fo] 32 (0, 0)) := (Below.heap_setCell _ _ _ _ (by show w.heap.size ≠ w.heap.size + 1 + 1; omega)).trans HAy.out
  have gZ0 : ((w4).setCell ⟨w.heap.size + 1 + 1, 10, none⟩ (.slice kb c.ks.length kd)).heap[w.heap.size + 1]? = some (.cells #[.slice none 0 0, .slice none 0 0, .int .i64 0, .int .i64 0, .int .i64 0, .slice none 0 0, .slice none 0 0, .slice none 0 0, .string ⟨#[]⟩, .int .i64 0, .slice none 0 0, .int .i64 0, .int .i64 0, .bool false, .slice none 0 0, .slice none 0 0, .string ⟨#[]⟩] 43 (0, 0)) := (Below.heap_setCell _ _ _ _ (by show w.heap.size + 1 ≠ w.heap.size + 1 + 1; omega)).trans HZy.out
  have gO0 : ((w4).setCell ⟨w.heap.size + 1 + 1, 10, none⟩ (.slice kb c.ks.length kd)).heap[w.heap.size + 1 + 1]? = some (.cells #[(.slice tb c.ts.length td), (.slice lb c.xs.length ld), (.int .i64 c.bg), (.int .i64 c.li), (.int .i64 c.en), (.slice nb c.ns.length nd), (.slice ub c.bv.length ud), (.slice xb c.bc.length xd), (.string c.bo), (.int .i64 c.cnt), (.slice kb c.ks.length kd), .int .i64 0, .int .i64 0, .bool false, .slice none 0 0, .slice none 0 0, .string ⟨#[]⟩] 43 (0, 0)) := blk_set HOy.out 10 _
  have gA1 : (((w4.setCell ⟨w.heap.size + 1 + 1, 10, none⟩ (.slice kb c.ks.length kd))).setCell ⟨w.heap.size + 1 + 1, 11, none⟩ (.int .i64 c.now)).heap[w.heap.size]? = some (.cells #[.slice ta c.ts.length tc, .slice la c.xs.length lc, .int .i64 c.bg, .int .i64 c.li, .int .i64 c.en, .slice na c.ns.length nc, .slice ua c.bv.length uc, .slice xa c.bc.length xc, .string c.bo, .int .i64 c.cnt, .slice ka c.ks.length kc, .int .i64 c.now, .int .i64 c.tries, .bool c.over, .slice ga c.fv.length gc, .slice ha c.fc.length hc, .string c.fo] 32 (0, 0)) := (Below.heap_setCell _ _ _ _ (by show w.heap.size ≠ w.heap.size + 1 + 1; omega)).trans gA0
  have gZ1 : (((w4.setCell ⟨w.heap.size + 1 + 1, 10, none⟩ (.slice kb c.ks.length kd))).setCell ⟨w.heap.size + 1 + 1, 11, none⟩ (.int .i64 c.now)).heap[w.heap.size + 1]? = some (.cells #[.slice none 0 0, .slice none 0 0, .int .i64 0, .int .i64 0, .int .i64 0, .slice none 0 0, .slice none 0 0, .slice none 0 0, .string ⟨#[]⟩, .int .i64 0, .slice none 0 0, .int .i64 0, .int .i64 0, .bool false, .slice none 0 0, .slice none 0 0, .string ⟨#[]⟩] 43 (0, 0)) := (Below.heap_setCell _ _ _ _ (by show w.heap.size + 1 ≠ w.heap.size + 1 + 1; omega)).trans gZ0
  have gO1 : (((w4.setCell ⟨w.heap.size + 1 + 1, 10, none⟩ (.slice kb c.ks.length kd))).setCell ⟨w.heap.size + 1 + 1, 11, none⟩ (.int .i64 c.now)).heap[w.heap.size + 1 + 1]? = some (.cells #[(.slice tb c.ts.length td), (.slice lb c.xs.length ld), (.int .i64 c.bg), (.int .i64 c.li), (.int .i64 c.en), (.slice nb c.ns.length nd), (.slice ub c.bv.length ud), (.slice xb c.bc.length xd), (.string c.bo), (.int .i64 c.cnt), (.slice kb c.ks.length kd), (.int .i64 c.now), .int .i64 0, .bool false, .slice none 0 0, .slice none 0 0, .string ⟨#[]⟩] 43 (0, 0)) := blk_set gO0 11 _
  have gA2 : ((((w4.setCell ⟨w.heap.size + 1 + 1, 10, none⟩ (.slice kb c.ks.length kd)).setCell ⟨w.heap.size + 1 + 1, 11, none⟩ (.int .i64 c.now))).setCell ⟨w.heap.size + 1 + 1, 12, none⟩ (.int .i64 c.tries)).heap[w.heap.size]? = some (.cells #[.slice ta c.ts.length tc, .slice la c.xs.length lc, .int .i64 c.bg, .int .i64 c.li, .int .i64 c.en, .slice na c.ns.length nc, .slice ua c.bv.length uc, .slice xa c.bc.length xc, .string c.bo, .int .i64 c.cnt, .slice ka c.ks.length kc, .int .i64 c.now, .int .i64 c.tries, .bool c.over, .slice ga c.fv.length gc, .slice ha c.fc.length hc, .string c.fo] 32 (0, 0)) := (Below.heap_setCell _ _ _ _ (by show w.heap.size ≠ w.heap.size + 1 + 1; omega)).trans gA1
  have gZ2 : ((((w4.setCell ⟨w.heap.size + 1 + 1, 10, none⟩ (.slice kb c.ks.length kd)).setCell ⟨w.heap.size + 1 + 1, 11, none⟩ (.int .i64 c.now))).setCell ⟨w.heap.size + 1 + 1, 12, none⟩ (.int .i64 c.tries)).heap[w.heap.size + 1]? = some (.cells #[.slice none 0 0, .slice none 0 0, .int .i64 0, .int .i64 0, .int .i64 0, .slice none 0 0, .slice none 0 0, .slice none 0 0, .string ⟨#[]⟩, .int .i64 0, .slice none 0 0, .int .i64 0, .int .i64 0, .bool false, .slice none 0 0, .slice none 0 0, .string ⟨#[]⟩] 43 (0, 0)) := (Below.heap_setCell _ _ _ _ (by show w.heap.size + 1 ≠ w.heap.size + 1 + 1; omega)).trans gZ1
  have gO2 : ((((w4.setCell ⟨w.heap.size + 1 + 1, 10, none⟩ (.slice kb c.ks.length kd)).setCell ⟨w.heap.size + 1 + 1, 11, none⟩ (.int .i64 c.now))).setCell ⟨w.heap.size + 1 + 1, 12, none⟩ (.int .i64 c.tries)).heap[w.heap.size + 1 + 1]? = some (.cells #[(.slice tb c.ts.length td), (.slice lb c.xs.length ld), (.int .i64 c.bg), (.int .i64 c.li), (.int .i64 c.en), (.slice nb c.ns.length nd), (.slice ub c.bv.length ud), (.slice xb c.bc.length xd), (.string c.bo), (.int .i64 c.cnt), (.slice kb c.ks.length kd), (.int .i64 c.now), (.int .i64 c.tries), .bool false, .slice none 0 0, .slice none 0 0, .string ⟨#[]⟩] 43 (0, 0)) := blk_set gO1 12 _
  have gA3 : (((((w4.setCell ⟨w.heap.size + 1 + 1, 10, none⟩ (.slice kb c.ks.length kd)).setCell ⟨w.heap.size + 1 + 1, 11, none⟩ (.int .i64 c.now)).setCell ⟨w.heap.size + 1 + 1, 12, none⟩ (.int .i64 c.tries))).setCell ⟨w.heap.size + 1 + 1, 13, none⟩ (.bool c.over)).heap[w.heap.size]? = some (.cells #[.slice ta c.ts.length tc, .slice la c.xs.length lc, .int .i64 c.bg, .int .i64 c.li, .int .i64 c.en, .slice na c.ns.length nc, .slice ua c.bv.length uc, .slice xa c.bc.length xc, .string c.bo, .int .i64 c.cnt, .slice ka c.ks.length kc, .int .i64 c.now, .int .i64 c.tries, .bool c.over, .slice ga c.fv.length gc, .slice ha c.fc.length hc, .string c.fo] 32 (0, 0)) := (Below.heap_setCell _ _ _ _ (by show w.heap.size ≠ w.heap.size + 1 + 1; omega)).trans gA2
  have gZ3 : (((((w4.setCell ⟨w.heap.size + 1 + 1, 10, none⟩ (.slice kb c.ks.length kd)).setCell ⟨w.heap.size + 1 + 1, 11, none⟩ (.int .i64 c.now)).setCell ⟨w.heap.size + 1 + 1, 12, none⟩ (.int .i64 c.tries))).setCell ⟨w.heap.size + 1 + 1, 13, none⟩ (.bool c.over)).heap[w.heap.size + 1]? = some (.cells #[.slice none 0 0, .slice none 0 0, .int .i64 0, .int .i64 0, .int .i64 0, .slice none 0 0, .slice none 0 0, .slice none 0 0, .string ⟨#[]⟩, .int .i64 0, .slice none 0 0, .int .i64 0, .int .i64 0, .bool false, .slice none 0 0, .slice none 0 0, .string ⟨#[]⟩] 43 (0, 0)) := (Below.heap_setCell _ _ _ _ (by show w.heap.size + 1 ≠ w.heap.size + 1 + 1; omega)).trans gZ2
  have gO3 : (((((w4.setCell ⟨w.heap.size + 1 + 1, 10, none⟩ (.slice kb c.ks.length kd)).setCell ⟨w.heap.size + 1 + 1, 11, none⟩ (.int .i64 c.now)).setCell ⟨w.heap.size + 1 + 1, 12, none⟩ (.int .i64 c.tries))).setCell ⟨w.heap.size + 1 + 1, 13, none⟩ (.bool c.over)).heap[w.heap.size + 1 + 1]? = some (.cells #[(.slice tb c.ts.length td), (.slice lb c.xs.length ld), (.int .i64 c.bg), (.int .i64 c.li), (.int .i64 c.en), (.slice nb c.ns.length nd), (.slice ub c.bv.length ud), (.slice xb c.bc.length xd), (.string c.bo), (.int .i64 c.cnt), (.slice kb c.ks.length kd), (.int .i64 c.now), (.int .i64 c.tries), (.bool c.over), .slice none 0 0, .slice none 0 0, .string ⟨#[]⟩] 43 (0, 0)) := blk_set gO2 13 _
  have OT : ∀ q, n0 ≤ q → ((((w4.setCell ⟨w.heap.size + 1 + 1, 10, none⟩ (.slice kb c.ks.length kd)).setCell ⟨w.heap.size + 1 + 1, 11, none⟩ (.int .i64 c.now)).setCell ⟨w.heap.size + 1 + 1, 12, none⟩ (.int .i64 c.tries)).setCell ⟨w.heap.size + 1 + 1, 13, none⟩ (.bool c.over)).heap[q]? = w4.heap[q]? := by
    intro q hq
    have := HN0.out.2
    rw [Below.heap_setCell _ _ _ _ (by show q ≠ w.heap.size + 1 + 1; omega), Below.heap_setCell _ _ _ _ (by show q ≠ w.heap.size + 1 + 1; omega), Below.heap_setCell _ _ _ _ (by show q ≠ w.heap.size + 1 + 1; omega), Below.heap_setCell _ _ _ _ (by show q ≠ w.heap.size + 1 + 1; omega)]
  have HAx := hidOfT gA3
  have HZx := hidOfT gZ3
  have HOx := hidOfT gO3
  have HBx : Hid (Below w.heap.size w ((((w4.setCell ⟨w.heap.size + 1 + 1, 10, none⟩ (.slice kb c.ks.length kd)).setCell ⟨w.heap.size + 1 + 1, 11, none⟩ (.int .i64 c.now)).setCell ⟨w.heap.size + 1 + 1, 12, none⟩ (.int .i64 c.tries)).setCell ⟨w.heap.size + 1 + 1, 13, none⟩ (.bool c.over))) := ((((HBy.out.setCell (by show w.heap.size ≤ w.heap.size + 1 + 1; omega) (.slice kb c.ks.length kd)).setCell (by show w.heap.size ≤ w.heap.size + 1 + 1; omega) (.int .i64 c.now)).setCell (by show w.heap.size ≤ w.heap.size + 1 + 1; omega) (.int .i64 c.tries)).setCell (by show w.heap.size ≤ w.heap.size + 1 + 1; omega) (.bool c.over))
  have HN4x : Hid (((((w4.setCell ⟨w.heap.size + 1 + 1, 10, none⟩ (.slice kb c.ks.length kd)).setCell ⟨w.heap.size + 1 + 1, 11, none⟩ (.int .i64 c.now)).setCell ⟨w.heap.size + 1 + 1, 12, none⟩ (.int .i64 c.tries)).setCell ⟨w.heap.size + 1 + 1, 13, none⟩ (.bool c.over)).heap.size = n4 ∧ n3 ≤ n4) := ⟨by have := HN4.out.1; simpa [World.setCell] using this, HN4.out.2⟩
  have PTx : Hid (TxIn n0 m ((((w4.setCell ⟨w.heap.size + 1 + 1, 10, none⟩ (.slice kb c.ks.length kd)).setCell ⟨w.heap.size + 1 + 1, 11, none⟩ (.int .i64 c.now)).setCell ⟨w.heap.size + 1 + 1, 12, none⟩ (.int .i64 c.tries)).setCell ⟨w.heap.size + 1 + 1, 13, none⟩ (.bool c.over)) (.slice tb c.ts.length td) c.ts) := PTy.out.keep (fun q q1 q2 => OT q (by have := HN0.out; have := HN1.out; have := HN2.out; have := HN3.out; have := HN4.out; have := HM.out; omega))
  have PIx : Hid (InIn m n1 ((((w4.setCell ⟨w.heap.size + 1 + 1, 10, none⟩ (.slice kb c.ks.length kd)).setCell ⟨w.heap.size + 1 + 1, 11, none⟩ (.int .i64 c.now)).setCell ⟨w.heap.size + 1 + 1, 12, none⟩ (.int .i64 c.tries)).setCell ⟨w.heap.size + 1 + 1, 13, none⟩ (.bool c.over)) (.slice lb c.xs.length ld) c.xs) := PIy.out.keep (fun q q1 q2 => OT q (by have := HN0.out; have := HN1.out; have := HN2.out; have := HN3.out; have := HN4.out; have := HM.out; omega))
  have PNx : Hid (TxIn n1 n2 ((((w4.setCell ⟨w.heap.size + 1 + 1, 10, none⟩ (.slice kb c.ks.length kd)).setCell ⟨w.heap.size + 1 + 1, 11, none⟩ (.int .i64 c.now)).setCell ⟨w.heap.size + 1 + 1, 12, none⟩ (.int .i64 c.tries)).setCell ⟨w.heap.size + 1 + 1, 13, none⟩ (.bool c.over)) (.slice nb c.ns.length nd) c.ns) := PNy.out.keep (fun q q1 q2 => OT q (by have := HN0.out; have := HN1.out; have := HN2.out; have := HN3.out; have := HN4.out; have := HM.out; omega))
  have PBx : Hid (StIn n2 n3 ((((w4.setCell ⟨w.heap.size + 1 + 1, 10, none⟩ (.slice kb c.ks.length kd)).setCell ⟨w.heap.size + 1 + 1, 11, none⟩ (.int .i64 c.now)).setCell ⟨w.heap.size + 1 + 1, 12, none⟩ (.int .i64 c.tries)).setCell ⟨w.heap.size + 1 + 1, 13, none⟩ (.bool c.over)) (.slice ub c.bv.length ud) (.slice xb c.bc.length xd) c.bv c.bc) := PBy.out.keep (fun q q1 q2 => OT q (by have := HN0.out; have := HN1.out; have := HN2.out; have := HN3.out; have := HN4.out; have := HM.out; omega))
  have PKx : Hid (KsO n3 n4 ((((w4.setCell ⟨w.heap.size + 1 + 1, 10, none⟩ (.slice kb c.ks.length kd)).setCell ⟨w.heap.size + 1 + 1, 11, none⟩ (.int .i64 c.now)).setCell ⟨w.heap.size + 1 + 1, 12, none⟩ (.int .i64 c.tries)).setCell ⟨w.heap.size + 1 + 1, 13, none⟩ (.bool c.over)) (.slice kb c.ks.length kd) c.ks.length f) := PKy.out.keep (fun q q1 q2 => OT q (by have := HN0.out; have := HN1.out; have := HN2.out; have := HN3.out; have := HN4.out; have := HM.out; omega))
  clear OT gA0 gZ0 gO0 gA1 gZ1 gO1 gA2 gZ2 gO2 gA3 gZ3 gO3 HN4 HBy HAy HZy HOy PTy PIy PNy PBy PKy
  go_wp2_with fail
  generalize ((((w4.setCell ⟨w.heap.size + 1 + 1, 10, none⟩ (.slice kb c.ks.length kd)).setCell ⟨w.heap.size + 1 + 1, 11, none⟩ (.int .i64 c.now)).setCell ⟨w.heap.size + 1 + 1, 12, none⟩ (.int .i64 c.tries)).setCell ⟨w.heap.size + 1 + 1, 13, none⟩ (.bool c.over)) = X4 at *
  clear cA11 cA12 cA13 cA14 cA15 cA16 cO10 cO11 cO12 cO13 fO10 fO11 fO12 fO13
  have HA := hidOfT HAx.out
  have HZ := hidOfT HZx.out
  have HO := hidOfT HOx.out
  have HB := hidOfT HBx.out
  have HN4 := hidOfT HN4x.out
  have PT := hidOfT PTx.out
  have PI := hidOfT PIx.out
  have PN := hidOfT PNx.out
  have PB := hidOfT PBx.out
  have PK := hidOfT PKx.out
  clear HAx HZx HOx HBx HN4x PTx PIx PNx PBx PKx
  refine (C5.out _ HB.out).mono ?_
  rintro e w5 ⟨gb, gd, hb1, hd, rfl, hb, hr⟩
  have HAy := hidOfT ((hb.block _ (blk_lt HA.out)).trans HA.out)
  have HZy := hidOfT ((hb.block _ (blk_lt HZ.out)).trans HZ.out)
  have HOy := hidOfT ((hb.block _ (blk_lt HO.out)).trans HO.out)
  have HBy := hidOfT (HB.out.trans (hb.mono HB.out.size))
  obtain ⟨n5, hn5⟩ : ∃ n, n = w5.heap.size := ⟨_, rfl⟩
  have HN5 : Hid (w5.heap.size = n5 ∧ n4 ≤ n5) := ⟨hn5.symm, by have := hb.size; have := HN4.out; omega⟩
  have PTy : Hid (TxIn n0 m w5 (.slice tb c.ts.length td) c.ts) := PT.out.keep (fun q q1 q2 => hb.block q (by have := HM.out; have := HN0.out; have := HN1.out; have := HN2.out; have := HN3.out; have := HN4.out; omega))
  have PIy : Hid (InIn m n1 w5 (.slice lb c.xs.length ld) c.xs) := PI.out.keep (fun q q1 q2 => hb.block q (by have := HM.out; have := HN0.out; have := HN1.out; have := HN2.out; have := HN3.out; have := HN4.out; omega))
  have PNy : Hid (TxIn n1 n2 w5 (.slice nb c.ns.length nd) c.ns) := PN.out.keep (fun q q1 q2 => hb.block q (by have := HM.out; have := HN0.out; have := HN1.out; have := HN2.out; have := HN3.out; have := HN4.out; omega))
  have PBy : Hid (StIn n2 n3 w5 (.slice ub c.bv.length ud) (.slice xb c.bc.length xd) c.bv c.bc) := PB.out.keep (fun q q1 q2 => hb.block q (by have := HM.out; have := HN0.out; have := HN1.out; have := HN2.out; have := HN3.out; have := HN4.out; omega))
  have PKy : Hid (KsO n3 n4 w5 (.slice kb c.ks.length kd) c.ks.length f) := PK.out.keep (fun q q1 q2 => hb.block q (by have := HM.out; have := HN0.out; have := HN1.out; have := HN2.out; have := HN3.out; have := HN4.out; omega))
  have PFy : Hid (StIn n4 n5 w5 (.slice gb c.fv.length gd) (.slice hb1 c.fc.length hd) c.fv c.fc) := by rw [HN4.out.1, ← hn5] at hr; exact hr
  clear hn5 hb HB HA HZ HO PT PI PN PB PK hr C5
  have cO14 := (blk_cell HOy.out 14).trans rfl
  have cO15 := (blk_cell HOy.out 15).trans rfl
  have cO16 := (blk_cell HOy.out 16).trans rfl
  have fO14 := blk_free HOy.out 14
  have fO15 := blk_free HOy.out 15
  have fO16 := blk_free HOy.out 16
  have gA0 : ((w5).setCell ⟨w.heap.size + 1 + 1, 14, none⟩ (.slice gb c.fv.length gd)).heap[w.heap.size]? = some (.cells #[.slice ta c.ts.length tc, .slice la c.xs.length lc, .int .i64 c.bg, .int .i64 c.li, .int .i64 c.en, .slice na c.ns.length nc, .slice ua c.bv.length uc, .slice xa c.bc.length xc, .string c.bo, .int .i64 c.cnt, .slice ka c.ks.length kc, .int .i64 c.now, .int .i64 c.tries, .bool c.over, .slice ga c.fv.length gc, .slice ha c.fc.length hc, .string c.fo] 32 (0, 0)) := (Below.heap_setCell _ _ _ _ (by show w.heap.size ≠ w.heap.size + 1 + 1; omega)).trans HAy.out
  have gZ0 : ((w5).setCell ⟨w.heap.size + 1 + 1, 14, none⟩ (.slice gb c.fv.length gd)).heap[w.heap.size + 1]? = some (.cells #[.slice none 0 0, .slice none 0 0, .int .i64 0, .int .i64 0, .int .i64 0, .slice none 0 0, .slice none 0 0, .slice none 0 0, .string ⟨#[]⟩, .int .i64 0, .slice none 0 0, .int .i64 0, .int .i64 0, .bool false, .slice none 0 0, .slice none 0 0, .string ⟨#[]⟩] 43 (0, 0)) := (Below.heap_setCell _ _ _ _ (by show w.heap.size + 1 ≠ w.heap.size + 1 + 1; omega)).trans HZy.out
  have gO0 : ((w5).setCell ⟨w.heap.size + 1 + 1, 14, none⟩ (.slice gb c.fv.length gd)).heap[w.heap.size + 1 + 1]? = some (.cells #[(.slice tb c.ts.length td), (.slice lb c.xs.length ld), (.int .i64 c.bg), (.int .i64 c.li), (.int .i64 c.en), (.slice nb c.ns.length nd), (.slice ub c.bv.length ud), (.slice xb c.bc.length xd), (.string c.bo), (.int .i64 c.cnt), (.slice kb c.ks.length kd), (.int .i64 c.now), (.int .i64 c.tries), (.bool c.over), (.slice gb c.fv.length gd), .slice none 0 0, .string ⟨#[]⟩] 43 (0, 0)) := blk_set HOy.out 14 _
  have gA1 : (((w5.setCell ⟨w.heap.size + 1 + 1, 14, none⟩ (.slice gb c.fv.length gd))).setCell ⟨w.heap.size + 1 + 1, 15, none⟩ (.slice hb1 c.fc.length hd)).heap[w.heap.size]? = some (.cells #[.slice ta c.ts.length tc, .slice la c.xs.length lc, .int .i64 c.bg, .int .i64 c.li, .int .i64 c.en, .slice na c.ns.length nc, .slice ua c.bv.length uc, .slice xa c.bc.length xc, .string c.bo, .int .i64 c.cnt, .slice ka c.ks.length kc, .int .i64 c.now, .int .i64 c.tries, .bool c.over, .slice ga c.fv.length gc, .slice ha c.fc.length hc, .string c.fo] 32 (0, 0)) := (Below.heap_setCell _ _ _ _ (by show w.heap.size ≠ w.heap.size + 1 + 1; omega)).trans gA0
  have gZ1 : (((w5.setCell ⟨w.heap.size + 1 + 1, 14, none⟩ (.slice gb c.fv.length gd))).setCell ⟨w.heap.size + 1 + 1, 15, none⟩ (.slice hb1 c.fc.length hd)).heap[w.heap.size + 1]? = some (.cells #[.slice none 0 0, .slice none 0 0, .int .i64 0, .int .i64 0, .int .i64 0, .slice none 0 0, .slice none 0 0, .slice none 0 0, .string ⟨#[]⟩, .int .i64 0, .slice none 0 0, .int .i64 0, .int .i64 0, .bool false, .slice none 0 0, .slice none 0 0, .string ⟨#[]⟩] 43 (0, 0)) := (Below.heap_setCell _ _ _ _ (by show w.heap.size + 1 ≠ w.heap.size + 1 + 1; omega)).trans gZ0
  have gO1 : (((w5.setCell ⟨w.heap.size + 1 + 1, 14, none⟩ (.slice gb c.fv.length gd))).setCell ⟨w.heap.size + 1 + 1, 15, none⟩ (.slice hb1 c.fc.length hd)).heap[w.heap.size + 1 + 1]? = some (.cells #[(.slice tb c.ts.length td), (.slice lb c.xs.length ld), (.int .i64 c.bg), (.int .i64 c.li), (.int .i64 c.en), (.slice nb c.ns.length nd), (.slice ub c.bv.length ud), (.slice xb c.bc.length xd), (.string c.bo), (.int .i64 c.cnt), (.slice kb c.ks.length kd), (.int .i64 c.now), (.int .i64 c.tries), (.bool c.over), (.slice gb c.fv.length gd), (.slice hb1 c.fc.length hd), .string ⟨#[]⟩] 43 (0, 0)) := blk_set gO0 15 _
  have gA2 : ((((w5.setCell ⟨w.heap.size + 1 + 1, 14, none⟩ (.slice gb c.fv.length gd)).setCell ⟨w.heap.size + 1 + 1, 15, none⟩ (.slice hb1 c.fc.length hd))).setCell ⟨w.heap.size + 1 + 1, 16, none⟩ (.string c.fo)).heap[w.heap.size]? = some (.cells #[.slice ta c.ts.length tc, .slice la c.xs.length lc, .int .i64 c.bg, .int .i64 c.li, .int .i64 c.en, .slice na c.ns.length nc, .slice ua c.bv.length uc, .slice xa c.bc.length xc, .string c.bo, .int .i64 c.cnt, .slice ka c.ks.length kc, .int .i64 c.now, .int .i64 c.tries, .bool c.over, .slice ga c.fv.length gc, .slice ha c.fc.length hc, .string c.fo] 32 (0, 0)) := (Below.heap_setCell _ _ _ _ (by show w.heap.size ≠ w.heap.size + 1 + 1; omega)).trans gA1
  have gZ2 : ((((w5.setCell ⟨w.heap.size + 1 + 1, 14, none⟩ (.slice gb c.fv.length gd)).setCell ⟨w.heap.size + 1 + 1, 15, none⟩ (.slice hb1 c.fc.length hd))).setCell ⟨w.heap.size + 1 + 1, 16, none⟩ (.string c.fo)).heap[w.heap.size + 1]? = some (.cells #[.slice none 0 0, .slice none 0 0, .int .i64 0, .int .i64 0, .int .i64 0, .slice none 0 0, .slice none 0 0, .slice none 0 0, .string ⟨#[]⟩, .int .i64 0, .slice none 0 0, .int .i64 0, .int .i64 0, .bool false, .slice none 0 0, .slice none 0 0, .string ⟨#[]⟩] 43 (0, 0)) := (Below.heap_setCell _ _ _ _ (by show w.heap.size + 1 ≠ w.heap.size + 1 + 1; omega)).trans gZ1
  have gO2 : ((((w5.setCell ⟨w.heap.size + 1 + 1, 14, none⟩ (.slice gb c.fv.length gd)).setCell ⟨w.heap.size + 1 + 1, 15, none⟩ (.slice hb1 c.fc.length hd))).setCell ⟨w.heap.size + 1 + 1, 16, none⟩ (.string c.fo)).heap[w.heap.size + 1 + 1]? = some (.cells #[(.slice tb c.ts.length td), (.slice lb c.xs.length ld), (.int .i64 c.bg), (.int .i64 c.li), (.int .i64 c.en), (.slice nb c.ns.length nd), (.slice ub c.bv.length ud), (.slice xb c.bc.length xd), (.string c.bo), (.int .i64 c.cnt), (.slice kb c.ks.length kd), (.int .i64 c.now), (.int .i64 c.tries), (.bool c.over), (.slice gb c.fv.length gd), (.slice hb1 c.fc.length hd), (.string c.fo)] 43 (0, 0)) := blk_set gO1 16 _
  have OT : ∀ q, n0 ≤ q → (((w5.setCell ⟨w.heap.size + 1 + 1, 14, none⟩ (.slice gb c.fv.length gd)).setCell ⟨w.heap.size + 1 + 1, 15, none⟩ (.slice hb1 c.fc.length hd)).setCell ⟨w.heap.size + 1 + 1, 16, none⟩ (.string c.fo)).heap[q]? = w5.heap[q]? := by
    intro q hq
    have := HN0.out.2
    rw [Below.heap_setCell _ _ _ _ (by show q ≠ w.heap.size + 1 + 1; omega), Below.heap_setCell _ _ _ _ (by show q ≠ w.heap.size + 1 + 1; omega), Below.heap_setCell _ _ _ _ (by show q ≠ w.heap.size + 1 + 1; omega)]
  have HAx := hidOfT gA2
  have HZx := hidOfT gZ2
  have HOx := hidOfT gO2
  have HBx : Hid (Below w.heap.size w (((w5.setCell ⟨w.heap.size + 1 + 1, 14, none⟩ (.slice gb c.fv.length gd)).setCell ⟨w.heap.size + 1 + 1, 15, none⟩ (.slice hb1 c.fc.length hd)).setCell ⟨w.heap.size + 1 + 1, 16, none⟩ (.string c.fo))) := (((HBy.out.setCell (by show w.heap.size ≤ w.heap.size + 1 + 1; omega) (.slice gb c.fv.length gd)).setCell (by show w.heap.size ≤ w.heap.size + 1 + 1; omega) (.slice hb1 c.fc.length hd)).setCell (by show w.heap.size ≤ w.heap.size + 1 + 1; omega) (.string c.fo))
  have HN5x : Hid ((((w5.setCell ⟨w.heap.size + 1 + 1, 14, none⟩ (.slice gb c.fv.length gd)).setCell ⟨w.heap.size + 1 + 1, 15, none⟩ (.slice hb1 c.fc.length hd)).setCell ⟨w.heap.size + 1 + 1, 16, none⟩ (.string c.fo)).heap.size = n5 ∧ n4 ≤ n5) := ⟨by have := HN5.out.1; simpa [World.setCell] using this, HN5.out.2⟩
  have PTx : Hid (TxIn n0 m (((w5.setCell ⟨w.heap.size + 1 + 1, 14, none⟩ (.slice gb c.fv.length gd)).setCell ⟨w.heap.size + 1 + 1, 15, none⟩ (.slice hb1 c.fc.length hd)).setCell ⟨w.heap.size + 1 + 1, 16, none⟩ (.string c.fo)) (.slice tb c.ts.length td) c.ts) := PTy.out.keep (fun q q1 q2 => OT q (by have := HN0.out; have := HN1.out; have := HN2.out; have := HN3.out; have := HN4.out; have := HN5.out; have := HM.out; omega))
  have PIx : Hid (InIn m n1 (((w5.setCell ⟨w.heap.size + 1 + 1, 14, none⟩ (.slice gb c.fv.length gd)).setCell ⟨w.heap.size + 1 + 1, 15, none⟩ (.slice hb1 c.fc.length hd)).setCell ⟨w.heap.size + 1 + 1, 16, none⟩ (.string c.fo)) (.slice lb c.xs.length ld) c.xs) := PIy.out.keep (fun q q1 q2 => OT q (by have := HN0.out; have := HN1.out; have := HN2.out; have := HN3.out; have := HN4.out; have := HN5.out; have := HM.out; omega))
  have PNx : Hid (TxIn n1 n2 (((w5.setCell ⟨w.heap.size + 1 + 1, 14, none⟩ (.slice gb c.fv.length gd)).setCell ⟨w.heap.size + 1 + 1, 15, none⟩ (.slice hb1 c.fc.length hd)).setCell ⟨w.heap.size + 1 + 1, 16, none⟩ (.string c.fo)) (.slice nb c.ns.length nd) c.ns) := PNy.out.keep (fun q q1 q2 => OT q (by have := HN0.out; have := HN1.out; have := HN2.out; have := HN3.out; have := HN4.out; have := HN5.out; have := HM.out; omega))
  have PBx : Hid (StIn n2 n3 (((w5.setCell ⟨w.heap.size + 1 + 1, 14, none⟩ (.slice gb c.fv.length gd)).setCell ⟨w.heap.size + 1 + 1, 15, none⟩ (.slice hb1 c.fc.length hd)).setCell ⟨w.heap.size + 1 + 1, 16, none⟩ (.string c.fo)) (.slice ub c.bv.length ud) (.slice xb c.bc.length xd) c.bv c.bc) := PBy.out.keep (fun q q1 q2 => OT q (by have := HN0.out; have := HN1.out; have := HN2.out; have := HN3.out; have := HN4.out; have := HN5.out; have := HM.out; omega))
  have PKx : Hid (KsO n3 n4 (((w5.setCell ⟨w.heap.size + 1 + 1, 14, none⟩ (.slice gb c.fv.length gd)).setCell ⟨w.heap.size + 1 + 1, 15, none⟩ (.slice hb1 c.fc.length hd)).setCell ⟨w.heap.size + 1 + 1, 16, none⟩ (.string c.fo)) (.slice kb c.ks.length kd) c.ks.length f) := PKy.out.keep (fun q q1 q2 => OT q (by have := HN0.out; have := HN1.out; have := HN2.out; have := HN3.out; have := HN4.out; have := HN5.out; have := HM.out; omega))
  have PFx : Hid (StIn n4 n5 (((w5.setCell ⟨w.heap.size + 1 + 1, 14, none⟩ (.slice gb c.fv.length gd)).setCell ⟨w.heap.size + 1 + 1, 15, none⟩ (.slice hb1 c.fc.length hd)).setCell ⟨w.heap.size + 1 + 1, 16, none⟩ (.string c.fo)) (.slice gb c.fv.length gd) (.slice hb1 c.fc.length hd) c.fv c.fc) := PFy.out.keep (fun q q1 q2 => OT q (by have := HN0.out; have := HN1.out; have := HN2.out; have := HN3.out; have := HN4.out; have := HN5.out; have := HM.out; omega))
  have HOf := hidOfT (fun (q : Nat) (hq : n0 ≤ q) => (show ((((w5.setCell ⟨w.heap.size + 1 + 1, 14, none⟩ (.slice gb c.fv.length gd)).setCell ⟨w.heap.size + 1 + 1, 15, none⟩ (.slice hb1 c.fc.length hd)).setCell ⟨w.heap.size + 1 + 1, 16, none⟩ (.string c.fo)).setRow (w.heap.size + 1) #[.slice tb c.ts.length td, .slice lb c.xs.length ld, .int .i64 c.bg, .int .i64 c.li, .int .i64 c.en, .slice nb c.ns.length nd, .slice ub c.bv.length ud, .slice xb c.bc.length xd, .string c.bo, .int .i64 c.cnt, .slice kb c.ks.length kd, .int .i64 c.now, .int .i64 c.tries, .bool c.over, .slice gb c.fv.length gd, .slice hb1 c.fc.length hd, .string c.fo]).heap[q]? = (((w5.setCell ⟨w.heap.size + 1 + 1, 14, none⟩ (.slice gb c.fv.length gd)).setCell ⟨w.heap.size + 1 + 1, 15, none⟩ (.slice hb1 c.fc.length hd)).setCell ⟨w.heap.size + 1 + 1, 16, none⟩ (.string c.fo)).heap[q]? from setRow_other _ _ _ _ (by have := HN0.out.2; omega)))
  have HSf : Hid (((((w5.setCell ⟨w.heap.size + 1 + 1, 14, none⟩ (.slice gb c.fv.length gd)).setCell ⟨w.heap.size + 1 + 1, 15, none⟩ (.slice hb1 c.fc.length hd)).setCell ⟨w.heap.size + 1 + 1, 16, none⟩ (.string c.fo)).setRow (w.heap.size + 1) #[.slice tb c.ts.length td, .slice lb c.xs.length ld, .int .i64 c.bg, .int .i64 c.li, .int .i64 c.en, .slice nb c.ns.length nd, .slice ub c.bv.length ud, .slice xb c.bc.length xd, .string c.bo, .int .i64 c.cnt, .slice kb c.ks.length kd, .int .i64 c.now, .int .i64 c.tries, .bool c.over, .slice gb c.fv.length gd, .slice hb1 c.fc.length hd, .string c.fo]).heap.size = n5) := (setRow_size _ _ _).trans HN5x.out.1
  have HBf : Hid (Below w.heap.size w ((((w5.setCell ⟨w.heap.size + 1 + 1, 14, none⟩ (.slice gb c.fv.length gd)).setCell ⟨w.heap.size + 1 + 1, 15, none⟩ (.slice hb1 c.fc.length hd)).setCell ⟨w.heap.size + 1 + 1, 16, none⟩ (.string c.fo)).setRow (w.heap.size + 1) #[.slice tb c.ts.length td, .slice lb c.xs.length ld, .int .i64 c.bg, .int .i64 c.li, .int .i64 c.en, .slice nb c.ns.length nd, .slice ub c.bv.length ud, .slice xb c.bc.length xd, .string c.bo, .int .i64 c.cnt, .slice kb c.ks.length kd, .int .i64 c.now, .int .i64 c.tries, .bool c.over, .slice gb c.fv.length gd, .slice hb1 c.fc.length hd, .string c.fo])) := rowSetB HBx.out _ _ (by omega)
  have HEf : Hid (Co.Own n0 m n1 n2 n3 n4 n5 ((((w5.setCell ⟨w.heap.size + 1 + 1, 14, none⟩ (.slice gb c.fv.length gd)).setCell ⟨w.heap.size + 1 + 1, 15, none⟩ (.slice hb1 c.fc.length hd)).setCell ⟨w.heap.size + 1 + 1, 16, none⟩ (.string c.fo)).setRow (w.heap.size + 1) #[.slice tb c.ts.length td, .slice lb c.xs.length ld, .int .i64 c.bg, .int .i64 c.li, .int .i64 c.en, .slice nb c.ns.length nd, .slice ub c.bv.length ud, .slice xb c.bc.length xd, .string c.bo, .int .i64 c.cnt, .slice kb c.ks.length kd, .int .i64 c.now, .int .i64 c.tries, .bool c.over, .slice gb c.fv.length gd, .slice hb1 c.fc.length hd, .string c.fo]) (.slice tb c.ts.length td) (.slice lb c.xs.length ld) (.slice nb c.ns.length nd) (.slice ub c.bv.length ud) (.slice xb c.bc.length xd) (.slice kb c.ks.length kd) (.slice gb c.fv.length gd) (.slice hb1 c.fc.length hd) c f) := ⟨PTx.out.keep (fun q q1 q2 => HOf.out q (by have := HN0.out; have := HN1.out; have := HN2.out; have := HN3.out; have := HN4.out; have := HN5.out; have := HM.out; omega)), PIx.out.keep (fun q q1 q2 => HOf.out q (by have := HN0.out; have := HN1.out; have := HN2.out; have := HN3.out; have := HN4.out; have := HN5.out; have := HM.out; omega)), PNx.out.keep (fun q q1 q2 => HOf.out q (by have := HN0.out; have := HN1.out; have := HN2.out; have := HN3.out; have := HN4.out; have := HN5.out; have := HM.out; omega)), PBx.out.keep (fun q q1 q2 => HOf.out q (by have := HN0.out; have := HN1.out; have := HN2.out; have := HN3.out; have := HN4.out; have := HN5.out; have := HM.out; omega)), PKx.out.keep (fun q q1 q2 => HOf.out q (by have := HN0.out; have := HN1.out; have := HN2.out; have := HN3.out; have := HN4.out; have := HN5.out; have := HM.out; omega)), PFx.out.keep (fun q q1 q2 => HOf.out q (by have := HN0.out; have := HN1.out; have := HN2.out; have := HN3.out; have := HN4.out; have := HN5.out; have := HM.out; omega)), HSM.out, by have := HN0.out; have := HN1.out; have := HN2.out; have := HN3.out; have := HN4.out; have := HN5.out; have := HM.out; omega⟩
  clear OT gA0 gZ0 gO0 gA1 gZ1 gO1 gA2 gZ2 gO2 HN5 HBy HAy HZy HOy PTy PIy PNy PBy PKy PFy
  clear HOf HAx HBx PTx PIx PNx PBx PKx PFx
  go_wp2_with (first
    | (refine wpList_load_row rfl 43 _ rfl (w.heap.size + 1 + 1) rfl 43 _ (0, 0) _ HOx.out Try.underlying43 rfl (by kernel_rfl) ?_)
    | (refine wpList_store17 rfl 43 _ _ rfl (w.heap.size + 1) #[.slice tb c.ts.length td, .slice lb c.xs.length ld, .int .i64 c.bg, .int .i64 c.li, .int .i64 c.en, .slice nb c.ns.length nd, .slice ub c.bv.length ud, .slice xb c.bc.length xd, .string c.bo, .int .i64 c.cnt, .slice kb c.ks.length kd, .int .i64 c.now, .int .i64 c.tries, .bool c.over, .slice gb c.fv.length gd, .slice hb1 c.fc.length hd, .string c.fo] rfl rfl 43 _ HZx.out (by kernel_rfl) rfl (by simp [Value.oneCell']) ?_))
  refine bodyPost_ret (results_cell_row (p := 2) (ty := 43) rfl _ _ (w.heap.size + 1) 43 _ (0, 0) _ rfl (setRow_heap _ _ _ _ _ _ HZx.out) Try.underlying43 rfl (by kernel_rfl)) rfl ?_
  exact ⟨_, _, _, _, _, _, _, _, _, _, _, _, _, _, _, _, n0, m, n1, n2, n3, n4, n5, f, rfl, HBf.out, by have := HN0.out; omega, by have := HSf.out; omega, HEf.out⟩
end Go.Proofs.Ythnmopldpgdenaa
