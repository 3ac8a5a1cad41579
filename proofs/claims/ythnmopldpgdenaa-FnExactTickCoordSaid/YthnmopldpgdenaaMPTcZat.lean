/- The law's own copy of a task. The law's own copy of a row of tasks; two of the same tasks are told the same. -/
import Derived.Test.YthnmopldpgdenaaMPTcZas
namespace Go.Proofs.Ythnmopldpgdenaa
section PartKdD
open Go.RowKit

theorem setB7 {W : World} {g : Nat} {t : TypeId} {u0 u1 u2 u3 u4 u5 u6 : Value} (h : W.heap[g]? = some (.cells #[u0, u1, u2, u3, u4, u5, u6] t (0, 0))) (v0 v1 v2 v3 v4 v5 v6 : Value) : (((((((W.setCell ⟨g, 0, none⟩ v0).setCell ⟨g, 1, none⟩ v1).setCell ⟨g, 2, none⟩ v2).setCell ⟨g, 3, none⟩ v3).setCell ⟨g, 4, none⟩ v4).setCell ⟨g, 5, none⟩ v5).setCell ⟨g, 6, none⟩ v6).heap[g]? = some (.cells #[v0, v1, v2, v3, v4, v5, v6] t (0, 0)) := by
  have h0 : (W.setCell ⟨g, 0, none⟩ v0).heap[g]? = some (.cells #[v0, u1, u2, u3, u4, u5, u6] t (0, 0)) := blk_set h 0 v0
  have h1 : ((W.setCell ⟨g, 0, none⟩ v0).setCell ⟨g, 1, none⟩ v1).heap[g]? = some (.cells #[v0, v1, u2, u3, u4, u5, u6] t (0, 0)) := blk_set h0 1 v1
  have h2 : (((W.setCell ⟨g, 0, none⟩ v0).setCell ⟨g, 1, none⟩ v1).setCell ⟨g, 2, none⟩ v2).heap[g]? = some (.cells #[v0, v1, v2, u3, u4, u5, u6] t (0, 0)) := blk_set h1 2 v2
  have h3 : ((((W.setCell ⟨g, 0, none⟩ v0).setCell ⟨g, 1, none⟩ v1).setCell ⟨g, 2, none⟩ v2).setCell ⟨g, 3, none⟩ v3).heap[g]? = some (.cells #[v0, v1, v2, v3, u4, u5, u6] t (0, 0)) := blk_set h2 3 v3
  have h4 : (((((W.setCell ⟨g, 0, none⟩ v0).setCell ⟨g, 1, none⟩ v1).setCell ⟨g, 2, none⟩ v2).setCell ⟨g, 3, none⟩ v3).setCell ⟨g, 4, none⟩ v4).heap[g]? = some (.cells #[v0, v1, v2, v3, v4, u5, u6] t (0, 0)) := blk_set h3 4 v4
  have h5 : ((((((W.setCell ⟨g, 0, none⟩ v0).setCell ⟨g, 1, none⟩ v1).setCell ⟨g, 2, none⟩ v2).setCell ⟨g, 3, none⟩ v3).setCell ⟨g, 4, none⟩ v4).setCell ⟨g, 5, none⟩ v5).heap[g]? = some (.cells #[v0, v1, v2, v3, v4, v5, u6] t (0, 0)) := blk_set h4 5 v5
  have h6 : (((((((W.setCell ⟨g, 0, none⟩ v0).setCell ⟨g, 1, none⟩ v1).setCell ⟨g, 2, none⟩ v2).setCell ⟨g, 3, none⟩ v3).setCell ⟨g, 4, none⟩ v4).setCell ⟨g, 5, none⟩ v5).setCell ⟨g, 6, none⟩ v6).heap[g]? = some (.cells #[v0, v1, v2, v3, v4, v5, v6] t (0, 0)) := blk_set h5 6 v6
  exact h6
theorem belowB7 {lo : Nat} {w W : World} {g : Nat} (h : Below lo w W) (hg : lo ≤ g) (v0 v1 v2 v3 v4 v5 v6 : Value) : Below lo w (((((((W.setCell ⟨g, 0, none⟩ v0).setCell ⟨g, 1, none⟩ v1).setCell ⟨g, 2, none⟩ v2).setCell ⟨g, 3, none⟩ v3).setCell ⟨g, 4, none⟩ v4).setCell ⟨g, 5, none⟩ v5).setCell ⟨g, 6, none⟩ v6) :=
  (((((((h.setCell (by exact hg) _).setCell (by exact hg) _).setCell (by exact hg) _).setCell (by exact hg) _).setCell (by exact hg) _).setCell (by exact hg) _).setCell (by exact hg) _)
theorem othB7 {W : World} {g : Nat} (v0 v1 v2 v3 v4 v5 v6 : Value) (q : Nat) (hq : q ≠ g) : (((((((W.setCell ⟨g, 0, none⟩ v0).setCell ⟨g, 1, none⟩ v1).setCell ⟨g, 2, none⟩ v2).setCell ⟨g, 3, none⟩ v3).setCell ⟨g, 4, none⟩ v4).setCell ⟨g, 5, none⟩ v5).setCell ⟨g, 6, none⟩ v6).heap[q]? = W.heap[q]? := by
  rw [Below.heap_setCell _ _ _ _ hq, Below.heap_setCell _ _ _ _ hq, Below.heap_setCell _ _ _ _ hq, Below.heap_setCell _ _ _ _ hq, Below.heap_setCell _ _ _ _ hq, Below.heap_setCell _ _ _ _ hq, Below.heap_setCell _ _ _ _ hq]
theorem sizeB7 {W : World} {g : Nat} (v0 v1 v2 v3 v4 v5 v6 : Value) : (((((((W.setCell ⟨g, 0, none⟩ v0).setCell ⟨g, 1, none⟩ v1).setCell ⟨g, 2, none⟩ v2).setCell ⟨g, 3, none⟩ v3).setCell ⟨g, 4, none⟩ v4).setCell ⟨g, 5, none⟩ v5).setCell ⟨g, 6, none⟩ v6).heap.size = W.heap.size := by simp [World.setCell]

theorem toTsIn (v : Value) (ts : List ByteArray) (w : World) (h : TsAt w v ts) (hk : ts.length ≤ 1048576) :
    Calls Try.prog 17 #[v] w fun e w' => ∃ ad c, e = .returned (.slice ad ts.length c) ∧ Below w.heap.size w w' ∧ TxIn w.heap.size w'.heap.size w' (.slice ad ts.length c) ts :=
  (toTs_any v ts w h hk).mono fun _ _ hh => ⟨_, _, hh.1, hh.2.1, hh.2.2.in (Nat.le_refl _) (blk_lt hh.2.2) _⟩
theorem toStIn (v rv : Value) (o : ByteArray) (vs : List Vr) (cs : List Cl) (w : World) (h : VrAt w v vs) (hr : ClAt w rv cs) (hk : vs.length ≤ 1048576) (hkr : cs.length ≤ 1048576) :
    Calls Try.prog 18 #[.agg #[v, rv, .string o]] w fun e w' => ∃ ua uc xa xc, e = .returned (.agg #[.slice ua vs.length uc, .slice xa cs.length xc, .string o]) ∧ Below w.heap.size w w' ∧ StIn w.heap.size w'.heap.size w' (.slice ua vs.length uc) (.slice xa cs.length xc) vs cs :=
  (toStoreIn v rv o vs cs w h hr hk hkr).mono fun _ _ ⟨ua, uc, xa, xc, he, hs, hb⟩ => ⟨ua, uc, xa, xc, he, hb, hs⟩

set_option maxHeartbeats 4000000 in
set_option maxRecDepth 100000 in
theorem toTask_any (lv u x : Value) (t : Tk) (w : World) (h : Tk.Rows w lv u x t) (hs : t.Sm) :
    Calls Try.prog 42 #[Tk.val lv u x t] w fun e w' => ∃ la lc ua uc xa xc a d, e = .returned (.agg #[.slice la t.ls.length lc, .int .i64 t.try_, .int .i64 t.till, .bool t.done, .slice ua t.vs.length uc, .slice xa t.cs.length xc, .string t.o]) ∧ Below w.heap.size w w' ∧ (Te.mk t (.slice la t.ls.length lc) (.slice ua t.vs.length uc) (.slice xa t.cs.length xc) a d).Ok w' ∧ w.heap.size ≤ a ∧ d ≤ w'.heap.size := by
  have HH : Hid (∀ W, Below w.heap.size w W → Tk.Rows W lv u x t) := fun W hb => h.keep hb
  obtain ⟨la, lc, rfl, -⟩ := h.ls
  obtain ⟨ua, uc, rfl, -⟩ := h.vr
  obtain ⟨xa, xc, rfl, -⟩ := h.cl
  have C1 := hidOfT (fun (W : World) (hb : Below w.heap.size w W) => toTsIn _ t.ls W (HH.out W hb).ls hs.ll)
  have C2 := hidOfT (fun (W : World) (hb : Below w.heap.size w W) => toStIn _ _ t.o t.vs t.cs W (HH.out W hb).vr (HH.out W hb).cl hs.s.1 hs.s.2.2.1)
  unfold Tk.val
  clear HH h hs
  have HB : Hid (Below w.heap.size w (((w.alloc (.cells #[.slice la t.ls.length lc, .int .i64 t.try_, .int .i64 t.till, .bool t.done, .slice ua t.vs.length uc, .slice xa t.cs.length xc, .string t.o] 73)).alloc (.cells #[.slice none 0 0, .int .i64 0, .int .i64 0, .bool false, .slice none 0 0, .slice none 0 0, .string ⟨#[]⟩] 76)).alloc (.cells #[.slice none 0 0, .int .i64 0, .int .i64 0, .bool false, .slice none 0 0, .slice none 0 0, .string ⟨#[]⟩] 76))) := ((((Below.refl _ _).alloc (Nat.le_refl _) _).alloc (by simp) _).alloc (by simp; omega) _)
  have HA : Hid ((((w.alloc (.cells #[.slice la t.ls.length lc, .int .i64 t.try_, .int .i64 t.till, .bool t.done, .slice ua t.vs.length uc, .slice xa t.cs.length xc, .string t.o] 73)).alloc (.cells #[.slice none 0 0, .int .i64 0, .int .i64 0, .bool false, .slice none 0 0, .slice none 0 0, .string ⟨#[]⟩] 76)).alloc (.cells #[.slice none 0 0, .int .i64 0, .int .i64 0, .bool false, .slice none 0 0, .slice none 0 0, .string ⟨#[]⟩] 76)).heap[w.heap.size]? = some (.cells #[.slice la t.ls.length lc, .int .i64 t.try_, .int .i64 t.till, .bool t.done, .slice ua t.vs.length uc, .slice xa t.cs.length xc, .string t.o] 73 (0, 0))) := alloc3_0c _ _ _ _
  have HZ : Hid ((((w.alloc (.cells #[.slice la t.ls.length lc, .int .i64 t.try_, .int .i64 t.till, .bool t.done, .slice ua t.vs.length uc, .slice xa t.cs.length xc, .string t.o] 73)).alloc (.cells #[.slice none 0 0, .int .i64 0, .int .i64 0, .bool false, .slice none 0 0, .slice none 0 0, .string ⟨#[]⟩] 76)).alloc (.cells #[.slice none 0 0, .int .i64 0, .int .i64 0, .bool false, .slice none 0 0, .slice none 0 0, .string ⟨#[]⟩] 76)).heap[w.heap.size + 1]? = some (.cells #[.slice none 0 0, .int .i64 0, .int .i64 0, .bool false, .slice none 0 0, .slice none 0 0, .string ⟨#[]⟩] 76 (0, 0))) := alloc3_1 _ _ _ _
  have HO : Hid ((((w.alloc (.cells #[.slice la t.ls.length lc, .int .i64 t.try_, .int .i64 t.till, .bool t.done, .slice ua t.vs.length uc, .slice xa t.cs.length xc, .string t.o] 73)).alloc (.cells #[.slice none 0 0, .int .i64 0, .int .i64 0, .bool false, .slice none 0 0, .slice none 0 0, .string ⟨#[]⟩] 76)).alloc (.cells #[.slice none 0 0, .int .i64 0, .int .i64 0, .bool false, .slice none 0 0, .slice none 0 0, .string ⟨#[]⟩] 76)).heap[w.heap.size + 1 + 1]? = some (.cells #[.slice none 0 0, .int .i64 0, .int .i64 0, .bool false, .slice none 0 0, .slice none 0 0, .string ⟨#[]⟩] 76 (0, 0))) := alloc3_2 _ _ _ _
  obtain ⟨n0, hn0⟩ : ∃ n, n = (((w.alloc (.cells #[.slice la t.ls.length lc, .int .i64 t.try_, .int .i64 t.till, .bool t.done, .slice ua t.vs.length uc, .slice xa t.cs.length xc, .string t.o] 73)).alloc (.cells #[.slice none 0 0, .int .i64 0, .int .i64 0, .bool false, .slice none 0 0, .slice none 0 0, .string ⟨#[]⟩] 76)).alloc (.cells #[.slice none 0 0, .int .i64 0, .int .i64 0, .bool false, .slice none 0 0, .slice none 0 0, .string ⟨#[]⟩] 76)).heap.size := ⟨_, rfl⟩
  have HN0 : Hid ((((w.alloc (.cells #[.slice la t.ls.length lc, .int .i64 t.try_, .int .i64 t.till, .bool t.done, .slice ua t.vs.length uc, .slice xa t.cs.length xc, .string t.o] 73)).alloc (.cells #[.slice none 0 0, .int .i64 0, .int .i64 0, .bool false, .slice none 0 0, .slice none 0 0, .string ⟨#[]⟩] 76)).alloc (.cells #[.slice none 0 0, .int .i64 0, .int .i64 0, .bool false, .slice none 0 0, .slice none 0 0, .string ⟨#[]⟩] 76)).heap.size = n0 ∧ n0 = w.heap.size + 3) := ⟨hn0.symm, by rw [hn0]; simp⟩
  clear hn0
  go_enter Try.func42, Try.ntmps42
  go_wp2_with fail
  generalize (((w.alloc (.cells #[.slice la t.ls.length lc, .int .i64 t.try_, .int .i64 t.till, .bool t.done, .slice ua t.vs.length uc, .slice xa t.cs.length xc, .string t.o] 73)).alloc (.cells #[.slice none 0 0, .int .i64 0, .int .i64 0, .bool false, .slice none 0 0, .slice none 0 0, .string ⟨#[]⟩] 76)).alloc (.cells #[.slice none 0 0, .int .i64 0, .int .i64 0, .bool false, .slice none 0 0, .slice none 0 0, .string ⟨#[]⟩] 76)) = X0 at *
  refine (C1.out _ HB.out).mono ?_
  rintro e w1 ⟨lb, ld, rfl, hb, hr⟩
  have HAy := hidOfT ((hb.block _ (blk_lt HA.out)).trans HA.out)
  have HZy := hidOfT ((hb.block _ (blk_lt HZ.out)).trans HZ.out)
  have HOy := hidOfT ((hb.block _ (blk_lt HO.out)).trans HO.out)
  have HBy := hidOfT (HB.out.trans (hb.mono HB.out.size))
  obtain ⟨n1, hn1⟩ : ∃ n, n = w1.heap.size := ⟨_, rfl⟩
  have HN1 : Hid (w1.heap.size = n1 ∧ n0 ≤ n1) := ⟨hn1.symm, by have := hb.size; have := HN0.out; omega⟩
  have PLy : Hid (TxIn n0 n1 w1 (.slice lb t.ls.length ld) t.ls) := by rw [HN0.out.1, ← hn1] at hr; exact hr
  clear hn1 hb HB HA HZ HO  hr C1
  have cA1 := (blk_cell HAy.out 1).trans rfl
  have cA2 := (blk_cell HAy.out 2).trans rfl
  have cA3 := (blk_cell HAy.out 3).trans rfl
  have cA4 := (blk_cell HAy.out 4).trans rfl
  have cA5 := (blk_cell HAy.out 5).trans rfl
  have cA6 := (blk_cell HAy.out 6).trans rfl
  have cO0 := (blk_cell HOy.out 0).trans rfl
  have cO1 := (blk_cell HOy.out 1).trans rfl
  have cO2 := (blk_cell HOy.out 2).trans rfl
  have cO3 := (blk_cell HOy.out 3).trans rfl
  have fO0 := blk_free HOy.out 0
  have fO1 := blk_free HOy.out 1
  have fO2 := blk_free HOy.out 2
  have fO3 := blk_free HOy.out 3
  have gA0 : ((w1).setCell ⟨w.heap.size + 1 + 1, 0, none⟩ (.slice lb t.ls.length ld)).heap[w.heap.size]? = some (.cells #[.slice la t.ls.length lc, .int .i64 t.try_, .int .i64 t.till, .bool t.done, .slice ua t.vs.length uc, .slice xa t.cs.length xc, .string t.o] 73 (0, 0)) := (Below.heap_setCell _ _ _ _ (by show w.heap.size ≠ w.heap.size + 1 + 1; omega)).trans HAy.out
  have gZ0 : ((w1).setCell ⟨w.heap.size + 1 + 1, 0, none⟩ (.slice lb t.ls.length ld)).heap[w.heap.size + 1]? = some (.cells #[.slice none 0 0, .int .i64 0, .int .i64 0, .bool false, .slice none 0 0, .slice none 0 0, .string ⟨#[]⟩] 76 (0, 0)) := (Below.heap_setCell _ _ _ _ (by show w.heap.size + 1 ≠ w.heap.size + 1 + 1; omega)).trans HZy.out
  have gO0 : ((w1).setCell ⟨w.heap.size + 1 + 1, 0, none⟩ (.slice lb t.ls.length ld)).heap[w.heap.size + 1 + 1]? = some (.cells #[(.slice lb t.ls.length ld), .int .i64 0, .int .i64 0, .bool false, .slice none 0 0, .slice none 0 0, .string ⟨#[]⟩] 76 (0, 0)) := blk_set HOy.out 0 _
  have gA1 : (((w1.setCell ⟨w.heap.size + 1 + 1, 0, none⟩ (.slice lb t.ls.length ld))).setCell ⟨w.heap.size + 1 + 1, 1, none⟩ (.int .i64 t.try_)).heap[w.heap.size]? = some (.cells #[.slice la t.ls.length lc, .int .i64 t.try_, .int .i64 t.till, .bool t.done, .slice ua t.vs.length uc, .slice xa t.cs.length xc, .string t.o] 73 (0, 0)) := (Below.heap_setCell _ _ _ _ (by show w.heap.size ≠ w.heap.size + 1 + 1; omega)).trans gA0
  have gZ1 : (((w1.setCell ⟨w.heap.size + 1 + 1, 0, none⟩ (.slice lb t.ls.length ld))).setCell ⟨w.heap.size + 1 + 1, 1, none⟩ (.int .i64 t.try_)).heap[w.heap.size + 1]? = some (.cells #[.slice none 0 0, .int .i64 0, .int .i64 0, .bool false, .slice none 0 0, .slice none 0 0, .string ⟨#[]⟩] 76 (0, 0)) := (Below.heap_setCell _ _ _ _ (by show w.heap.size + 1 ≠ w.heap.size + 1 + 1; omega)).trans gZ0
  have gO1 : (((w1.setCell ⟨w.heap.size + 1 + 1, 0, none⟩ (.slice lb t.ls.length ld))).setCell ⟨w.heap.size + 1 + 1, 1, none⟩ (.int .i64 t.try_)).heap[w.heap.size + 1 + 1]? = some (.cells #[(.slice lb t.ls.length ld), (.int .i64 t.try_), .int .i64 0, .bool false, .slice none 0 0, .slice none 0 0, .string ⟨#[]⟩] 76 (0, 0)) := blk_set gO0 1 _
  have gA2 : ((((w1.setCell ⟨w.heap.size + 1 + 1, 0, none⟩ (.slice lb t.ls.length ld)).setCell ⟨w.heap.size + 1 + 1, 1, none⟩ (.int .i64 t.try_))).setCell ⟨w.heap.size + 1 + 1, 2, none⟩ (.int .i64 t.till)).heap[w.heap.size]? = some (.cells #[.slice la t.ls.length lc, .int .i64 t.try_, .int .i64 t.till, .bool t.done, .slice ua t.vs.length uc, .slice xa t.cs.length xc, .string t.o] 73 (0, 0)) := (Below.heap_setCell _ _ _ _ (by show w.heap.size ≠ w.heap.size + 1 + 1; omega)).trans gA1
  have gZ2 : ((((w1.setCell ⟨w.heap.size + 1 + 1, 0, none⟩ (.slice lb t.ls.length ld)).setCell ⟨w.heap.size + 1 + 1, 1, none⟩ (.int .i64 t.try_))).setCell ⟨w.heap.size + 1 + 1, 2, none⟩ (.int .i64 t.till)).heap[w.heap.size + 1]? = some (.cells #[.slice none 0 0, .int .i64 0, .int .i64 0, .bool false, .slice none 0 0, .slice none 0 0, .string ⟨#[]⟩] 76 (0, 0)) := (Below.heap_setCell _ _ _ _ (by show w.heap.size + 1 ≠ w.heap.size + 1 + 1; omega)).trans gZ1
  have gO2 : ((((w1.setCell ⟨w.heap.size + 1 + 1, 0, none⟩ (.slice lb t.ls.length ld)).setCell ⟨w.heap.size + 1 + 1, 1, none⟩ (.int .i64 t.try_))).setCell ⟨w.heap.size + 1 + 1, 2, none⟩ (.int .i64 t.till)).heap[w.heap.size + 1 + 1]? = some (.cells #[(.slice lb t.ls.length ld), (.int .i64 t.try_), (.int .i64 t.till), .bool false, .slice none 0 0, .slice none 0 0, .string ⟨#[]⟩] 76 (0, 0)) := blk_set gO1 2 _
  have gA3 : (((((w1.setCell ⟨w.heap.size + 1 + 1, 0, none⟩ (.slice lb t.ls.length ld)).setCell ⟨w.heap.size + 1 + 1, 1, none⟩ (.int .i64 t.try_)).setCell ⟨w.heap.size + 1 + 1, 2, none⟩ (.int .i64 t.till))).setCell ⟨w.heap.size + 1 + 1, 3, none⟩ (.bool t.done)).heap[w.heap.size]? = some (.cells #[.slice la t.ls.length lc, .int .i64 t.try_, .int .i64 t.till, .bool t.done, .slice ua t.vs.length uc, .slice xa t.cs.length xc, .string t.o] 73 (0, 0)) := (Below.heap_setCell _ _ _ _ (by show w.heap.size ≠ w.heap.size + 1 + 1; omega)).trans gA2
  have gZ3 : (((((w1.setCell ⟨w.heap.size + 1 + 1, 0, none⟩ (.slice lb t.ls.length ld)).setCell ⟨w.heap.size + 1 + 1, 1, none⟩ (.int .i64 t.try_)).setCell ⟨w.heap.size + 1 + 1, 2, none⟩ (.int .i64 t.till))).setCell ⟨w.heap.size + 1 + 1, 3, none⟩ (.bool t.done)).heap[w.heap.size + 1]? = some (.cells #[.slice none 0 0, .int .i64 0, .int .i64 0, .bool false, .slice none 0 0, .slice none 0 0, .string ⟨#[]⟩] 76 (0, 0)) := (Below.heap_setCell _ _ _ _ (by show w.heap.size + 1 ≠ w.heap.size + 1 + 1; omega)).trans gZ2
  have gO3 : (((((w1.setCell ⟨w.heap.size + 1 + 1, 0, none⟩ (.slice lb t.ls.length ld)).setCell ⟨w.heap.size + 1 + 1, 1, none⟩ (.int .i64 t.try_)).setCell ⟨w.heap.size + 1 + 1, 2, none⟩ (.int .i64 t.till))).setCell ⟨w.heap.size + 1 + 1, 3, none⟩ (.bool t.done)).heap[w.heap.size + 1 + 1]? = some (.cells #[(.slice lb t.ls.length ld), (.int .i64 t.try_), (.int .i64 t.till), (.bool t.done), .slice none 0 0, .slice none 0 0, .string ⟨#[]⟩] 76 (0, 0)) := blk_set gO2 3 _
  have OT : ∀ q, n0 ≤ q → ((((w1.setCell ⟨w.heap.size + 1 + 1, 0, none⟩ (.slice lb t.ls.length ld)).setCell ⟨w.heap.size + 1 + 1, 1, none⟩ (.int .i64 t.try_)).setCell ⟨w.heap.size + 1 + 1, 2, none⟩ (.int .i64 t.till)).setCell ⟨w.heap.size + 1 + 1, 3, none⟩ (.bool t.done)).heap[q]? = w1.heap[q]? := by
    intro q hq
    have := HN0.out.2
    rw [Below.heap_setCell _ _ _ _ (by show q ≠ w.heap.size + 1 + 1; omega), Below.heap_setCell _ _ _ _ (by show q ≠ w.heap.size + 1 + 1; omega), Below.heap_setCell _ _ _ _ (by show q ≠ w.heap.size + 1 + 1; omega), Below.heap_setCell _ _ _ _ (by show q ≠ w.heap.size + 1 + 1; omega)]
  have HAx := hidOfT gA3
  have HZx := hidOfT gZ3
  have HOx := hidOfT gO3
  have HBx : Hid (Below w.heap.size w ((((w1.setCell ⟨w.heap.size + 1 + 1, 0, none⟩ (.slice lb t.ls.length ld)).setCell ⟨w.heap.size + 1 + 1, 1, none⟩ (.int .i64 t.try_)).setCell ⟨w.heap.size + 1 + 1, 2, none⟩ (.int .i64 t.till)).setCell ⟨w.heap.size + 1 + 1, 3, none⟩ (.bool t.done))) := ((((HBy.out.setCell (by show w.heap.size ≤ w.heap.size + 1 + 1; omega) (.slice lb t.ls.length ld)).setCell (by show w.heap.size ≤ w.heap.size + 1 + 1; omega) (.int .i64 t.try_)).setCell (by show w.heap.size ≤ w.heap.size + 1 + 1; omega) (.int .i64 t.till)).setCell (by show w.heap.size ≤ w.heap.size + 1 + 1; omega) (.bool t.done))
  have HN1x : Hid (((((w1.setCell ⟨w.heap.size + 1 + 1, 0, none⟩ (.slice lb t.ls.length ld)).setCell ⟨w.heap.size + 1 + 1, 1, none⟩ (.int .i64 t.try_)).setCell ⟨w.heap.size + 1 + 1, 2, none⟩ (.int .i64 t.till)).setCell ⟨w.heap.size + 1 + 1, 3, none⟩ (.bool t.done)).heap.size = n1 ∧ n0 ≤ n1) := ⟨by have := HN1.out.1; simpa [World.setCell] using this, HN1.out.2⟩
  have PLx : Hid (TxIn n0 n1 ((((w1.setCell ⟨w.heap.size + 1 + 1, 0, none⟩ (.slice lb t.ls.length ld)).setCell ⟨w.heap.size + 1 + 1, 1, none⟩ (.int .i64 t.try_)).setCell ⟨w.heap.size + 1 + 1, 2, none⟩ (.int .i64 t.till)).setCell ⟨w.heap.size + 1 + 1, 3, none⟩ (.bool t.done)) (.slice lb t.ls.length ld) t.ls) := PLy.out.keep (fun q q1 q2 => OT q (by have := HN0.out; have := HN1.out; omega))
  clear OT gA0 gZ0 gO0 gA1 gZ1 gO1 gA2 gZ2 gO2 gA3 gZ3 gO3 HN1 HBy HAy HZy HOy PLy
  go_wp2_with fail
  generalize ((((w1.setCell ⟨w.heap.size + 1 + 1, 0, none⟩ (.slice lb t.ls.length ld)).setCell ⟨w.heap.size + 1 + 1, 1, none⟩ (.int .i64 t.try_)).setCell ⟨w.heap.size + 1 + 1, 2, none⟩ (.int .i64 t.till)).setCell ⟨w.heap.size + 1 + 1, 3, none⟩ (.bool t.done)) = X1 at *
  clear cA1 cA2 cA3 cA4 cA5 cA6 cO0 cO1 cO2 cO3 fO0 fO1 fO2 fO3
  have HA := hidOfT HAx.out
  have HZ := hidOfT HZx.out
  have HO := hidOfT HOx.out
  have HB := hidOfT HBx.out
  have HN1 := hidOfT HN1x.out
  have PL := hidOfT PLx.out
  clear HAx HZx HOx HBx HN1x PLx
  refine (C2.out _ HB.out).mono ?_
  rintro e w2 ⟨ub, ud, xb, xd, rfl, hb, hr⟩
  have HAy := hidOfT ((hb.block _ (blk_lt HA.out)).trans HA.out)
  have HZy := hidOfT ((hb.block _ (blk_lt HZ.out)).trans HZ.out)
  have HOy := hidOfT ((hb.block _ (blk_lt HO.out)).trans HO.out)
  have HBy := hidOfT (HB.out.trans (hb.mono HB.out.size))
  obtain ⟨n2, hn2⟩ : ∃ n, n = w2.heap.size := ⟨_, rfl⟩
  have HN2 : Hid (w2.heap.size = n2 ∧ n1 ≤ n2) := ⟨hn2.symm, by have := hb.size; have := HN1.out; omega⟩
  have PLy : Hid (TxIn n0 n1 w2 (.slice lb t.ls.length ld) t.ls) := PL.out.keep (fun q q1 q2 => hb.block q (by have := HN0.out; have := HN1.out; omega))
  have PSy : Hid (StIn n1 n2 w2 (.slice ub t.vs.length ud) (.slice xb t.cs.length xd) t.vs t.cs) := by rw [HN1.out.1, ← hn2] at hr; exact hr
  clear hn2 hb HB HA HZ HO PL hr C2
  have cO0 := (blk_cell HOy.out 0).trans rfl
  have cO1 := (blk_cell HOy.out 1).trans rfl
  have cO2 := (blk_cell HOy.out 2).trans rfl
  have cO3 := (blk_cell HOy.out 3).trans rfl
  have cO4 := (blk_cell HOy.out 4).trans rfl
  have cO5 := (blk_cell HOy.out 5).trans rfl
  have cO6 := (blk_cell HOy.out 6).trans rfl
  have fO4 := blk_free HOy.out 4
  have fO5 := blk_free HOy.out 5
  have fO6 := blk_free HOy.out 6
  have gA0 : ((w2).setCell ⟨w.heap.size + 1 + 1, 4, none⟩ (.slice ub t.vs.length ud)).heap[w.heap.size]? = some (.cells #[.slice la t.ls.length lc, .int .i64 t.try_, .int .i64 t.till, .bool t.done, .slice ua t.vs.length uc, .slice xa t.cs.length xc, .string t.o] 73 (0, 0)) := (Below.heap_setCell _ _ _ _ (by show w.heap.size ≠ w.heap.size + 1 + 1; omega)).trans HAy.out
  have gZ0 : ((w2).setCell ⟨w.heap.size + 1 + 1, 4, none⟩ (.slice ub t.vs.length ud)).heap[w.heap.size + 1]? = some (.cells #[.slice none 0 0, .int .i64 0, .int .i64 0, .bool false, .slice none 0 0, .slice none 0 0, .string ⟨#[]⟩] 76 (0, 0)) := (Below.heap_setCell _ _ _ _ (by show w.heap.size + 1 ≠ w.heap.size + 1 + 1; omega)).trans HZy.out
  have gO0 : ((w2).setCell ⟨w.heap.size + 1 + 1, 4, none⟩ (.slice ub t.vs.length ud)).heap[w.heap.size + 1 + 1]? = some (.cells #[(.slice lb t.ls.length ld), (.int .i64 t.try_), (.int .i64 t.till), (.bool t.done), (.slice ub t.vs.length ud), .slice none 0 0, .string ⟨#[]⟩] 76 (0, 0)) := blk_set HOy.out 4 _
  have gA1 : (((w2.setCell ⟨w.heap.size + 1 + 1, 4, none⟩ (.slice ub t.vs.length ud))).setCell ⟨w.heap.size + 1 + 1, 5, none⟩ (.slice xb t.cs.length xd)).heap[w.heap.size]? = some (.cells #[.slice la t.ls.length lc, .int .i64 t.try_, .int .i64 t.till, .bool t.done, .slice ua t.vs.length uc, .slice xa t.cs.length xc, .string t.o] 73 (0, 0)) := (Below.heap_setCell _ _ _ _ (by show w.heap.size ≠ w.heap.size + 1 + 1; omega)).trans gA0
  have gZ1 : (((w2.setCell ⟨w.heap.size + 1 + 1, 4, none⟩ (.slice ub t.vs.length ud))).setCell ⟨w.heap.size + 1 + 1, 5, none⟩ (.slice xb t.cs.length xd)).heap[w.heap.size + 1]? = some (.cells #[.slice none 0 0, .int .i64 0, .int .i64 0, .bool false, .slice none 0 0, .slice none 0 0, .string ⟨#[]⟩] 76 (0, 0)) := (Below.heap_setCell _ _ _ _ (by show w.heap.size + 1 ≠ w.heap.size + 1 + 1; omega)).trans gZ0
  have gO1 : (((w2.setCell ⟨w.heap.size + 1 + 1, 4, none⟩ (.slice ub t.vs.length ud))).setCell ⟨w.heap.size + 1 + 1, 5, none⟩ (.slice xb t.cs.length xd)).heap[w.heap.size + 1 + 1]? = some (.cells #[(.slice lb t.ls.length ld), (.int .i64 t.try_), (.int .i64 t.till), (.bool t.done), (.slice ub t.vs.length ud), (.slice xb t.cs.length xd), .string ⟨#[]⟩] 76 (0, 0)) := blk_set gO0 5 _
  have gA2 : ((((w2.setCell ⟨w.heap.size + 1 + 1, 4, none⟩ (.slice ub t.vs.length ud)).setCell ⟨w.heap.size + 1 + 1, 5, none⟩ (.slice xb t.cs.length xd))).setCell ⟨w.heap.size + 1 + 1, 6, none⟩ (.string t.o)).heap[w.heap.size]? = some (.cells #[.slice la t.ls.length lc, .int .i64 t.try_, .int .i64 t.till, .bool t.done, .slice ua t.vs.length uc, .slice xa t.cs.length xc, .string t.o] 73 (0, 0)) := (Below.heap_setCell _ _ _ _ (by show w.heap.size ≠ w.heap.size + 1 + 1; omega)).trans gA1
  have gZ2 : ((((w2.setCell ⟨w.heap.size + 1 + 1, 4, none⟩ (.slice ub t.vs.length ud)).setCell ⟨w.heap.size + 1 + 1, 5, none⟩ (.slice xb t.cs.length xd))).setCell ⟨w.heap.size + 1 + 1, 6, none⟩ (.string t.o)).heap[w.heap.size + 1]? = some (.cells #[.slice none 0 0, .int .i64 0, .int .i64 0, .bool false, .slice none 0 0, .slice none 0 0, .string ⟨#[]⟩] 76 (0, 0)) := (Below.heap_setCell _ _ _ _ (by show w.heap.size + 1 ≠ w.heap.size + 1 + 1; omega)).trans gZ1
  have gO2 : ((((w2.setCell ⟨w.heap.size + 1 + 1, 4, none⟩ (.slice ub t.vs.length ud)).setCell ⟨w.heap.size + 1 + 1, 5, none⟩ (.slice xb t.cs.length xd))).setCell ⟨w.heap.size + 1 + 1, 6, none⟩ (.string t.o)).heap[w.heap.size + 1 + 1]? = some (.cells #[(.slice lb t.ls.length ld), (.int .i64 t.try_), (.int .i64 t.till), (.bool t.done), (.slice ub t.vs.length ud), (.slice xb t.cs.length xd), (.string t.o)] 76 (0, 0)) := blk_set gO1 6 _
  have OT : ∀ q, n0 ≤ q → (((w2.setCell ⟨w.heap.size + 1 + 1, 4, none⟩ (.slice ub t.vs.length ud)).setCell ⟨w.heap.size + 1 + 1, 5, none⟩ (.slice xb t.cs.length xd)).setCell ⟨w.heap.size + 1 + 1, 6, none⟩ (.string t.o)).heap[q]? = w2.heap[q]? := by
    intro q hq
    have := HN0.out.2
    rw [Below.heap_setCell _ _ _ _ (by show q ≠ w.heap.size + 1 + 1; omega), Below.heap_setCell _ _ _ _ (by show q ≠ w.heap.size + 1 + 1; omega), Below.heap_setCell _ _ _ _ (by show q ≠ w.heap.size + 1 + 1; omega)]
  have HAx := hidOfT gA2
  have HZx := hidOfT gZ2
  have HOx := hidOfT gO2
  have HBx : Hid (Below w.heap.size w (((w2.setCell ⟨w.heap.size + 1 + 1, 4, none⟩ (.slice ub t.vs.length ud)).setCell ⟨w.heap.size + 1 + 1, 5, none⟩ (.slice xb t.cs.length xd)).setCell ⟨w.heap.size + 1 + 1, 6, none⟩ (.string t.o))) := (((HBy.out.setCell (by show w.heap.size ≤ w.heap.size + 1 + 1; omega) (.slice ub t.vs.length ud)).setCell (by show w.heap.size ≤ w.heap.size + 1 + 1; omega) (.slice xb t.cs.length xd)).setCell (by show w.heap.size ≤ w.heap.size + 1 + 1; omega) (.string t.o))
  have HN2x : Hid ((((w2.setCell ⟨w.heap.size + 1 + 1, 4, none⟩ (.slice ub t.vs.length ud)).setCell ⟨w.heap.size + 1 + 1, 5, none⟩ (.slice xb t.cs.length xd)).setCell ⟨w.heap.size + 1 + 1, 6, none⟩ (.string t.o)).heap.size = n2 ∧ n1 ≤ n2) := ⟨by have := HN2.out.1; simpa [World.setCell] using this, HN2.out.2⟩
  have PLx : Hid (TxIn n0 n1 (((w2.setCell ⟨w.heap.size + 1 + 1, 4, none⟩ (.slice ub t.vs.length ud)).setCell ⟨w.heap.size + 1 + 1, 5, none⟩ (.slice xb t.cs.length xd)).setCell ⟨w.heap.size + 1 + 1, 6, none⟩ (.string t.o)) (.slice lb t.ls.length ld) t.ls) := PLy.out.keep (fun q q1 q2 => OT q (by have := HN0.out; have := HN1.out; have := HN2.out; omega))
  have PSx : Hid (StIn n1 n2 (((w2.setCell ⟨w.heap.size + 1 + 1, 4, none⟩ (.slice ub t.vs.length ud)).setCell ⟨w.heap.size + 1 + 1, 5, none⟩ (.slice xb t.cs.length xd)).setCell ⟨w.heap.size + 1 + 1, 6, none⟩ (.string t.o)) (.slice ub t.vs.length ud) (.slice xb t.cs.length xd) t.vs t.cs) := PSy.out.keep (fun q q1 q2 => OT q (by have := HN0.out; have := HN1.out; have := HN2.out; omega))
  have HRf := hidOfT (show ((((((((((w2.setCell ⟨w.heap.size + 1 + 1, 4, none⟩ (.slice ub t.vs.length ud)).setCell ⟨w.heap.size + 1 + 1, 5, none⟩ (.slice xb t.cs.length xd)).setCell ⟨w.heap.size + 1 + 1, 6, none⟩ (.string t.o)).setCell ⟨w.heap.size + 1, 0, none⟩ (.slice lb t.ls.length ld)).setCell ⟨w.heap.size + 1, 1, none⟩ (.int .i64 t.try_)).setCell ⟨w.heap.size + 1, 2, none⟩ (.int .i64 t.till)).setCell ⟨w.heap.size + 1, 3, none⟩ (.bool t.done)).setCell ⟨w.heap.size + 1, 4, none⟩ (.slice ub t.vs.length ud)).setCell ⟨w.heap.size + 1, 5, none⟩ (.slice xb t.cs.length xd)).setCell ⟨w.heap.size + 1, 6, none⟩ (.string t.o)).heap[w.heap.size + 1]? = some (.cells #[.slice lb t.ls.length ld, .int .i64 t.try_, .int .i64 t.till, .bool t.done, .slice ub t.vs.length ud, .slice xb t.cs.length xd, .string t.o] 76 (0, 0)) from setB7 HZx.out (.slice lb t.ls.length ld) (.int .i64 t.try_) (.int .i64 t.till) (.bool t.done) (.slice ub t.vs.length ud) (.slice xb t.cs.length xd) (.string t.o))
  have HBf : Hid (Below w.heap.size w ((((((((((w2.setCell ⟨w.heap.size + 1 + 1, 4, none⟩ (.slice ub t.vs.length ud)).setCell ⟨w.heap.size + 1 + 1, 5, none⟩ (.slice xb t.cs.length xd)).setCell ⟨w.heap.size + 1 + 1, 6, none⟩ (.string t.o)).setCell ⟨w.heap.size + 1, 0, none⟩ (.slice lb t.ls.length ld)).setCell ⟨w.heap.size + 1, 1, none⟩ (.int .i64 t.try_)).setCell ⟨w.heap.size + 1, 2, none⟩ (.int .i64 t.till)).setCell ⟨w.heap.size + 1, 3, none⟩ (.bool t.done)).setCell ⟨w.heap.size + 1, 4, none⟩ (.slice ub t.vs.length ud)).setCell ⟨w.heap.size + 1, 5, none⟩ (.slice xb t.cs.length xd)).setCell ⟨w.heap.size + 1, 6, none⟩ (.string t.o))) := belowB7 HBx.out (by omega) (.slice lb t.ls.length ld) (.int .i64 t.try_) (.int .i64 t.till) (.bool t.done) (.slice ub t.vs.length ud) (.slice xb t.cs.length xd) (.string t.o)
  have HOf := hidOfT (fun (q : Nat) (hq : n0 ≤ q) => (show ((((((((((w2.setCell ⟨w.heap.size + 1 + 1, 4, none⟩ (.slice ub t.vs.length ud)).setCell ⟨w.heap.size + 1 + 1, 5, none⟩ (.slice xb t.cs.length xd)).setCell ⟨w.heap.size + 1 + 1, 6, none⟩ (.string t.o)).setCell ⟨w.heap.size + 1, 0, none⟩ (.slice lb t.ls.length ld)).setCell ⟨w.heap.size + 1, 1, none⟩ (.int .i64 t.try_)).setCell ⟨w.heap.size + 1, 2, none⟩ (.int .i64 t.till)).setCell ⟨w.heap.size + 1, 3, none⟩ (.bool t.done)).setCell ⟨w.heap.size + 1, 4, none⟩ (.slice ub t.vs.length ud)).setCell ⟨w.heap.size + 1, 5, none⟩ (.slice xb t.cs.length xd)).setCell ⟨w.heap.size + 1, 6, none⟩ (.string t.o)).heap[q]? = (((w2.setCell ⟨w.heap.size + 1 + 1, 4, none⟩ (.slice ub t.vs.length ud)).setCell ⟨w.heap.size + 1 + 1, 5, none⟩ (.slice xb t.cs.length xd)).setCell ⟨w.heap.size + 1 + 1, 6, none⟩ (.string t.o)).heap[q]? from othB7 (.slice lb t.ls.length ld) (.int .i64 t.try_) (.int .i64 t.till) (.bool t.done) (.slice ub t.vs.length ud) (.slice xb t.cs.length xd) (.string t.o) q (by have := HN0.out.2; omega)))
  have HSf : Hid (((((((((((w2.setCell ⟨w.heap.size + 1 + 1, 4, none⟩ (.slice ub t.vs.length ud)).setCell ⟨w.heap.size + 1 + 1, 5, none⟩ (.slice xb t.cs.length xd)).setCell ⟨w.heap.size + 1 + 1, 6, none⟩ (.string t.o)).setCell ⟨w.heap.size + 1, 0, none⟩ (.slice lb t.ls.length ld)).setCell ⟨w.heap.size + 1, 1, none⟩ (.int .i64 t.try_)).setCell ⟨w.heap.size + 1, 2, none⟩ (.int .i64 t.till)).setCell ⟨w.heap.size + 1, 3, none⟩ (.bool t.done)).setCell ⟨w.heap.size + 1, 4, none⟩ (.slice ub t.vs.length ud)).setCell ⟨w.heap.size + 1, 5, none⟩ (.slice xb t.cs.length xd)).setCell ⟨w.heap.size + 1, 6, none⟩ (.string t.o)).heap.size = n2) := (sizeB7 (.slice lb t.ls.length ld) (.int .i64 t.try_) (.int .i64 t.till) (.bool t.done) (.slice ub t.vs.length ud) (.slice xb t.cs.length xd) (.string t.o)).trans HN2x.out.1
  have HEf : Hid ((Te.mk t (.slice lb t.ls.length ld) (.slice ub t.vs.length ud) (.slice xb t.cs.length xd) n0 n2).Ok ((((((((((w2.setCell ⟨w.heap.size + 1 + 1, 4, none⟩ (.slice ub t.vs.length ud)).setCell ⟨w.heap.size + 1 + 1, 5, none⟩ (.slice xb t.cs.length xd)).setCell ⟨w.heap.size + 1 + 1, 6, none⟩ (.string t.o)).setCell ⟨w.heap.size + 1, 0, none⟩ (.slice lb t.ls.length ld)).setCell ⟨w.heap.size + 1, 1, none⟩ (.int .i64 t.try_)).setCell ⟨w.heap.size + 1, 2, none⟩ (.int .i64 t.till)).setCell ⟨w.heap.size + 1, 3, none⟩ (.bool t.done)).setCell ⟨w.heap.size + 1, 4, none⟩ (.slice ub t.vs.length ud)).setCell ⟨w.heap.size + 1, 5, none⟩ (.slice xb t.cs.length xd)).setCell ⟨w.heap.size + 1, 6, none⟩ (.string t.o))) := ⟨n1, HN1.out.2, HN2.out.2, PLx.out.keep (fun q q1 q2 => HOf.out q q1), PSx.out.keep (fun q q1 q2 => HOf.out q (by have := HN1.out; omega))⟩
  clear OT gA0 gZ0 gO0 gA1 gZ1 gO1 gA2 gZ2 gO2 HN2 HBy HAy HZy HOy PLy PSy
  have z0 := (blk_cell HZx.out 0).trans rfl
  have z1 := (blk_cell HZx.out 1).trans rfl
  have z2 := (blk_cell HZx.out 2).trans rfl
  have z3 := (blk_cell HZx.out 3).trans rfl
  have z4 := (blk_cell HZx.out 4).trans rfl
  have z5 := (blk_cell HZx.out 5).trans rfl
  have z6 := (blk_cell HZx.out 6).trans rfl
  have y0 := blk_free HZx.out 0
  have y1 := blk_free HZx.out 1
  have y2 := blk_free HZx.out 2
  have y3 := blk_free HZx.out 3
  have y4 := blk_free HZx.out 4
  have y5 := blk_free HZx.out 5
  have y6 := blk_free HZx.out 6
  clear HOf HOx HAx HBx PLx PSx
  go_wp2_with fail
  refine bodyPost_ret (results_cell_row (p := 2) (ty := 76) rfl _ _ (w.heap.size + 1) 76 _ (0, 0) _ rfl HRf.out Try.underlying76 rfl (by kernel_rfl)) rfl ?_
  exact ⟨_, _, _, _, _, _, n0, n2, rfl, HBf.out, HEf.out, by have := HN0.out; omega, by have := HSf.out; omega⟩
end PartKdD
section PartKdE
open Go.RowKit

set_option maxHeartbeats 4000000 in
set_option maxRecDepth 100000 in
theorem toTasks_any (v : Value) (ks : List Tk) (w : World) (h : KsAt w v ks) (hk : ks.length ≤ 1048576) (hs : KsSm ks ks.length) :
    Calls Try.prog 19 #[v] w fun e w' => ∃ (ad : Option Addr) (c : Nat) (f : Nat → Te), e = .returned (.slice ad ks.length c) ∧ Below w.heap.size w w' ∧ KsO w.heap.size w'.heap.size w' (.slice ad ks.length c) ks.length f ∧ Same ks ks.length f := by
  obtain ⟨ad, c, rfl, f⟩ := h
  obtain ⟨n, hn⟩ : ∃ n, n = ks.length := ⟨_, rfl⟩
  have HS : Hid (KsSm ks n) := by rw [hn]; exact hs
  have HN : Hid (n = ks.length) := hn
  rw [← hn] at f hk ⊢
  clear hs
  obtain ⟨M, hM, hmk⟩ := makeTk_run n n (Nat.le_refl _) (by omega)
  have HW : Hid ((w.alloc (.cells M 76)).heap[w.heap.size]? = some (.cells M 76 (0, 0))) := heap_alloc_new w (.cells M 76)
  have HM : Hid (M.size = n * 7) := hM
  by_cases h0 : n = 0
  · subst h0
    have hmk0 : ∀ W : World, (Instr.makeSlice 41 (.int .i64 0) (.int .i64 0)).run Try.prog W = .ok (.slice (some ⟨W.heap.size, 0, none⟩) 0 0) (W.alloc (.cells M 76)) := hmk
    clear f hn hM hmk
    go_enter Try.func19, Try.ntmps19
    go_wp2
    refine wp_loop_rounds 1 ?_
    rw [rounds_succ]
    go_wp2
    go_ret
    exact ⟨_, _, fun _ => Te.no, rfl, (Below.refl _ _).alloc (Nat.le_refl _) _, ⟨_, _, rfl, fun h => by omega⟩, HN.out, fun i hi => by omega⟩
  · obtain ⟨b, o, rfl, hb, hc⟩ := f (by omega)
    have HC : Hid (∀ i, i < n → ∃ l u x, TkC w b (o + i * 7) l u x (ks.getD i Tk.no) ∧ Tk.Rows w l u x (ks.getD i Tk.no)) := hc
    clear f hn hM hc
    go_enter Try.func19, Try.ntmps19
    go_wp2
    clear hmk
    go_loopw [4] (fun i wr => ∃ (k : Nat) (f : Nat → Te), i = .int .i64 (k : Int) ∧ k ≤ n ∧ Below w.heap.size w wr ∧ w.heap.size + 1 ≤ wr.heap.size ∧ Hid (KsB (w.heap.size + 1) wr.heap.size wr w.heap.size k n f) ∧ Hid (∀ i, i < k → (f i).t = ks.getD i Tk.no)) (fun i _ => n - (intOf i).toNat)
    case atStart => exact ⟨0, fun _ => Te.no, rfl, by omega, (Below.refl _ _).alloc (Nat.le_refl _) _, by simp, KsB.empty _ _ HW.out (by have := HM.out; omega) _, fun i hi => by omega⟩
    case round =>
      clear HW HM
      obtain ⟨k, f, rfl, hk2, hbel, hsz, HH, HT⟩ := hrel
      by_cases hlt : k < n
      · obtain ⟨p, hp⟩ : ∃ p, p = ks.getD k Tk.no := ⟨_, rfl⟩
        have hpc := HC.out k hlt
        rw [← hp] at hpc
        obtain ⟨lv, u, x, hcc, hrw⟩ := hpc
        obtain ⟨e0, e1, e2, e3, e4, e5, e6⟩ := hcc.keep hb hbel
        have hkl := HS.out k hlt
        rw [← hp] at hkl
        have CC : Hid (Calls Try.prog 42 #[Tk.val lv u x p] wr fun e w' => ∃ la lc ua uc xa xc a d, e = .returned (.agg #[.slice la p.ls.length lc, .int .i64 p.try_, .int .i64 p.till, .bool p.done, .slice ua p.vs.length uc, .slice xa p.cs.length xc, .string p.o]) ∧ Below wr.heap.size wr w' ∧ (Te.mk p (.slice la p.ls.length lc) (.slice ua p.vs.length uc) (.slice xa p.cs.length xc) a d).Ok w' ∧ wr.heap.size ≤ a ∧ d ≤ w'.heap.size) :=
          toTask_any lv u x p wr (hrw.keep hbel) hkl
        have HP : Hid (p = ks.getD k Tk.no) := hp
        unfold Tk.val at CC
        clear hp hcc hkl
        obtain ⟨arr, ha, hsa, _⟩ := HH.out.blk
        obtain ⟨la, lc, rfl, -⟩ := hrw.ls
        obtain ⟨ua, uc, rfl, -⟩ := hrw.vr
        obtain ⟨xa, xc, rfl, -⟩ := hrw.cl
        clear hrw
        have i1 : (k : Int) < (n : Int) := by omega
        go_wp2_with fail
        refine CC.out.mono ?_
        rintro e w1 ⟨lb, ld, ub, ud, xb, xd, aa, dd, rfl, hb1, hok, ha1, hd1⟩
        have R := (hb1.block w.heap.size (by omega)).trans ha
        have c0 := blk_cell R (k * 7)
        have c1 := blk_cell R (k * 7 + 1)
        have c2 := blk_cell R (k * 7 + 2)
        have c3 := blk_cell R (k * 7 + 3)
        have c4 := blk_cell R (k * 7 + 4)
        have c5 := blk_cell R (k * 7 + 5)
        have c6 := blk_cell R (k * 7 + 6)
        have f0 := blk_free R (k * 7)
        have f1 := blk_free R (k * 7 + 1)
        have f2 := blk_free R (k * 7 + 2)
        have f3 := blk_free R (k * 7 + 3)
        have f4 := blk_free R (k * 7 + 4)
        have f5 := blk_free R (k * 7 + 5)
        have f6 := blk_free R (k * 7 + 6)
        rw [Array.getElem?_eq_getElem (by omega)] at c0 c1 c2 c3 c4 c5 c6
        have HCM := hidOfT (HH.out.more hlt (by omega) (by omega) (Nat.le_refl _) hb1 _ hok ha1 hd1)
        have HBM := hidOfT (set7_below (hbel.trans (hb1.mono (by omega))) (Nat.le_refl _) (k * 7) (Te.mk p (.slice lb p.ls.length ld) (.slice ub p.vs.length ud) (.slice xb p.cs.length xd) aa dd))
        have HSM := hidOfT (set7_size w1 w.heap.size (k * 7) (Te.mk p (.slice lb p.ls.length ld) (.slice ub p.vs.length ud) (.slice xb p.cs.length xd) aa dd))
        have hs1 := hb1.size
        clear R ha CC hok
        go_wp2_with fail
        go_roundw
        case rel => exact ⟨k + 1, _, by go_num, by omega, HBM.out, Nat.le_trans (show w.heap.size + 1 ≤ w1.heap.size by omega) (Nat.le_of_eq HSM.out.symm), by
          have h1 := HCM.out
          rw [← HSM.out] at h1
          exact h1, fun i hi => by
            by_cases e : i = k
            · subst e
              rw [if_pos rfl]
              exact HP.out
            · rw [if_neg e]
              exact HT.out i (by omega)⟩
        case measure => simp [intOf]; omega
      · obtain rfl : k = n := by omega
        go_wp2
        go_ret
        exact ⟨_, _, f, rfl, hbel, ⟨_, _, rfl, fun _ => ⟨_, rfl, Nat.le_refl _, by omega, HH.out.wide (by omega) (Nat.le_refl _)⟩⟩, HN.out, HT.out⟩

set_option maxHeartbeats 2000000 in
set_option maxRecDepth 100000 in
theorem eqTask_any (l1 u1 x1 l2 u2 x2 : Value) (t : Tk) (w : World) (h1 : Tk.Rows w l1 u1 x1 t) (h2 : Tk.Rows w l2 u2 x2 t) (hs : t.Sm) :
    Calls Try.prog 50 #[Tk.val l1 u1 x1 t, Tk.val l2 u2 x2 t] w fun e w' => e = .returned (.bool true) ∧ Below w.heap.size w w' := by
  have CN : Hid (∀ W, Below w.heap.size w W → Calls Try.prog 23 #[l1, l2] W fun e w' => e = .returned (.bool true) ∧ Below W.heap.size W w') := fun W hb => eqTs_any _ _ _ W (h1.ls.keep hb) (h2.ls.keep hb) hs.ll
  have CS : Hid (∀ W, Below w.heap.size w W → Calls Try.prog 24 #[.agg #[u1, x1, .string t.o], .agg #[u2, x2, .string t.o]] W fun e w' => e = .returned (.bool true) ∧ Below W.heap.size W w') := fun W hb => eqStore_any _ _ _ _ _ _ _ W (h1.vr.keep hb) (h1.cl.keep hb) (h2.vr.keep hb) (h2.cl.keep hb) hs.s.1 hs.s.2.2.1
  obtain ⟨la, lc, rfl, -⟩ := h1.ls
  obtain ⟨ua, uc, rfl, -⟩ := h1.vr
  obtain ⟨xa, xc, rfl, -⟩ := h1.cl
  obtain ⟨la', lc', rfl, -⟩ := h2.ls
  obtain ⟨ua', uc', rfl, -⟩ := h2.vr
  obtain ⟨xa', xc', rfl, -⟩ := h2.cl
  unfold Tk.val
  have n1 : (t.try_ != t.try_) = false := by simp
  have n2 : (t.till != t.till) = false := by simp
  have n3 : (t.done != t.done) = false := by simp
  have HB0 : Hid (Below w.heap.size w ((w.alloc (.cells #[.slice la t.ls.length lc, .int .i64 t.try_, .int .i64 t.till, .bool t.done, .slice ua t.vs.length uc, .slice xa t.cs.length xc, .string t.o] 76)).alloc (.cells #[.slice la' t.ls.length lc', .int .i64 t.try_, .int .i64 t.till, .bool t.done, .slice ua' t.vs.length uc', .slice xa' t.cs.length xc', .string t.o] 76))) := ((Below.refl _ _).alloc (Nat.le_refl _) _).alloc (by simp) _
  have HR0 : Hid (((w.alloc (.cells #[.slice la t.ls.length lc, .int .i64 t.try_, .int .i64 t.till, .bool t.done, .slice ua t.vs.length uc, .slice xa t.cs.length xc, .string t.o] 76)).alloc (.cells #[.slice la' t.ls.length lc', .int .i64 t.try_, .int .i64 t.till, .bool t.done, .slice ua' t.vs.length uc', .slice xa' t.cs.length xc', .string t.o] 76)).heap[w.heap.size]? = some (.cells #[.slice la t.ls.length lc, .int .i64 t.try_, .int .i64 t.till, .bool t.done, .slice ua t.vs.length uc, .slice xa t.cs.length xc, .string t.o] 76 (0, 0))) := s2_0 _ _ _
  have HR1 : Hid (((w.alloc (.cells #[.slice la t.ls.length lc, .int .i64 t.try_, .int .i64 t.till, .bool t.done, .slice ua t.vs.length uc, .slice xa t.cs.length xc, .string t.o] 76)).alloc (.cells #[.slice la' t.ls.length lc', .int .i64 t.try_, .int .i64 t.till, .bool t.done, .slice ua' t.vs.length uc', .slice xa' t.cs.length xc', .string t.o] 76)).heap[w.heap.size + 1]? = some (.cells #[.slice la' t.ls.length lc', .int .i64 t.try_, .int .i64 t.till, .bool t.done, .slice ua' t.vs.length uc', .slice xa' t.cs.length xc', .string t.o] 76 (0, 0))) := s2_1 _ _ _
  clear h1 h2 hs
  go_enter Try.func50, Try.ntmps50
  go_wp2_with fail
  generalize (w.alloc (.cells #[.slice la t.ls.length lc, .int .i64 t.try_, .int .i64 t.till, .bool t.done, .slice ua t.vs.length uc, .slice xa t.cs.length xc, .string t.o] 76)).alloc (.cells #[.slice la' t.ls.length lc', .int .i64 t.try_, .int .i64 t.till, .bool t.done, .slice ua' t.vs.length uc', .slice xa' t.cs.length xc', .string t.o] 76) = W0 at *
  refine (CN.out _ HB0.out).mono ?_
  rintro e w1 ⟨rfl, hb1⟩
  obtain ⟨-, p1, p2, p3, p4, p5, p6⟩ := sevT ((hb1.block _ (blk_lt HR0.out)).trans HR0.out)
  obtain ⟨-, q1, q2, q3, q4, q5, q6⟩ := sevT ((hb1.block _ (blk_lt HR1.out)).trans HR1.out)
  have HB1 := hidOfT (HB0.out.trans (hb1.mono HB0.out.size))
  clear hb1 CN HB0 HR0 HR1
  go_wp2_with fail
  refine (CS.out _ HB1.out).mono ?_
  rintro e w2 ⟨rfl, hb2⟩
  have HB2 := hidOfT (HB1.out.trans (hb2.mono HB1.out.size))
  clear hb2 CS
  go_wp2_with fail
  go_ret
  exact ⟨rfl, HB2.out⟩

set_option maxHeartbeats 2000000 in
set_option maxRecDepth 100000 in
theorem eqTasks_any (v1 v2 : Value) (ks : List Tk) (w : World) (h1 : KsAt w v1 ks) (h2 : KsAt w v2 ks) (hl : ks.length ≤ 1048576) (hs : KsSm ks ks.length) :
    Calls Try.prog 25 #[v1, v2] w fun e w' => e = .returned (.bool true) ∧ Below w.heap.size w w' := by
  obtain ⟨a1, c1, rfl, f1⟩ := h1
  obtain ⟨a2, c2, rfl, f2⟩ := h2
  obtain ⟨n, hn⟩ : ∃ n, n = ks.length := ⟨_, rfl⟩
  have HS : Hid (KsSm ks n) := by rw [hn]; exact hs
  rw [← hn] at f1 f2 hl ⊢
  clear hs
  have hq : ((n : Int) != (n : Int)) = false := by simp
  by_cases h0 : n = 0
  · subst h0
    clear f1 f2 hn
    go_enter Try.func25, Try.ntmps25
    go_wp2
    refine wp_loop_rounds 1 ?_
    rw [rounds_succ]
    go_wp2
    go_ret
    exact ⟨rfl, Below.refl _ _⟩
  · obtain ⟨g1, o1, rfl, l1, k1⟩ := f1 (by omega)
    obtain ⟨g2, o2, rfl, l2, k2⟩ := f2 (by omega)
    have K1 : Hid (∀ j, j < n → ∃ l u x, TkC w g1 (o1 + j * 7) l u x (ks.getD j Tk.no) ∧ Tk.Rows w l u x (ks.getD j Tk.no)) := k1
    have K2 : Hid (∀ j, j < n → ∃ l u x, TkC w g2 (o2 + j * 7) l u x (ks.getD j Tk.no) ∧ Tk.Rows w l u x (ks.getD j Tk.no)) := k2
    clear k1 k2 f1 f2 hn
    go_enter Try.func25, Try.ntmps25
    go_wp2
    go_loopw [5] (fun i wr => ∃ k : Nat, i = .int .i64 (k : Int) ∧ k ≤ n ∧ Below w.heap.size w wr) (fun i _ => n - (intOf i).toNat)
    case atStart => exact ⟨0, rfl, by omega, Below.refl _ _⟩
    case round =>
      obtain ⟨k, rfl, hk, hbel⟩ := hrel
      have hsz := hbel.size
      by_cases hlt : k < n
      · obtain ⟨lv1, u1, x1, y1, r1⟩ := K1.out k hlt
        obtain ⟨lv2, u2, x2, y2, r2⟩ := K2.out k hlt
        have hkl := HS.out k hlt
        obtain ⟨p, hp⟩ : ∃ p, p = ks.getD k Tk.no := ⟨_, rfl⟩
        rw [← hp] at y1 y2 r1 r2 hkl
        clear hp
        obtain ⟨d0, d1, d2, d3, d4, d5, d6⟩ := y1.keep l1 hbel
        obtain ⟨e0, e1, e2, e3, e4, e5, e6⟩ := y2.keep l2 hbel
        have r1' := r1.keep hbel
        have r2' := r2.keep hbel
        have CC : Hid (∀ w', Below wr.heap.size wr w' → Calls Try.prog 50 #[Tk.val lv1 u1 x1 p, Tk.val lv2 u2 x2 p] w' fun e w'' => e = .returned (.bool true) ∧ Below w'.heap.size w' w'') :=
          fun w' hb => eqTask_any _ _ _ _ _ _ p w' (r1'.keep hb) (r2'.keep hb) hkl
        unfold Tk.val at CC
        clear y1 y2 r1' r2' hkl
        obtain ⟨la, lc, rfl, -⟩ := r1.ls
        obtain ⟨ua, uc, rfl, -⟩ := r1.vr
        obtain ⟨xa, xc, rfl, -⟩ := r1.cl
        obtain ⟨la', lc', rfl, -⟩ := r2.ls
        obtain ⟨ua', uc', rfl, -⟩ := r2.vr
        obtain ⟨xa', xc', rfl, -⟩ := r2.cl
        clear r1 r2
        have i1 : (k : Int) < (n : Int) := by omega
        have i0 : (0 : Int) ≤ (k : Int) := by omega
        go_wp2_with fail
        go_region_with ((go_at_call 50; refine (CC.out _ (by first | exact Below.refl _ _ | exact (Below.refl _ _).drew)).mono ?_; rintro e w1 ⟨rfl, hb1⟩))
        all_goals
          go_wp2
          go_roundw
          case rel => exact ⟨k + 1, by go_num, by omega, hbel.trans (((Below.refl _ _).drew.trans hb1).mono hsz)⟩
          case measure => simp [intOf]; omega
      · go_wp2
        go_ret
        exact ⟨rfl, hbel⟩
end PartKdE
end Go.Proofs.Ythnmopldpgdenaa
