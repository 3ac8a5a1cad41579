/- The program's own copy of a task. The program's own copy of who gives and gathers. -/
import Derived.Test.YthnmopldpgdenaaMPTcZaw
namespace Go.Proofs.Ythnmopldpgdenaa
section PartKdN
open Go.RowKit

theorem copyTxIn (v : Value) (ts : List ByteArray) (w : World) (h : TsAt w v ts) (hk : ts.length ≤ 1048576) (hs : TsSmall ts ts.length) :
    Calls Try.prog 43 #[v] w fun e w' => ∃ ad c, e = .returned (.slice ad ts.length c) ∧ Below w.heap.size w w' ∧ TxIn w.heap.size w'.heap.size w' (.slice ad ts.length c) ts :=
  (copyOfTexts_any v ts w h hk hs).mono fun _ _ ⟨u, he, hr, hb⟩ => by
    have h1 := hr.in
    obtain ⟨ad, c, hv, -⟩ := id h1
    rw [hv] at he h1
    exact ⟨ad, c, he, hb, h1⟩
theorem withStIn (tv lv : Value) (o p : ByteArray) (vs : List Vr) (cs : List Cl) (w : World) (h1 : VrAt w tv vs) (h2 : ClAt w lv cs) (hs : StSmall vs cs o) (hp : p.size ≤ 100000000) :
    Calls Try.prog 45 #[.agg #[tv, lv, .string o], .string p] w fun e w' => ∃ ua uc xa xc, e = .returned (.agg #[.slice ua vs.length uc, .slice xa cs.length xc, .string p]) ∧ Below w.heap.size w w' ∧ StIn w.heap.size w'.heap.size w' (.slice ua vs.length uc) (.slice xa cs.length xc) vs cs :=
  (withOut_any tv lv o p vs cs w h1 h2 hs hp).mono fun _ _ ⟨u, x, he, hr, hb⟩ => by
    obtain ⟨m, i1, i2, h3, h4⟩ := id hr
    obtain ⟨ua, uc, hu, -⟩ := id h3
    obtain ⟨xa, xc, hx, -⟩ := id h4
    rw [hu, hx] at he hr
    exact ⟨ua, uc, xa, xc, he, hb, hr⟩
theorem run_eqlSliceNil (w : World) (a : Option Addr) (l c : Nat) : (binOp .eql 34 (.slice a l c) (.slice none 0 0)).run Try.prog w = .ok (.bool a.isNone) w := by
  simp only [binOp]
  simp [run_equal_slice_nil w 34 83 a l c Try.underlying34]
set_option maxHeartbeats 2000000 in
set_option maxRecDepth 100000 in
theorem imClone_any (v : Value) (xs : List Ins) (w : World) (h : InsAt w v xs) (hk : xs.length ≤ 1048576) :
    Calls Try.prog 44 #[v] w fun e w' => ∃ ad c, e = .returned (.slice ad xs.length c) ∧ Below w.heap.size w w' ∧ InIn w.heap.size w'.heap.size w' (.slice ad xs.length c) xs := by
  obtain ⟨ad, c, rfl, f⟩ := id h
  cases ad with
  | none =>
    have h0 : xs.length = 0 := by
      by_cases h0 : xs.length = 0
      · exact h0
      · obtain ⟨b, o, hn, -⟩ := f (by omega)
        cases hn
    have hx : xs = [] := List.length_eq_zero_iff.1 h0
    subst hx
    have hnil : (binOp .eql 34 (.slice none 0 c) (.slice none 0 0)).run Try.prog w = .ok (.bool true) w := run_eqlSliceNil w none 0 c
    go_enter Try.func44, Try.ntmps44
    go_wp2
    go_ret
    exact ⟨none, 0, rfl, Below.refl _ _, ⟨none, 0, rfl, fun h => by simp at h⟩⟩
  | some p =>
    have HA : Hid (InsAt w (.slice (some p) xs.length c) xs) := h
    have HK : Hid (xs.length ≤ 1048576) := hk
    clear h f hk
    have hnil : (binOp .eql 34 (.slice (some p) xs.length c) (.slice none 0 0)).run Try.prog w = .ok (.bool false) w := run_eqlSliceNil w (some p) xs.length c
    go_enter Try.func44, Try.ntmps44
    go_wp2_with (at_builtin; go_must (refine InRow.appAll (B := w.heap.size) rfl (.tmp 5) (.tmp 6) rfl (Nat.le_refl _) _ rfl rfl rfl HA.out HK.out ?_))
    intro ua uc w' hr hb
    have HR := hidOfT hr
    have HB := hidOfT hb
    clear hr hb
    go_wp2
    go_ret
    exact ⟨ua, uc, rfl, HB.out, HR.out.in⟩

set_option maxHeartbeats 4000000 in
set_option maxRecDepth 100000 in
theorem ownTask_any (lv u x : Value) (t : Tk) (w : World) (h : Tk.Rows w lv u x t) (hs : t.Sm) :
    Calls Try.prog 46 #[Tk.val lv u x t] w fun e w' => ∃ la lc ua uc xa xc a d, e = .returned (.agg #[.slice la t.ls.length lc, .int .i64 t.try_, .int .i64 t.till, .bool t.done, .slice ua t.vs.length uc, .slice xa t.cs.length xc, .string t.o]) ∧ Below w.heap.size w w' ∧ (Te.mk t (.slice la t.ls.length lc) (.slice ua t.vs.length uc) (.slice xa t.cs.length xc) a d).Ok w' ∧ w.heap.size ≤ a ∧ d ≤ w'.heap.size := by
  have HH : Hid (∀ W, Below w.heap.size w W → Tk.Rows W lv u x t) := fun W hb => h.keep hb
  obtain ⟨la, lc, rfl, -⟩ := h.ls
  obtain ⟨ua, uc, rfl, -⟩ := h.vr
  obtain ⟨xa, xc, rfl, -⟩ := h.cl
  have C1 := hidOfT (fun (W : World) (hb : Below w.heap.size w W) => copyTxIn _ t.ls W (HH.out W hb).ls hs.ll hs.lt)
  have C2 := hidOfT (fun (W : World) (hb : Below w.heap.size w W) => withStIn _ _ t.o t.o t.vs t.cs W (HH.out W hb).vr (HH.out W hb).cl hs.s (by have := hs.s.2.2.2.2; omega))
  unfold Tk.val
  clear HH h hs
  have HB : Hid (Below w.heap.size w ((w.alloc (.cells #[.slice la t.ls.length lc, .int .i64 t.try_, .int .i64 t.till, .bool t.done, .slice ua t.vs.length uc, .slice xa t.cs.length xc, .string t.o] 76)).alloc (.cells #[.slice none 0 0, .int .i64 0, .int .i64 0, .bool false, .slice none 0 0, .slice none 0 0, .string ⟨#[]⟩] 76))) := (((Below.refl _ _).alloc (Nat.le_refl _) _).alloc (by simp) _)
  have HA : Hid (((w.alloc (.cells #[.slice la t.ls.length lc, .int .i64 t.try_, .int .i64 t.till, .bool t.done, .slice ua t.vs.length uc, .slice xa t.cs.length xc, .string t.o] 76)).alloc (.cells #[.slice none 0 0, .int .i64 0, .int .i64 0, .bool false, .slice none 0 0, .slice none 0 0, .string ⟨#[]⟩] 76)).heap[w.heap.size]? = some (.cells #[.slice la t.ls.length lc, .int .i64 t.try_, .int .i64 t.till, .bool t.done, .slice ua t.vs.length uc, .slice xa t.cs.length xc, .string t.o] 76 (0, 0))) := s2_0 _ _ _
  have HZ : Hid (((w.alloc (.cells #[.slice la t.ls.length lc, .int .i64 t.try_, .int .i64 t.till, .bool t.done, .slice ua t.vs.length uc, .slice xa t.cs.length xc, .string t.o] 76)).alloc (.cells #[.slice none 0 0, .int .i64 0, .int .i64 0, .bool false, .slice none 0 0, .slice none 0 0, .string ⟨#[]⟩] 76)).heap[w.heap.size + 1]? = some (.cells #[.slice none 0 0, .int .i64 0, .int .i64 0, .bool false, .slice none 0 0, .slice none 0 0, .string ⟨#[]⟩] 76 (0, 0))) := s2_1 _ _ _
  obtain ⟨n0, hn0⟩ : ∃ n, n = ((w.alloc (.cells #[.slice la t.ls.length lc, .int .i64 t.try_, .int .i64 t.till, .bool t.done, .slice ua t.vs.length uc, .slice xa t.cs.length xc, .string t.o] 76)).alloc (.cells #[.slice none 0 0, .int .i64 0, .int .i64 0, .bool false, .slice none 0 0, .slice none 0 0, .string ⟨#[]⟩] 76)).heap.size := ⟨_, rfl⟩
  have HN0 : Hid (((w.alloc (.cells #[.slice la t.ls.length lc, .int .i64 t.try_, .int .i64 t.till, .bool t.done, .slice ua t.vs.length uc, .slice xa t.cs.length xc, .string t.o] 76)).alloc (.cells #[.slice none 0 0, .int .i64 0, .int .i64 0, .bool false, .slice none 0 0, .slice none 0 0, .string ⟨#[]⟩] 76)).heap.size = n0 ∧ n0 = w.heap.size + 2) := ⟨hn0.symm, by rw [hn0]; simp⟩
  clear hn0
  go_enter Try.func46, Try.ntmps46
  go_wp2_with fail
  generalize ((w.alloc (.cells #[.slice la t.ls.length lc, .int .i64 t.try_, .int .i64 t.till, .bool t.done, .slice ua t.vs.length uc, .slice xa t.cs.length xc, .string t.o] 76)).alloc (.cells #[.slice none 0 0, .int .i64 0, .int .i64 0, .bool false, .slice none 0 0, .slice none 0 0, .string ⟨#[]⟩] 76)) = X0 at *
  refine (C1.out _ HB.out).mono ?_
  rintro e w1 ⟨lb, ld, rfl, hb, hr⟩
  have HAy := hidOfT ((hb.block _ (blk_lt HA.out)).trans HA.out)
  have HZy := hidOfT ((hb.block _ (blk_lt HZ.out)).trans HZ.out)
  have HBy := hidOfT (HB.out.trans (hb.mono HB.out.size))
  obtain ⟨n1, hn1⟩ : ∃ n, n = w1.heap.size := ⟨_, rfl⟩
  have HN1 : Hid (w1.heap.size = n1 ∧ n0 ≤ n1) := ⟨hn1.symm, by have := hb.size; have := HN0.out; omega⟩
  have PLy : Hid (TxIn n0 n1 w1 (.slice lb t.ls.length ld) t.ls) := by rw [HN0.out.1, ← hn1] at hr; exact hr
  clear hn1 hb HB HA HZ  hr C1
  have cA4 := (blk_cell HAy.out 4).trans rfl
  have cA5 := (blk_cell HAy.out 5).trans rfl
  have cA6 := (blk_cell HAy.out 6).trans rfl
  have cA0 := (blk_cell HAy.out 0).trans rfl
  have fA0 := blk_free HAy.out 0
  have gZ0 : ((w1).setCell ⟨w.heap.size, 0, none⟩ (.slice lb t.ls.length ld)).heap[w.heap.size + 1]? = some (.cells #[.slice none 0 0, .int .i64 0, .int .i64 0, .bool false, .slice none 0 0, .slice none 0 0, .string ⟨#[]⟩] 76 (0, 0)) := (Below.heap_setCell _ _ _ _ (by show w.heap.size + 1 ≠ w.heap.size; omega)).trans HZy.out
  have gA0 : ((w1).setCell ⟨w.heap.size, 0, none⟩ (.slice lb t.ls.length ld)).heap[w.heap.size]? = some (.cells #[(.slice lb t.ls.length ld), .int .i64 t.try_, .int .i64 t.till, .bool t.done, .slice ua t.vs.length uc, .slice xa t.cs.length xc, .string t.o] 76 (0, 0)) := blk_set HAy.out 0 _
  have OT : ∀ q, n0 ≤ q → (w1.setCell ⟨w.heap.size, 0, none⟩ (.slice lb t.ls.length ld)).heap[q]? = w1.heap[q]? := by
    intro q hq
    have := HN0.out.2
    rw [Below.heap_setCell _ _ _ _ (by show q ≠ w.heap.size; omega)]
  have HAx := hidOfT gA0
  have HZx := hidOfT gZ0
  have HBx : Hid (Below w.heap.size w (w1.setCell ⟨w.heap.size, 0, none⟩ (.slice lb t.ls.length ld))) := (HBy.out.setCell (by show w.heap.size ≤ w.heap.size; omega) (.slice lb t.ls.length ld))
  have HN1x : Hid ((w1.setCell ⟨w.heap.size, 0, none⟩ (.slice lb t.ls.length ld)).heap.size = n1 ∧ n0 ≤ n1) := ⟨by have := HN1.out.1; simpa [World.setCell] using this, HN1.out.2⟩
  have PLx : Hid (TxIn n0 n1 (w1.setCell ⟨w.heap.size, 0, none⟩ (.slice lb t.ls.length ld)) (.slice lb t.ls.length ld) t.ls) := PLy.out.keep (fun q q1 q2 => OT q (by have := HN0.out; have := HN1.out; omega))
  clear OT gA0 gZ0 HN1 HBy HAy HZy PLy
  go_wp2_with fail
  generalize (w1.setCell ⟨w.heap.size, 0, none⟩ (.slice lb t.ls.length ld)) = X1 at *
  clear cA4 cA5 cA6 cA0 fA0
  have HA := hidOfT HAx.out
  have HZ := hidOfT HZx.out
  have HB := hidOfT HBx.out
  have HN1 := hidOfT HN1x.out
  have PL := hidOfT PLx.out
  clear HAx HZx HBx HN1x PLx
  refine (C2.out _ HB.out).mono ?_
  rintro e w2 ⟨ub, ud, xb, xd, rfl, hb, hr⟩
  have HAy := hidOfT ((hb.block _ (blk_lt HA.out)).trans HA.out)
  have HZy := hidOfT ((hb.block _ (blk_lt HZ.out)).trans HZ.out)
  have HBy := hidOfT (HB.out.trans (hb.mono HB.out.size))
  obtain ⟨n2, hn2⟩ : ∃ n, n = w2.heap.size := ⟨_, rfl⟩
  have HN2 : Hid (w2.heap.size = n2 ∧ n1 ≤ n2) := ⟨hn2.symm, by have := hb.size; have := HN1.out; omega⟩
  have PLy : Hid (TxIn n0 n1 w2 (.slice lb t.ls.length ld) t.ls) := PL.out.keep (fun q q1 q2 => hb.block q (by have := HN0.out; have := HN1.out; omega))
  have PSy : Hid (StIn n1 n2 w2 (.slice ub t.vs.length ud) (.slice xb t.cs.length xd) t.vs t.cs) := by rw [HN1.out.1, ← hn2] at hr; exact hr
  clear hn2 hb HB HA HZ PL hr C2
  have cA0 := (blk_cell HAy.out 0).trans rfl
  have cA1 := (blk_cell HAy.out 1).trans rfl
  have cA2 := (blk_cell HAy.out 2).trans rfl
  have cA3 := (blk_cell HAy.out 3).trans rfl
  have cA4 := (blk_cell HAy.out 4).trans rfl
  have cA5 := (blk_cell HAy.out 5).trans rfl
  have cA6 := (blk_cell HAy.out 6).trans rfl
  have fA4 := blk_free HAy.out 4
  have fA5 := blk_free HAy.out 5
  have fA6 := blk_free HAy.out 6
  have gZ0 : ((w2).setCell ⟨w.heap.size, 4, none⟩ (.slice ub t.vs.length ud)).heap[w.heap.size + 1]? = some (.cells #[.slice none 0 0, .int .i64 0, .int .i64 0, .bool false, .slice none 0 0, .slice none 0 0, .string ⟨#[]⟩] 76 (0, 0)) := (Below.heap_setCell _ _ _ _ (by show w.heap.size + 1 ≠ w.heap.size; omega)).trans HZy.out
  have gA0 : ((w2).setCell ⟨w.heap.size, 4, none⟩ (.slice ub t.vs.length ud)).heap[w.heap.size]? = some (.cells #[(.slice lb t.ls.length ld), .int .i64 t.try_, .int .i64 t.till, .bool t.done, (.slice ub t.vs.length ud), .slice xa t.cs.length xc, .string t.o] 76 (0, 0)) := blk_set HAy.out 4 _
  have gZ1 : (((w2.setCell ⟨w.heap.size, 4, none⟩ (.slice ub t.vs.length ud))).setCell ⟨w.heap.size, 5, none⟩ (.slice xb t.cs.length xd)).heap[w.heap.size + 1]? = some (.cells #[.slice none 0 0, .int .i64 0, .int .i64 0, .bool false, .slice none 0 0, .slice none 0 0, .string ⟨#[]⟩] 76 (0, 0)) := (Below.heap_setCell _ _ _ _ (by show w.heap.size + 1 ≠ w.heap.size; omega)).trans gZ0
  have gA1 : (((w2.setCell ⟨w.heap.size, 4, none⟩ (.slice ub t.vs.length ud))).setCell ⟨w.heap.size, 5, none⟩ (.slice xb t.cs.length xd)).heap[w.heap.size]? = some (.cells #[(.slice lb t.ls.length ld), .int .i64 t.try_, .int .i64 t.till, .bool t.done, (.slice ub t.vs.length ud), (.slice xb t.cs.length xd), .string t.o] 76 (0, 0)) := blk_set gA0 5 _
  have gZ2 : ((((w2.setCell ⟨w.heap.size, 4, none⟩ (.slice ub t.vs.length ud)).setCell ⟨w.heap.size, 5, none⟩ (.slice xb t.cs.length xd))).setCell ⟨w.heap.size, 6, none⟩ (.string t.o)).heap[w.heap.size + 1]? = some (.cells #[.slice none 0 0, .int .i64 0, .int .i64 0, .bool false, .slice none 0 0, .slice none 0 0, .string ⟨#[]⟩] 76 (0, 0)) := (Below.heap_setCell _ _ _ _ (by show w.heap.size + 1 ≠ w.heap.size; omega)).trans gZ1
  have gA2 : ((((w2.setCell ⟨w.heap.size, 4, none⟩ (.slice ub t.vs.length ud)).setCell ⟨w.heap.size, 5, none⟩ (.slice xb t.cs.length xd))).setCell ⟨w.heap.size, 6, none⟩ (.string t.o)).heap[w.heap.size]? = some (.cells #[(.slice lb t.ls.length ld), .int .i64 t.try_, .int .i64 t.till, .bool t.done, (.slice ub t.vs.length ud), (.slice xb t.cs.length xd), (.string t.o)] 76 (0, 0)) := blk_set gA1 6 _
  have OT : ∀ q, n0 ≤ q → (((w2.setCell ⟨w.heap.size, 4, none⟩ (.slice ub t.vs.length ud)).setCell ⟨w.heap.size, 5, none⟩ (.slice xb t.cs.length xd)).setCell ⟨w.heap.size, 6, none⟩ (.string t.o)).heap[q]? = w2.heap[q]? := by
    intro q hq
    have := HN0.out.2
    rw [Below.heap_setCell _ _ _ _ (by show q ≠ w.heap.size; omega), Below.heap_setCell _ _ _ _ (by show q ≠ w.heap.size; omega), Below.heap_setCell _ _ _ _ (by show q ≠ w.heap.size; omega)]
  have HAx := hidOfT gA2
  have HZx := hidOfT gZ2
  have HBx : Hid (Below w.heap.size w (((w2.setCell ⟨w.heap.size, 4, none⟩ (.slice ub t.vs.length ud)).setCell ⟨w.heap.size, 5, none⟩ (.slice xb t.cs.length xd)).setCell ⟨w.heap.size, 6, none⟩ (.string t.o))) := (((HBy.out.setCell (by show w.heap.size ≤ w.heap.size; omega) (.slice ub t.vs.length ud)).setCell (by show w.heap.size ≤ w.heap.size; omega) (.slice xb t.cs.length xd)).setCell (by show w.heap.size ≤ w.heap.size; omega) (.string t.o))
  have HN2x : Hid ((((w2.setCell ⟨w.heap.size, 4, none⟩ (.slice ub t.vs.length ud)).setCell ⟨w.heap.size, 5, none⟩ (.slice xb t.cs.length xd)).setCell ⟨w.heap.size, 6, none⟩ (.string t.o)).heap.size = n2 ∧ n1 ≤ n2) := ⟨by have := HN2.out.1; simpa [World.setCell] using this, HN2.out.2⟩
  have PLx : Hid (TxIn n0 n1 (((w2.setCell ⟨w.heap.size, 4, none⟩ (.slice ub t.vs.length ud)).setCell ⟨w.heap.size, 5, none⟩ (.slice xb t.cs.length xd)).setCell ⟨w.heap.size, 6, none⟩ (.string t.o)) (.slice lb t.ls.length ld) t.ls) := PLy.out.keep (fun q q1 q2 => OT q (by have := HN0.out; have := HN1.out; have := HN2.out; omega))
  have PSx : Hid (StIn n1 n2 (((w2.setCell ⟨w.heap.size, 4, none⟩ (.slice ub t.vs.length ud)).setCell ⟨w.heap.size, 5, none⟩ (.slice xb t.cs.length xd)).setCell ⟨w.heap.size, 6, none⟩ (.string t.o)) (.slice ub t.vs.length ud) (.slice xb t.cs.length xd) t.vs t.cs) := PSy.out.keep (fun q q1 q2 => OT q (by have := HN0.out; have := HN1.out; have := HN2.out; omega))
  have HRf := hidOfT (show ((((((((((w2.setCell ⟨w.heap.size, 4, none⟩ (.slice ub t.vs.length ud)).setCell ⟨w.heap.size, 5, none⟩ (.slice xb t.cs.length xd)).setCell ⟨w.heap.size, 6, none⟩ (.string t.o)).setCell ⟨w.heap.size + 1, 0, none⟩ (.slice lb t.ls.length ld)).setCell ⟨w.heap.size + 1, 1, none⟩ (.int .i64 t.try_)).setCell ⟨w.heap.size + 1, 2, none⟩ (.int .i64 t.till)).setCell ⟨w.heap.size + 1, 3, none⟩ (.bool t.done)).setCell ⟨w.heap.size + 1, 4, none⟩ (.slice ub t.vs.length ud)).setCell ⟨w.heap.size + 1, 5, none⟩ (.slice xb t.cs.length xd)).setCell ⟨w.heap.size + 1, 6, none⟩ (.string t.o)).heap[w.heap.size + 1]? = some (.cells #[.slice lb t.ls.length ld, .int .i64 t.try_, .int .i64 t.till, .bool t.done, .slice ub t.vs.length ud, .slice xb t.cs.length xd, .string t.o] 76 (0, 0)) from setB7 HZx.out (.slice lb t.ls.length ld) (.int .i64 t.try_) (.int .i64 t.till) (.bool t.done) (.slice ub t.vs.length ud) (.slice xb t.cs.length xd) (.string t.o))
  have HBf : Hid (Below w.heap.size w ((((((((((w2.setCell ⟨w.heap.size, 4, none⟩ (.slice ub t.vs.length ud)).setCell ⟨w.heap.size, 5, none⟩ (.slice xb t.cs.length xd)).setCell ⟨w.heap.size, 6, none⟩ (.string t.o)).setCell ⟨w.heap.size + 1, 0, none⟩ (.slice lb t.ls.length ld)).setCell ⟨w.heap.size + 1, 1, none⟩ (.int .i64 t.try_)).setCell ⟨w.heap.size + 1, 2, none⟩ (.int .i64 t.till)).setCell ⟨w.heap.size + 1, 3, none⟩ (.bool t.done)).setCell ⟨w.heap.size + 1, 4, none⟩ (.slice ub t.vs.length ud)).setCell ⟨w.heap.size + 1, 5, none⟩ (.slice xb t.cs.length xd)).setCell ⟨w.heap.size + 1, 6, none⟩ (.string t.o))) := belowB7 HBx.out (by omega) (.slice lb t.ls.length ld) (.int .i64 t.try_) (.int .i64 t.till) (.bool t.done) (.slice ub t.vs.length ud) (.slice xb t.cs.length xd) (.string t.o)
  have HOf := hidOfT (fun (q : Nat) (hq : n0 ≤ q) => (show ((((((((((w2.setCell ⟨w.heap.size, 4, none⟩ (.slice ub t.vs.length ud)).setCell ⟨w.heap.size, 5, none⟩ (.slice xb t.cs.length xd)).setCell ⟨w.heap.size, 6, none⟩ (.string t.o)).setCell ⟨w.heap.size + 1, 0, none⟩ (.slice lb t.ls.length ld)).setCell ⟨w.heap.size + 1, 1, none⟩ (.int .i64 t.try_)).setCell ⟨w.heap.size + 1, 2, none⟩ (.int .i64 t.till)).setCell ⟨w.heap.size + 1, 3, none⟩ (.bool t.done)).setCell ⟨w.heap.size + 1, 4, none⟩ (.slice ub t.vs.length ud)).setCell ⟨w.heap.size + 1, 5, none⟩ (.slice xb t.cs.length xd)).setCell ⟨w.heap.size + 1, 6, none⟩ (.string t.o)).heap[q]? = (((w2.setCell ⟨w.heap.size, 4, none⟩ (.slice ub t.vs.length ud)).setCell ⟨w.heap.size, 5, none⟩ (.slice xb t.cs.length xd)).setCell ⟨w.heap.size, 6, none⟩ (.string t.o)).heap[q]? from othB7 (.slice lb t.ls.length ld) (.int .i64 t.try_) (.int .i64 t.till) (.bool t.done) (.slice ub t.vs.length ud) (.slice xb t.cs.length xd) (.string t.o) q (by have := HN0.out.2; omega)))
  have HSf : Hid (((((((((((w2.setCell ⟨w.heap.size, 4, none⟩ (.slice ub t.vs.length ud)).setCell ⟨w.heap.size, 5, none⟩ (.slice xb t.cs.length xd)).setCell ⟨w.heap.size, 6, none⟩ (.string t.o)).setCell ⟨w.heap.size + 1, 0, none⟩ (.slice lb t.ls.length ld)).setCell ⟨w.heap.size + 1, 1, none⟩ (.int .i64 t.try_)).setCell ⟨w.heap.size + 1, 2, none⟩ (.int .i64 t.till)).setCell ⟨w.heap.size + 1, 3, none⟩ (.bool t.done)).setCell ⟨w.heap.size + 1, 4, none⟩ (.slice ub t.vs.length ud)).setCell ⟨w.heap.size + 1, 5, none⟩ (.slice xb t.cs.length xd)).setCell ⟨w.heap.size + 1, 6, none⟩ (.string t.o)).heap.size = n2) := (sizeB7 (.slice lb t.ls.length ld) (.int .i64 t.try_) (.int .i64 t.till) (.bool t.done) (.slice ub t.vs.length ud) (.slice xb t.cs.length xd) (.string t.o)).trans HN2x.out.1
  have HEf : Hid ((Te.mk t (.slice lb t.ls.length ld) (.slice ub t.vs.length ud) (.slice xb t.cs.length xd) n0 n2).Ok ((((((((((w2.setCell ⟨w.heap.size, 4, none⟩ (.slice ub t.vs.length ud)).setCell ⟨w.heap.size, 5, none⟩ (.slice xb t.cs.length xd)).setCell ⟨w.heap.size, 6, none⟩ (.string t.o)).setCell ⟨w.heap.size + 1, 0, none⟩ (.slice lb t.ls.length ld)).setCell ⟨w.heap.size + 1, 1, none⟩ (.int .i64 t.try_)).setCell ⟨w.heap.size + 1, 2, none⟩ (.int .i64 t.till)).setCell ⟨w.heap.size + 1, 3, none⟩ (.bool t.done)).setCell ⟨w.heap.size + 1, 4, none⟩ (.slice ub t.vs.length ud)).setCell ⟨w.heap.size + 1, 5, none⟩ (.slice xb t.cs.length xd)).setCell ⟨w.heap.size + 1, 6, none⟩ (.string t.o))) := ⟨n1, HN1.out.2, HN2.out.2, PLx.out.keep (fun q q1 q2 => HOf.out q q1), PSx.out.keep (fun q q1 q2 => HOf.out q (by have := HN1.out; omega))⟩
  clear OT gA0 gZ0 gA1 gZ1 gA2 gZ2 HN2 HBy HAy HZy PLy PSy
  have z0 := (blk_cell HZx.out 0).trans rfl
  have z1 := (blk_cell HZx.out 1).trans rfl
  have z2 := (blk_cell HZx.out 2).trans rfl
  have z3 := (blk_cell HZx.out 3).trans rfl
  have z4 := (blk_cell HZx.out 4).trans rfl
  have z5 := (blk_cell HZx.out 5).trans rfl
  have z6 := (blk_cell HZx.out 6).trans rfl
  have y0 := blk_free HZx.out 0
  have y1 := blk_free HZx.out 1
  have y2 := blk_free HZx.out 2
  have y3 := blk_free HZx.out 3
  have y4 := blk_free HZx.out 4
  have y5 := blk_free HZx.out 5
  have y6 := blk_free HZx.out 6
  clear HOf HAx HBx PLx PSx
  go_wp2_with fail
  refine bodyPost_ret (results_cell_row (p := 2) (ty := 76) rfl _ _ (w.heap.size + 1) 76 _ (0, 0) _ rfl HRf.out Try.underlying76 rfl (by kernel_rfl)) rfl ?_
  exact ⟨_, _, _, _, _, _, n0, n2, rfl, HBf.out, HEf.out, by have := HN0.out; omega, by have := HSf.out; omega⟩
end PartKdN
section PartKdO
open Go.RowKit

set_option maxHeartbeats 16000000 in
set_option maxRecDepth 100000 in
theorem ownCoord_any (tv lv nv bu bx kv fu fx : Value) (c : Co) (w : World) (h : Co.At w tv lv nv bu bx kv fu fx c) (hs : c.Sm) :
    Calls Try.prog 20 #[.agg (Co.cells tv lv nv bu bx kv fu fx c)] w fun r w' => ∃ ta tc la lc na nc ua uc xa xc ka kc ga gc ha hc p0 p1 p2 p3 p4 p5 p6 f, r = .returned (.pointer (some ⟨w.heap.size, 0, none⟩)) ∧ w'.heap[w.heap.size]? = some (.cells #[.slice ta c.ts.length tc, .slice la c.xs.length lc, .int .i64 c.bg, .int .i64 c.li, .int .i64 c.en, .slice na c.ns.length nc, .slice ua c.bv.length uc, .slice xa c.bc.length xc, .string c.bo, .int .i64 c.cnt, .slice ka c.ks.length kc, .int .i64 c.now, .int .i64 c.tries, .bool c.over, .slice ga c.fv.length gc, .slice ha c.fc.length hc, .string c.fo] 43 (0, 0)) ∧ Below w.heap.size w w' ∧ w.heap.size + 1 ≤ p0 ∧ p6 ≤ w'.heap.size ∧ Co.Own p0 p1 p2 p3 p4 p5 p6 w' (.slice ta c.ts.length tc) (.slice la c.xs.length lc) (.slice na c.ns.length nc) (.slice ua c.bv.length uc) (.slice xa c.bc.length xc) (.slice ka c.ks.length kc) (.slice ga c.fv.length gc) (.slice ha c.fc.length hc) c f := by
  have HH : Hid (∀ W, Below w.heap.size w W → KsAt W kv c.ks) := fun W hb => h.k.keep hb
  have HSM : Hid (KsSm c.ks c.ks.length) := hs.kk
  have hkl := hs.kl
  have C1 := hidOfT (fun (W : World) (hb : Below w.heap.size w W) => copyTxIn tv c.ts W (h.t.keep hb) hs.tl hs.tt)
  have C2 := hidOfT (fun (W : World) (hb : Below w.heap.size w W) => imClone_any lv c.xs W (h.l.keep hb) hs.xl)
  have C3 := hidOfT (fun (W : World) (hb : Below w.heap.size w W) => copyTxIn nv c.ns W (h.n.keep hb) hs.nl hs.nt)
  have C4 := hidOfT (fun (W : World) (hb : Below w.heap.size w W) => withStIn bu bx c.bo c.bo c.bv c.bc W (h.u.keep hb) (h.x.keep hb) hs.b (by have := hs.b.2.2.2.2; omega))
  have C5 := hidOfT (fun (W : World) (hb : Below w.heap.size w W) => withStIn fu fx c.fo c.fo c.fv c.fc W (h.fu.keep hb) (h.fx.keep hb) hs.f (by have := hs.f.2.2.2.2; omega))
  obtain ⟨ta, tc, rfl, -⟩ := h.t
  obtain ⟨la, lc, rfl, -⟩ := h.l
  obtain ⟨na, nc, rfl, -⟩ := h.n
  obtain ⟨ua, uc, rfl, -⟩ := h.u
  obtain ⟨xa, xc, rfl, -⟩ := h.x
  obtain ⟨ka, kc, rfl, -⟩ := h.k
  obtain ⟨ga, gc, rfl, -⟩ := h.fu
  obtain ⟨ha, hc, rfl, -⟩ := h.fx
  unfold Co.cells
  obtain ⟨N, hN⟩ : ∃ N, N = c.ks.length := ⟨_, rfl⟩
  have HNK : Hid (N = c.ks.length) := hN
  rw [← hN] at hkl HH
  obtain ⟨M, hM, hmk⟩ := makeTk_run N 0 (Nat.zero_le _) (by omega)
  have hmk : ∀ W : World, (Instr.makeSlice 41 (.int .i64 0) (.int .i64 (N : Int))).run Try.prog W = .ok (.slice (some ⟨W.heap.size, 0, none⟩) 0 N) (W.alloc (.cells M 76)) := hmk
  have HM : Hid (M.size = N * 7) := hM
  have HMK := hidOfT hmk
  clear h hs hM hmk
  simp only [← hN]
  clear hN
  have HB : Hid (Below w.heap.size w (w.alloc (.cells #[.slice ta c.ts.length tc, .slice la c.xs.length lc, .int .i64 c.bg, .int .i64 c.li, .int .i64 c.en, .slice na c.ns.length nc, .slice ua c.bv.length uc, .slice xa c.bc.length xc, .string c.bo, .int .i64 c.cnt, .slice ka N kc, .int .i64 c.now, .int .i64 c.tries, .bool c.over, .slice ga c.fv.length gc, .slice ha c.fc.length hc, .string c.fo] 43))) := ((Below.refl _ _).alloc (Nat.le_refl _) _)
  have HA : Hid ((w.alloc (.cells #[.slice ta c.ts.length tc, .slice la c.xs.length lc, .int .i64 c.bg, .int .i64 c.li, .int .i64 c.en, .slice na c.ns.length nc, .slice ua c.bv.length uc, .slice xa c.bc.length xc, .string c.bo, .int .i64 c.cnt, .slice ka N kc, .int .i64 c.now, .int .i64 c.tries, .bool c.over, .slice ga c.fv.length gc, .slice ha c.fc.length hc, .string c.fo] 43)).heap[w.heap.size]? = some (.cells #[.slice ta c.ts.length tc, .slice la c.xs.length lc, .int .i64 c.bg, .int .i64 c.li, .int .i64 c.en, .slice na c.ns.length nc, .slice ua c.bv.length uc, .slice xa c.bc.length xc, .string c.bo, .int .i64 c.cnt, .slice ka N kc, .int .i64 c.now, .int .i64 c.tries, .bool c.over, .slice ga c.fv.length gc, .slice ha c.fc.length hc, .string c.fo] 43 (0, 0))) := heap_alloc_new _ _
  obtain ⟨n0, hn0⟩ : ∃ n, n = (w.alloc (.cells #[.slice ta c.ts.length tc, .slice la c.xs.length lc, .int .i64 c.bg, .int .i64 c.li, .int .i64 c.en, .slice na c.ns.length nc, .slice ua c.bv.length uc, .slice xa c.bc.length xc, .string c.bo, .int .i64 c.cnt, .slice ka N kc, .int .i64 c.now, .int .i64 c.tries, .bool c.over, .slice ga c.fv.length gc, .slice ha c.fc.length hc, .string c.fo] 43)).heap.size := ⟨_, rfl⟩
  have HN0 : Hid ((w.alloc (.cells #[.slice ta c.ts.length tc, .slice la c.xs.length lc, .int .i64 c.bg, .int .i64 c.li, .int .i64 c.en, .slice na c.ns.length nc, .slice ua c.bv.length uc, .slice xa c.bc.length xc, .string c.bo, .int .i64 c.cnt, .slice ka N kc, .int .i64 c.now, .int .i64 c.tries, .bool c.over, .slice ga c.fv.length gc, .slice ha c.fc.length hc, .string c.fo] 43)).heap.size = n0 ∧ n0 = w.heap.size + 1) := ⟨hn0.symm, by rw [hn0]; simp⟩
  clear hn0
  go_enter Try.func20, Try.ntmps20
  go_wp2_with fail
  generalize (w.alloc (.cells #[.slice ta c.ts.length tc, .slice la c.xs.length lc, .int .i64 c.bg, .int .i64 c.li, .int .i64 c.en, .slice na c.ns.length nc, .slice ua c.bv.length uc, .slice xa c.bc.length xc, .string c.bo, .int .i64 c.cnt, .slice ka N kc, .int .i64 c.now, .int .i64 c.tries, .bool c.over, .slice ga c.fv.length gc, .slice ha c.fc.length hc, .string c.fo] 43)) = X0 at *
  refine (C1.out _ HB.out).mono ?_
  rintro e w1 ⟨tb, td, rfl, hb, hr⟩
  have HAy := hidOfT ((hb.block _ (blk_lt HA.out)).trans HA.out)
  have HBy := hidOfT (HB.out.trans (hb.mono HB.out.size))
  obtain ⟨n1, hn1⟩ : ∃ n, n = w1.heap.size := ⟨_, rfl⟩
  have HN1 : Hid (w1.heap.size = n1 ∧ n0 ≤ n1) := ⟨hn1.symm, by have := hb.size; have := HN0.out; omega⟩
  have PTy : Hid (TxIn n0 n1 w1 (.slice tb c.ts.length td) c.ts) := by rw [HN0.out.1, ← hn1] at hr; exact hr
  clear hn1 hb HB HA  hr C1
  have cA1 := (blk_cell HAy.out 1).trans rfl
  have cA0 := (blk_cell HAy.out 0).trans rfl
  have fA0 := blk_free HAy.out 0
  have gA0 : ((w1).setCell ⟨w.heap.size, 0, none⟩ (.slice tb c.ts.length td)).heap[w.heap.size]? = some (.cells #[(.slice tb c.ts.length td), .slice la c.xs.length lc, .int .i64 c.bg, .int .i64 c.li, .int .i64 c.en, .slice na c.ns.length nc, .slice ua c.bv.length uc, .slice xa c.bc.length xc, .string c.bo, .int .i64 c.cnt, .slice ka N kc, .int .i64 c.now, .int .i64 c.tries, .bool c.over, .slice ga c.fv.length gc, .slice ha c.fc.length hc, .string c.fo] 43 (0, 0)) := blk_set HAy.out 0 _
  have OT : ∀ q, n0 ≤ q → (w1.setCell ⟨w.heap.size, 0, none⟩ (.slice tb c.ts.length td)).heap[q]? = w1.heap[q]? := by
    intro q hq
    have := HN0.out.2
    rw [Below.heap_setCell _ _ _ _ (by show q ≠ w.heap.size; omega)]
  have HAx := hidOfT gA0
  have HBx : Hid (Below w.heap.size w (w1.setCell ⟨w.heap.size, 0, none⟩ (.slice tb c.ts.length td))) := (HBy.out.setCell (by show w.heap.size ≤ w.heap.size; omega) (.slice tb c.ts.length td))
  have HN1x : Hid ((w1.setCell ⟨w.heap.size, 0, none⟩ (.slice tb c.ts.length td)).heap.size = n1 ∧ n0 ≤ n1) := ⟨by have := HN1.out.1; simpa [World.setCell] using this, HN1.out.2⟩
  have PTx : Hid (TxIn n0 n1 (w1.setCell ⟨w.heap.size, 0, none⟩ (.slice tb c.ts.length td)) (.slice tb c.ts.length td) c.ts) := PTy.out.keep (fun q q1 q2 => OT q (by have := HN0.out; have := HN1.out; omega))
  clear OT gA0 HN1 HBy HAy PTy
  go_wp2_with fail
  generalize (w1.setCell ⟨w.heap.size, 0, none⟩ (.slice tb c.ts.length td)) = X1 at *
  clear cA1 cA0 fA0
  have HA := hidOfT HAx.out
  have HB := hidOfT HBx.out
  have HN1 := hidOfT HN1x.out
  have PT := hidOfT PTx.out
  clear HAx HBx HN1x PTx
  refine (C2.out _ HB.out).mono ?_
  rintro e w2 ⟨lb, ld, rfl, hb, hr⟩
  have HAy := hidOfT ((hb.block _ (blk_lt HA.out)).trans HA.out)
  have HBy := hidOfT (HB.out.trans (hb.mono HB.out.size))
  obtain ⟨n2, hn2⟩ : ∃ n, n = w2.heap.size := ⟨_, rfl⟩
  have HN2 : Hid (w2.heap.size = n2 ∧ n1 ≤ n2) := ⟨hn2.symm, by have := hb.size; have := HN1.out; omega⟩
  have PTy : Hid (TxIn n0 n1 w2 (.slice tb c.ts.length td) c.ts) := PT.out.keep (fun q q1 q2 => hb.block q (by have := HN0.out; have := HN1.out; omega))
  have PIy : Hid (InIn n1 n2 w2 (.slice lb c.xs.length ld) c.xs) := by rw [HN1.out.1, ← hn2] at hr; exact hr
  clear hn2 hb HB HA PT hr C2
  have cA5 := (blk_cell HAy.out 5).trans rfl
  have cA1 := (blk_cell HAy.out 1).trans rfl
  have fA1 := blk_free HAy.out 1
  have gA0 : ((w2).setCell ⟨w.heap.size, 1, none⟩ (.slice lb c.xs.length ld)).heap[w.heap.size]? = some (.cells #[(.slice tb c.ts.length td), (.slice lb c.xs.length ld), .int .i64 c.bg, .int .i64 c.li, .int .i64 c.en, .slice na c.ns.length nc, .slice ua c.bv.length uc, .slice xa c.bc.length xc, .string c.bo, .int .i64 c.cnt, .slice ka N kc, .int .i64 c.now, .int .i64 c.tries, .bool c.over, .slice ga c.fv.length gc, .slice ha c.fc.length hc, .string c.fo] 43 (0, 0)) := blk_set HAy.out 1 _
  have OT : ∀ q, n0 ≤ q → (w2.setCell ⟨w.heap.size, 1, none⟩ (.slice lb c.xs.length ld)).heap[q]? = w2.heap[q]? := by
    intro q hq
    have := HN0.out.2
    rw [Below.heap_setCell _ _ _ _ (by show q ≠ w.heap.size; omega)]
  have HAx := hidOfT gA0
  have HBx : Hid (Below w.heap.size w (w2.setCell ⟨w.heap.size, 1, none⟩ (.slice lb c.xs.length ld))) := (HBy.out.setCell (by show w.heap.size ≤ w.heap.size; omega) (.slice lb c.xs.length ld))
  have HN2x : Hid ((w2.setCell ⟨w.heap.size, 1, none⟩ (.slice lb c.xs.length ld)).heap.size = n2 ∧ n1 ≤ n2) := ⟨by have := HN2.out.1; simpa [World.setCell] using this, HN2.out.2⟩
  have PTx : Hid (TxIn n0 n1 (w2.setCell ⟨w.heap.size, 1, none⟩ (.slice lb c.xs.length ld)) (.slice tb c.ts.length td) c.ts) := PTy.out.keep (fun q q1 q2 => OT q (by have := HN0.out; have := HN1.out; have := HN2.out; omega))
  have PIx : Hid (InIn n1 n2 (w2.setCell ⟨w.heap.size, 1, none⟩ (.slice lb c.xs.length ld)) (.slice lb c.xs.length ld) c.xs) := PIy.out.keep (fun q q1 q2 => OT q (by have := HN0.out; have := HN1.out; have := HN2.out; omega))
  clear OT gA0 HN2 HBy HAy PTy PIy
  go_wp2_with fail
  generalize (w2.setCell ⟨w.heap.size, 1, none⟩ (.slice lb c.xs.length ld)) = X2 at *
  clear cA5 cA1 fA1
  have HA := hidOfT HAx.out
  have HB := hidOfT HBx.out
  have HN2 := hidOfT HN2x.out
  have PT := hidOfT PTx.out
  have PI := hidOfT PIx.out
  clear HAx HBx HN2x PTx PIx
  refine (C3.out _ HB.out).mono ?_
  rintro e w3 ⟨nb, nd, rfl, hb, hr⟩
  have HAy := hidOfT ((hb.block _ (blk_lt HA.out)).trans HA.out)
  have HBy := hidOfT (HB.out.trans (hb.mono HB.out.size))
  obtain ⟨n3, hn3⟩ : ∃ n, n = w3.heap.size := ⟨_, rfl⟩
  have HN3 : Hid (w3.heap.size = n3 ∧ n2 ≤ n3) := ⟨hn3.symm, by have := hb.size; have := HN2.out; omega⟩
  have PTy : Hid (TxIn n0 n1 w3 (.slice tb c.ts.length td) c.ts) := PT.out.keep (fun q q1 q2 => hb.block q (by have := HN0.out; have := HN1.out; have := HN2.out; omega))
  have PIy : Hid (InIn n1 n2 w3 (.slice lb c.xs.length ld) c.xs) := PI.out.keep (fun q q1 q2 => hb.block q (by have := HN0.out; have := HN1.out; have := HN2.out; omega))
  have PNy : Hid (TxIn n2 n3 w3 (.slice nb c.ns.length nd) c.ns) := by rw [HN2.out.1, ← hn3] at hr; exact hr
  clear hn3 hb HB HA PT PI hr C3
  have cA6 := (blk_cell HAy.out 6).trans rfl
  have cA7 := (blk_cell HAy.out 7).trans rfl
  have cA8 := (blk_cell HAy.out 8).trans rfl
  have cA5 := (blk_cell HAy.out 5).trans rfl
  have fA5 := blk_free HAy.out 5
  have gA0 : ((w3).setCell ⟨w.heap.size, 5, none⟩ (.slice nb c.ns.length nd)).heap[w.heap.size]? = some (.cells #[(.slice tb c.ts.length td), (.slice lb c.xs.length ld), .int .i64 c.bg, .int .i64 c.li, .int .i64 c.en, (.slice nb c.ns.length nd), .slice ua c.bv.length uc, .slice xa c.bc.length xc, .string c.bo, .int .i64 c.cnt, .slice ka N kc, .int .i64 c.now, .int .i64 c.tries, .bool c.over, .slice ga c.fv.length gc, .slice ha c.fc.length hc, .string c.fo] 43 (0, 0)) := blk_set HAy.out 5 _
  have OT : ∀ q, n0 ≤ q → (w3.setCell ⟨w.heap.size, 5, none⟩ (.slice nb c.ns.length nd)).heap[q]? = w3.heap[q]? := by
    intro q hq
    have := HN0.out.2
    rw [Below.heap_setCell _ _ _ _ (by show q ≠ w.heap.size; omega)]
  have HAx := hidOfT gA0
  have HBx : Hid (Below w.heap.size w (w3.setCell ⟨w.heap.size, 5, none⟩ (.slice nb c.ns.length nd))) := (HBy.out.setCell (by show w.heap.size ≤ w.heap.size; omega) (.slice nb c.ns.length nd))
  have HN3x : Hid ((w3.setCell ⟨w.heap.size, 5, none⟩ (.slice nb c.ns.length nd)).heap.size = n3 ∧ n2 ≤ n3) := ⟨by have := HN3.out.1; simpa [World.setCell] using this, HN3.out.2⟩
  have PTx : Hid (TxIn n0 n1 (w3.setCell ⟨w.heap.size, 5, none⟩ (.slice nb c.ns.length nd)) (.slice tb c.ts.length td) c.ts) := PTy.out.keep (fun q q1 q2 => OT q (by have := HN0.out; have := HN1.out; have := HN2.out; have := HN3.out; omega))
  have PIx : Hid (InIn n1 n2 (w3.setCell ⟨w.heap.size, 5, none⟩ (.slice nb c.ns.length nd)) (.slice lb c.xs.length ld) c.xs) := PIy.out.keep (fun q q1 q2 => OT q (by have := HN0.out; have := HN1.out; have := HN2.out; have := HN3.out; omega))
  have PNx : Hid (TxIn n2 n3 (w3.setCell ⟨w.heap.size, 5, none⟩ (.slice nb c.ns.length nd)) (.slice nb c.ns.length nd) c.ns) := PNy.out.keep (fun q q1 q2 => OT q (by have := HN0.out; have := HN1.out; have := HN2.out; have := HN3.out; omega))
  clear OT gA0 HN3 HBy HAy PTy PIy PNy
  go_wp2_with fail
  generalize (w3.setCell ⟨w.heap.size, 5, none⟩ (.slice nb c.ns.length nd)) = X3 at *
  clear cA6 cA7 cA8 cA5 fA5
  have HA := hidOfT HAx.out
  have HB := hidOfT HBx.out
  have HN3 := hidOfT HN3x.out
  have PT := hidOfT PTx.out
  have PI := hidOfT PIx.out
  have PN := hidOfT PNx.out
  clear HAx HBx HN3x PTx PIx PNx
  refine (C4.out _ HB.out).mono ?_
  rintro e w4 ⟨ub, ud, xb, xd, rfl, hb, hr⟩
  have HAy := hidOfT ((hb.block _ (blk_lt HA.out)).trans HA.out)
  have HBy := hidOfT (HB.out.trans (hb.mono HB.out.size))
  obtain ⟨n4, hn4⟩ : ∃ n, n = w4.heap.size := ⟨_, rfl⟩
  have HN4 : Hid (w4.heap.size = n4 ∧ n3 ≤ n4) := ⟨hn4.symm, by have := hb.size; have := HN3.out; omega⟩
  have PTy : Hid (TxIn n0 n1 w4 (.slice tb c.ts.length td) c.ts) := PT.out.keep (fun q q1 q2 => hb.block q (by have := HN0.out; have := HN1.out; have := HN2.out; have := HN3.out; omega))
  have PIy : Hid (InIn n1 n2 w4 (.slice lb c.xs.length ld) c.xs) := PI.out.keep (fun q q1 q2 => hb.block q (by have := HN0.out; have := HN1.out; have := HN2.out; have := HN3.out; omega))
  have PNy : Hid (TxIn n2 n3 w4 (.slice nb c.ns.length nd) c.ns) := PN.out.keep (fun q q1 q2 => hb.block q (by have := HN0.out; have := HN1.out; have := HN2.out; have := HN3.out; omega))
  have PBy : Hid (StIn n3 n4 w4 (.slice ub c.bv.length ud) (.slice xb c.bc.length xd) c.bv c.bc) := by rw [HN3.out.1, ← hn4] at hr; exact hr
  clear hn4 hb HB HA PT PI PN hr C4
  have cA10 := (blk_cell HAy.out 10).trans rfl
  have cA6 := (blk_cell HAy.out 6).trans rfl
  have cA7 := (blk_cell HAy.out 7).trans rfl
  have cA8 := (blk_cell HAy.out 8).trans rfl
  have fA6 := blk_free HAy.out 6
  have fA7 := blk_free HAy.out 7
  have fA8 := blk_free HAy.out 8
  have gA0 : ((w4).setCell ⟨w.heap.size, 6, none⟩ (.slice ub c.bv.length ud)).heap[w.heap.size]? = some (.cells #[(.slice tb c.ts.length td), (.slice lb c.xs.length ld), .int .i64 c.bg, .int .i64 c.li, .int .i64 c.en, (.slice nb c.ns.length nd), (.slice ub c.bv.length ud), .slice xa c.bc.length xc, .string c.bo, .int .i64 c.cnt, .slice ka N kc, .int .i64 c.now, .int .i64 c.tries, .bool c.over, .slice ga c.fv.length gc, .slice ha c.fc.length hc, .string c.fo] 43 (0, 0)) := blk_set HAy.out 6 _
  have gA1 : (((w4.setCell ⟨w.heap.size, 6, none⟩ (.slice ub c.bv.length ud))).setCell ⟨w.heap.size, 7, none⟩ (.slice xb c.bc.length xd)).heap[w.heap.size]? = some (.cells #[(.slice tb c.ts.length td), (.slice lb c.xs.length ld), .int .i64 c.bg, .int .i64 c.li, .int .i64 c.en, (.slice nb c.ns.length nd), (.slice ub c.bv.length ud), (.slice xb c.bc.length xd), .string c.bo, .int .i64 c.cnt, .slice ka N kc, .int .i64 c.now, .int .i64 c.tries, .bool c.over, .slice ga c.fv.length gc, .slice ha c.fc.length hc, .string c.fo] 43 (0, 0)) := blk_set gA0 7 _
  have gA2 : ((((w4.setCell ⟨w.heap.size, 6, none⟩ (.slice ub c.bv.length ud)).setCell ⟨w.heap.size, 7, none⟩ (.slice xb c.bc.length xd))).setCell ⟨w.heap.size, 8, none⟩ (.string c.bo)).heap[w.heap.size]? = some (.cells #[(.slice tb c.ts.length td), (.slice lb c.xs.length ld), .int .i64 c.bg, .int .i64 c.li, .int .i64 c.en, (.slice nb c.ns.length nd), (.slice ub c.bv.length ud), (.slice xb c.bc.length xd), (.string c.bo), .int .i64 c.cnt, .slice ka N kc, .int .i64 c.now, .int .i64 c.tries, .bool c.over, .slice ga c.fv.length gc, .slice ha c.fc.length hc, .string c.fo] 43 (0, 0)) := blk_set gA1 8 _
  have OT : ∀ q, n0 ≤ q → (((w4.setCell ⟨w.heap.size, 6, none⟩ (.slice ub c.bv.length ud)).setCell ⟨w.heap.size, 7, none⟩ (.slice xb c.bc.length xd)).setCell ⟨w.heap.size, 8, none⟩ (.string c.bo)).heap[q]? = w4.heap[q]? := by
    intro q hq
    have := HN0.out.2
    rw [Below.heap_setCell _ _ _ _ (by show q ≠ w.heap.size; omega), Below.heap_setCell _ _ _ _ (by show q ≠ w.heap.size; omega), Below.heap_setCell _ _ _ _ (by show q ≠ w.heap.size; omega)]
  have HAx := hidOfT gA2
  have HBx : Hid (Below w.heap.size w (((w4.setCell ⟨w.heap.size, 6, none⟩ (.slice ub c.bv.length ud)).setCell ⟨w.heap.size, 7, none⟩ (.slice xb c.bc.length xd)).setCell ⟨w.heap.size, 8, none⟩ (.string c.bo))) := (((HBy.out.setCell (by show w.heap.size ≤ w.heap.size; omega) (.slice ub c.bv.length ud)).setCell (by show w.heap.size ≤ w.heap.size; omega) (.slice xb c.bc.length xd)).setCell (by show w.heap.size ≤ w.heap.size; omega) (.string c.bo))
  have HN4x : Hid ((((w4.setCell ⟨w.heap.size, 6, none⟩ (.slice ub c.bv.length ud)).setCell ⟨w.heap.size, 7, none⟩ (.slice xb c.bc.length xd)).setCell ⟨w.heap.size, 8, none⟩ (.string c.bo)).heap.size = n4 ∧ n3 ≤ n4) := ⟨by have := HN4.out.1; simpa [World.setCell] using this, HN4.out.2⟩
  have PTx : Hid (TxIn n0 n1 (((w4.setCell ⟨w.heap.size, 6, none⟩ (.slice ub c.bv.length ud)).setCell ⟨w.heap.size, 7, none⟩ (.slice xb c.bc.length xd)).setCell ⟨w.heap.size, 8, none⟩ (.string c.bo)) (.slice tb c.ts.length td) c.ts) := PTy.out.keep (fun q q1 q2 => OT q (by have := HN0.out; have := HN1.out; have := HN2.out; have := HN3.out; have := HN4.out; omega))
  have PIx : Hid (InIn n1 n2 (((w4.setCell ⟨w.heap.size, 6, none⟩ (.slice ub c.bv.length ud)).setCell ⟨w.heap.size, 7, none⟩ (.slice xb c.bc.length xd)).setCell ⟨w.heap.size, 8, none⟩ (.string c.bo)) (.slice lb c.xs.length ld) c.xs) := PIy.out.keep (fun q q1 q2 => OT q (by have := HN0.out; have := HN1.out; have := HN2.out; have := HN3.out; have := HN4.out; omega))
  have PNx : Hid (TxIn n2 n3 (((w4.setCell ⟨w.heap.size, 6, none⟩ (.slice ub c.bv.length ud)).setCell ⟨w.heap.size, 7, none⟩ (.slice xb c.bc.length xd)).setCell ⟨w.heap.size, 8, none⟩ (.string c.bo)) (.slice nb c.ns.length nd) c.ns) := PNy.out.keep (fun q q1 q2 => OT q (by have := HN0.out; have := HN1.out; have := HN2.out; have := HN3.out; have := HN4.out; omega))
  have PBx : Hid (StIn n3 n4 (((w4.setCell ⟨w.heap.size, 6, none⟩ (.slice ub c.bv.length ud)).setCell ⟨w.heap.size, 7, none⟩ (.slice xb c.bc.length xd)).setCell ⟨w.heap.size, 8, none⟩ (.string c.bo)) (.slice ub c.bv.length ud) (.slice xb c.bc.length xd) c.bv c.bc) := PBy.out.keep (fun q q1 q2 => OT q (by have := HN0.out; have := HN1.out; have := HN2.out; have := HN3.out; have := HN4.out; omega))
  have HW4 := hidOfT HN4.out.1
  have hlt0 : w.heap.size < w4.heap.size := by have := HN0.out; have := HN1.out; have := HN2.out; have := HN3.out; have := HN4.out; omega
  clear OT gA0 gA1 gA2 HN4 HBy HAy PTy PIy PNy PBy
  have hmk := HMK.out
  go_wp2
  generalize (((w4.setCell ⟨w.heap.size, 6, none⟩ (.slice ub c.bv.length ud)).setCell ⟨w.heap.size, 7, none⟩ (.slice xb c.bc.length xd)).setCell ⟨w.heap.size, 8, none⟩ (.string c.bo)) = X4 at *
  have HA := hidOfT HAx.out
  have HB := hidOfT HBx.out
  have HN4 := hidOfT HN4x.out
  have PT := hidOfT PTx.out
  have PI := hidOfT PIx.out
  have PN := hidOfT PNx.out
  have PB := hidOfT PBx.out
  clear HAx HBx HN4x PTx PIx PNx PBx cA6 cA7 cA8 cA10 fA6 fA7 fA8 HMK hlt0
  have HM0 : Hid ((X4.alloc (.cells M 76)).ownsRow n4 76 7 (.slice (some ⟨X4.heap.size, 0, none⟩) 0 N) 0 []) := World.ownsRow_made X4 M N (Nat.le_of_eq HN4.out.1.symm) (by unfold maxLen; omega) (by have := HM.out; omega)
  have HV0 : Hid ((X4.alloc (.cells M 76)).ownsRow n4 76 7 (.slice (some ⟨w4.heap.size, 0, none⟩) 0 N) 0 []) := by
    have := HM0.out
    rw [HN4.out.1, ← HW4.out] at this
    rw [← HW4.out]
    exact this
  have HX0 : Hid (Below n4 X4 (X4.alloc (.cells M 76))) := (Below.refl _ _).alloc (Nat.le_of_eq HN4.out.1.symm) _
  clear hmk HM
  go_loopw [3, 36] (fun v i wr => ∃ (j : Nat) (es : List Te), i = .int .i64 (j : Int) ∧ j ≤ N ∧ Hid (Below n4 X4 wr) ∧ Hid (KRow (fun w e => e.Ok w) n4 wr v es) ∧ Hid (es.length = j ∧ ∀ i, i < j → (es.getD i Te.no).t = c.ks.getD i Tk.no)) (fun _ i _ => N - (intOf i).toNat)
  case atStart => exact ⟨0, [], rfl, by omega, HX0.out, KRow.new HV0.out, rfl, fun i hi => by omega⟩
  case round =>
    clear HX0 HM0 HV0
    obtain ⟨j, es, rfl, hj, HX, HR, HE⟩ := hrel
    have HBW : Hid (Below w.heap.size w wr) := HB.out.trans (HX.out.mono (by have := HN0.out; have := HN1.out; have := HN2.out; have := HN3.out; have := HN4.out; omega))
    by_cases hlt : j < N
    · obtain ⟨ka', kc', e', fk⟩ := HH.out _ HBW.out
      obtain ⟨rfl, -, rfl⟩ : ka = ka' ∧ N = c.ks.length ∧ kc = kc' := by simpa using e'
      obtain ⟨bb, oo, rfl, hbl, hcc⟩ := fk (by have := HNK.out; omega)
      obtain ⟨lv0, u0, x0, ⟨d0, d1, d2, d3, d4, d5, d6⟩, hrow⟩ := hcc j (by have := HNK.out; omega)
      have hsm := HSM.out j (by have := HNK.out; omega)
      obtain ⟨p, hp⟩ : ∃ p, p = c.ks.getD j Tk.no := ⟨_, rfl⟩
      rw [← hp] at d1 d2 d3 d6 hrow hsm
      have HP : Hid (p = c.ks.getD j Tk.no) := hp
      have HROW := hidOfT hrow
      obtain ⟨la0, lc0, rfl, -⟩ := id hrow.ls
      obtain ⟨ua0, uc0, rfl, -⟩ := id hrow.vr
      obtain ⟨xa0, xc0, rfl, -⟩ := id hrow.cl
      have HOT := hidOfT (fun (W : World) (hb : Below wr.heap.size wr W) => ownTask_any _ _ _ p W (hrow.keep hb) hsm)
      unfold Tk.val at HOT
      clear hp hcc fk e' hrow hsm
      obtain ⟨va, vc, rfl⟩ := HR.out.form
      have HT1 : (wr.alloc (.cells #[.slice la0 p.ls.length lc0, .int .i64 p.try_, .int .i64 p.till, .bool p.done, .slice ua0 p.vs.length uc0, .slice xa0 p.cs.length xc0, .string p.o] 76)).heap[wr.heap.size]? = some (.cells #[.slice la0 p.ls.length lc0, .int .i64 p.try_, .int .i64 p.till, .bool p.done, .slice ua0 p.vs.length uc0, .slice xa0 p.cs.length xc0, .string p.o] 76 (0, 0)) := heap_alloc_new _ _
      have HBT : Hid (Below wr.heap.size wr (wr.alloc (.cells #[.slice la0 p.ls.length lc0, .int .i64 p.try_, .int .i64 p.till, .bool p.done, .slice ua0 p.vs.length uc0, .slice xa0 p.cs.length xc0, .string p.o] 76))) := (Below.refl _ _).alloc (Nat.le_refl _) _
      have HST : Hid ((wr.alloc (.cells #[.slice la0 p.ls.length lc0, .int .i64 p.try_, .int .i64 p.till, .bool p.done, .slice ua0 p.vs.length uc0, .slice xa0 p.cs.length xc0, .string p.o] 76)).heap.size = wr.heap.size + 1) := by show _ = _; simp
      have t0 := (blk_cell HT1 0).trans rfl
      have t1 := (blk_cell HT1 1).trans rfl
      have t2 := (blk_cell HT1 2).trans rfl
      have t3 := (blk_cell HT1 3).trans rfl
      have t4 := (blk_cell HT1 4).trans rfl
      have t5 := (blk_cell HT1 5).trans rfl
      have t6 := (blk_cell HT1 6).trans rfl
      clear HT1
      have i1 : (j : Int) < (N : Int) := by omega
      have i0 : (0 : Int) ≤ (j : Int) := by omega
      go_wp2_with fail
      generalize (wr.alloc (.cells #[.slice la0 p.ls.length lc0, .int .i64 p.try_, .int .i64 p.till, .bool p.done, .slice ua0 p.vs.length uc0, .slice xa0 p.cs.length xc0, .string p.o] 76)) = WT at *
      refine (HOT.out WT HBT.out).mono ?_
      rintro r w1 ⟨lb1, ld1, ub1, ud1, xb1, xd1, aa, dd, rfl, hb1, hok, haa, hdd⟩
      have hnw := HX.out.size
      have HX1 : Hid (Below n4 X4 w1) := HX.out.trans ((HBT.out.trans (hb1.mono HBT.out.size)).mono (Nat.le_trans (Nat.le_of_eq HN4.out.1.symm) hnw))
      have HR1 : Hid (KRow (fun w e => e.Ok w) n4 w1 (.slice va es.length vc) es) := HR.out.keep stays_ok (Nat.le_trans HBT.out.size hb1.size) (fun q q1 q2 => (hb1.block q (by have := HST.out; omega)).trans (HBT.out.block q q2))
      have HOK := hidOfT (And.intro hok (And.intro haa hdd))
      have HSZ : Hid (wr.heap.size + 1 ≤ w1.heap.size ∧ n4 ≤ wr.heap.size) := ⟨by have := HST.out; have := hb1.size; omega, Nat.le_trans (Nat.le_of_eq HN4.out.1.symm) hnw⟩
      have HL2 : Hid (es.length < 2000000 ∧ n4 ≤ w1.heap.size) := ⟨by have := HE.out.1; omega, by have := HSZ.out; omega⟩
      have HORD : Hid ((∀ i, i < es.length → (es.getD i Te.no).d ≤ aa) ∧ ∀ q, (Value.slice va es.length vc).ownBlock = some q → q < aa ∨ dd ≤ q) := ⟨fun i hi => by have := (HR.out.inn i hi).2; have := HST.out; omega, fun q hq => .inl (by have := (World.ownsRow.lt HR.out.row q hq).2; have := HST.out; omega)⟩
      have HAB : Hid (n4 ≤ aa) := by show _ ≤ _; have := HSZ.out; have := HST.out; omega
      clear hok haa hdd hb1 HOT hnw t0 t1 t2 t3 t4 t5 t6 d0 d1 d2 d3 d4 d5 d6
      go_wp2_with (at_builtin; go_must (refine KRow.push stays_ok HR1.out rfl (.tmp 40) (.tmp 43) rfl rfl ⟨p, .slice lb1 p.ls.length ld1, .slice ub1 p.vs.length ud1, .slice xb1 p.cs.length xd1, aa, dd⟩ HOK.out.1 HAB.out HOK.out.2.2 HORD.out.1 HORD.out.2 ⟨rfl, rfl, rfl⟩ _ rfl rfl HL2.out.1 HL2.out.2 ?_))
      intro q cap w2 hr2 hs2 hb2
      have HR2 := hidOfT hr2
      have HX2 : Hid (Below n4 X4 w2) := HX1.out.trans hb2
      have HE2 : Hid ((es ++ [(⟨p, .slice lb1 p.ls.length ld1, .slice ub1 p.vs.length ud1, .slice xb1 p.cs.length xd1, aa, dd⟩ : Te)]).length = j + 1 ∧ ∀ i, i < j + 1 → ((es ++ [(⟨p, .slice lb1 p.ls.length ld1, .slice ub1 p.vs.length ud1, .slice xb1 p.cs.length xd1, aa, dd⟩ : Te)]).getD i Te.no).t = c.ks.getD i Tk.no) := by
        refine ⟨by simp [HE.out.1], fun i hi => ?_⟩
        by_cases e : i < j
        · rw [getD_app_lt _ _ _ _ (by rw [HE.out.1]; exact e)]
          exact HE.out.2 i e
        · rw [getD_app_eq _ _ _ _ (by rw [HE.out.1]; omega)]
          show p = _
          rw [show i = j by omega]
          exact HP.out
      clear hr2 hs2 hb2 HR1 HX1 HR HX HE
      go_wp2
      go_roundw
      case rel => exact ⟨j + 1, _, by go_num, by omega, HX2, HR2, HE2⟩
      case measure => simp [intOf]; omega
    · obtain rfl : j = N := by omega
      obtain ⟨va, vc, rfl⟩ := HR.out.form
      have hel := HE.out.1
      obtain ⟨n5, hn5⟩ : ∃ n, n = wr.heap.size := ⟨_, rfl⟩
      have HN5 : Hid (wr.heap.size = n5 ∧ n4 ≤ n5) := ⟨hn5.symm, by have := HX.out.size; have := HN4.out; omega⟩
      have HAy := hidOfT ((HX.out.block w.heap.size (by have := HN0.out; have := HN1.out; have := HN2.out; have := HN3.out; have := HN4.out; omega)).trans HA.out)
      have HBy := hidOfT HBW.out
      have HKS : Hid (KsO n4 n5 wr (.slice va j vc) j (fun i => es.getD i Te.no)) := by
        have := HR.out.kso
        rw [hel, ← hn5] at this
        exact this
      have HSAME : Hid (∀ i, i < j → (es.getD i Te.no).t = c.ks.getD i Tk.no) := HE.out.2
      have PTy : Hid (TxIn n0 n1 wr (.slice tb c.ts.length td) c.ts) := PT.out.keep (fun q q1 q2 => HX.out.block q (by have := HN0.out; have := HN1.out; have := HN2.out; have := HN3.out; have := HN4.out; omega))
      have PIy : Hid (InIn n1 n2 wr (.slice lb c.xs.length ld) c.xs) := PI.out.keep (fun q q1 q2 => HX.out.block q (by have := HN0.out; have := HN1.out; have := HN2.out; have := HN3.out; have := HN4.out; omega))
      have PNy : Hid (TxIn n2 n3 wr (.slice nb c.ns.length nd) c.ns) := PN.out.keep (fun q q1 q2 => HX.out.block q (by have := HN0.out; have := HN1.out; have := HN2.out; have := HN3.out; have := HN4.out; omega))
      have PBy : Hid (StIn n3 n4 wr (.slice ub c.bv.length ud) (.slice xb c.bc.length xd) c.bv c.bc) := PB.out.keep (fun q q1 q2 => HX.out.block q (by have := HN0.out; have := HN1.out; have := HN2.out; have := HN3.out; have := HN4.out; omega))
      have PKy := hidOfT HKS.out
      rw [hel]
      clear hn5 HKS HX HR HBW HA HB PT PI PN PB HE hel
      have cA14 := (blk_cell HAy.out 14).trans rfl
      have cA15 := (blk_cell HAy.out 15).trans rfl
      have cA16 := (blk_cell HAy.out 16).trans rfl
      have cA10 := (blk_cell HAy.out 10).trans rfl
      have fA10 := blk_free HAy.out 10
      have gA0 : ((wr).setCell ⟨w.heap.size, 10, none⟩ (.slice va j vc)).heap[w.heap.size]? = some (.cells #[(.slice tb c.ts.length td), (.slice lb c.xs.length ld), .int .i64 c.bg, .int .i64 c.li, .int .i64 c.en, (.slice nb c.ns.length nd), (.slice ub c.bv.length ud), (.slice xb c.bc.length xd), (.string c.bo), .int .i64 c.cnt, (.slice va j vc), .int .i64 c.now, .int .i64 c.tries, .bool c.over, .slice ga c.fv.length gc, .slice ha c.fc.length hc, .string c.fo] 43 (0, 0)) := blk_set HAy.out 10 _
      have OT : ∀ q, n0 ≤ q → (wr.setCell ⟨w.heap.size, 10, none⟩ (.slice va j vc)).heap[q]? = wr.heap[q]? := by
        intro q hq
        have := HN0.out.2
        rw [Below.heap_setCell _ _ _ _ (by show q ≠ w.heap.size; omega)]
      have HAx := hidOfT gA0
      have HBx : Hid (Below w.heap.size w (wr.setCell ⟨w.heap.size, 10, none⟩ (.slice va j vc))) := (HBy.out.setCell (by show w.heap.size ≤ w.heap.size; omega) (.slice va j vc))
      have HN5x : Hid ((wr.setCell ⟨w.heap.size, 10, none⟩ (.slice va j vc)).heap.size = n5 ∧ n4 ≤ n5) := ⟨by have := HN5.out.1; simpa [World.setCell] using this, HN5.out.2⟩
      have PTx : Hid (TxIn n0 n1 (wr.setCell ⟨w.heap.size, 10, none⟩ (.slice va j vc)) (.slice tb c.ts.length td) c.ts) := PTy.out.keep (fun q q1 q2 => OT q (by have := HN0.out; have := HN1.out; have := HN2.out; have := HN3.out; have := HN4.out; have := HN5.out; omega))
      have PIx : Hid (InIn n1 n2 (wr.setCell ⟨w.heap.size, 10, none⟩ (.slice va j vc)) (.slice lb c.xs.length ld) c.xs) := PIy.out.keep (fun q q1 q2 => OT q (by have := HN0.out; have := HN1.out; have := HN2.out; have := HN3.out; have := HN4.out; have := HN5.out; omega))
      have PNx : Hid (TxIn n2 n3 (wr.setCell ⟨w.heap.size, 10, none⟩ (.slice va j vc)) (.slice nb c.ns.length nd) c.ns) := PNy.out.keep (fun q q1 q2 => OT q (by have := HN0.out; have := HN1.out; have := HN2.out; have := HN3.out; have := HN4.out; have := HN5.out; omega))
      have PBx : Hid (StIn n3 n4 (wr.setCell ⟨w.heap.size, 10, none⟩ (.slice va j vc)) (.slice ub c.bv.length ud) (.slice xb c.bc.length xd) c.bv c.bc) := PBy.out.keep (fun q q1 q2 => OT q (by have := HN0.out; have := HN1.out; have := HN2.out; have := HN3.out; have := HN4.out; have := HN5.out; omega))
      have PKx : Hid (KsO n4 n5 (wr.setCell ⟨w.heap.size, 10, none⟩ (.slice va j vc)) (.slice va j vc) j (fun i => es.getD i Te.no)) := PKy.out.keep (fun q q1 q2 => OT q (by have := HN0.out; have := HN1.out; have := HN2.out; have := HN3.out; have := HN4.out; have := HN5.out; omega))
      clear OT gA0 HN5 HBy HAy PTy PIy PNy PBy PKy
      go_wp2_with fail
      generalize (wr.setCell ⟨w.heap.size, 10, none⟩ (.slice va j vc)) = X5 at *
      clear cA14 cA15 cA16 cA10 fA10
      have HA := hidOfT HAx.out
      have HB := hidOfT HBx.out
      have HN5 := hidOfT HN5x.out
      have PT := hidOfT PTx.out
      have PI := hidOfT PIx.out
      have PN := hidOfT PNx.out
      have PB := hidOfT PBx.out
      have PK := hidOfT PKx.out
      clear HAx HBx HN5x PTx PIx PNx PBx PKx
      refine (C5.out _ HB.out).mono ?_
      rintro e w6 ⟨gb, gd, hb1, hd, rfl, hb, hr⟩
      have HAy := hidOfT ((hb.block _ (blk_lt HA.out)).trans HA.out)
      have HBy := hidOfT (HB.out.trans (hb.mono HB.out.size))
      obtain ⟨n6, hn6⟩ : ∃ n, n = w6.heap.size := ⟨_, rfl⟩
      have HN6 : Hid (w6.heap.size = n6 ∧ n5 ≤ n6) := ⟨hn6.symm, by have := hb.size; have := HN5.out; omega⟩
      have PTy : Hid (TxIn n0 n1 w6 (.slice tb c.ts.length td) c.ts) := PT.out.keep (fun q q1 q2 => hb.block q (by have := HN0.out; have := HN1.out; have := HN2.out; have := HN3.out; have := HN4.out; have := HN5.out; omega))
      have PIy : Hid (InIn n1 n2 w6 (.slice lb c.xs.length ld) c.xs) := PI.out.keep (fun q q1 q2 => hb.block q (by have := HN0.out; have := HN1.out; have := HN2.out; have := HN3.out; have := HN4.out; have := HN5.out; omega))
      have PNy : Hid (TxIn n2 n3 w6 (.slice nb c.ns.length nd) c.ns) := PN.out.keep (fun q q1 q2 => hb.block q (by have := HN0.out; have := HN1.out; have := HN2.out; have := HN3.out; have := HN4.out; have := HN5.out; omega))
      have PBy : Hid (StIn n3 n4 w6 (.slice ub c.bv.length ud) (.slice xb c.bc.length xd) c.bv c.bc) := PB.out.keep (fun q q1 q2 => hb.block q (by have := HN0.out; have := HN1.out; have := HN2.out; have := HN3.out; have := HN4.out; have := HN5.out; omega))
      have PKy : Hid (KsO n4 n5 w6 (.slice va j vc) j (fun i => es.getD i Te.no)) := PK.out.keep (fun q q1 q2 => hb.block q (by have := HN0.out; have := HN1.out; have := HN2.out; have := HN3.out; have := HN4.out; have := HN5.out; omega))
      have PFy : Hid (StIn n5 n6 w6 (.slice gb c.fv.length gd) (.slice hb1 c.fc.length hd) c.fv c.fc) := by rw [HN5.out.1, ← hn6] at hr; exact hr
      clear hn6 hb HB HA PT PI PN PB PK hr C5
      have cA14 := (blk_cell HAy.out 14).trans rfl
      have cA15 := (blk_cell HAy.out 15).trans rfl
      have cA16 := (blk_cell HAy.out 16).trans rfl
      have fA14 := blk_free HAy.out 14
      have fA15 := blk_free HAy.out 15
      have fA16 := blk_free HAy.out 16
      have gA0 : ((w6).setCell ⟨w.heap.size, 14, none⟩ (.slice gb c.fv.length gd)).heap[w.heap.size]? = some (.cells #[(.slice tb c.ts.length td), (.slice lb c.xs.length ld), .int .i64 c.bg, .int .i64 c.li, .int .i64 c.en, (.slice nb c.ns.length nd), (.slice ub c.bv.length ud), (.slice xb c.bc.length xd), (.string c.bo), .int .i64 c.cnt, (.slice va j vc), .int .i64 c.now, .int .i64 c.tries, .bool c.over, (.slice gb c.fv.length gd), .slice ha c.fc.length hc, .string c.fo] 43 (0, 0)) := blk_set HAy.out 14 _
      have gA1 : (((w6.setCell ⟨w.heap.size, 14, none⟩ (.slice gb c.fv.length gd))).setCell ⟨w.heap.size, 15, none⟩ (.slice hb1 c.fc.length hd)).heap[w.heap.size]? = some (.cells #[(.slice tb c.ts.length td), (.slice lb c.xs.length ld), .int .i64 c.bg, .int .i64 c.li, .int .i64 c.en, (.slice nb c.ns.length nd), (.slice ub c.bv.length ud), (.slice xb c.bc.length xd), (.string c.bo), .int .i64 c.cnt, (.slice va j vc), .int .i64 c.now, .int .i64 c.tries, .bool c.over, (.slice gb c.fv.length gd), (.slice hb1 c.fc.length hd), .string c.fo] 43 (0, 0)) := blk_set gA0 15 _
      have gA2 : ((((w6.setCell ⟨w.heap.size, 14, none⟩ (.slice gb c.fv.length gd)).setCell ⟨w.heap.size, 15, none⟩ (.slice hb1 c.fc.length hd))).setCell ⟨w.heap.size, 16, none⟩ (.string c.fo)).heap[w.heap.size]? = some (.cells #[(.slice tb c.ts.length td), (.slice lb c.xs.length ld), .int .i64 c.bg, .int .i64 c.li, .int .i64 c.en, (.slice nb c.ns.length nd), (.slice ub c.bv.length ud), (.slice xb c.bc.length xd), (.string c.bo), .int .i64 c.cnt, (.slice va j vc), .int .i64 c.now, .int .i64 c.tries, .bool c.over, (.slice gb c.fv.length gd), (.slice hb1 c.fc.length hd), (.string c.fo)] 43 (0, 0)) := blk_set gA1 16 _
      have OT : ∀ q, n0 ≤ q → (((w6.setCell ⟨w.heap.size, 14, none⟩ (.slice gb c.fv.length gd)).setCell ⟨w.heap.size, 15, none⟩ (.slice hb1 c.fc.length hd)).setCell ⟨w.heap.size, 16, none⟩ (.string c.fo)).heap[q]? = w6.heap[q]? := by
        intro q hq
        have := HN0.out.2
        rw [Below.heap_setCell _ _ _ _ (by show q ≠ w.heap.size; omega), Below.heap_setCell _ _ _ _ (by show q ≠ w.heap.size; omega), Below.heap_setCell _ _ _ _ (by show q ≠ w.heap.size; omega)]
      have HAx := hidOfT gA2
      have HBx : Hid (Below w.heap.size w (((w6.setCell ⟨w.heap.size, 14, none⟩ (.slice gb c.fv.length gd)).setCell ⟨w.heap.size, 15, none⟩ (.slice hb1 c.fc.length hd)).setCell ⟨w.heap.size, 16, none⟩ (.string c.fo))) := (((HBy.out.setCell (by show w.heap.size ≤ w.heap.size; omega) (.slice gb c.fv.length gd)).setCell (by show w.heap.size ≤ w.heap.size; omega) (.slice hb1 c.fc.length hd)).setCell (by show w.heap.size ≤ w.heap.size; omega) (.string c.fo))
      have HN6x : Hid ((((w6.setCell ⟨w.heap.size, 14, none⟩ (.slice gb c.fv.length gd)).setCell ⟨w.heap.size, 15, none⟩ (.slice hb1 c.fc.length hd)).setCell ⟨w.heap.size, 16, none⟩ (.string c.fo)).heap.size = n6 ∧ n5 ≤ n6) := ⟨by have := HN6.out.1; simpa [World.setCell] using this, HN6.out.2⟩
      have PTx : Hid (TxIn n0 n1 (((w6.setCell ⟨w.heap.size, 14, none⟩ (.slice gb c.fv.length gd)).setCell ⟨w.heap.size, 15, none⟩ (.slice hb1 c.fc.length hd)).setCell ⟨w.heap.size, 16, none⟩ (.string c.fo)) (.slice tb c.ts.length td) c.ts) := PTy.out.keep (fun q q1 q2 => OT q (by have := HN0.out; have := HN1.out; have := HN2.out; have := HN3.out; have := HN4.out; have := HN5.out; have := HN6.out; omega))
      have PIx : Hid (InIn n1 n2 (((w6.setCell ⟨w.heap.size, 14, none⟩ (.slice gb c.fv.length gd)).setCell ⟨w.heap.size, 15, none⟩ (.slice hb1 c.fc.length hd)).setCell ⟨w.heap.size, 16, none⟩ (.string c.fo)) (.slice lb c.xs.length ld) c.xs) := PIy.out.keep (fun q q1 q2 => OT q (by have := HN0.out; have := HN1.out; have := HN2.out; have := HN3.out; have := HN4.out; have := HN5.out; have := HN6.out; omega))
      have PNx : Hid (TxIn n2 n3 (((w6.setCell ⟨w.heap.size, 14, none⟩ (.slice gb c.fv.length gd)).setCell ⟨w.heap.size, 15, none⟩ (.slice hb1 c.fc.length hd)).setCell ⟨w.heap.size, 16, none⟩ (.string c.fo)) (.slice nb c.ns.length nd) c.ns) := PNy.out.keep (fun q q1 q2 => OT q (by have := HN0.out; have := HN1.out; have := HN2.out; have := HN3.out; have := HN4.out; have := HN5.out; have := HN6.out; omega))
      have PBx : Hid (StIn n3 n4 (((w6.setCell ⟨w.heap.size, 14, none⟩ (.slice gb c.fv.length gd)).setCell ⟨w.heap.size, 15, none⟩ (.slice hb1 c.fc.length hd)).setCell ⟨w.heap.size, 16, none⟩ (.string c.fo)) (.slice ub c.bv.length ud) (.slice xb c.bc.length xd) c.bv c.bc) := PBy.out.keep (fun q q1 q2 => OT q (by have := HN0.out; have := HN1.out; have := HN2.out; have := HN3.out; have := HN4.out; have := HN5.out; have := HN6.out; omega))
      have PKx : Hid (KsO n4 n5 (((w6.setCell ⟨w.heap.size, 14, none⟩ (.slice gb c.fv.length gd)).setCell ⟨w.heap.size, 15, none⟩ (.slice hb1 c.fc.length hd)).setCell ⟨w.heap.size, 16, none⟩ (.string c.fo)) (.slice va j vc) j (fun i => es.getD i Te.no)) := PKy.out.keep (fun q q1 q2 => OT q (by have := HN0.out; have := HN1.out; have := HN2.out; have := HN3.out; have := HN4.out; have := HN5.out; have := HN6.out; omega))
      have PFx : Hid (StIn n5 n6 (((w6.setCell ⟨w.heap.size, 14, none⟩ (.slice gb c.fv.length gd)).setCell ⟨w.heap.size, 15, none⟩ (.slice hb1 c.fc.length hd)).setCell ⟨w.heap.size, 16, none⟩ (.string c.fo)) (.slice gb c.fv.length gd) (.slice hb1 c.fc.length hd) c.fv c.fc) := PFy.out.keep (fun q q1 q2 => OT q (by have := HN0.out; have := HN1.out; have := HN2.out; have := HN3.out; have := HN4.out; have := HN5.out; have := HN6.out; omega))
      have HEf : Hid (Co.Own n0 n1 n2 n3 n4 n5 n6 (((w6.setCell ⟨w.heap.size, 14, none⟩ (.slice gb c.fv.length gd)).setCell ⟨w.heap.size, 15, none⟩ (.slice hb1 c.fc.length hd)).setCell ⟨w.heap.size, 16, none⟩ (.string c.fo)) (.slice tb c.ts.length td) (.slice lb c.xs.length ld) (.slice nb c.ns.length nd) (.slice ub c.bv.length ud) (.slice xb c.bc.length xd) (.slice va j vc) (.slice gb c.fv.length gd) (.slice hb1 c.fc.length hd) c (fun i => es.getD i Te.no)) := by
        have hj2 := HNK.out
        have pk : KsO n4 n5 (((w6.setCell ⟨w.heap.size, 14, none⟩ (.slice gb c.fv.length gd)).setCell ⟨w.heap.size, 15, none⟩ (.slice hb1 c.fc.length hd)).setCell ⟨w.heap.size, 16, none⟩ (.string c.fo)) (.slice va j vc) c.ks.length (fun i => es.getD i Te.no) := by rw [← hj2]; exact PKx.out
        have sm : Same c.ks c.ks.length (fun i => es.getD i Te.no) := by
          show c.ks.length = c.ks.length ∧ ∀ i, i < c.ks.length → _
          rw [← hj2]
          exact ⟨rfl, HSAME.out⟩
        exact ⟨PTx.out, PIx.out, PNx.out, PBx.out, pk, PFx.out, sm, by have := HN0.out; have := HN1.out; have := HN2.out; have := HN3.out; have := HN4.out; have := HN5.out; have := HN6.out; omega⟩
      clear OT gA0 gA1 gA2 HN6 HBy HAy PTy PIy PNy PBy PKy PFy
      clear PTx PIx PNx PBx PKx PFx
      go_wp2_with fail
      go_ret
      exact ⟨_, _, _, _, _, _, _, _, _, _, _, _, _, _, _, _, n0, n1, n2, n3, n4, n5, n6, _, rfl, HAx.out, HBx.out, by have := HN0.out; omega, by have := HN6x.out; omega, HEf.out⟩
end PartKdO
end Go.Proofs.Ythnmopldpgdenaa
