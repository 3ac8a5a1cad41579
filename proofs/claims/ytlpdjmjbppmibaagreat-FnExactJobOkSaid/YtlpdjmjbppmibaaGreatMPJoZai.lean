/- A job in the law: its size, its copy, two of the same, how it is opened. A job in the law: its copy. Plain facts, without the program: what is a number among texts, the number of a text, what is cut of it, and the fields of a line. -/
import Derived.Test.YtlpdjmjbppmibaaGreatMPJoZah
namespace Go.Proofs.YtlpdjmjbppmibaaGreat
section PartJbL
open Go.RowKit

/-- What can be handed in. -/
structure Jb.Fit (j : Jb) : Prop where
  t : j.ts.length ≤ maxLen ∧ ∀ i, i < j.ts.length → (j.ts.getD i ByteArray.empty).size ≤ maxLen
  x : j.xs.length ≤ maxLen
  s : StFit j.vs j.cs j.o
  n : j.ns.length ≤ maxLen ∧ ∀ i, i < j.ns.length → (j.ns.getD i ByteArray.empty).size ≤ maxLen
  m : j.ls.length ≤ maxLen ∧ ∀ i, i < j.ls.length → (j.ls.getD i ByteArray.empty).size ≤ maxLen
/-- From block lo on nothing has changed. -/
def Ge (lo : Nat) (W W' : World) : Prop := ∀ k, lo ≤ k → W'.heap[k]? = W.heap[k]?
theorem Ge.refl (lo : Nat) (W : World) : Ge lo W W := fun _ _ => rfl
theorem Ge.set {lo : Nat} {W W' : World} (h : Ge lo W W') (g i : Nat) (u : Value) (hg : g < lo) : Ge lo W (W'.setCell ⟨g, i, none⟩ u) := fun k hk =>
  (Below.heap_setCell _ _ _ _ (by show k ≠ g; omega)).trans (h k hk)
theorem InsCopy.same {W W' : World} {g n k : Nat} {xs : List Ins} (h : InsCopy W g n xs k) (he : W'.heap[g]? = W.heap[g]?) : InsCopy W' g n xs k := by
  obtain ⟨⟨arr, ha, hs⟩, hQ⟩ := h
  have ha' := he.trans ha
  have hC : ∀ i, W'.cell? ⟨g, i, none⟩ = W.cell? ⟨g, i, none⟩ := fun i => by rw [blk_cell ha', blk_cell ha]
  exact ⟨⟨arr, ha', hs⟩, fun i hi => ⟨(hC _).trans (hQ i hi).1, (hC _).trans (hQ i hi).2⟩⟩
theorem VrCopy.same {W W' : World} {g n k : Nat} {xs : List Vr} (h : VrCopy W g n xs k) (he : W'.heap[g]? = W.heap[g]?) : VrCopy W' g n xs k := by
  obtain ⟨⟨arr, ha, hs⟩, hQ⟩ := h
  have ha' := he.trans ha
  have hC : ∀ i, W'.cell? ⟨g, i, none⟩ = W.cell? ⟨g, i, none⟩ := fun i => by rw [blk_cell ha', blk_cell ha]
  exact ⟨⟨arr, ha', hs⟩, fun i hi => ⟨(hC _).trans (hQ i hi).1, (hC _).trans (hQ i hi).2⟩⟩
theorem ClCopy.same {W W' : World} {g n k : Nat} {xs : List Cl} (h : ClCopy W g n xs k) (he : W'.heap[g]? = W.heap[g]?) : ClCopy W' g n xs k := by
  obtain ⟨⟨arr, ha, hs⟩, hQ⟩ := h
  have ha' := he.trans ha
  have hC : ∀ i, W'.cell? ⟨g, i, none⟩ = W.cell? ⟨g, i, none⟩ := fun i => by rw [blk_cell ha', blk_cell ha]
  exact ⟨⟨arr, ha', hs⟩, fun i hi => ⟨(hC _).trans (hQ i hi).1, (hC _).trans (hQ i hi).2.1, (hC _).trans (hQ i hi).2.2⟩⟩
theorem tenJ {W : World} {b : Nat} {t : TypeId} {u0 u1 u2 u3 u4 u5 u6 u7 u8 u9 : Value} (h : W.heap[b]? = some (.cells #[u0, u1, u2, u3, u4, u5, u6, u7, u8, u9] t (0, 0))) :
    ((W.cell? ⟨b, 0, none⟩ = some u0 ∧ W.cell? ⟨b, 1, none⟩ = some u1 ∧ W.cell? ⟨b, 2, none⟩ = some u2 ∧ W.cell? ⟨b, 3, none⟩ = some u3 ∧ W.cell? ⟨b, 4, none⟩ = some u4) ∧ (W.cell? ⟨b, 5, none⟩ = some u5 ∧ W.cell? ⟨b, 6, none⟩ = some u6 ∧ W.cell? ⟨b, 7, none⟩ = some u7) ∧ W.cell? ⟨b, 8, none⟩ = some u8 ∧ W.cell? ⟨b, 9, none⟩ = some u9) ∧
    ∀ i, W.frozen? ⟨b, i, none⟩ = false :=
  ⟨⟨⟨(blk_cell h 0).trans rfl, (blk_cell h 1).trans rfl, (blk_cell h 2).trans rfl, (blk_cell h 3).trans rfl, (blk_cell h 4).trans rfl⟩, ⟨(blk_cell h 5).trans rfl, (blk_cell h 6).trans rfl, (blk_cell h 7).trans rfl⟩, (blk_cell h 8).trans rfl, (blk_cell h 9).trans rfl⟩, fun i => blk_free h i⟩

set_option maxHeartbeats 2000000 in
set_option maxRecDepth 100000 in
theorem szJob_any (tv lv u x nv mv : Value) (j : Jb) (l : Int) (w : World) (h : Jb.At w tv lv u x nv mv j) (hl0 : 0 ≤ l) (hl : l ≤ 1048576) (hf : Jb.Fit j) :
    Calls Tryz.prog 5 #[.agg (Jb.cells tv lv u x nv mv j), .int .i64 l] w fun e w' => Below w.heap.size w w' ∧ ∃ r : Int, e = .returned (.int .i64 r) ∧ (r = -1 ∨ (0 ≤ r ∧ Jb.Sm j)) := by
  have HH : Hid (∀ W, Below w.heap.size w W → Jb.At W tv lv u x nv mv j) := fun W hb => h.keep hb
  have HF := hidOfJ hf
  obtain ⟨na, nc, rfl, -⟩ := h.n
  obtain ⟨ma, mc, rfl, -⟩ := h.m
  obtain ⟨ta, tc, rfl, -⟩ := h.t
  obtain ⟨la, lc, rfl, -⟩ := h.l
  obtain ⟨ua, uc, rfl, -⟩ := h.u
  obtain ⟨xa, xc, rfl, -⟩ := h.x
  unfold Jb.cells
  have CC : Hid (∀ W, Below w.heap.size w W → Calls Tryz.prog 14 #[.agg #[.slice ta j.ts.length tc, .slice la j.xs.length lc, .int .i64 j.bg, .int .i64 j.ln, .int .i64 j.en], .int .i64 l] W fun e w' => Below W.heap.size W w' ∧ ∃ r : Int, e = .returned (.int .i64 r) ∧ (r = -1 ∨ 0 ≤ r ∧ r ≤ l ∧ j.ts.length ≤ 1048576 ∧ TsSmall j.ts j.ts.length ∧ j.xs.length ≤ 1048576)) :=
    fun W hb => szCode_any _ _ _ _ _ _ _ l W (HH.out _ hb).t (HH.out _ hb).l hl0 hl HF.out.t.1 HF.out.t.2 HF.out.x
  have CS : Hid (∀ W (r : Int), Below w.heap.size w W → 0 ≤ r → r ≤ l → Calls Tryz.prog 15 #[.agg #[.slice ua j.vs.length uc, .slice xa j.cs.length xc, .string j.o], .int .i64 r] W fun e w' => Below W.heap.size W w' ∧ ∃ r' : Int, e = .returned (.int .i64 r') ∧ (r' = -1 ∨ 0 ≤ r' ∧ r' ≤ r ∧ StSmall j.vs j.cs j.o)) :=
    fun W r hb h0 h1 => szStore_any _ _ _ _ _ r W (HH.out _ hb).u (HH.out _ hb).x h0 (by omega) HF.out.s
  have CN : Hid (∀ W (r : Int), Below w.heap.size w W → 0 ≤ r → r ≤ l → Calls Tryz.prog 16 #[.slice na j.ns.length nc, .int .i64 r] W fun e w' => Below W.heap.size W w' ∧ ∃ r' : Int, e = .returned (.int .i64 r') ∧ (r' = -1 ∨ 0 ≤ r' ∧ r' ≤ r ∧ j.ns.length ≤ 1048576 ∧ TsSmall j.ns j.ns.length)) :=
    fun W r hb h0 h1 => szTs_any _ _ r W (HH.out _ hb).n h0 (by omega) HF.out.n.1 HF.out.n.2
  have CM : Hid (∀ W (r : Int), Below w.heap.size w W → 0 ≤ r → r ≤ l → Calls Tryz.prog 16 #[.slice ma j.ls.length mc, .int .i64 r] W fun e w' => Below W.heap.size W w' ∧ ∃ r' : Int, e = .returned (.int .i64 r') ∧ (r' = -1 ∨ 0 ≤ r' ∧ r' ≤ r ∧ j.ls.length ≤ 1048576 ∧ TsSmall j.ls j.ls.length)) :=
    fun W r hb h0 h1 => szTs_any _ _ r W (HH.out _ hb).m h0 (by omega) HF.out.m.1 HF.out.m.2
  have HB0 : Hid (Below w.heap.size w (w.alloc (.cells #[.slice ta j.ts.length tc, .slice la j.xs.length lc, .int .i64 j.bg, .int .i64 j.ln, .int .i64 j.en, .slice ua j.vs.length uc, .slice xa j.cs.length xc, .string j.o, .slice na j.ns.length nc, .slice ma j.ls.length mc] 31))) := (Below.refl _ _).alloc (Nat.le_refl _) _
  have HR0 : Hid ((w.alloc (.cells #[.slice ta j.ts.length tc, .slice la j.xs.length lc, .int .i64 j.bg, .int .i64 j.ln, .int .i64 j.en, .slice ua j.vs.length uc, .slice xa j.cs.length xc, .string j.o, .slice na j.ns.length nc, .slice ma j.ls.length mc] 31)).heap[w.heap.size]? = some (.cells #[.slice ta j.ts.length tc, .slice la j.xs.length lc, .int .i64 j.bg, .int .i64 j.ln, .int .i64 j.en, .slice ua j.vs.length uc, .slice xa j.cs.length xc, .string j.o, .slice na j.ns.length nc, .slice ma j.ls.length mc] 31 (0, 0))) := heap_alloc_new _ _
  clear HH HF h hf
  go_enter Tryz.func5, Tryz.ntmps5
  go_wp2_with fail
  generalize w.alloc (.cells #[.slice ta j.ts.length tc, .slice la j.xs.length lc, .int .i64 j.bg, .int .i64 j.ln, .int .i64 j.en, .slice ua j.vs.length uc, .slice xa j.cs.length xc, .string j.o, .slice na j.ns.length nc, .slice ma j.ls.length mc] 31) = W0 at *
  have HQ : Hid (∀ W, Below W0.heap.size W0 W → W.heap[w.heap.size]? = some (.cells #[.slice ta j.ts.length tc, .slice la j.xs.length lc, .int .i64 j.bg, .int .i64 j.ln, .int .i64 j.en, .slice ua j.vs.length uc, .slice xa j.cs.length xc, .string j.o, .slice na j.ns.length nc, .slice ma j.ls.length mc] 31 (0, 0)) ∧ Below w.heap.size w W) := fun W hb => ⟨(hb.block _ (blk_lt HR0.out)).trans HR0.out, HB0.out.trans (hb.mono HB0.out.size)⟩
  refine (CC.out _ HB0.out).mono ?_
  rintro e w1 ⟨hb1, r1, rfl, hr⟩
  have H1 : Hid (Below W0.heap.size W0 w1) := hb1
  clear hb1 CC HB0 HR0
  rcases hr with rfl | ⟨k1, k2, k3⟩
  · go_wp2_with fail
    go_ret
    exact ⟨(HQ.out _ H1.out).2, -1, rfl, .inl rfl⟩
  have K1 := hidOfJ k3
  have d1 : decide (r1 < 0) = false := decide_eq_false (by omega)
  obtain ⟨⟨-, ⟨q5, q6, q7⟩, -⟩, -⟩ := tenJ (HQ.out _ H1.out).1
  go_wp2_with fail
  refine (CS.out _ r1 (HQ.out _ H1.out).2 k1 k2).mono ?_
  rintro e w2 ⟨hb2, r2, rfl, hr⟩
  have H2 : Hid (Below W0.heap.size W0 w2) := H1.out.trans (hb2.mono H1.out.size)
  clear hb2 CS H1 q5 q6 q7 d1
  rcases hr with rfl | ⟨k4, k5, k6⟩
  · go_wp2_with fail
    go_ret
    exact ⟨(HQ.out _ H2.out).2, -1, rfl, .inl rfl⟩
  have K2 := hidOfJ k6
  have d2 : decide (r2 < 0) = false := decide_eq_false (by omega)
  obtain ⟨⟨-, -, q8, -⟩, -⟩ := tenJ (HQ.out _ H2.out).1
  go_wp2_with fail
  refine (CN.out _ r2 (HQ.out _ H2.out).2 k4 (by omega)).mono ?_
  rintro e w3 ⟨hb3, r3, rfl, hr⟩
  have H3 : Hid (Below W0.heap.size W0 w3) := H2.out.trans (hb3.mono H2.out.size)
  clear hb3 CN H2 q8 d2
  rcases hr with rfl | ⟨k7, k8, k9⟩
  · go_wp2_with fail
    go_ret
    exact ⟨(HQ.out _ H3.out).2, -1, rfl, .inl rfl⟩
  have K3 := hidOfJ k9
  have d3 : decide (r3 < 0) = false := decide_eq_false (by omega)
  obtain ⟨⟨-, -, -, q9⟩, -⟩ := tenJ (HQ.out _ H3.out).1
  go_wp2_with fail
  refine (CM.out _ r3 (HQ.out _ H3.out).2 k7 (by omega)).mono ?_
  rintro e w4 ⟨hb4, r4, rfl, hr⟩
  have H4 : Hid (Below W0.heap.size W0 w4) := H3.out.trans (hb4.mono H3.out.size)
  clear hb4 CM H3 q9 d3
  rcases hr with rfl | ⟨k10, k11, k12⟩
  · go_wp2_with fail
    go_ret
    exact ⟨(HQ.out _ H4.out).2, -1, rfl, .inl rfl⟩
  have K4 := hidOfJ k12
  have d4 : decide (r4 < 0) = false := decide_eq_false (by omega)
  clear k3 k6 k9 k12
  go_wp2_with fail
  go_ret
  exact ⟨(HQ.out _ H4.out).2, _, rfl, .inr ⟨k10, ⟨K1.out.2.1, K1.out.1, K1.out.2.2, K2.out, K3.out.2, K3.out.1, K4.out.2, K4.out.1⟩⟩⟩

set_option maxHeartbeats 4000000 in
set_option maxRecDepth 100000 in
theorem eqJob_any (tv lv u x nv mv tv' lv' u' x' nv' mv' : Value) (j : Jb) (w : World) (h : Jb.At w tv lv u x nv mv j) (h' : Jb.At w tv' lv' u' x' nv' mv' j) (hs : Jb.Sm j) :
    Calls Tryz.prog 9 #[.agg (Jb.cells tv lv u x nv mv j), .agg (Jb.cells tv' lv' u' x' nv' mv' j)] w fun e w' => e = .returned (.bool true) ∧ Below w.heap.size w w' := by
  have CC : Hid (∀ W, Below w.heap.size w W → Calls Tryz.prog 26 #[.agg #[tv, lv, .int .i64 j.bg, .int .i64 j.ln, .int .i64 j.en], .agg #[tv', lv', .int .i64 j.bg, .int .i64 j.ln, .int .i64 j.en]] W fun e w' => e = .returned (.bool true) ∧ Below W.heap.size W w') := fun W hb => eqCode_any _ _ _ _ _ _ _ _ _ W (h.t.keep hb) (h.l.keep hb) (h'.t.keep hb) (h'.l.keep hb) hs.tl hs.xl
  have CS : Hid (∀ W, Below w.heap.size w W → Calls Tryz.prog 27 #[.agg #[u, x, .string j.o], .agg #[u', x', .string j.o]] W fun e w' => e = .returned (.bool true) ∧ Below W.heap.size W w') := fun W hb => eqStore_any _ _ _ _ _ _ _ W (h.u.keep hb) (h.x.keep hb) (h'.u.keep hb) (h'.x.keep hb) hs.s.1 hs.s.2.2.1
  have CN : Hid (∀ W, Below w.heap.size w W → Calls Tryz.prog 28 #[nv, nv'] W fun e w' => e = .returned (.bool true) ∧ Below W.heap.size W w') := fun W hb => eqTs_any _ _ _ W (h.n.keep hb) (h'.n.keep hb) hs.nl
  have CM : Hid (∀ W, Below w.heap.size w W → Calls Tryz.prog 28 #[mv, mv'] W fun e w' => e = .returned (.bool true) ∧ Below W.heap.size W w') := fun W hb => eqTs_any _ _ _ W (h.m.keep hb) (h'.m.keep hb) hs.ml
  obtain ⟨na, nc, rfl, -⟩ := h.n
  obtain ⟨ma, mc, rfl, -⟩ := h.m
  obtain ⟨ta, tc, rfl, -⟩ := h.t
  obtain ⟨la, lc, rfl, -⟩ := h.l
  obtain ⟨ua, uc, rfl, -⟩ := h.u
  obtain ⟨xa, xc, rfl, -⟩ := h.x
  obtain ⟨na', nc', rfl, -⟩ := h'.n
  obtain ⟨ma', mc', rfl, -⟩ := h'.m
  obtain ⟨ta', tc', rfl, -⟩ := h'.t
  obtain ⟨la', lc', rfl, -⟩ := h'.l
  obtain ⟨ua', uc', rfl, -⟩ := h'.u
  obtain ⟨xa', xc', rfl, -⟩ := h'.x
  unfold Jb.cells
  have HB0 : Hid (Below w.heap.size w ((w.alloc (.cells #[.slice ta j.ts.length tc, .slice la j.xs.length lc, .int .i64 j.bg, .int .i64 j.ln, .int .i64 j.en, .slice ua j.vs.length uc, .slice xa j.cs.length xc, .string j.o, .slice na j.ns.length nc, .slice ma j.ls.length mc] 42)).alloc (.cells #[.slice ta' j.ts.length tc', .slice la' j.xs.length lc', .int .i64 j.bg, .int .i64 j.ln, .int .i64 j.en, .slice ua' j.vs.length uc', .slice xa' j.cs.length xc', .string j.o, .slice na' j.ns.length nc', .slice ma' j.ls.length mc'] 42))) := ((Below.refl _ _).alloc (Nat.le_refl _) _).alloc (by simp) _
  have HR0 : Hid (((w.alloc (.cells #[.slice ta j.ts.length tc, .slice la j.xs.length lc, .int .i64 j.bg, .int .i64 j.ln, .int .i64 j.en, .slice ua j.vs.length uc, .slice xa j.cs.length xc, .string j.o, .slice na j.ns.length nc, .slice ma j.ls.length mc] 42)).alloc (.cells #[.slice ta' j.ts.length tc', .slice la' j.xs.length lc', .int .i64 j.bg, .int .i64 j.ln, .int .i64 j.en, .slice ua' j.vs.length uc', .slice xa' j.cs.length xc', .string j.o, .slice na' j.ns.length nc', .slice ma' j.ls.length mc'] 42)).heap[w.heap.size]? = some (.cells #[.slice ta j.ts.length tc, .slice la j.xs.length lc, .int .i64 j.bg, .int .i64 j.ln, .int .i64 j.en, .slice ua j.vs.length uc, .slice xa j.cs.length xc, .string j.o, .slice na j.ns.length nc, .slice ma j.ls.length mc] 42 (0, 0))) := alloc2_0 _ _ _
  have HR1 : Hid (((w.alloc (.cells #[.slice ta j.ts.length tc, .slice la j.xs.length lc, .int .i64 j.bg, .int .i64 j.ln, .int .i64 j.en, .slice ua j.vs.length uc, .slice xa j.cs.length xc, .string j.o, .slice na j.ns.length nc, .slice ma j.ls.length mc] 42)).alloc (.cells #[.slice ta' j.ts.length tc', .slice la' j.xs.length lc', .int .i64 j.bg, .int .i64 j.ln, .int .i64 j.en, .slice ua' j.vs.length uc', .slice xa' j.cs.length xc', .string j.o, .slice na' j.ns.length nc', .slice ma' j.ls.length mc'] 42)).heap[w.heap.size + 1]? = some (.cells #[.slice ta' j.ts.length tc', .slice la' j.xs.length lc', .int .i64 j.bg, .int .i64 j.ln, .int .i64 j.en, .slice ua' j.vs.length uc', .slice xa' j.cs.length xc', .string j.o, .slice na' j.ns.length nc', .slice ma' j.ls.length mc'] 42 (0, 0))) := alloc2_1 _ _ _
  clear h h' hs
  go_enter Tryz.func9, Tryz.ntmps9
  go_wp2_with fail
  generalize (w.alloc (.cells #[.slice ta j.ts.length tc, .slice la j.xs.length lc, .int .i64 j.bg, .int .i64 j.ln, .int .i64 j.en, .slice ua j.vs.length uc, .slice xa j.cs.length xc, .string j.o, .slice na j.ns.length nc, .slice ma j.ls.length mc] 42)).alloc (.cells #[.slice ta' j.ts.length tc', .slice la' j.xs.length lc', .int .i64 j.bg, .int .i64 j.ln, .int .i64 j.en, .slice ua' j.vs.length uc', .slice xa' j.cs.length xc', .string j.o, .slice na' j.ns.length nc', .slice ma' j.ls.length mc'] 42) = W0 at *
  have HQ : Hid (∀ W, Below W0.heap.size W0 W → (W.heap[w.heap.size]? = some (.cells #[.slice ta j.ts.length tc, .slice la j.xs.length lc, .int .i64 j.bg, .int .i64 j.ln, .int .i64 j.en, .slice ua j.vs.length uc, .slice xa j.cs.length xc, .string j.o, .slice na j.ns.length nc, .slice ma j.ls.length mc] 42 (0, 0)) ∧ W.heap[w.heap.size + 1]? = some (.cells #[.slice ta' j.ts.length tc', .slice la' j.xs.length lc', .int .i64 j.bg, .int .i64 j.ln, .int .i64 j.en, .slice ua' j.vs.length uc', .slice xa' j.cs.length xc', .string j.o, .slice na' j.ns.length nc', .slice ma' j.ls.length mc'] 42 (0, 0))) ∧ Below w.heap.size w W) := fun W hb => ⟨⟨(hb.block _ (blk_lt HR0.out)).trans HR0.out, (hb.block _ (blk_lt HR1.out)).trans HR1.out⟩, HB0.out.trans (hb.mono HB0.out.size)⟩
  refine (CC.out _ HB0.out).mono ?_
  rintro e w1 ⟨rfl, hb1⟩
  have H1 : Hid (Below W0.heap.size W0 w1) := hb1
  clear hb1 CC HB0 HR0 HR1
  obtain ⟨⟨-, ⟨q5, q6, q7⟩, -⟩, -⟩ := tenJ (HQ.out _ H1.out).1.1
  obtain ⟨⟨-, ⟨p5, p6, p7⟩, -⟩, -⟩ := tenJ (HQ.out _ H1.out).1.2
  go_wp2_with fail
  refine (CS.out _ (HQ.out _ H1.out).2).mono ?_
  rintro e w2 ⟨rfl, hb2⟩
  have H2 : Hid (Below W0.heap.size W0 w2) := H1.out.trans (hb2.mono H1.out.size)
  clear hb2 CS H1 q5 q6 q7 p5 p6 p7
  obtain ⟨⟨-, -, q8, -⟩, -⟩ := tenJ (HQ.out _ H2.out).1.1
  obtain ⟨⟨-, -, p8, -⟩, -⟩ := tenJ (HQ.out _ H2.out).1.2
  go_wp2_with fail
  refine (CN.out _ (HQ.out _ H2.out).2).mono ?_
  rintro e w3 ⟨rfl, hb3⟩
  have H3 : Hid (Below W0.heap.size W0 w3) := H2.out.trans (hb3.mono H2.out.size)
  clear hb3 CN H2 q8 p8
  obtain ⟨⟨-, -, -, q9⟩, -⟩ := tenJ (HQ.out _ H3.out).1.1
  obtain ⟨⟨-, -, -, p9⟩, -⟩ := tenJ (HQ.out _ H3.out).1.2
  go_wp2_with fail
  refine (CM.out _ (HQ.out _ H3.out).2).mono ?_
  rintro e w4 ⟨rfl, hb4⟩
  have H4 : Hid (Below W0.heap.size W0 w4) := H3.out.trans (hb4.mono H3.out.size)
  clear hb4 CM H3 q9 p9
  go_wp2_with fail
  go_ret
  exact ⟨rfl, (HQ.out _ H4.out).2⟩
end PartJbL
section PartJbT
open Go.RowKit

/-- All but block s is as it was. -/
def Oth (s : Nat) (W W' : World) : Prop := ∀ k, k ≠ s → W'.heap[k]? = W.heap[k]?
theorem Oth.refl (s : Nat) (W : World) : Oth s W W := fun _ _ => rfl
theorem Oth.set {s : Nat} {W W' : World} (h : Oth s W W') (i : Nat) (u : Value) : Oth s W (W'.setCell ⟨s, i, none⟩ u) := fun k hk =>
  (Below.heap_setCell _ _ _ _ (by show k ≠ s; exact hk)).trans (h k hk)
theorem setA10 {W : World} {g : Nat} {t : TypeId} {u0 u1 u2 u3 u4 u5 u6 u7 u8 u9 : Value} (h : W.heap[g]? = some (.cells #[u0, u1, u2, u3, u4, u5, u6, u7, u8, u9] t (0, 0))) (v0 v1 v2 v3 v4 v5 v6 v7 v8 v9 : Value) : (((((((((((W.setCell ⟨g, 0, none⟩ v0).setCell ⟨g, 1, none⟩ v1).setCell ⟨g, 2, none⟩ v2).setCell ⟨g, 3, none⟩ v3).setCell ⟨g, 4, none⟩ v4).setCell ⟨g, 5, none⟩ v5).setCell ⟨g, 6, none⟩ v6).setCell ⟨g, 7, none⟩ v7).setCell ⟨g, 8, none⟩ v8).setCell ⟨g, 9, none⟩ v9)).heap[g]? = some (.cells #[v0, v1, v2, v3, v4, v5, v6, v7, v8, v9] t (0, 0)) := by
  have h0 : ((W.setCell ⟨g, 0, none⟩ v0)).heap[g]? = some (.cells #[v0, u1, u2, u3, u4, u5, u6, u7, u8, u9] t (0, 0)) := blk_set h 0 v0
  have h1 : (((W.setCell ⟨g, 0, none⟩ v0).setCell ⟨g, 1, none⟩ v1)).heap[g]? = some (.cells #[v0, v1, u2, u3, u4, u5, u6, u7, u8, u9] t (0, 0)) := blk_set h0 1 v1
  have h2 : ((((W.setCell ⟨g, 0, none⟩ v0).setCell ⟨g, 1, none⟩ v1).setCell ⟨g, 2, none⟩ v2)).heap[g]? = some (.cells #[v0, v1, v2, u3, u4, u5, u6, u7, u8, u9] t (0, 0)) := blk_set h1 2 v2
  have h3 : (((((W.setCell ⟨g, 0, none⟩ v0).setCell ⟨g, 1, none⟩ v1).setCell ⟨g, 2, none⟩ v2).setCell ⟨g, 3, none⟩ v3)).heap[g]? = some (.cells #[v0, v1, v2, v3, u4, u5, u6, u7, u8, u9] t (0, 0)) := blk_set h2 3 v3
  have h4 : ((((((W.setCell ⟨g, 0, none⟩ v0).setCell ⟨g, 1, none⟩ v1).setCell ⟨g, 2, none⟩ v2).setCell ⟨g, 3, none⟩ v3).setCell ⟨g, 4, none⟩ v4)).heap[g]? = some (.cells #[v0, v1, v2, v3, v4, u5, u6, u7, u8, u9] t (0, 0)) := blk_set h3 4 v4
  have h5 : (((((((W.setCell ⟨g, 0, none⟩ v0).setCell ⟨g, 1, none⟩ v1).setCell ⟨g, 2, none⟩ v2).setCell ⟨g, 3, none⟩ v3).setCell ⟨g, 4, none⟩ v4).setCell ⟨g, 5, none⟩ v5)).heap[g]? = some (.cells #[v0, v1, v2, v3, v4, v5, u6, u7, u8, u9] t (0, 0)) := blk_set h4 5 v5
  have h6 : ((((((((W.setCell ⟨g, 0, none⟩ v0).setCell ⟨g, 1, none⟩ v1).setCell ⟨g, 2, none⟩ v2).setCell ⟨g, 3, none⟩ v3).setCell ⟨g, 4, none⟩ v4).setCell ⟨g, 5, none⟩ v5).setCell ⟨g, 6, none⟩ v6)).heap[g]? = some (.cells #[v0, v1, v2, v3, v4, v5, v6, u7, u8, u9] t (0, 0)) := blk_set h5 6 v6
  have h7 : (((((((((W.setCell ⟨g, 0, none⟩ v0).setCell ⟨g, 1, none⟩ v1).setCell ⟨g, 2, none⟩ v2).setCell ⟨g, 3, none⟩ v3).setCell ⟨g, 4, none⟩ v4).setCell ⟨g, 5, none⟩ v5).setCell ⟨g, 6, none⟩ v6).setCell ⟨g, 7, none⟩ v7)).heap[g]? = some (.cells #[v0, v1, v2, v3, v4, v5, v6, v7, u8, u9] t (0, 0)) := blk_set h6 7 v7
  have h8 : ((((((((((W.setCell ⟨g, 0, none⟩ v0).setCell ⟨g, 1, none⟩ v1).setCell ⟨g, 2, none⟩ v2).setCell ⟨g, 3, none⟩ v3).setCell ⟨g, 4, none⟩ v4).setCell ⟨g, 5, none⟩ v5).setCell ⟨g, 6, none⟩ v6).setCell ⟨g, 7, none⟩ v7).setCell ⟨g, 8, none⟩ v8)).heap[g]? = some (.cells #[v0, v1, v2, v3, v4, v5, v6, v7, v8, u9] t (0, 0)) := blk_set h7 8 v8
  have h9 : (((((((((((W.setCell ⟨g, 0, none⟩ v0).setCell ⟨g, 1, none⟩ v1).setCell ⟨g, 2, none⟩ v2).setCell ⟨g, 3, none⟩ v3).setCell ⟨g, 4, none⟩ v4).setCell ⟨g, 5, none⟩ v5).setCell ⟨g, 6, none⟩ v6).setCell ⟨g, 7, none⟩ v7).setCell ⟨g, 8, none⟩ v8).setCell ⟨g, 9, none⟩ v9)).heap[g]? = some (.cells #[v0, v1, v2, v3, v4, v5, v6, v7, v8, v9] t (0, 0)) := blk_set h8 9 v9
  exact h9
theorem belowA10 {lo : Nat} {w W : World} {g : Nat} (h : Below lo w W) (hg : lo ≤ g) (v0 v1 v2 v3 v4 v5 v6 v7 v8 v9 : Value) : Below lo w (((((((((((W.setCell ⟨g, 0, none⟩ v0).setCell ⟨g, 1, none⟩ v1).setCell ⟨g, 2, none⟩ v2).setCell ⟨g, 3, none⟩ v3).setCell ⟨g, 4, none⟩ v4).setCell ⟨g, 5, none⟩ v5).setCell ⟨g, 6, none⟩ v6).setCell ⟨g, 7, none⟩ v7).setCell ⟨g, 8, none⟩ v8).setCell ⟨g, 9, none⟩ v9)) :=
  (((((((((h.setCell (by exact hg) _).setCell (by exact hg) _).setCell (by exact hg) _).setCell (by exact hg) _).setCell (by exact hg) _).setCell (by exact hg) _).setCell (by exact hg) _).setCell (by exact hg) _).setCell (by exact hg) _).setCell (by exact hg) _
theorem othA10 {W : World} {g : Nat} (v0 v1 v2 v3 v4 v5 v6 v7 v8 v9 : Value) : Oth g W (((((((((((W.setCell ⟨g, 0, none⟩ v0).setCell ⟨g, 1, none⟩ v1).setCell ⟨g, 2, none⟩ v2).setCell ⟨g, 3, none⟩ v3).setCell ⟨g, 4, none⟩ v4).setCell ⟨g, 5, none⟩ v5).setCell ⟨g, 6, none⟩ v6).setCell ⟨g, 7, none⟩ v7).setCell ⟨g, 8, none⟩ v8).setCell ⟨g, 9, none⟩ v9)) :=
  ((((((((((Oth.refl g W).set 0 v0).set 1 v1).set 2 v2).set 3 v3).set 4 v4).set 5 v5).set 6 v6).set 7 v7).set 8 v8).set 9 v9

theorem toTsJ (v : Value) (ks : List ByteArray) (w : World) (h : TsAt w v ks) (hk : ks.length ≤ 1048576) :
    Calls Tryz.prog 22 #[v] w fun e w' => ∃ g : Nat, e = .returned (.slice (some ⟨g, 0, none⟩) ks.length ks.length) ∧ Below w.heap.size w w' ∧ TsBlk w' g ks ∧ w.heap.size ≤ g :=
  (toTs_any v ks w h hk).mono fun _ _ hh => ⟨w.heap.size, hh.1, hh.2.1, hh.2.2, Nat.le_refl _⟩
theorem alloc3_0J (w : World) (A B C : Obj) : (((w.alloc A).alloc B).alloc C).heap[w.heap.size]? = some A := alloc3_0c w A B C

set_option maxHeartbeats 8000000 in
set_option maxRecDepth 100000 in
theorem toJob_any (tv lv u x nv mv : Value) (j : Jb) (w : World) (h : Jb.At w tv lv u x nv mv j) (hs : Jb.Sm j) :
    Calls Tryz.prog 7 #[.agg (Jb.cells tv lv u x nv mv j)] w fun e w' => ∃ g h g2 h2 g3 g4 : Nat, e = .returned (.agg #[.slice (some ⟨g, 0, none⟩) j.ts.length j.ts.length, .slice (some ⟨h, 0, none⟩) j.xs.length j.xs.length, .int .i64 j.bg, .int .i64 j.ln, .int .i64 j.en, .slice (some ⟨g2, 0, none⟩) j.vs.length j.vs.length, .slice (some ⟨h2, 0, none⟩) j.cs.length j.cs.length, .string j.o, .slice (some ⟨g3, 0, none⟩) j.ns.length j.ns.length, .slice (some ⟨g4, 0, none⟩) j.ls.length j.ls.length]) ∧ Below w.heap.size w w' ∧
      Jb.At w' (.slice (some ⟨g, 0, none⟩) j.ts.length j.ts.length) (.slice (some ⟨h, 0, none⟩) j.xs.length j.xs.length) (.slice (some ⟨g2, 0, none⟩) j.vs.length j.vs.length) (.slice (some ⟨h2, 0, none⟩) j.cs.length j.cs.length) (.slice (some ⟨g3, 0, none⟩) j.ns.length j.ns.length) (.slice (some ⟨g4, 0, none⟩) j.ls.length j.ls.length) j := by
  have HH : Hid (∀ W, Below w.heap.size w W → Jb.At W tv lv u x nv mv j) := fun W hb => h.keep hb
  obtain ⟨na, nc, rfl, -⟩ := h.n
  obtain ⟨ma, mc, rfl, -⟩ := h.m
  obtain ⟨ta, tc, rfl, -⟩ := h.t
  obtain ⟨la, lc, rfl, -⟩ := h.l
  obtain ⟨ua, uc, rfl, -⟩ := h.u
  obtain ⟨xa, xc, rfl, -⟩ := h.x
  have C1 := hidOfJ (fun (W : World) (hb : Below w.heap.size w W) => toCode_any _ _ j.bg j.ln j.en j.ts j.xs W (HH.out W hb).t (HH.out W hb).l hs.tl hs.xl)
  have C2 := hidOfJ (fun (W : World) (hb : Below w.heap.size w W) => toStore_any _ _ j.o j.vs j.cs W (HH.out W hb).u (HH.out W hb).x hs.s.1 hs.s.2.2.1)
  have C3 := hidOfJ (fun (W : World) (hb : Below w.heap.size w W) => toTsJ _ j.ns W (HH.out W hb).n hs.nl)
  have C4 := hidOfJ (fun (W : World) (hb : Below w.heap.size w W) => toTsJ _ j.ls W (HH.out W hb).m hs.ml)
  unfold Jb.cells
  clear HH h hs
  have HB : Hid (Below w.heap.size w (((w.alloc (.cells #[.slice ta j.ts.length tc, .slice la j.xs.length lc, .int .i64 j.bg, .int .i64 j.ln, .int .i64 j.en, .slice ua j.vs.length uc, .slice xa j.cs.length xc, .string j.o, .slice na j.ns.length nc, .slice ma j.ls.length mc] 31)).alloc (.cells #[.slice none 0 0, .slice none 0 0, .int .i64 0, .int .i64 0, .int .i64 0, .slice none 0 0, .slice none 0 0, .string ⟨#[]⟩, .slice none 0 0, .slice none 0 0] 42)).alloc (.cells #[.slice none 0 0, .slice none 0 0, .int .i64 0, .int .i64 0, .int .i64 0, .slice none 0 0, .slice none 0 0, .string ⟨#[]⟩, .slice none 0 0, .slice none 0 0] 42))) := (((Below.refl _ _).alloc (Nat.le_refl _) _).alloc (by simp) _).alloc (by simp; omega) _
  have HA : Hid (((((w.alloc (.cells #[.slice ta j.ts.length tc, .slice la j.xs.length lc, .int .i64 j.bg, .int .i64 j.ln, .int .i64 j.en, .slice ua j.vs.length uc, .slice xa j.cs.length xc, .string j.o, .slice na j.ns.length nc, .slice ma j.ls.length mc] 31)).alloc (.cells #[.slice none 0 0, .slice none 0 0, .int .i64 0, .int .i64 0, .int .i64 0, .slice none 0 0, .slice none 0 0, .string ⟨#[]⟩, .slice none 0 0, .slice none 0 0] 42)).alloc (.cells #[.slice none 0 0, .slice none 0 0, .int .i64 0, .int .i64 0, .int .i64 0, .slice none 0 0, .slice none 0 0, .string ⟨#[]⟩, .slice none 0 0, .slice none 0 0] 42))).heap[w.heap.size]? = some (.cells #[.slice ta j.ts.length tc, .slice la j.xs.length lc, .int .i64 j.bg, .int .i64 j.ln, .int .i64 j.en, .slice ua j.vs.length uc, .slice xa j.cs.length xc, .string j.o, .slice na j.ns.length nc, .slice ma j.ls.length mc] 31 (0, 0))) := alloc3_0J _ _ _ _
  have HZ : Hid (((((w.alloc (.cells #[.slice ta j.ts.length tc, .slice la j.xs.length lc, .int .i64 j.bg, .int .i64 j.ln, .int .i64 j.en, .slice ua j.vs.length uc, .slice xa j.cs.length xc, .string j.o, .slice na j.ns.length nc, .slice ma j.ls.length mc] 31)).alloc (.cells #[.slice none 0 0, .slice none 0 0, .int .i64 0, .int .i64 0, .int .i64 0, .slice none 0 0, .slice none 0 0, .string ⟨#[]⟩, .slice none 0 0, .slice none 0 0] 42)).alloc (.cells #[.slice none 0 0, .slice none 0 0, .int .i64 0, .int .i64 0, .int .i64 0, .slice none 0 0, .slice none 0 0, .string ⟨#[]⟩, .slice none 0 0, .slice none 0 0] 42))).heap[w.heap.size + 1]? = some (.cells #[.slice none 0 0, .slice none 0 0, .int .i64 0, .int .i64 0, .int .i64 0, .slice none 0 0, .slice none 0 0, .string ⟨#[]⟩, .slice none 0 0, .slice none 0 0] 42 (0, 0))) := alloc3_1 _ _ _ _
  have HO : Hid (((((w.alloc (.cells #[.slice ta j.ts.length tc, .slice la j.xs.length lc, .int .i64 j.bg, .int .i64 j.ln, .int .i64 j.en, .slice ua j.vs.length uc, .slice xa j.cs.length xc, .string j.o, .slice na j.ns.length nc, .slice ma j.ls.length mc] 31)).alloc (.cells #[.slice none 0 0, .slice none 0 0, .int .i64 0, .int .i64 0, .int .i64 0, .slice none 0 0, .slice none 0 0, .string ⟨#[]⟩, .slice none 0 0, .slice none 0 0] 42)).alloc (.cells #[.slice none 0 0, .slice none 0 0, .int .i64 0, .int .i64 0, .int .i64 0, .slice none 0 0, .slice none 0 0, .string ⟨#[]⟩, .slice none 0 0, .slice none 0 0] 42))).heap[w.heap.size + 1 + 1]? = some (.cells #[.slice none 0 0, .slice none 0 0, .int .i64 0, .int .i64 0, .int .i64 0, .slice none 0 0, .slice none 0 0, .string ⟨#[]⟩, .slice none 0 0, .slice none 0 0] 42 (0, 0))) := alloc3_2 _ _ _ _
  have HS : Hid (w.heap.size + 1 + 1 + 1 ≤ ((((w.alloc (.cells #[.slice ta j.ts.length tc, .slice la j.xs.length lc, .int .i64 j.bg, .int .i64 j.ln, .int .i64 j.en, .slice ua j.vs.length uc, .slice xa j.cs.length xc, .string j.o, .slice na j.ns.length nc, .slice ma j.ls.length mc] 31)).alloc (.cells #[.slice none 0 0, .slice none 0 0, .int .i64 0, .int .i64 0, .int .i64 0, .slice none 0 0, .slice none 0 0, .string ⟨#[]⟩, .slice none 0 0, .slice none 0 0] 42)).alloc (.cells #[.slice none 0 0, .slice none 0 0, .int .i64 0, .int .i64 0, .int .i64 0, .slice none 0 0, .slice none 0 0, .string ⟨#[]⟩, .slice none 0 0, .slice none 0 0] 42))).heap.size) := by show _ ≤ _; simp
  go_enter Tryz.func7, Tryz.ntmps7
  go_wp2_with fail
  generalize (((w.alloc (.cells #[.slice ta j.ts.length tc, .slice la j.xs.length lc, .int .i64 j.bg, .int .i64 j.ln, .int .i64 j.en, .slice ua j.vs.length uc, .slice xa j.cs.length xc, .string j.o, .slice na j.ns.length nc, .slice ma j.ls.length mc] 31)).alloc (.cells #[.slice none 0 0, .slice none 0 0, .int .i64 0, .int .i64 0, .int .i64 0, .slice none 0 0, .slice none 0 0, .string ⟨#[]⟩, .slice none 0 0, .slice none 0 0] 42)).alloc (.cells #[.slice none 0 0, .slice none 0 0, .int .i64 0, .int .i64 0, .int .i64 0, .slice none 0 0, .slice none 0 0, .string ⟨#[]⟩, .slice none 0 0, .slice none 0 0] 42)) = W0 at *
  refine (C1.out _ HB.out).mono ?_
  rintro e w1 ⟨uu, rfl, hb1, g, h, rfl, hg, hh, t1, t2⟩
  have HA1 := hidOfJ ((hb1.block _ (blk_lt HA.out)).trans HA.out)
  have HZ1 := hidOfJ ((hb1.block _ (blk_lt HZ.out)).trans HZ.out)
  have HO1 := hidOfJ ((hb1.block _ (blk_lt HO.out)).trans HO.out)
  have HB1 := hidOfJ (HB.out.trans (hb1.mono HB.out.size))
  have HS1 := hidOfJ (Nat.le_trans HS.out hb1.size)
  have HG1 := hidOfJ (And.intro (Nat.le_trans HS.out hg) (Nat.le_trans HS.out hh))
  obtain ⟨⟨⟨o0, o1, o2, o3, o4⟩, ⟨o5, o6, o7⟩, o8, o9⟩, of⟩ := tenJ HO1.out
  obtain ⟨⟨⟨a0, a1, a2, a3, a4⟩, ⟨a5, a6, a7⟩, a8, a9⟩, -⟩ := tenJ HA1.out
  obtain ⟨⟨⟨z0, z1, z2, z3, z4⟩, ⟨z5, z6, z7⟩, z8, z9⟩, zf⟩ := tenJ HZ1.out
  have OT : Oth (w.heap.size + 1 + 1) w1 (((((w1.setCell ⟨w.heap.size + 1 + 1, 0, none⟩ (.slice (some ⟨g, 0, none⟩) j.ts.length j.ts.length)).setCell ⟨w.heap.size + 1 + 1, 1, none⟩ (.slice (some ⟨h, 0, none⟩) j.xs.length j.xs.length)).setCell ⟨w.heap.size + 1 + 1, 2, none⟩ (.int .i64 j.bg)).setCell ⟨w.heap.size + 1 + 1, 3, none⟩ (.int .i64 j.ln)).setCell ⟨w.heap.size + 1 + 1, 4, none⟩ (.int .i64 j.en)) := ((((((Oth.refl _ _).set 0 (.slice (some ⟨g, 0, none⟩) j.ts.length j.ts.length)).set 1 (.slice (some ⟨h, 0, none⟩) j.xs.length j.xs.length)).set 2 (.int .i64 j.bg)).set 3 (.int .i64 j.ln)).set 4 (.int .i64 j.en))
  have HOx := hidOfJ (show ((((((w1.setCell ⟨w.heap.size + 1 + 1, 0, none⟩ (.slice (some ⟨g, 0, none⟩) j.ts.length j.ts.length)).setCell ⟨w.heap.size + 1 + 1, 1, none⟩ (.slice (some ⟨h, 0, none⟩) j.xs.length j.xs.length)).setCell ⟨w.heap.size + 1 + 1, 2, none⟩ (.int .i64 j.bg)).setCell ⟨w.heap.size + 1 + 1, 3, none⟩ (.int .i64 j.ln)).setCell ⟨w.heap.size + 1 + 1, 4, none⟩ (.int .i64 j.en))).heap[w.heap.size + 1 + 1]? = some (.cells #[.slice (some ⟨g, 0, none⟩) j.ts.length j.ts.length, .slice (some ⟨h, 0, none⟩) j.xs.length j.xs.length, .int .i64 j.bg, .int .i64 j.ln, .int .i64 j.en, .slice none 0 0, .slice none 0 0, .string ⟨#[]⟩, .slice none 0 0, .slice none 0 0] 42 (0, 0)) from (blk_set (blk_set (blk_set (blk_set (blk_set HO1.out 0 (.slice (some ⟨g, 0, none⟩) j.ts.length j.ts.length)) 1 (.slice (some ⟨h, 0, none⟩) j.xs.length j.xs.length)) 2 (.int .i64 j.bg)) 3 (.int .i64 j.ln)) 4 (.int .i64 j.en)))
  have HAx := hidOfJ ((OT _ (by omega)).trans HA1.out)
  have HZx := hidOfJ ((OT _ (by omega)).trans HZ1.out)
  have HBx := hidOfJ (show Below w.heap.size w (((((w1.setCell ⟨w.heap.size + 1 + 1, 0, none⟩ (.slice (some ⟨g, 0, none⟩) j.ts.length j.ts.length)).setCell ⟨w.heap.size + 1 + 1, 1, none⟩ (.slice (some ⟨h, 0, none⟩) j.xs.length j.xs.length)).setCell ⟨w.heap.size + 1 + 1, 2, none⟩ (.int .i64 j.bg)).setCell ⟨w.heap.size + 1 + 1, 3, none⟩ (.int .i64 j.ln)).setCell ⟨w.heap.size + 1 + 1, 4, none⟩ (.int .i64 j.en)) from (((((HB1.out.setCell (by show _ ≤ w.heap.size + 1 + 1; omega) (.slice (some ⟨g, 0, none⟩) j.ts.length j.ts.length)).setCell (by show _ ≤ w.heap.size + 1 + 1; omega) (.slice (some ⟨h, 0, none⟩) j.xs.length j.xs.length)).setCell (by show _ ≤ w.heap.size + 1 + 1; omega) (.int .i64 j.bg)).setCell (by show _ ≤ w.heap.size + 1 + 1; omega) (.int .i64 j.ln)).setCell (by show _ ≤ w.heap.size + 1 + 1; omega) (.int .i64 j.en)))
  have HSx : Hid (w.heap.size + 1 + 1 + 1 ≤ ((((((w1.setCell ⟨w.heap.size + 1 + 1, 0, none⟩ (.slice (some ⟨g, 0, none⟩) j.ts.length j.ts.length)).setCell ⟨w.heap.size + 1 + 1, 1, none⟩ (.slice (some ⟨h, 0, none⟩) j.xs.length j.xs.length)).setCell ⟨w.heap.size + 1 + 1, 2, none⟩ (.int .i64 j.bg)).setCell ⟨w.heap.size + 1 + 1, 3, none⟩ (.int .i64 j.ln)).setCell ⟨w.heap.size + 1 + 1, 4, none⟩ (.int .i64 j.en))).heap.size) := by
    show _ ≤ _
    have := HS1.out
    simpa [World.setCell] using this
  clear HA HZ HO HB HS
  have P1 : Hid (TsBlk (((((w1.setCell ⟨w.heap.size + 1 + 1, 0, none⟩ (.slice (some ⟨g, 0, none⟩) j.ts.length j.ts.length)).setCell ⟨w.heap.size + 1 + 1, 1, none⟩ (.slice (some ⟨h, 0, none⟩) j.xs.length j.xs.length)).setCell ⟨w.heap.size + 1 + 1, 2, none⟩ (.int .i64 j.bg)).setCell ⟨w.heap.size + 1 + 1, 3, none⟩ (.int .i64 j.ln)).setCell ⟨w.heap.size + 1 + 1, 4, none⟩ (.int .i64 j.en)) g j.ts ∧ InsCopy (((((w1.setCell ⟨w.heap.size + 1 + 1, 0, none⟩ (.slice (some ⟨g, 0, none⟩) j.ts.length j.ts.length)).setCell ⟨w.heap.size + 1 + 1, 1, none⟩ (.slice (some ⟨h, 0, none⟩) j.xs.length j.xs.length)).setCell ⟨w.heap.size + 1 + 1, 2, none⟩ (.int .i64 j.bg)).setCell ⟨w.heap.size + 1 + 1, 3, none⟩ (.int .i64 j.ln)).setCell ⟨w.heap.size + 1 + 1, 4, none⟩ (.int .i64 j.en)) h j.xs.length j.xs j.xs.length) := ⟨(OT _ (by have := HG1.out.1; omega)).trans t1, t2.same (OT _ (by have := HG1.out.2; omega))⟩
  clear t1 t2 hg hh
  clear hb1 OT
  clear C1
  go_wp2_with fail
  generalize (((((w1.setCell ⟨w.heap.size + 1 + 1, 0, none⟩ (.slice (some ⟨g, 0, none⟩) j.ts.length j.ts.length)).setCell ⟨w.heap.size + 1 + 1, 1, none⟩ (.slice (some ⟨h, 0, none⟩) j.xs.length j.xs.length)).setCell ⟨w.heap.size + 1 + 1, 2, none⟩ (.int .i64 j.bg)).setCell ⟨w.heap.size + 1 + 1, 3, none⟩ (.int .i64 j.ln)).setCell ⟨w.heap.size + 1 + 1, 4, none⟩ (.int .i64 j.en)) = x1 at *
  clear HA1 HZ1 HO1 HB1 HS1 o0 o1 o2 o3 o4 o5 o6 o7 o8 o9 of a0 a1 a2 a3 a4 a5 a6 a7 a8 a9 z0 z1 z2 z3 z4 z5 z6 z7 z8 z9 zf
  have HA := hidOfJ HAx.out
  have HZ := hidOfJ HZx.out
  have HO := hidOfJ HOx.out
  have HB := hidOfJ HBx.out
  have HS := hidOfJ HSx.out
  clear HAx HZx HOx HBx HSx
  refine (C2.out _ HB.out).mono ?_
  rintro e w2 ⟨uu, rfl, hb2, g2, h2, rfl, hg, hh, -, t1, t2⟩
  have HA2 := hidOfJ ((hb2.block _ (blk_lt HA.out)).trans HA.out)
  have HZ2 := hidOfJ ((hb2.block _ (blk_lt HZ.out)).trans HZ.out)
  have HO2 := hidOfJ ((hb2.block _ (blk_lt HO.out)).trans HO.out)
  have HB2 := hidOfJ (HB.out.trans (hb2.mono HB.out.size))
  have HS2 := hidOfJ (Nat.le_trans HS.out hb2.size)
  have HG2 := hidOfJ (And.intro (Nat.le_trans HS.out hg) (Nat.le_trans HS.out hh))
  have P1b : Hid (TsBlk w2 g j.ts ∧ InsCopy w2 h j.xs.length j.xs j.xs.length) := ⟨P1.out.1.keep hb2, P1.out.2.keep hb2⟩
  obtain ⟨⟨⟨o0, o1, o2, o3, o4⟩, ⟨o5, o6, o7⟩, o8, o9⟩, of⟩ := tenJ HO2.out
  obtain ⟨⟨⟨a0, a1, a2, a3, a4⟩, ⟨a5, a6, a7⟩, a8, a9⟩, -⟩ := tenJ HA2.out
  obtain ⟨⟨⟨z0, z1, z2, z3, z4⟩, ⟨z5, z6, z7⟩, z8, z9⟩, zf⟩ := tenJ HZ2.out
  have OT : Oth (w.heap.size + 1 + 1) w2 (((w2.setCell ⟨w.heap.size + 1 + 1, 5, none⟩ (.slice (some ⟨g2, 0, none⟩) j.vs.length j.vs.length)).setCell ⟨w.heap.size + 1 + 1, 6, none⟩ (.slice (some ⟨h2, 0, none⟩) j.cs.length j.cs.length)).setCell ⟨w.heap.size + 1 + 1, 7, none⟩ (.string j.o)) := ((((Oth.refl _ _).set 5 (.slice (some ⟨g2, 0, none⟩) j.vs.length j.vs.length)).set 6 (.slice (some ⟨h2, 0, none⟩) j.cs.length j.cs.length)).set 7 (.string j.o))
  have HOx := hidOfJ (show ((((w2.setCell ⟨w.heap.size + 1 + 1, 5, none⟩ (.slice (some ⟨g2, 0, none⟩) j.vs.length j.vs.length)).setCell ⟨w.heap.size + 1 + 1, 6, none⟩ (.slice (some ⟨h2, 0, none⟩) j.cs.length j.cs.length)).setCell ⟨w.heap.size + 1 + 1, 7, none⟩ (.string j.o))).heap[w.heap.size + 1 + 1]? = some (.cells #[.slice (some ⟨g, 0, none⟩) j.ts.length j.ts.length, .slice (some ⟨h, 0, none⟩) j.xs.length j.xs.length, .int .i64 j.bg, .int .i64 j.ln, .int .i64 j.en, .slice (some ⟨g2, 0, none⟩) j.vs.length j.vs.length, .slice (some ⟨h2, 0, none⟩) j.cs.length j.cs.length, .string j.o, .slice none 0 0, .slice none 0 0] 42 (0, 0)) from (blk_set (blk_set (blk_set HO2.out 5 (.slice (some ⟨g2, 0, none⟩) j.vs.length j.vs.length)) 6 (.slice (some ⟨h2, 0, none⟩) j.cs.length j.cs.length)) 7 (.string j.o)))
  have HAx := hidOfJ ((OT _ (by omega)).trans HA2.out)
  have HZx := hidOfJ ((OT _ (by omega)).trans HZ2.out)
  have HBx := hidOfJ (show Below w.heap.size w (((w2.setCell ⟨w.heap.size + 1 + 1, 5, none⟩ (.slice (some ⟨g2, 0, none⟩) j.vs.length j.vs.length)).setCell ⟨w.heap.size + 1 + 1, 6, none⟩ (.slice (some ⟨h2, 0, none⟩) j.cs.length j.cs.length)).setCell ⟨w.heap.size + 1 + 1, 7, none⟩ (.string j.o)) from (((HB2.out.setCell (by show _ ≤ w.heap.size + 1 + 1; omega) (.slice (some ⟨g2, 0, none⟩) j.vs.length j.vs.length)).setCell (by show _ ≤ w.heap.size + 1 + 1; omega) (.slice (some ⟨h2, 0, none⟩) j.cs.length j.cs.length)).setCell (by show _ ≤ w.heap.size + 1 + 1; omega) (.string j.o)))
  have HSx : Hid (w.heap.size + 1 + 1 + 1 ≤ ((((w2.setCell ⟨w.heap.size + 1 + 1, 5, none⟩ (.slice (some ⟨g2, 0, none⟩) j.vs.length j.vs.length)).setCell ⟨w.heap.size + 1 + 1, 6, none⟩ (.slice (some ⟨h2, 0, none⟩) j.cs.length j.cs.length)).setCell ⟨w.heap.size + 1 + 1, 7, none⟩ (.string j.o))).heap.size) := by
    show _ ≤ _
    have := HS2.out
    simpa [World.setCell] using this
  clear HA HZ HO HB HS
  have P1c : Hid (TsBlk (((w2.setCell ⟨w.heap.size + 1 + 1, 5, none⟩ (.slice (some ⟨g2, 0, none⟩) j.vs.length j.vs.length)).setCell ⟨w.heap.size + 1 + 1, 6, none⟩ (.slice (some ⟨h2, 0, none⟩) j.cs.length j.cs.length)).setCell ⟨w.heap.size + 1 + 1, 7, none⟩ (.string j.o)) g j.ts ∧ InsCopy (((w2.setCell ⟨w.heap.size + 1 + 1, 5, none⟩ (.slice (some ⟨g2, 0, none⟩) j.vs.length j.vs.length)).setCell ⟨w.heap.size + 1 + 1, 6, none⟩ (.slice (some ⟨h2, 0, none⟩) j.cs.length j.cs.length)).setCell ⟨w.heap.size + 1 + 1, 7, none⟩ (.string j.o)) h j.xs.length j.xs j.xs.length) := ⟨(OT _ (by have := HG1.out.1; omega)).trans P1b.out.1, P1b.out.2.same (OT _ (by have := HG1.out.2; omega))⟩
  have P2 : Hid (VrCopy (((w2.setCell ⟨w.heap.size + 1 + 1, 5, none⟩ (.slice (some ⟨g2, 0, none⟩) j.vs.length j.vs.length)).setCell ⟨w.heap.size + 1 + 1, 6, none⟩ (.slice (some ⟨h2, 0, none⟩) j.cs.length j.cs.length)).setCell ⟨w.heap.size + 1 + 1, 7, none⟩ (.string j.o)) g2 j.vs.length j.vs j.vs.length ∧ ClCopy (((w2.setCell ⟨w.heap.size + 1 + 1, 5, none⟩ (.slice (some ⟨g2, 0, none⟩) j.vs.length j.vs.length)).setCell ⟨w.heap.size + 1 + 1, 6, none⟩ (.slice (some ⟨h2, 0, none⟩) j.cs.length j.cs.length)).setCell ⟨w.heap.size + 1 + 1, 7, none⟩ (.string j.o)) h2 j.cs.length j.cs j.cs.length) := ⟨t1.same (OT _ (by have := HG2.out.1; omega)), t2.same (OT _ (by have := HG2.out.2; omega))⟩
  clear t1 t2 hg hh P1 P1b
  clear hb2 OT
  clear C2
  go_wp2_with fail
  generalize (((w2.setCell ⟨w.heap.size + 1 + 1, 5, none⟩ (.slice (some ⟨g2, 0, none⟩) j.vs.length j.vs.length)).setCell ⟨w.heap.size + 1 + 1, 6, none⟩ (.slice (some ⟨h2, 0, none⟩) j.cs.length j.cs.length)).setCell ⟨w.heap.size + 1 + 1, 7, none⟩ (.string j.o)) = x2 at *
  clear HA2 HZ2 HO2 HB2 HS2 o0 o1 o2 o3 o4 o5 o6 o7 o8 o9 of a0 a1 a2 a3 a4 a5 a6 a7 a8 a9 z0 z1 z2 z3 z4 z5 z6 z7 z8 z9 zf
  have HA := hidOfJ HAx.out
  have HZ := hidOfJ HZx.out
  have HO := hidOfJ HOx.out
  have HB := hidOfJ HBx.out
  have HS := hidOfJ HSx.out
  clear HAx HZx HOx HBx HSx
  have P1 := hidOfJ P1c.out
  clear P1c
  refine (C3.out _ HB.out).mono ?_
  rintro e w3 ⟨g3, rfl, hb3, t1, hg3⟩
  have HA3 := hidOfJ ((hb3.block _ (blk_lt HA.out)).trans HA.out)
  have HZ3 := hidOfJ ((hb3.block _ (blk_lt HZ.out)).trans HZ.out)
  have HO3 := hidOfJ ((hb3.block _ (blk_lt HO.out)).trans HO.out)
  have HB3 := hidOfJ (HB.out.trans (hb3.mono HB.out.size))
  have HS3 := hidOfJ (Nat.le_trans HS.out hb3.size)
  have HG3 : Hid (w.heap.size + 1 + 1 + 1 ≤ g3) := Nat.le_trans HS.out hg3
  have P1b : Hid (TsBlk w3 g j.ts ∧ InsCopy w3 h j.xs.length j.xs j.xs.length) := ⟨P1.out.1.keep hb3, P1.out.2.keep hb3⟩
  have P2b : Hid (VrCopy w3 g2 j.vs.length j.vs j.vs.length ∧ ClCopy w3 h2 j.cs.length j.cs j.cs.length) := ⟨P2.out.1.keep hb3, P2.out.2.keep hb3⟩
  obtain ⟨⟨⟨o0, o1, o2, o3, o4⟩, ⟨o5, o6, o7⟩, o8, o9⟩, of⟩ := tenJ HO3.out
  obtain ⟨⟨⟨a0, a1, a2, a3, a4⟩, ⟨a5, a6, a7⟩, a8, a9⟩, -⟩ := tenJ HA3.out
  obtain ⟨⟨⟨z0, z1, z2, z3, z4⟩, ⟨z5, z6, z7⟩, z8, z9⟩, zf⟩ := tenJ HZ3.out
  have OT : Oth (w.heap.size + 1 + 1) w3 (w3.setCell ⟨w.heap.size + 1 + 1, 8, none⟩ (.slice (some ⟨g3, 0, none⟩) j.ns.length j.ns.length)) := ((Oth.refl _ _).set 8 (.slice (some ⟨g3, 0, none⟩) j.ns.length j.ns.length))
  have HOx := hidOfJ (show ((w3.setCell ⟨w.heap.size + 1 + 1, 8, none⟩ (.slice (some ⟨g3, 0, none⟩) j.ns.length j.ns.length))).heap[w.heap.size + 1 + 1]? = some (.cells #[.slice (some ⟨g, 0, none⟩) j.ts.length j.ts.length, .slice (some ⟨h, 0, none⟩) j.xs.length j.xs.length, .int .i64 j.bg, .int .i64 j.ln, .int .i64 j.en, .slice (some ⟨g2, 0, none⟩) j.vs.length j.vs.length, .slice (some ⟨h2, 0, none⟩) j.cs.length j.cs.length, .string j.o, .slice (some ⟨g3, 0, none⟩) j.ns.length j.ns.length, .slice none 0 0] 42 (0, 0)) from (blk_set HO3.out 8 (.slice (some ⟨g3, 0, none⟩) j.ns.length j.ns.length)))
  have HAx := hidOfJ ((OT _ (by omega)).trans HA3.out)
  have HZx := hidOfJ ((OT _ (by omega)).trans HZ3.out)
  have HBx := hidOfJ (show Below w.heap.size w (w3.setCell ⟨w.heap.size + 1 + 1, 8, none⟩ (.slice (some ⟨g3, 0, none⟩) j.ns.length j.ns.length)) from (HB3.out.setCell (by show _ ≤ w.heap.size + 1 + 1; omega) (.slice (some ⟨g3, 0, none⟩) j.ns.length j.ns.length)))
  have HSx : Hid (w.heap.size + 1 + 1 + 1 ≤ ((w3.setCell ⟨w.heap.size + 1 + 1, 8, none⟩ (.slice (some ⟨g3, 0, none⟩) j.ns.length j.ns.length))).heap.size) := by
    show _ ≤ _
    have := HS3.out
    simpa [World.setCell] using this
  clear HA HZ HO HB HS
  have P1c : Hid (TsBlk (w3.setCell ⟨w.heap.size + 1 + 1, 8, none⟩ (.slice (some ⟨g3, 0, none⟩) j.ns.length j.ns.length)) g j.ts ∧ InsCopy (w3.setCell ⟨w.heap.size + 1 + 1, 8, none⟩ (.slice (some ⟨g3, 0, none⟩) j.ns.length j.ns.length)) h j.xs.length j.xs j.xs.length) := ⟨(OT _ (by have := HG1.out.1; omega)).trans P1b.out.1, P1b.out.2.same (OT _ (by have := HG1.out.2; omega))⟩
  have P2c : Hid (VrCopy (w3.setCell ⟨w.heap.size + 1 + 1, 8, none⟩ (.slice (some ⟨g3, 0, none⟩) j.ns.length j.ns.length)) g2 j.vs.length j.vs j.vs.length ∧ ClCopy (w3.setCell ⟨w.heap.size + 1 + 1, 8, none⟩ (.slice (some ⟨g3, 0, none⟩) j.ns.length j.ns.length)) h2 j.cs.length j.cs j.cs.length) := ⟨P2b.out.1.same (OT _ (by have := HG2.out.1; omega)), P2b.out.2.same (OT _ (by have := HG2.out.2; omega))⟩
  have P3 : Hid (TsBlk (w3.setCell ⟨w.heap.size + 1 + 1, 8, none⟩ (.slice (some ⟨g3, 0, none⟩) j.ns.length j.ns.length)) g3 j.ns) := (OT _ (by have := HG3.out; omega)).trans t1
  clear t1 hg3 P1 P1b P2 P2b
  clear hb3 OT
  clear C3
  go_wp2_with fail
  generalize (w3.setCell ⟨w.heap.size + 1 + 1, 8, none⟩ (.slice (some ⟨g3, 0, none⟩) j.ns.length j.ns.length)) = x3 at *
  clear HA3 HZ3 HO3 HB3 HS3 o0 o1 o2 o3 o4 o5 o6 o7 o8 o9 of a0 a1 a2 a3 a4 a5 a6 a7 a8 a9 z0 z1 z2 z3 z4 z5 z6 z7 z8 z9 zf
  have HA := hidOfJ HAx.out
  have HZ := hidOfJ HZx.out
  have HO := hidOfJ HOx.out
  have HB := hidOfJ HBx.out
  have HS := hidOfJ HSx.out
  clear HAx HZx HOx HBx HSx
  have P1 := hidOfJ P1c.out
  have P2 := hidOfJ P2c.out
  clear P1c P2c
  refine (C4.out _ HB.out).mono ?_
  rintro e w4 ⟨g4, rfl, hb4, t1, hg4⟩
  have HA4 := hidOfJ ((hb4.block _ (blk_lt HA.out)).trans HA.out)
  have HZ4 := hidOfJ ((hb4.block _ (blk_lt HZ.out)).trans HZ.out)
  have HO4 := hidOfJ ((hb4.block _ (blk_lt HO.out)).trans HO.out)
  have HB4 := hidOfJ (HB.out.trans (hb4.mono HB.out.size))
  have HS4 := hidOfJ (Nat.le_trans HS.out hb4.size)
  have HG4 : Hid (w.heap.size + 1 + 1 + 1 ≤ g4) := Nat.le_trans HS.out hg4
  have P1b : Hid (TsBlk w4 g j.ts ∧ InsCopy w4 h j.xs.length j.xs j.xs.length) := ⟨P1.out.1.keep hb4, P1.out.2.keep hb4⟩
  have P2b : Hid (VrCopy w4 g2 j.vs.length j.vs j.vs.length ∧ ClCopy w4 h2 j.cs.length j.cs j.cs.length) := ⟨P2.out.1.keep hb4, P2.out.2.keep hb4⟩
  have P3b : Hid (TsBlk w4 g3 j.ns) := P3.out.keep hb4
  obtain ⟨⟨⟨o0, o1, o2, o3, o4⟩, ⟨o5, o6, o7⟩, o8, o9⟩, of⟩ := tenJ HO4.out
  obtain ⟨⟨⟨a0, a1, a2, a3, a4⟩, ⟨a5, a6, a7⟩, a8, a9⟩, -⟩ := tenJ HA4.out
  obtain ⟨⟨⟨z0, z1, z2, z3, z4⟩, ⟨z5, z6, z7⟩, z8, z9⟩, zf⟩ := tenJ HZ4.out
  have OT : Oth (w.heap.size + 1 + 1) w4 (w4.setCell ⟨w.heap.size + 1 + 1, 9, none⟩ (.slice (some ⟨g4, 0, none⟩) j.ls.length j.ls.length)) := ((Oth.refl _ _).set 9 (.slice (some ⟨g4, 0, none⟩) j.ls.length j.ls.length))
  have HOx := hidOfJ (show ((w4.setCell ⟨w.heap.size + 1 + 1, 9, none⟩ (.slice (some ⟨g4, 0, none⟩) j.ls.length j.ls.length))).heap[w.heap.size + 1 + 1]? = some (.cells #[.slice (some ⟨g, 0, none⟩) j.ts.length j.ts.length, .slice (some ⟨h, 0, none⟩) j.xs.length j.xs.length, .int .i64 j.bg, .int .i64 j.ln, .int .i64 j.en, .slice (some ⟨g2, 0, none⟩) j.vs.length j.vs.length, .slice (some ⟨h2, 0, none⟩) j.cs.length j.cs.length, .string j.o, .slice (some ⟨g3, 0, none⟩) j.ns.length j.ns.length, .slice (some ⟨g4, 0, none⟩) j.ls.length j.ls.length] 42 (0, 0)) from (blk_set HO4.out 9 (.slice (some ⟨g4, 0, none⟩) j.ls.length j.ls.length)))
  have HAx := hidOfJ ((OT _ (by omega)).trans HA4.out)
  have HZx := hidOfJ ((OT _ (by omega)).trans HZ4.out)
  have HBx := hidOfJ (show Below w.heap.size w (w4.setCell ⟨w.heap.size + 1 + 1, 9, none⟩ (.slice (some ⟨g4, 0, none⟩) j.ls.length j.ls.length)) from (HB4.out.setCell (by show _ ≤ w.heap.size + 1 + 1; omega) (.slice (some ⟨g4, 0, none⟩) j.ls.length j.ls.length)))
  have HSx : Hid (w.heap.size + 1 + 1 + 1 ≤ ((w4.setCell ⟨w.heap.size + 1 + 1, 9, none⟩ (.slice (some ⟨g4, 0, none⟩) j.ls.length j.ls.length))).heap.size) := by
    show _ ≤ _
    have := HS4.out
    simpa [World.setCell] using this
  clear HA HZ HO HB HS hb4 C4 OT HAx HSx
  have OA : Oth (w.heap.size + 1 + 1) w4 (w4.setCell ⟨w.heap.size + 1 + 1, 9, none⟩ (.slice (some ⟨g4, 0, none⟩) j.ls.length j.ls.length)) := ((Oth.refl _ _).set 9 (.slice (some ⟨g4, 0, none⟩) j.ls.length j.ls.length))
  have OB : Oth (w.heap.size + 1) (w4.setCell ⟨w.heap.size + 1 + 1, 9, none⟩ (.slice (some ⟨g4, 0, none⟩) j.ls.length j.ls.length)) (((((((((((w4.setCell ⟨w.heap.size + 1 + 1, 9, none⟩ (.slice (some ⟨g4, 0, none⟩) j.ls.length j.ls.length)).setCell ⟨w.heap.size + 1, 0, none⟩ (.slice (some ⟨g, 0, none⟩) j.ts.length j.ts.length)).setCell ⟨w.heap.size + 1, 1, none⟩ (.slice (some ⟨h, 0, none⟩) j.xs.length j.xs.length)).setCell ⟨w.heap.size + 1, 2, none⟩ (.int .i64 j.bg)).setCell ⟨w.heap.size + 1, 3, none⟩ (.int .i64 j.ln)).setCell ⟨w.heap.size + 1, 4, none⟩ (.int .i64 j.en)).setCell ⟨w.heap.size + 1, 5, none⟩ (.slice (some ⟨g2, 0, none⟩) j.vs.length j.vs.length)).setCell ⟨w.heap.size + 1, 6, none⟩ (.slice (some ⟨h2, 0, none⟩) j.cs.length j.cs.length)).setCell ⟨w.heap.size + 1, 7, none⟩ (.string j.o)).setCell ⟨w.heap.size + 1, 8, none⟩ (.slice (some ⟨g3, 0, none⟩) j.ns.length j.ns.length)).setCell ⟨w.heap.size + 1, 9, none⟩ (.slice (some ⟨g4, 0, none⟩) j.ls.length j.ls.length)) := othA10 _ _ _ _ _ _ _ _ _ _
  have OK2 := hidOfJ (fun (k : Nat) (hk : w.heap.size + 1 + 1 + 1 ≤ k) => (OB k (by omega)).trans (OA k (by omega)))
  have HF := hidOfJ (show Jb.At (((((((((((w4.setCell ⟨w.heap.size + 1 + 1, 9, none⟩ (.slice (some ⟨g4, 0, none⟩) j.ls.length j.ls.length)).setCell ⟨w.heap.size + 1, 0, none⟩ (.slice (some ⟨g, 0, none⟩) j.ts.length j.ts.length)).setCell ⟨w.heap.size + 1, 1, none⟩ (.slice (some ⟨h, 0, none⟩) j.xs.length j.xs.length)).setCell ⟨w.heap.size + 1, 2, none⟩ (.int .i64 j.bg)).setCell ⟨w.heap.size + 1, 3, none⟩ (.int .i64 j.ln)).setCell ⟨w.heap.size + 1, 4, none⟩ (.int .i64 j.en)).setCell ⟨w.heap.size + 1, 5, none⟩ (.slice (some ⟨g2, 0, none⟩) j.vs.length j.vs.length)).setCell ⟨w.heap.size + 1, 6, none⟩ (.slice (some ⟨h2, 0, none⟩) j.cs.length j.cs.length)).setCell ⟨w.heap.size + 1, 7, none⟩ (.string j.o)).setCell ⟨w.heap.size + 1, 8, none⟩ (.slice (some ⟨g3, 0, none⟩) j.ns.length j.ns.length)).setCell ⟨w.heap.size + 1, 9, none⟩ (.slice (some ⟨g4, 0, none⟩) j.ls.length j.ls.length)) (.slice (some ⟨g, 0, none⟩) j.ts.length j.ts.length) (.slice (some ⟨h, 0, none⟩) j.xs.length j.xs.length) (.slice (some ⟨g2, 0, none⟩) j.vs.length j.vs.length) (.slice (some ⟨h2, 0, none⟩) j.cs.length j.cs.length) (.slice (some ⟨g3, 0, none⟩) j.ns.length j.ns.length) (.slice (some ⟨g4, 0, none⟩) j.ls.length j.ls.length) j from ⟨TsBlk.at ((OK2.out _ HG1.out.1).trans P1b.out.1) _, (P1b.out.2.same (OK2.out _ HG1.out.2)).at _, (P2b.out.1.same (OK2.out _ HG2.out.1)).at _, (P2b.out.2.same (OK2.out _ HG2.out.2)).at _, TsBlk.at ((OK2.out _ HG3.out).trans P3b.out) _, TsBlk.at ((OK2.out _ HG4.out).trans t1) _⟩)
  have HBf := hidOfJ (show Below w.heap.size w (((((((((((w4.setCell ⟨w.heap.size + 1 + 1, 9, none⟩ (.slice (some ⟨g4, 0, none⟩) j.ls.length j.ls.length)).setCell ⟨w.heap.size + 1, 0, none⟩ (.slice (some ⟨g, 0, none⟩) j.ts.length j.ts.length)).setCell ⟨w.heap.size + 1, 1, none⟩ (.slice (some ⟨h, 0, none⟩) j.xs.length j.xs.length)).setCell ⟨w.heap.size + 1, 2, none⟩ (.int .i64 j.bg)).setCell ⟨w.heap.size + 1, 3, none⟩ (.int .i64 j.ln)).setCell ⟨w.heap.size + 1, 4, none⟩ (.int .i64 j.en)).setCell ⟨w.heap.size + 1, 5, none⟩ (.slice (some ⟨g2, 0, none⟩) j.vs.length j.vs.length)).setCell ⟨w.heap.size + 1, 6, none⟩ (.slice (some ⟨h2, 0, none⟩) j.cs.length j.cs.length)).setCell ⟨w.heap.size + 1, 7, none⟩ (.string j.o)).setCell ⟨w.heap.size + 1, 8, none⟩ (.slice (some ⟨g3, 0, none⟩) j.ns.length j.ns.length)).setCell ⟨w.heap.size + 1, 9, none⟩ (.slice (some ⟨g4, 0, none⟩) j.ls.length j.ls.length)) from belowA10 HBx.out (Nat.le_succ _) _ _ _ _ _ _ _ _ _ _)
  have HRf := hidOfJ (show ((((((((((((w4.setCell ⟨w.heap.size + 1 + 1, 9, none⟩ (.slice (some ⟨g4, 0, none⟩) j.ls.length j.ls.length)).setCell ⟨w.heap.size + 1, 0, none⟩ (.slice (some ⟨g, 0, none⟩) j.ts.length j.ts.length)).setCell ⟨w.heap.size + 1, 1, none⟩ (.slice (some ⟨h, 0, none⟩) j.xs.length j.xs.length)).setCell ⟨w.heap.size + 1, 2, none⟩ (.int .i64 j.bg)).setCell ⟨w.heap.size + 1, 3, none⟩ (.int .i64 j.ln)).setCell ⟨w.heap.size + 1, 4, none⟩ (.int .i64 j.en)).setCell ⟨w.heap.size + 1, 5, none⟩ (.slice (some ⟨g2, 0, none⟩) j.vs.length j.vs.length)).setCell ⟨w.heap.size + 1, 6, none⟩ (.slice (some ⟨h2, 0, none⟩) j.cs.length j.cs.length)).setCell ⟨w.heap.size + 1, 7, none⟩ (.string j.o)).setCell ⟨w.heap.size + 1, 8, none⟩ (.slice (some ⟨g3, 0, none⟩) j.ns.length j.ns.length)).setCell ⟨w.heap.size + 1, 9, none⟩ (.slice (some ⟨g4, 0, none⟩) j.ls.length j.ls.length))).heap[w.heap.size + 1]? = some (.cells #[.slice (some ⟨g, 0, none⟩) j.ts.length j.ts.length, .slice (some ⟨h, 0, none⟩) j.xs.length j.xs.length, .int .i64 j.bg, .int .i64 j.ln, .int .i64 j.en, .slice (some ⟨g2, 0, none⟩) j.vs.length j.vs.length, .slice (some ⟨h2, 0, none⟩) j.cs.length j.cs.length, .string j.o, .slice (some ⟨g3, 0, none⟩) j.ns.length j.ns.length, .slice (some ⟨g4, 0, none⟩) j.ls.length j.ls.length] 42 (0, 0)) from setA10 HZx.out _ _ _ _ _ _ _ _ _ _)
  clear t1 hg4 P1 P2 P3 P1b P2b P3b OA OB OK2 HBx HZx HOx HG1 HG2 HG3 HG4 HA4 HZ4 HO4 HB4 HS4
  go_wp2_with fail
  refine bodyPost_ret (results_cell_row (p := 2) (ty := 42) rfl _ _ (w.heap.size + 1) 42 _ (0, 0) _ rfl HRf.out Tryz.underlying42 rfl (by kernel_rfl)) rfl ?_
  exact ⟨g, h, g2, h2, g3, g4, rfl, HBf.out, HF.out⟩
end PartJbT
section PartPV
namespace Pv

/-- Is it a figure? -/
def fg (b : UInt8) : Bool := decide (48 ≤ b.toNat ∧ b.toNat ≤ 57)
/-- Is it a number: one to six figures, and nothing else? -/
def isn (l : List UInt8) : Bool := l.all fg && decide (1 ≤ l.length ∧ l.length ≤ 6)
/-- The number that n grows to by the figures ahead. -/
def num : Nat → List UInt8 → Nat
  | n, [] => n
  | n, b :: r => if fg b then num ((n * 10 + (b.toNat - 48)) % 1000000) r else n
theorem drop_at (s : ByteArray) (k : Nat) (h : k < s.size) : s.data.toList.drop k = s[k] :: s.data.toList.drop (k + 1) := by
  rw [List.drop_eq_getElem_cons (by simpa using h)]; rfl
/-- What is cut of a text. -/
def cut (l : List UInt8) : List UInt8 := l.take 40
/-- Does it part fields? -/
def gap (b : UInt8) : Bool := decide (b.toNat = 32 ∨ b.toNat = 9)
/-- The parts of what is left, cur being read already. -/
def fld : List UInt8 → List UInt8 → List (List UInt8)
  | cur, [] => if cur = [] then [] else [cut cur]
  | cur, b :: r => if gap b then (if cur = [] then fld [] r else cut cur :: fld [] r) else fld (cur ++ [b]) r
/-- The fields of a line. -/
def flds (l : List UInt8) : List (List UInt8) := (fld [] l).take 20
theorem fld_gap (cur : List UInt8) (h : cur ≠ []) (b : UInt8) (hb : gap b = true) (r : List UInt8) : fld cur (b :: r) = cut cur :: fld [] r := by rw [fld, if_pos hb, if_neg h]
theorem fld_gap0 (b : UInt8) (hb : gap b = true) (r : List UInt8) : fld [] (b :: r) = fld [] r := by rw [fld, if_pos hb, if_pos rfl]
theorem cur_ne (s : ByteArray) (p k : Nat) (hp : p < k) (h : k ≤ s.size) : (s.data.toList.drop p).take (k - p) ≠ [] := by
  intro e
  have := congrArg List.length e
  simp at this
  omega
theorem cur_nil (s : ByteArray) (k : Nat) : (s.data.toList.drop k).take (k - k) = [] := by simp

/-- What is held at a round's head: ws are the fields that are done (no more than twenty), the next one begins at p, k signs are read. -/
structure At (s : ByteArray) (k p : Nat) (ws : List (List UInt8)) : Prop where
  inside : k ≤ s.size → p ≤ k ∧ (ws ++ fld ((s.data.toList.drop p).take (k - p)) (s.data.toList.drop k)).take 20 = flds s.data.toList
  over : s.size < k → ws = flds s.data.toList
  few : ws.length ≤ 20
theorem At.start (s : ByteArray) : At s 0 0 [] := ⟨fun _ => ⟨Nat.le_refl _, rfl⟩, fun h => by omega, by simp⟩
theorem At.gap {s : ByteArray} {k p : Nat} {ws : List (List UInt8)} (h : At s k p ws) (hk : k < s.size) (hb : s[k].toNat = 32 ∨ s[k].toNat = 9) :
    (p < k → ws.length < 20 → At s (k + 1) (k + 1) (ws ++ [cut ((s.data.toList.drop p).take (k - p))])) ∧ (p < k → 20 ≤ ws.length → At s (k + 1) (k + 1) ws) ∧ (¬ p < k → At s (k + 1) (k + 1) ws) := by
  obtain ⟨i1, i2⟩ := h.inside (by omega)
  have hg : Pv.gap s[k] = true := decide_eq_true hb
  refine ⟨fun hp hw => ?_, fun hp hw => ?_, fun hp => ?_⟩
  · refine ⟨fun _ => ⟨Nat.le_refl _, ?_⟩, fun ho => by omega, by simp; omega⟩
    rw [← i2, drop_at s k hk, fld_gap _ (cur_ne s p k hp (by omega)) _ hg, cur_nil]
    simp
  · have hw2 : ws.length = 20 := by have := h.few; omega
    refine ⟨fun _ => ⟨Nat.le_refl _, ?_⟩, fun ho => by omega, h.few⟩
    rw [← i2, List.take_append_of_le_length (by omega), List.take_append_of_le_length (by omega)]
  · obtain rfl : p = k := by omega
    refine ⟨fun _ => ⟨Nat.le_refl _, ?_⟩, fun ho => by omega, h.few⟩
    rw [← i2, cur_nil, cur_nil, drop_at s p hk, fld_gap0 _ hg]
end Pv
end PartPV
end Go.Proofs.YtlpdjmjbppmibaaGreat
