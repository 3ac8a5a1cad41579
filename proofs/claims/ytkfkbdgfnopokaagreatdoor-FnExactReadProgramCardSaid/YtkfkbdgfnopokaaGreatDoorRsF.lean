/- The program's reader of a program: a rule. -/
import Derived.Test.YtkfkbdgfnopokaaGreatDoorZar
namespace Go.Proofs.YtkfkbdgfnopokaaGreatDoor
open Go.RowKit
structure Ru where
 when : Nat
 test : Option Tr
 doo : Tr
def tvo : Option Tr → Value
 | none => .nilIface
 | some t => tv t.k
def Ru.cells (u : Ru) : List Value := [.int .i64 (u.when : Int), tvo u.test, tv u.doo.k]
def Ru.trees (u : Ru) : List Tr := u.test.toList ++ [u.doo]
abbrev Ru.P := Nat × Option (Nat → List Pi) × (Nat → List Pi)
def Ru.plain (u : Ru) : Ru.P := (u.when, u.test.map (·.G), u.doo.G)
namespace Ip
def rule (E B : Rd) (ts : List Tk.Tok) : Option (Ru.P × List Tk.Tok) :=
 match want 1 [66, 69, 71, 73, 78] ts with
 | some r => (B r).map fun q => ((1, none, q.1), q.2)
 | none => match want 1 [69, 78, 68] ts with
  | some r => (B r).map fun q => ((3, none, q.1), q.2)
  | none => if Rx.is ts 5 [123] = true then (B ts).map fun q => ((2, none, q.1), q.2)
   else (E ts).bind fun k => (B k.2).map fun q => ((2, some k.1, q.1), q.2)
end Ip
def GotU (X g : Nat) (w : World) (d : Int) (o : Option (Ru.P × List Tk.Tok)) (e : Ending) (w' : World) : Prop :=
 match o with
 | none => e = noProg ∧ Og g w w'
 | some (p, r) => ∃ u : Ru, e = .returned (.agg u.cells.toArray) ∧ u.plain = p ∧ Hq X g d w w' r u.trees
theorem Hq.bo {X g : Nat} {d : Int} {w0 W : World} {r : List Tk.Tok} {L L2 : List Tr} {b : Nat} {o : Obj} (h : Hq X g d w0 W r L) (hb : Bo w0 W g b L2 o) (hs : ∀ t ∈ L, t ∈ L2) (j : Nat) (u : Value) : Hq X g d w0 (W.setCell ⟨b, j, none⟩ u) r L :=
 h.other (Og.set b j u W) hb.2.1 (fun t ht => hb.2.2.2 t (hs t ht))
theorem Bo.far {w0 W : World} {g b c : Nat} {L : List Tr} {o : Obj} (h : Bo w0 W g b L o) (hne : b ≠ c) (j : Nat) (u : Value) : Bo w0 (W.setCell ⟨c, j, none⟩ u) g b L o :=
 ⟨(Below.heap_setCell _ _ _ _ (by show b ≠ c; exact hne)).trans h.1, h.2⟩
theorem Bo.alloc {w0 W : World} {g b : Nat} {L : List Tr} {o : Obj} (h : Bo w0 W g b L o) (ob : Obj) : Bo w0 (W.alloc ob) g b L o := h.step (Og.of ((Below.refl _ _).alloc (Nat.le_refl _) _))
theorem Bo.lt {w0 W : World} {g b : Nat} {L : List Tr} {o : Obj} (h : Bo w0 W g b L o) : b < W.heap.size := (Array.getElem?_eq_some_iff.1 h.1).1
set_option maxHeartbeats 2000000 in
set_option maxRecDepth 100000 in
theorem rule_0 (X g : Nat) (d : Int) (ts : List Tk.Tok) (w : World) (hlen : ts.length ≤ 200) (h : Rq X g w ts d) (r : List Tk.Tok) (hy : Ip.want 1 [66, 69, 71, 73, 78] ts = some r) (B : Ip.Rd) (hB : RdsB X g 120 [] d B) :
  Calls Tryz.prog 95 #[.pointer (some ⟨g, 0, none⟩)] w (GotU X g w d ((B r).map fun q => ((1, none, q.1), q.2))) := by
 have H0 := hidOf2 (Hq.start h)
 have HB := hidOf2 hB
 have H1 := hidOf2 (H0.out.alloc (.cells #[.int .i64 0, .nilIface, .nilIface] 104))
 have A1 := hidOf2 (Bo.new H0.out (.cells #[.int .i64 0, .nilIface, .nilIface] 104))
 have H2 := hidOf2 (H1.out.alloc (.cells #[.int .i64 2, .nilIface, .nilIface] 104))
 have B2 := hidOf2 (Bo.new H1.out (.cells #[.int .i64 2, .nilIface, .nilIface] 104))
 have A2 := hidOf2 (A1.out.alloc (.cells #[.int .i64 2, .nilIface, .nilIface] 104))
 have hab : (w.alloc (.cells #[.int .i64 0, .nilIface, .nilIface] 104)).heap.size = w.heap.size + 1 := by simp
 have hly := want_len1 hy
 obtain ⟨t, rfl, hi⟩ := want_some hy
 have CY := hidOf2 (rrTakes_yes X g d t r 1 [66, 69, 71, 73, 78] _ H2.out.q.rt hi)
 clear hy hi
 clear h hB H0 H1 A1
 obtain ⟨V, hV⟩ : ∃ V, V = ((B r).map fun q => ((1, none, q.1), q.2)) := ⟨_, rfl⟩
 rw [← hV]
 have HVV := hidOf2 hV
 clear hV
 go_enter Tryz.func95, Tryz.ntmps95
 go_wp2_with fail
 generalize (w.alloc (.cells #[.int .i64 0, .nilIface, .nilIface] 104)).alloc (.cells #[.int .i64 2, .nilIface, .nilIface] 104) = W2 at *
 rw [hab] at B2
 have hne : w.heap.size ≠ w.heap.size + 1 := by omega
 obtain ⟨m0, m1, m2⟩ := tcells3 B2.out.1
 have f0 := blk_free B2.out.1 0
 have f1 := blk_free B2.out.1 1
 have f2 := blk_free B2.out.1 2
 refine CY.out.mono ?_
 rintro e w3 ⟨rfl, h3, ho3⟩
 have H3 := hidOf2 (H2.out.step h3 ho3)
 have B3 := hidOf2 (B2.out.step ho3)
 have A3 := hidOf2 (A2.out.step ho3)
 clear h3 ho3 CY H2 B2 A2 m0 m1 m2 f0 f1 f2
 have H4 := hidOf2 (H3.out.poke B3.out 0 (.int .i64 1))
 have A4 := hidOf2 (A3.out.far hne 0 (.int .i64 1))
 have B4 : Hid (Bo w (w3.setCell ⟨w.heap.size + 1, 0, none⟩ (.int .i64 1)) g (w.heap.size + 1) [] (.cells #[.int .i64 1, .nilIface, .nilIface] 104 (0, 0))) := B3.out.set 0 (.int .i64 1)
 obtain ⟨m0, m1, m2⟩ := tcells3 B3.out.1
 have f0 := blk_free B3.out.1 0
 have f1 := blk_free B3.out.1 1
 have f2 := blk_free B3.out.1 2
 clear H3 A3 B3
 go_wp2_with fail
 generalize w3.setCell ⟨w.heap.size + 1, 0, none⟩ (.int .i64 1) = W4 at *
 have CT := hidOf2 (HB.out r W4 (by omega) H4.out.q)
 clear HB
 cases hu : B r with
 | none =>
  rw [hu] at CT
  have HV : Hid (V = none) := hidOf2 (HVV.out.trans (by rw [hu]; rfl))
  clear hu HVV m0 m1 m2 f0 f1 f2
  refine CT.out.mono ?_
  rintro e w8 ⟨rfl, hbd⟩
  have HO := hidOf2 hbd
  clear hbd
  unfold noProg
  go_wp2
  rw [HV.out]
  exact ⟨rfl, rfl, H4.out.bad HO.out⟩
 | some q =>
  obtain ⟨G9, r9⟩ := q
  rw [hu] at CT
  have HV : Hid (V = some ((1, none, G9), r9)) := hidOf2 (HVV.out.trans (by rw [hu]; rfl))
  clear hu HVV m0 m1 m2 f0 f1 f2
  refine CT.out.mono ?_
  rintro e w9 ⟨T9, y9, R9, rfl, hq9, ho9, ha9, hR9⟩
  have H9 := hidOf2 (H4.out.got hq9 ho9 ha9 hR9)
  have B9 := hidOf2 (B4.out.more (t := ⟨(T9, y9), R9, G9⟩) ho9 hR9)
  have A9 := hidOf2 (A4.out.more (t := ⟨(T9, y9), R9, G9⟩) ho9 hR9)
  clear hq9 ho9 ha9 hR9 CT H4 B4 A4
  have HX := hidOf2 (H9.out.poke B9.out 2 (.iface T9 y9))
  have AX := hidOf2 (A9.out.far hne 2 (.iface T9 y9))
  obtain ⟨m0, m1, m2⟩ := tcells3 B9.out.1
  have f2 := blk_free B9.out.1 2
  obtain ⟨k0, k1, k2⟩ := tcells3 A9.out.1
  have e0 := blk_free A9.out.1 0
  have e1 := blk_free A9.out.1 1
  have e2 := blk_free A9.out.1 2
  clear H9 A9 B9
  go_wp2_with fail
  refine bodyPost_ret (results_cell_row (p := 2) (ty := 104) rfl _ _ w.heap.size 104 _ (0, 0) _ rfl (blk_set (blk_set (blk_set AX.out.1 0 _) 1 _) 2 _) Tryz.underlying104 rfl (by kernel_rfl)) rfl ?_
  rw [HV.out]
  refine ⟨⟨1, none, ⟨(T9, y9), R9, G9⟩⟩, rfl, rfl, ?_⟩
  have a1 := HX.out.bo AX.out (fun t ht => ht) 0 (.int .i64 1)
  have a2 := a1.bo (AX.out.set 0 (.int .i64 1)) (fun t ht => ht) 1 .nilIface
  have a3 := a2.bo ((AX.out.set 0 (.int .i64 1)).set 1 .nilIface) (fun t ht => ht) 2 (.iface T9 y9)
  exact a3.sub (fun t ht => by simpa [Ru.trees] using ht)
set_option maxHeartbeats 2000000 in
set_option maxRecDepth 100000 in
theorem rule_1 (X g : Nat) (d : Int) (ts : List Tk.Tok) (w : World) (hlen : ts.length ≤ 200) (h : Rq X g w ts d) (n0 : Ip.want 1 [66, 69, 71, 73, 78] ts = none) (r : List Tk.Tok) (hy : Ip.want 1 [69, 78, 68] ts = some r) (B : Ip.Rd) (hB : RdsB X g 120 [] d B) :
  Calls Tryz.prog 95 #[.pointer (some ⟨g, 0, none⟩)] w (GotU X g w d ((B r).map fun q => ((3, none, q.1), q.2))) := by
 have H0 := hidOf2 (Hq.start h)
 have HB := hidOf2 hB
 have H1 := hidOf2 (H0.out.alloc (.cells #[.int .i64 0, .nilIface, .nilIface] 104))
 have A1 := hidOf2 (Bo.new H0.out (.cells #[.int .i64 0, .nilIface, .nilIface] 104))
 have H2 := hidOf2 (H1.out.alloc (.cells #[.int .i64 2, .nilIface, .nilIface] 104))
 have B2 := hidOf2 (Bo.new H1.out (.cells #[.int .i64 2, .nilIface, .nilIface] 104))
 have A2 := hidOf2 (A1.out.alloc (.cells #[.int .i64 2, .nilIface, .nilIface] 104))
 have hab : (w.alloc (.cells #[.int .i64 0, .nilIface, .nilIface] 104)).heap.size = w.heap.size + 1 := by simp
 have C0 := hidOf2 (rrTakes_no X g d ts 1 [66, 69, 71, 73, 78] _ H2.out.q.rt (want_none n0))
 have hly := want_len1 hy
 obtain ⟨t, rfl, hi⟩ := want_some hy
 have CY := hidOf2 (rrTakes_yes X g d t r 1 [69, 78, 68] _ H2.out.q.rt hi)
 clear hy hi
 clear h hB H0 H1 A1 n0
 obtain ⟨V, hV⟩ : ∃ V, V = ((B r).map fun q => ((3, none, q.1), q.2)) := ⟨_, rfl⟩
 rw [← hV]
 have HVV := hidOf2 hV
 clear hV
 go_enter Tryz.func95, Tryz.ntmps95
 go_wp2_with fail
 generalize (w.alloc (.cells #[.int .i64 0, .nilIface, .nilIface] 104)).alloc (.cells #[.int .i64 2, .nilIface, .nilIface] 104) = W2 at *
 rw [hab] at B2
 have hne : w.heap.size ≠ w.heap.size + 1 := by omega
 obtain ⟨m0, m1, m2⟩ := tcells3 B2.out.1
 have f0 := blk_free B2.out.1 0
 have f1 := blk_free B2.out.1 1
 have f2 := blk_free B2.out.1 2
 refine C0.out.mono ?_
 rintro e v0 ⟨rfl, rfl⟩
 clear C0
 go_wp2_with fail
 refine CY.out.mono ?_
 rintro e w3 ⟨rfl, h3, ho3⟩
 have H3 := hidOf2 (H2.out.step h3 ho3)
 have B3 := hidOf2 (B2.out.step ho3)
 have A3 := hidOf2 (A2.out.step ho3)
 clear h3 ho3 CY H2 B2 A2 m0 m1 m2 f0 f1 f2
 have H4 := hidOf2 (H3.out.poke B3.out 0 (.int .i64 3))
 have A4 := hidOf2 (A3.out.far hne 0 (.int .i64 3))
 have B4 : Hid (Bo w (w3.setCell ⟨w.heap.size + 1, 0, none⟩ (.int .i64 3)) g (w.heap.size + 1) [] (.cells #[.int .i64 3, .nilIface, .nilIface] 104 (0, 0))) := B3.out.set 0 (.int .i64 3)
 obtain ⟨m0, m1, m2⟩ := tcells3 B3.out.1
 have f0 := blk_free B3.out.1 0
 have f1 := blk_free B3.out.1 1
 have f2 := blk_free B3.out.1 2
 clear H3 A3 B3
 go_wp2_with fail
 generalize w3.setCell ⟨w.heap.size + 1, 0, none⟩ (.int .i64 3) = W4 at *
 have CT := hidOf2 (HB.out r W4 (by omega) H4.out.q)
 clear HB
 cases hu : B r with
 | none =>
  rw [hu] at CT
  have HV : Hid (V = none) := hidOf2 (HVV.out.trans (by rw [hu]; rfl))
  clear hu HVV m0 m1 m2 f0 f1 f2
  refine CT.out.mono ?_
  rintro e w8 ⟨rfl, hbd⟩
  have HO := hidOf2 hbd
  clear hbd
  unfold noProg
  go_wp2
  rw [HV.out]
  exact ⟨rfl, rfl, H4.out.bad HO.out⟩
 | some q =>
  obtain ⟨G9, r9⟩ := q
  rw [hu] at CT
  have HV : Hid (V = some ((3, none, G9), r9)) := hidOf2 (HVV.out.trans (by rw [hu]; rfl))
  clear hu HVV m0 m1 m2 f0 f1 f2
  refine CT.out.mono ?_
  rintro e w9 ⟨T9, y9, R9, rfl, hq9, ho9, ha9, hR9⟩
  have H9 := hidOf2 (H4.out.got hq9 ho9 ha9 hR9)
  have B9 := hidOf2 (B4.out.more (t := ⟨(T9, y9), R9, G9⟩) ho9 hR9)
  have A9 := hidOf2 (A4.out.more (t := ⟨(T9, y9), R9, G9⟩) ho9 hR9)
  clear hq9 ho9 ha9 hR9 CT H4 B4 A4
  have HX := hidOf2 (H9.out.poke B9.out 2 (.iface T9 y9))
  have AX := hidOf2 (A9.out.far hne 2 (.iface T9 y9))
  obtain ⟨m0, m1, m2⟩ := tcells3 B9.out.1
  have f2 := blk_free B9.out.1 2
  obtain ⟨k0, k1, k2⟩ := tcells3 A9.out.1
  have e0 := blk_free A9.out.1 0
  have e1 := blk_free A9.out.1 1
  have e2 := blk_free A9.out.1 2
  clear H9 A9 B9
  go_wp2_with fail
  refine bodyPost_ret (results_cell_row (p := 2) (ty := 104) rfl _ _ w.heap.size 104 _ (0, 0) _ rfl (blk_set (blk_set (blk_set AX.out.1 0 _) 1 _) 2 _) Tryz.underlying104 rfl (by kernel_rfl)) rfl ?_
  rw [HV.out]
  refine ⟨⟨3, none, ⟨(T9, y9), R9, G9⟩⟩, rfl, rfl, ?_⟩
  have a1 := HX.out.bo AX.out (fun t ht => ht) 0 (.int .i64 3)
  have a2 := a1.bo (AX.out.set 0 (.int .i64 3)) (fun t ht => ht) 1 .nilIface
  have a3 := a2.bo ((AX.out.set 0 (.int .i64 3)).set 1 .nilIface) (fun t ht => ht) 2 (.iface T9 y9)
  exact a3.sub (fun t ht => by simpa [Ru.trees] using ht)
set_option maxHeartbeats 2000000 in
set_option maxRecDepth 100000 in
theorem rule_2 (X g : Nat) (d : Int) (ts : List Tk.Tok) (w : World) (hlen : ts.length ≤ 200) (h : Rq X g w ts d) (n0 : Ip.want 1 [66, 69, 71, 73, 78] ts = none) (n1 : Ip.want 1 [69, 78, 68] ts = none) (hb : Rx.is ts 5 [123] = true) (B : Ip.Rd) (hB : RdsB X g 120 [] d B) :
  Calls Tryz.prog 95 #[.pointer (some ⟨g, 0, none⟩)] w (GotU X g w d ((B ts).map fun q => ((2, none, q.1), q.2))) := by
 have H0 := hidOf2 (Hq.start h)
 have HB := hidOf2 hB
 have H1 := hidOf2 (H0.out.alloc (.cells #[.int .i64 0, .nilIface, .nilIface] 104))
 have A1 := hidOf2 (Bo.new H0.out (.cells #[.int .i64 0, .nilIface, .nilIface] 104))
 have H2 := hidOf2 (H1.out.alloc (.cells #[.int .i64 2, .nilIface, .nilIface] 104))
 have B2 := hidOf2 (Bo.new H1.out (.cells #[.int .i64 2, .nilIface, .nilIface] 104))
 have A2 := hidOf2 (A1.out.alloc (.cells #[.int .i64 2, .nilIface, .nilIface] 104))
 have hab : (w.alloc (.cells #[.int .i64 0, .nilIface, .nilIface] 104)).heap.size = w.heap.size + 1 := by simp
 have C0 := hidOf2 (rrTakes_no X g d ts 1 [66, 69, 71, 73, 78] _ H2.out.q.rt (want_none n0))
 have C1 := hidOf2 (rrTakes_no X g d ts 1 [69, 78, 68] _ H2.out.q.rt (want_none n1))
 have CI := hidOf2 (rrIsT X g d ts 5 [123] true _ H2.out.q.rt hb)
 clear hb
 clear h hB H0 H1 A1 n0 n1
 obtain ⟨V, hV⟩ : ∃ V, V = ((B ts).map fun q => ((2, none, q.1), q.2)) := ⟨_, rfl⟩
 rw [← hV]
 have HVV := hidOf2 hV
 clear hV
 go_enter Tryz.func95, Tryz.ntmps95
 go_wp2_with fail
 generalize (w.alloc (.cells #[.int .i64 0, .nilIface, .nilIface] 104)).alloc (.cells #[.int .i64 2, .nilIface, .nilIface] 104) = W2 at *
 rw [hab] at B2
 have hne : w.heap.size ≠ w.heap.size + 1 := by omega
 obtain ⟨m0, m1, m2⟩ := tcells3 B2.out.1
 have f0 := blk_free B2.out.1 0
 have f1 := blk_free B2.out.1 1
 have f2 := blk_free B2.out.1 2
 refine C0.out.mono ?_
 rintro e v0 ⟨rfl, rfl⟩
 clear C0
 go_wp2_with fail
 refine C1.out.mono ?_
 rintro e v1 ⟨rfl, rfl⟩
 clear C1
 go_wp2_with fail
 refine CI.out.mono ?_
 rintro e v2 ⟨rfl, rfl⟩
 clear CI
 have CT := hidOf2 (HB.out ts v2 (by omega) H2.out.q)
 clear HB
 cases hu : B ts with
 | none =>
  rw [hu] at CT
  have HV : Hid (V = none) := hidOf2 (HVV.out.trans (by rw [hu]; rfl))
  clear hu HVV m0 m1 m2 f0 f1 f2
  go_wp2_with fail
  refine CT.out.mono ?_
  rintro e w8 ⟨rfl, hbd⟩
  have HO := hidOf2 hbd
  clear hbd
  unfold noProg
  go_wp2
  rw [HV.out]
  exact ⟨rfl, rfl, H2.out.bad HO.out⟩
 | some q =>
  obtain ⟨G9, r9⟩ := q
  rw [hu] at CT
  have HV : Hid (V = some ((2, none, G9), r9)) := hidOf2 (HVV.out.trans (by rw [hu]; rfl))
  clear hu HVV m0 m1 m2 f0 f1 f2
  go_wp2_with fail
  refine CT.out.mono ?_
  rintro e w9 ⟨T9, y9, R9, rfl, hq9, ho9, ha9, hR9⟩
  have H9 := hidOf2 (H2.out.got hq9 ho9 ha9 hR9)
  have B9 := hidOf2 (B2.out.more (t := ⟨(T9, y9), R9, G9⟩) ho9 hR9)
  have A9 := hidOf2 (A2.out.more (t := ⟨(T9, y9), R9, G9⟩) ho9 hR9)
  clear hq9 ho9 ha9 hR9 CT H2 B2 A2
  have HX := hidOf2 (H9.out.poke B9.out 2 (.iface T9 y9))
  have AX := hidOf2 (A9.out.far hne 2 (.iface T9 y9))
  obtain ⟨m0, m1, m2⟩ := tcells3 B9.out.1
  have f2 := blk_free B9.out.1 2
  obtain ⟨k0, k1, k2⟩ := tcells3 A9.out.1
  have e0 := blk_free A9.out.1 0
  have e1 := blk_free A9.out.1 1
  have e2 := blk_free A9.out.1 2
  clear H9 A9 B9
  go_wp2_with fail
  refine bodyPost_ret (results_cell_row (p := 2) (ty := 104) rfl _ _ w.heap.size 104 _ (0, 0) _ rfl (blk_set (blk_set (blk_set AX.out.1 0 _) 1 _) 2 _) Tryz.underlying104 rfl (by kernel_rfl)) rfl ?_
  rw [HV.out]
  refine ⟨⟨2, none, ⟨(T9, y9), R9, G9⟩⟩, rfl, rfl, ?_⟩
  have a1 := HX.out.bo AX.out (fun t ht => ht) 0 (.int .i64 2)
  have a2 := a1.bo (AX.out.set 0 (.int .i64 2)) (fun t ht => ht) 1 .nilIface
  have a3 := a2.bo ((AX.out.set 0 (.int .i64 2)).set 1 .nilIface) (fun t ht => ht) 2 (.iface T9 y9)
  exact a3.sub (fun t ht => by simpa [Ru.trees] using ht)
set_option maxHeartbeats 2000000 in
set_option maxRecDepth 100000 in
theorem rule_3 (X g : Nat) (d : Int) (ts : List Tk.Tok) (w : World) (hlen : ts.length ≤ 200) (h : Rq X g w ts d) (n0 : Ip.want 1 [66, 69, 71, 73, 78] ts = none) (n1 : Ip.want 1 [69, 78, 68] ts = none) (hb : Rx.is ts 5 [123] = false) (B : Ip.Rd) (hB : RdsB X g 120 [] d B) (E : Ip.Rd) (hE : Rds X g 119 [] d E) (se : Ip.Shr E) :
  Calls Tryz.prog 95 #[.pointer (some ⟨g, 0, none⟩)] w (GotU X g w d ((E ts).bind fun k => (B k.2).map fun q => ((2, some k.1, q.1), q.2))) := by
 have H0 := hidOf2 (Hq.start h)
 have HB := hidOf2 hB
 have H1 := hidOf2 (H0.out.alloc (.cells #[.int .i64 0, .nilIface, .nilIface] 104))
 have A1 := hidOf2 (Bo.new H0.out (.cells #[.int .i64 0, .nilIface, .nilIface] 104))
 have H2 := hidOf2 (H1.out.alloc (.cells #[.int .i64 2, .nilIface, .nilIface] 104))
 have B2 := hidOf2 (Bo.new H1.out (.cells #[.int .i64 2, .nilIface, .nilIface] 104))
 have A2 := hidOf2 (A1.out.alloc (.cells #[.int .i64 2, .nilIface, .nilIface] 104))
 have hab : (w.alloc (.cells #[.int .i64 0, .nilIface, .nilIface] 104)).heap.size = w.heap.size + 1 := by simp
 have C0 := hidOf2 (rrTakes_no X g d ts 1 [66, 69, 71, 73, 78] _ H2.out.q.rt (want_none n0))
 have C1 := hidOf2 (rrTakes_no X g d ts 1 [69, 78, 68] _ H2.out.q.rt (want_none n1))
 have CI := hidOf2 (rrIsT X g d ts 5 [123] false _ H2.out.q.rt hb)
 clear hb
 clear h hB H0 H1 A1 n0 n1
 have HE := hidOf2 hE
 have SE := hidOf2 se
 clear hE se
 obtain ⟨V, hV⟩ : ∃ V, V = ((E ts).bind fun k => (B k.2).map fun q => ((2, some k.1, q.1), q.2)) := ⟨_, rfl⟩
 rw [← hV]
 have HVV := hidOf2 hV
 clear hV
 go_enter Tryz.func95, Tryz.ntmps95
 go_wp2_with fail
 generalize (w.alloc (.cells #[.int .i64 0, .nilIface, .nilIface] 104)).alloc (.cells #[.int .i64 2, .nilIface, .nilIface] 104) = W2 at *
 rw [hab] at B2
 have hne : w.heap.size ≠ w.heap.size + 1 := by omega
 obtain ⟨m0, m1, m2⟩ := tcells3 B2.out.1
 have f0 := blk_free B2.out.1 0
 have f1 := blk_free B2.out.1 1
 have f2 := blk_free B2.out.1 2
 refine C0.out.mono ?_
 rintro e v0 ⟨rfl, rfl⟩
 clear C0
 go_wp2_with fail
 refine C1.out.mono ?_
 rintro e v1 ⟨rfl, rfl⟩
 clear C1
 go_wp2_with fail
 refine CI.out.mono ?_
 rintro e v2 ⟨rfl, rfl⟩
 clear CI
 have C5 := hidOf2 (HE.out ts v2 H2.out.q)
 clear HE
 have hV3 := HVV.out
 clear HVV
 cases hs : E ts with
 | none =>
  rw [hs] at C5 hV3
  have HV : Hid (V = none) := hV3
  clear hs hV3 HB m0 m1 m2 f0 f1 f2
  go_wp2_with fail
  refine C5.out.mono ?_
  rintro e w5 ⟨rfl, hbd⟩
  have HO := hidOf2 hbd
  clear hbd
  unfold noProg
  go_wp2
  rw [HV.out]
  exact ⟨rfl, rfl, H2.out.bad HO.out⟩
 | some q =>
  obtain ⟨G5, r5⟩ := q
  have hl5 := SE.out ts G5 r5 hs
  rw [hs] at C5 hV3
  have HVV : Hid (V = (B r5).map fun q => ((2, some G5, q.1), q.2)) := hV3
  clear hs hV3 m0 m1 m2 f0 f1 f2
  go_wp2_with fail
  refine C5.out.mono ?_
  rintro e w5 ⟨T5, y5, R5, rfl, hq5, ho5, ha5, hR5⟩
  have H5 := hidOf2 (H2.out.got hq5 ho5 ha5 hR5)
  have B5 := hidOf2 (B2.out.more (t := ⟨(T5, y5), R5, G5⟩) ho5 hR5)
  have A5 := hidOf2 (A2.out.more (t := ⟨(T5, y5), R5, G5⟩) ho5 hR5)
  clear hq5 ho5 ha5 hR5 C5 H2 B2 A2
  have H6 := hidOf2 (H5.out.poke B5.out 1 (.iface T5 y5))
  have A6 := hidOf2 (A5.out.far hne 1 (.iface T5 y5))
  have B6 : Hid (Bo w (w5.setCell ⟨w.heap.size + 1, 1, none⟩ (.iface T5 y5)) g (w.heap.size + 1) [⟨(T5, y5), R5, G5⟩] (.cells #[.int .i64 2, .iface T5 y5, .nilIface] 104 (0, 0))) := B5.out.set 1 (.iface T5 y5)
  obtain ⟨m0, m1, m2⟩ := tcells3 B5.out.1
  have f0 := blk_free B5.out.1 0
  have f1 := blk_free B5.out.1 1
  have f2 := blk_free B5.out.1 2
  clear H5 A5 B5
  go_wp2_with fail
  generalize w5.setCell ⟨w.heap.size + 1, 1, none⟩ (.iface T5 y5) = W6 at *
  have CT := hidOf2 (HB.out r5 W6 (by omega) H6.out.q)
  clear HB
  cases hu : B r5 with
  | none =>
   rw [hu] at CT
   have HV : Hid (V = none) := hidOf2 (HVV.out.trans (by rw [hu]; rfl))
   clear hu HVV m0 m1 m2 f0 f1 f2
   refine CT.out.mono ?_
   rintro e w8 ⟨rfl, hbd⟩
   have HO := hidOf2 hbd
   clear hbd
   unfold noProg
   go_wp2
   rw [HV.out]
   exact ⟨rfl, rfl, H6.out.bad HO.out⟩
  | some q =>
   obtain ⟨G9, r9⟩ := q
   rw [hu] at CT
   have HV : Hid (V = some ((2, some G5, G9), r9)) := hidOf2 (HVV.out.trans (by rw [hu]; rfl))
   clear hu HVV m0 m1 m2 f0 f1 f2
   refine CT.out.mono ?_
   rintro e w9 ⟨T9, y9, R9, rfl, hq9, ho9, ha9, hR9⟩
   have H9 := hidOf2 (H6.out.got hq9 ho9 ha9 hR9)
   have B9 := hidOf2 (B6.out.more (t := ⟨(T9, y9), R9, G9⟩) ho9 hR9)
   have A9 := hidOf2 (A6.out.more (t := ⟨(T9, y9), R9, G9⟩) ho9 hR9)
   clear hq9 ho9 ha9 hR9 CT H6 B6 A6
   have HX := hidOf2 (H9.out.poke B9.out 2 (.iface T9 y9))
   have AX := hidOf2 (A9.out.far hne 2 (.iface T9 y9))
   obtain ⟨m0, m1, m2⟩ := tcells3 B9.out.1
   have f2 := blk_free B9.out.1 2
   obtain ⟨k0, k1, k2⟩ := tcells3 A9.out.1
   have e0 := blk_free A9.out.1 0
   have e1 := blk_free A9.out.1 1
   have e2 := blk_free A9.out.1 2
   clear H9 A9 B9
   go_wp2_with fail
   refine bodyPost_ret (results_cell_row (p := 2) (ty := 104) rfl _ _ w.heap.size 104 _ (0, 0) _ rfl (blk_set (blk_set (blk_set AX.out.1 0 _) 1 _) 2 _) Tryz.underlying104 rfl (by kernel_rfl)) rfl ?_
   rw [HV.out]
   refine ⟨⟨2, some ⟨(T5, y5), R5, G5⟩, ⟨(T9, y9), R9, G9⟩⟩, rfl, rfl, ?_⟩
   have a1 := HX.out.bo AX.out (fun t ht => ht) 0 (.int .i64 2)
   have a2 := a1.bo (AX.out.set 0 (.int .i64 2)) (fun t ht => ht) 1 (.iface T5 y5)
   have a3 := a2.bo ((AX.out.set 0 (.int .i64 2)).set 1 (.iface T5 y5)) (fun t ht => ht) 2 (.iface T9 y9)
   exact a3.sub (fun t ht => by simp [Ru.trees] at ht ⊢; exact ht.symm)
theorem rdsRule (X g : Nat) (d : Int) (E B : Ip.Rd) (hE : Rds X g 119 [] d E) (hB : RdsB X g 120 [] d B) (se : Ip.Shr E) (ts : List Tk.Tok) (w : World) (hlen : ts.length ≤ 200) (h : Rq X g w ts d) :
  Calls Tryz.prog 95 #[.pointer (some ⟨g, 0, none⟩)] w (GotU X g w d (Ip.rule E B ts)) := by
 unfold Ip.rule
 cases h0 : Ip.want 1 [66, 69, 71, 73, 78] ts with
 | some r => exact rule_0 X g d ts w hlen h r h0 B hB
 | none =>
  cases h1 : Ip.want 1 [69, 78, 68] ts with
  | some r => exact rule_1 X g d ts w hlen h h0 r h1 B hB
  | none =>
   cases hb : Rx.is ts 5 [123] with
   | true => exact rule_2 X g d ts w hlen h h0 h1 hb B hB
   | false => exact rule_3 X g d ts w hlen h h0 h1 hb B hB E hE se
end Go.Proofs.YtkfkbdgfnopokaaGreatDoor
