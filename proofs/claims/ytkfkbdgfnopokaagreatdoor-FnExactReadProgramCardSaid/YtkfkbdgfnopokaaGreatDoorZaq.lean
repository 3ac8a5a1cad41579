/- The program's reader of a program: expressions. The program's reader of a program: simple ones and expressions at every depth. Rows of trees in a call's own memory. The program's reader of a program: what is held while it reads on; what sets. The program's reader of a program: what chooses. The program's reader of a program: rows of trees that grow while it reads; what prints. -/
import Derived.Test.YtkfkbdgfnopokaaGreatDoorRrP
import Derived.Test.YtkfkbdgfnopokaaGreatDoorZao
namespace Go.Proofs.YtkfkbdgfnopokaaGreatDoor
section PartRrQ
open Go.RowKit
namespace Ip
def has (G : Nat → List Pi) : Rd
 | [] => none
 | t :: r => if t.kind = 4 then some (Fl.node 16 t.text [G], r) else none
def held (F : Rd) (G : Nat → List Pi) : Rd := fun ts =>
 match opOf 14 15 ts with
 | some (j, r) => (F r).map fun q => (Fl.node j [] [G, q.1], q.2)
 | none => match want 5 [126] ts with
  | some r => has G r
  | none => some (G, ts)
def expr (F : Rd) : Rd := fun ts => (F ts).bind fun q => held F q.1 q.2
end Ip
set_option maxHeartbeats 1000000 in
set_option maxRecDepth 100000 in
theorem rdsExpr (X g : Nat) (d : Int) (F : Ip.Rd) (h0 : 0 ≤ d) (h1 : d < 30) (hF : Rds X g 134 [.int .i64 0] (d + 1) F) : Rds X g 119 [] d (Ip.expr F) := by
 intro ts w h
 have CD := hidOf2 (rrDown_yes X g d ts w h.rt h0 h1)
 have HH := hidOf2 h
 have hgl := h.rt.lt
 have HR := hidOf2 hF
 clear h hF
 obtain ⟨V, hV⟩ : ∃ V, V = Ip.expr F ts := ⟨_, rfl⟩
 rw [← hV]
 go_enter Tryz.func119, Tryz.ntmps119
 go_wp2_with fail
 refine CD.out.mono ?_
 rintro e w1 ⟨rfl, hr1, ho1⟩
 have H1 : Hid (Rq X g w1 ts (d + 1) ∧ Og g w w1) := ⟨HH.out.step hr1 ho1, ho1⟩
 clear hr1 ho1 CD
 have C4 := hidOf2 (HR.out ts w1 H1.out.1)
 cases hu : F ts with
 | none =>
  rw [hu] at C4
  have HV : Hid (V = none) := hidOf2 (by rw [hV]; unfold Ip.expr; rw [hu]; rfl)
  clear hu hV HR
  go_wp2_with fail
  refine C4.out.mono ?_
  rintro e w4 ⟨rfl, ho4⟩
  have HO := hidOf2 ho4
  clear ho4
  unfold noProg
  go_wp2
  rw [HV.out]
  exact ⟨rfl, rfl, H1.out.2.trans HO.out⟩
 | some q =>
  obtain ⟨G, r4⟩ := q
  rw [hu] at C4
  have hV4 : V = Ip.held F G r4 := by rw [hV]; unfold Ip.expr; rw [hu]; rfl
  clear hu hV
  go_wp2_with fail
  refine C4.out.mono ?_
  rintro e w4 ⟨T, y, R, rfl, hq4, ho4, ha4, hR4⟩
  have H4 : Hid (Rq X g w4 r4 (d + 1) ∧ Og g w w4 ∧ Adds R w4 (T, y) G ∧ ∀ b, R b → w.heap.size ≤ b) := ⟨hq4, H1.out.2.trans ho4, ha4, fun b hb => Nat.le_trans H1.out.2.2.1 (hR4 b hb)⟩
  clear hq4 ho4 ha4 hR4 C4 H1
  have C5 := hidOf2 (rrOp2 X g 14 15 (d + 1) r4 w4 H4.out.1 (by omega) (by omega) (by omega))
  unfold Ip.held at hV4
  cases hop : Ip.opOf 14 15 r4 with
  | some q5 =>
   obtain ⟨j, r5⟩ := q5
   rw [hop] at C5 hV4
   clear hop
   go_wp2_with fail
   refine C5.out.mono ?_
   rintro e w5 ⟨rfl, h5, ho5⟩
   have H5 : Hid (Rq X g w5 r5 (d + 1) ∧ Og g w w5 ∧ Adds R w5 (T, y) G ∧ ∀ b, R b → w.heap.size ≤ b) := ⟨H4.out.1.step h5 ho5, H4.out.2.1.trans ho5, H4.out.2.2.1.og ho5 (fun b hb e => by have := H4.out.2.2.2 b hb; omega), H4.out.2.2.2⟩
   clear h5 ho5 H4 C5
   have C6 := hidOf2 (HR.out r5 w5 H5.out.1)
   clear HR
   cases hf : F r5 with
   | none =>
    rw [hf] at C6 hV4
    have HV : Hid (V = none) := hV4
    clear hf hV4
    go_wp2_with fail
    refine C6.out.mono ?_
    rintro e w6 ⟨rfl, ho6⟩
    have HO := hidOf2 ho6
    clear ho6
    unfold noProg
    go_wp2
    rw [HV.out]
    exact ⟨rfl, rfl, H5.out.2.1.trans HO.out⟩
   | some q6 =>
    obtain ⟨G6, r6⟩ := q6
    rw [hf] at C6 hV4
    have HV : Hid (V = some (Fl.node j [] [G, G6], r6)) := hV4
    clear hf hV4
    go_wp2_with fail
    refine C6.out.mono ?_
    rintro e w6 ⟨T6, y6, R6, rfl, hq6, ho6, ha6, hR6⟩
    have H9 : Hid (Rq X g w6 r6 (d + 1) ∧ Og g w w6 ∧ Adds (or2 R R6) w6 (135, .agg #[.int .i64 (j : Int), .iface T y, .iface T6 y6]) (Fl.node j [] [G, G6]) ∧ ∀ b, or2 R R6 b → w.heap.size ≤ b) :=
     ⟨hq6, H5.out.2.1.trans ho6, adds_two j T y T6 y6 R R6 G G6 w6 (H5.out.2.2.1.og ho6 (fun b hb2 e => by have := H5.out.2.2.2 b hb2; omega)) ha6, fun b hb => hb.elim (H5.out.2.2.2 b) (fun h => Nat.le_trans H5.out.2.1.2.1 (hR6 b h))⟩
    clear hq6 ho6 ha6 hR6 H5 C6
    have CU := hidOf2 (rrUp X g (d + 1) r6 w6 H9.out.1.rt (by omega) (by omega))
    go_wp2_with fail
    refine CU.out.mono ?_
    rintro e w9 ⟨rfl, h9, ho9⟩
    rw [show d + 1 - 1 = d by omega] at h9
    have HF : Hid (Rq X g w9 r6 d ∧ Og g w w9 ∧ Adds (or2 R R6) w9 (135, .agg #[.int .i64 (j : Int), .iface T y, .iface T6 y6]) (Fl.node j [] [G, G6]) ∧ ∀ b, (or2 R R6) b → w.heap.size ≤ b) :=
     ⟨H9.out.1.step h9 ho9, H9.out.2.1.trans ho9, H9.out.2.2.1.og ho9 (fun b hb e => by have := H9.out.2.2.2 b hb; omega), H9.out.2.2.2⟩
    clear h9 ho9 CU H9
    go_wp2
    go_ret
    rw [HV.out]
    exact ⟨_, _, (or2 R R6), rfl, HF.out⟩
  | none =>
   rw [hop] at C5 hV4
   have HV4 := hidOf2 hV4
   clear hop HR hV4
   go_wp2_with fail
   refine C5.out.mono ?_
   rintro e w5 ⟨rfl, rfl⟩
   have hV4 := HV4.out
   clear HV4
   cases hw : Ip.want 5 [126] r4 with
   | none =>
    simp only [hw] at hV4
    have HV : Hid (V = some (G, r4)) := hV4
    have C6 := hidOf2 (rrTakes_no X g (d + 1) r4 5 [126] w5 H4.out.1.rt (want_none hw))
    clear hw hV4 C5
    go_wp2_with fail
    refine C6.out.mono ?_
    rintro e w6 ⟨rfl, rfl⟩
    have H9 := hidOf2 H4.out
    clear H4 C6
    have CU := hidOf2 (rrUp X g (d + 1) r4 w6 H9.out.1.rt (by omega) (by omega))
    go_wp2_with fail
    refine CU.out.mono ?_
    rintro e w9 ⟨rfl, h9, ho9⟩
    rw [show d + 1 - 1 = d by omega] at h9
    have HF : Hid (Rq X g w9 r4 d ∧ Og g w w9 ∧ Adds R w9 (T, y) G ∧ ∀ b, R b → w.heap.size ≤ b) :=
     ⟨H9.out.1.step h9 ho9, H9.out.2.1.trans ho9, H9.out.2.2.1.og ho9 (fun b hb e => by have := H9.out.2.2.2 b hb; omega), H9.out.2.2.2⟩
    clear h9 ho9 CU H9
    go_wp2
    go_ret
    rw [HV.out]
    exact ⟨_, _, R, rfl, HF.out⟩
   | some r6 =>
    simp only [hw] at hV4
    have HV4 := hidOf2 hV4
    clear hV4
    obtain ⟨t6, rfl, hi6⟩ := want_some hw
    have C6 := hidOf2 (rrTakes_yes X g (d + 1) t6 r6 5 [126] w5 H4.out.1.rt hi6)
    clear hw hi6 C5
    go_wp2_with fail
    refine C6.out.mono ?_
    rintro e w6 ⟨rfl, h6, ho6⟩
    have H6 : Hid (Rq X g w6 r6 (d + 1) ∧ Og g w w6 ∧ Adds R w6 (T, y) G ∧ ∀ b, R b → w.heap.size ≤ b) := ⟨H4.out.1.step h6 ho6, H4.out.2.1.trans ho6, H4.out.2.2.1.og ho6 (fun b hb e => by have := H4.out.2.2.2 b hb; omega), H4.out.2.2.2⟩
    clear h6 ho6 H4 C6
    have hV4 := HV4.out
    clear HV4
    cases hk : Rx.isOf r6 4 with
    | false =>
     have HV : Hid (V = none) := by
      show _ = _
      rw [hV4]
      cases r6 with
      | nil => rfl
      | cons t r => simp only [Rx.isOf, decide_eq_false_iff_not] at hk; simp only [Ip.has, if_neg hk]
     have C7 := hidOf2 (rrKind_no X g (d + 1) r6 4 w6 H6.out.1.rt hk)
     clear hk hV4
     go_wp2_with fail
     refine C7.out.mono ?_
     rintro e w7 ⟨rfl, rfl⟩
     unfold noProg
     go_wp2
     rw [HV.out]
     exact ⟨rfl, rfl, H6.out.2.1⟩
    | true =>
     cases r6 with
     | nil => cases hk
     | cons t7 r7 =>
      have hk2 : t7.kind = 4 := by simpa [Rx.isOf] using hk
      have HV : Hid (V = some (Fl.node 16 t7.text [G], r7)) := by
       show _ = _
       rw [hV4]
       simp only [Ip.has, if_pos hk2]
      have C7 := hidOf2 (rrKind_yes X g (d + 1) t7 r7 4 w6 H6.out.1.rt hk2)
      clear hk hk2 hV4
      go_wp2_with fail
      refine C7.out.mono ?_
      rintro e w7 ⟨rfl, h7, ho7⟩
      have H9 : Hid (Rq X g w7 r7 (d + 1) ∧ Og g w w7 ∧ Adds R w7 (138, .agg #[.iface T y, .string ⟨t7.text.toArray⟩]) (Fl.node 16 t7.text [G]) ∧ ∀ b, R b → w.heap.size ≤ b) :=
       ⟨H6.out.1.step h7 ho7, H6.out.2.1.trans ho7, adds_has t7.text T y R G w7 (H6.out.2.2.1.og ho7 (fun b hb e => by have := H6.out.2.2.2 b hb; omega)), H6.out.2.2.2⟩
      clear h7 ho7 H6 C7
      have CU := hidOf2 (rrUp X g (d + 1) r7 w7 H9.out.1.rt (by omega) (by omega))
      go_wp2_with fail
      refine CU.out.mono ?_
      rintro e w9 ⟨rfl, h9, ho9⟩
      rw [show d + 1 - 1 = d by omega] at h9
      have HF : Hid (Rq X g w9 r7 d ∧ Og g w w9 ∧ Adds R w9 (138, .agg #[.iface T y, .string ⟨t7.text.toArray⟩]) (Fl.node 16 t7.text [G]) ∧ ∀ b, R b → w.heap.size ≤ b) :=
       ⟨H9.out.1.step h9 ho9, H9.out.2.1.trans ho9, H9.out.2.2.1.og ho9 (fun b hb e => by have := H9.out.2.2.2 b hb; omega), H9.out.2.2.2⟩
      clear h9 ho9 CU H9
      go_wp2
      go_ret
      rw [HV.out]
      exact ⟨_, _, R, rfl, HF.out⟩
set_option maxHeartbeats 1000000 in
set_option maxRecDepth 100000 in
theorem rdsExpr_no (X g : Nat) : Rds X g 119 [] 30 (fun _ => none) := by
 intro ts w h
 have CD := hidOf2 (rrDown_no X g ts w h.rt)
 clear h
 go_enter Tryz.func119, Tryz.ntmps119
 go_wp2_with fail
 refine CD.out.mono ?_
 rintro e w1 ⟨rfl, ho1⟩
 have HO := hidOf2 ho1
 clear ho1
 unfold noProg
 go_wp2
 exact ⟨rfl, rfl, HO.out⟩
end PartRrQ
section PartRrR
open Go.RowKit
theorem want_len {k : Nat} {x : List UInt8} {ts r : List Tk.Tok} (h : Ip.want k x ts = some r) : r.length ≤ ts.length := by
 obtain ⟨t, rfl, -⟩ := want_some h
 simp
namespace Ip
theorem shr_upTo {E : Rd} {x : List UInt8} (h : Shr E) : Shr (upTo E x) := by
 intro ts G r e
 unfold upTo at e
 simp only [Option.bind_eq_some_iff, Option.map_eq_some_iff, Prod.mk.injEq] at e
 obtain ⟨q, h1, r2, h2, -, rfl⟩ := e
 exact Nat.le_trans (want_len h2) (h _ _ _ h1)
theorem shr_ofOne {U : Rd} (h : Shr U) : Shr (ofOne U) := by
 intro ts G r e
 cases ts with
 | nil => cases e
 | cons t r1 =>
  simp only [ofOne] at e
  split at e
  ·simp only [Option.some.injEq, Prod.mk.injEq] at e; obtain ⟨-, rfl⟩ := e; simp
  ·split at e
   ·simp only [Option.some.injEq, Prod.mk.injEq] at e; obtain ⟨-, rfl⟩ := e; simp
   ·split at e
    ·unfold named at e
     split at e
     ·simp only [Option.some.injEq, Prod.mk.injEq] at e; obtain ⟨-, rfl⟩ := e; simp
     ·rename_i r' hw
      simp only [Option.map_eq_some_iff, Prod.mk.injEq] at e
      obtain ⟨q, h1, -, rfl⟩ := e
      have a := h _ _ _ h1
      have b := want_len hw
      simp only [List.length_cons]
      omega
    ·cases e
theorem shr_here {S U V : Rd} (hS : Shr S) (hU : Shr U) (hV : Shr V) : Shr (here S U V) := by
 intro ts G r e
 unfold here at e
 split at e
 ·rename_i r0 hw
  simp only [Option.map_eq_some_iff, Prod.mk.injEq] at e
  obtain ⟨q, h1, -, rfl⟩ := e
  exact Nat.le_trans (hS _ _ _ h1) (want_len hw)
 ·split at e
  ·rename_i r0 hw
   exact Nat.le_trans (hU _ _ _ e) (want_len hw)
  ·split at e
   ·rename_i r0 hw
    simp only [Option.some.injEq, Prod.mk.injEq] at e; obtain ⟨-, rfl⟩ := e; exact want_len hw
   ·split at e
    ·rename_i r0 hw
     simp only [Option.some.injEq, Prod.mk.injEq] at e; obtain ⟨-, rfl⟩ := e; exact want_len hw
    ·split at e
     ·rename_i r0 hw
      unfold long at e
      simp only [Option.bind_eq_some_iff, Option.map_eq_some_iff, Prod.mk.injEq] at e
      obtain ⟨r1, h1, q, h2, -, rfl⟩ := e
      exact Nat.le_trans (hU _ _ _ h2) (Nat.le_trans (want_len h1) (want_len hw))
     ·exact shr_ofOne hV _ _ _ e
theorem shr_rowL {F : Rd} {a b : Nat} (h : Shr F) : ∀ (f : Nat) (G : Nat → List Pi), Shr (rowL F a b f G)
 | 0, G => by
  intro ts G' r e
  simp only [rowL, Option.some.injEq, Prod.mk.injEq] at e
  obtain ⟨-, rfl⟩ := e
  exact Nat.le_refl _
 | f + 1, G => by
  intro ts G' r e
  simp only [rowL] at e
  split at e
  ·simp only [Option.some.injEq, Prod.mk.injEq] at e
   obtain ⟨-, rfl⟩ := e
   exact Nat.le_refl _
  ·rename_i j r1 hop
   simp only [Option.bind_eq_some_iff] at e
   obtain ⟨q, h1, h2⟩ := e
   have a1 := shr_rowL h f _ _ _ _ h2
   have a2 := h _ _ _ h1
   have a3 := opOf_shr hop
   omega
theorem shr_row {F : Rd} {a b : Nat} (h : Shr F) : Shr (row F a b) := by
 intro ts G r e
 unfold row at e
 simp only [Option.bind_eq_some_iff] at e
 obtain ⟨q, h1, h2⟩ := e
 exact Nat.le_trans (shr_rowL h _ _ _ _ _ h2) (h _ _ _ h1)
theorem shr_expr {F : Rd} (h : Shr F) : Shr (expr F) := by
 intro ts G r e
 unfold expr at e
 simp only [Option.bind_eq_some_iff] at e
 obtain ⟨q, h1, h2⟩ := e
 refine Nat.le_trans ?_ (h _ _ _ h1)
 unfold held at h2
 split at h2
 ·rename_i j r1 hop
  simp only [Option.map_eq_some_iff, Prod.mk.injEq] at h2
  obtain ⟨q2, h3, -, rfl⟩ := h2
  have a2 := h _ _ _ h3
  have a3 := opOf_shr hop
  omega
 ·split at h2
  ·rename_i r1 hw
   have a := want_len hw
   cases r1 with
   | nil => cases h2
   | cons t r2 =>
    simp only [has] at h2
    split at h2
    ·simp only [Option.some.injEq, Prod.mk.injEq] at h2
     obtain ⟨-, rfl⟩ := h2
     simp only [List.length_cons] at a
     omega
    ·cases h2
  ·simp only [Option.some.injEq, Prod.mk.injEq] at h2
   obtain ⟨-, rfl⟩ := h2
   exact Nat.le_refl _
def SE : Nat → Rd × Rd
 | 0 => (fun _ => none, fun _ => none)
 | n + 1 => (here (SE n).1 (upTo (SE n).2 [41]) (upTo (SE n).2 [93]), expr (row (row (row (SE n).1 11 12) 9 10) 13 13))
theorem shr_SE : ∀ n, Shr (SE n).1 ∧ Shr (SE n).2
 | 0 => ⟨(fun _ _ _ e => nomatch e), (fun _ _ _ e => nomatch e)⟩
 | n + 1 => ⟨shr_here (shr_SE n).1 (shr_upTo (shr_SE n).2) (shr_upTo (shr_SE n).2), shr_expr (shr_row (shr_row (shr_row (shr_SE n).1)))⟩
end Ip
theorem rdsSE (X g : Nat) : ∀ (n : Nat), n ≤ 30 → Rds X g 157 [] (30 - (n : Int)) (Ip.SE n).1 ∧ Rds X g 119 [] (30 - (n : Int)) (Ip.SE n).2
 | 0, _ => by
  show Rds X g 157 [] (30 - 0) (fun _ => none) ∧ Rds X g 119 [] (30 - 0) (fun _ => none)
  rw [Int.sub_zero]
  exact ⟨rdsSimple_no X g, rdsExpr_no X g⟩
 | n + 1, hn => by
  obtain ⟨h1, h2⟩ := rdsSE X g n (by omega)
  have e : (30 : Int) - ((n + 1 : Nat) : Int) + 1 = 30 - (n : Int) := by omega
  refine ⟨rdsSimple X g _ _ (by omega) (by omega) ?_, rdsExpr X g _ _ (by omega) (by omega) ?_⟩
  ·rw [e]
   exact rdsHere X g _ _ _ _ h1 (conUpTo X g _ _ [41] h2) (conUpTo X g _ _ [93] h2)
  ·rw [e]
   exact rdsRow0 X g _ _ (rdsRow1 X g _ _ (rdsRow2 X g _ _ (rdsRow3 X g _ _ h1) (Ip.shr_SE n).1) (Ip.shr_row (Ip.shr_SE n).1)) (Ip.shr_row (Ip.shr_row (Ip.shr_SE n).1))
end PartRrR
section PartTRo
open Go.RowKit
theorem Tryz.infoT : (Tryz.prog.info? 77).map (fun i => (i.zero, i.size, i.bytes)) = some (some .nilIface, 1, 16) := by kernel_rfl
def TRow (B : Nat) (w : World) (v : Value) (ks : List (TypeId × Value)) : Prop := w.ownsRow B 77 1 v ks.length (ks.map tv)
theorem TRow.keep {B : Nat} {w w' : World} {v : Value} {ks : List (TypeId × Value)} (h : TRow B w v ks) (hb : Below w.heap.size w w') : TRow B w' v ks := by
 refine ⟨h.1, ?_⟩
 rcases h.2 with hn | ⟨g, cap, cur, rfl, h1, hg, rest⟩
 ·exact .inl hn
 ·refine .inr ⟨g, cap, cur, rfl, h1, ?_, rest⟩
  rw [hb.block g (Array.getElem?_eq_some_iff.1 hg).1]
  exact hg
theorem TRow.cells {B : Nat} {w : World} {g n cap : Nat} {ks : List (TypeId × Value)} (h : TRow B w (.slice (some ⟨g, 0, none⟩) n cap) ks) (hn : ks.length = n) (j : Nat) (hj : j < n) : w.cell? ⟨g, j, none⟩ = some (tv (ks.getD j tno)) := by
 subst hn
 rw [World.ownsRow.cellAt h j (by omega)]
 simp [hj]
theorem TRow.form {B : Nat} {w : World} {v : Value} {ks : List (TypeId × Value)} (h : TRow B w v ks) : ∃ ad cp, v = .slice ad ks.length cp := by
 rcases h.2 with ⟨rfl, hn⟩ | ⟨g, cap, cur, rfl, -⟩
 ·exact ⟨none, 0, by rw [hn]⟩
 ·exact ⟨_, _, rfl⟩
end PartTRo
section PartRsA
open Go.RowKit
structure Tr where
 k : TypeId × Value
 R : Nat → Prop
 G : Nat → List Pi
structure Hq (X g : Nat) (d : Int) (w0 W : World) (r : List Tk.Tok) (L : List Tr) : Prop where
 q : Rq X g W r d
 og : Og g w0 W
 lt : g < w0.heap.size
 tr : ∀ t ∈ L, Adds t.R W t.k t.G ∧ ∀ b, t.R b → w0.heap.size ≤ b
section
variable {X g : Nat} {d d' : Int} {w0 W W' : World} {r r' : List Tk.Tok} {L : List Tr}
theorem Hq.start (h : Rq X g w0 r d) : Hq X g d w0 w0 r [] := ⟨h, Og.refl _ _, h.rt.lt, fun _ ht => nomatch ht⟩
theorem Hq.step (h : Hq X g d w0 W r L) (h2 : Rt X g W' r' d') (ho : Og g W W') : Hq X g d' w0 W' r' L :=
 ⟨h.q.step h2 ho, h.og.trans ho, h.lt, fun t ht => ⟨(h.tr t ht).1.og ho (fun b hb e => by have h1 := (h.tr t ht).2 b hb; have h2 := h.lt; omega), (h.tr t ht).2⟩⟩
theorem Hq.got (h : Hq X g d w0 W r L) {T : TypeId} {x : Value} {R : Nat → Prop} {G : Nat → List Pi} (hq : Rq X g W' r' d') (ho : Og g W W') (ha : Adds R W' (T, x) G) (hR : ∀ b, R b → W.heap.size ≤ b) : Hq X g d' w0 W' r' (⟨(T, x), R, G⟩ :: L) :=
 ⟨hq, h.og.trans ho, h.lt, fun t ht => by
  rcases List.mem_cons.1 ht with e | ht
  ·subst e
   exact ⟨ha, fun b hb => Nat.le_trans h.og.2.1 (hR b hb)⟩
  ·exact ⟨(h.tr t ht).1.og ho (fun b hb e => by have h1 := (h.tr t ht).2 b hb; have h2 := h.lt; omega), (h.tr t ht).2⟩⟩
theorem Hq.below (h : Hq X g d w0 W r L) (hb : Below W.heap.size W W') : Hq X g d w0 W' r L := h.step (h.q.rt.keep hb) (Og.of hb)
theorem Hq.sub (h : Hq X g d w0 W r L) {L' : List Tr} (hs : ∀ t ∈ L', t ∈ L) : Hq X g d w0 W r L' := ⟨h.q, h.og, h.lt, fun t ht => h.tr t (hs t ht)⟩
theorem Hq.other (h : Hq X g d w0 W r L) {b : Nat} (ho : Og b W W') (hb : w0.heap.size ≤ b) (hR : ∀ t ∈ L, ¬ t.R b) : Hq X g d w0 W' r L := by
 have hlt := h.lt
 have hX := h.q.rt.1
 refine ⟨⟨⟨hX, ?_⟩, ho.two h.q.two h.q.lo.1 (by omega), ho.row h.q.row h.q.lo.2 (by omega), h.q.lo⟩, ⟨h.og.1.trans ho.1, Nat.le_trans h.og.2.1 ho.2.1, fun k hk hg => (ho.2.2 k (Nat.lt_of_lt_of_le hk h.og.2.1) (by omega)).trans (h.og.2.2 k hk hg)⟩, hlt, fun t ht => ⟨(h.tr t ht).1.og ho (fun c hc e => hR t ht (e ▸ hc)), (h.tr t ht).2⟩⟩
 obtain ⟨-, Lv, h1, h2⟩ := h.q.rt
 refine ⟨Lv, ?_, h2.keep (by omega) ho⟩
 unfold Rr at h1 ⊢
 rw [ho.2.2 g (Nat.lt_of_lt_of_le hlt h.og.2.1) (by omega)]
 exact h1
theorem Hq.fin (h : Hq X g d w0 W r L) {T : TypeId} {x : Value} {R : Nat → Prop} {G : Nat → List Pi} (ha : Adds R W (T, x) G) (hR : ∀ b, R b → w0.heap.size ≤ b) : Got X g w0 d (some (G, r)) (.returned (.iface T x)) W := ⟨T, x, R, rfl, h.q, h.og, ha, hR⟩
theorem Hq.bad (h : Hq X g d w0 W r L) (ho : Og g W W') : Og g w0 W' := h.og.trans ho
end
namespace Ip
def setOp (ts : List Tk.Tok) : Option (Bool × List Tk.Tok) :=
 match want 5 [43, 61] ts with
 | some r => some (true, r)
 | none => match want 5 [61] ts with
  | some r => some (false, r)
  | none => none
def settingOf (E U : Rd) (t : List UInt8) : Rd := fun r =>
 match want 5 [91] r with
 | none => (setOp r).bind fun a => (E a.2).map fun q => (Fl.node (if a.1 then 19 else 18) t [q.1], q.2)
 | some r1 => (U r1).bind fun k => (setOp k.2).bind fun a => (E a.2).map fun q => (Fl.node (if a.1 then 21 else 20) t [k.1, q.1], q.2)
def setting (E U : Rd) : Rd
 | [] => none
 | t :: r => if t.kind = 1 ∧ Pg.words.contains t.text = false then settingOf E U t.text r else none
end Ip
set_option maxHeartbeats 1000000 in
set_option maxRecDepth 100000 in
theorem rrSetOp (X g a b : Nat) (d : Int) (ts : List Tk.Tok) (w : World) (h : Rt X g w ts d) :
  Calls Tryz.prog 182 #[.pointer (some ⟨g, 0, none⟩), .int .i64 (a : Int), .int .i64 (b : Int)] w fun e w' =>
   match Ip.setOp ts with
   | none => e = noProg ∧ w' = w
   | some (y, r) => e = .returned (.int .i64 ((if y then b else a : Nat) : Int)) ∧ Rt X g w' r d ∧ Og g w w' := by
 cases h1 : Ip.want 5 [43, 61] ts with
 | some r =>
  rw [show Ip.setOp ts = some (true, r) by unfold Ip.setOp; rw [h1]]
  obtain ⟨t, rfl, hi⟩ := want_some h1
  have C := hidOf2 (rrTakes_yes X g d t r 5 [43, 61] w h hi)
  clear h h1 hi
  go_enter Tryz.func182, Tryz.ntmps182
  go_wp2_with fail
  refine C.out.mono ?_
  rintro e w1 ⟨rfl, h1, ho1⟩
  have H1 := hidOf2 (And.intro h1 ho1)
  clear h1 ho1
  go_wp2
  go_ret
  exact ⟨rfl, H1.out⟩
 | none =>
  have C := hidOf2 (rrTakes_no X g d ts 5 [43, 61] w h (want_none h1))
  cases h2 : Ip.want 5 [61] ts with
  | some r =>
   rw [show Ip.setOp ts = some (false, r) by unfold Ip.setOp; rw [h1, h2]]
   obtain ⟨t, rfl, hi⟩ := want_some h2
   have C2 := hidOf2 (rrWant_yes X g d t r 5 [61] w h hi)
   clear h h1 h2 hi
   go_enter Tryz.func182, Tryz.ntmps182
   go_wp2_with fail
   refine C.out.mono ?_
   rintro e w1 ⟨rfl, rfl⟩
   go_wp2_with fail
   refine C2.out.mono ?_
   rintro e w2 ⟨rfl, h1, ho1⟩
   have H1 := hidOf2 (And.intro h1 ho1)
   clear h1 ho1
   go_wp2
   go_ret
   exact ⟨rfl, H1.out⟩
  | none =>
   rw [show Ip.setOp ts = none by unfold Ip.setOp; rw [h1, h2]]
   have C2 := hidOf2 (rrWant_no X g d ts 5 [61] w h (want_none h2))
   clear h h1 h2
   go_enter Tryz.func182, Tryz.ntmps182
   go_wp2_with fail
   refine C.out.mono ?_
   rintro e w1 ⟨rfl, rfl⟩
   go_wp2_with fail
   refine C2.out.mono ?_
   rintro e w2 ⟨rfl, rfl⟩
   unfold noProg
   go_wp2
   exact ⟨rfl, rfl, rfl⟩
set_option maxHeartbeats 2000000 in
set_option maxRecDepth 100000 in
theorem setting_name (X g : Nat) (d : Int) (E U : Ip.Rd) (t : Tk.Tok) (r : List Tk.Tok) (w : World) (h : Rq X g w (t :: r) d) (hk : t.kind = 1) (hw : Pg.words.contains t.text = false) (hE : Rds X g 119 [] d E) (hU : Rds X g 180 [.string ⟨#[93]⟩] d U) :
  Calls Tryz.prog 174 #[.pointer (some ⟨g, 0, none⟩)] w (Got X g w d (Ip.settingOf E U t.text r)) := by
 have C2 := hidOf2 (rrName_yes X g d t r w h.rt hk hw)
 have H0 := hidOf2 (Hq.start h)
 have HE := hidOf2 hE
 have HU := hidOf2 hU
 clear h hk hw hE hU
 obtain ⟨S, hS⟩ : ∃ S : ByteArray, S = ⟨t.text.toArray⟩ := ⟨_, rfl⟩
 rw [← hS] at C2
 have HS := hidOf2 hS
 clear hS
 obtain ⟨V, hV⟩ : ∃ V, V = Ip.settingOf E U t.text r := ⟨_, rfl⟩
 rw [← hV]
 go_enter Tryz.func174, Tryz.ntmps174
 go_wp2_with fail
 refine C2.out.mono ?_
 rintro e w2 ⟨rfl, h2, ho⟩
 have H2 := hidOf2 (H0.out.step h2 ho)
 clear h2 ho C2 H0
 cases hq : Ip.want 5 [91] r with
 | none =>
  have C3 := hidOf2 (rrTakes_no X g d r 5 [91] w2 H2.out.q.rt (want_none hq))
  have hVu : V = (Ip.setOp r).bind fun a => (E a.2).map fun q => (Fl.node (if a.1 then 19 else 18) t.text [q.1], q.2) := by rw [hV]; simp only [Ip.settingOf, hq]
  clear hq hV HU
  go_wp2_with fail
  refine C3.out.mono ?_
  rintro e w3 ⟨rfl, rfl⟩
  clear C3
  have CS := hidOf2 (rrSetOp X g 18 19 d r w3 H2.out.q.rt)
  cases hs : Ip.setOp r with
  | none =>
   rw [hs] at CS hVu
   have HV : Hid (V = none) := hVu
   clear hs hVu HE
   go_wp2_with fail
   refine CS.out.mono ?_
   rintro e w7 ⟨rfl, rfl⟩
   unfold noProg
   go_wp2
   rw [HV.out]
   exact ⟨rfl, rfl, H2.out.og⟩
  | some q =>
   obtain ⟨y, r7⟩ := q
   rw [hs] at CS hVu
   clear hs
   obtain ⟨op, hop⟩ : ∃ op : Nat, op = (if y then 19 else 18) := ⟨_, rfl⟩
   simp only at CS
   rw [← hop] at CS
   have HOP := hidOf2 hop
   have HVU := hidOf2 hVu
   clear hop hVu
   go_wp2_with fail
   refine CS.out.mono ?_
   rintro e w7 ⟨rfl, h7, ho7⟩
   have H7 := hidOf2 (H2.out.step h7 ho7)
   have C8 := hidOf2 (HE.out r7 w7 H7.out.q)
   clear h7 ho7 CS HE H2
   have hVw : V = (E r7).map fun q => (Fl.node op t.text [q.1], q.2) := by rw [HOP.out]; exact HVU.out
   clear HVU HOP
   cases hu : E r7 with
   | none =>
    rw [hu] at C8 hVw
    have HV : Hid (V = none) := hVw
    clear hu hVw
    go_wp2_with fail
    refine C8.out.mono ?_
    rintro e w8 ⟨rfl, hbd⟩
    have HO := hidOf2 hbd
    clear hbd
    unfold noProg
    go_wp2
    rw [HV.out]
    exact ⟨rfl, rfl, H7.out.bad HO.out⟩
   | some q =>
    obtain ⟨G8, r8⟩ := q
    rw [hu] at C8 hVw
    have HV : Hid (V = some (Fl.node op t.text [G8], r8)) := hVw
    clear hu hVw
    go_wp2_with fail
    refine C8.out.mono ?_
    rintro e w8 ⟨T8, y8, R8, rfl, hq8, ho8, ha8, hR8⟩
    have H8 := hidOf2 (H7.out.got hq8 ho8 ha8 hR8)
    clear hq8 ho8 ha8 hR8 C8 H7
    go_wp2
    go_ret
    rw [HV.out]
    refine H8.out.fin (R := R8) ?_ (H8.out.tr _ (List.mem_cons_self ..)).2
    rw [HS.out]
    exact adds_set op t.text T8 y8 R8 G8 _ (H8.out.tr _ (List.mem_cons_self ..)).1
 | some r3 =>
  obtain ⟨t3, rfl, hi⟩ := want_some hq
  have C3 := hidOf2 (rrTakes_yes X g d t3 r3 5 [91] w2 H2.out.q.rt hi)
  have hVz : V = (U r3).bind fun k => (Ip.setOp k.2).bind fun a => (E a.2).map fun q => (Fl.node (if a.1 then 21 else 20) t.text [k.1, q.1], q.2) := by rw [hV]; simp only [Ip.settingOf, hq]
  clear hq hV hi
  go_wp2_with fail
  refine C3.out.mono ?_
  rintro e w3 ⟨rfl, h3, ho3⟩
  have H3 := hidOf2 (H2.out.step h3 ho3)
  have C4 := hidOf2 (HU.out r3 w3 H3.out.q)
  clear h3 ho3 H2 C3 HU
  cases hk : U r3 with
  | none =>
   rw [hk] at C4 hVz
   have HV : Hid (V = none) := hVz
   clear hk hVz HE
   go_wp2_with fail
   refine C4.out.mono ?_
   rintro e w4 ⟨rfl, hbd⟩
   have HO := hidOf2 hbd
   clear hbd
   unfold noProg
   go_wp2
   rw [HV.out]
   exact ⟨rfl, rfl, H3.out.bad HO.out⟩
  | some q =>
   obtain ⟨G4, r4⟩ := q
   rw [hk] at C4 hVz
   have hVu : V = (Ip.setOp r4).bind fun a => (E a.2).map fun q => (Fl.node (if a.1 then 21 else 20) t.text [G4, q.1], q.2) := hVz
   clear hk hVz
   go_wp2_with fail
   refine C4.out.mono ?_
   rintro e w4 ⟨T4, y4, R4, rfl, hq4, ho4, ha4, hR4⟩
   have H4 := hidOf2 (H3.out.got hq4 ho4 ha4 hR4)
   clear hq4 ho4 ha4 hR4 C4 H3
   have CS := hidOf2 (rrSetOp X g 20 21 d r4 w4 H4.out.q.rt)
   cases hs : Ip.setOp r4 with
   | none =>
    rw [hs] at CS hVu
    have HV : Hid (V = none) := hVu
    clear hs hVu HE
    go_wp2_with fail
    refine CS.out.mono ?_
    rintro e w7 ⟨rfl, rfl⟩
    unfold noProg
    go_wp2
    rw [HV.out]
    exact ⟨rfl, rfl, H4.out.og⟩
   | some q =>
    obtain ⟨y, r7⟩ := q
    rw [hs] at CS hVu
    clear hs
    obtain ⟨op, hop⟩ : ∃ op : Nat, op = (if y then 21 else 20) := ⟨_, rfl⟩
    simp only at CS
    rw [← hop] at CS
    have HOP := hidOf2 hop
    have HVU := hidOf2 hVu
    clear hop hVu
    go_wp2_with fail
    refine CS.out.mono ?_
    rintro e w7 ⟨rfl, h7, ho7⟩
    have H7 := hidOf2 (H4.out.step h7 ho7)
    have C8 := hidOf2 (HE.out r7 w7 H7.out.q)
    clear h7 ho7 CS HE H4
    have hVw : V = (E r7).map fun q => (Fl.node op t.text [G4, q.1], q.2) := by rw [HOP.out]; exact HVU.out
    clear HVU HOP
    cases hu : E r7 with
    | none =>
     rw [hu] at C8 hVw
     have HV : Hid (V = none) := hVw
     clear hu hVw
     go_wp2_with fail
     refine C8.out.mono ?_
     rintro e w8 ⟨rfl, hbd⟩
     have HO := hidOf2 hbd
     clear hbd
     unfold noProg
     go_wp2
     rw [HV.out]
     exact ⟨rfl, rfl, H7.out.bad HO.out⟩
    | some q =>
     obtain ⟨G8, r8⟩ := q
     rw [hu] at C8 hVw
     have HV : Hid (V = some (Fl.node op t.text [G4, G8], r8)) := hVw
     clear hu hVw
     go_wp2_with fail
     refine C8.out.mono ?_
     rintro e w8 ⟨T8, y8, R8, rfl, hq8, ho8, ha8, hR8⟩
     have H8 := hidOf2 (H7.out.got hq8 ho8 ha8 hR8)
     clear hq8 ho8 ha8 hR8 C8 H7
     go_wp2
     go_ret
     rw [HV.out]
     refine H8.out.fin (R := or2 R4 R8) ?_ (fun b hb => hb.elim ((H8.out.tr _ (List.mem_cons_of_mem _ (List.mem_cons_self ..))).2 b) ((H8.out.tr _ (List.mem_cons_self ..)).2 b))
     rw [HS.out]
     exact adds_setc op t.text T4 y4 T8 y8 R4 R8 G4 G8 _ (H8.out.tr _ (List.mem_cons_of_mem _ (List.mem_cons_self ..))).1 (H8.out.tr _ (List.mem_cons_self ..)).1
set_option maxHeartbeats 1000000 in
set_option maxRecDepth 100000 in
theorem rdsSetting (X g : Nat) (d : Int) (E U : Ip.Rd) (hE : Rds X g 119 [] d E) (hU : Rds X g 180 [.string ⟨#[93]⟩] d U) : Rds X g 174 [] d (Ip.setting E U) := by
 have no : ∀ ts w, Rq X g w ts d → (∀ t r, ts = t :: r → t.kind = 1 → Pg.words.contains t.text = true) → Calls Tryz.prog 174 #[.pointer (some ⟨g, 0, none⟩)] w (Got X g w d none) := by
  intro ts w h hn
  have C2 : Hid (Calls Tryz.prog 172 #[.pointer (some ⟨g, 0, none⟩)] w fun e w' => e = noProg ∧ Og g w w') := by
   cases ts with
   | nil => exact (rrName_none X g d [] w h.rt rfl).mono (by rintro e w' ⟨rfl, rfl⟩; exact ⟨rfl, Og.refl _ _⟩)
   | cons t r =>
    by_cases hk : t.kind = 1
    ·exact rrName_word X g d t r w h.rt hk (hn t r rfl hk)
    ·exact (rrName_none X g d (t :: r) w h.rt (by simp [Rx.isOf, hk])).mono (by rintro e w' ⟨rfl, rfl⟩; exact ⟨rfl, Og.refl _ _⟩)
  clear h hn
  go_enter Tryz.func174, Tryz.ntmps174
  go_wp2_with fail
  refine C2.out.mono ?_
  rintro e w2 ⟨rfl, ho⟩
  have HO := hidOf2 ho
  clear ho
  unfold noProg
  go_wp2
  exact ⟨rfl, rfl, HO.out⟩
 intro ts w h
 cases ts with
 | nil => exact no [] w h (fun t r e => nomatch e)
 | cons t r =>
  show Calls _ _ _ _ (Got X g w d (if t.kind = 1 ∧ Pg.words.contains t.text = false then Ip.settingOf E U t.text r else none))
  by_cases hc : t.kind = 1 ∧ Pg.words.contains t.text = false
  ·rw [if_pos hc]
   exact setting_name X g d E U t r w h hc.1 hc.2 hE hU
  ·rw [if_neg hc]
   refine no _ w h (fun t' r' e hk => ?_)
   obtain ⟨rfl, rfl⟩ : t = t' ∧ r = r' := by simpa using e
   cases hw : Pg.words.contains t.text with
   | true => rfl
   | false => exact absurd ⟨hk, hw⟩ hc
end PartRsA
section PartRsB
open Go.RowKit
def RdsB (X g : Nat) (fid : FuncId) (more : List Value) (d : Int) (I : Ip.Rd) : Prop := ∀ ts w, ts.length ≤ 200 → Rq X g w ts d → Calls Tryz.prog fid (Value.pointer (some ⟨g, 0, none⟩) :: more).toArray w (Got X g w d (I ts))
theorem Rds.b {X g : Nat} {fid : FuncId} {more : List Value} {d : Int} {I : Ip.Rd} (h : Rds X g fid more d I) : RdsB X g fid more d I := fun ts w _ hq => h ts w hq
namespace Ip
def choice (U S : Rd) : Rd := fun ts => (want 5 [40] ts).bind fun r1 => (U r1).bind fun t => (S t.2).bind fun a =>
 match want 1 [101, 108, 115, 101] a.2 with
 | none => some (Fl.node 22 [] [t.1, a.1], a.2)
 | some r6 => (S r6).map fun b => (Fl.node 22 [] [t.1, a.1, b.1], b.2)
end Ip
theorem Hq.alloc {X g : Nat} {d : Int} {w0 W : World} {r : List Tk.Tok} {L : List Tr} (h : Hq X g d w0 W r L) (o : Obj) : Hq X g d w0 (W.alloc o) r L := h.below ((Below.refl _ _).alloc (Nat.le_refl _) _)
def Bo (w0 W : World) (g b : Nat) (L : List Tr) (o : Obj) : Prop := W.heap[b]? = some o ∧ w0.heap.size ≤ b ∧ g < w0.heap.size ∧ ∀ t ∈ L, ¬ t.R b
theorem Bo.new {X g : Nat} {d : Int} {w0 W : World} {r : List Tk.Tok} {L : List Tr} (h : Hq X g d w0 W r L) (o : Obj) : Bo w0 (W.alloc o) g W.heap.size L o :=
 ⟨heap_alloc_new W o, h.og.2.1, h.lt, fun t ht hb => by have := (h.tr t ht).1.1 _ hb; omega⟩
theorem Bo.step {w0 W W' : World} {g b : Nat} {L : List Tr} {o : Obj} (h : Bo w0 W g b L o) (ho : Og g W W') : Bo w0 W' g b L o :=
 ⟨(ho.2.2 b (Array.getElem?_eq_some_iff.1 h.1).1 (by have h1 := h.2.1; have h2 := h.2.2.1; omega)).trans h.1, h.2⟩
theorem Bo.more {w0 W W' : World} {g b : Nat} {L : List Tr} {o : Obj} (h : Bo w0 W g b L o) (ho : Og g W W') {t : Tr} (hR : ∀ c, t.R c → W.heap.size ≤ c) : Bo w0 W' g b (t :: L) o :=
 ⟨(h.step ho).1, h.2.1, h.2.2.1, fun t' ht' hb => by
  rcases List.mem_cons.1 ht' with e | ht'
  ·subst e
   have h1 := hR b hb
   have h2 := (Array.getElem?_eq_some_iff.1 h.1).1
   omega
  ·exact h.2.2.2 t' ht' hb⟩
theorem Bo.set {w0 W : World} {g b : Nat} {L : List Tr} {arr : Array Value} {ty : TypeId} (h : Bo w0 W g b L (.cells arr ty (0, 0))) (j : Nat) (u : Value) : Bo w0 (W.setCell ⟨b, j, none⟩ u) g b L (.cells (arr.setIfInBounds j u) ty (0, 0)) :=
 ⟨blk_set h.1 j u, h.2⟩
theorem Hq.poke {X g : Nat} {d : Int} {w0 W : World} {r : List Tk.Tok} {L : List Tr} {b : Nat} {o : Obj} (h : Hq X g d w0 W r L) (hb : Bo w0 W g b L o) (j : Nat) (u : Value) : Hq X g d w0 (W.setCell ⟨b, j, none⟩ u) r L :=
 h.other (Og.set b j u W) hb.2.1 hb.2.2.2
set_option maxHeartbeats 2000000 in
set_option maxRecDepth 100000 in
theorem rdsChoice (X g : Nat) (d : Int) (U S : Ip.Rd) (hU : Rds X g 180 [.string ⟨#[41]⟩] d U) (hS : RdsB X g 139 [] d S) (su : Ip.Shr U) (ss : Ip.Shr S) : RdsB X g 173 [] d (Ip.choice U S) := by
 intro ts w hlen h
 have H0 := hidOf2 (Hq.start h)
 have HU := hidOf2 hU
 have HS := hidOf2 hS
 have SU := hidOf2 su
 have SS := hidOf2 ss
 clear hU hS su ss
 obtain ⟨V, hV⟩ : ∃ V, V = Ip.choice U S ts := ⟨_, rfl⟩
 rw [← hV]
 unfold Ip.choice at hV
 go_enter Tryz.func173, Tryz.ntmps173
 cases hq : Ip.want 5 [40] ts with
 | none =>
  have C1 := hidOf2 (rrWant_no X g d ts 5 [40] w h.rt (want_none hq))
  rw [hq] at hV
  have HV : Hid (V = none) := hV
  clear hq hV h HU HS
  go_wp2_with fail
  refine C1.out.mono ?_
  rintro e w1 ⟨rfl, rfl⟩
  unfold noProg
  go_wp2
  rw [HV.out]
  exact ⟨rfl, rfl, H0.out.og⟩
 | some r1 =>
  rw [hq] at hV
  have hV1 : V = (U r1).bind fun t => (S t.2).bind fun a => match Ip.want 1 [101, 108, 115, 101] a.2 with | none => some (Fl.node 22 [] [t.1, a.1], a.2) | some r6 => (S r6).map fun b => (Fl.node 22 [] [t.1, a.1, b.1], b.2) := hV
  have HV1 := hidOf2 hV1
  have hl1 := want_len hq
  obtain ⟨t1, rfl, hi⟩ := want_some hq
  have C1 := hidOf2 (rrWant_yes X g d t1 r1 5 [40] w h.rt hi)
  clear hq hV hV1 hi h
  go_wp2_with fail
  refine C1.out.mono ?_
  rintro e w1 ⟨rfl, h1, ho1⟩
  have H1 := hidOf2 (H0.out.step h1 ho1)
  have C4 := hidOf2 (HU.out r1 w1 H1.out.q)
  have hV2 := HV1.out
  clear h1 ho1 H0 C1 HU HV1
  cases hu : U r1 with
  | none =>
   rw [hu] at C4 hV2
   have HV : Hid (V = none) := hV2
   clear hu hV2 HS
   go_wp2_with fail
   refine C4.out.mono ?_
   rintro e w4 ⟨rfl, hbd⟩
   have HO := hidOf2 hbd
   clear hbd
   unfold noProg
   go_wp2
   rw [HV.out]
   exact ⟨rfl, rfl, H1.out.bad HO.out⟩
  | some q =>
   obtain ⟨G4, r4⟩ := q
   have hl4 := SU.out r1 G4 r4 hu
   rw [hu] at C4 hV2
   have HV2 : Hid (V = (S r4).bind fun a => match Ip.want 1 [101, 108, 115, 101] a.2 with | none => some (Fl.node 22 [] [G4, a.1], a.2) | some r6 => (S r6).map fun b => (Fl.node 22 [] [G4, a.1, b.1], b.2)) := hV2
   clear hu hV2
   go_wp2_with fail
   refine C4.out.mono ?_
   rintro e w4 ⟨T4, y4, R4, rfl, hq4, ho4, ha4, hR4⟩
   have H4 := hidOf2 (H1.out.got hq4 ho4 ha4 hR4)
   have H5 := hidOf2 (H4.out.alloc (.cells #[.iface T4 y4, .nilIface, .nilIface] 168))
   have B5 := hidOf2 (Bo.new H4.out (.cells #[.iface T4 y4, .nilIface, .nilIface] 168))
   have C6 := hidOf2 (HS.out r4 _ (by omega) H5.out.q)
   clear hq4 ho4 ha4 hR4 C4 H1 H4
   go_wp2_with fail
   generalize hW5 : w4.alloc (.cells #[.iface T4 y4, .nilIface, .nilIface] 168) = W5 at *
   generalize w4.heap.size = b at *
   clear hW5
   have hV3 := HV2.out
   clear HV2
   cases hs : S r4 with
   | none =>
    rw [hs] at C6 hV3
    have HV : Hid (V = none) := hV3
    clear hs hV3 HS
    refine C6.out.mono ?_
    rintro e w6 ⟨rfl, hbd⟩
    have HO := hidOf2 hbd
    clear hbd
    unfold noProg
    go_wp2
    rw [HV.out]
    exact ⟨rfl, rfl, H5.out.bad HO.out⟩
   | some q =>
    obtain ⟨G6, r6⟩ := q
    have hl6 := SS.out r4 G6 r6 hs
    rw [hs] at C6 hV3
    have HV3 : Hid (V = match Ip.want 1 [101, 108, 115, 101] r6 with | none => some (Fl.node 22 [] [G4, G6], r6) | some r7 => (S r7).map fun b => (Fl.node 22 [] [G4, G6, b.1], b.2)) := hV3
    clear hs hV3
    refine C6.out.mono ?_
    rintro e w6 ⟨T6, y6, R6, rfl, hq6, ho6, ha6, hR6⟩
    have H6 := hidOf2 (H5.out.got hq6 ho6 ha6 hR6)
    have B6 := hidOf2 (B5.out.more (t := ⟨(T6, y6), R6, G6⟩) ho6 hR6)
    have H7 := hidOf2 (H6.out.poke B6.out 1 (.iface T6 y6))
    have B7 : Hid (Bo w (w6.setCell ⟨b, 1, none⟩ (.iface T6 y6)) g b [⟨(T6, y6), R6, G6⟩, ⟨(T4, y4), R4, G4⟩] (.cells #[.iface T4 y4, .iface T6 y6, .nilIface] 168 (0, 0))) := B6.out.set 1 (.iface T6 y6)
    obtain ⟨m0, m1, m2⟩ := tcells3 B6.out.1
    have f1 := blk_free B6.out.1 1
    clear hq6 ho6 ha6 hR6 C6 H5 B5 H6 B6
    have hV4 := HV3.out
    clear HV3
    cases he : Ip.want 1 [101, 108, 115, 101] r6 with
    | none =>
     rw [he] at hV4
     have HV : Hid (V = some (Fl.node 22 [] [G4, G6], r6)) := hV4
     have C8 := hidOf2 (rrTakes_no X g d r6 1 [101, 108, 115, 101] _ H7.out.q.rt (want_none he))
     clear he hV4 HS
     go_wp2_with fail
     generalize w6.setCell ⟨b, 1, none⟩ (.iface T6 y6) = W7 at *
     obtain ⟨n0, n1, n2⟩ := tcells3 B7.out.1
     clear m0 m1 m2 f1
     refine C8.out.mono ?_
     rintro e w8 ⟨rfl, rfl⟩
     go_wp2
     go_ret
     rw [HV.out]
     exact H7.out.fin (R := or2 R4 R6) (adds_if2 T4 y4 T6 y6 R4 R6 G4 G6 _ (H7.out.tr _ (List.mem_cons_of_mem _ (List.mem_cons_self ..))).1 (H7.out.tr _ (List.mem_cons_self ..)).1) (fun b hb => hb.elim ((H7.out.tr _ (List.mem_cons_of_mem _ (List.mem_cons_self ..))).2 b) ((H7.out.tr _ (List.mem_cons_self ..)).2 b))
    | some r8 =>
     rw [he] at hV4
     have HV4 : Hid (V = (S r8).map fun b => (Fl.node 22 [] [G4, G6, b.1], b.2)) := hV4
     have hl8 := want_len he
     obtain ⟨t8, rfl, hi8⟩ := want_some he
     have C8 := hidOf2 (rrTakes_yes X g d t8 r8 1 [101, 108, 115, 101] _ H7.out.q.rt hi8)
     clear he hV4 hi8
     go_wp2_with fail
     generalize w6.setCell ⟨b, 1, none⟩ (.iface T6 y6) = W7 at *
     clear m0 m1 m2 f1
     refine C8.out.mono ?_
     rintro e w8 ⟨rfl, h8, ho8⟩
     have H8 := hidOf2 (H7.out.step h8 ho8)
     have B8 := hidOf2 (B7.out.step ho8)
     have C9 := hidOf2 (HS.out r8 w8 (by omega) H8.out.q)
     have hV5 := HV4.out
     clear h8 ho8 H7 B7 C8 HV4 HS
     cases hs : S r8 with
     | none =>
      rw [hs] at C9 hV5
      have HV : Hid (V = none) := hV5
      clear hs hV5
      go_wp2_with fail
      refine C9.out.mono ?_
      rintro e w9 ⟨rfl, hbd⟩
      have HO := hidOf2 hbd
      clear hbd
      unfold noProg
      go_wp2
      rw [HV.out]
      exact ⟨rfl, rfl, H8.out.bad HO.out⟩
     | some q =>
      obtain ⟨G9, r9⟩ := q
      rw [hs] at C9 hV5
      have HV : Hid (V = some (Fl.node 22 [] [G4, G6, G9], r9)) := hV5
      clear hs hV5
      go_wp2_with fail
      refine C9.out.mono ?_
      rintro e w9 ⟨T9, y9, R9, rfl, hq9, ho9, ha9, hR9⟩
      have H9 := hidOf2 (H8.out.got hq9 ho9 ha9 hR9)
      have B9 := hidOf2 (B8.out.more (t := ⟨(T9, y9), R9, G9⟩) ho9 hR9)
      have HA := hidOf2 (H9.out.poke B9.out 2 (.iface T9 y9))
      obtain ⟨m0, m1, m2⟩ := tcells3 B9.out.1
      have f2 := blk_free B9.out.1 2
      clear hq9 ho9 ha9 hR9 C9 H8 B8 H9 B9
      go_wp2
      go_ret
      rw [HV.out]
      exact HA.out.fin (R := or2 R4 (or2 R6 R9)) (adds_if3 T4 y4 T6 y6 T9 y9 R4 R6 R9 G4 G6 G9 _ (HA.out.tr ⟨(T4, y4), R4, G4⟩ (by simp)).1 (HA.out.tr ⟨(T6, y6), R6, G6⟩ (by simp)).1 (HA.out.tr ⟨(T9, y9), R9, G9⟩ (by simp)).1) (fun b hb => hb.elim ((HA.out.tr ⟨(T4, y4), R4, G4⟩ (by simp)).2 b) (fun hb => hb.elim ((HA.out.tr ⟨(T6, y6), R6, G6⟩ (by simp)).2 b) ((HA.out.tr ⟨(T9, y9), R9, G9⟩ (by simp)).2 b)))
end PartRsB
section PartRsC
open Go.RowKit
theorem TRow.push2 {ops : Array Oper} {rest : List Oper} {o : Oper} {a : Act} {Q : Exit → Act → World → Prop} {B : Nat} {w : World} {v : Value} {ks : List (TypeId × Value)}
  (hown : TRow B w v ks) (hgd : o.guard = none) (s x : Operand)
  (ho : o.op = .call { callee := .builtin .append, args := #[s, x], argTypes := #[65, 65] })
  (hs : a.eval s = v) (z : Value) (k : TypeId × Value) (hz : z = tv k) (hx : a.eval x = .slice (some ⟨w.heap.size, 0, none⟩) 1 1)
  (hlen : ks.length < 1000000) (hB : B ≤ w.heap.size)
  (h : ∀ q cap w', TRow B w' (.slice (some ⟨q, 0, none⟩) (ks.length + 1) cap) (ks ++ [k]) → (v.ownBlock = some q ∨ w.heap.size ≤ q) → w.heap.size ≤ w'.heap.size → Env w w' → (∀ k, k < w.heap.size → v.ownBlock ≠ some k → w'.heap[k]? = w.heap[k]?) →
   wpList Tryz.prog ops Q rest (a.put o.dst (.slice (some ⟨q, 0, none⟩) (ks.length + 1) cap)) w') :
  wpList Tryz.prog ops Q (o :: rest) a (w.alloc (.cells #[z] 77)) := by
 subst hz
 obtain ⟨i0, hi, hz0, hz1, hz2⟩ := info_parts Tryz.infoT
 refine wpList_append_lies _ hgd s x 65 ho B 77 i0 .nilIface 1 16 Tryz.underlying65 hi hz0 hz1 hz2 rfl (by decide) v ks.length (ks.map tv) hs (World.ownsRow.alloc hown _) ⟨w.heap.size, 0, none⟩ 1 1 [tv k] hx rfl
  (World.news_of_block (cs := #[tv k]) (t := 77) (fr := (0, 0)) (heap_alloc_new w _)) ?_ (by omega) ?_ ?_ ?_ (w.heap.size + 1) (by simp) ?_
 ·intro u hu
  simp at hu
  subst hu
  rfl
 ·unfold maxLen; omega
 ·omega
 ·simp; omega
 ·intro g cap w' h2 h3 h4 h5
  have hb0 : Below w.heap.size w (w.alloc (.cells #[tv k] 77)) := (Below.refl _ w).alloc (Nat.le_refl _) _
  have hs3 := h3.size
  simp at hs3
  have hb3 : Below B w w' := (hb0.mono hB).grown h3 (by simp; omega) (fun k hk => (World.ownsRow.lt hown k hk).1)
  refine h g cap w' ?_ (h4.imp id (fun e => by omega)) (by omega) ⟨hb3.os, hb3.tape, hb3.output⟩ ?_
  ·unfold TRow
   simpa using h2
  ·intro k hk hne
   rw [h3.block k (by simp; omega) (fun e => hne e.symm)]
   exact hb0.block k hk
theorem TRow.keep2 {B : Nat} {w w' : World} {u : Value} {ks : List (TypeId × Value)} (h : TRow B w u ks) (hb : ∀ q, u.ownBlock = some q → w'.heap[q]? = w.heap[q]?) : TRow B w' u ks := by
 refine ⟨h.1, ?_⟩
 rcases h.2 with hn | ⟨g, cap, cur, rfl, h1, hg, rest⟩
 ·exact .inl hn
 ·refine .inr ⟨g, cap, cur, rfl, h1, ?_, rest⟩
  rw [hb g rfl]
  exact hg
structure Trow (w0 W : World) (v : Value) (L : List Tr) : Prop where
 row : TRow w0.heap.size W v (L.map (·.k))
 sep : ∀ t ∈ L, ∀ b, t.R b → v.ownBlock ≠ some b
def Tr.no : Tr := ⟨tno, fun _ => False, Fl.no⟩
section
variable {X g : Nat} {d d' : Int} {w0 W W' : World} {r r' : List Tk.Tok} {L : List Tr} {v : Value}
theorem Trow.lt (h : Trow w0 W v L) {q : Nat} (hq : v.ownBlock = some q) : w0.heap.size ≤ q ∧ q < W.heap.size := World.ownsRow.lt h.row q hq
theorem Trow.step (h : Trow w0 W v L) (hg : g < w0.heap.size) (ho : Og g W W') : Trow w0 W' v L :=
 ⟨h.row.keep2 (fun q hq => by have := h.lt hq; exact ho.2.2 q this.2 (by omega)), h.sep⟩
theorem Trow.nil : Trow w0 W (.slice none 0 0) [] := ⟨World.ownsRow_nil _ _ _ _, fun _ ht => nomatch ht⟩
theorem Trow.one {t : Tr} (hq : Hq X g d w0 W r (t :: L)) : Trow w0 (W.alloc (.cells #[tv t.k] 77)) (.slice (some ⟨W.heap.size, 0, none⟩) 1 1) [t] := by
 refine ⟨⟨rfl, .inr ⟨W.heap.size, 1, #[tv t.k], rfl, hq.og.2.1, heap_alloc_new W _, Nat.le_refl _, by decide, rfl, rfl⟩⟩, fun t' ht' b hb e => ?_⟩
 obtain rfl : t' = t := by simpa using ht'
 have h1 := (hq.tr t' (List.mem_cons_self ..)).1.1 b hb
 have h2 : W.heap.size = b := by simpa [Value.ownBlock] using e
 omega
theorem Trow.push {ops : Array Oper} {rest : List Oper} {o : Oper} {a : Act} {Q : Exit → Act → World → Prop} {t : Tr} (hr : Trow w0 W v L) (hq : Hq X g d w0 W r (t :: L)) (hsep : ∀ b, t.R b → v.ownBlock ≠ some b)
  (hgd : o.guard = none) (s x : Operand) (ho : o.op = .call { callee := .builtin .append, args := #[s, x], argTypes := #[65, 65] })
  (hs : a.eval s = v) (z : Value) (hz : z = tv t.k) (hx : a.eval x = .slice (some ⟨W.heap.size, 0, none⟩) 1 1) (hlen : L.length < 1000000)
  (h : ∀ v' w', Hq X g d w0 w' r (L ++ [t]) → Trow w0 w' v' (L ++ [t]) → wpList Tryz.prog ops Q rest (a.put o.dst v') w') :
  wpList Tryz.prog ops Q (o :: rest) a (W.alloc (.cells #[z] 77)) := by
 refine hr.row.push2 hgd s x ho hs z t.k hz hx (by simpa using hlen) hq.og.2.1 ?_
 intro q cap w' h2 h4 h5 henv hkeep
 have hmem : ∀ t' ∈ L ++ [t], t' ∈ t :: L := fun t' ht' => by
  rcases List.mem_append.1 ht' with h1 | h1
  ·exact List.mem_cons_of_mem _ h1
  ·obtain rfl : t' = t := by simpa using h1
   exact List.mem_cons_self ..
 have hsepA : ∀ t' ∈ t :: L, ∀ b, t'.R b → v.ownBlock ≠ some b := fun t' ht' => by
  rcases List.mem_cons.1 ht' with e | h1
  ·subst e; exact hsep
  ·exact hr.sep t' h1
 refine h _ w' ?_ ?_
 ·cases hv : v.ownBlock with
  | none => exact (hq.other (b := W.heap.size) ⟨henv, h5, fun k hk _ => hkeep k hk (by rw [hv]; exact fun e => nomatch e)⟩ hq.og.2.1 (fun t' ht' hb => by have := (hq.tr t' ht').1.1 _ hb; omega)).sub hmem
  | some b0 => exact (hq.other (b := b0) ⟨henv, h5, fun k hk hne => hkeep k hk (by rw [hv]; intro e; exact hne (Option.some.inj e).symm)⟩ (hr.lt hv).1 (fun t' ht' hb => hsepA t' ht' b0 hb hv)).sub hmem
 ·refine ⟨by simpa using h2, fun t' ht' b hb e => ?_⟩
  have e2 : q = b := by simpa [Value.ownBlock] using e
  subst e2
  rcases h4 with h4 | h4
  ·exact hsepA t' (hmem t' ht') q hb h4
  ·have := (hq.tr t' (hmem t' ht')).1.1 q hb
   omega
theorem Trow.cells (hr : Trow w0 W v L) : ∃ pa pc, v = .slice pa (L.map (·.k)).length pc ∧ (0 < (L.map (·.k)).length → ∃ pb po, pa = some ⟨pb, po, none⟩ ∧ pb < W.heap.size ∧ w0.heap.size ≤ pb ∧ ∀ i, i < (L.map (·.k)).length → W.cell? ⟨pb, po + i, none⟩ = some (.iface ((L.map (·.k)).getD i tno).1 ((L.map (·.k)).getD i tno).2)) := by
 have hc := hr.row
 rcases hr.row.2 with ⟨rfl, hn⟩ | ⟨gb, cap, cur, rfl, h1, hg, rest⟩
 ·exact ⟨none, 0, by rw [hn], fun h0 => by omega⟩
 ·refine ⟨_, cap, rfl, fun _ => ⟨gb, 0, rfl, (Array.getElem?_eq_some_iff.1 hg).1, h1, fun j hj => ?_⟩⟩
  rw [Nat.zero_add]
  exact hc.cells rfl j hj
theorem Trow.has (hq : Hq X g d w0 W r L) (i : Nat) (hi : i < L.length) : Adds (L.getD i Tr.no).R W (L.getD i Tr.no).k (L.getD i Tr.no).G ∧ ∀ b, (L.getD i Tr.no).R b → w0.heap.size ≤ b := by
 refine hq.tr _ ?_
 rw [show L.getD i Tr.no = L[i] by simp [hi]]
 exact List.getElem_mem hi
theorem Tr.getk (L : List Tr) (i : Nat) (hi : i < L.length) : (L.map (·.k)).getD i tno = (L.getD i Tr.no).k := by simp [hi]
theorem Tr.getG (L : List Tr) (i : Nat) (hi : i < L.length) : (L.map (·.G)).getD i Fl.no = (L.getD i Tr.no).G := by simp [hi]
set_option maxRecDepth 100000 in
set_option maxHeartbeats 1000000 in
theorem Trow.print (hr : Trow w0 W v L) (hq : Hq X g d w0 W r L) (hl : L.length ≤ 1000) : ∃ R, Adds R W (162, .agg #[v]) (Fl.node 17 [] (L.map (·.G))) ∧ ∀ b, R b → w0.heap.size ≤ b := by
 obtain ⟨pa, pc, e, hc⟩ := hr.cells
 obtain ⟨kt, hkt⟩ : ∃ kt, kt = L.map (·.k) := ⟨_, rfl⟩
 obtain ⟨Gs, hGs⟩ : ∃ Gs, Gs = L.map (·.G) := ⟨_, rfl⟩
 rw [← hkt] at e hc
 rw [← hGs]
 have hln : kt.length = L.length := by rw [hkt]; simp
 have hgl : Gs.length = kt.length := by rw [hkt, hGs]; simp
 have hA := adds_print pa pc kt Gs (fun i => (L.getD i Tr.no).R) W hgl (by omega) (fun h0 => by
  obtain ⟨pb, po, e, h1, -, h2⟩ := hc h0
  exact ⟨pb, po, e, h1, h2⟩) (fun i hi => by
  rw [hkt, hGs, Tr.getk L i (by omega), Tr.getG L i (by omega)]
  exact (Trow.has hq i (by omega)).1)
 rw [← e] at hA
 refine ⟨_, hA, fun b hb => ?_⟩
 rcases hb with ⟨h0, hb⟩ | ⟨i, hi, hb⟩
 ·obtain ⟨pb, po, rfl, -, h1, -⟩ := hc h0
  obtain rfl : pb = b := by simpa using hb
  exact h1
 ·exact (Trow.has hq i (by omega)).2 b hb
set_option maxRecDepth 100000 in
set_option maxHeartbeats 1000000 in
theorem Trow.block (hr : Trow w0 W v L) (hq : Hq X g d w0 W r L) (hl : L.length ≤ 1000) : ∃ R, Adds R W (170, .agg #[v]) (Fl.node 24 [] (L.map (·.G))) ∧ ∀ b, R b → w0.heap.size ≤ b := by
 obtain ⟨pa, pc, e, hc⟩ := hr.cells
 obtain ⟨kt, hkt⟩ : ∃ kt, kt = L.map (·.k) := ⟨_, rfl⟩
 obtain ⟨Gs, hGs⟩ : ∃ Gs, Gs = L.map (·.G) := ⟨_, rfl⟩
 rw [← hkt] at e hc
 rw [← hGs]
 have hln : kt.length = L.length := by rw [hkt]; simp
 have hgl : Gs.length = kt.length := by rw [hkt, hGs]; simp
 have hA := adds_block pa pc kt Gs (fun i => (L.getD i Tr.no).R) W hgl (by omega) (fun h0 => by
  obtain ⟨pb, po, e, h1, -, h2⟩ := hc h0
  exact ⟨pb, po, e, h1, h2⟩) (fun i hi => by
  rw [hkt, hGs, Tr.getk L i (by omega), Tr.getG L i (by omega)]
  exact (Trow.has hq i (by omega)).1)
 rw [← e] at hA
 refine ⟨_, hA, fun b hb => ?_⟩
 rcases hb with ⟨h0, hb⟩ | ⟨i, hi, hb⟩
 ·obtain ⟨pb, po, rfl, -, h1, -⟩ := hc h0
  obtain rfl : pb = b := by simpa using hb
  exact h1
 ·exact (Trow.has hq i (by omega)).2 b hb
end
namespace Ip
def more (E : Rd) : Nat → List (Nat → List Pi) → List Tk.Tok → Option (List (Nat → List Pi) × List Tk.Tok)
 | 0, Gs, ts => some (Gs, ts)
 | f + 1, Gs, ts =>
  match want 5 [44] ts with
  | none => some (Gs, ts)
  | some r => (E r).bind fun q => more E f (Gs ++ [q.1]) q.2
def printed (E : Rd) : Rd := fun ts => (E ts).bind fun q => (more E q.2.length [q.1] q.2).map fun z => (Fl.node 17 [] z.1, z.2)
end Ip
theorem want_len1 {k : Nat} {x : List UInt8} {ts r : List Tk.Tok} (h : Ip.want k x ts = some r) : ts.length = r.length + 1 := by
 obtain ⟨t, rfl, -⟩ := want_some h
 simp
set_option maxHeartbeats 2000000 in
set_option maxRecDepth 100000 in
theorem rdsPrinted (X g : Nat) (d : Int) (E : Ip.Rd) (hE : Rds X g 119 [] d E) (se : Ip.Shr E) : RdsB X g 171 [] d (Ip.printed E) := by
 intro ts w hlen h
 have H0 := hidOf2 (Hq.start h)
 have C1 := hidOf2 (hE ts w h)
 have HE := hidOf2 hE
 have SE := hidOf2 se
 clear hE se h
 obtain ⟨V, hV⟩ : ∃ V, V = Ip.printed E ts := ⟨_, rfl⟩
 rw [← hV]
 unfold Ip.printed at hV
 go_enter Tryz.func171, Tryz.ntmps171
 cases hu : E ts with
 | none =>
  rw [hu] at C1 hV
  have HV : Hid (V = none) := hV
  clear hu hV HE
  go_wp2_with fail
  refine C1.out.mono ?_
  rintro e w1 ⟨rfl, hbd⟩
  have HO := hidOf2 hbd
  clear hbd
  unfold noProg
  go_wp2
  rw [HV.out]
  exact ⟨rfl, rfl, H0.out.bad HO.out⟩
 | some q =>
  obtain ⟨G1, r1⟩ := q
  have hl1 := SE.out ts G1 r1 hu
  rw [hu] at C1 hV
  have HV : Hid ((Ip.more E r1.length [G1] r1).map (fun z => (Fl.node 17 [] z.1, z.2)) = V) := hV.symm
  clear hu hV
  go_wp2_with fail
  refine C1.out.mono ?_
  rintro e w1 ⟨T1, y1, R1, rfl, hq1, ho1, ha1, hR1⟩
  have H1 := hidOf2 (H0.out.got hq1 ho1 ha1 hR1)
  have HI : Hid (∃ (L : List Tr) (us : List Tk.Tok) (f : Nat), Hq X g d w (w1.alloc (.cells #[.iface T1 y1] 77)) us L ∧ Trow w (w1.alloc (.cells #[.iface T1 y1] 77)) (.slice (some ⟨w1.heap.size, 0, none⟩) 1 1) L ∧ us.length ≤ f ∧ L.length + us.length ≤ 201 ∧ (Ip.more E f (L.map (·.G)) us).map (fun z => (Fl.node 17 [] z.1, z.2)) = V) :=
   ⟨[⟨(T1, y1), R1, G1⟩], r1, r1.length, H1.out.alloc _, Trow.one H1.out, Nat.le_refl _, by simp; omega, HV.out⟩
  clear hq1 ho1 ha1 hR1 C1 H0 H1 HV
  go_wp2_with fail
  go_loopw [3] (fun u3 wr => Hid (∃ (L : List Tr) (us : List Tk.Tok) (f : Nat), Hq X g d w wr us L ∧ Trow w wr u3 L ∧ us.length ≤ f ∧ L.length + us.length ≤ 201 ∧ (Ip.more E f (L.map (·.G)) us).map (fun z => (Fl.node 17 [] z.1, z.2)) = V)) (fun _ wr => Rx.many g wr)
  case atStart => exact HI
  case round =>
   clear HI
   have HRL := hrel
   clear hrel
   obtain ⟨L, us, f, hq, hrow, hf, hln, hv⟩ := HRL.out
   have HQ := hidOf2 hq
   have HR := hidOf2 hrow
   have HM : Hid (Rx.many g wr = us.length) := hq.q.rt.many
   clear HRL hq hrow
   cases hw : Ip.want 5 [44] us with
   | none =>
    have C2 := hidOf2 (rrTakes_no X g d us 5 [44] wr HQ.out.q.rt (want_none hw))
    have HV : Hid (V = some (Fl.node 17 [] (L.map (·.G)), us)) := by
     show _ = _
     rw [← hv]
     cases f with
     | zero => rfl
     | succ f => rw [Ip.more, hw]; rfl
    clear hv hw
    go_wp2_with fail
    refine C2.out.mono ?_
    rintro e w2 ⟨rfl, rfl⟩
    have HF : Hid (∀ W, Below w2.heap.size w2 W → Got X g w d (some (Fl.node 17 [] (L.map (·.G)), us)) (.returned (.iface 162 (.agg #[u3]))) W) := fun W hb => by
     obtain ⟨R, hA, hRb⟩ := (HR.out.step HQ.out.lt (Og.of hb)).print (HQ.out.below hb) (by omega)
     exact (HQ.out.below hb).fin hA hRb
    obtain ⟨pa, pc, e⟩ := HR.out.row.form
    rw [List.length_map] at e
    subst e
    clear HM HE SE
    go_wp2
    go_ret
    rw [HV.out]
    exact HF.out _ (by first | exact Below.refl _ _ | exact (Below.refl _ _).drew)
   | some r2 =>
    have hl2 := want_len1 hw
    obtain ⟨f, rfl⟩ : ∃ f', f = f' + 1 := ⟨f - 1, by omega⟩
    have hv2 : ((E r2).bind fun q => Ip.more E f (L.map (·.G) ++ [q.1]) q.2).map (fun z => (Fl.node 17 [] z.1, z.2)) = V := by rw [← hv, Ip.more, hw]
    clear hv
    obtain ⟨t2, rfl, hi⟩ := want_some hw
    have C2 := hidOf2 (rrTakes_yes X g d t2 r2 5 [44] wr HQ.out.q.rt hi)
    clear hw hi
    have HV2 := hidOf2 hv2
    clear hv2
    go_wp2_with fail
    refine C2.out.mono ?_
    rintro e w2 ⟨rfl, h2, ho2⟩
    have H2 := hidOf2 (HQ.out.step h2 ho2)
    have K2 := hidOf2 (HR.out.step HQ.out.lt ho2)
    have C3 := hidOf2 (HE.out r2 w2 H2.out.q)
    have hv2 := HV2.out
    clear h2 ho2 C2 HQ HR HV2
    cases hu : E r2 with
    | none =>
     rw [hu] at C3 hv2
     have HV : Hid (V = none) := hv2.symm
     clear hu hv2 HE
     go_wp2_with fail
     refine C3.out.mono ?_
     rintro e w3 ⟨rfl, hbd⟩
     have HO := hidOf2 hbd
     clear hbd
     unfold noProg
     go_wp2
     rw [HV.out]
     exact ⟨rfl, rfl, H2.out.bad HO.out⟩
    | some q =>
     obtain ⟨G3, r3⟩ := q
     have hl3 := SE.out r2 G3 r3 hu
     rw [hu] at C3 hv2
     have HV : Hid ((Ip.more E f (L.map (·.G) ++ [G3]) r3).map (fun z => (Fl.node 17 [] z.1, z.2)) = V) := hv2
     clear hu hv2
     go_wp2_with fail
     refine C3.out.mono ?_
     rintro e w3 ⟨T3, y3, R3, rfl, hq3, ho3, ha3, hR3⟩
     have H3 := hidOf2 (H2.out.got hq3 ho3 ha3 hR3)
     have K3 := hidOf2 (K2.out.step H2.out.lt ho3)
     have KS := hidOf2 (show ∀ b, R3 b → u3.ownBlock ≠ some b from fun b hb e => by have h1 := (K2.out.lt e).2; have h2 := hR3 b hb; omega)
     clear hq3 ho3 ha3 hR3 C3 H2 K2
     go_wp2_with (at_builtin; go_must (refine K3.out.push (t := ⟨(T3, y3), R3, G3⟩) H3.out KS.out rfl _ _ rfl rfl _ rfl rfl ?hl ?_))
     case hl => omega
     intro v' w4 hq4 hr4
     have H4 : Hid (∃ (L : List Tr) (us : List Tk.Tok) (f : Nat), Hq X g d w w4 us L ∧ Trow w w4 v' L ∧ us.length ≤ f ∧ L.length + us.length ≤ 201 ∧ (Ip.more E f (L.map (·.G)) us).map (fun z => (Fl.node 17 [] z.1, z.2)) = V) :=
      ⟨L ++ [⟨(T3, y3), R3, G3⟩], r3, f, hq4, hr4, by simp only [List.length_cons] at hf; omega, by simp only [List.length_cons, List.length_append, List.length_nil] at hln ⊢; omega, by rw [List.map_append]; exact HV.out⟩
     have HMM : Hid (Rx.many g w4 = r3.length) := hq4.q.rt.many
     clear hq4 hr4 H3 K3 KS HV
     go_wp2
     go_roundw
     case rel => exact H4
     case measure =>
      have a := HM.out
      have b := HMM.out
      simp only [List.length_cons] at a
      omega
end PartRsC
end Go.Proofs.YtkfkbdgfnopokaaGreatDoor
