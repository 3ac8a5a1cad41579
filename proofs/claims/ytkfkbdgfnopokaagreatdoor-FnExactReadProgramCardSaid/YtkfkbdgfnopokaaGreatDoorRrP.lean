/- The program's reader of a program: rows of each level. -/
import Derived.Test.YtkfkbdgfnopokaaGreatDoorZap
import Derived.Deep.RegionWith
namespace Go.Proofs.YtkfkbdgfnopokaaGreatDoor
open Go.RowKit
set_option maxHeartbeats 1000000 in
set_option maxRecDepth 100000 in
theorem rdsRow2 (X g : Nat) (d : Int) (F : Ip.Rd) (hF : Rds X g 134 [.int .i64 3] d F) (hs : Ip.Shr F) : Rds X g 134 [.int .i64 2] d (Ip.row F 11 12) := by
 intro ts w h
 have C4 := hidOf2 (hF ts w h)
 have HH := hidOf2 h
 have HF1 := hidOf2 hF
 have HS := hidOf2 hs
 clear h hF hs
 obtain ⟨V, hV⟩ : ∃ V, V = Ip.row F 11 12 ts := ⟨_, rfl⟩
 rw [← hV]
 go_enter Tryz.func134, Tryz.ntmps134
 cases hu : F ts with
 | none =>
  rw [hu] at C4
  have HV : Hid (V = none) := hidOf2 (by rw [hV]; unfold Ip.row; rw [hu]; rfl)
  clear hu hV
  go_wp2_with fail
  refine C4.out.mono ?_
  rintro e w4 ⟨rfl, ho4⟩
  have HO := hidOf2 ho4
  clear ho4
  unfold noProg
  go_wp2
  rw [HV.out]
  exact ⟨rfl, rfl, HO.out⟩
 | some q =>
  obtain ⟨G, r4⟩ := q
  rw [hu] at C4
  have HV : Hid (Ip.rowL F 11 12 r4.length G r4 = V) := hidOf2 (by rw [hV]; unfold Ip.row; rw [hu]; rfl)
  clear hu hV
  go_wp2_with fail
  refine C4.out.mono ?_
  rintro e w4 ⟨T, y, R, rfl, hq4, ho4, ha4, hR4⟩
  have HO := hidOf2 (And.intro hq4 (And.intro ho4 (And.intro ha4 hR4)))
  clear hq4 ho4 ha4 hR4 C4
  go_wp2_with fail
  go_loopw [5] (fun wv wr => ∃ (T : TypeId) (y : Value), wv = .iface T y ∧ Hid (∃ (R : Nat → Prop) (G : Nat → List Pi) (us : List Tk.Tok) (f : Nat), Rq X g wr us d ∧ Og g w wr ∧ Adds R wr (T, y) G ∧ (∀ b, R b → w.heap.size ≤ b) ∧ us.length ≤ f ∧ Ip.rowL F 11 12 f G us = V)) (fun _ wr => Rx.many g wr)
  case atStart => exact ⟨T, y, rfl, R, G, r4, r4.length, HO.out.1, HO.out.2.1, HO.out.2.2.1, HO.out.2.2.2, Nat.le_refl _, HV.out⟩
  case round =>
   clear HO HV
   obtain ⟨T, y, rfl, HI⟩ := hrel
   obtain ⟨R, G, us, f, hq, ho, ha, hR, hf, hv⟩ := HI.out
   have HI2 := hidOf2 (And.intro hq (And.intro ho (And.intro ha hR)))
   have r0 := hq.row.2.2.2.2.1
   have r1 := hq.row.2.2.2.2.2
   have CO : Hid (∀ W, Below wr.heap.size wr W → Calls Tryz.prog 135 #[.pointer (some ⟨g, 0, none⟩), .int .i64 11, .int .i64 12] W fun e w' =>
     match Ip.opOf 11 12 us with
     | none => e = .returned (.tuple #[.int .i64 0, .bool false]) ∧ w' = W
     | some (j, r) => e = .returned (.tuple #[.int .i64 (j : Int), .bool true]) ∧ Rt X g w' r d ∧ Og g W w') := fun W hb => rrOp2 X g 11 12 d us W (HI2.out.1.step (HI2.out.1.rt.keep hb) (Og.of hb)) (by omega) (by omega) (by omega)
   have HIW : Hid (∀ W, Below wr.heap.size wr W → Rq X g W us d ∧ Og g w W ∧ Adds R W (T, y) G ∧ ∀ b, R b → w.heap.size ≤ b) := fun W hb =>
    ⟨HI2.out.1.step (HI2.out.1.rt.keep hb) (Og.of hb), HI2.out.2.1.trans (Og.of hb), HI2.out.2.2.1.og (g := g) (Og.of hb) (fun b hb2 e => by have := HI2.out.2.2.2 b hb2; have := HH.out.rt.lt; omega), HI2.out.2.2.2⟩
   have HM : Hid (Rx.many g wr = us.length) := hq.rt.many
   clear HI hq ho ha hR HI2
   cases hop : Ip.opOf 11 12 us with
   | none =>
    rw [hop] at CO
    have HV : Hid (V = some (G, us)) := by
     show _ = _
     rw [← hv]
     cases f with
     | zero => rfl
     | succ f => rw [Ip.rowL, hop]
    clear hv hop
    go_wp2_with fail
    go_region_with (go_at_call 135; refine (CO.out _ (by first | exact Below.refl _ _ | exact (Below.refl _ _).drew)).mono ?_; rintro e w5 ⟨rfl, rfl⟩)
    all_goals
     clear CO HF1 HS HM r0 r1
     go_wp2
     go_ret
     rw [HV.out]
     exact ⟨T, y, R, rfl, HIW.out _ (by first | exact Below.refl _ _ | exact (Below.refl _ _).drew)⟩
   | some q =>
    obtain ⟨j, r⟩ := q
    rw [hop] at CO
    have hlen := opOf_shr hop
    obtain ⟨f, rfl⟩ : ∃ f', f = f' + 1 := ⟨f - 1, by omega⟩
    have hv2 : (F r).bind (fun q => Ip.rowL F 11 12 f (Fl.node j [] [G, q.1]) q.2) = V := by rw [← hv, Ip.rowL, hop]
    clear hv hop
    have CP : Hid (∀ W, Below wr.heap.size wr W → Calls Tryz.prog 135 #[.pointer (some ⟨g, 0, none⟩), .int .i64 11, .int .i64 12] W fun e w' => e = .returned (.tuple #[.int .i64 (j : Int), .bool true]) ∧ Hid (Rq X g w' r d ∧ Og g w w' ∧ Adds R w' (T, y) G ∧ (∀ b, R b → w.heap.size ≤ b) ∧ Calls Tryz.prog 134 #[.pointer (some ⟨g, 0, none⟩), .int .i64 3] w' (Got X g w' d (F r)))) := fun W hb => by
     refine (CO.out W hb).mono ?_
     rintro e w' ⟨rfl, h1, h2⟩
     obtain ⟨i1, i2, i3, i4⟩ := HIW.out W hb
     have i5 := i1.step h1 h2
     exact ⟨rfl, i5, i2.trans h2, i3.og h2 (fun b hb2 e => by have := i4 b hb2; have := HH.out.rt.lt; omega), i4, HF1.out r w' i5⟩
    have hgl := HH.out.rt.lt
    clear CO HIW
    cases hfr : F r with
    | none =>
     rw [hfr] at CP hv2
     have HV : Hid (V = none) := hidOf2 hv2.symm
     clear hfr hv2
     go_wp2_with fail
     go_region_with (go_at_call 135; refine (CP.out _ (by first | exact Below.refl _ _ | exact (Below.refl _ _).drew)).mono ?_; rintro e w5 ⟨rfl, H5⟩)
     all_goals
      clear CP r0 r1 HS HF1
      go_wp2_with fail
      refine H5.out.2.2.2.2.mono ?_
      rintro e w6 ⟨rfl, ho6⟩
      have H6 := hidOf2 (H5.out.2.1.trans ho6)
      clear ho6 H5
      unfold noProg
      go_wp2
      rw [HV.out]
      exact ⟨rfl, rfl, H6.out⟩
    | some q =>
     obtain ⟨G6, r6⟩ := q
     have hs6 := HS.out r G6 r6 hfr
     rw [hfr] at CP hv2
     have HV : Hid (Ip.rowL F 11 12 f (Fl.node j [] [G, G6]) r6 = V) := hidOf2 hv2
     clear hfr hv2
     go_wp2_with fail
     go_region_with (go_at_call 135; refine (CP.out _ (by first | exact Below.refl _ _ | exact (Below.refl _ _).drew)).mono ?_; rintro e w5 ⟨rfl, H5⟩)
     all_goals
      clear CP r0 r1 HS HF1
      go_wp2_with fail
      refine H5.out.2.2.2.2.mono ?_
      rintro e w6 ⟨T6, y6, R6, rfl, hq6, ho6, ha6, hR6⟩
      have H6 : Hid (Rq X g w6 r6 d ∧ Og g w w6 ∧ Adds (or2 R R6) w6 (135, .agg #[.int .i64 (j : Int), .iface T y, .iface T6 y6]) (Fl.node j [] [G, G6]) ∧ ∀ b, or2 R R6 b → w.heap.size ≤ b) :=
       ⟨hq6, H5.out.2.1.trans ho6, adds_two j T y T6 y6 R R6 G G6 w6 (H5.out.2.2.1.og ho6 (fun b hb2 e => by have := H5.out.2.2.2.1 b hb2; omega)) ha6, fun b hb => hb.elim (H5.out.2.2.2.1 b) (fun h => Nat.le_trans H5.out.2.1.2.1 (hR6 b h))⟩
      clear hq6 ho6 ha6 hR6 H5
      go_wp2
      go_roundw
      case rel => exact ⟨135, .agg #[.int .i64 (j : Int), .iface T y, .iface T6 y6], rfl, or2 R R6, Fl.node j [] [G, G6], r6, f, H6.out.1, H6.out.2.1, H6.out.2.2.1, H6.out.2.2.2, by omega, HV.out⟩
      case measure =>
       have a := HM.out
       have b := H6.out.1.rt.many
       omega
set_option maxHeartbeats 1000000 in
set_option maxRecDepth 100000 in
theorem rdsRow1 (X g : Nat) (d : Int) (F : Ip.Rd) (hF : Rds X g 134 [.int .i64 2] d F) (hs : Ip.Shr F) : Rds X g 134 [.int .i64 1] d (Ip.row F 9 10) := by
 intro ts w h
 have C4 := hidOf2 (hF ts w h)
 have HH := hidOf2 h
 have HF1 := hidOf2 hF
 have HS := hidOf2 hs
 clear h hF hs
 obtain ⟨V, hV⟩ : ∃ V, V = Ip.row F 9 10 ts := ⟨_, rfl⟩
 rw [← hV]
 go_enter Tryz.func134, Tryz.ntmps134
 cases hu : F ts with
 | none =>
  rw [hu] at C4
  have HV : Hid (V = none) := hidOf2 (by rw [hV]; unfold Ip.row; rw [hu]; rfl)
  clear hu hV
  go_wp2_with fail
  refine C4.out.mono ?_
  rintro e w4 ⟨rfl, ho4⟩
  have HO := hidOf2 ho4
  clear ho4
  unfold noProg
  go_wp2
  rw [HV.out]
  exact ⟨rfl, rfl, HO.out⟩
 | some q =>
  obtain ⟨G, r4⟩ := q
  rw [hu] at C4
  have HV : Hid (Ip.rowL F 9 10 r4.length G r4 = V) := hidOf2 (by rw [hV]; unfold Ip.row; rw [hu]; rfl)
  clear hu hV
  go_wp2_with fail
  refine C4.out.mono ?_
  rintro e w4 ⟨T, y, R, rfl, hq4, ho4, ha4, hR4⟩
  have HO := hidOf2 (And.intro hq4 (And.intro ho4 (And.intro ha4 hR4)))
  clear hq4 ho4 ha4 hR4 C4
  go_wp2_with fail
  go_loopw [5] (fun wv wr => ∃ (T : TypeId) (y : Value), wv = .iface T y ∧ Hid (∃ (R : Nat → Prop) (G : Nat → List Pi) (us : List Tk.Tok) (f : Nat), Rq X g wr us d ∧ Og g w wr ∧ Adds R wr (T, y) G ∧ (∀ b, R b → w.heap.size ≤ b) ∧ us.length ≤ f ∧ Ip.rowL F 9 10 f G us = V)) (fun _ wr => Rx.many g wr)
  case atStart => exact ⟨T, y, rfl, R, G, r4, r4.length, HO.out.1, HO.out.2.1, HO.out.2.2.1, HO.out.2.2.2, Nat.le_refl _, HV.out⟩
  case round =>
   clear HO HV
   obtain ⟨T, y, rfl, HI⟩ := hrel
   obtain ⟨R, G, us, f, hq, ho, ha, hR, hf, hv⟩ := HI.out
   have HI2 := hidOf2 (And.intro hq (And.intro ho (And.intro ha hR)))
   have r0 := hq.row.2.2.1
   have r1 := hq.row.2.2.2.1
   have CO : Hid (∀ W, Below wr.heap.size wr W → Calls Tryz.prog 135 #[.pointer (some ⟨g, 0, none⟩), .int .i64 9, .int .i64 10] W fun e w' =>
     match Ip.opOf 9 10 us with
     | none => e = .returned (.tuple #[.int .i64 0, .bool false]) ∧ w' = W
     | some (j, r) => e = .returned (.tuple #[.int .i64 (j : Int), .bool true]) ∧ Rt X g w' r d ∧ Og g W w') := fun W hb => rrOp2 X g 9 10 d us W (HI2.out.1.step (HI2.out.1.rt.keep hb) (Og.of hb)) (by omega) (by omega) (by omega)
   have HIW : Hid (∀ W, Below wr.heap.size wr W → Rq X g W us d ∧ Og g w W ∧ Adds R W (T, y) G ∧ ∀ b, R b → w.heap.size ≤ b) := fun W hb =>
    ⟨HI2.out.1.step (HI2.out.1.rt.keep hb) (Og.of hb), HI2.out.2.1.trans (Og.of hb), HI2.out.2.2.1.og (g := g) (Og.of hb) (fun b hb2 e => by have := HI2.out.2.2.2 b hb2; have := HH.out.rt.lt; omega), HI2.out.2.2.2⟩
   have HM : Hid (Rx.many g wr = us.length) := hq.rt.many
   clear HI hq ho ha hR HI2
   cases hop : Ip.opOf 9 10 us with
   | none =>
    rw [hop] at CO
    have HV : Hid (V = some (G, us)) := by
     show _ = _
     rw [← hv]
     cases f with
     | zero => rfl
     | succ f => rw [Ip.rowL, hop]
    clear hv hop
    go_wp2_with fail
    go_region_with (go_at_call 135; refine (CO.out _ (by first | exact Below.refl _ _ | exact (Below.refl _ _).drew)).mono ?_; rintro e w5 ⟨rfl, rfl⟩)
    all_goals
     clear CO HF1 HS HM r0 r1
     go_wp2
     go_ret
     rw [HV.out]
     exact ⟨T, y, R, rfl, HIW.out _ (by first | exact Below.refl _ _ | exact (Below.refl _ _).drew)⟩
   | some q =>
    obtain ⟨j, r⟩ := q
    rw [hop] at CO
    have hlen := opOf_shr hop
    obtain ⟨f, rfl⟩ : ∃ f', f = f' + 1 := ⟨f - 1, by omega⟩
    have hv2 : (F r).bind (fun q => Ip.rowL F 9 10 f (Fl.node j [] [G, q.1]) q.2) = V := by rw [← hv, Ip.rowL, hop]
    clear hv hop
    have CP : Hid (∀ W, Below wr.heap.size wr W → Calls Tryz.prog 135 #[.pointer (some ⟨g, 0, none⟩), .int .i64 9, .int .i64 10] W fun e w' => e = .returned (.tuple #[.int .i64 (j : Int), .bool true]) ∧ Hid (Rq X g w' r d ∧ Og g w w' ∧ Adds R w' (T, y) G ∧ (∀ b, R b → w.heap.size ≤ b) ∧ Calls Tryz.prog 134 #[.pointer (some ⟨g, 0, none⟩), .int .i64 2] w' (Got X g w' d (F r)))) := fun W hb => by
     refine (CO.out W hb).mono ?_
     rintro e w' ⟨rfl, h1, h2⟩
     obtain ⟨i1, i2, i3, i4⟩ := HIW.out W hb
     have i5 := i1.step h1 h2
     exact ⟨rfl, i5, i2.trans h2, i3.og h2 (fun b hb2 e => by have := i4 b hb2; have := HH.out.rt.lt; omega), i4, HF1.out r w' i5⟩
    have hgl := HH.out.rt.lt
    clear CO HIW
    cases hfr : F r with
    | none =>
     rw [hfr] at CP hv2
     have HV : Hid (V = none) := hidOf2 hv2.symm
     clear hfr hv2
     go_wp2_with fail
     go_region_with (go_at_call 135; refine (CP.out _ (by first | exact Below.refl _ _ | exact (Below.refl _ _).drew)).mono ?_; rintro e w5 ⟨rfl, H5⟩)
     all_goals
      clear CP r0 r1 HS HF1
      go_wp2_with fail
      refine H5.out.2.2.2.2.mono ?_
      rintro e w6 ⟨rfl, ho6⟩
      have H6 := hidOf2 (H5.out.2.1.trans ho6)
      clear ho6 H5
      unfold noProg
      go_wp2
      rw [HV.out]
      exact ⟨rfl, rfl, H6.out⟩
    | some q =>
     obtain ⟨G6, r6⟩ := q
     have hs6 := HS.out r G6 r6 hfr
     rw [hfr] at CP hv2
     have HV : Hid (Ip.rowL F 9 10 f (Fl.node j [] [G, G6]) r6 = V) := hidOf2 hv2
     clear hfr hv2
     go_wp2_with fail
     go_region_with (go_at_call 135; refine (CP.out _ (by first | exact Below.refl _ _ | exact (Below.refl _ _).drew)).mono ?_; rintro e w5 ⟨rfl, H5⟩)
     all_goals
      clear CP r0 r1 HS HF1
      go_wp2_with fail
      refine H5.out.2.2.2.2.mono ?_
      rintro e w6 ⟨T6, y6, R6, rfl, hq6, ho6, ha6, hR6⟩
      have H6 : Hid (Rq X g w6 r6 d ∧ Og g w w6 ∧ Adds (or2 R R6) w6 (135, .agg #[.int .i64 (j : Int), .iface T y, .iface T6 y6]) (Fl.node j [] [G, G6]) ∧ ∀ b, or2 R R6 b → w.heap.size ≤ b) :=
       ⟨hq6, H5.out.2.1.trans ho6, adds_two j T y T6 y6 R R6 G G6 w6 (H5.out.2.2.1.og ho6 (fun b hb2 e => by have := H5.out.2.2.2.1 b hb2; omega)) ha6, fun b hb => hb.elim (H5.out.2.2.2.1 b) (fun h => Nat.le_trans H5.out.2.1.2.1 (hR6 b h))⟩
      clear hq6 ho6 ha6 hR6 H5
      go_wp2
      go_roundw
      case rel => exact ⟨135, .agg #[.int .i64 (j : Int), .iface T y, .iface T6 y6], rfl, or2 R R6, Fl.node j [] [G, G6], r6, f, H6.out.1, H6.out.2.1, H6.out.2.2.1, H6.out.2.2.2, by omega, HV.out⟩
      case measure =>
       have a := HM.out
       have b := H6.out.1.rt.many
       omega
set_option maxHeartbeats 1000000 in
set_option maxRecDepth 100000 in
theorem rdsRow0 (X g : Nat) (d : Int) (F : Ip.Rd) (hF : Rds X g 134 [.int .i64 1] d F) (hs : Ip.Shr F) : Rds X g 134 [.int .i64 0] d (Ip.row F 13 13) := by
 intro ts w h
 have C4 := hidOf2 (hF ts w h)
 have HH := hidOf2 h
 have HF1 := hidOf2 hF
 have HS := hidOf2 hs
 clear h hF hs
 obtain ⟨V, hV⟩ : ∃ V, V = Ip.row F 13 13 ts := ⟨_, rfl⟩
 rw [← hV]
 go_enter Tryz.func134, Tryz.ntmps134
 cases hu : F ts with
 | none =>
  rw [hu] at C4
  have HV : Hid (V = none) := hidOf2 (by rw [hV]; unfold Ip.row; rw [hu]; rfl)
  clear hu hV
  go_wp2_with fail
  refine C4.out.mono ?_
  rintro e w4 ⟨rfl, ho4⟩
  have HO := hidOf2 ho4
  clear ho4
  unfold noProg
  go_wp2
  rw [HV.out]
  exact ⟨rfl, rfl, HO.out⟩
 | some q =>
  obtain ⟨G, r4⟩ := q
  rw [hu] at C4
  have HV : Hid (Ip.rowL F 13 13 r4.length G r4 = V) := hidOf2 (by rw [hV]; unfold Ip.row; rw [hu]; rfl)
  clear hu hV
  go_wp2_with fail
  refine C4.out.mono ?_
  rintro e w4 ⟨T, y, R, rfl, hq4, ho4, ha4, hR4⟩
  have HO := hidOf2 (And.intro hq4 (And.intro ho4 (And.intro ha4 hR4)))
  clear hq4 ho4 ha4 hR4 C4
  go_wp2_with fail
  go_loopw [5] (fun wv wr => ∃ (T : TypeId) (y : Value), wv = .iface T y ∧ Hid (∃ (R : Nat → Prop) (G : Nat → List Pi) (us : List Tk.Tok) (f : Nat), Rq X g wr us d ∧ Og g w wr ∧ Adds R wr (T, y) G ∧ (∀ b, R b → w.heap.size ≤ b) ∧ us.length ≤ f ∧ Ip.rowL F 13 13 f G us = V)) (fun _ wr => Rx.many g wr)
  case atStart => exact ⟨T, y, rfl, R, G, r4, r4.length, HO.out.1, HO.out.2.1, HO.out.2.2.1, HO.out.2.2.2, Nat.le_refl _, HV.out⟩
  case round =>
   clear HO HV
   obtain ⟨T, y, rfl, HI⟩ := hrel
   obtain ⟨R, G, us, f, hq, ho, ha, hR, hf, hv⟩ := HI.out
   have HI2 := hidOf2 (And.intro hq (And.intro ho (And.intro ha hR)))
   have r0 := hq.row.1
   have r1 := hq.row.2.1
   have CO : Hid (∀ W, Below wr.heap.size wr W → Calls Tryz.prog 135 #[.pointer (some ⟨g, 0, none⟩), .int .i64 13, .int .i64 13] W fun e w' =>
     match Ip.opOf 13 13 us with
     | none => e = .returned (.tuple #[.int .i64 0, .bool false]) ∧ w' = W
     | some (j, r) => e = .returned (.tuple #[.int .i64 (j : Int), .bool true]) ∧ Rt X g w' r d ∧ Og g W w') := fun W hb => rrOp2 X g 13 13 d us W (HI2.out.1.step (HI2.out.1.rt.keep hb) (Og.of hb)) (by omega) (by omega) (by omega)
   have HIW : Hid (∀ W, Below wr.heap.size wr W → Rq X g W us d ∧ Og g w W ∧ Adds R W (T, y) G ∧ ∀ b, R b → w.heap.size ≤ b) := fun W hb =>
    ⟨HI2.out.1.step (HI2.out.1.rt.keep hb) (Og.of hb), HI2.out.2.1.trans (Og.of hb), HI2.out.2.2.1.og (g := g) (Og.of hb) (fun b hb2 e => by have := HI2.out.2.2.2 b hb2; have := HH.out.rt.lt; omega), HI2.out.2.2.2⟩
   have HM : Hid (Rx.many g wr = us.length) := hq.rt.many
   clear HI hq ho ha hR HI2
   cases hop : Ip.opOf 13 13 us with
   | none =>
    rw [hop] at CO
    have HV : Hid (V = some (G, us)) := by
     show _ = _
     rw [← hv]
     cases f with
     | zero => rfl
     | succ f => rw [Ip.rowL, hop]
    clear hv hop
    go_wp2_with fail
    go_region_with (go_at_call 135; refine (CO.out _ (by first | exact Below.refl _ _ | exact (Below.refl _ _).drew)).mono ?_; rintro e w5 ⟨rfl, rfl⟩)
    all_goals
     clear CO HF1 HS HM r0 r1
     go_wp2
     go_ret
     rw [HV.out]
     exact ⟨T, y, R, rfl, HIW.out _ (by first | exact Below.refl _ _ | exact (Below.refl _ _).drew)⟩
   | some q =>
    obtain ⟨j, r⟩ := q
    rw [hop] at CO
    have hlen := opOf_shr hop
    obtain ⟨f, rfl⟩ : ∃ f', f = f' + 1 := ⟨f - 1, by omega⟩
    have hv2 : (F r).bind (fun q => Ip.rowL F 13 13 f (Fl.node j [] [G, q.1]) q.2) = V := by rw [← hv, Ip.rowL, hop]
    clear hv hop
    have CP : Hid (∀ W, Below wr.heap.size wr W → Calls Tryz.prog 135 #[.pointer (some ⟨g, 0, none⟩), .int .i64 13, .int .i64 13] W fun e w' => e = .returned (.tuple #[.int .i64 (j : Int), .bool true]) ∧ Hid (Rq X g w' r d ∧ Og g w w' ∧ Adds R w' (T, y) G ∧ (∀ b, R b → w.heap.size ≤ b) ∧ Calls Tryz.prog 134 #[.pointer (some ⟨g, 0, none⟩), .int .i64 1] w' (Got X g w' d (F r)))) := fun W hb => by
     refine (CO.out W hb).mono ?_
     rintro e w' ⟨rfl, h1, h2⟩
     obtain ⟨i1, i2, i3, i4⟩ := HIW.out W hb
     have i5 := i1.step h1 h2
     exact ⟨rfl, i5, i2.trans h2, i3.og h2 (fun b hb2 e => by have := i4 b hb2; have := HH.out.rt.lt; omega), i4, HF1.out r w' i5⟩
    have hgl := HH.out.rt.lt
    clear CO HIW
    cases hfr : F r with
    | none =>
     rw [hfr] at CP hv2
     have HV : Hid (V = none) := hidOf2 hv2.symm
     clear hfr hv2
     go_wp2_with fail
     go_region_with (go_at_call 135; refine (CP.out _ (by first | exact Below.refl _ _ | exact (Below.refl _ _).drew)).mono ?_; rintro e w5 ⟨rfl, H5⟩)
     all_goals
      clear CP r0 r1 HS HF1
      go_wp2_with fail
      refine H5.out.2.2.2.2.mono ?_
      rintro e w6 ⟨rfl, ho6⟩
      have H6 := hidOf2 (H5.out.2.1.trans ho6)
      clear ho6 H5
      unfold noProg
      go_wp2
      rw [HV.out]
      exact ⟨rfl, rfl, H6.out⟩
    | some q =>
     obtain ⟨G6, r6⟩ := q
     have hs6 := HS.out r G6 r6 hfr
     rw [hfr] at CP hv2
     have HV : Hid (Ip.rowL F 13 13 f (Fl.node j [] [G, G6]) r6 = V) := hidOf2 hv2
     clear hfr hv2
     go_wp2_with fail
     go_region_with (go_at_call 135; refine (CP.out _ (by first | exact Below.refl _ _ | exact (Below.refl _ _).drew)).mono ?_; rintro e w5 ⟨rfl, H5⟩)
     all_goals
      clear CP r0 r1 HS HF1
      go_wp2_with fail
      refine H5.out.2.2.2.2.mono ?_
      rintro e w6 ⟨T6, y6, R6, rfl, hq6, ho6, ha6, hR6⟩
      have H6 : Hid (Rq X g w6 r6 d ∧ Og g w w6 ∧ Adds (or2 R R6) w6 (135, .agg #[.int .i64 (j : Int), .iface T y, .iface T6 y6]) (Fl.node j [] [G, G6]) ∧ ∀ b, or2 R R6 b → w.heap.size ≤ b) :=
       ⟨hq6, H5.out.2.1.trans ho6, adds_two j T y T6 y6 R R6 G G6 w6 (H5.out.2.2.1.og ho6 (fun b hb2 e => by have := H5.out.2.2.2.1 b hb2; omega)) ha6, fun b hb => hb.elim (H5.out.2.2.2.1 b) (fun h => Nat.le_trans H5.out.2.1.2.1 (hR6 b h))⟩
      clear hq6 ho6 ha6 hR6 H5
      go_wp2
      go_roundw
      case rel => exact ⟨135, .agg #[.int .i64 (j : Int), .iface T y, .iface T6 y6], rfl, or2 R R6, Fl.node j [] [G, G6], r6, f, H6.out.1, H6.out.2.1, H6.out.2.2.1, H6.out.2.2.2, by omega, HV.out⟩
      case measure =>
       have a := HM.out
       have b := H6.out.1.rt.many
       omega
end Go.Proofs.YtkfkbdgfnopokaaGreatDoor
