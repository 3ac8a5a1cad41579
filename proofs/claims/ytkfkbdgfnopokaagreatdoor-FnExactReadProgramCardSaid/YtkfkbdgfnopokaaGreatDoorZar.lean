/- The program's reader of a program: blocks. The program's reader of a program: statements at every depth. -/
import Derived.Test.YtkfkbdgfnopokaaGreatDoorZaq
namespace Go.Proofs.YtkfkbdgfnopokaaGreatDoor
section PartRsD
open Go.RowKit
theorem Rx.ends_len (ts : List Tk.Tok) : (Rx.ends ts).length ≤ ts.length := by
 induction ts with
 | nil => exact Nat.le_refl _
 | cons t r ih =>
  rw [Rx.ends]
  split
  ·simp only [List.length_cons]; omega
  ·exact Nat.le_refl _
namespace Ip
def Shs (F : Rd) : Prop := ∀ ts G r, F ts = some (G, r) → r.length + 1 ≤ ts.length
theorem Shs.shr {F : Rd} (h : Shs F) : Shr F := fun ts G r e => by have := h ts G r e; omega
def blockL (S : Rd) : Nat → List (Nat → List Pi) → List Tk.Tok → Option (List (Nat → List Pi) × List Tk.Tok)
 | 0, _, _ => none
 | f + 1, Gs, ts =>
  match want 5 [125] ts with
  | some r => some (Gs, r)
  | none => (S ts).bind fun q => if Rx.is q.2 5 [125] = true then blockL S f (Gs ++ [q.1]) q.2 else (want 6 [59] q.2).bind fun r2 => blockL S f (Gs ++ [q.1]) (Rx.ends r2)
def block (S : Rd) : Rd := fun ts => (want 5 [123] ts).bind fun r => (blockL S (r.length + 1) [] (Rx.ends r)).map fun z => (Fl.node 24 [] z.1, z.2)
end Ip
theorem rrIsT (X g : Nat) (d : Int) (ts : List Tk.Tok) (kind : Nat) (x : List UInt8) (b : Bool) (w : World) (h : Rt X g w ts d) (hb : Rx.is ts kind x = b) :
  Calls Tryz.prog 118 #[.pointer (some ⟨g, 0, none⟩), .int .i64 (kind : Int), .string ⟨x.toArray⟩] w fun e w' => e = .returned (.bool b) ∧ w' = w := by
 obtain ⟨hX, L, h1, h2⟩ := h
 rw [← hb]
 exact rrIs X g d L ts kind x w h1 h2
set_option maxHeartbeats 4000000 in
set_option maxRecDepth 100000 in
theorem rdsBlock (X g : Nat) (d : Int) (S : Ip.Rd) (hS : RdsB X g 139 [] d S) (ss : Ip.Shs S) : RdsB X g 120 [] d (Ip.block S) := by
 intro ts w hlen h
 have H0 := hidOf2 (Hq.start h)
 have HS := hidOf2 hS
 have SS := hidOf2 ss
 clear hS ss
 obtain ⟨V, hV⟩ : ∃ V, V = Ip.block S ts := ⟨_, rfl⟩
 rw [← hV]
 unfold Ip.block at hV
 go_enter Tryz.func120, Tryz.ntmps120
 cases hq : Ip.want 5 [123] ts with
 | none =>
  have C1 := hidOf2 (rrWant_no X g d ts 5 [123] w h.rt (want_none hq))
  rw [hq] at hV
  have HV : Hid (V = none) := hV
  clear hq hV h HS
  go_wp2_with fail
  refine C1.out.mono ?_
  rintro e w1 ⟨rfl, rfl⟩
  unfold noProg
  go_wp2
  rw [HV.out]
  exact ⟨rfl, rfl, H0.out.og⟩
 | some r1 =>
  rw [hq] at hV
  have HV : Hid ((Ip.blockL S (r1.length + 1) [] (Rx.ends r1)).map (fun z => (Fl.node 24 [] z.1, z.2)) = V) := hV.symm
  have hl1 := want_len1 hq
  obtain ⟨t1, rfl, hi⟩ := want_some hq
  have C1 := hidOf2 (rrWant_yes X g d t1 r1 5 [123] w h.rt hi)
  clear hq hV hi h
  go_wp2_with fail
  refine C1.out.mono ?_
  rintro e w1 ⟨rfl, h1, ho1⟩
  have H1 := hidOf2 (H0.out.step h1 ho1)
  have C2 := hidOf2 (rrEnds X g d r1 w1 H1.out.q.rt)
  clear h1 ho1 C1 H0
  go_wp2_with fail
  refine C2.out.mono ?_
  rintro e w2 ⟨rfl, h2, ho2⟩
  have hle := Rx.ends_len r1
  have HI : Hid (∃ (L : List Tr) (us : List Tk.Tok) (f : Nat), Hq X g d w w2 us L ∧ Trow w w2 (.slice none 0 0) L ∧ us.length + 1 ≤ f ∧ L.length + us.length ≤ 200 ∧ (Ip.blockL S f (L.map (·.G)) us).map (fun z => (Fl.node 24 [] z.1, z.2)) = V) :=
   ⟨[], Rx.ends r1, r1.length + 1, H1.out.step h2 ho2, Trow.nil, by omega, by simp; omega, HV.out⟩
  clear h2 ho2 C2 H1 HV hle
  go_wp2_with fail
  go_loopw [3] (fun u3 wr => Hid (∃ (L : List Tr) (us : List Tk.Tok) (f : Nat), Hq X g d w wr us L ∧ Trow w wr u3 L ∧ us.length + 1 ≤ f ∧ L.length + us.length ≤ 200 ∧ (Ip.blockL S f (L.map (·.G)) us).map (fun z => (Fl.node 24 [] z.1, z.2)) = V)) (fun _ wr => Rx.many g wr)
  case atStart => exact HI
  case round =>
   clear HI
   have HRL := hrel
   clear hrel
   obtain ⟨L, us, f, hq, hrow, hf, hln, hv⟩ := HRL.out
   have HQ := hidOf2 hq
   have HR := hidOf2 hrow
   have HM : Hid (Rx.many g wr = us.length) := hq.q.rt.many
   clear HRL hq hrow
   obtain ⟨f, rfl⟩ : ∃ f', f = f' + 1 := ⟨f - 1, by omega⟩
   rw [Ip.blockL] at hv
   cases hw : Ip.want 5 [125] us with
   | some r2 =>
    rw [hw] at hv
    have HV : Hid (V = some (Fl.node 24 [] (L.map (·.G)), r2)) := hv.symm
    obtain ⟨t2, rfl, hi⟩ := want_some hw
    have C2 := hidOf2 (rrTakes_yes X g d t2 r2 5 [125] wr HQ.out.q.rt hi)
    clear hv hw hi
    go_wp2_with fail
    refine C2.out.mono ?_
    rintro e w2 ⟨rfl, h2, ho2⟩
    have HF : Hid (Got X g w d (some (Fl.node 24 [] (L.map (·.G)), r2)) (.returned (.iface 170 (.agg #[u3]))) w2) := by
     have h3 := HQ.out.step h2 ho2
     obtain ⟨R, hA, hRb⟩ := (HR.out.step HQ.out.lt ho2).block h3 (by omega)
     exact h3.fin hA hRb
    obtain ⟨pa, pc, e⟩ := HR.out.row.form
    rw [List.length_map] at e
    subst e
    clear HM HS SS h2 ho2 C2
    go_wp2
    go_ret
    rw [HV.out]
    exact HF.out
   | none =>
    rw [hw] at hv
    have C2 := hidOf2 (rrTakes_no X g d us 5 [125] wr HQ.out.q.rt (want_none hw))
    have HV2 : Hid (((S us).bind fun q => if Rx.is q.2 5 [125] = true then Ip.blockL S f (L.map (·.G) ++ [q.1]) q.2 else (Ip.want 6 [59] q.2).bind fun r2 => Ip.blockL S f (L.map (·.G) ++ [q.1]) (Rx.ends r2)).map (fun z => (Fl.node 24 [] z.1, z.2)) = V) := hv
    clear hw hv
    go_wp2_with fail
    refine C2.out.mono ?_
    rintro e w2 ⟨rfl, rfl⟩
    have C3 := hidOf2 (HS.out us w2 (by omega) HQ.out.q)
    have hv2 := HV2.out
    clear C2 HV2
    cases hu : S us with
    | none =>
     rw [hu] at C3 hv2
     have HV : Hid (V = none) := hv2.symm
     clear hu hv2 HS
     go_wp2_with fail
     refine C3.out.mono ?_
     rintro e w3 ⟨rfl, hbd⟩
     have HO := hidOf2 hbd
     clear hbd
     unfold noProg
     go_wp2
     rw [HV.out]
     exact ⟨rfl, rfl, HQ.out.bad HO.out⟩
    | some q =>
     obtain ⟨G3, r3⟩ := q
     have hl3 := SS.out us G3 r3 hu
     rw [hu] at C3 hv2
     have HV3 : Hid ((if Rx.is r3 5 [125] = true then Ip.blockL S f (L.map (·.G) ++ [G3]) r3 else (Ip.want 6 [59] r3).bind fun r2 => Ip.blockL S f (L.map (·.G) ++ [G3]) (Rx.ends r2)).map (fun z => (Fl.node 24 [] z.1, z.2)) = V) := hv2
     clear hu hv2
     go_wp2_with fail
     refine C3.out.mono ?_
     rintro e w3 ⟨T3, y3, R3, rfl, hq3, ho3, ha3, hR3⟩
     have H3 := hidOf2 (HQ.out.got hq3 ho3 ha3 hR3)
     have K3 := hidOf2 (HR.out.step HQ.out.lt ho3)
     have KS := hidOf2 (show ∀ b, R3 b → u3.ownBlock ≠ some b from fun b hb e => by have h1 := (HR.out.lt e).2; have h2 := hR3 b hb; omega)
     clear hq3 ho3 ha3 hR3 C3 HQ HR
     go_wp2_with (at_builtin; go_must (refine K3.out.push (t := ⟨(T3, y3), R3, G3⟩) H3.out KS.out rfl _ _ rfl rfl _ rfl rfl ?hl ?_))
     case hl => omega
     intro v' w4 hq4 hr4
     have H4 := hidOf2 hq4
     have K4 := hidOf2 hr4
     have hv3 := HV3.out
     clear hq4 hr4 H3 K3 KS HV3
     cases his : Rx.is r3 5 [125] with
     | true =>
      have C5 := hidOf2 (rrIsT X g d r3 5 [125] true w4 H4.out.q.rt his)
      rw [if_pos his] at hv3
      have H5 : Hid (∃ (L : List Tr) (us : List Tk.Tok) (f : Nat), Hq X g d w w4 us L ∧ Trow w w4 v' L ∧ us.length + 1 ≤ f ∧ L.length + us.length ≤ 200 ∧ (Ip.blockL S f (L.map (·.G)) us).map (fun z => (Fl.node 24 [] z.1, z.2)) = V) :=
       ⟨L ++ [⟨(T3, y3), R3, G3⟩], r3, f, H4.out, K4.out, by omega, by simp only [List.length_cons, List.length_append, List.length_nil] at hln ⊢; omega, by rw [List.map_append]; exact hv3⟩
      have HMM : Hid (Rx.many g w4 = r3.length) := H4.out.q.rt.many
      clear his hv3 H4 K4
      go_wp2_with fail
      refine C5.out.mono ?_
      rintro e w5 ⟨rfl, rfl⟩
      go_wp2
      go_roundw
      case rel => exact H5
      case measure =>
       have a := HM.out
       have b := HMM.out
       omega
     | false =>
      have C5 := hidOf2 (rrIsT X g d r3 5 [125] false w4 H4.out.q.rt his)
      rw [if_neg (by rw [his]; decide)] at hv3
      have HV4 := hidOf2 hv3
      clear his hv3
      go_wp2_with fail
      refine C5.out.mono ?_
      rintro e w5 ⟨rfl, rfl⟩
      clear C5
      have hv4 := HV4.out
      clear HV4
      cases hw6 : Ip.want 6 [59] r3 with
      | none =>
       rw [hw6] at hv4
       have HV : Hid (V = none) := hv4.symm
       have C6 := hidOf2 (rrWant_no X g d r3 6 [59] w5 H4.out.q.rt (want_none hw6))
       clear hw6 hv4 HS
       go_wp2_with fail
       refine C6.out.mono ?_
       rintro e w6 ⟨rfl, rfl⟩
       unfold noProg
       go_wp2
       rw [HV.out]
       exact ⟨rfl, rfl, H4.out.og⟩
      | some r6 =>
       rw [hw6] at hv4
       have hl6 := want_len1 hw6
       have hv5 : (Ip.blockL S f (L.map (·.G) ++ [G3]) (Rx.ends r6)).map (fun z => (Fl.node 24 [] z.1, z.2)) = V := hv4
       have HV5 := hidOf2 hv5
       obtain ⟨t6, rfl, hi⟩ := want_some hw6
       have C6 := hidOf2 (rrWant_yes X g d t6 r6 6 [59] w5 H4.out.q.rt hi)
       clear hw6 hi hv4 hv5
       go_wp2_with fail
       refine C6.out.mono ?_
       rintro e w6 ⟨rfl, h6, ho6⟩
       have H6 := hidOf2 (H4.out.step h6 ho6)
       have K6 := hidOf2 (K4.out.step H4.out.lt ho6)
       have C7 := hidOf2 (rrEnds X g d r6 w6 H6.out.q.rt)
       clear h6 ho6 C6 H4 K4
       go_wp2_with fail
       refine C7.out.mono ?_
       rintro e w7 ⟨rfl, h7, ho7⟩
       have hle := Rx.ends_len r6
       have H7 := hidOf2 (H6.out.step h7 ho7)
       have H8 : Hid (∃ (L : List Tr) (us : List Tk.Tok) (f : Nat), Hq X g d w w7 us L ∧ Trow w w7 v' L ∧ us.length + 1 ≤ f ∧ L.length + us.length ≤ 200 ∧ (Ip.blockL S f (L.map (·.G)) us).map (fun z => (Fl.node 24 [] z.1, z.2)) = V) :=
        ⟨L ++ [⟨(T3, y3), R3, G3⟩], Rx.ends r6, f, H7.out, K6.out.step H6.out.lt ho7, by omega, by simp only [List.length_cons, List.length_append, List.length_nil] at hln ⊢; omega, by rw [List.map_append]; exact HV5.out⟩
       have HMM : Hid (Rx.many g w7 = (Rx.ends r6).length) := H7.out.q.rt.many
       have HLE := hidOf2 hle
       clear h7 ho7 C7 H6 K6 H7 hle HV5
       go_wp2
       go_roundw
       case rel => exact H8
       case measure =>
        have a := HM.out
        have b := HMM.out
        have c := HLE.out
        omega
end PartRsD
section PartRsE
open Go.RowKit
namespace Ip
def dumpOf : Rd
 | [] => none
 | t :: r => if t.kind = 1 ∧ Pg.words.contains t.text = false then some (Fl.node 25 t.text [], r) else none
def stHere (B P C Z : Rd) : Rd := fun ts =>
 if Rx.is ts 5 [123] = true then B ts else
 match want 1 [112, 114, 105, 110, 116] ts with
 | some r => P r
 | none => match want 1 [110, 101, 120, 116] ts with
  | some r => some (Fl.node 23 [] [], r)
  | none => match want 1 [100, 117, 109, 112] ts with
   | some r => dumpOf r
   | none => match want 1 [105, 102] ts with
    | some r => C r
    | none => Z ts
end Ip
set_option maxHeartbeats 1000000 in
set_option maxRecDepth 100000 in
theorem sth_block (X g : Nat) (d : Int) (ts : List Tk.Tok) (w : World) (hlen : ts.length ≤ 200) (h : Rq X g w ts d) (nb : Rx.is ts 5 [123] = true) (F : Ip.Rd) (hC : RdsB X g 120 [] d F) :
  Calls Tryz.prog 159 #[.pointer (some ⟨g, 0, none⟩)] w (Got X g w d (F ts)) := by
 have H0 := hidOf2 (Hq.start h)
 have CB := hidOf2 (rrIsT X g d ts 5 [123] true w h.rt nb)
 have HC := hidOf2 hC
 clear h nb hC
 obtain ⟨V, hV⟩ : ∃ V, V = F ts := ⟨_, rfl⟩
 rw [← hV]
 have HVV := hidOf2 hV
 clear hV
 go_enter Tryz.func159, Tryz.ntmps159
 go_wp2_with fail
 refine CB.out.mono ?_
 rintro e wb ⟨rfl, rfl⟩
 clear CB
 have CT := hidOf2 (HC.out ts wb (by omega) H0.out.q)
 clear HC
 cases hu : F ts with
 | none =>
  rw [hu] at CT
  have HV : Hid (V = none) := hidOf2 (HVV.out.trans hu)
  clear hu HVV
  go_wp2_with fail
  refine CT.out.mono ?_
  rintro e w5 ⟨rfl, hbd⟩
  have HO := hidOf2 hbd
  clear hbd
  unfold noProg
  go_wp2
  rw [HV.out]
  exact ⟨rfl, rfl, H0.out.bad HO.out⟩
 | some q =>
  obtain ⟨G9, r9⟩ := q
  rw [hu] at CT
  have HV : Hid (V = some (G9, r9)) := hidOf2 (HVV.out.trans hu)
  clear hu HVV
  go_wp2_with fail
  refine CT.out.mono ?_
  rintro e w9 ⟨T9, y9, R9, rfl, hq9, ho9, ha9, hR9⟩
  have H9 := hidOf2 (H0.out.got hq9 ho9 ha9 hR9)
  clear hq9 ho9 ha9 hR9 CT H0
  go_wp2
  go_ret
  rw [HV.out]
  exact H9.out.fin (H9.out.tr _ (List.mem_cons_self ..)).1 (H9.out.tr _ (List.mem_cons_self ..)).2
set_option maxHeartbeats 1000000 in
set_option maxRecDepth 100000 in
theorem sth_print (X g : Nat) (d : Int) (ts : List Tk.Tok) (w : World) (hlen : ts.length ≤ 200) (h : Rq X g w ts d) (nb : Rx.is ts 5 [123] = false)  (r : List Tk.Tok) (hy : Ip.want 1 [112, 114, 105, 110, 116] ts = some r) (F : Ip.Rd) (hC : RdsB X g 171 [] d F) :
  Calls Tryz.prog 159 #[.pointer (some ⟨g, 0, none⟩)] w (Got X g w d (F r)) := by
 have H0 := hidOf2 (Hq.start h)
 have CB := hidOf2 (rrIsT X g d ts 5 [123] false w h.rt nb)
 have hly := want_len1 hy
 obtain ⟨t, rfl, hi⟩ := want_some hy
 have CY := hidOf2 (rrTakes_yes X g d t r 1 [112, 114, 105, 110, 116] w h.rt hi)
 clear hy hi
 clear h nb
 have HC := hidOf2 hC
 clear hC
 obtain ⟨V, hV⟩ : ∃ V, V = (F r) := ⟨_, rfl⟩
 rw [← hV]
 have HVV := hidOf2 hV
 clear hV
 go_enter Tryz.func159, Tryz.ntmps159
 go_wp2_with fail
 refine CB.out.mono ?_
 rintro e wb ⟨rfl, rfl⟩
 clear CB
 go_wp2_with fail
 refine CY.out.mono ?_
 rintro e w1 ⟨rfl, h1, ho1⟩
 have H1 := hidOf2 (H0.out.step h1 ho1)
 clear h1 ho1 CY H0
 have CT := hidOf2 (HC.out r w1 (by omega) H1.out.q)
 clear HC
 cases hu : F r with
 | none =>
  rw [hu] at CT
  have HV : Hid (V = none) := hidOf2 (HVV.out.trans hu)
  clear hu HVV
  go_wp2_with fail
  refine CT.out.mono ?_
  rintro e w5 ⟨rfl, hbd⟩
  have HO := hidOf2 hbd
  clear hbd
  unfold noProg
  go_wp2
  rw [HV.out]
  exact ⟨rfl, rfl, H1.out.bad HO.out⟩
 | some q =>
  obtain ⟨G9, r9⟩ := q
  rw [hu] at CT
  have HV : Hid (V = some (G9, r9)) := hidOf2 (HVV.out.trans hu)
  clear hu HVV
  go_wp2_with fail
  refine CT.out.mono ?_
  rintro e w9 ⟨T9, y9, R9, rfl, hq9, ho9, ha9, hR9⟩
  have H9 := hidOf2 (H1.out.got hq9 ho9 ha9 hR9)
  clear hq9 ho9 ha9 hR9 CT H1
  go_wp2
  go_ret
  rw [HV.out]
  exact H9.out.fin (H9.out.tr _ (List.mem_cons_self ..)).1 (H9.out.tr _ (List.mem_cons_self ..)).2
set_option maxHeartbeats 1000000 in
set_option maxRecDepth 100000 in
theorem sth_next (X g : Nat) (d : Int) (ts : List Tk.Tok) (w : World) (hlen : ts.length ≤ 200) (h : Rq X g w ts d) (nb : Rx.is ts 5 [123] = false) (n0 : Ip.want 1 [112, 114, 105, 110, 116] ts = none) (r : List Tk.Tok) (hy : Ip.want 1 [110, 101, 120, 116] ts = some r) :
  Calls Tryz.prog 159 #[.pointer (some ⟨g, 0, none⟩)] w (Got X g w d (some (Fl.node 23 [] [], r))) := by
 have H0 := hidOf2 (Hq.start h)
 have CB := hidOf2 (rrIsT X g d ts 5 [123] false w h.rt nb)
 have C0 := hidOf2 (rrTakes_no X g d ts 1 [112, 114, 105, 110, 116] w h.rt (want_none n0))
 have hly := want_len1 hy
 obtain ⟨t, rfl, hi⟩ := want_some hy
 have CY := hidOf2 (rrTakes_yes X g d t r 1 [110, 101, 120, 116] w h.rt hi)
 clear hy hi
 clear h nb n0
 obtain ⟨V, hV⟩ : ∃ V, V = (some (Fl.node 23 [] [], r)) := ⟨_, rfl⟩
 rw [← hV]
 have HVV := hidOf2 hV
 clear hV
 go_enter Tryz.func159, Tryz.ntmps159
 go_wp2_with fail
 refine CB.out.mono ?_
 rintro e wb ⟨rfl, rfl⟩
 clear CB
 go_wp2_with fail
 refine C0.out.mono ?_
 rintro e v0 ⟨rfl, rfl⟩
 clear C0
 go_wp2_with fail
 refine CY.out.mono ?_
 rintro e w1 ⟨rfl, h1, ho1⟩
 have H1 := hidOf2 (H0.out.step h1 ho1)
 clear h1 ho1 CY H0
 go_wp2
 go_ret
 rw [HVV.out]
 exact H1.out.fin (R := fun _ => False) (adds_next _) (fun b hb => hb.elim)
set_option maxHeartbeats 1000000 in
set_option maxRecDepth 100000 in
theorem sth_dump (X g : Nat) (d : Int) (ts : List Tk.Tok) (w : World) (hlen : ts.length ≤ 200) (h : Rq X g w ts d) (nb : Rx.is ts 5 [123] = false) (n0 : Ip.want 1 [112, 114, 105, 110, 116] ts = none) (n1 : Ip.want 1 [110, 101, 120, 116] ts = none) (r : List Tk.Tok) (hy : Ip.want 1 [100, 117, 109, 112] ts = some r) :
  Calls Tryz.prog 159 #[.pointer (some ⟨g, 0, none⟩)] w (Got X g w d (Ip.dumpOf r)) := by
 have H0 := hidOf2 (Hq.start h)
 have CB := hidOf2 (rrIsT X g d ts 5 [123] false w h.rt nb)
 have C0 := hidOf2 (rrTakes_no X g d ts 1 [112, 114, 105, 110, 116] w h.rt (want_none n0))
 have C1 := hidOf2 (rrTakes_no X g d ts 1 [110, 101, 120, 116] w h.rt (want_none n1))
 have hly := want_len1 hy
 obtain ⟨t, rfl, hi⟩ := want_some hy
 have CY := hidOf2 (rrTakes_yes X g d t r 1 [100, 117, 109, 112] w h.rt hi)
 clear hy hi
 clear h nb n0 n1
 obtain ⟨V, hV⟩ : ∃ V, V = (Ip.dumpOf r) := ⟨_, rfl⟩
 rw [← hV]
 have HVV := hidOf2 hV
 clear hV
 go_enter Tryz.func159, Tryz.ntmps159
 go_wp2_with fail
 refine CB.out.mono ?_
 rintro e wb ⟨rfl, rfl⟩
 clear CB
 go_wp2_with fail
 refine C0.out.mono ?_
 rintro e v0 ⟨rfl, rfl⟩
 clear C0
 go_wp2_with fail
 refine C1.out.mono ?_
 rintro e v1 ⟨rfl, rfl⟩
 clear C1
 go_wp2_with fail
 refine CY.out.mono ?_
 rintro e w1 ⟨rfl, h1, ho1⟩
 have H1 := hidOf2 (H0.out.step h1 ho1)
 clear h1 ho1 CY H0
 by_cases hk : ∃ t2 r2, r = t2 :: r2 ∧ t2.kind = 1 ∧ Pg.words.contains t2.text = false
 ·obtain ⟨t2, r2, rfl, hk1, hk2⟩ := hk
  have HV : Hid (V = some (Fl.node 25 t2.text [], r2)) := hidOf2 (HVV.out.trans (by simp only [Ip.dumpOf]; rw [if_pos ⟨hk1, hk2⟩]))
  have C2 := hidOf2 (rrName_yes X g d t2 r2 w1 H1.out.q.rt hk1 hk2)
  clear HVV hk1 hk2
  obtain ⟨S, hS⟩ : ∃ S : ByteArray, S = ⟨t2.text.toArray⟩ := ⟨_, rfl⟩
  rw [← hS] at C2
  have HS := hidOf2 hS
  clear hS
  go_wp2_with fail
  refine C2.out.mono ?_
  rintro e w2 ⟨rfl, h2, ho2⟩
  have H2 := hidOf2 (H1.out.step h2 ho2)
  clear h2 ho2 C2 H1
  go_wp2
  go_ret
  rw [HV.out]
  refine H2.out.fin (R := fun _ => False) ?_ (fun b hb => hb.elim)
  rw [HS.out]
  exact adds_dump t2.text _
 ·have C2 : Hid (Calls Tryz.prog 172 #[.pointer (some ⟨g, 0, none⟩)] w1 fun e w' => e = noProg ∧ Og g w1 w') := by
   cases r with
   | nil => exact (rrName_none X g d [] w1 H1.out.q.rt rfl).mono (by rintro e w' ⟨rfl, rfl⟩; exact ⟨rfl, Og.refl _ _⟩)
   | cons t2 r2 =>
    by_cases hk1 : t2.kind = 1
    ·refine rrName_word X g d t2 r2 w1 H1.out.q.rt hk1 ?_
     cases hw : Pg.words.contains t2.text with
     | true => rfl
     | false => exact absurd ⟨t2, r2, rfl, hk1, hw⟩ hk
    ·exact (rrName_none X g d (t2 :: r2) w1 H1.out.q.rt (by simp [Rx.isOf, hk1])).mono (by rintro e w' ⟨rfl, rfl⟩; exact ⟨rfl, Og.refl _ _⟩)
  have HV : Hid (V = none) := hidOf2 (HVV.out.trans (by
   cases r with
   | nil => rfl
   | cons t2 r2 => simp only [Ip.dumpOf]; rw [if_neg (fun e => hk ⟨t2, r2, rfl, e.1, e.2⟩)]))
  clear HVV hk
  go_wp2_with fail
  refine C2.out.mono ?_
  rintro e w2 ⟨rfl, hbd⟩
  have HO := hidOf2 hbd
  clear hbd
  unfold noProg
  go_wp2
  rw [HV.out]
  exact ⟨rfl, rfl, H1.out.bad HO.out⟩
set_option maxHeartbeats 1000000 in
set_option maxRecDepth 100000 in
theorem sth_if (X g : Nat) (d : Int) (ts : List Tk.Tok) (w : World) (hlen : ts.length ≤ 200) (h : Rq X g w ts d) (nb : Rx.is ts 5 [123] = false) (n0 : Ip.want 1 [112, 114, 105, 110, 116] ts = none) (n1 : Ip.want 1 [110, 101, 120, 116] ts = none) (n2 : Ip.want 1 [100, 117, 109, 112] ts = none) (r : List Tk.Tok) (hy : Ip.want 1 [105, 102] ts = some r) (F : Ip.Rd) (hC : RdsB X g 173 [] d F) :
  Calls Tryz.prog 159 #[.pointer (some ⟨g, 0, none⟩)] w (Got X g w d (F r)) := by
 have H0 := hidOf2 (Hq.start h)
 have CB := hidOf2 (rrIsT X g d ts 5 [123] false w h.rt nb)
 have C0 := hidOf2 (rrTakes_no X g d ts 1 [112, 114, 105, 110, 116] w h.rt (want_none n0))
 have C1 := hidOf2 (rrTakes_no X g d ts 1 [110, 101, 120, 116] w h.rt (want_none n1))
 have C2 := hidOf2 (rrTakes_no X g d ts 1 [100, 117, 109, 112] w h.rt (want_none n2))
 have hly := want_len1 hy
 obtain ⟨t, rfl, hi⟩ := want_some hy
 have CY := hidOf2 (rrTakes_yes X g d t r 1 [105, 102] w h.rt hi)
 clear hy hi
 clear h nb n0 n1 n2
 have HC := hidOf2 hC
 clear hC
 obtain ⟨V, hV⟩ : ∃ V, V = (F r) := ⟨_, rfl⟩
 rw [← hV]
 have HVV := hidOf2 hV
 clear hV
 go_enter Tryz.func159, Tryz.ntmps159
 go_wp2_with fail
 refine CB.out.mono ?_
 rintro e wb ⟨rfl, rfl⟩
 clear CB
 go_wp2_with fail
 refine C0.out.mono ?_
 rintro e v0 ⟨rfl, rfl⟩
 clear C0
 go_wp2_with fail
 refine C1.out.mono ?_
 rintro e v1 ⟨rfl, rfl⟩
 clear C1
 go_wp2_with fail
 refine C2.out.mono ?_
 rintro e v2 ⟨rfl, rfl⟩
 clear C2
 go_wp2_with fail
 refine CY.out.mono ?_
 rintro e w1 ⟨rfl, h1, ho1⟩
 have H1 := hidOf2 (H0.out.step h1 ho1)
 clear h1 ho1 CY H0
 have CT := hidOf2 (HC.out r w1 (by omega) H1.out.q)
 clear HC
 cases hu : F r with
 | none =>
  rw [hu] at CT
  have HV : Hid (V = none) := hidOf2 (HVV.out.trans hu)
  clear hu HVV
  go_wp2_with fail
  refine CT.out.mono ?_
  rintro e w5 ⟨rfl, hbd⟩
  have HO := hidOf2 hbd
  clear hbd
  unfold noProg
  go_wp2
  rw [HV.out]
  exact ⟨rfl, rfl, H1.out.bad HO.out⟩
 | some q =>
  obtain ⟨G9, r9⟩ := q
  rw [hu] at CT
  have HV : Hid (V = some (G9, r9)) := hidOf2 (HVV.out.trans hu)
  clear hu HVV
  go_wp2_with fail
  refine CT.out.mono ?_
  rintro e w9 ⟨T9, y9, R9, rfl, hq9, ho9, ha9, hR9⟩
  have H9 := hidOf2 (H1.out.got hq9 ho9 ha9 hR9)
  clear hq9 ho9 ha9 hR9 CT H1
  go_wp2
  go_ret
  rw [HV.out]
  exact H9.out.fin (H9.out.tr _ (List.mem_cons_self ..)).1 (H9.out.tr _ (List.mem_cons_self ..)).2
set_option maxHeartbeats 1000000 in
set_option maxRecDepth 100000 in
theorem sth_set (X g : Nat) (d : Int) (ts : List Tk.Tok) (w : World) (hlen : ts.length ≤ 200) (h : Rq X g w ts d) (nb : Rx.is ts 5 [123] = false) (n0 : Ip.want 1 [112, 114, 105, 110, 116] ts = none) (n1 : Ip.want 1 [110, 101, 120, 116] ts = none) (n2 : Ip.want 1 [100, 117, 109, 112] ts = none) (n3 : Ip.want 1 [105, 102] ts = none) (F : Ip.Rd) (hC : RdsB X g 174 [] d F) :
  Calls Tryz.prog 159 #[.pointer (some ⟨g, 0, none⟩)] w (Got X g w d (F ts)) := by
 have H0 := hidOf2 (Hq.start h)
 have CB := hidOf2 (rrIsT X g d ts 5 [123] false w h.rt nb)
 have C0 := hidOf2 (rrTakes_no X g d ts 1 [112, 114, 105, 110, 116] w h.rt (want_none n0))
 have C1 := hidOf2 (rrTakes_no X g d ts 1 [110, 101, 120, 116] w h.rt (want_none n1))
 have C2 := hidOf2 (rrTakes_no X g d ts 1 [100, 117, 109, 112] w h.rt (want_none n2))
 have C3 := hidOf2 (rrTakes_no X g d ts 1 [105, 102] w h.rt (want_none n3))
 clear h nb n0 n1 n2 n3
 have HC := hidOf2 hC
 clear hC
 obtain ⟨V, hV⟩ : ∃ V, V = (F ts) := ⟨_, rfl⟩
 rw [← hV]
 have HVV := hidOf2 hV
 clear hV
 go_enter Tryz.func159, Tryz.ntmps159
 go_wp2_with fail
 refine CB.out.mono ?_
 rintro e wb ⟨rfl, rfl⟩
 clear CB
 go_wp2_with fail
 refine C0.out.mono ?_
 rintro e v0 ⟨rfl, rfl⟩
 clear C0
 go_wp2_with fail
 refine C1.out.mono ?_
 rintro e v1 ⟨rfl, rfl⟩
 clear C1
 go_wp2_with fail
 refine C2.out.mono ?_
 rintro e v2 ⟨rfl, rfl⟩
 clear C2
 go_wp2_with fail
 refine C3.out.mono ?_
 rintro e v3 ⟨rfl, rfl⟩
 clear C3
 have CT := hidOf2 (HC.out ts v3 (by omega) H0.out.q)
 clear HC
 cases hu : F ts with
 | none =>
  rw [hu] at CT
  have HV : Hid (V = none) := hidOf2 (HVV.out.trans hu)
  clear hu HVV
  go_wp2_with fail
  refine CT.out.mono ?_
  rintro e w5 ⟨rfl, hbd⟩
  have HO := hidOf2 hbd
  clear hbd
  unfold noProg
  go_wp2
  rw [HV.out]
  exact ⟨rfl, rfl, H0.out.bad HO.out⟩
 | some q =>
  obtain ⟨G9, r9⟩ := q
  rw [hu] at CT
  have HV : Hid (V = some (G9, r9)) := hidOf2 (HVV.out.trans hu)
  clear hu HVV
  go_wp2_with fail
  refine CT.out.mono ?_
  rintro e w9 ⟨T9, y9, R9, rfl, hq9, ho9, ha9, hR9⟩
  have H9 := hidOf2 (H0.out.got hq9 ho9 ha9 hR9)
  clear hq9 ho9 ha9 hR9 CT H0
  go_wp2
  go_ret
  rw [HV.out]
  exact H9.out.fin (H9.out.tr _ (List.mem_cons_self ..)).1 (H9.out.tr _ (List.mem_cons_self ..)).2
theorem rdsStHere (X g : Nat) (d : Int) (B P C Z : Ip.Rd) (hB : RdsB X g 120 [] d B) (hP : RdsB X g 171 [] d P) (hC : RdsB X g 173 [] d C) (hZ : RdsB X g 174 [] d Z) : RdsB X g 159 [] d (Ip.stHere B P C Z) := by
 intro ts w hlen h
 unfold Ip.stHere
 cases hb : Rx.is ts 5 [123] with
 | true =>
  rw [if_pos rfl]
  exact sth_block X g d ts w hlen h hb B hB
 | false =>
  rw [if_neg (by decide)]
  cases h0 : Ip.want 1 [112, 114, 105, 110, 116] ts with
  | some r => exact sth_print X g d ts w hlen h hb r h0 P hP
  | none =>
   cases h1 : Ip.want 1 [110, 101, 120, 116] ts with
   | some r => exact sth_next X g d ts w hlen h hb h0 r h1
   | none =>
    cases h2 : Ip.want 1 [100, 117, 109, 112] ts with
    | some r => exact sth_dump X g d ts w hlen h hb h0 h1 r h2
    | none =>
     cases h3 : Ip.want 1 [105, 102] ts with
     | some r => exact sth_if X g d ts w hlen h hb h0 h1 h2 r h3 C hC
     | none => exact sth_set X g d ts w hlen h hb h0 h1 h2 h3 Z hZ
set_option maxHeartbeats 1000000 in
set_option maxRecDepth 100000 in
theorem rdsStatement (X g : Nat) (d : Int) (H : Ip.Rd) (h0 : 0 ≤ d) (h1 : d < 30) (hH : RdsB X g 159 [] (d + 1) H) : RdsB X g 139 [] d H := by
 intro ts w hlen h
 have CD := hidOf2 (rrDown_yes X g d ts w h.rt h0 h1)
 have HH := hidOf2 (Hq.start h)
 have HR := hidOf2 hH
 clear h hH
 obtain ⟨V, hV⟩ : ∃ V, V = H ts := ⟨_, rfl⟩
 rw [← hV]
 go_enter Tryz.func139, Tryz.ntmps139
 go_wp2_with fail
 refine CD.out.mono ?_
 rintro e w1 ⟨rfl, hr1, ho1⟩
 have H1 := hidOf2 (HH.out.step hr1 ho1)
 have C4 := hidOf2 (HR.out ts w1 hlen H1.out.q)
 clear hr1 ho1 CD HH HR
 cases hu : H ts with
 | none =>
  rw [hu] at C4
  have HV : Hid (V = none) := hidOf2 (hV.trans hu)
  clear hu hV
  go_wp2_with fail
  refine C4.out.mono ?_
  rintro e w4 ⟨rfl, hbd⟩
  have HO := hidOf2 hbd
  clear hbd
  unfold noProg
  go_wp2
  rw [HV.out]
  exact ⟨rfl, rfl, H1.out.bad HO.out⟩
 | some q =>
  obtain ⟨G, r4⟩ := q
  rw [hu] at C4
  have HV : Hid (V = some (G, r4)) := hidOf2 (hV.trans hu)
  clear hu hV
  go_wp2_with fail
  refine C4.out.mono ?_
  rintro e w4 ⟨T, y, R, rfl, hq4, ho4, ha4, hR4⟩
  have H4 := hidOf2 (H1.out.got hq4 ho4 ha4 hR4)
  have CU := hidOf2 (rrUp X g (d + 1) r4 w4 hq4.rt (by omega) (by omega))
  clear hq4 ho4 ha4 hR4 H1 C4
  go_wp2_with fail
  refine CU.out.mono ?_
  rintro e w5 ⟨rfl, h5, ho5⟩
  rw [show d + 1 - 1 = d by omega] at h5
  have H5 := hidOf2 (H4.out.step h5 ho5)
  clear h5 ho5 H4 CU
  go_wp2
  go_ret
  rw [HV.out]
  exact H5.out.fin (H5.out.tr _ (List.mem_cons_self ..)).1 (H5.out.tr _ (List.mem_cons_self ..)).2
set_option maxHeartbeats 1000000 in
set_option maxRecDepth 100000 in
theorem rdsStatement_no (X g : Nat) : RdsB X g 139 [] 30 (fun _ => none) := by
 intro ts w hlen h
 have CD := hidOf2 (rrDown_no X g ts w h.rt)
 clear h
 go_enter Tryz.func139, Tryz.ntmps139
 go_wp2_with fail
 refine CD.out.mono ?_
 rintro e w1 ⟨rfl, ho⟩
 have HO := hidOf2 ho
 clear ho
 unfold noProg
 go_wp2
 exact ⟨rfl, rfl, HO.out⟩
namespace Ip
def ST : Nat → Rd
 | 0 => fun _ => none
 | n + 1 => stHere (block (ST n)) (printed (SE n).2) (choice (upTo (SE n).2 [41]) (ST n)) (setting (SE n).2 (upTo (SE n).2 [93]))
theorem shr_more {E : Rd} (h : Shr E) : ∀ (f : Nat) (Gs : List (Nat → List Pi)) (ts : List Tk.Tok) (z : List (Nat → List Pi)) (r : List Tk.Tok), more E f Gs ts = some (z, r) → r.length ≤ ts.length
 | 0, Gs, ts, z, r, e => by
  simp only [more, Option.some.injEq, Prod.mk.injEq] at e
  obtain ⟨-, rfl⟩ := e
  exact Nat.le_refl _
 | f + 1, Gs, ts, z, r, e => by
  simp only [more] at e
  split at e
  ·simp only [Option.some.injEq, Prod.mk.injEq] at e
   obtain ⟨-, rfl⟩ := e
   exact Nat.le_refl _
  ·rename_i r1 hw
   simp only [Option.bind_eq_some_iff] at e
   obtain ⟨q, h1, h2⟩ := e
   have a := shr_more h f _ _ _ _ h2
   have b := h _ _ _ h1
   have c := want_len1 hw
   omega
theorem shr_printed {E : Rd} (h : Shr E) : Shr (printed E) := by
 intro ts G r e
 unfold printed at e
 simp only [Option.bind_eq_some_iff, Option.map_eq_some_iff, Prod.mk.injEq] at e
 obtain ⟨q, h1, ⟨z, r2⟩, h2, -, rfl⟩ := e
 have a := shr_more h _ _ _ _ _ h2
 have b := h _ _ _ h1
 simp only
 omega
theorem setOp_len {ts r : List Tk.Tok} {y : Bool} (h : setOp ts = some (y, r)) : ts.length = r.length + 1 := by
 unfold setOp at h
 split at h
 ·rename_i r0 hw
  simp only [Option.some.injEq, Prod.mk.injEq] at h
  obtain ⟨-, rfl⟩ := h
  exact want_len1 hw
 ·split at h
  ·rename_i r0 hw
   simp only [Option.some.injEq, Prod.mk.injEq] at h
   obtain ⟨-, rfl⟩ := h
   exact want_len1 hw
  ·cases h
theorem shs_setting {E U : Rd} (hE : Shr E) (hU : Shr U) : Shs (setting E U) := by
 intro ts G r e
 cases ts with
 | nil => cases e
 | cons t r1 =>
  simp only [setting] at e
  split at e
  ·unfold settingOf at e
   split at e
   ·simp only [Option.bind_eq_some_iff, Option.map_eq_some_iff, Prod.mk.injEq] at e
    obtain ⟨⟨y, r2⟩, h1, q, h2, -, rfl⟩ := e
    have a := setOp_len h1
    have b : q.2.length ≤ r2.length := hE _ _ _ h2
    simp only [List.length_cons]
    omega
   ·rename_i r0 hw
    simp only [Option.bind_eq_some_iff, Option.map_eq_some_iff, Prod.mk.injEq] at e
    obtain ⟨k, h0, ⟨y, r2⟩, h1, q, h2, -, rfl⟩ := e
    have c := want_len1 hw
    have d := hU _ _ _ h0
    have a := setOp_len h1
    have b : q.2.length ≤ r2.length := hE _ _ _ h2
    simp only [List.length_cons]
    omega
  ·cases e
theorem shr_choice {U S : Rd} (hU : Shr U) (hS : Shr S) : Shr (choice U S) := by
 intro ts G r e
 unfold choice at e
 simp only [Option.bind_eq_some_iff] at e
 obtain ⟨r1, h1, k, h2, a, h3, e⟩ := e
 have c1 := want_len1 h1
 have c2 := hU _ _ _ h2
 have c3 := hS _ _ _ h3
 split at e
 ·simp only [Option.some.injEq, Prod.mk.injEq] at e
  obtain ⟨-, rfl⟩ := e
  omega
 ·rename_i r6 hw
  simp only [Option.map_eq_some_iff, Prod.mk.injEq] at e
  obtain ⟨b, h4, -, rfl⟩ := e
  have c4 := want_len1 hw
  have c5 := hS _ _ _ h4
  omega
theorem shr_blockL {S : Rd} (h : Shr S) : ∀ (f : Nat) (Gs : List (Nat → List Pi)) (ts : List Tk.Tok) (z : List (Nat → List Pi)) (r : List Tk.Tok), blockL S f Gs ts = some (z, r) → r.length + 1 ≤ ts.length
 | 0, Gs, ts, z, r, e => by cases e
 | f + 1, Gs, ts, z, r, e => by
  simp only [blockL] at e
  split at e
  ·rename_i r1 hw
   simp only [Option.some.injEq, Prod.mk.injEq] at e
   obtain ⟨-, rfl⟩ := e
   have := want_len1 hw
   omega
  ·simp only [Option.bind_eq_some_iff] at e
   obtain ⟨q, h1, h2⟩ := e
   have b := h _ _ _ h1
   split at h2
   ·have a := shr_blockL h f _ _ _ _ h2
    omega
   ·simp only [Option.bind_eq_some_iff] at h2
    obtain ⟨r2, h3, h4⟩ := h2
    have a := shr_blockL h f _ _ _ _ h4
    have c := want_len1 h3
    have d := Rx.ends_len r2
    omega
theorem shs_block {S : Rd} (h : Shr S) : Shs (block S) := by
 intro ts G r e
 unfold block at e
 simp only [Option.bind_eq_some_iff, Option.map_eq_some_iff, Prod.mk.injEq] at e
 obtain ⟨r1, h1, ⟨z, r2⟩, h2, -, rfl⟩ := e
 have a := want_len1 h1
 have b := shr_blockL h _ _ _ _ _ h2
 have c := Rx.ends_len r1
 simp only
 omega
theorem shs_stHere {B P C Z : Rd} (hB : Shs B) (hP : Shr P) (hC : Shr C) (hZ : Shs Z) : Shs (stHere B P C Z) := by
 intro ts G r e
 unfold stHere at e
 split at e
 ·exact hB _ _ _ e
 ·split at e
  ·rename_i r0 hw
   have a := want_len1 hw
   have b := hP _ _ _ e
   omega
  ·split at e
   ·rename_i r0 hw
    simp only [Option.some.injEq, Prod.mk.injEq] at e
    obtain ⟨-, rfl⟩ := e
    have a := want_len1 hw
    omega
   ·split at e
    ·rename_i r0 hw
     have a := want_len1 hw
     cases r0 with
     | nil => cases e
     | cons t2 r2 =>
      simp only [dumpOf] at e
      split at e
      ·simp only [Option.some.injEq, Prod.mk.injEq] at e
       obtain ⟨-, rfl⟩ := e
       simp only [List.length_cons] at a
       omega
      ·cases e
    ·split at e
     ·rename_i r0 hw
      have a := want_len1 hw
      have b := hC _ _ _ e
      omega
     ·exact hZ _ _ _ e
theorem shs_ST : ∀ n, Shs (ST n)
 | 0 => fun _ _ _ e => nomatch e
 | n + 1 => shs_stHere (shs_block (shs_ST n).shr) (shr_printed (shr_SE n).2) (shr_choice (shr_upTo (shr_SE n).2) (shs_ST n).shr) (shs_setting (shr_SE n).2 (shr_upTo (shr_SE n).2))
end Ip
theorem rdsST (X g : Nat) : ∀ (n : Nat), n ≤ 30 → RdsB X g 139 [] (30 - (n : Int)) (Ip.ST n)
 | 0, _ => by
  show RdsB X g 139 [] (30 - 0) (fun _ => none)
  rw [Int.sub_zero]
  exact rdsStatement_no X g
 | n + 1, hn => by
  have h1 := rdsST X g n (by omega)
  obtain ⟨-, h2⟩ := rdsSE X g n (by omega)
  have e : (30 : Int) - ((n + 1 : Nat) : Int) + 1 = 30 - (n : Int) := by omega
  refine rdsStatement X g _ _ (by omega) (by omega) ?_
  rw [e]
  exact rdsStHere X g _ _ _ _ _ (rdsBlock X g _ _ h1 (Ip.shs_ST n)) (rdsPrinted X g _ _ h2 (Ip.shr_SE n).2) (rdsChoice X g _ _ _ (conUpTo X g _ _ [41] h2) h1 (Ip.shr_upTo (Ip.shr_SE n).2) (Ip.shs_ST n).shr) (Rds.b (rdsSetting X g _ _ _ h2 (conUpTo X g _ _ [93] h2)))
end PartRsE
end Go.Proofs.YtkfkbdgfnopokaaGreatDoor
