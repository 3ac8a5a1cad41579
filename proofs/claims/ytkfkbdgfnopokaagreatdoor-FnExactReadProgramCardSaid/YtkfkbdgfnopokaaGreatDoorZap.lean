/- The program's writer of nodes: what a choice adds. The program's reader of a program: contracts of what reads a tree. The program's reader of a program: what begins with one token that says itself what it is. The program's reader of a program: simple ones. The program's reader of a program: one deeper. The program's reader of a program: rows of one level. -/
import Derived.Test.YtkfkbdgfnopokaaGreatDoorRrI
import Derived.Test.YtkfkbdgfnopokaaGreatDoorTrE
namespace Go.Proofs.YtkfkbdgfnopokaaGreatDoor
section PartRrJ
open Go.RowKit
theorem meth_if (x : Value) : ∀ n w, (method (n + 1) 168 x "loop.example/g00237/impl.asNode").run Tryz.prog w = .ok (216, x) w :=
 meth_of (i := Tryz.t168) (m := (Tryz.t168.methods.find? (·.name == "loop.example/g00237/impl.asNode")).getD default) (fun w => by simp [go_sem]) (by kernel_rfl) (by kernel_rfl) (by kernel_rfl) Tryz.underlying168 x
set_option maxHeartbeats 1000000 in
set_option maxRecDepth 100000 in
theorem asN_if2 (T0 : TypeId) (x0 : Value) (T1 : TypeId) (x1 : Value) (w : World) :
  Calls Tryz.prog 216 #[.agg #[.iface T0 x0, .iface T1 x1, .nilIface]] w fun e w' => ∃ q, e = .returned (.tuple #[.int .i64 22, .string ⟨#[]⟩, .slice (some ⟨q, 0, none⟩) 2 2]) ∧ Below w.heap.size w w' ∧ w.heap.size ≤ q ∧ q < w'.heap.size ∧ w'.cell? ⟨q, 0, none⟩ = some (.iface T0 x0) ∧ w'.cell? ⟨q, 1, none⟩ = some (.iface T1 x1) := by
 obtain ⟨m0, m1, m2⟩ := tcells3 (heap_alloc_new w (.cells #[.iface T0 x0, .iface T1 x1, .nilIface] 168))
 have hz : (w.alloc (.cells #[.iface T0 x0, .iface T1 x1, .nilIface] 168)).heap.size = w.heap.size + 1 := by simp
 have HB0 : Hid (Below w.heap.size w (w.alloc (.cells #[.iface T0 x0, .iface T1 x1, .nilIface] 168))) := (Below.refl _ _).alloc (Nat.le_refl _) _
 go_enter Tryz.func216, Tryz.ntmps216
 go_wp2
 generalize w.alloc (.cells #[.iface T0 x0, .iface T1 x1, .nilIface] 168) = w1 at *
 go_region
 go_wp2
 go_ret3
 have hb : Below w.heap.size w ((w1.alloc (.cells #[.iface T0 x0, .iface T1 x1] 77)).drew) := HB0.out.trans ((((Below.refl _ _).alloc (Nat.le_refl _) _).drew).mono HB0.out.size)
 have hq : ((w1.alloc (.cells #[.iface T0 x0, .iface T1 x1] 77)).drew).heap[w1.heap.size]? = some (.cells #[.iface T0 x0, .iface T1 x1] 77 (0, 0)) := heap_alloc_new w1 _
 rw [hz] at hq
 refine ⟨w.heap.size + 1, rfl, hb, by omega, (Array.getElem?_eq_some_iff.1 hq).1, ?_, ?_⟩
 ·exact (tcells2 hq).1
 ·exact (tcells2 hq).2
set_option maxHeartbeats 1000000 in
set_option maxRecDepth 100000 in
theorem asN_if3 (T0 : TypeId) (x0 : Value) (T1 : TypeId) (x1 : Value) (T2 : TypeId) (x2 : Value) (w : World) :
  Calls Tryz.prog 216 #[.agg #[.iface T0 x0, .iface T1 x1, .iface T2 x2]] w fun e w' => ∃ q, e = .returned (.tuple #[.int .i64 22, .string ⟨#[]⟩, .slice (some ⟨q, 0, none⟩) 3 3]) ∧ Below w.heap.size w w' ∧ w.heap.size ≤ q ∧ q < w'.heap.size ∧ w'.cell? ⟨q, 0, none⟩ = some (.iface T0 x0) ∧ w'.cell? ⟨q, 1, none⟩ = some (.iface T1 x1) ∧ w'.cell? ⟨q, 2, none⟩ = some (.iface T2 x2) := by
 obtain ⟨m0, m1, m2⟩ := tcells3 (heap_alloc_new w (.cells #[.iface T0 x0, .iface T1 x1, .iface T2 x2] 168))
 have hz : (w.alloc (.cells #[.iface T0 x0, .iface T1 x1, .iface T2 x2] 168)).heap.size = w.heap.size + 1 := by simp
 have HB0 : Hid (Below w.heap.size w (w.alloc (.cells #[.iface T0 x0, .iface T1 x1, .iface T2 x2] 168))) := (Below.refl _ _).alloc (Nat.le_refl _) _
 go_enter Tryz.func216, Tryz.ntmps216
 go_wp2
 generalize w.alloc (.cells #[.iface T0 x0, .iface T1 x1, .iface T2 x2] 168) = w1 at *
 go_region
 go_wp2
 go_ret3
 have hb : Below w.heap.size w ((w1.alloc (.cells #[.iface T0 x0, .iface T1 x1, .iface T2 x2] 77)).drew) := HB0.out.trans ((((Below.refl _ _).alloc (Nat.le_refl _) _).drew).mono HB0.out.size)
 have hq : ((w1.alloc (.cells #[.iface T0 x0, .iface T1 x1, .iface T2 x2] 77)).drew).heap[w1.heap.size]? = some (.cells #[.iface T0 x0, .iface T1 x1, .iface T2 x2] 77 (0, 0)) := heap_alloc_new w1 _
 rw [hz] at hq
 exact ⟨w.heap.size + 1, rfl, hb, by omega, (Array.getElem?_eq_some_iff.1 hq).1, tcells3 hq⟩
theorem adds_if2 (T0 : TypeId) (x0 : Value) (T1 : TypeId) (x1 : Value) (R S : Nat → Prop) (G H : Nat → List Pi) (w : World) (k0 : Adds R w (T0, x0) G) (k1 : Adds S w (T1, x1) H) : Adds (or2 R S) w (168, .agg #[.iface T0 x0, .iface T1 x1, .nilIface]) (Fl.node 22 [] [G, H]) := by
 refine ⟨fun b hb => hb.elim (k0.1 b) (k1.1 b), fun B h w' hR Xs W nv qs hlo hw hlen => ?_⟩
 refine addC_node B h 22 168 _ 216 [] [(T0, x0), (T1, x1)] [G, H] w' W Xs nv qs (meth_if _) (fun w => call_of Tryz.func216 (by kernel_rfl) (by kernel_rfl) _ w) hlo hw rfl (by simp) (by unfold Fl.node at hlen; simp only [List.length_append, List.length_cons, List.length_nil] at hlen; omega) (fun i hi => ?_) ?_
 ·have h01 : i = 0 ∨ i = 1 := by simp at hi; omega
  rcases h01 with rfl | rfl
  ·exact k0.2 B h w' (fun b hb => hR b (.inl hb))
  ·exact k1.2 B h w' (fun b hb => hR b (.inr hb))
 refine (asN_if2 T0 x0 T1 x1 W).mono ?_
 rintro e w2 ⟨q, rfl, hb, h1, h2, c0, c1⟩
 refine ⟨_, _, rfl, hb, fun _ => ⟨q, 0, rfl, .inr h1, h2, fun i hi => ?_⟩⟩
 have h01 : i = 0 ∨ i = 1 := by simp at hi; omega
 rcases h01 with rfl | rfl
 ·exact c0
 ·exact c1
theorem adds_if3 (T0 : TypeId) (x0 : Value) (T1 : TypeId) (x1 : Value) (T2 : TypeId) (x2 : Value) (R S U : Nat → Prop) (G H J : Nat → List Pi) (w : World) (k0 : Adds R w (T0, x0) G) (k1 : Adds S w (T1, x1) H) (k2 : Adds U w (T2, x2) J) : Adds (or2 R (or2 S U)) w (168, .agg #[.iface T0 x0, .iface T1 x1, .iface T2 x2]) (Fl.node 22 [] [G, H, J]) := by
 refine ⟨fun b hb => hb.elim (k0.1 b) (fun hb => hb.elim (k1.1 b) (k2.1 b)), fun B h w' hR Xs W nv qs hlo hw hlen => ?_⟩
 refine addC_node B h 22 168 _ 216 [] [(T0, x0), (T1, x1), (T2, x2)] [G, H, J] w' W Xs nv qs (meth_if _) (fun w => call_of Tryz.func216 (by kernel_rfl) (by kernel_rfl) _ w) hlo hw rfl (by simp) (by unfold Fl.node at hlen; simp only [List.length_append, List.length_cons, List.length_nil] at hlen; omega) (fun i hi => ?_) ?_
 ·have h01 : i = 0 ∨ i = 1 ∨ i = 2 := by simp at hi; omega
  rcases h01 with rfl | rfl | rfl
  ·exact k0.2 B h w' (fun b hb => hR b (.inl hb))
  ·exact k1.2 B h w' (fun b hb => hR b (.inr (.inl hb)))
  ·exact k2.2 B h w' (fun b hb => hR b (.inr (.inr hb)))
 refine (asN_if3 T0 x0 T1 x1 T2 x2 W).mono ?_
 rintro e w2 ⟨q, rfl, hb, h1, h2, c0, c1, c2⟩
 refine ⟨_, _, rfl, hb, fun _ => ⟨q, 0, rfl, .inr h1, h2, fun i hi => ?_⟩⟩
 have h01 : i = 0 ∨ i = 1 ∨ i = 2 := by simp at hi; omega
 rcases h01 with rfl | rfl | rfl
 ·exact c0
 ·exact c1
 ·exact c2
end PartRrJ
section PartRrK
open Go.RowKit
def RowO (w : World) : Prop := w.cell? ⟨2, 0, none⟩ = some (.int .i64 13) ∧ w.cell? ⟨2, 1, none⟩ = some (.int .i64 13) ∧ w.cell? ⟨2, 2, none⟩ = some (.int .i64 9) ∧ w.cell? ⟨2, 3, none⟩ = some (.int .i64 10) ∧ w.cell? ⟨2, 4, none⟩ = some (.int .i64 11) ∧ w.cell? ⟨2, 5, none⟩ = some (.int .i64 12)
structure Rq (X g : Nat) (w : World) (ts : List Tk.Tok) (d : Int) : Prop where
 rt : Rt X g w ts d
 two : TwoS w
 row : RowO w
 lo : 0 < X ∧ 2 < X
theorem Og.two {X g : Nat} {w w' : World} (ho : Og g w w') (h : TwoS w) (hl : 0 < X) (hX : X ≤ g) : TwoS w' := by
 have k : ∀ {j : Nat} {x : Value}, w.cell? ⟨0, j, none⟩ = some x → w'.cell? ⟨0, j, none⟩ = some x := fun h => ho.cell (fun e => by simp only at e; omega) h
 exact ⟨k h.1, k h.2.1, k h.2.2.1, k h.2.2.2.1, k h.2.2.2.2.1, k h.2.2.2.2.2.1, k h.2.2.2.2.2.2⟩
theorem Og.row {X g : Nat} {w w' : World} (ho : Og g w w') (h : RowO w) (hl : 2 < X) (hX : X ≤ g) : RowO w' := by
 have k : ∀ {j : Nat} {x : Value}, w.cell? ⟨2, j, none⟩ = some x → w'.cell? ⟨2, j, none⟩ = some x := fun h => ho.cell (fun e => by simp only at e; omega) h
 exact ⟨k h.1, k h.2.1, k h.2.2.1, k h.2.2.2.1, k h.2.2.2.2.1, k h.2.2.2.2.2⟩
theorem Rq.step {X g : Nat} {w w' : World} {ts ts' : List Tk.Tok} {d d' : Int} (h : Rq X g w ts d) (h2 : Rt X g w' ts' d') (ho : Og g w w') : Rq X g w' ts' d' := ⟨h2, ho.two h.two h.lo.1 h.rt.1, ho.row h.row h.lo.2 h.rt.1, h.lo⟩
theorem Adds.og {R : Nat → Prop} {g : Nat} {w w' : World} {k : TypeId × Value} {G : Nat → List Pi} (h : Adds R w k G) (ho : Og g w w') (hg : ∀ b, R b → b ≠ g) : Adds R w' k G := h.keep ho.2.1 (fun b hb => ho.2.2 b (h.1 b hb) (hg b hb))
namespace Ip
abbrev Rd := List Tk.Tok → Option ((Nat → List Pi) × List Tk.Tok)
def want (k : Nat) (x : List UInt8) : List Tk.Tok → Option (List Tk.Tok)
 | [] => none
 | t :: r => if Rx.is (t :: r) k x = true then some r else none
def upTo (E : Rd) (x : List UInt8) : Rd := fun ts => (E ts).bind fun q => (want 5 x q.2).map fun r => (q.1, r)
end Ip
def Got (X g : Nat) (w : World) (d : Int) (o : Option ((Nat → List Pi) × List Tk.Tok)) (e : Ending) (w' : World) : Prop :=
 match o with
 | none => e = noProg ∧ Og g w w'
 | some (G, r) => ∃ (T : TypeId) (x : Value) (R : Nat → Prop), e = .returned (.iface T x) ∧ Rq X g w' r d ∧ Og g w w' ∧ Adds R w' (T, x) G ∧ ∀ b, R b → w.heap.size ≤ b
def Rds (X g : Nat) (fid : FuncId) (more : List Value) (d : Int) (I : Ip.Rd) : Prop := ∀ ts w, Rq X g w ts d → Calls Tryz.prog fid (Value.pointer (some ⟨g, 0, none⟩) :: more).toArray w (Got X g w d (I ts))
theorem want_none {k : Nat} {x : List UInt8} {ts : List Tk.Tok} (h : Ip.want k x ts = none) : Rx.is ts k x = false := by
 cases ts with
 | nil => rfl
 | cons t r =>
  simp only [Ip.want] at h
  by_cases hi : Rx.is (t :: r) k x = true
  ·rw [if_pos hi] at h; cases h
  ·simpa using hi
theorem want_some {k : Nat} {x : List UInt8} {ts r : List Tk.Tok} (h : Ip.want k x ts = some r) : ∃ t, ts = t :: r ∧ Rx.is ts k x = true := by
 cases ts with
 | nil => cases h
 | cons t r' =>
  simp only [Ip.want] at h
  by_cases hi : Rx.is (t :: r') k x = true
  ·rw [if_pos hi] at h; cases h; exact ⟨t, rfl, hi⟩
  ·rw [if_neg hi] at h; cases h
set_option maxHeartbeats 1000000 in
set_option maxRecDepth 100000 in
theorem conUpTo (X g : Nat) (d : Int) (E : Ip.Rd) (x : List UInt8) (hE : Rds X g 119 [] d E) : Rds X g 180 [.string ⟨x.toArray⟩] d (Ip.upTo E x) := by
 intro ts w h
 have C := hidOf2 (hE ts w h)
 have HH := hidOf2 h
 cases hr : E ts with
 | none =>
  rw [show Ip.upTo E x ts = none by unfold Ip.upTo; rw [hr]; rfl]
  rw [hr] at C
  clear h hr
  go_enter Tryz.func180, Tryz.ntmps180
  go_wp2_with fail
  refine C.out.mono ?_
  rintro e w2 ⟨rfl, ho⟩
  unfold noProg
  go_wp2
  exact ⟨rfl, rfl, ho⟩
 | some q =>
  obtain ⟨G, r⟩ := q
  rw [hr] at C
  cases hw : Ip.want 5 x r with
  | none =>
   rw [show Ip.upTo E x ts = none by unfold Ip.upTo; rw [hr]; simp [hw]]
   clear h hr
   have hn := want_none hw
   clear hw
   go_enter Tryz.func180, Tryz.ntmps180
   go_wp2_with fail
   refine C.out.mono ?_
   rintro e w2 ⟨T, y, R, rfl, hq, ho, -, -⟩
   have HO := hidOf2 ho
   have C2 := hidOf2 (rrWant_no X g d r 5 x w2 hq.rt hn)
   clear hq ho hn C
   go_wp2_with fail
   refine C2.out.mono ?_
   rintro e w3 ⟨rfl, rfl⟩
   unfold noProg
   go_wp2
   exact ⟨rfl, rfl, HO.out⟩
  | some r2 =>
   rw [show Ip.upTo E x ts = some (G, r2) by unfold Ip.upTo; rw [hr]; simp [hw]]
   clear h hr
   obtain ⟨t, rfl, hi⟩ := want_some hw
   clear hw
   go_enter Tryz.func180, Tryz.ntmps180
   go_wp2_with fail
   refine C.out.mono ?_
   rintro e w2 ⟨T, y, R, rfl, hq, ho, ha, hR⟩
   have HO := hidOf2 (And.intro hq (And.intro ho (And.intro ha hR)))
   have C2 := hidOf2 (rrWant_yes X g d t r2 5 x w2 hq.rt hi)
   clear hq ho hi C ha hR
   go_wp2_with fail
   refine C2.out.mono ?_
   rintro e w3 ⟨rfl, h3, ho3⟩
   have HF : Hid (Rq X g w3 r2 d ∧ Og g w w3 ∧ Adds R w3 (T, y) G ∧ ∀ b, R b → w.heap.size ≤ b) :=
    ⟨HO.out.1.step h3 ho3, HO.out.2.1.trans ho3, HO.out.2.2.1.og ho3 (fun b hb e => by have := HO.out.2.2.2 b hb; have := HH.out.rt.lt; omega), HO.out.2.2.2⟩
   clear h3 ho3 HO
   go_wp2
   go_ret
   exact ⟨T, y, R, rfl, HF.out⟩
end PartRrK
section PartRrL
open Go.RowKit
namespace Ip
def named (U : Rd) (t : List UInt8) (r : List Tk.Tok) : Option ((Nat → List Pi) × List Tk.Tok) :=
 match want 5 [91] r with
 | none => some (Fl.node 3 t [], r)
 | some r' => (U r').map fun q => (Fl.node 4 t [q.1], q.2)
def ofOne (U : Rd) : Rd
 | [] => none
 | t :: r => if t.kind = 2 then some (Fl.node 1 t.text [], r) else if t.kind = 3 then some (Fl.node 2 t.text [], r)
  else if t.kind = 1 ∧ Pg.words.contains t.text = false then named U t.text r else none
end Ip
theorem rrIsOfT {X g : Nat} {d : Int} {ts : List Tk.Tok} (kind : Nat) {w : World} {b : Bool} (h : Rt X g w ts d) (hb : Rx.isOf ts kind = b) :
  Calls Tryz.prog 158 #[.pointer (some ⟨g, 0, none⟩), .int .i64 (kind : Int)] w fun e w' => e = .returned (.bool b) ∧ w' = w := by
 obtain ⟨hX, L, h1, h2⟩ := h
 rw [← hb]
 exact rrIsOf X g d L ts kind w h1 h2
set_option maxHeartbeats 1000000 in
set_option maxRecDepth 100000 in
theorem ofOne_num (X g : Nat) (d : Int) (t : Tk.Tok) (r : List Tk.Tok) (w : World) (h : Rq X g w (t :: r) d) (hk : t.kind = 2) :
  Calls Tryz.prog 181 #[.pointer (some ⟨g, 0, none⟩)] w (Got X g w d (some (Fl.node 1 t.text [], r))) := by
 have C1 := hidOf2 (rrIsOfT (b := true) 2 h.rt (by simp [Rx.isOf, hk]))
 have C2 := hidOf2 (rrKind_yes X g d t r 2 w h.rt hk)
 have HH := hidOf2 h
 clear h hk
 obtain ⟨S, hS⟩ : ∃ S : ByteArray, S = ⟨t.text.toArray⟩ := ⟨_, rfl⟩
 rw [← hS] at C2
 have HS := hidOf2 hS
 clear hS
 go_enter Tryz.func181, Tryz.ntmps181
 go_wp2_with fail
 refine C1.out.mono ?_
 rintro e w1 ⟨rfl, rfl⟩
 go_wp2_with fail
 refine C2.out.mono ?_
 rintro e w2 ⟨rfl, h2, ho⟩
 have H2 := hidOf2 (And.intro h2 ho)
 clear h2 ho
 go_wp2
 go_ret
 refine ⟨_, _, fun _ => False, rfl, HH.out.step H2.out.1 H2.out.2, H2.out.2, ?_, fun b hb => hb.elim⟩
 rw [HS.out]
 exact adds_num t.text _
set_option maxHeartbeats 1000000 in
set_option maxRecDepth 100000 in
theorem ofOne_text (X g : Nat) (d : Int) (t : Tk.Tok) (r : List Tk.Tok) (w : World) (h : Rq X g w (t :: r) d) (hk : t.kind = 3) :
  Calls Tryz.prog 181 #[.pointer (some ⟨g, 0, none⟩)] w (Got X g w d (some (Fl.node 2 t.text [], r))) := by
 have C0 := hidOf2 (rrIsOfT (b := false) 2 h.rt (by simp [Rx.isOf, hk]))
 have C1 := hidOf2 (rrIsOfT (b := true) 3 h.rt (by simp [Rx.isOf, hk]))
 have C2 := hidOf2 (rrKind_yes X g d t r 3 w h.rt hk)
 have HH := hidOf2 h
 clear h hk
 obtain ⟨S, hS⟩ : ∃ S : ByteArray, S = ⟨t.text.toArray⟩ := ⟨_, rfl⟩
 rw [← hS] at C2
 have HS := hidOf2 hS
 clear hS
 go_enter Tryz.func181, Tryz.ntmps181
 go_wp2_with fail
 refine C0.out.mono ?_
 rintro e w0 ⟨rfl, rfl⟩
 go_wp2_with fail
 refine C1.out.mono ?_
 rintro e w1 ⟨rfl, rfl⟩
 go_wp2_with fail
 refine C2.out.mono ?_
 rintro e w2 ⟨rfl, h2, ho⟩
 have H2 := hidOf2 (And.intro h2 ho)
 clear h2 ho
 go_wp2
 go_ret
 refine ⟨_, _, fun _ => False, rfl, HH.out.step H2.out.1 H2.out.2, H2.out.2, ?_, fun b hb => hb.elim⟩
 rw [HS.out]
 exact adds_text t.text _
set_option maxHeartbeats 1000000 in
set_option maxRecDepth 100000 in
theorem ofOne_no (X g : Nat) (d : Int) (ts : List Tk.Tok) (w : World) (h : Rq X g w ts d) (h2 : Rx.isOf ts 2 = false) (h3 : Rx.isOf ts 3 = false) (hn : ∀ t r, ts = t :: r → t.kind = 1 → Pg.words.contains t.text = true) :
  Calls Tryz.prog 181 #[.pointer (some ⟨g, 0, none⟩)] w (Got X g w d none) := by
 have C0 := hidOf2 (rrIsOfT (b := false) 2 h.rt h2)
 have C1 := hidOf2 (rrIsOfT (b := false) 3 h.rt h3)
 have C2 : Hid (Calls Tryz.prog 172 #[.pointer (some ⟨g, 0, none⟩)] w fun e w' => e = noProg ∧ Og g w w') := by
  cases ts with
  | nil => exact (rrName_none X g d [] w h.rt rfl).mono (by rintro e w' ⟨rfl, rfl⟩; exact ⟨rfl, Og.refl _ _⟩)
  | cons t r =>
   by_cases hk : t.kind = 1
   ·exact rrName_word X g d t r w h.rt hk (hn t r rfl hk)
   ·exact (rrName_none X g d (t :: r) w h.rt (by simp [Rx.isOf, hk])).mono (by rintro e w' ⟨rfl, rfl⟩; exact ⟨rfl, Og.refl _ _⟩)
 clear h h2 h3 hn
 go_enter Tryz.func181, Tryz.ntmps181
 go_wp2_with fail
 refine C0.out.mono ?_
 rintro e w0 ⟨rfl, rfl⟩
 go_wp2_with fail
 refine C1.out.mono ?_
 rintro e w1 ⟨rfl, rfl⟩
 go_wp2_with fail
 refine C2.out.mono ?_
 rintro e w2 ⟨rfl, ho⟩
 have HO := hidOf2 ho
 clear ho
 unfold noProg
 go_wp2
 exact ⟨rfl, rfl, HO.out⟩
set_option maxHeartbeats 1000000 in
set_option maxRecDepth 100000 in
theorem ofOne_name (X g : Nat) (d : Int) (U : Ip.Rd) (t : Tk.Tok) (r : List Tk.Tok) (w : World) (h : Rq X g w (t :: r) d) (hk : t.kind = 1) (hw : Pg.words.contains t.text = false) (hU : Rds X g 180 [.string ⟨#[93]⟩] d U) :
  Calls Tryz.prog 181 #[.pointer (some ⟨g, 0, none⟩)] w (Got X g w d (Ip.named U t.text r)) := by
 have C0 := hidOf2 (rrIsOfT (b := false) 2 h.rt (by simp [Rx.isOf, hk]))
 have C1 := hidOf2 (rrIsOfT (b := false) 3 h.rt (by simp [Rx.isOf, hk]))
 have C2 := hidOf2 (rrName_yes X g d t r w h.rt hk hw)
 have HH := hidOf2 h
 have HU := hidOf2 hU
 clear h hk hw hU
 obtain ⟨S, hS⟩ : ∃ S : ByteArray, S = ⟨t.text.toArray⟩ := ⟨_, rfl⟩
 rw [← hS] at C2
 have HS := hidOf2 hS
 clear hS
 obtain ⟨V, hV⟩ : ∃ V, V = Ip.named U t.text r := ⟨_, rfl⟩
 rw [← hV]
 go_enter Tryz.func181, Tryz.ntmps181
 go_wp2_with fail
 refine C0.out.mono ?_
 rintro e w0 ⟨rfl, rfl⟩
 go_wp2_with fail
 refine C1.out.mono ?_
 rintro e w1 ⟨rfl, rfl⟩
 go_wp2_with fail
 refine C2.out.mono ?_
 rintro e w2 ⟨rfl, h2, ho⟩
 have H2 : Hid (Rq X g w2 r d ∧ Og g w1 w2) := ⟨HH.out.step h2 ho, ho⟩
 have hgl := HH.out.rt.lt
 clear h2 ho C0 C1 C2 HH
 cases hq : Ip.want 5 [91] r with
 | none =>
  have HV : Hid (V = some (Fl.node 3 t.text [], r)) := hidOf2 (by rw [hV]; simp only [Ip.named, hq])
  have C3 := hidOf2 (rrTakes_no X g d r 5 [91] w2 H2.out.1.rt (want_none hq))
  clear hq hV HU
  go_wp2_with fail
  refine C3.out.mono ?_
  rintro e w3 ⟨rfl, rfl⟩
  go_wp2
  go_ret
  rw [HV.out]
  refine ⟨_, _, fun _ => False, rfl, H2.out.1, H2.out.2, ?_, fun b hb => hb.elim⟩
  rw [HS.out]
  exact adds_name t.text _
 | some r2 =>
  obtain ⟨t2, rfl, hi⟩ := want_some hq
  have C3 := hidOf2 (rrTakes_yes X g d t2 r2 5 [91] w2 H2.out.1.rt hi)
  have hVu : V = (U r2).map fun q => (Fl.node 4 t.text [q.1], q.2) := by rw [hV]; simp only [Ip.named, hq]
  clear hq hV hi
  go_wp2_with fail
  refine C3.out.mono ?_
  rintro e w3 ⟨rfl, h3, ho3⟩
  have H3 : Hid (Rq X g w3 r2 d ∧ Og g w1 w3) := ⟨H2.out.1.step h3 ho3, H2.out.2.trans ho3⟩
  have C4 := hidOf2 (HU.out r2 w3 H3.out.1)
  clear h3 ho3 H2 C3 HU
  cases hu : U r2 with
  | none =>
   rw [hu] at C4 hVu
   have HV : Hid (V = none) := hVu
   clear hu hVu
   go_wp2_with fail
   refine C4.out.mono ?_
   rintro e w4 ⟨rfl, ho4⟩
   have HO := hidOf2 ho4
   clear ho4
   unfold noProg
   go_wp2
   rw [HV.out]
   exact ⟨rfl, rfl, H3.out.2.trans HO.out⟩
  | some q =>
   obtain ⟨G, r4⟩ := q
   rw [hu] at C4 hVu
   have HV : Hid (V = some (Fl.node 4 t.text [G], r4)) := hVu
   clear hu hVu
   go_wp2_with fail
   refine C4.out.mono ?_
   rintro e w4 ⟨T, y, R, rfl, hq4, ho4, ha4, hR4⟩
   have HO := hidOf2 (And.intro hq4 (And.intro ho4 (And.intro ha4 hR4)))
   clear hq4 ho4 ha4 hR4
   go_wp2
   go_ret
   rw [HV.out]
   refine ⟨_, _, R, rfl, HO.out.1, H3.out.2.trans HO.out.2.1, ?_, fun b hb => Nat.le_trans H3.out.2.2.1 (HO.out.2.2.2 b hb)⟩
   rw [HS.out]
   exact adds_cell t.text T y R G _ HO.out.2.2.1
theorem rdsOfOne (X g : Nat) (d : Int) (U : Ip.Rd) (hU : Rds X g 180 [.string ⟨#[93]⟩] d U) : Rds X g 181 [] d (Ip.ofOne U) := by
 intro ts w h
 cases ts with
 | nil => exact ofOne_no X g d [] w h rfl rfl (fun t r e => by cases e)
 | cons t r =>
  simp only [Ip.ofOne]
  by_cases h2 : t.kind = 2
  ·rw [if_pos h2]; exact ofOne_num X g d t r w h h2
  rw [if_neg h2]
  by_cases h3 : t.kind = 3
  ·rw [if_pos h3]; exact ofOne_text X g d t r w h h3
  rw [if_neg h3]
  by_cases h1 : t.kind = 1 ∧ Pg.words.contains t.text = false
  ·rw [if_pos h1]; exact ofOne_name X g d U t r w h h1.1 h1.2 hU
  ·rw [if_neg h1]
   refine ofOne_no X g d (t :: r) w h (by simp [Rx.isOf, h2]) (by simp [Rx.isOf, h3]) (fun t' r' e hk => ?_)
   cases e
   cases hc : Pg.words.contains t.text with
   | true => rfl
   | false => exact absurd ⟨hk, hc⟩ h1
end PartRrL
section PartRrM
open Go.RowKit
namespace Ip
def long (U : Rd) : Rd := fun r => (want 5 [40] r).bind fun r1 => (U r1).map fun q => (Fl.node 8 [] [q.1], q.2)
def here (S U V : Rd) : Rd := fun ts =>
 match want 5 [36] ts with
 | some r => (S r).map fun q => (Fl.node 5 [] [q.1], q.2)
 | none => match want 5 [40] ts with
  | some r => U r
  | none => match want 1 [78, 70] ts with
   | some r => some (Fl.node 6 [] [], r)
   | none => match want 1 [78, 82] ts with
    | some r => some (Fl.node 7 [] [], r)
    | none => match want 1 [108, 101, 110, 103, 116, 104] ts with
     | some r => long U r
     | none => ofOne V ts
end Ip
set_option maxHeartbeats 1000000 in
set_option maxRecDepth 100000 in
theorem here_field (X g : Nat) (d : Int) (ts : List Tk.Tok) (w : World) (h : Rq X g w ts d)  (r : List Tk.Tok) (hy : Ip.want 5 [36] ts = some r) (S : Ip.Rd) (hS : Rds X g 157 [] d S) :
  Calls Tryz.prog 170 #[.pointer (some ⟨g, 0, none⟩)] w (Got X g w d ((S r).map fun q => (Fl.node 5 [] [q.1], q.2))) := by
 obtain ⟨t, rfl, hi⟩ := want_some hy
 have CY := hidOf2 (rrTakes_yes X g d t r 5 [36] w h.rt hi)
 have HH := hidOf2 h
 clear h  hy hi
 have HS := hidOf2 hS
 clear hS
 obtain ⟨V, hV⟩ : ∃ V, V = ((S r).map fun q => (Fl.node 5 [] [q.1], q.2)) := ⟨_, rfl⟩
 rw [← hV]
 go_enter Tryz.func170, Tryz.ntmps170
 go_wp2_with fail
 refine CY.out.mono ?_
 rintro e w1 ⟨rfl, h1, ho1⟩
 have H1 : Hid (Rq X g w1 r d ∧ Og g w w1) := ⟨HH.out.step h1 ho1, ho1⟩
 clear h1 ho1 CY
 have C4 := hidOf2 (HS.out r w1 H1.out.1)
 clear HS
 cases hu : S r with
 | none =>
  rw [hu] at C4
  have HV : Hid (V = none) := hidOf2 (by rw [hV, hu]; rfl)
  clear hu hV
  go_wp2_with fail
  refine C4.out.mono ?_
  rintro e w4 ⟨rfl, ho4⟩
  have HO := hidOf2 ho4
  clear ho4
  unfold noProg
  go_wp2
  rw [HV.out]
  exact ⟨rfl, rfl, H1.out.2.trans HO.out⟩
 | some q =>
  obtain ⟨G, r4⟩ := q
  rw [hu] at C4
  have HV : Hid (V = some (Fl.node 5 [] [G], r4)) := hidOf2 (by rw [hV, hu]; rfl)
  clear hu hV
  go_wp2_with fail
  refine C4.out.mono ?_
  rintro e w4 ⟨T, y, R, rfl, hq4, ho4, ha4, hR4⟩
  have HO := hidOf2 (And.intro hq4 (And.intro ho4 (And.intro ha4 hR4)))
  clear hq4 ho4 ha4 hR4
  go_wp2
  go_ret
  rw [HV.out]
  exact ⟨_, _, R, rfl, HO.out.1, H1.out.2.trans HO.out.2.1, adds_field T y R G _ HO.out.2.2.1, fun b hb => Nat.le_trans H1.out.2.2.1 (HO.out.2.2.2 b hb)⟩
set_option maxHeartbeats 1000000 in
set_option maxRecDepth 100000 in
theorem here_held (X g : Nat) (d : Int) (ts : List Tk.Tok) (w : World) (h : Rq X g w ts d) (n0 : Ip.want 5 [36] ts = none) (r : List Tk.Tok) (hy : Ip.want 5 [40] ts = some r) (U : Ip.Rd) (hU : Rds X g 180 [.string ⟨#[41]⟩] d U) :
  Calls Tryz.prog 170 #[.pointer (some ⟨g, 0, none⟩)] w (Got X g w d (U r)) := by
 have C0 := hidOf2 (rrTakes_no X g d ts 5 [36] w h.rt (want_none n0))
 obtain ⟨t, rfl, hi⟩ := want_some hy
 have CY := hidOf2 (rrTakes_yes X g d t r 5 [40] w h.rt hi)
 have HH := hidOf2 h
 clear h n0 hy hi
 have HU := hidOf2 hU
 clear hU
 obtain ⟨V, hV⟩ : ∃ V, V = (U r) := ⟨_, rfl⟩
 rw [← hV]
 go_enter Tryz.func170, Tryz.ntmps170
 go_wp2_with fail
 refine C0.out.mono ?_
 rintro e v0 ⟨rfl, rfl⟩
 go_wp2_with fail
 refine CY.out.mono ?_
 rintro e w1 ⟨rfl, h1, ho1⟩
 have H1 : Hid (Rq X g w1 r d ∧ Og g v0 w1) := ⟨HH.out.step h1 ho1, ho1⟩
 clear h1 ho1 CY
 have C4 := hidOf2 (HU.out r w1 H1.out.1)
 clear HU
 cases hu : U r with
 | none =>
  rw [hu] at C4
  have HV : Hid (V = none) := hidOf2 (hV.trans hu)
  clear hu hV
  go_wp2_with fail
  refine C4.out.mono ?_
  rintro e w4 ⟨rfl, ho4⟩
  have HO := hidOf2 ho4
  clear ho4
  unfold noProg
  go_wp2
  rw [HV.out]
  exact ⟨rfl, rfl, H1.out.2.trans HO.out⟩
 | some q =>
  obtain ⟨G, r4⟩ := q
  rw [hu] at C4
  have HV : Hid (V = some (G, r4)) := hidOf2 (hV.trans hu)
  clear hu hV
  go_wp2_with fail
  refine C4.out.mono ?_
  rintro e w4 ⟨T, y, R, rfl, hq4, ho4, ha4, hR4⟩
  have HO := hidOf2 (And.intro hq4 (And.intro ho4 (And.intro ha4 hR4)))
  clear hq4 ho4 ha4 hR4
  go_wp2
  go_ret
  rw [HV.out]
  exact ⟨_, _, R, rfl, HO.out.1, H1.out.2.trans HO.out.2.1, HO.out.2.2.1, fun b hb => Nat.le_trans H1.out.2.2.1 (HO.out.2.2.2 b hb)⟩
set_option maxHeartbeats 1000000 in
set_option maxRecDepth 100000 in
theorem here_fields (X g : Nat) (d : Int) (ts : List Tk.Tok) (w : World) (h : Rq X g w ts d) (n0 : Ip.want 5 [36] ts = none) (n1 : Ip.want 5 [40] ts = none) (r : List Tk.Tok) (hy : Ip.want 1 [78, 70] ts = some r) :
  Calls Tryz.prog 170 #[.pointer (some ⟨g, 0, none⟩)] w (Got X g w d (some (Fl.node 6 [] [], r))) := by
 have C0 := hidOf2 (rrTakes_no X g d ts 5 [36] w h.rt (want_none n0))
 have C1 := hidOf2 (rrTakes_no X g d ts 5 [40] w h.rt (want_none n1))
 obtain ⟨t, rfl, hi⟩ := want_some hy
 have CY := hidOf2 (rrTakes_yes X g d t r 1 [78, 70] w h.rt hi)
 have HH := hidOf2 h
 clear h n0 n1 hy hi
 obtain ⟨V, hV⟩ : ∃ V, V = (some (Fl.node 6 [] [], r)) := ⟨_, rfl⟩
 rw [← hV]
 go_enter Tryz.func170, Tryz.ntmps170
 go_wp2_with fail
 refine C0.out.mono ?_
 rintro e v0 ⟨rfl, rfl⟩
 go_wp2_with fail
 refine C1.out.mono ?_
 rintro e v1 ⟨rfl, rfl⟩
 go_wp2_with fail
 refine CY.out.mono ?_
 rintro e w1 ⟨rfl, h1, ho1⟩
 have H1 : Hid (Rq X g w1 r d ∧ Og g v1 w1) := ⟨HH.out.step h1 ho1, ho1⟩
 clear h1 ho1 CY
 have HV := hidOf2 hV
 clear hV
 go_wp2
 go_ret
 rw [HV.out]
 exact ⟨_, _, fun _ => False, rfl, H1.out.1, H1.out.2, adds_fields _, fun b hb => hb.elim⟩
set_option maxHeartbeats 1000000 in
set_option maxRecDepth 100000 in
theorem here_line (X g : Nat) (d : Int) (ts : List Tk.Tok) (w : World) (h : Rq X g w ts d) (n0 : Ip.want 5 [36] ts = none) (n1 : Ip.want 5 [40] ts = none) (n2 : Ip.want 1 [78, 70] ts = none) (r : List Tk.Tok) (hy : Ip.want 1 [78, 82] ts = some r) :
  Calls Tryz.prog 170 #[.pointer (some ⟨g, 0, none⟩)] w (Got X g w d (some (Fl.node 7 [] [], r))) := by
 have C0 := hidOf2 (rrTakes_no X g d ts 5 [36] w h.rt (want_none n0))
 have C1 := hidOf2 (rrTakes_no X g d ts 5 [40] w h.rt (want_none n1))
 have C2 := hidOf2 (rrTakes_no X g d ts 1 [78, 70] w h.rt (want_none n2))
 obtain ⟨t, rfl, hi⟩ := want_some hy
 have CY := hidOf2 (rrTakes_yes X g d t r 1 [78, 82] w h.rt hi)
 have HH := hidOf2 h
 clear h n0 n1 n2 hy hi
 obtain ⟨V, hV⟩ : ∃ V, V = (some (Fl.node 7 [] [], r)) := ⟨_, rfl⟩
 rw [← hV]
 go_enter Tryz.func170, Tryz.ntmps170
 go_wp2_with fail
 refine C0.out.mono ?_
 rintro e v0 ⟨rfl, rfl⟩
 go_wp2_with fail
 refine C1.out.mono ?_
 rintro e v1 ⟨rfl, rfl⟩
 go_wp2_with fail
 refine C2.out.mono ?_
 rintro e v2 ⟨rfl, rfl⟩
 go_wp2_with fail
 refine CY.out.mono ?_
 rintro e w1 ⟨rfl, h1, ho1⟩
 have H1 : Hid (Rq X g w1 r d ∧ Og g v2 w1) := ⟨HH.out.step h1 ho1, ho1⟩
 clear h1 ho1 CY
 have HV := hidOf2 hV
 clear hV
 go_wp2
 go_ret
 rw [HV.out]
 exact ⟨_, _, fun _ => False, rfl, H1.out.1, H1.out.2, adds_line _, fun b hb => hb.elim⟩
set_option maxHeartbeats 1000000 in
set_option maxRecDepth 100000 in
theorem here_long (X g : Nat) (d : Int) (ts : List Tk.Tok) (w : World) (h : Rq X g w ts d) (n0 : Ip.want 5 [36] ts = none) (n1 : Ip.want 5 [40] ts = none) (n2 : Ip.want 1 [78, 70] ts = none) (n3 : Ip.want 1 [78, 82] ts = none) (r : List Tk.Tok) (hy : Ip.want 1 [108, 101, 110, 103, 116, 104] ts = some r) (U : Ip.Rd) (hU : Rds X g 180 [.string ⟨#[41]⟩] d U) :
  Calls Tryz.prog 170 #[.pointer (some ⟨g, 0, none⟩)] w (Got X g w d (Ip.long U r)) := by
 have C0 := hidOf2 (rrTakes_no X g d ts 5 [36] w h.rt (want_none n0))
 have C1 := hidOf2 (rrTakes_no X g d ts 5 [40] w h.rt (want_none n1))
 have C2 := hidOf2 (rrTakes_no X g d ts 1 [78, 70] w h.rt (want_none n2))
 have C3 := hidOf2 (rrTakes_no X g d ts 1 [78, 82] w h.rt (want_none n3))
 obtain ⟨t, rfl, hi⟩ := want_some hy
 have CY := hidOf2 (rrTakes_yes X g d t r 1 [108, 101, 110, 103, 116, 104] w h.rt hi)
 have HH := hidOf2 h
 clear h n0 n1 n2 n3 hy hi
 have HU := hidOf2 hU
 clear hU
 obtain ⟨V, hV⟩ : ∃ V, V = (Ip.long U r) := ⟨_, rfl⟩
 rw [← hV]
 go_enter Tryz.func170, Tryz.ntmps170
 go_wp2_with fail
 refine C0.out.mono ?_
 rintro e v0 ⟨rfl, rfl⟩
 go_wp2_with fail
 refine C1.out.mono ?_
 rintro e v1 ⟨rfl, rfl⟩
 go_wp2_with fail
 refine C2.out.mono ?_
 rintro e v2 ⟨rfl, rfl⟩
 go_wp2_with fail
 refine C3.out.mono ?_
 rintro e v3 ⟨rfl, rfl⟩
 go_wp2_with fail
 refine CY.out.mono ?_
 rintro e w1 ⟨rfl, h1, ho1⟩
 have H1 : Hid (Rq X g w1 r d ∧ Og g v3 w1) := ⟨HH.out.step h1 ho1, ho1⟩
 clear h1 ho1 CY
 cases hw : Ip.want 5 [40] r with
 | none =>
  have HV : Hid (V = none) := hidOf2 (by rw [hV]; unfold Ip.long; rw [hw]; rfl)
  have C3 := hidOf2 (rrWant_no X g d r 5 [40] w1 H1.out.1.rt (want_none hw))
  clear hw HU hV
  go_wp2_with fail
  refine C3.out.mono ?_
  rintro e w3 ⟨rfl, rfl⟩
  unfold noProg
  go_wp2
  rw [HV.out]
  exact ⟨rfl, rfl, H1.out.2⟩
 | some r2 =>
  obtain ⟨t2, rfl, hi2⟩ := want_some hw
  have C3 := hidOf2 (rrWant_yes X g d t2 r2 5 [40] w1 H1.out.1.rt hi2)
  have hL : Ip.long U (t2 :: r2) = (U r2).map fun q => (Fl.node 8 [] [q.1], q.2) := by unfold Ip.long; rw [hw]; rfl
  rw [hL] at hV
  clear hw hi2 hL
  go_wp2_with fail
  refine C3.out.mono ?_
  rintro e w3 ⟨rfl, h3, ho3⟩
  have H3 : Hid (Rq X g w3 r2 d ∧ Og g v3 w3) := ⟨H1.out.1.step h3 ho3, H1.out.2.trans ho3⟩
  clear h3 ho3 H1
  have C4 := hidOf2 (HU.out r2 w3 H3.out.1)
  clear HU
  cases hu : U r2 with
  | none =>
   rw [hu] at C4
   have HV : Hid (V = none) := hidOf2 (by rw [hV, hu]; rfl)
   clear hu hV
   go_wp2_with fail
   refine C4.out.mono ?_
   rintro e w4 ⟨rfl, ho4⟩
   have HO := hidOf2 ho4
   clear ho4
   unfold noProg
   go_wp2
   rw [HV.out]
   exact ⟨rfl, rfl, H3.out.2.trans HO.out⟩
  | some q =>
   obtain ⟨G, r4⟩ := q
   rw [hu] at C4
   have HV : Hid (V = some (Fl.node 8 [] [G], r4)) := hidOf2 (by rw [hV, hu]; rfl)
   clear hu hV
   go_wp2_with fail
   refine C4.out.mono ?_
   rintro e w4 ⟨T, y, R, rfl, hq4, ho4, ha4, hR4⟩
   have HO := hidOf2 (And.intro hq4 (And.intro ho4 (And.intro ha4 hR4)))
   clear hq4 ho4 ha4 hR4
   go_wp2
   go_ret
   rw [HV.out]
   exact ⟨_, _, R, rfl, HO.out.1, H3.out.2.trans HO.out.2.1, adds_long T y R G _ HO.out.2.2.1, fun b hb => Nat.le_trans H3.out.2.2.1 (HO.out.2.2.2 b hb)⟩
set_option maxHeartbeats 1000000 in
set_option maxRecDepth 100000 in
theorem here_one (X g : Nat) (d : Int) (ts : List Tk.Tok) (w : World) (h : Rq X g w ts d) (n0 : Ip.want 5 [36] ts = none) (n1 : Ip.want 5 [40] ts = none) (n2 : Ip.want 1 [78, 70] ts = none) (n3 : Ip.want 1 [78, 82] ts = none) (n4 : Ip.want 1 [108, 101, 110, 103, 116, 104] ts = none) (O : Ip.Rd) (hO : Rds X g 181 [] d O) :
  Calls Tryz.prog 170 #[.pointer (some ⟨g, 0, none⟩)] w (Got X g w d (O ts)) := by
 have C0 := hidOf2 (rrTakes_no X g d ts 5 [36] w h.rt (want_none n0))
 have C1 := hidOf2 (rrTakes_no X g d ts 5 [40] w h.rt (want_none n1))
 have C2 := hidOf2 (rrTakes_no X g d ts 1 [78, 70] w h.rt (want_none n2))
 have C3 := hidOf2 (rrTakes_no X g d ts 1 [78, 82] w h.rt (want_none n3))
 have C4 := hidOf2 (rrTakes_no X g d ts 1 [108, 101, 110, 103, 116, 104] w h.rt (want_none n4))
 have HH := hidOf2 h
 clear h n0 n1 n2 n3 n4
 have HO1 := hidOf2 hO
 clear hO
 obtain ⟨V, hV⟩ : ∃ V, V = (O ts) := ⟨_, rfl⟩
 rw [← hV]
 go_enter Tryz.func170, Tryz.ntmps170
 go_wp2_with fail
 refine C0.out.mono ?_
 rintro e v0 ⟨rfl, rfl⟩
 go_wp2_with fail
 refine C1.out.mono ?_
 rintro e v1 ⟨rfl, rfl⟩
 go_wp2_with fail
 refine C2.out.mono ?_
 rintro e v2 ⟨rfl, rfl⟩
 go_wp2_with fail
 refine C3.out.mono ?_
 rintro e v3 ⟨rfl, rfl⟩
 go_wp2_with fail
 refine C4.out.mono ?_
 rintro e v4 ⟨rfl, rfl⟩
 have C4 := hidOf2 (HO1.out ts v4 HH.out)
 clear HO1
 cases hu : O ts with
 | none =>
  rw [hu] at C4
  have HV : Hid (V = none) := hidOf2 (hV.trans hu)
  clear hu hV
  go_wp2_with fail
  refine C4.out.mono ?_
  rintro e w4 ⟨rfl, ho4⟩
  have HO := hidOf2 ho4
  clear ho4
  unfold noProg
  go_wp2
  rw [HV.out]
  exact ⟨rfl, rfl, HO.out⟩
 | some q =>
  obtain ⟨G, r4⟩ := q
  rw [hu] at C4
  have HV : Hid (V = some (G, r4)) := hidOf2 (hV.trans hu)
  clear hu hV
  go_wp2_with fail
  refine C4.out.mono ?_
  rintro e w4 ⟨T, y, R, rfl, hq4, ho4, ha4, hR4⟩
  have HO := hidOf2 (And.intro hq4 (And.intro ho4 (And.intro ha4 hR4)))
  clear hq4 ho4 ha4 hR4
  go_wp2
  go_ret
  rw [HV.out]
  exact ⟨_, _, R, rfl, HO.out⟩
theorem rdsHere (X g : Nat) (d : Int) (S U V : Ip.Rd) (hS : Rds X g 157 [] d S) (hU : Rds X g 180 [.string ⟨#[41]⟩] d U) (hV : Rds X g 180 [.string ⟨#[93]⟩] d V) : Rds X g 170 [] d (Ip.here S U V) := by
 intro ts w h
 unfold Ip.here
 cases n0 : Ip.want 5 [36] ts with
 | some r => exact here_field X g d ts w h r n0 S hS
 | none =>
  cases n1 : Ip.want 5 [40] ts with
  | some r => exact here_held X g d ts w h n0 r n1 U hU
  | none =>
   cases n2 : Ip.want 1 [78, 70] ts with
   | some r => exact here_fields X g d ts w h n0 n1 r n2
   | none =>
    cases n3 : Ip.want 1 [78, 82] ts with
    | some r => exact here_line X g d ts w h n0 n1 n2 r n3
    | none =>
     cases n4 : Ip.want 1 [108, 101, 110, 103, 116, 104] ts with
     | some r => exact here_long X g d ts w h n0 n1 n2 n3 r n4 U hU
     | none => exact here_one X g d ts w h n0 n1 n2 n3 n4 (Ip.ofOne V) (rdsOfOne X g d V hV)
end PartRrM
section PartRrN
open Go.RowKit
set_option maxHeartbeats 1000000 in
set_option maxRecDepth 100000 in
theorem rdsSimple (X g : Nat) (d : Int) (H : Ip.Rd) (h0 : 0 ≤ d) (h1 : d < 30) (hH : Rds X g 170 [] (d + 1) H) : Rds X g 157 [] d H := by
 intro ts w h
 have CD := hidOf2 (rrDown_yes X g d ts w h.rt h0 h1)
 have HH := hidOf2 h
 have HR := hidOf2 hH
 clear h hH
 obtain ⟨V, hV⟩ : ∃ V, V = H ts := ⟨_, rfl⟩
 rw [← hV]
 go_enter Tryz.func157, Tryz.ntmps157
 go_wp2_with fail
 refine CD.out.mono ?_
 rintro e w1 ⟨rfl, hr1, ho1⟩
 have H1 : Hid (Rq X g w1 ts (d + 1) ∧ Og g w w1) := ⟨HH.out.step hr1 ho1, ho1⟩
 clear hr1 ho1 CD
 have C4 := hidOf2 (HR.out ts w1 H1.out.1)
 clear HR
 cases hu : H ts with
 | none =>
  rw [hu] at C4
  have HV : Hid (V = none) := hidOf2 (hV.trans hu)
  clear hu hV
  go_wp2_with fail
  refine C4.out.mono ?_
  rintro e w4 ⟨rfl, ho4⟩
  have HO := hidOf2 ho4
  clear ho4
  unfold noProg
  go_wp2
  rw [HV.out]
  exact ⟨rfl, rfl, H1.out.2.trans HO.out⟩
 | some q =>
  obtain ⟨G, r4⟩ := q
  rw [hu] at C4
  have HV : Hid (V = some (G, r4)) := hidOf2 (hV.trans hu)
  clear hu hV
  go_wp2_with fail
  refine C4.out.mono ?_
  rintro e w4 ⟨T, y, R, rfl, hq4, ho4, ha4, hR4⟩
  have HO := hidOf2 (And.intro hq4 (And.intro (H1.out.2.trans ho4) (And.intro ha4 (fun b hb => Nat.le_trans H1.out.2.2.1 (hR4 b hb)))))
  have CU := hidOf2 (rrUp X g (d + 1) r4 w4 hq4.rt (by omega) (by omega))
  clear hq4 ho4 ha4 hR4 H1
  go_wp2_with fail
  refine CU.out.mono ?_
  rintro e w5 ⟨rfl, h5, ho5⟩
  rw [show d + 1 - 1 = d by omega] at h5
  have HF : Hid (Rq X g w5 r4 d ∧ Og g w w5 ∧ Adds R w5 (T, y) G ∧ ∀ b, R b → w.heap.size ≤ b) :=
   ⟨HO.out.1.step h5 ho5, HO.out.2.1.trans ho5, HO.out.2.2.1.og ho5 (fun b hb e => by have := HO.out.2.2.2 b hb; have := HH.out.rt.lt; omega), HO.out.2.2.2⟩
  clear h5 ho5 HO CU
  go_wp2
  go_ret
  rw [HV.out]
  exact ⟨T, y, R, rfl, HF.out⟩
set_option maxHeartbeats 1000000 in
set_option maxRecDepth 100000 in
theorem rdsSimple_no (X g : Nat) : Rds X g 157 [] 30 (fun _ => none) := by
 intro ts w h
 have CD := hidOf2 (rrDown_no X g ts w h.rt)
 clear h
 go_enter Tryz.func157, Tryz.ntmps157
 go_wp2_with fail
 refine CD.out.mono ?_
 rintro e w1 ⟨rfl, ho1⟩
 have HO := hidOf2 ho1
 clear ho1
 unfold noProg
 go_wp2
 exact ⟨rfl, rfl, HO.out⟩
end PartRrN
section PartRrO
open Go.RowKit
namespace Ip
def opOf (a b : Nat) (ts : List Tk.Tok) : Option (Nat × List Tk.Tok) :=
 match want 5 (Rx.sign a) ts with
 | some r => some (a, r)
 | none => (want 5 (Rx.sign b) ts).map fun r => (b, r)
def rowL (F : Rd) (a b : Nat) : Nat → (Nat → List Pi) → Rd
 | 0, G, ts => some (G, ts)
 | f + 1, G, ts =>
  match opOf a b ts with
  | none => some (G, ts)
  | some (j, r) => (F r).bind fun q => rowL F a b f (Fl.node j [] [G, q.1]) q.2
def row (F : Rd) (a b : Nat) : Rd := fun ts => (F ts).bind fun q => rowL F a b q.2.length q.1 q.2
def Shr (F : Rd) : Prop := ∀ ts G r, F ts = some (G, r) → r.length ≤ ts.length
end Ip
theorem rrOp2 (X g a b : Nat) (d : Int) (ts : List Tk.Tok) (w : World) (h : Rq X g w ts d) (ha : 9 ≤ a) (hab : b = a ∨ b = a + 1) (hb : b ≤ 15) :
  Calls Tryz.prog 135 #[.pointer (some ⟨g, 0, none⟩), .int .i64 (a : Int), .int .i64 (b : Int)] w fun e w' =>
   match Ip.opOf a b ts with
   | none => e = .returned (.tuple #[.int .i64 0, .bool false]) ∧ w' = w
   | some (j, r) => e = .returned (.tuple #[.int .i64 (j : Int), .bool true]) ∧ Rt X g w' r d ∧ Og g w w' := by
 refine (rrOp X g a b d ts w h.rt h.two ha (by omega) hb).mono ?_
 rintro e w' (⟨rfl, rfl, hno⟩ | ⟨j, t, r, rfl, h1, h2, hk, rfl, hi, hr, ho⟩)
 ·have e1 : Ip.want 5 (Rx.sign a) ts = none := by
   cases hw : Ip.want 5 (Rx.sign a) ts with
   | none => rfl
   | some r => obtain ⟨t, rfl, hi⟩ := want_some hw; rw [hno a (by omega) (by omega)] at hi; cases hi
  have e2 : Ip.want 5 (Rx.sign b) ts = none := by
   cases hw : Ip.want 5 (Rx.sign b) ts with
   | none => rfl
   | some r => obtain ⟨t, rfl, hi⟩ := want_some hw; rw [hno b (by omega) (by omega)] at hi; cases hi
  rw [show Ip.opOf a b ts = none by simp only [Ip.opOf, e1, e2, Option.map_none]]
  exact ⟨rfl, rfl⟩
 ·by_cases hja : j = a
  ·subst hja
   rw [show Ip.opOf j b (t :: r) = some (j, r) by simp only [Ip.opOf, Ip.want, if_pos hi]]
   exact ⟨rfl, hr, ho⟩
  ·have hjb : j = b := by omega
   subst hjb
   have hka := hk a (by omega) (by omega)
   have e1 : Ip.want 5 (Rx.sign a) (t :: r) = none := by simp only [Ip.want, hka]; rfl
   have e2 : Ip.want 5 (Rx.sign j) (t :: r) = some r := by simp only [Ip.want, if_pos hi]
   rw [show Ip.opOf a j (t :: r) = some (j, r) by simp only [Ip.opOf, e1, e2, Option.map_some]]
   exact ⟨rfl, hr, ho⟩
theorem opOf_shr {a b j : Nat} {ts r : List Tk.Tok} (h : Ip.opOf a b ts = some (j, r)) : ts.length = r.length + 1 := by
 unfold Ip.opOf at h
 cases hw : Ip.want 5 (Rx.sign a) ts with
 | some r1 =>
  rw [hw] at h
  simp only [Option.some.injEq, Prod.mk.injEq] at h
  obtain ⟨-, rfl⟩ := h
  obtain ⟨t, rfl, -⟩ := want_some hw
  rfl
 | none =>
  rw [hw] at h
  cases hw2 : Ip.want 5 (Rx.sign b) ts with
  | none => rw [hw2] at h; cases h
  | some r1 =>
   rw [hw2] at h
   simp only [Option.map_some, Option.some.injEq, Prod.mk.injEq] at h
   obtain ⟨-, rfl⟩ := h
   obtain ⟨t, rfl, -⟩ := want_some hw2
   rfl
set_option maxHeartbeats 1000000 in
set_option maxRecDepth 100000 in
theorem rdsRow3 (X g : Nat) (d : Int) (S : Ip.Rd) (hS : Rds X g 157 [] d S) : Rds X g 134 [.int .i64 3] d S := by
 intro ts w h
 have C4 := hidOf2 (hS ts w h)
 clear h hS
 obtain ⟨V, hV⟩ : ∃ V, V = S ts := ⟨_, rfl⟩
 rw [← hV]
 go_enter Tryz.func134, Tryz.ntmps134
 cases hu : S ts with
 | none =>
  rw [hu] at C4
  have HV : Hid (V = none) := hidOf2 (hV.trans hu)
  clear hu hV
  go_wp2_with fail
  refine C4.out.mono ?_
  rintro e w4 ⟨rfl, ho4⟩
  have HO := hidOf2 ho4
  clear ho4
  unfold noProg
  go_wp2
  rw [HV.out]
  exact ⟨rfl, rfl, HO.out⟩
 | some q =>
  obtain ⟨G, r4⟩ := q
  rw [hu] at C4
  have HV : Hid (V = some (G, r4)) := hidOf2 (hV.trans hu)
  clear hu hV
  go_wp2_with fail
  refine C4.out.mono ?_
  rintro e w4 ⟨T, y, R, rfl, hq4, ho4, ha4, hR4⟩
  have HO := hidOf2 (And.intro hq4 (And.intro ho4 (And.intro ha4 hR4)))
  clear hq4 ho4 ha4 hR4
  go_wp2
  go_ret
  rw [HV.out]
  exact ⟨T, y, R, rfl, HO.out⟩
end PartRrO
end Go.Proofs.YtkfkbdgfnopokaaGreatDoor
