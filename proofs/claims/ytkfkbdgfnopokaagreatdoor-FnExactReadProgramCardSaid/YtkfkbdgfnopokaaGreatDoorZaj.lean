/- The program's reader of a program: a token of a kind; a name. The program's reader of a program: ends that are passed over; the sign of one of several. Trees: which type a tree is of; what is shown of an expression. -/
import Derived.Test.YtkfkbdgfnopokaaGreatDoorZaf
import Derived.Test.YtkfkbdgfnopokaaGreatDoorZai
import Derived.Test.YtkfkbdgfnopokaaGreatDoorProg
import Derived.WalkKit
import Derived.WalkSpells
import Derived.WalkLawsBesides
import Derived.Handy
import Derived.Lib.Strings
import Derived.BigQuiet
import Derived.Below
import Derived.Deep.QuietTactic
import Derived.Deep.RegionHeld3
import Derived.Deep.RegionWith
namespace Go.Proofs.YtkfkbdgfnopokaaGreatDoor
section PartRrC
open Go.RowKit
def Rx.isOf (ts : List Tk.Tok) (k : Nat) : Bool := match ts with | [] => false | t :: _ => decide (t.kind = k)
set_option maxHeartbeats 1000000 in
set_option maxRecDepth 100000 in
theorem rrIsOf (X g : Nat) (d : Int) (L : Value) (ts : List Tk.Tok) (kind : Nat) (w : World) (h : Rr w g L d) (hL : Lf X w L ts) :
  Calls Tryz.prog 158 #[.pointer (some ⟨g, 0, none⟩), .int .i64 (kind : Int)] w fun e w' => e = .returned (.bool (Rx.isOf ts kind)) ∧ w' = w := by
 obtain ⟨c0, c1, f0, f1⟩ := h.cells
 obtain ⟨ad, cap, rfl, hlc, hcm, f⟩ := hL
 clear h c1 f0 f1
 cases ts with
 | nil =>
  simp only [List.length_nil] at c0
  go_enter Tryz.func158, Tryz.ntmps158
  go_wp2_with fail
  go_ret
  exact ⟨rfl, rfl⟩
 | cons t r =>
  obtain ⟨b, o, rfl, hb, hc⟩ := f (by simp)
  obtain ⟨t0, t1⟩ := hc 0 (by simp)
  simp only [List.getD_cons_zero, Nat.zero_mul, Nat.add_zero] at t0 t1
  obtain ⟨n, hn⟩ : ∃ n, n = (t :: r).length := ⟨_, rfl⟩
  rw [← hn] at c0
  have h0 : 0 < n := by rw [hn]; simp
  have d1 : decide ((n : Int) > 0) = true := decide_eq_true (by omega)
  have hi : (0 : Int) < (n : Int) := by omega
  obtain ⟨K, hK⟩ : ∃ K, K = t.kind := ⟨_, rfl⟩
  rw [← hK] at t0
  obtain ⟨V, hV⟩ : ∃ V, V = Rx.isOf (t :: r) kind := ⟨_, rfl⟩
  have HV : Hid (V = ((K : Int) == (kind : Int))) := by
   show _ = _
   rw [hV, hK, Bool.eq_iff_iff]
   simp only [Rx.isOf, decide_eq_true_eq, beq_iff_eq, Int.ofNat_inj]
  rw [← hV]
  clear hc f hn hV hK hlc hcm t1
  go_enter Tryz.func158, Tryz.ntmps158
  go_wp2_with fail
  go_ret
  exact ⟨by rw [HV.out]; rfl, rfl⟩
set_option maxHeartbeats 1000000 in
set_option maxRecDepth 100000 in
theorem rrKind_no (X g : Nat) (d : Int) (ts : List Tk.Tok) (kind : Nat) (w : World) (h : Rt X g w ts d) (hn : Rx.isOf ts kind = false) :
  Calls Tryz.prog 136 #[.pointer (some ⟨g, 0, none⟩), .int .i64 (kind : Int)] w fun e w' => e = noProg ∧ w' = w := by
 obtain ⟨hX, L, h1, h2⟩ := h
 have C := rrIsOf X g d L ts kind w h1 h2
 rw [hn] at C
 have C2 := hidOf2 C
 clear h1 h2 hn C
 go_enter Tryz.func136, Tryz.ntmps136
 go_wp2_with fail
 refine C2.out.mono ?_
 rintro e w2 ⟨rfl, rfl⟩
 go_wp2
 exact ⟨rfl, rfl, rfl⟩
set_option maxHeartbeats 1000000 in
set_option maxRecDepth 100000 in
theorem rrKind_yes (X g : Nat) (d : Int) (t : Tk.Tok) (r : List Tk.Tok) (kind : Nat) (w : World) (h : Rt X g w (t :: r) d) (hn : t.kind = kind) :
  Calls Tryz.prog 136 #[.pointer (some ⟨g, 0, none⟩), .int .i64 (kind : Int)] w fun e w' => e = .returned (.string ⟨t.text.toArray⟩) ∧ Rt X g w' r d ∧ Og g w w' := by
 have hR := h
 obtain ⟨hX, L, h1, h2⟩ := h
 have hL := h2
 have C := rrIsOf X g d L (t :: r) kind w h1 h2
 rw [show Rx.isOf (t :: r) kind = true by simp [Rx.isOf, hn]] at C
 obtain ⟨c0, c1, f0, f1⟩ := h1.cells
 obtain ⟨ad, cap, rfl, hlc, hcm, f⟩ := h2
 obtain ⟨b, o, rfl, hb, hc⟩ := f (by simp)
 obtain ⟨t0, t1⟩ := hc 0 (by simp)
 simp only [List.getD_cons_zero, Nat.zero_mul, Nat.add_zero] at t0 t1
 have HT : Hid (Lf X w (.slice (some ⟨b, o + 2, none⟩) r.length (cap - 1)) r) := hL.tail
 have HT1 : Hid (cap = 1 → Lf X w (.slice (some ⟨b, o, none⟩) r.length 0) r) := fun e => by
  have h0 : r.length = 0 := by simp only [List.length_cons] at hlc; omega
  exact ⟨_, _, rfl, by omega, by omega, fun h => by omega⟩
 have HR : Hid (Rt X g w (t :: r) d) := hR
 have C2 := hidOf2 C
 simp only [List.length_cons] at c0 hlc
 obtain ⟨n, hn2⟩ : ∃ n, n = r.length := ⟨_, rfl⟩
 rw [← hn2] at c0 hlc HT HT1
 have hcast : ((n + 1 : Nat) : Int) = (n : Int) + 1 := by omega
 generalize (⟨t.text.toArray⟩ : ByteArray) = S at *
 clear f hL h1 C hR hn c1 f1 hn2 hc t0
 go_enter Tryz.func136, Tryz.ntmps136
 go_wp2_with fail
 refine C2.out.mono ?_
 rintro e w2 ⟨rfl, rfl⟩
 go_wp2
 ·go_ret
  subst h
  exact ⟨rfl, HR.out.set0 (HT1.out rfl), Og.set _ _ _ _⟩
 ·go_ret
  exact ⟨rfl, HR.out.set0 HT.out, Og.set _ _ _ _⟩
set_option maxHeartbeats 1000000 in
set_option maxRecDepth 100000 in
theorem rrName_none (X g : Nat) (d : Int) (ts : List Tk.Tok) (w : World) (h : Rt X g w ts d) (hn : Rx.isOf ts 1 = false) :
  Calls Tryz.prog 172 #[.pointer (some ⟨g, 0, none⟩)] w fun e w' => e = noProg ∧ w' = w := by
 have C := hidOf2 (rrKind_no X g d ts 1 w h hn)
 clear h hn
 go_enter Tryz.func172, Tryz.ntmps172
 go_wp2_with fail
 refine C.out.mono ?_
 rintro e w2 ⟨rfl, rfl⟩
 unfold noProg
 go_wp2
 exact ⟨rfl, rfl, rfl⟩
set_option maxHeartbeats 1000000 in
set_option maxRecDepth 100000 in
theorem rrName_word (X g : Nat) (d : Int) (t : Tk.Tok) (r : List Tk.Tok) (w : World) (h : Rt X g w (t :: r) d) (hn : t.kind = 1) (hw : Pg.words.contains t.text = true) :
  Calls Tryz.prog 172 #[.pointer (some ⟨g, 0, none⟩)] w fun e w' => e = noProg ∧ Og g w w' := by
 have C := hidOf2 (rrKind_yes X g d t r 1 w h hn)
 have CW : Hid (∀ W, Calls Tryz.prog 143 #[.string ⟨t.text.toArray⟩] W fun e w' => e = .returned (.bool true) ∧ w' = W) := fun W => by
  have := isWord_any ⟨t.text.toArray⟩ W
  rw [show (⟨t.text.toArray⟩ : ByteArray).data.toList = t.text from rfl, hw] at this
  exact this
 generalize (⟨t.text.toArray⟩ : ByteArray) = S at *
 clear h hn hw
 go_enter Tryz.func172, Tryz.ntmps172
 go_wp2_with fail
 refine C.out.mono ?_
 rintro e w2 ⟨rfl, -, ho⟩
 have HO : Hid (Og g w w2) := ho
 clear ho
 go_wp2_with fail
 refine (CW.out _).mono ?_
 rintro e w3 ⟨rfl, rfl⟩
 go_wp2
 exact ⟨rfl, rfl, HO.out⟩
set_option maxHeartbeats 1000000 in
set_option maxRecDepth 100000 in
theorem rrName_yes (X g : Nat) (d : Int) (t : Tk.Tok) (r : List Tk.Tok) (w : World) (h : Rt X g w (t :: r) d) (hn : t.kind = 1) (hw : Pg.words.contains t.text = false) :
  Calls Tryz.prog 172 #[.pointer (some ⟨g, 0, none⟩)] w fun e w' => e = .returned (.string ⟨t.text.toArray⟩) ∧ Rt X g w' r d ∧ Og g w w' := by
 have C := hidOf2 (rrKind_yes X g d t r 1 w h hn)
 have CW : Hid (∀ W, Calls Tryz.prog 143 #[.string ⟨t.text.toArray⟩] W fun e w' => e = .returned (.bool false) ∧ w' = W) := fun W => by
  have := isWord_any ⟨t.text.toArray⟩ W
  rw [show (⟨t.text.toArray⟩ : ByteArray).data.toList = t.text from rfl, hw] at this
  exact this
 generalize (⟨t.text.toArray⟩ : ByteArray) = S at *
 clear h hn hw
 go_enter Tryz.func172, Tryz.ntmps172
 go_wp2_with fail
 refine C.out.mono ?_
 rintro e w2 ⟨rfl, hr, ho⟩
 have HO : Hid (Rt X g w2 r d ∧ Og g w w2) := ⟨hr, ho⟩
 clear ho hr
 go_wp2_with fail
 refine (CW.out _).mono ?_
 rintro e w3 ⟨rfl, rfl⟩
 go_wp2
 go_ret
 exact ⟨rfl, HO.out⟩
end PartRrC
section PartRrD
open Go.RowKit
def Rx.many (g : Nat) (w : World) : Nat := match w.cell? ⟨g, 0, none⟩ with | some (.slice _ n _) => n | _ => 0
theorem Rt.many {X g : Nat} {w : World} {ts : List Tk.Tok} {d : Int} (h : Rt X g w ts d) : Rx.many g w = ts.length := by
 obtain ⟨-, L, h1, h2⟩ := h
 obtain ⟨ad, cap, rfl, -⟩ := h2
 unfold Rx.many
 rw [h1.cells.1]
def Rx.ends : List Tk.Tok → List Tk.Tok
 | [] => []
 | t :: r => if Rx.is (t :: r) 6 [59] = true then Rx.ends r else t :: r
theorem Rx.ends_yes {t : Tk.Tok} {r : List Tk.Tok} (h : Rx.is (t :: r) 6 [59] = true) : Rx.ends (t :: r) = Rx.ends r := by rw [Rx.ends, if_pos h]
theorem Rx.ends_no {ts : List Tk.Tok} (h : Rx.is ts 6 [59] = false) : Rx.ends ts = ts := by
 cases ts with
 | nil => rfl
 | cons t r => rw [Rx.ends, if_neg (by rw [h]; decide)]
set_option maxHeartbeats 1000000 in
set_option maxRecDepth 100000 in
theorem rrEnds (X g : Nat) (d : Int) (ts : List Tk.Tok) (w : World) (h : Rt X g w ts d) :
  Calls Tryz.prog 94 #[.pointer (some ⟨g, 0, none⟩)] w fun e w' => e = .returned (.tuple #[]) ∧ Rt X g w' (Rx.ends ts) d ∧ Og g w w' := by
 have HR : Hid (Rt X g w ts d) := h
 obtain ⟨E, hE⟩ : ∃ E, E = Rx.ends ts := ⟨_, rfl⟩
 rw [← hE]
 have HE : Hid (Rx.ends ts = E) := hE.symm
 clear h hE
 go_enter Tryz.func94, Tryz.ntmps94
 go_wp2_with fail
 go_loopw [] (fun wr => ∃ us : List Tk.Tok, Hid (Rt X g wr us d ∧ Og g w wr ∧ Rx.ends us = E)) (fun wr => Rx.many g wr)
 case atStart => exact ⟨ts, HR.out, Og.refl _ _, HE.out⟩
 case round =>
  clear HR HE
  obtain ⟨us, HU⟩ := hrel
  cases hi : Rx.is us 6 [59] with
  | false =>
   have C := hidOf2 (rrTakes_no X g d us 6 [59] wr HU.out.1 hi)
   have HF : Hid (Rt X g wr E d ∧ Og g w wr) := by
    have := HU.out
    rw [Rx.ends_no hi] at this
    obtain ⟨a, b, rfl⟩ := this
    exact ⟨a, b⟩
   clear hi HU
   go_wp2_with fail
   refine C.out.mono ?_
   rintro e w2 ⟨rfl, rfl⟩
   go_wp2
   go_end0
   exact ⟨rfl, HF.out⟩
  | true =>
   cases us with
   | nil => cases hi
   | cons t r =>
    have C := hidOf2 (rrTakes_yes X g d t r 6 [59] wr HU.out.1 hi)
    have HM : Hid (Rx.many g wr = r.length + 1) := HU.out.1.many
    have HF : Hid (Rx.ends r = E) := by rw [← Rx.ends_yes hi]; exact HU.out.2.2
    have HO : Hid (Og g w wr) := HU.out.2.1
    clear hi HU
    go_wp2_with fail
    refine C.out.mono ?_
    rintro e w2 ⟨rfl, h2, h3⟩
    have HN : Hid (Rt X g w2 r d ∧ Og g w w2 ∧ Rx.ends r = E) := ⟨h2, HO.out.trans h3, HF.out⟩
    clear h2 h3
    go_wp2
    go_roundw
    case rel => exact ⟨r, HN.out⟩
    case measure =>
     have a := HM.out
     have b := HN.out.1.many
     omega
end PartRrD
section PartTrA
open Go.RowKit
theorem as_yes {P : Program} {T : TypeId} {fs : Array Field} (h : P.underlying T = some (.struct fs)) (xT : TypeId) (v : Value) (w : World) : (Instr.typeAssert (.iface T v) xT T true).run P w = .ok (.tuple #[v, .bool true]) w := by
 simp [Instr.typeAssert, run_underlying h]
def But (X : Nat) (w W : World) : Prop := w.heap.size ≤ W.heap.size ∧ ∀ g, g < w.heap.size → g ≠ X → W.heap[g]? = w.heap[g]?
theorem But.of {X : Nat} {w W : World} (h : Below w.heap.size w W) : But X w W := ⟨h.size, fun g hg _ => h.block g hg⟩
theorem But.trans {X : Nat} {w W U : World} (h : But X w W) (h2 : But X W U) : But X w U := ⟨Nat.le_trans h.1 h2.1, fun g hg hX => (h2.2 g (by have := h.1; omega) hX).trans (h.2 g hg hX)⟩
theorem But.up {X : Nat} {w W U : World} (h : But X w W) (h2 : Below W.heap.size W U) : But X w U := h.trans (But.of h2)
theorem But.cell {X : Nat} {w W : World} (h : But X w W) {p : Addr} {x : Value} (hX : p.block ≠ X) (hc : w.cell? p = some x) : W.cell? p = some x := by
 have hl := World.block_lt_of_cell? w _ hc
 have := h.2 p.block hl hX
 unfold World.cell? at hc ⊢
 rw [this]
 exact hc
def Shows (X : Nat) (w : World) (v : Value) (s : List UInt8) : Prop := ∀ W, But X w W → Calls Tryz.prog 41 #[v] W fun e w' => e = .returned (.string ⟨s.toArray⟩) ∧ Below W.heap.size W w'
theorem Shows.keep {X : Nat} {w w' : World} {v : Value} {s : List UInt8} (h : Shows X w v s) (hb : But X w w') : Shows X w' v s := fun W hW => h W (hb.trans hW)
theorem tcells2 {w : World} {g : Nat} {a b : Value} {ty : TypeId} (h : w.heap[g]? = some (.cells #[a, b] ty (0, 0))) : w.cell? ⟨g, 0, none⟩ = some a ∧ w.cell? ⟨g, 1, none⟩ = some b := by
 simp [World.cell?, h]
theorem tcells3 {w : World} {g : Nat} {a b c : Value} {ty : TypeId} (h : w.heap[g]? = some (.cells #[a, b, c] ty (0, 0))) : w.cell? ⟨g, 0, none⟩ = some a ∧ w.cell? ⟨g, 1, none⟩ = some b ∧ w.cell? ⟨g, 2, none⟩ = some c := by
 simp [World.cell?, h]
end PartTrA
end Go.Proofs.YtkfkbdgfnopokaaGreatDoor
