/- Patterns in memory: what a row of pieces holds; how great a pattern is, as the law measures it. Programs in memory: how great a row of nodes is, as the law measures it. Plain facts, without the program: pieces of a pattern, when they are right, and how a pattern is read from its text. Plain facts: the tokens of a text. Plain facts, without the program: what is a number among texts, the number of a text, what is cut of it, and the fields of a line. -/
import Derived.Test.YtifbgdinjdgdfapGreatDoorProg
import Derived.WalkKit
import Derived.WalkSpells
import Derived.WalkLawsBesides
import Derived.Handy
import Derived.Lib.Strings
import Derived.BigQuiet
import Derived.Below
import Derived.Deep.QuietTactic
import Derived.Deep.RegionHeld3
namespace Go.Proofs.YtifbgdinjdgdfapGreatDoor
section PartPtA
open Go.RowKit

/-- A piece: its kind, its text, its kids. -/
structure Pi where
  op : Int
  text : ByteArray
  kids : List Int
def Pi.no : Pi := ⟨0, ByteArray.empty, []⟩

/-- The slice v leads to the numbers ks. -/
def KidsAt (w : World) (v : Value) (ks : List Int) : Prop := ∃ (ka : Option Addr) (kc : Nat), v = .slice ka ks.length kc ∧
  (0 < ks.length → ∃ b o, ka = some ⟨b, o, none⟩ ∧ b < w.heap.size ∧ ∀ i, i < ks.length → w.cell? ⟨b, o + i, none⟩ = some (.int .i64 (ks.getD i 0)))
/-- Three cells hold the piece p. -/
def PieceAt (w : World) (b o : Nat) (p : Pi) : Prop := ∃ kv, w.cell? ⟨b, o, none⟩ = some (.int .i64 p.op) ∧ w.cell? ⟨b, o + 1, none⟩ = some (.string p.text) ∧ w.cell? ⟨b, o + 2, none⟩ = some kv ∧ KidsAt w kv p.kids
/-- The slice v leads to the pieces ps. -/
def PcsAt (w : World) (v : Value) (ps : List Pi) : Prop := ∃ (a : Option Addr) (c : Nat), v = .slice a ps.length c ∧
  (0 < ps.length → ∃ b o, a = some ⟨b, o, none⟩ ∧ b < w.heap.size ∧ ∀ i, i < ps.length → PieceAt w b (o + i * 3) (ps.getD i Pi.no))

theorem KidsAt.keep {w w' : World} {v : Value} {ks : List Int} (h : KidsAt w v ks) (hb : Below w.heap.size w w') : KidsAt w' v ks := by
  obtain ⟨ka, kc, rfl, f⟩ := h
  refine ⟨ka, kc, rfl, fun h0 => ?_⟩
  obtain ⟨b, o, rfl, hl, hc⟩ := f h0
  exact ⟨b, o, rfl, Nat.lt_of_lt_of_le hl hb.size, fun i hi => (hb.cell hl).trans (hc i hi)⟩
theorem PieceAt.keep {w w' : World} {b o : Nat} {p : Pi} (h : PieceAt w b o p) (hl : b < w.heap.size) (hb : Below w.heap.size w w') : PieceAt w' b o p := by
  obtain ⟨kv, c0, c1, c2, hk⟩ := h
  exact ⟨kv, (hb.cell hl).trans c0, (hb.cell hl).trans c1, (hb.cell hl).trans c2, hk.keep hb⟩
theorem PcsAt.keep {w w' : World} {v : Value} {ps : List Pi} (h : PcsAt w v ps) (hb : Below w.heap.size w w') : PcsAt w' v ps := by
  obtain ⟨ka, kc, rfl, f⟩ := h
  refine ⟨ka, kc, rfl, fun h0 => ?_⟩
  obtain ⟨b, o, rfl, hl, hc⟩ := f h0
  exact ⟨b, o, rfl, Nat.lt_of_lt_of_le hl hb.size, fun i hi => (hc i hi).keep hl hb⟩

set_option maxHeartbeats 400000 in
theorem szInts_any (v : Value) (ks : List Int) (l : Int) (w : World) (h : KidsAt w v ks) (hl0 : 0 ≤ l) (hl : l ≤ 1048576) (hk : ks.length ≤ maxLen) :
    Calls Tryz.prog 99 #[v, .int .i64 l] w fun e w' => w' = w ∧ ∃ r : Int, e = .returned (.int .i64 r) ∧ (r = -1 ∨ 0 ≤ r ∧ r ≤ l ∧ ks.length ≤ 1048576) := by
  obtain ⟨ka, kc, rfl, _⟩ := h
  unfold maxLen at hk
  by_cases hq : l - (ks.length : Int) < 0
  · have d : decide (l - (ks.length : Int) < 0) = true := by simpa using hq
    go_enter Tryz.func99, Tryz.ntmps99
    go_wp2
    go_ret
    exact ⟨rfl, -1, rfl, .inl rfl⟩
  · have d : decide (l - (ks.length : Int) < 0) = false := by simpa using hq
    go_enter Tryz.func99, Tryz.ntmps99
    go_wp2
    go_ret
    exact ⟨rfl, _, rfl, .inr ⟨by omega, by omega, by omega⟩⟩

/-- No piece is too great. -/
def Small (ps : List Pi) (n : Nat) : Prop := ∀ i, i < n → (ps.getD i Pi.no).kids.length ≤ 1048576 ∧ (ps.getD i Pi.no).text.size ≤ 1048576
/-- Lengths that fit in memory. -/
def Fit (ps : List Pi) : Prop := ps.length ≤ maxLen ∧ ∀ i, i < ps.length → (ps.getD i Pi.no).kids.length ≤ maxLen ∧ (ps.getD i Pi.no).text.size ≤ maxLen

end PartPtA
section PartLgA
open Go.RowKit

set_option maxHeartbeats 400000 in
theorem szNode_any (kv : Value) (p : Pi) (l : Int) (w : World) (h : KidsAt w kv p.kids) (hl0 : 0 ≤ l) (hl : l ≤ 1048576) (hk : p.kids.length ≤ maxLen) (ht : p.text.size ≤ maxLen) :
    Calls Tryz.prog 66 #[.agg #[.int .i64 p.op, .string p.text, kv], .int .i64 l] w fun e w' => Below w.heap.size w w' ∧ ∃ r : Int, e = .returned (.int .i64 r) ∧ (r = -1 ∨ 0 ≤ r ∧ r ≤ l ∧ p.kids.length ≤ 1048576 ∧ p.text.size ≤ 1048576) := by
  obtain ⟨op, t, ks⟩ := p
  simp only at h hk ht ⊢
  have ht2 := ht
  unfold maxLen at ht2
  by_cases hq : l - (t.size : Int) < 0
  · have d : decide (l - (t.size : Int) < 0) = true := by simpa using hq
    obtain ⟨ka, kc, rfl, _⟩ := h
    go_enter Tryz.func66, Tryz.ntmps66
    go_wp2
    go_ret
    exact ⟨(Below.refl _ _).alloc (Nat.le_refl _) _, -1, rfl, .inl rfl⟩
  · have d : decide (l - (t.size : Int) < 0) = false := by simpa using hq
    have C := fun w' (hb : Below w.heap.size w w') => szInts_any kv ks (l - (t.size : Int)) w' (h.keep hb) (by omega) (by omega) hk
    obtain ⟨ka, kc, rfl, _⟩ := h
    have HC : Hid (∀ w', Below w.heap.size w w' → Calls Tryz.prog 99 #[.slice ka ks.length kc, .int .i64 (l - (t.size : Int))] w' fun e w'' => w'' = w' ∧ ∃ r : Int, e = .returned (.int .i64 r) ∧ (r = -1 ∨ 0 ≤ r ∧ r ≤ l - (t.size : Int) ∧ ks.length ≤ 1048576)) := C
    clear C
    go_enter Tryz.func66, Tryz.ntmps66
    go_wp2_with fail
    refine (HC.out _ ((Below.refl _ _).alloc (Nat.le_refl _) _)).mono ?_
    rintro e w1 ⟨rfl, r, rfl, hr⟩
    rcases hr with rfl | ⟨hr0, hr1, hr2⟩
    · go_wp2
      go_ret
      exact ⟨(Below.refl _ _).alloc (Nat.le_refl _) _, -1, rfl, .inl rfl⟩
    · have d2 : decide (r < 0) = false := by simp; omega
      go_wp2
      go_ret
      exact ⟨(Below.refl _ _).alloc (Nat.le_refl _) _, _, rfl, .inr ⟨hr0, by omega, hr2, by omega⟩⟩

set_option maxHeartbeats 800000 in
theorem szNodes_any (v : Value) (ps : List Pi) (l : Int) (w : World) (h : PcsAt w v ps) (hl0 : 0 ≤ l) (hl : l ≤ 1048576) (hf : Fit ps) :
    Calls Tryz.prog 31 #[v, .int .i64 l] w fun e w' => Below w.heap.size w w' ∧ ∃ r : Int, e = .returned (.int .i64 r) ∧ (r = -1 ∨ 0 ≤ r ∧ r ≤ l ∧ ps.length ≤ 1048576 ∧ Small ps ps.length) := by
  have hf1 := hf.1
  unfold maxLen at hf1
  obtain ⟨ad, c, rfl, f⟩ := h
  obtain ⟨n, hn⟩ : ∃ n, n = ps.length := ⟨_, rfl⟩
  have HF : Hid (∀ i, i < n → (ps.getD i Pi.no).kids.length ≤ maxLen ∧ (ps.getD i Pi.no).text.size ≤ maxLen) := by rw [hn]; exact hf.2
  rw [← hn] at f hf1 ⊢
  clear hf
  by_cases hq : l - (n : Int) < 0
  · have d : decide (l - (n : Int) < 0) = true := by simpa using hq
    clear f hn
    go_enter Tryz.func31, Tryz.ntmps31
    go_wp2
    go_ret
    exact ⟨Below.refl _ _, -1, rfl, .inl rfl⟩
  · have d : decide (l - (n : Int) < 0) = false := by simpa using hq
    have hn2 : n ≤ 1048576 := by omega
    by_cases h0 : n = 0
    · subst h0
      clear f hn HF
      have d : decide (l - ((0 : Nat) : Int) < 0) = false := by simpa using hq
      go_enter Tryz.func31, Tryz.ntmps31
      go_wp2
      refine wp_loop_rounds 1 ?_
      rw [rounds_succ]
      go_wp2
      go_ret
      exact ⟨Below.refl _ _, _, rfl, .inr ⟨by omega, by omega, by omega, fun i hi => by omega⟩⟩
    · obtain ⟨b, o, rfl, hb, hc⟩ := f (by omega)
      have HC : Hid (∀ i, i < n → PieceAt w b (o + i * 3) (ps.getD i Pi.no)) := hc
      clear hc f hn
      go_enter Tryz.func31, Tryz.ntmps31
      go_wp2
      go_loopw [1, 5] (fun q i wr => ∃ (k : Nat) (r : Int), i = .int .i64 (k : Int) ∧ q = .int .i64 r ∧ 0 ≤ r ∧ r ≤ l ∧ k ≤ n ∧ Below w.heap.size w wr ∧ Hid (Small ps k)) (fun _ i _ => n - (intOf i).toNat)
      case atStart => exact ⟨0, _, rfl, rfl, by omega, by omega, by omega, Below.refl _ _, fun i hi => by omega⟩
      case round =>
        obtain ⟨k, r, rfl, rfl, hr0, hr1, hk, hbel, HS⟩ := hrel
        have hsz := hbel.size
        by_cases hlt : k < n
        · obtain ⟨p, hp⟩ : ∃ p, p = ps.getD k Pi.no := ⟨_, rfl⟩
          have hpc := HC.out k hlt
          rw [← hp] at hpc
          obtain ⟨kv, c0, c1, c2, hkv⟩ := hpc
          have e0 := (hbel.cell hb).trans c0
          have e1 := (hbel.cell hb).trans c1
          have e2 := (hbel.cell hb).trans c2
          have hkv2 := hkv.keep hbel
          have hkl := HF.out k hlt
          rw [← hp] at hkl
          have CC : Hid (Calls Tryz.prog 66 #[.agg #[.int .i64 p.op, .string p.text, kv], .int .i64 r] wr fun e w' => Below wr.heap.size wr w' ∧ ∃ r' : Int, e = .returned (.int .i64 r') ∧ (r' = -1 ∨ 0 ≤ r' ∧ r' ≤ r ∧ p.kids.length ≤ 1048576 ∧ p.text.size ≤ 1048576)) :=
            szNode_any kv p r wr hkv2 hr0 (by omega) hkl.1 hkl.2
          have HP : Hid (p = ps.getD k Pi.no) := hp
          clear hp c0 c1 c2 hkl
          obtain ⟨op, t, ks⟩ := p
          obtain ⟨ka, kc, rfl, _⟩ := hkv2
          clear hkv
          have i1 : (k : Int) < (n : Int) := by omega
          go_wp2_with fail
          refine CC.out.mono ?_
          rintro e w1 ⟨hb1, r1, rfl, hr⟩
          rcases hr with rfl | ⟨h3, h4, h5, h6⟩
          · go_wp2
            go_ret
            exact ⟨hbel.trans (hb1.mono hsz), -1, rfl, .inl rfl⟩
          · have d2 : decide (r1 < 0) = false := by simp; omega
            go_wp2
            go_roundw
            case rel =>
              refine ⟨k + 1, r1, by go_num, rfl, h3, by omega, by omega, hbel.trans (hb1.mono hsz), ?_⟩
              intro i hi
              by_cases hik : i = k
              · subst hik
                rw [← HP.out]
                exact ⟨h5, h6⟩
              · exact HS.out i (by omega)
            case measure => simp [intOf]; omega
        · obtain rfl : k = n := by omega
          go_wp2
          go_ret
          exact ⟨hbel, _, rfl, .inr ⟨hr0, hr1, by omega, HS.out⟩⟩

end PartLgA
section PartPPat
namespace Pp

/-- A piece of a pattern. -/
structure Pc where
  op : Nat
  text : List UInt8
  kids : List Nat
deriving DecidableEq

/-- How many kids a piece of this kind has, and how long its text may be; nothing of other kinds. -/
def form (op : Nat) : Option (Nat × Nat) :=
  if op = 5 ∨ op = 6 then some (2, 0)
  else if op = 7 ∨ op = 8 ∨ op = 9 then some (1, 0)
  else if op = 1 then some (0, 1)
  else if op = 3 ∨ op = 4 then some (0, 24)
  else if op = 2 ∨ op = 10 ∨ op = 11 ∨ op = 12 then some (0, 0)
  else none

/-- Is it a sign that stands for something else? -/
def special (b : UInt8) : Bool := [42, 43, 63, 124, 40, 41, 91, 93, 46, 94, 36, 92].contains b

/-- One piece more, and its place; none where there are too many. -/
def put (out : List Pc) (x : Pc) : Option (List Pc × Nat) := if 60 < out.length + 1 then none else some (out ++ [x], out.length)

/-- The place of the next sign that closes a set, from a place on. -/
def close : List UInt8 → Nat → Nat
  | [], a => a
  | b :: r, a => if b = 93 then a else close r (a + 1)

/-- A set, behind its opening sign. -/
def set (l : List UInt8) (a : Nat) (out : List Pc) : Option (Nat × List Pc × Nat) :=
  let neg := l[a]? == some 94
  let b := if neg then a + 1 else a
  let e := close (l.drop b) b
  if e = l.length ∨ e = b then none
  else (put out ⟨if neg then 4 else 3, (l.drop b).take (e - b), []⟩).map fun (o, k) => (e + 1, o, k)

mutual
/-- A thing; f: how deep it may go. -/
def thing (l : List UInt8) : Nat → Nat → List Pc → Option (Nat × List Pc × Nat)
  | 0, _, _ => none
  | f + 1, a, out =>
    match l[a]? with
    | none => none
    | some b =>
      if b = 94 then (put out ⟨10, [], []⟩).map fun (o, k) => (a + 1, o, k)
      else if b = 36 then (put out ⟨11, [], []⟩).map fun (o, k) => (a + 1, o, k)
      else if b = 46 then (put out ⟨2, [], []⟩).map fun (o, k) => (a + 1, o, k)
      else if b = 91 then set l (a + 1) out
      else if b = 40 then
        match alt l f (a + 1) out with
        | none => none
        | some (e, o, k) => if l[e]? = some 41 then some (e + 1, o, k) else none
      else if b = 92 then
        match l[a + 1]? with
        | none => none
        | some c => if special c then (put out ⟨1, [c], []⟩).map fun (o, k) => (a + 2, o, k) else none
      else if special b then none
      else (put out ⟨1, [b], []⟩).map fun (o, k) => (a + 1, o, k)
/-- Behind a thing: as many of the three signs as there are. -/
def more (l : List UInt8) : Nat → Nat → List Pc → Nat → Option (Nat × List Pc × Nat)
  | 0, _, _, _ => none
  | f + 1, a, out, k =>
    match l[a]? with
    | none => some (a, out, k)
    | some b =>
      if b = 42 ∨ b = 43 ∨ b = 63 then
        match put out ⟨if b = 43 then 8 else if b = 63 then 9 else 7, [], [k]⟩ with
        | none => none
        | some (o, j) => more l f (a + 1) o j
      else some (a, out, k)
def many (l : List UInt8) : Nat → Nat → List Pc → Option (Nat × List Pc × Nat)
  | 0, _, _ => none
  | f + 1, a, out =>
    match thing l f a out with
    | none => none
    | some (e, o, k) => more l f e o k
/-- What follows the first thing of a row. -/
def rest (l : List UInt8) : Nat → Nat → List Pc → Nat → Option (Nat × List Pc × Nat)
  | 0, _, _, _ => none
  | f + 1, a, out, k =>
    match l[a]? with
    | none => some (a, out, k)
    | some b =>
      if b = 124 ∨ b = 41 then some (a, out, k)
      else
        match many l f a out with
        | none => none
        | some (e, o, j) =>
          match put o ⟨5, [], [k, j]⟩ with
          | none => none
          | some (o2, k2) => rest l f e o2 k2
def row (l : List UInt8) : Nat → Nat → List Pc → Option (Nat × List Pc × Nat)
  | 0, _, _ => none
  | f + 1, a, out =>
    if l[a]? = none ∨ l[a]? = some 124 ∨ l[a]? = some 41 then (put out ⟨12, [], []⟩).map fun (o, k) => (a, o, k)
    else
      match many l f a out with
      | none => none
      | some (e, o, k) => rest l f e o k
/-- What follows the first alternative. -/
def alts (l : List UInt8) : Nat → Nat → List Pc → Nat → Option (Nat × List Pc × Nat)
  | 0, _, _, _ => none
  | f + 1, a, out, k =>
    if l[a]? = some 124 then
      match row l f (a + 1) out with
      | none => none
      | some (e, o, j) =>
        match put o ⟨6, [], [k, j]⟩ with
        | none => none
        | some (o2, k2) => alts l f e o2 k2
    else some (a, out, k)
def alt (l : List UInt8) : Nat → Nat → List Pc → Option (Nat × List Pc × Nat)
  | 0, _, _ => none
  | f + 1, a, out =>
    match row l f a out with
    | none => none
    | some (e, o, k) => alts l f e o k
end

/-- What ReadPattern answers. -/
def read (l : List UInt8) : Option (List Pc) :=
  if 1 ≤ l.length ∧ l.length ≤ 24 then
    match alt l 200 0 [] with
    | none => none
    | some (e, o, _) => if e < l.length then none else some o
  else none

/-- Is one piece, at place i, right? -/
def pieceOk (i : Nat) (x : Pc) : Bool :=
  match form x.op with
  | none => false
  | some (kids, texts) => decide (x.kids.length = kids ∧ x.text.length ≤ texts ∧ (0 < texts → x.text ≠ []) ∧ ∀ k ∈ x.kids, k < i)
end Pp
end PartPPat
section PartTkP
namespace Tk

/-- A token: its kind and its text. -/
structure Tok where
  kind : Nat
  text : List UInt8
def no : Tok := ⟨0, []⟩
def letter (b : UInt8) : Bool := (decide (97 ≤ b.toNat) && decide (b.toNat ≤ 122)) || (decide (65 ≤ b.toNat) && decide (b.toNat ≤ 90))
def figure (b : UInt8) : Bool := decide (48 ≤ b.toNat) && decide (b.toNat ≤ 57)
/-- The first place from i on whose byte is not so, or the end. -/
def run (p : UInt8 → Bool) (l : List UInt8) (i : Nat) : Nat := i + ((l.drop i).takeWhile p).length
theorem run_end (p : UInt8 → Bool) {l : List UInt8} {i : Nat} (h : l.length ≤ i) : run p l i = i := by
  unfold run
  rw [List.drop_eq_nil_of_le h]
  rfl
theorem run_step {p : UInt8 → Bool} {l : List UInt8} {i : Nat} (h : i < l.length) (hp : p l[i] = true) : run p l i = run p l (i + 1) := by
  unfold run
  rw [List.drop_eq_getElem_cons h, List.takeWhile_cons_of_pos hp]
  simp
  omega
theorem run_stop {p : UInt8 → Bool} {l : List UInt8} {i : Nat} (h : i < l.length) (hp : p l[i] = false) : run p l i = i := by
  unfold run
  rw [List.drop_eq_getElem_cons h, List.takeWhile_cons_of_neg (by simp [hp])]
  rfl
theorem run_ge (p : UInt8 → Bool) (l : List UInt8) (i : Nat) : i ≤ run p l i := by unfold run; omega
theorem run_le (p : UInt8 → Bool) {l : List UInt8} {i : Nat} (h : i ≤ l.length) : run p l i ≤ l.length := by
  unfold run
  have := (List.takeWhile_prefix p (l := l.drop i)).length_le
  simp at this
  omega
/-- What stands from a up to b. -/
def cut (l : List UInt8) (a b : Nat) : List UInt8 := (l.drop a).take (b - a)
/-- The end of what stands between two marks, from the first one on, or 0. -/
def textEnd (l : List UInt8) (a : Nat) (m : UInt8) (most : Nat) : Nat :=
  if l[run (fun b => b != m && b != 10) l (a + 1)]? = some m ∧ run (fun b => b != m && b != 10) l (a + 1) - a - 1 ≤ most then run (fun b => b != m && b != 10) l (a + 1) else 0
theorem textEnd_lt {l : List UInt8} {a : Nat} {m : UInt8} {most : Nat} (h : textEnd l a m most ≠ 0) : a < textEnd l a m most ∧ textEnd l a m most < l.length := by
  unfold textEnd at h ⊢
  split at h
  · rename_i k
    rw [if_pos k]
    refine ⟨by have := run_ge (fun b => b != m && b != 10) l (a + 1); omega, ?_⟩
    exact (List.getElem?_eq_some_iff.1 k.1).1
  · exact absurd rfl h
def signs : List UInt8 := [123, 125, 40, 41, 91, 93, 36, 126, 60, 43, 45, 42, 37, 46, 44, 61]
/-- The token at a, and the place behind it. -/
def one (l : List UInt8) (a : Nat) (last : Tok) : Option (Tok × Nat) :=
  if l.getD a 0 = 10 ∨ l.getD a 0 = 59 then some (⟨6, [59]⟩, a + 1)
  else if letter (l.getD a 0) = true then (if 8 < run letter l a - a then none else some (⟨1, cut l a (run letter l a)⟩, run letter l a))
  else if figure (l.getD a 0) = true then (if 6 < run figure l a - a then none else some (⟨2, cut l a (run figure l a)⟩, run figure l a))
  else if l.getD a 0 = 34 then (if textEnd l a 34 30 = 0 then none else some (⟨3, cut l (a + 1) (textEnd l a 34 30)⟩, textEnd l a 34 30 + 1))
  else if l.getD a 0 = 47 then (if textEnd l a 47 24 = 0 ∨ last.kind ≠ 5 ∨ last.text ≠ [126] then none else if (Pp.read (cut l (a + 1) (textEnd l a 47 24))).isSome = true then some (⟨4, cut l (a + 1) (textEnd l a 47 24)⟩, textEnd l a 47 24 + 1) else none)
  else if l[a + 1]? = some 61 ∧ (l.getD a 0 = 43 ∨ l.getD a 0 = 61) then some (⟨5, cut l a (a + 2)⟩, a + 2)
  else if l.getD a 0 ∈ signs then some (⟨5, cut l a (a + 1)⟩, a + 1)
  else none
/-- The token is behind its place. -/
theorem one_gt {l : List UInt8} {a : Nat} {last t : Tok} {n : Nat} (ha : a < l.length) (h : one l a last = some (t, n)) : a < n ∧ n ≤ l.length := by
  have hg : l.getD a 0 = l[a] := by simp [ha]
  unfold one at h
  split at h
  · simp only [Option.some.injEq, Prod.mk.injEq] at h; omega
  split at h
  · rename_i k
    split at h
    · cases h
    · simp only [Option.some.injEq, Prod.mk.injEq] at h
      rw [hg] at k
      have := run_step ha k
      have := run_ge letter l (a + 1)
      have := run_le letter (Nat.le_of_lt ha)
      omega
  split at h
  · rename_i k
    split at h
    · cases h
    · simp only [Option.some.injEq, Prod.mk.injEq] at h
      rw [hg] at k
      have := run_step ha k
      have := run_ge figure l (a + 1)
      have := run_le figure (Nat.le_of_lt ha)
      omega
  split at h
  · split at h
    · cases h
    · rename_i k
      simp only [Option.some.injEq, Prod.mk.injEq] at h
      have := textEnd_lt k
      omega
  split at h
  · split at h
    · cases h
    · rename_i k
      split at h
      · simp only [Option.some.injEq, Prod.mk.injEq] at h
        have := textEnd_lt (l := l) (a := a) (m := 47) (most := 24) (fun e => k (.inl e))
        omega
      · cases h
  split at h
  · rename_i k
    simp only [Option.some.injEq, Prod.mk.injEq] at h
    have := (List.getElem?_eq_some_iff.1 k.1).1
    omega
  split at h
  · simp only [Option.some.injEq, Prod.mk.injEq] at h; omega
  · cases h
/-- All tokens from a on, behind those of out, and the place of a fault, or 0. -/
def loop (l : List UInt8) : Nat → Nat → Tok → List Tok → List Tok × Nat
  | 0, _, _, out => (out, 0)
  | f + 1, a, last, out =>
    if l.length ≤ a then (out, 0)
    else if l.getD a 0 = 32 ∨ l.getD a 0 = 9 then loop l f (a + 1) last out
    else if l.getD a 0 = 35 then loop l f (run (fun b => b != 10) l a) last out
    else match one l a last with
      | none => ([], a + 1)
      | some (t, n) => if out.length = 200 then ([], a + 1) else loop l f n t (out ++ [t])
def tokens (l : List UInt8) : List Tok × Nat := if 600 < l.length then ([], 601) else loop l (l.length + 1) 0 no []
end Tk
end PartTkP
section PartPV
namespace Pv

/-- Is it a figure? -/
def fg (b : UInt8) : Bool := decide (48 ≤ b.toNat ∧ b.toNat ≤ 57)
/-- Is it a number: one to six figures, and nothing else? -/
def isn (l : List UInt8) : Bool := l.all fg && decide (1 ≤ l.length ∧ l.length ≤ 6)
theorem isn_no (s : ByteArray) (k : Nat) (h : k < s.size) (hb : s[k].toNat < 48 ∨ 57 < s[k].toNat) : isn s.data.toList = false := by
  have : s.data.toList.all fg = false := by
    rw [List.all_eq_false]
    refine ⟨s[k], List.getElem_mem (l := s.data.toList) (by simpa using h), ?_⟩
    simp [fg]; omega
  simp [isn, this]
theorem isn_size (s : ByteArray) (h : s.size < 1 ∨ 6 < s.size) : isn s.data.toList = false := by
  have e : s.data.toList.length = s.size := by simp
  unfold isn
  rw [e, Bool.and_eq_false_iff]
  right
  simp; omega
theorem isn_all (s : ByteArray) (h : ∀ k (hk : k < s.size), 48 ≤ s[k].toNat ∧ s[k].toNat ≤ 57) : isn s.data.toList = decide (1 ≤ s.size ∧ s.size ≤ 6) := by
  have e : s.data.toList.length = s.size := by simp
  have : s.data.toList.all fg = true := by
    rw [List.all_eq_true]
    intro b hb
    obtain ⟨i, hi, rfl⟩ := List.mem_iff_getElem.1 hb
    exact decide_eq_true (h i (by simpa using hi))
  unfold isn
  rw [this, e, Bool.true_and]

/-- The number that n grows to by the figures ahead. -/
def num : Nat → List UInt8 → Nat
  | n, [] => n
  | n, b :: r => if fg b then num ((n * 10 + (b.toNat - 48)) % 1000000) r else n
/-- Without the blanks ahead. -/
def skip (l : List UInt8) : List UInt8 := l.dropWhile (· == 32)
/-- The number of a text. -/
def nof (l : List UInt8) : Nat := num 0 (skip l)
theorem num_lt (n : Nat) (l : List UInt8) (h : n < 1000000) : num n l < 1000000 := by
  induction l generalizing n with
  | nil => exact h
  | cons b r ih =>
    rw [num]
    split
    · exact ih _ (Nat.mod_lt _ (by omega))
    · exact h
theorem nof_lt (l : List UInt8) : nof l < 1000000 := num_lt 0 _ (by omega)
theorem num_fig (n : Nat) (b : UInt8) (r : List UInt8) (h1 : 48 ≤ b.toNat) (h2 : b.toNat ≤ 57) : num n (b :: r) = num ((n * 10 + (b.toNat - 48)) % 1000000) r := by
  rw [num, if_pos (by simp [fg]; omega)]
theorem num_stop (n : Nat) (b : UInt8) (r : List UInt8) (h : b.toNat < 48 ∨ 57 < b.toNat) : num n (b :: r) = n := by
  rw [num, if_neg (by simp [fg]; omega)]
theorem skip_blank (b : UInt8) (r : List UInt8) (h : b.toNat = 32) : skip (b :: r) = skip r := by
  have : b = 32 := UInt8.toNat_inj.1 (by rw [h]; rfl)
  subst this
  simp [skip]
theorem skip_sign (b : UInt8) (r : List UInt8) (h : b.toNat ≠ 32) : skip (b :: r) = b :: r := by
  have : ¬ b = 32 := by intro e; apply h; rw [e]; rfl
  simp [skip, this]
theorem drop_at (s : ByteArray) (k : Nat) (h : k < s.size) : s.data.toList.drop k = s[k] :: s.data.toList.drop (k + 1) := by
  rw [List.drop_eq_getElem_cons (by simpa using h)]; rfl
theorem drop_end (s : ByteArray) (k : Nat) (h : s.size ≤ k) : s.data.toList.drop k = [] := List.drop_of_length_le (by simpa using h)
theorem skip_len (l : List UInt8) : (skip l).length ≤ l.length := by
  unfold skip
  exact (List.dropWhile_suffix _).length_le

/-- What is cut of a text. -/
def cut (l : List UInt8) : List UInt8 := l.take 40
theorem cut_len (l : List UInt8) : (cut l).length ≤ 40 := by simp [cut]; omega
theorem cut_cut (l : List UInt8) : cut (cut l) = cut l := by
  unfold cut
  rw [List.take_take]
  rfl
theorem cut_short (l : List UInt8) (h : l.length ≤ 40) : cut l = l := List.take_of_length_le h

/-- Does it part fields? -/
def gap (b : UInt8) : Bool := decide (b.toNat = 32 ∨ b.toNat = 9)
/-- The parts of what is left, cur being read already. -/
def fld : List UInt8 → List UInt8 → List (List UInt8)
  | cur, [] => if cur = [] then [] else [cut cur]
  | cur, b :: r => if gap b then (if cur = [] then fld [] r else cut cur :: fld [] r) else fld (cur ++ [b]) r
/-- The fields of a line. -/
def flds (l : List UInt8) : List (List UInt8) := (fld [] l).take 20
theorem fld_end (cur : List UInt8) (h : cur ≠ []) : fld cur [] = [cut cur] := by rw [fld, if_neg h]
theorem fld_end0 : fld [] [] = [] := rfl
theorem fld_gap (cur : List UInt8) (h : cur ≠ []) (b : UInt8) (hb : gap b = true) (r : List UInt8) : fld cur (b :: r) = cut cur :: fld [] r := by rw [fld, if_pos hb, if_neg h]
theorem fld_gap0 (b : UInt8) (hb : gap b = true) (r : List UInt8) : fld [] (b :: r) = fld [] r := by rw [fld, if_pos hb, if_pos rfl]
theorem fld_sign (cur : List UInt8) (b : UInt8) (h : gap b = false) (r : List UInt8) : fld cur (b :: r) = fld (cur ++ [b]) r := by rw [fld, if_neg (by rw [h]; decide)]
theorem flds_len (l : List UInt8) : (flds l).length ≤ 20 := by simp [flds]; omega
theorem cur_more (s : ByteArray) (p k : Nat) (hp : p ≤ k) (h : k < s.size) : (s.data.toList.drop p).take (k - p) ++ [s[k]] = (s.data.toList.drop p).take (k + 1 - p) := by
  rw [show k + 1 - p = (k - p) + 1 by omega, List.take_add_one]
  congr 1
  rw [List.getElem?_drop, show p + (k - p) = k by omega, List.getElem?_eq_getElem (by simpa using h)]
  rfl
theorem cur_ne (s : ByteArray) (p k : Nat) (hp : p < k) (h : k ≤ s.size) : (s.data.toList.drop p).take (k - p) ≠ [] := by
  intro e
  have := congrArg List.length e
  simp at this
  omega
theorem cur_nil (s : ByteArray) (k : Nat) : (s.data.toList.drop k).take (k - k) = [] := by simp

/-- What is held at a round's head: ws are the fields that are done (no more than twenty), the next one begins at p, k signs are read. -/
structure At (s : ByteArray) (k p : Nat) (ws : List (List UInt8)) : Prop where
  inside : k ≤ s.size → p ≤ k ∧ (ws ++ fld ((s.data.toList.drop p).take (k - p)) (s.data.toList.drop k)).take 20 = flds s.data.toList
  over : s.size < k → ws = flds s.data.toList
  few : ws.length ≤ 20
theorem At.start (s : ByteArray) : At s 0 0 [] := ⟨fun _ => ⟨Nat.le_refl _, rfl⟩, fun h => by omega, by simp⟩
theorem At.sign {s : ByteArray} {k p : Nat} {ws : List (List UInt8)} (h : At s k p ws) (hk : k < s.size) (hb : s[k].toNat ≠ 32) (hb2 : s[k].toNat ≠ 9) : At s (k + 1) p ws := by
  obtain ⟨i1, i2⟩ := h.inside (by omega)
  refine ⟨fun _ => ⟨by omega, ?_⟩, fun ho => by omega, h.few⟩
  rw [← i2, drop_at s k hk, fld_sign _ _ (by simp [gap, hb, hb2]), cur_more s p k i1 hk]
theorem At.gap {s : ByteArray} {k p : Nat} {ws : List (List UInt8)} (h : At s k p ws) (hk : k < s.size) (hb : s[k].toNat = 32 ∨ s[k].toNat = 9) :
    (p < k → ws.length < 20 → At s (k + 1) (k + 1) (ws ++ [cut ((s.data.toList.drop p).take (k - p))])) ∧ (p < k → 20 ≤ ws.length → At s (k + 1) (k + 1) ws) ∧ (¬ p < k → At s (k + 1) (k + 1) ws) := by
  obtain ⟨i1, i2⟩ := h.inside (by omega)
  have hg : Pv.gap s[k] = true := decide_eq_true hb
  refine ⟨fun hp hw => ?_, fun hp hw => ?_, fun hp => ?_⟩
  · refine ⟨fun _ => ⟨Nat.le_refl _, ?_⟩, fun ho => by omega, by simp; omega⟩
    rw [← i2, drop_at s k hk, fld_gap _ (cur_ne s p k hp (by omega)) _ hg, cur_nil]
    simp
  · have hw2 : ws.length = 20 := by have := h.few; omega
    refine ⟨fun _ => ⟨Nat.le_refl _, ?_⟩, fun ho => by omega, h.few⟩
    rw [← i2, List.take_append_of_le_length (by omega), List.take_append_of_le_length (by omega)]
  · obtain rfl : p = k := by omega
    refine ⟨fun _ => ⟨Nat.le_refl _, ?_⟩, fun ho => by omega, h.few⟩
    rw [← i2, cur_nil, cur_nil, drop_at s p hk, fld_gap0 _ hg]
theorem At.last {s : ByteArray} {k p : Nat} {ws : List (List UInt8)} (h : At s k p ws) (hk : k = s.size) :
    (p < k → ws.length < 20 → At s (k + 1) (k + 1) (ws ++ [cut ((s.data.toList.drop p).take (k - p))])) ∧ (p < k → 20 ≤ ws.length → At s (k + 1) (k + 1) ws) ∧ (¬ p < k → At s (k + 1) (k + 1) ws) := by
  obtain ⟨i1, i2⟩ := h.inside (by omega)
  have hd : s.data.toList.drop k = [] := drop_end s k (by omega)
  rw [hd] at i2
  refine ⟨fun hp hw => ?_, fun hp hw => ?_, fun hp => ?_⟩
  · refine ⟨fun ho => by omega, fun _ => ?_, by simp; omega⟩
    rw [← i2, fld_end _ (cur_ne s p k hp (by omega))]
    exact (List.take_of_length_le (by rw [List.length_append, List.length_singleton]; omega)).symm
  · have hw2 : ws.length = 20 := by have := h.few; omega
    refine ⟨fun ho => by omega, fun _ => ?_, h.few⟩
    rw [← i2, List.take_append_of_le_length (by omega), List.take_of_length_le (by omega)]
  · obtain rfl : p = k := by omega
    refine ⟨fun ho => by omega, fun _ => ?_, h.few⟩
    rw [← i2, cur_nil, fld_end0, List.append_nil, List.take_of_length_le h.few]
/-- Twenty fields are all. -/
theorem At.full {s : ByteArray} {k p : Nat} {ws : List (List UInt8)} (h : At s k p ws) (hw : 20 ≤ ws.length) : ws = flds s.data.toList := by
  by_cases hk : k ≤ s.size
  · obtain ⟨i1, i2⟩ := h.inside hk
    rw [← i2, List.take_append_of_le_length hw, List.take_of_length_le h.few]
  · exact h.over (by omega)
end Pv
end PartPV
end Go.Proofs.YtifbgdinjdgdfapGreatDoor
