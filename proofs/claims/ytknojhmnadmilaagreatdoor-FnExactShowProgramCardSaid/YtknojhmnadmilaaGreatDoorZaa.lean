/- Patterns in memory: what a row of pieces holds; how great a pattern is, as the law measures it. Programs in memory: how great a row of nodes is, as the law measures it. Plain facts, without the program: pieces of a pattern, when they are right, and how a pattern is read from its text. -/
import Derived.Test.YtknojhmnadmilaaGreatDoorProg
import Derived.WalkKit
import Derived.WalkSpells
import Derived.WalkLawsBesides
import Derived.Handy
import Derived.Lib.Strings
import Derived.BigQuiet
import Derived.Below
import Derived.Deep.QuietTactic
import Derived.Deep.RegionHeld3
namespace Go.Proofs.YtknojhmnadmilaaGreatDoor
section PartPtA
open Go.RowKit

/-- A piece: its kind, its text, its kids. -/
structure Pi where
  op : Int
  text : ByteArray
  kids : List Int
def Pi.no : Pi := ⟨0, ByteArray.empty, []⟩

/-- The slice v leads to the numbers ks. -/
def KidsAt (w : World) (v : Value) (ks : List Int) : Prop := ∃ (ka : Option Addr) (kc : Nat), v = .slice ka ks.length kc ∧
  (0 < ks.length → ∃ b o, ka = some ⟨b, o, none⟩ ∧ b < w.heap.size ∧ ∀ i, i < ks.length → w.cell? ⟨b, o + i, none⟩ = some (.int .i64 (ks.getD i 0)))
/-- Three cells hold the piece p. -/
def PieceAt (w : World) (b o : Nat) (p : Pi) : Prop := ∃ kv, w.cell? ⟨b, o, none⟩ = some (.int .i64 p.op) ∧ w.cell? ⟨b, o + 1, none⟩ = some (.string p.text) ∧ w.cell? ⟨b, o + 2, none⟩ = some kv ∧ KidsAt w kv p.kids
/-- The slice v leads to the pieces ps. -/
def PcsAt (w : World) (v : Value) (ps : List Pi) : Prop := ∃ (a : Option Addr) (c : Nat), v = .slice a ps.length c ∧
  (0 < ps.length → ∃ b o, a = some ⟨b, o, none⟩ ∧ b < w.heap.size ∧ ∀ i, i < ps.length → PieceAt w b (o + i * 3) (ps.getD i Pi.no))

theorem KidsAt.keep {w w' : World} {v : Value} {ks : List Int} (h : KidsAt w v ks) (hb : Below w.heap.size w w') : KidsAt w' v ks := by
  obtain ⟨ka, kc, rfl, f⟩ := h
  refine ⟨ka, kc, rfl, fun h0 => ?_⟩
  obtain ⟨b, o, rfl, hl, hc⟩ := f h0
  exact ⟨b, o, rfl, Nat.lt_of_lt_of_le hl hb.size, fun i hi => (hb.cell hl).trans (hc i hi)⟩
theorem PieceAt.keep {w w' : World} {b o : Nat} {p : Pi} (h : PieceAt w b o p) (hl : b < w.heap.size) (hb : Below w.heap.size w w') : PieceAt w' b o p := by
  obtain ⟨kv, c0, c1, c2, hk⟩ := h
  exact ⟨kv, (hb.cell hl).trans c0, (hb.cell hl).trans c1, (hb.cell hl).trans c2, hk.keep hb⟩
theorem PcsAt.keep {w w' : World} {v : Value} {ps : List Pi} (h : PcsAt w v ps) (hb : Below w.heap.size w w') : PcsAt w' v ps := by
  obtain ⟨ka, kc, rfl, f⟩ := h
  refine ⟨ka, kc, rfl, fun h0 => ?_⟩
  obtain ⟨b, o, rfl, hl, hc⟩ := f h0
  exact ⟨b, o, rfl, Nat.lt_of_lt_of_le hl hb.size, fun i hi => (hc i hi).keep hl hb⟩

set_option maxHeartbeats 400000 in
theorem szInts_any (v : Value) (ks : List Int) (l : Int) (w : World) (h : KidsAt w v ks) (hl0 : 0 ≤ l) (hl : l ≤ 1048576) (hk : ks.length ≤ maxLen) :
    Calls Tryz.prog 42 #[v, .int .i64 l] w fun e w' => w' = w ∧ ∃ r : Int, e = .returned (.int .i64 r) ∧ (r = -1 ∨ 0 ≤ r ∧ r ≤ l ∧ ks.length ≤ 1048576) := by
  obtain ⟨ka, kc, rfl, _⟩ := h
  unfold maxLen at hk
  by_cases hq : l - (ks.length : Int) < 0
  · have d : decide (l - (ks.length : Int) < 0) = true := by simpa using hq
    go_enter Tryz.func42, Tryz.ntmps42
    go_wp2
    go_ret
    exact ⟨rfl, -1, rfl, .inl rfl⟩
  · have d : decide (l - (ks.length : Int) < 0) = false := by simpa using hq
    go_enter Tryz.func42, Tryz.ntmps42
    go_wp2
    go_ret
    exact ⟨rfl, _, rfl, .inr ⟨by omega, by omega, by omega⟩⟩

/-- No piece is too great. -/
def Small (ps : List Pi) (n : Nat) : Prop := ∀ i, i < n → (ps.getD i Pi.no).kids.length ≤ 1048576 ∧ (ps.getD i Pi.no).text.size ≤ 1048576
/-- Lengths that fit in memory. -/
def Fit (ps : List Pi) : Prop := ps.length ≤ maxLen ∧ ∀ i, i < ps.length → (ps.getD i Pi.no).kids.length ≤ maxLen ∧ (ps.getD i Pi.no).text.size ≤ maxLen

end PartPtA
section PartLgA
open Go.RowKit

set_option maxHeartbeats 400000 in
theorem szNode_any (kv : Value) (p : Pi) (l : Int) (w : World) (h : KidsAt w kv p.kids) (hl0 : 0 ≤ l) (hl : l ≤ 1048576) (hk : p.kids.length ≤ maxLen) (ht : p.text.size ≤ maxLen) :
    Calls Tryz.prog 25 #[.agg #[.int .i64 p.op, .string p.text, kv], .int .i64 l] w fun e w' => Below w.heap.size w w' ∧ ∃ r : Int, e = .returned (.int .i64 r) ∧ (r = -1 ∨ 0 ≤ r ∧ r ≤ l ∧ p.kids.length ≤ 1048576 ∧ p.text.size ≤ 1048576) := by
  obtain ⟨op, t, ks⟩ := p
  simp only at h hk ht ⊢
  have ht2 := ht
  unfold maxLen at ht2
  by_cases hq : l - (t.size : Int) < 0
  · have d : decide (l - (t.size : Int) < 0) = true := by simpa using hq
    obtain ⟨ka, kc, rfl, _⟩ := h
    go_enter Tryz.func25, Tryz.ntmps25
    go_wp2
    go_ret
    exact ⟨(Below.refl _ _).alloc (Nat.le_refl _) _, -1, rfl, .inl rfl⟩
  · have d : decide (l - (t.size : Int) < 0) = false := by simpa using hq
    have C := fun w' (hb : Below w.heap.size w w') => szInts_any kv ks (l - (t.size : Int)) w' (h.keep hb) (by omega) (by omega) hk
    obtain ⟨ka, kc, rfl, _⟩ := h
    have HC : Hid (∀ w', Below w.heap.size w w' → Calls Tryz.prog 42 #[.slice ka ks.length kc, .int .i64 (l - (t.size : Int))] w' fun e w'' => w'' = w' ∧ ∃ r : Int, e = .returned (.int .i64 r) ∧ (r = -1 ∨ 0 ≤ r ∧ r ≤ l - (t.size : Int) ∧ ks.length ≤ 1048576)) := C
    clear C
    go_enter Tryz.func25, Tryz.ntmps25
    go_wp2_with fail
    refine (HC.out _ ((Below.refl _ _).alloc (Nat.le_refl _) _)).mono ?_
    rintro e w1 ⟨rfl, r, rfl, hr⟩
    rcases hr with rfl | ⟨hr0, hr1, hr2⟩
    · go_wp2
      go_ret
      exact ⟨(Below.refl _ _).alloc (Nat.le_refl _) _, -1, rfl, .inl rfl⟩
    · have d2 : decide (r < 0) = false := by simp; omega
      go_wp2
      go_ret
      exact ⟨(Below.refl _ _).alloc (Nat.le_refl _) _, _, rfl, .inr ⟨hr0, by omega, hr2, by omega⟩⟩

set_option maxHeartbeats 800000 in
theorem szNodes_any (v : Value) (ps : List Pi) (l : Int) (w : World) (h : PcsAt w v ps) (hl0 : 0 ≤ l) (hl : l ≤ 1048576) (hf : Fit ps) :
    Calls Tryz.prog 9 #[v, .int .i64 l] w fun e w' => Below w.heap.size w w' ∧ ∃ r : Int, e = .returned (.int .i64 r) ∧ (r = -1 ∨ 0 ≤ r ∧ r ≤ l ∧ ps.length ≤ 1048576 ∧ Small ps ps.length) := by
  have hf1 := hf.1
  unfold maxLen at hf1
  obtain ⟨ad, c, rfl, f⟩ := h
  obtain ⟨n, hn⟩ : ∃ n, n = ps.length := ⟨_, rfl⟩
  have HF : Hid (∀ i, i < n → (ps.getD i Pi.no).kids.length ≤ maxLen ∧ (ps.getD i Pi.no).text.size ≤ maxLen) := by rw [hn]; exact hf.2
  rw [← hn] at f hf1 ⊢
  clear hf
  by_cases hq : l - (n : Int) < 0
  · have d : decide (l - (n : Int) < 0) = true := by simpa using hq
    clear f hn
    go_enter Tryz.func9, Tryz.ntmps9
    go_wp2
    go_ret
    exact ⟨Below.refl _ _, -1, rfl, .inl rfl⟩
  · have d : decide (l - (n : Int) < 0) = false := by simpa using hq
    have hn2 : n ≤ 1048576 := by omega
    by_cases h0 : n = 0
    · subst h0
      clear f hn HF
      have d : decide (l - ((0 : Nat) : Int) < 0) = false := by simpa using hq
      go_enter Tryz.func9, Tryz.ntmps9
      go_wp2
      refine wp_loop_rounds 1 ?_
      rw [rounds_succ]
      go_wp2
      go_ret
      exact ⟨Below.refl _ _, _, rfl, .inr ⟨by omega, by omega, by omega, fun i hi => by omega⟩⟩
    · obtain ⟨b, o, rfl, hb, hc⟩ := f (by omega)
      have HC : Hid (∀ i, i < n → PieceAt w b (o + i * 3) (ps.getD i Pi.no)) := hc
      clear hc f hn
      go_enter Tryz.func9, Tryz.ntmps9
      go_wp2
      go_loopw [1, 5] (fun q i wr => ∃ (k : Nat) (r : Int), i = .int .i64 (k : Int) ∧ q = .int .i64 r ∧ 0 ≤ r ∧ r ≤ l ∧ k ≤ n ∧ Below w.heap.size w wr ∧ Hid (Small ps k)) (fun _ i _ => n - (intOf i).toNat)
      case atStart => exact ⟨0, _, rfl, rfl, by omega, by omega, by omega, Below.refl _ _, fun i hi => by omega⟩
      case round =>
        obtain ⟨k, r, rfl, rfl, hr0, hr1, hk, hbel, HS⟩ := hrel
        have hsz := hbel.size
        by_cases hlt : k < n
        · obtain ⟨p, hp⟩ : ∃ p, p = ps.getD k Pi.no := ⟨_, rfl⟩
          have hpc := HC.out k hlt
          rw [← hp] at hpc
          obtain ⟨kv, c0, c1, c2, hkv⟩ := hpc
          have e0 := (hbel.cell hb).trans c0
          have e1 := (hbel.cell hb).trans c1
          have e2 := (hbel.cell hb).trans c2
          have hkv2 := hkv.keep hbel
          have hkl := HF.out k hlt
          rw [← hp] at hkl
          have CC : Hid (Calls Tryz.prog 25 #[.agg #[.int .i64 p.op, .string p.text, kv], .int .i64 r] wr fun e w' => Below wr.heap.size wr w' ∧ ∃ r' : Int, e = .returned (.int .i64 r') ∧ (r' = -1 ∨ 0 ≤ r' ∧ r' ≤ r ∧ p.kids.length ≤ 1048576 ∧ p.text.size ≤ 1048576)) :=
            szNode_any kv p r wr hkv2 hr0 (by omega) hkl.1 hkl.2
          have HP : Hid (p = ps.getD k Pi.no) := hp
          clear hp c0 c1 c2 hkl
          obtain ⟨op, t, ks⟩ := p
          obtain ⟨ka, kc, rfl, _⟩ := hkv2
          clear hkv
          have i1 : (k : Int) < (n : Int) := by omega
          go_wp2_with fail
          refine CC.out.mono ?_
          rintro e w1 ⟨hb1, r1, rfl, hr⟩
          rcases hr with rfl | ⟨h3, h4, h5, h6⟩
          · go_wp2
            go_ret
            exact ⟨hbel.trans (hb1.mono hsz), -1, rfl, .inl rfl⟩
          · have d2 : decide (r1 < 0) = false := by simp; omega
            go_wp2
            go_roundw
            case rel =>
              refine ⟨k + 1, r1, by go_num, rfl, h3, by omega, by omega, hbel.trans (hb1.mono hsz), ?_⟩
              intro i hi
              by_cases hik : i = k
              · subst hik
                rw [← HP.out]
                exact ⟨h5, h6⟩
              · exact HS.out i (by omega)
            case measure => simp [intOf]; omega
        · obtain rfl : k = n := by omega
          go_wp2
          go_ret
          exact ⟨hbel, _, rfl, .inr ⟨hr0, hr1, by omega, HS.out⟩⟩

end PartLgA
section PartPPat
namespace Pp

/-- A piece of a pattern. -/
structure Pc where
  op : Nat
  text : List UInt8
  kids : List Nat
deriving DecidableEq

/-- How many kids a piece of this kind has, and how long its text may be; nothing of other kinds. -/
def form (op : Nat) : Option (Nat × Nat) :=
  if op = 5 ∨ op = 6 then some (2, 0)
  else if op = 7 ∨ op = 8 ∨ op = 9 then some (1, 0)
  else if op = 1 then some (0, 1)
  else if op = 3 ∨ op = 4 then some (0, 24)
  else if op = 2 ∨ op = 10 ∨ op = 11 ∨ op = 12 then some (0, 0)
  else none

/-- Is it a sign that stands for something else? -/
def special (b : UInt8) : Bool := [42, 43, 63, 124, 40, 41, 91, 93, 46, 94, 36, 92].contains b

/-- One piece more, and its place; none where there are too many. -/
def put (out : List Pc) (x : Pc) : Option (List Pc × Nat) := if 60 < out.length + 1 then none else some (out ++ [x], out.length)

/-- The place of the next sign that closes a set, from a place on. -/
def close : List UInt8 → Nat → Nat
  | [], a => a
  | b :: r, a => if b = 93 then a else close r (a + 1)

/-- A set, behind its opening sign. -/
def set (l : List UInt8) (a : Nat) (out : List Pc) : Option (Nat × List Pc × Nat) :=
  let neg := l[a]? == some 94
  let b := if neg then a + 1 else a
  let e := close (l.drop b) b
  if e = l.length ∨ e = b then none
  else (put out ⟨if neg then 4 else 3, (l.drop b).take (e - b), []⟩).map fun (o, k) => (e + 1, o, k)

mutual
/-- A thing; f: how deep it may go. -/
def thing (l : List UInt8) : Nat → Nat → List Pc → Option (Nat × List Pc × Nat)
  | 0, _, _ => none
  | f + 1, a, out =>
    match l[a]? with
    | none => none
    | some b =>
      if b = 94 then (put out ⟨10, [], []⟩).map fun (o, k) => (a + 1, o, k)
      else if b = 36 then (put out ⟨11, [], []⟩).map fun (o, k) => (a + 1, o, k)
      else if b = 46 then (put out ⟨2, [], []⟩).map fun (o, k) => (a + 1, o, k)
      else if b = 91 then set l (a + 1) out
      else if b = 40 then
        match alt l f (a + 1) out with
        | none => none
        | some (e, o, k) => if l[e]? = some 41 then some (e + 1, o, k) else none
      else if b = 92 then
        match l[a + 1]? with
        | none => none
        | some c => if special c then (put out ⟨1, [c], []⟩).map fun (o, k) => (a + 2, o, k) else none
      else if special b then none
      else (put out ⟨1, [b], []⟩).map fun (o, k) => (a + 1, o, k)
/-- Behind a thing: as many of the three signs as there are. -/
def more (l : List UInt8) : Nat → Nat → List Pc → Nat → Option (Nat × List Pc × Nat)
  | 0, _, _, _ => none
  | f + 1, a, out, k =>
    match l[a]? with
    | none => some (a, out, k)
    | some b =>
      if b = 42 ∨ b = 43 ∨ b = 63 then
        match put out ⟨if b = 43 then 8 else if b = 63 then 9 else 7, [], [k]⟩ with
        | none => none
        | some (o, j) => more l f (a + 1) o j
      else some (a, out, k)
def many (l : List UInt8) : Nat → Nat → List Pc → Option (Nat × List Pc × Nat)
  | 0, _, _ => none
  | f + 1, a, out =>
    match thing l f a out with
    | none => none
    | some (e, o, k) => more l f e o k
/-- What follows the first thing of a row. -/
def rest (l : List UInt8) : Nat → Nat → List Pc → Nat → Option (Nat × List Pc × Nat)
  | 0, _, _, _ => none
  | f + 1, a, out, k =>
    match l[a]? with
    | none => some (a, out, k)
    | some b =>
      if b = 124 ∨ b = 41 then some (a, out, k)
      else
        match many l f a out with
        | none => none
        | some (e, o, j) =>
          match put o ⟨5, [], [k, j]⟩ with
          | none => none
          | some (o2, k2) => rest l f e o2 k2
def row (l : List UInt8) : Nat → Nat → List Pc → Option (Nat × List Pc × Nat)
  | 0, _, _ => none
  | f + 1, a, out =>
    if l[a]? = none ∨ l[a]? = some 124 ∨ l[a]? = some 41 then (put out ⟨12, [], []⟩).map fun (o, k) => (a, o, k)
    else
      match many l f a out with
      | none => none
      | some (e, o, k) => rest l f e o k
/-- What follows the first alternative. -/
def alts (l : List UInt8) : Nat → Nat → List Pc → Nat → Option (Nat × List Pc × Nat)
  | 0, _, _, _ => none
  | f + 1, a, out, k =>
    if l[a]? = some 124 then
      match row l f (a + 1) out with
      | none => none
      | some (e, o, j) =>
        match put o ⟨6, [], [k, j]⟩ with
        | none => none
        | some (o2, k2) => alts l f e o2 k2
    else some (a, out, k)
def alt (l : List UInt8) : Nat → Nat → List Pc → Option (Nat × List Pc × Nat)
  | 0, _, _ => none
  | f + 1, a, out =>
    match row l f a out with
    | none => none
    | some (e, o, k) => alts l f e o k
end

/-- What ReadPattern answers. -/
def read (l : List UInt8) : Option (List Pc) :=
  if 1 ≤ l.length ∧ l.length ≤ 24 then
    match alt l 200 0 [] with
    | none => none
    | some (e, o, _) => if e < l.length then none else some o
  else none

/-- Is one piece, at place i, right? -/
def pieceOk (i : Nat) (x : Pc) : Bool :=
  match form x.op with
  | none => false
  | some (kids, texts) => decide (x.kids.length = kids ∧ x.text.length ≤ texts ∧ (0 < texts → x.text ≠ []) ∧ ∀ k ∈ x.kids, k < i)
end Pp
end PartPPat
end Go.Proofs.YtknojhmnadmilaaGreatDoor
