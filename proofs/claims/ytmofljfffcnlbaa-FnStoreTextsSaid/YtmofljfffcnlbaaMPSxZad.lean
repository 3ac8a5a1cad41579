/- Rows of texts in memory: how great a row of them is, the law's own copy of it, two of the same. Plain facts, without the program: pieces of a pattern, when they are right, and how a pattern is read from its text. Plain facts: the tokens of a text. Plain facts: when code is right. -/
import Derived.Test.YtmofljfffcnlbaaMPSxZaa
import Derived.Deep.SlicePairs
import Derived.Deep.Strs
import Derived.Deep.Fields
import Derived.ProofKit
import Derived.OpenShut
import Derived.ChangeOld
import Derived.Test.YtmofljfffcnlbaaMPSxZac
namespace Go.Proofs.Ytmofljfffcnlbaa
section PartCoS
open Go.RowKit

/-- The slice v leads to the texts ts. -/
def TsAt (w : World) (v : Value) (ts : List ByteArray) : Prop := ∃ (ka : Option Addr) (kc : Nat), v = .slice ka ts.length kc ∧
  (0 < ts.length → ∃ b o, ka = some ⟨b, o, none⟩ ∧ b < w.heap.size ∧ ∀ i, i < ts.length → w.cell? ⟨b, o + i, none⟩ = some (.string (ts.getD i ByteArray.empty)))
theorem TsAt.keep {w w' : World} {v : Value} {ts : List ByteArray} (h : TsAt w v ts) (hb : Below w.heap.size w w') : TsAt w' v ts := by
  obtain ⟨ka, kc, rfl, f⟩ := h
  refine ⟨ka, kc, rfl, fun h0 => ?_⟩
  obtain ⟨b, o, rfl, hl, hc⟩ := f h0
  exact ⟨b, o, rfl, Nat.lt_of_lt_of_le hl hb.size, fun i hi => (hb.cell hl).trans (hc i hi)⟩
def tsv (t : ByteArray) : Value := .string t
/-- Block q holds the texts ts, and no more. -/
def TsBlk (w : World) (q : Nat) (ts : List ByteArray) : Prop := w.heap[q]? = some (.cells (ts.map tsv).toArray 9 (0, 0))
theorem TsBlk.at {w : World} {q : Nat} {ts : List ByteArray} (h : TsBlk w q ts) (c : Nat) : TsAt w (.slice (some ⟨q, 0, none⟩) ts.length c) ts := by
  refine ⟨_, _, rfl, fun _ => ⟨q, 0, rfl, blk_lt h, fun i hi => ?_⟩⟩
  rw [blk_cell h, Nat.zero_add]
  simp [hi, tsv]
theorem TsBlk.keep {w w' : World} {q : Nat} {ts : List ByteArray} (h : TsBlk w q ts) (hb : Below w.heap.size w w') : TsBlk w' q ts := (hb.block q (blk_lt h)).trans h
end PartCoS
section PartPPat
namespace Pp

/-- A piece of a pattern. -/
structure Pc where
  op : Nat
  text : List UInt8
  kids : List Nat
deriving DecidableEq

/-- Is it a sign that stands for something else? -/
def special (b : UInt8) : Bool := [42, 43, 63, 124, 40, 41, 91, 93, 46, 94, 36, 92].contains b

/-- One piece more, and its place; none where there are too many. -/
def put (out : List Pc) (x : Pc) : Option (List Pc × Nat) := if 60 < out.length + 1 then none else some (out ++ [x], out.length)

/-- The place of the next sign that closes a set, from a place on. -/
def close : List UInt8 → Nat → Nat
  | [], a => a
  | b :: r, a => if b = 93 then a else close r (a + 1)

/-- A set, behind its opening sign. -/
def set (l : List UInt8) (a : Nat) (out : List Pc) : Option (Nat × List Pc × Nat) :=
  let neg := l[a]? == some 94
  let b := if neg then a + 1 else a
  let e := close (l.drop b) b
  if e = l.length ∨ e = b then none
  else (put out ⟨if neg then 4 else 3, (l.drop b).take (e - b), []⟩).map fun (o, k) => (e + 1, o, k)

mutual
/-- A thing; f: how deep it may go. -/
def thing (l : List UInt8) : Nat → Nat → List Pc → Option (Nat × List Pc × Nat)
  | 0, _, _ => none
  | f + 1, a, out =>
    match l[a]? with
    | none => none
    | some b =>
      if b = 94 then (put out ⟨10, [], []⟩).map fun (o, k) => (a + 1, o, k)
      else if b = 36 then (put out ⟨11, [], []⟩).map fun (o, k) => (a + 1, o, k)
      else if b = 46 then (put out ⟨2, [], []⟩).map fun (o, k) => (a + 1, o, k)
      else if b = 91 then set l (a + 1) out
      else if b = 40 then
        match alt l f (a + 1) out with
        | none => none
        | some (e, o, k) => if l[e]? = some 41 then some (e + 1, o, k) else none
      else if b = 92 then
        match l[a + 1]? with
        | none => none
        | some c => if special c then (put out ⟨1, [c], []⟩).map fun (o, k) => (a + 2, o, k) else none
      else if special b then none
      else (put out ⟨1, [b], []⟩).map fun (o, k) => (a + 1, o, k)
/-- Behind a thing: as many of the three signs as there are. -/
def more (l : List UInt8) : Nat → Nat → List Pc → Nat → Option (Nat × List Pc × Nat)
  | 0, _, _, _ => none
  | f + 1, a, out, k =>
    match l[a]? with
    | none => some (a, out, k)
    | some b =>
      if b = 42 ∨ b = 43 ∨ b = 63 then
        match put out ⟨if b = 43 then 8 else if b = 63 then 9 else 7, [], [k]⟩ with
        | none => none
        | some (o, j) => more l f (a + 1) o j
      else some (a, out, k)
def many (l : List UInt8) : Nat → Nat → List Pc → Option (Nat × List Pc × Nat)
  | 0, _, _ => none
  | f + 1, a, out =>
    match thing l f a out with
    | none => none
    | some (e, o, k) => more l f e o k
/-- What follows the first thing of a row. -/
def rest (l : List UInt8) : Nat → Nat → List Pc → Nat → Option (Nat × List Pc × Nat)
  | 0, _, _, _ => none
  | f + 1, a, out, k =>
    match l[a]? with
    | none => some (a, out, k)
    | some b =>
      if b = 124 ∨ b = 41 then some (a, out, k)
      else
        match many l f a out with
        | none => none
        | some (e, o, j) =>
          match put o ⟨5, [], [k, j]⟩ with
          | none => none
          | some (o2, k2) => rest l f e o2 k2
def row (l : List UInt8) : Nat → Nat → List Pc → Option (Nat × List Pc × Nat)
  | 0, _, _ => none
  | f + 1, a, out =>
    if l[a]? = none ∨ l[a]? = some 124 ∨ l[a]? = some 41 then (put out ⟨12, [], []⟩).map fun (o, k) => (a, o, k)
    else
      match many l f a out with
      | none => none
      | some (e, o, k) => rest l f e o k
/-- What follows the first alternative. -/
def alts (l : List UInt8) : Nat → Nat → List Pc → Nat → Option (Nat × List Pc × Nat)
  | 0, _, _, _ => none
  | f + 1, a, out, k =>
    if l[a]? = some 124 then
      match row l f (a + 1) out with
      | none => none
      | some (e, o, j) =>
        match put o ⟨6, [], [k, j]⟩ with
        | none => none
        | some (o2, k2) => alts l f e o2 k2
    else some (a, out, k)
def alt (l : List UInt8) : Nat → Nat → List Pc → Option (Nat × List Pc × Nat)
  | 0, _, _ => none
  | f + 1, a, out =>
    match row l f a out with
    | none => none
    | some (e, o, k) => alts l f e o k
end

/-- What ReadPattern answers. -/
def read (l : List UInt8) : Option (List Pc) :=
  if 1 ≤ l.length ∧ l.length ≤ 24 then
    match alt l 200 0 [] with
    | none => none
    | some (e, o, _) => if e < l.length then none else some o
  else none

end Pp
end PartPPat
section PartTkP
namespace Tk

/-- A token: its kind and its text. -/
structure Tok where
  kind : Nat
  text : List UInt8
def no : Tok := ⟨0, []⟩
def letter (b : UInt8) : Bool := (decide (97 ≤ b.toNat) && decide (b.toNat ≤ 122)) || (decide (65 ≤ b.toNat) && decide (b.toNat ≤ 90))
def figure (b : UInt8) : Bool := decide (48 ≤ b.toNat) && decide (b.toNat ≤ 57)
/-- The first place from i on whose byte is not so, or the end. -/
def run (p : UInt8 → Bool) (l : List UInt8) (i : Nat) : Nat := i + ((l.drop i).takeWhile p).length
theorem run_end (p : UInt8 → Bool) {l : List UInt8} {i : Nat} (h : l.length ≤ i) : run p l i = i := by
  unfold run
  rw [List.drop_eq_nil_of_le h]
  rfl
theorem run_step {p : UInt8 → Bool} {l : List UInt8} {i : Nat} (h : i < l.length) (hp : p l[i] = true) : run p l i = run p l (i + 1) := by
  unfold run
  rw [List.drop_eq_getElem_cons h, List.takeWhile_cons_of_pos hp]
  simp
  omega
theorem run_stop {p : UInt8 → Bool} {l : List UInt8} {i : Nat} (h : i < l.length) (hp : p l[i] = false) : run p l i = i := by
  unfold run
  rw [List.drop_eq_getElem_cons h, List.takeWhile_cons_of_neg (by simp [hp])]
  rfl
/-- What stands from a up to b. -/
def cut (l : List UInt8) (a b : Nat) : List UInt8 := (l.drop a).take (b - a)
/-- The end of what stands between two marks, from the first one on, or 0. -/
def textEnd (l : List UInt8) (a : Nat) (m : UInt8) (most : Nat) : Nat :=
  if l[run (fun b => b != m && b != 10) l (a + 1)]? = some m ∧ run (fun b => b != m && b != 10) l (a + 1) - a - 1 ≤ most then run (fun b => b != m && b != 10) l (a + 1) else 0
def signs : List UInt8 := [123, 125, 40, 41, 91, 93, 36, 126, 60, 43, 45, 42, 37, 46, 44, 61]
/-- The token at a, and the place behind it. -/
def one (l : List UInt8) (a : Nat) (last : Tok) : Option (Tok × Nat) :=
  if l.getD a 0 = 10 ∨ l.getD a 0 = 59 then some (⟨6, [59]⟩, a + 1)
  else if letter (l.getD a 0) = true then (if 8 < run letter l a - a then none else some (⟨1, cut l a (run letter l a)⟩, run letter l a))
  else if figure (l.getD a 0) = true then (if 6 < run figure l a - a then none else some (⟨2, cut l a (run figure l a)⟩, run figure l a))
  else if l.getD a 0 = 34 then (if textEnd l a 34 30 = 0 then none else some (⟨3, cut l (a + 1) (textEnd l a 34 30)⟩, textEnd l a 34 30 + 1))
  else if l.getD a 0 = 47 then (if textEnd l a 47 24 = 0 ∨ last.kind ≠ 5 ∨ last.text ≠ [126] then none else if (Pp.read (cut l (a + 1) (textEnd l a 47 24))).isSome = true then some (⟨4, cut l (a + 1) (textEnd l a 47 24)⟩, textEnd l a 47 24 + 1) else none)
  else if l[a + 1]? = some 61 ∧ (l.getD a 0 = 43 ∨ l.getD a 0 = 61) then some (⟨5, cut l a (a + 2)⟩, a + 2)
  else if l.getD a 0 ∈ signs then some (⟨5, cut l a (a + 1)⟩, a + 1)
  else none
end Tk
end PartTkP
section PartCdP
namespace Cd

/-- 1 to 8 letters. -/
def nm (t : List UInt8) : Bool := t.all Tk.letter && decide (1 ≤ t.length ∧ t.length ≤ 8)
def text (ts : List ByteArray) (a : Int) : ByteArray := ts.getD a.toNat ByteArray.empty
/-- Is the arg of an instruction at a place right? -/
def arg (ts : List ByteArray) (x : Ins) (a : Int) (to : Int) : Bool :=
  if x.op = 1 then decide (x.arg < (ts.length : Int))
  else if x.op = 15 then decide (x.arg < (ts.length : Int)) && (Pp.read (text ts x.arg).data.toList).isSome
  else if x.op = 2 ∨ x.op = 3 ∨ x.op = 17 ∨ x.op = 18 ∨ x.op = 19 ∨ x.op = 20 ∨ x.op = 24 then decide (x.arg < (ts.length : Int)) && nm (text ts x.arg).data.toList
  else if x.op = 16 then decide (1 ≤ x.arg ∧ x.arg ≤ 4)
  else if x.op = 21 ∨ x.op = 22 then decide (a < x.arg) && decide (x.arg ≤ to)
  else decide (x.arg = 0)
def ins (ts : List ByteArray) (x : Ins) (a : Int) (to : Int) : Bool := decide (1 ≤ x.op ∧ x.op ≤ 24) && decide (0 ≤ x.arg ∧ x.arg ≤ 255) && arg ts x a to
/-- How many it takes, and how many it puts. -/
def needs (x : Ins) : Int × Int :=
  if x.op = 1 ∨ x.op = 2 ∨ x.op = 5 ∨ x.op = 6 then (0, 1)
  else if x.op = 3 ∨ x.op = 4 ∨ x.op = 7 ∨ x.op = 15 then (1, 1)
  else if x.op = 8 ∨ x.op = 9 ∨ x.op = 10 ∨ x.op = 11 ∨ x.op = 12 ∨ x.op = 13 ∨ x.op = 14 then (2, 1)
  else if x.op = 16 then (x.arg, 0)
  else if x.op = 17 ∨ x.op = 18 ∨ x.op = 21 then (1, 0)
  else if x.op = 19 ∨ x.op = 20 then (2, 0)
  else (0, 0)
/-- Where it goes on. -/
def next (x : Ins) (a : Nat) : List Nat := (if x.op = 23 ∨ x.op = 22 then [] else [a + 1]) ++ (if x.op = 21 ∨ x.op = 22 then [x.arg.toNat] else [])
/-- The height n is told of each of these places, unless one has another. -/
def mark (hs : List Int) (n : Int) : List Nat → Option (List Int)
  | [] => some hs
  | k :: ks => if 0 ≤ hs.getD k (-1) ∧ hs.getD k (-1) ≠ n then none else mark (hs.set k n) n ks
/-- The specification's round. -/
def loopS (ts : List ByteArray) (xs : List Ins) (to : Nat) : Nat → Nat → List Int → Bool
  | 0, _, hs => decide (hs.getD to (-1) ≤ 0)
  | f + 1, a, hs =>
    if ins ts (xs.getD a Ins.no) (a : Int) (to : Int) = false then false
    else if hs.getD a (-1) < 0 then loopS ts xs to f (a + 1) hs
    else if hs.getD a (-1) < (needs (xs.getD a Ins.no)).1 ∨ 20 < hs.getD a (-1) - (needs (xs.getD a Ins.no)).1 + (needs (xs.getD a Ins.no)).2 then false
    else match mark hs (hs.getD a (-1) - (needs (xs.getD a Ins.no)).1 + (needs (xs.getD a Ins.no)).2) (next (xs.getD a Ins.no) a) with
      | none => false
      | some hs' => loopS ts xs to f (a + 1) hs'
/-- The program's round. -/
def loopI (xs : List Ins) (to : Nat) : Nat → Nat → List Int → Bool
  | 0, _, hs => decide (hs.getD to (-1) = -1 ∨ hs.getD to (-1) = 0)
  | f + 1, a, hs =>
    if hs.getD a (-1) = -1 then loopI xs to f (a + 1) hs
    else if hs.getD a (-1) < (needs (xs.getD a Ins.no)).1 ∨ 20 < hs.getD a (-1) then false
    else match mark hs (hs.getD a (-1) - (needs (xs.getD a Ins.no)).1 + (needs (xs.getD a Ins.no)).2) (next (xs.getD a Ins.no) a) with
      | none => false
      | some hs' => loopI xs to f (a + 1) hs'
def start (fr to : Nat) : List Int := (List.replicate (to + 1) (-1 : Int)).set fr 0
def part (ts : List ByteArray) (xs : List Ins) (fr to : Nat) : Bool := loopS ts xs to (to - fr) fr (start fr to)
/-- Is code right? -/
def ok (ts : List ByteArray) (xs : List Ins) (bg ln en : Int) : Bool :=
  ts.all (fun t => decide (t.size ≤ 30)) && (decide (ts.length ≤ 60) && (decide (xs.length ≤ 250) && (decide (bg = 0) && (decide (0 ≤ ln ∧ ln ≤ (xs.length : Int)) && (decide (ln ≤ en ∧ en ≤ (xs.length : Int)) &&
  (part ts xs 0 ln.toNat && (part ts xs ln.toNat en.toNat && part ts xs en.toNat xs.length)))))))

theorem getD_set (hs : List Int) (k j : Nat) (n : Int) : (hs.set k n).getD j (-1) = if j = k ∧ k < hs.length then n else hs.getD j (-1) := by
  simp only [List.getD_eq_getElem?_getD, List.getElem?_set]
  by_cases h : k = j
  · subst h
    by_cases h2 : k < hs.length
    · simp [h2]
    · simp [h2]
  · have : ¬ j = k := fun e => h e.symm
    simp [h, this]
theorem mark_keep {n : Int} : ∀ {ks : List Nat} {hs hs' : List Int} {j : Nat}, mark hs n ks = some hs' → 0 ≤ hs.getD j (-1) → hs'.getD j (-1) = hs.getD j (-1)
  | [], hs, hs', j, h, _ => by simp [mark] at h; rw [h]
  | k :: ks, hs, hs', j, h, hj => by
    simp only [mark] at h
    split at h
    · cases h
    · rename_i hne
      have e : (hs.set k n).getD j (-1) = hs.getD j (-1) := by
        rw [getD_set]
        by_cases hk : j = k ∧ k < hs.length
        · rw [if_pos hk]
          obtain ⟨rfl, _⟩ := hk
          by_cases e2 : hs.getD j (-1) = n
          · exact e2.symm
          · exact absurd ⟨hj, e2⟩ hne
        · rw [if_neg hk]
      have := mark_keep h (j := j) (by rw [e]; exact hj)
      rw [this, e]
/-- All heights are within. -/
def Inv (hs : List Int) (lo hi : Int) : Prop := ∀ j, lo ≤ hs.getD j (-1) ∧ hs.getD j (-1) ≤ hi
theorem Inv.set {hs : List Int} {lo hi n : Int} (h : Inv hs lo hi) (h1 : lo ≤ n) (h2 : n ≤ hi) (k : Nat) : Inv (hs.set k n) lo hi := by
  intro j
  rw [getD_set]
  split
  · exact ⟨h1, h2⟩
  · exact h j
theorem Inv.mark {lo hi n : Int} (h1 : lo ≤ n) (h2 : n ≤ hi) : ∀ {ks : List Nat} {hs hs' : List Int}, Inv hs lo hi → Cd.mark hs n ks = some hs' → Inv hs' lo hi
  | [], hs, hs', h, e => by simp [Cd.mark] at e; rw [← e]; exact h
  | k :: ks, hs, hs', h, e => by
    simp only [Cd.mark] at e
    split at e
    · cases e
    · exact Inv.mark h1 h2 (h.set h1 h2 k) e

theorem big_no (xs : List Ins) (to : Nat) : ∀ (f a : Nat) (hs : List Int), a + f = to → (∃ k, a ≤ k ∧ k ≤ to ∧ 20 < hs.getD k (-1)) → loopI xs to f a hs = false
  | 0, a, hs, h, ⟨k, h1, h2, h3⟩ => by
    obtain rfl : k = to := by omega
    simp only [loopI]
    exact decide_eq_false (by omega)
  | f + 1, a, hs, h, ⟨k, h1, h2, h3⟩ => by
    simp only [loopI]
    by_cases hm : hs.getD a (-1) = -1
    · rw [if_pos hm]
      have hne : k ≠ a := fun e => by rw [e] at h3; omega
      exact big_no xs to f (a + 1) hs (by omega) ⟨k, by omega, h2, h3⟩
    · rw [if_neg hm]
      split
      · rfl
      · rename_i hno
        split
        · rfl
        · rename_i hs' hmk
          have hne : k ≠ a := fun e => by rw [e] at h3; omega
          exact big_no xs to f (a + 1) hs' (by omega) ⟨k, by omega, h2, by rw [mark_keep hmk (by omega)]; exact h3⟩

end Cd
end PartCdP
end Go.Proofs.Ytmofljfffcnlbaa
