/- Plain facts, without the program: pieces of a pattern, when they are right, and how a pattern is read from its text. The specification's reader of a pattern: what it holds, and its two tests. -/
import Derived.Test.YthnmopldpgdenaaProg
import Derived.WalkKit
import Derived.WalkSpells
import Derived.WalkLawsBesides
import Derived.Handy
import Derived.Lib.Strings
import Derived.BigQuiet
import Derived.Deep.QuietTactic
namespace Go.Proofs.Ythnmopldpgdenaa
section PartPPat
namespace Pp

/-- A piece of a pattern. -/
structure Pc where
  op : Nat
  text : List UInt8
  kids : List Nat
deriving DecidableEq

/-- How many kids a piece of this kind has, and how long its text may be; nothing of other kinds. -/
def form (op : Nat) : Option (Nat × Nat) :=
  if op = 5 ∨ op = 6 then some (2, 0)
  else if op = 7 ∨ op = 8 ∨ op = 9 then some (1, 0)
  else if op = 1 then some (0, 1)
  else if op = 3 ∨ op = 4 then some (0, 24)
  else if op = 2 ∨ op = 10 ∨ op = 11 ∨ op = 12 then some (0, 0)
  else none

/-- Is it a sign that stands for something else? -/
def special (b : UInt8) : Bool := [42, 43, 63, 124, 40, 41, 91, 93, 46, 94, 36, 92].contains b

/-- One piece more, and its place; none where there are too many. -/
def put (out : List Pc) (x : Pc) : Option (List Pc × Nat) := if 60 < out.length + 1 then none else some (out ++ [x], out.length)

/-- The place of the next sign that closes a set, from a place on. -/
def close : List UInt8 → Nat → Nat
  | [], a => a
  | b :: r, a => if b = 93 then a else close r (a + 1)

/-- A set, behind its opening sign. -/
def set (l : List UInt8) (a : Nat) (out : List Pc) : Option (Nat × List Pc × Nat) :=
  let neg := l[a]? == some 94
  let b := if neg then a + 1 else a
  let e := close (l.drop b) b
  if e = l.length ∨ e = b then none
  else (put out ⟨if neg then 4 else 3, (l.drop b).take (e - b), []⟩).map fun (o, k) => (e + 1, o, k)

mutual
/-- A thing; f: how deep it may go. -/
def thing (l : List UInt8) : Nat → Nat → List Pc → Option (Nat × List Pc × Nat)
  | 0, _, _ => none
  | f + 1, a, out =>
    match l[a]? with
    | none => none
    | some b =>
      if b = 94 then (put out ⟨10, [], []⟩).map fun (o, k) => (a + 1, o, k)
      else if b = 36 then (put out ⟨11, [], []⟩).map fun (o, k) => (a + 1, o, k)
      else if b = 46 then (put out ⟨2, [], []⟩).map fun (o, k) => (a + 1, o, k)
      else if b = 91 then set l (a + 1) out
      else if b = 40 then
        match alt l f (a + 1) out with
        | none => none
        | some (e, o, k) => if l[e]? = some 41 then some (e + 1, o, k) else none
      else if b = 92 then
        match l[a + 1]? with
        | none => none
        | some c => if special c then (put out ⟨1, [c], []⟩).map fun (o, k) => (a + 2, o, k) else none
      else if special b then none
      else (put out ⟨1, [b], []⟩).map fun (o, k) => (a + 1, o, k)
/-- Behind a thing: as many of the three signs as there are. -/
def more (l : List UInt8) : Nat → Nat → List Pc → Nat → Option (Nat × List Pc × Nat)
  | 0, _, _, _ => none
  | f + 1, a, out, k =>
    match l[a]? with
    | none => some (a, out, k)
    | some b =>
      if b = 42 ∨ b = 43 ∨ b = 63 then
        match put out ⟨if b = 43 then 8 else if b = 63 then 9 else 7, [], [k]⟩ with
        | none => none
        | some (o, j) => more l f (a + 1) o j
      else some (a, out, k)
def many (l : List UInt8) : Nat → Nat → List Pc → Option (Nat × List Pc × Nat)
  | 0, _, _ => none
  | f + 1, a, out =>
    match thing l f a out with
    | none => none
    | some (e, o, k) => more l f e o k
/-- What follows the first thing of a row. -/
def rest (l : List UInt8) : Nat → Nat → List Pc → Nat → Option (Nat × List Pc × Nat)
  | 0, _, _, _ => none
  | f + 1, a, out, k =>
    match l[a]? with
    | none => some (a, out, k)
    | some b =>
      if b = 124 ∨ b = 41 then some (a, out, k)
      else
        match many l f a out with
        | none => none
        | some (e, o, j) =>
          match put o ⟨5, [], [k, j]⟩ with
          | none => none
          | some (o2, k2) => rest l f e o2 k2
def row (l : List UInt8) : Nat → Nat → List Pc → Option (Nat × List Pc × Nat)
  | 0, _, _ => none
  | f + 1, a, out =>
    if l[a]? = none ∨ l[a]? = some 124 ∨ l[a]? = some 41 then (put out ⟨12, [], []⟩).map fun (o, k) => (a, o, k)
    else
      match many l f a out with
      | none => none
      | some (e, o, k) => rest l f e o k
/-- What follows the first alternative. -/
def alts (l : List UInt8) : Nat → Nat → List Pc → Nat → Option (Nat × List Pc × Nat)
  | 0, _, _, _ => none
  | f + 1, a, out, k =>
    if l[a]? = some 124 then
      match row l f (a + 1) out with
      | none => none
      | some (e, o, j) =>
        match put o ⟨6, [], [k, j]⟩ with
        | none => none
        | some (o2, k2) => alts l f e o2 k2
    else some (a, out, k)
def alt (l : List UInt8) : Nat → Nat → List Pc → Option (Nat × List Pc × Nat)
  | 0, _, _ => none
  | f + 1, a, out =>
    match row l f a out with
    | none => none
    | some (e, o, k) => alts l f e o k
end

end Pp
end PartPPat
section PartRdA
open Go.RowKit

end PartRdA
end Go.Proofs.Ythnmopldpgdenaa
