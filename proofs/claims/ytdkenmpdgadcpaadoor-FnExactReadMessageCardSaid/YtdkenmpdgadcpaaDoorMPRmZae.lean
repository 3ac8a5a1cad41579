/- Plain facts, without the program: pieces of a pattern, when they are right, and how a pattern is read from its text. Plain facts: the tokens of a text. -/
namespace Go.Proofs.YtdkenmpdgadcpaaDoor
section PartPPat
namespace Pp

/-- A piece of a pattern. -/
structure Pc where
  op : Nat
  text : List UInt8
  kids : List Nat
deriving DecidableEq

/-- Is it a sign that stands for something else? -/
def special (b : UInt8) : Bool := [42, 43, 63, 124, 40, 41, 91, 93, 46, 94, 36, 92].contains b

/-- One piece more, and its place; none where there are too many. -/
def put (out : List Pc) (x : Pc) : Option (List Pc × Nat) := if 60 < out.length + 1 then none else some (out ++ [x], out.length)

/-- The place of the next sign that closes a set, from a place on. -/
def close : List UInt8 → Nat → Nat
  | [], a => a
  | b :: r, a => if b = 93 then a else close r (a + 1)

/-- A set, behind its opening sign. -/
def set (l : List UInt8) (a : Nat) (out : List Pc) : Option (Nat × List Pc × Nat) :=
  let neg := l[a]? == some 94
  let b := if neg then a + 1 else a
  let e := close (l.drop b) b
  if e = l.length ∨ e = b then none
  else (put out ⟨if neg then 4 else 3, (l.drop b).take (e - b), []⟩).map fun (o, k) => (e + 1, o, k)

mutual
/-- A thing; f: how deep it may go. -/
def thing (l : List UInt8) : Nat → Nat → List Pc → Option (Nat × List Pc × Nat)
  | 0, _, _ => none
  | f + 1, a, out =>
    match l[a]? with
    | none => none
    | some b =>
      if b = 94 then (put out ⟨10, [], []⟩).map fun (o, k) => (a + 1, o, k)
      else if b = 36 then (put out ⟨11, [], []⟩).map fun (o, k) => (a + 1, o, k)
      else if b = 46 then (put out ⟨2, [], []⟩).map fun (o, k) => (a + 1, o, k)
      else if b = 91 then set l (a + 1) out
      else if b = 40 then
        match alt l f (a + 1) out with
        | none => none
        | some (e, o, k) => if l[e]? = some 41 then some (e + 1, o, k) else none
      else if b = 92 then
        match l[a + 1]? with
        | none => none
        | some c => if special c then (put out ⟨1, [c], []⟩).map fun (o, k) => (a + 2, o, k) else none
      else if special b then none
      else (put out ⟨1, [b], []⟩).map fun (o, k) => (a + 1, o, k)
/-- Behind a thing: as many of the three signs as there are. -/
def more (l : List UInt8) : Nat → Nat → List Pc → Nat → Option (Nat × List Pc × Nat)
  | 0, _, _, _ => none
  | f + 1, a, out, k =>
    match l[a]? with
    | none => some (a, out, k)
    | some b =>
      if b = 42 ∨ b = 43 ∨ b = 63 then
        match put out ⟨if b = 43 then 8 else if b = 63 then 9 else 7, [], [k]⟩ with
        | none => none
        | some (o, j) => more l f (a + 1) o j
      else some (a, out, k)
def many (l : List UInt8) : Nat → Nat → List Pc → Option (Nat × List Pc × Nat)
  | 0, _, _ => none
  | f + 1, a, out =>
    match thing l f a out with
    | none => none
    | some (e, o, k) => more l f e o k
/-- What follows the first thing of a row. -/
def rest (l : List UInt8) : Nat → Nat → List Pc → Nat → Option (Nat × List Pc × Nat)
  | 0, _, _, _ => none
  | f + 1, a, out, k =>
    match l[a]? with
    | none => some (a, out, k)
    | some b =>
      if b = 124 ∨ b = 41 then some (a, out, k)
      else
        match many l f a out with
        | none => none
        | some (e, o, j) =>
          match put o ⟨5, [], [k, j]⟩ with
          | none => none
          | some (o2, k2) => rest l f e o2 k2
def row (l : List UInt8) : Nat → Nat → List Pc → Option (Nat × List Pc × Nat)
  | 0, _, _ => none
  | f + 1, a, out =>
    if l[a]? = none ∨ l[a]? = some 124 ∨ l[a]? = some 41 then (put out ⟨12, [], []⟩).map fun (o, k) => (a, o, k)
    else
      match many l f a out with
      | none => none
      | some (e, o, k) => rest l f e o k
/-- What follows the first alternative. -/
def alts (l : List UInt8) : Nat → Nat → List Pc → Nat → Option (Nat × List Pc × Nat)
  | 0, _, _, _ => none
  | f + 1, a, out, k =>
    if l[a]? = some 124 then
      match row l f (a + 1) out with
      | none => none
      | some (e, o, j) =>
        match put o ⟨6, [], [k, j]⟩ with
        | none => none
        | some (o2, k2) => alts l f e o2 k2
    else some (a, out, k)
def alt (l : List UInt8) : Nat → Nat → List Pc → Option (Nat × List Pc × Nat)
  | 0, _, _ => none
  | f + 1, a, out =>
    match row l f a out with
    | none => none
    | some (e, o, k) => alts l f e o k
end

/-- What ReadPattern answers. -/
def read (l : List UInt8) : Option (List Pc) :=
  if 1 ≤ l.length ∧ l.length ≤ 24 then
    match alt l 200 0 [] with
    | none => none
    | some (e, o, _) => if e < l.length then none else some o
  else none

end Pp
end PartPPat
section PartTkP
namespace Tk

/-- A token: its kind and its text. -/
structure Tok where
  kind : Nat
  text : List UInt8
def no : Tok := ⟨0, []⟩
def letter (b : UInt8) : Bool := (decide (97 ≤ b.toNat) && decide (b.toNat ≤ 122)) || (decide (65 ≤ b.toNat) && decide (b.toNat ≤ 90))
def figure (b : UInt8) : Bool := decide (48 ≤ b.toNat) && decide (b.toNat ≤ 57)
/-- The first place from i on whose byte is not so, or the end. -/
def run (p : UInt8 → Bool) (l : List UInt8) (i : Nat) : Nat := i + ((l.drop i).takeWhile p).length
/-- What stands from a up to b. -/
def cut (l : List UInt8) (a b : Nat) : List UInt8 := (l.drop a).take (b - a)
/-- The end of what stands between two marks, from the first one on, or 0. -/
def textEnd (l : List UInt8) (a : Nat) (m : UInt8) (most : Nat) : Nat :=
  if l[run (fun b => b != m && b != 10) l (a + 1)]? = some m ∧ run (fun b => b != m && b != 10) l (a + 1) - a - 1 ≤ most then run (fun b => b != m && b != 10) l (a + 1) else 0
def signs : List UInt8 := [123, 125, 40, 41, 91, 93, 36, 126, 60, 43, 45, 42, 37, 46, 44, 61]
/-- The token at a, and the place behind it. -/
def one (l : List UInt8) (a : Nat) (last : Tok) : Option (Tok × Nat) :=
  if l.getD a 0 = 10 ∨ l.getD a 0 = 59 then some (⟨6, [59]⟩, a + 1)
  else if letter (l.getD a 0) = true then (if 8 < run letter l a - a then none else some (⟨1, cut l a (run letter l a)⟩, run letter l a))
  else if figure (l.getD a 0) = true then (if 6 < run figure l a - a then none else some (⟨2, cut l a (run figure l a)⟩, run figure l a))
  else if l.getD a 0 = 34 then (if textEnd l a 34 30 = 0 then none else some (⟨3, cut l (a + 1) (textEnd l a 34 30)⟩, textEnd l a 34 30 + 1))
  else if l.getD a 0 = 47 then (if textEnd l a 47 24 = 0 ∨ last.kind ≠ 5 ∨ last.text ≠ [126] then none else if (Pp.read (cut l (a + 1) (textEnd l a 47 24))).isSome = true then some (⟨4, cut l (a + 1) (textEnd l a 47 24)⟩, textEnd l a 47 24 + 1) else none)
  else if l[a + 1]? = some 61 ∧ (l.getD a 0 = 43 ∨ l.getD a 0 = 61) then some (⟨5, cut l a (a + 2)⟩, a + 2)
  else if l.getD a 0 ∈ signs then some (⟨5, cut l a (a + 1)⟩, a + 1)
  else none
/-- All tokens from a on, behind those of out, and the place of a fault, or 0. -/
def loop (l : List UInt8) : Nat → Nat → Tok → List Tok → List Tok × Nat
  | 0, _, _, out => (out, 0)
  | f + 1, a, last, out =>
    if l.length ≤ a then (out, 0)
    else if l.getD a 0 = 32 ∨ l.getD a 0 = 9 then loop l f (a + 1) last out
    else if l.getD a 0 = 35 then loop l f (run (fun b => b != 10) l a) last out
    else match one l a last with
      | none => ([], a + 1)
      | some (t, n) => if out.length = 200 then ([], a + 1) else loop l f n t (out ++ [t])
end Tk
end PartTkP
end Go.Proofs.YtdkenmpdgadcpaaDoor
