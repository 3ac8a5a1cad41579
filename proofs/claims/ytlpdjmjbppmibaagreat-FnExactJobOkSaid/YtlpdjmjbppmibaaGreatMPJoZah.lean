/- What a store answers: plain facts. When a store is right: plain facts. A job: when it is right. -/
import Derived.Test.YtlpdjmjbppmibaaGreatMPJoZag
import Derived.Lib.Bytealg
import Derived.Test.YtlpdjmjbppmibaaGreatMPJoZaf
namespace Go.Proofs.YtlpdjmjbppmibaaGreat
section PartSvP
namespace St
/-- The first that p says so of. -/
def first {α : Type} (p : α → Bool) (no : α) : List α → α
  | [] => no
  | x :: r => if p x then x else first p no r
/-- What CellOf answers, the key cut. -/
def cell (cs : List Cl) (name key : ByteArray) : ByteArray := (first (fun x : Cl => (x.name.toList == name.toList) && (x.key.toList == key.toList)) Cl.no cs).val
end St
end PartSvP
section PartOkP
namespace St
/-- What the library's comparison tells. -/
theorem cmp_is : ∀ a b : List UInt8, Lib.compareBytes a b = if Op.bytesLess a b then -1 else if a == b then 0 else 1
  | [], [] => rfl
  | [], _ :: _ => rfl
  | _ :: _, [] => rfl
  | a :: x, b :: y => by
    unfold Lib.compareBytes Op.bytesLess
    rw [cmp_is x y]
    by_cases h : a < b
    · simp [h]
    · by_cases h2 : b < a
      · have hne : ¬ a = b := by intro e; subst e; exact h h2
        simp [h, h2, hne]
      · have e : a = b := by
          have h3 : ¬ a.toNat < b.toNat := h
          have h4 : ¬ b.toNat < a.toNat := h2
          exact UInt8.toNat_inj.1 (by omega)
        subst e
        simp [h]
theorem less_irrefl : ∀ a : List UInt8, Op.bytesLess a a = false
  | [] => rfl
  | a :: x => by
    unfold Op.bytesLess
    rw [less_irrefl x]
    simp
/-- Which of two keys is ahead. -/
def lt2 (a0 a1 b0 b1 : ByteArray) : Bool := Op.bytesLess a0.toList b0.toList || ((a0.toList == b0.toList) && Op.bytesLess a1.toList b1.toList)
/-- What compare of two keys tells. -/
def cmp2 (a0 a1 b0 b1 : ByteArray) : Int := if Lib.compareBytes a0.data.toList b0.data.toList = 0 then Lib.compareBytes a1.data.toList b1.data.toList else Lib.compareBytes a0.data.toList b0.data.toList
theorem cmp2_is (a0 a1 b0 b1 : ByteArray) : decide (0 ≤ cmp2 a0 a1 b0 b1) = !lt2 a0 a1 b0 b1 := by
  unfold cmp2 lt2
  rw [cmp_is, cmp_is]
  simp only [Lib.toList_data]
  cases h0 : Op.bytesLess a0.data.toList b0.data.toList with
  | true => simp
  | false =>
    cases h1 : (a0.data.toList == b0.data.toList) with
    | false => simp
    | true =>
      simp only [Bool.false_eq_true, if_false, if_true]
      cases h2 : Op.bytesLess a1.data.toList b1.data.toList with
      | true => simp
      | false =>
        cases h3 : (a1.data.toList == b1.data.toList) <;> simp
theorem lt2_empty (a b : ByteArray) : lt2 a ByteArray.empty b ByteArray.empty = Op.bytesLess a.toList b.toList := by
  unfold lt2
  rw [less_irrefl]
  simp
def aheadV (vs : List Vr) (i : Nat) : Bool := lt2 (vs.getD (i - 1) Vr.no).name ByteArray.empty (vs.getD i Vr.no).name ByteArray.empty
def aheadC (cs : List Cl) (i : Nat) : Bool := lt2 (cs.getD (i - 1) Cl.no).name (cs.getD (i - 1) Cl.no).key (cs.getD i Cl.no).name (cs.getD i Cl.no).key
def ascV (vs : List Vr) (i : Nat) : Bool := decide (i = 0) || aheadV vs i
def ascC (cs : List Cl) (i : Nat) : Bool := decide (i = 0) || aheadC cs i
def goodV (vs : List Vr) (i : Nat) : Bool := Cd.nm (vs.getD i Vr.no).name.data.toList && decide ((vs.getD i Vr.no).val.size ≤ 40)
def goodC (cs : List Cl) (i : Nat) : Bool := Cd.nm (cs.getD i Cl.no).name.data.toList && (decide ((cs.getD i Cl.no).key.size ≤ 40) && decide ((cs.getD i Cl.no).val.size ≤ 40))
/-- When a store is right. -/
def ok (vs : List Vr) (cs : List Cl) (o : ByteArray) : Bool :=
  decide (vs.length ≤ 60 ∧ cs.length ≤ 2000 ∧ o.size ≤ 3000) && (((List.range vs.length).all (ascV vs) && (List.range cs.length).all (ascC cs)) && ((List.range vs.length).all (goodV vs) && (List.range cs.length).all (goodC cs)))
theorem ok_no_v {vs : List Vr} {cs : List Cl} {o : ByteArray} {i : Nat} (hi : i < vs.length) (h : goodV vs i = false ∨ ascV vs i = false) : ok vs cs o = false := by
  unfold ok
  rcases h with h | h
  · rw [show (List.range vs.length).all (goodV vs) = false from List.all_eq_false.2 ⟨i, List.mem_range.2 hi, by rw [h]; simp⟩]; simp
  · rw [show (List.range vs.length).all (ascV vs) = false from List.all_eq_false.2 ⟨i, List.mem_range.2 hi, by rw [h]; simp⟩]; simp
theorem ok_no_c {vs : List Vr} {cs : List Cl} {o : ByteArray} {i : Nat} (hi : i < cs.length) (h : goodC cs i = false ∨ ascC cs i = false) : ok vs cs o = false := by
  unfold ok
  rcases h with h | h
  · rw [show (List.range cs.length).all (goodC cs) = false from List.all_eq_false.2 ⟨i, List.mem_range.2 hi, by rw [h]; simp⟩]; simp
  · rw [show (List.range cs.length).all (ascC cs) = false from List.all_eq_false.2 ⟨i, List.mem_range.2 hi, by rw [h]; simp⟩]; simp
theorem ok_yes {vs : List Vr} {cs : List Cl} {o : ByteArray} (h1 : ∀ i, i < vs.length → goodV vs i = true ∧ ascV vs i = true) (h2 : ∀ i, i < cs.length → goodC cs i = true ∧ ascC cs i = true) : ok vs cs o = decide (vs.length ≤ 60 ∧ cs.length ≤ 2000 ∧ o.size ≤ 3000) := by
  unfold ok
  rw [List.all_eq_true.2 fun q hq => (h1 q (List.mem_range.1 hq)).2, List.all_eq_true.2 fun q hq => (h2 q (List.mem_range.1 hq)).2, List.all_eq_true.2 fun q hq => (h1 q (List.mem_range.1 hq)).1, List.all_eq_true.2 fun q hq => (h2 q (List.mem_range.1 hq)).1]
  simp
end St
end PartOkP
section PartJbA
open Go.RowKit

/-- A job, plain. -/
structure Jb where
  ts : List ByteArray
  xs : List Ins
  bg : Int
  ln : Int
  en : Int
  vs : List Vr
  cs : List Cl
  o : ByteArray
  ns : List ByteArray
  ls : List ByteArray
namespace Jb
def okN (j : Jb) (i : Nat) : Bool := Cd.nm (j.ns.getD i ByteArray.empty).data.toList
def okL (j : Jb) (i : Nat) : Bool := decide ((j.ls.getD i ByteArray.empty).size ≤ 200)
/-- When it is right. -/
def ok (j : Jb) : Bool := (List.range j.ns.length).all j.okN && ((List.range j.ls.length).all j.okL && (Cd.ok j.ts j.xs j.bg j.ln j.en && (St.ok j.vs j.cs j.o && (decide (j.ns.length ≤ 20) && decide (j.ls.length ≤ 20)))))
/-- The cells of a job. -/
def cells (tv lv u x nv mv : Value) (j : Jb) : Array Value := #[tv, lv, .int .i64 j.bg, .int .i64 j.ln, .int .i64 j.en, u, x, .string j.o, nv, mv]
structure At (w : World) (tv lv u x nv mv : Value) (j : Jb) : Prop where
  t : TsAt w tv j.ts
  l : InsAt w lv j.xs
  u : VrAt w u j.vs
  x : ClAt w x j.cs
  n : TsAt w nv j.ns
  m : TsAt w mv j.ls
theorem At.keep {w w' : World} {tv lv u x nv mv : Value} {j : Jb} (h : At w tv lv u x nv mv j) (hb : Below w.heap.size w w') : At w' tv lv u x nv mv j :=
  ⟨h.t.keep hb, h.l.keep hb, h.u.keep hb, h.x.keep hb, h.n.keep hb, h.m.keep hb⟩
/-- A job that is not great. -/
structure Sm (j : Jb) : Prop where
  t : TsSmall j.ts j.ts.length
  tl : j.ts.length ≤ 1048576
  xl : j.xs.length ≤ 1048576
  s : StSmall j.vs j.cs j.o
  n : TsSmall j.ns j.ns.length
  nl : j.ns.length ≤ 1048576
  m : TsSmall j.ls j.ls.length
  ml : j.ls.length ≤ 1048576
theorem ok_noN {j : Jb} {i : Nat} (hi : i < j.ns.length) (h : j.okN i = false) : j.ok = false := by
  unfold ok
  rw [show (List.range j.ns.length).all j.okN = false from List.all_eq_false.2 ⟨i, List.mem_range.2 hi, by rw [h]; simp⟩]
  rfl
theorem ok_noL {j : Jb} {i : Nat} (hi : i < j.ls.length) (h : j.okL i = false) : j.ok = false := by
  unfold ok
  rw [show (List.range j.ls.length).all j.okL = false from List.all_eq_false.2 ⟨i, List.mem_range.2 hi, by rw [h]; simp⟩]
  simp
theorem ok_rest {j : Jb} (h1 : ∀ i, i < j.ns.length → j.okN i = true) (h2 : ∀ i, i < j.ls.length → j.okL i = true) : j.ok = (Cd.ok j.ts j.xs j.bg j.ln j.en && (St.ok j.vs j.cs j.o && (decide (j.ns.length ≤ 20) && decide (j.ls.length ≤ 20)))) := by
  unfold ok
  rw [List.all_eq_true.2 fun q hq => h1 q (List.mem_range.1 hq), List.all_eq_true.2 fun q hq => h2 q (List.mem_range.1 hq)]
  simp
end Jb

theorem hidOfJ {p : Prop} (h : p) : Hid p := h
end PartJbA
end Go.Proofs.YtlpdjmjbppmibaaGreat
