/- What a store answers: plain facts. Are two stores the same: the library's Equal at Vars and at Cells, the program's SameStore. When a store is right: plain facts. Plain facts: a store in bytes, and that no two small stores have the same bytes. -/
import Derived.Test.YtbaoadfnmicijaaMPRsStS
import Derived.WalkLawsBesides
import Derived.Laws.StructEq
import Derived.Test.YtbaoadfnmicijaaMPRsZab
import Derived.Lib.Bytealg
import Derived.Test.YtbaoadfnmicijaaMPRsZai
import Derived.Test.YtbaoadfnmicijaaMPRsZaj
namespace Go.Proofs.Ytbaoadfnmicijaa
section PartSvP
namespace St
/-- The first that p says so of. -/
def first {α : Type} (p : α → Bool) (no : α) : List α → α
  | [] => no
  | x :: r => if p x then x else first p no r
/-- What CellOf answers, the key cut. -/
def cell (cs : List Cl) (name key : ByteArray) : ByteArray := (first (fun x : Cl => (x.name.toList == name.toList) && (x.key.toList == key.toList)) Cl.no cs).val
end St
end PartSvP
section PartEqA
open Go.RowKit

namespace St
theorem all_yes {n : Nat} {p : Nat → Bool} (h : ∀ q, q < n → p q = true) : (List.range n).all p = true := List.all_eq_true.2 fun q hq => h q (List.mem_range.1 hq)
theorem all_no {n k : Nat} {p : Nat → Bool} (hk : k < n) (h : p k = false) : (List.range n).all p = false := List.all_eq_false.2 ⟨k, List.mem_range.2 hk, by rw [h]; simp⟩
end St

end PartEqA
section PartOkP
namespace St
/-- What the library's comparison tells. -/
theorem cmp_is : ∀ a b : List UInt8, Lib.compareBytes a b = if Op.bytesLess a b then -1 else if a == b then 0 else 1
  | [], [] => rfl
  | [], _ :: _ => rfl
  | _ :: _, [] => rfl
  | a :: x, b :: y => by
    unfold Lib.compareBytes Op.bytesLess
    rw [cmp_is x y]
    by_cases h : a < b
    · simp [h]
    · by_cases h2 : b < a
      · have hne : ¬ a = b := by intro e; subst e; exact h h2
        simp [h, h2, hne]
      · have e : a = b := by
          have h3 : ¬ a.toNat < b.toNat := h
          have h4 : ¬ b.toNat < a.toNat := h2
          exact UInt8.toNat_inj.1 (by omega)
        subst e
        simp [h]
theorem less_irrefl : ∀ a : List UInt8, Op.bytesLess a a = false
  | [] => rfl
  | a :: x => by
    unfold Op.bytesLess
    rw [less_irrefl x]
    simp
/-- Which of two keys is ahead. -/
def lt2 (a0 a1 b0 b1 : ByteArray) : Bool := Op.bytesLess a0.toList b0.toList || ((a0.toList == b0.toList) && Op.bytesLess a1.toList b1.toList)
/-- What compare of two keys tells. -/
def cmp2 (a0 a1 b0 b1 : ByteArray) : Int := if Lib.compareBytes a0.data.toList b0.data.toList = 0 then Lib.compareBytes a1.data.toList b1.data.toList else Lib.compareBytes a0.data.toList b0.data.toList
theorem cmp2_is (a0 a1 b0 b1 : ByteArray) : decide (0 ≤ cmp2 a0 a1 b0 b1) = !lt2 a0 a1 b0 b1 := by
  unfold cmp2 lt2
  rw [cmp_is, cmp_is]
  simp only [Lib.toList_data]
  cases h0 : Op.bytesLess a0.data.toList b0.data.toList with
  | true => simp
  | false =>
    cases h1 : (a0.data.toList == b0.data.toList) with
    | false => simp
    | true =>
      simp only [Bool.false_eq_true, if_false, if_true]
      cases h2 : Op.bytesLess a1.data.toList b1.data.toList with
      | true => simp
      | false =>
        cases h3 : (a1.data.toList == b1.data.toList) <;> simp
theorem lt2_empty (a b : ByteArray) : lt2 a ByteArray.empty b ByteArray.empty = Op.bytesLess a.toList b.toList := by
  unfold lt2
  rw [less_irrefl]
  simp
def aheadV (vs : List Vr) (i : Nat) : Bool := lt2 (vs.getD (i - 1) Vr.no).name ByteArray.empty (vs.getD i Vr.no).name ByteArray.empty
def aheadC (cs : List Cl) (i : Nat) : Bool := lt2 (cs.getD (i - 1) Cl.no).name (cs.getD (i - 1) Cl.no).key (cs.getD i Cl.no).name (cs.getD i Cl.no).key
def ascV (vs : List Vr) (i : Nat) : Bool := decide (i = 0) || aheadV vs i
def ascC (cs : List Cl) (i : Nat) : Bool := decide (i = 0) || aheadC cs i
def goodV (vs : List Vr) (i : Nat) : Bool := Cd.nm (vs.getD i Vr.no).name.data.toList && decide ((vs.getD i Vr.no).val.size ≤ 40)
def goodC (cs : List Cl) (i : Nat) : Bool := Cd.nm (cs.getD i Cl.no).name.data.toList && (decide ((cs.getD i Cl.no).key.size ≤ 40) && decide ((cs.getD i Cl.no).val.size ≤ 40))
/-- When a store is right. -/
def ok (vs : List Vr) (cs : List Cl) (o : ByteArray) : Bool :=
  decide (vs.length ≤ 60 ∧ cs.length ≤ 2000 ∧ o.size ≤ 3000) && (((List.range vs.length).all (ascV vs) && (List.range cs.length).all (ascC cs)) && ((List.range vs.length).all (goodV vs) && (List.range cs.length).all (goodC cs)))
theorem ok_no_v {vs : List Vr} {cs : List Cl} {o : ByteArray} {i : Nat} (hi : i < vs.length) (h : goodV vs i = false ∨ ascV vs i = false) : ok vs cs o = false := by
  unfold ok
  rcases h with h | h
  · rw [show (List.range vs.length).all (goodV vs) = false from List.all_eq_false.2 ⟨i, List.mem_range.2 hi, by rw [h]; simp⟩]; simp
  · rw [show (List.range vs.length).all (ascV vs) = false from List.all_eq_false.2 ⟨i, List.mem_range.2 hi, by rw [h]; simp⟩]; simp
theorem ok_no_c {vs : List Vr} {cs : List Cl} {o : ByteArray} {i : Nat} (hi : i < cs.length) (h : goodC cs i = false ∨ ascC cs i = false) : ok vs cs o = false := by
  unfold ok
  rcases h with h | h
  · rw [show (List.range cs.length).all (goodC cs) = false from List.all_eq_false.2 ⟨i, List.mem_range.2 hi, by rw [h]; simp⟩]; simp
  · rw [show (List.range cs.length).all (ascC cs) = false from List.all_eq_false.2 ⟨i, List.mem_range.2 hi, by rw [h]; simp⟩]; simp
theorem ok_yes {vs : List Vr} {cs : List Cl} {o : ByteArray} (h1 : ∀ i, i < vs.length → goodV vs i = true ∧ ascV vs i = true) (h2 : ∀ i, i < cs.length → goodC cs i = true ∧ ascC cs i = true) : ok vs cs o = decide (vs.length ≤ 60 ∧ cs.length ≤ 2000 ∧ o.size ≤ 3000) := by
  unfold ok
  rw [List.all_eq_true.2 fun q hq => (h1 q (List.mem_range.1 hq)).2, List.all_eq_true.2 fun q hq => (h2 q (List.mem_range.1 hq)).2, List.all_eq_true.2 fun q hq => (h1 q (List.mem_range.1 hq)).1, List.all_eq_true.2 fun q hq => (h2 q (List.mem_range.1 hq)).1]
  simp
end St
end PartOkP
section PartStB
namespace Pl
theorem vb_free {m n : Nat} {a b : List UInt8} (hm : m ≤ 1000000000) (hn : n ≤ 1000000000) (h : vb 8 m ++ a = vb 8 n ++ b) : m = n ∧ a = b := by
  have h1 := rv_back m a hm
  have h2 := rv_back n b hn
  rw [h, h2] at h1
  simp only [Option.some.injEq, Prod.mk.injEq] at h1
  obtain ⟨rfl, -⟩ := h1
  exact ⟨rfl, List.append_cancel_left h⟩
end Pl
namespace Cd
theorem short_free {s t : ByteArray} {a b : List UInt8} (hs : s.size ≤ 1000000000) (ht : t.size ≤ 1000000000) (h : short s ++ a = short t ++ b) : s = t ∧ a = b := by
  unfold short at h
  rw [List.append_assoc, List.append_assoc] at h
  obtain ⟨h1, h2⟩ := Pl.vb_free hs ht h
  have l1 : s.data.toList.length = s.size := by simp
  have l2 : t.data.toList.length = t.size := by simp
  obtain ⟨h3, h4⟩ := List.append_inj h2 (by omega)
  refine ⟨?_, h4⟩
  cases s; cases t
  simp only [ByteArray.mk.injEq] at *
  exact Array.toList_inj.1 h3
end Cd
namespace St
def vbytes (x : Vr) : List UInt8 := Cd.short x.name ++ Cd.short x.val
def cbytes (x : Cl) : List UInt8 := Cd.short x.name ++ (Cd.short x.key ++ Cd.short x.val)
/-- The bytes of a store. -/
def bytes (vs : List Vr) (cs : List Cl) (o : ByteArray) : List UInt8 :=
  Pl.vb 8 vs.length ++ vs.flatMap vbytes ++ Pl.vb 8 cs.length ++ cs.flatMap cbytes ++ Cd.short o
/-- What StoreText answers. -/
def text? (vs : List Vr) (cs : List Cl) (o : ByteArray) : Value :=
  if ok vs cs o = true then .tuple #[.string ⟨(bytes vs cs o).toArray⟩, .bool true] else .tuple #[.string ⟨#[]⟩, .bool false]

theorem flatV_free : ∀ {vs us : List Vr} {a b : List UInt8}, vs.length = us.length → (∀ x ∈ vs, x.name.size ≤ 1000000000 ∧ x.val.size ≤ 1000000000) → (∀ x ∈ us, x.name.size ≤ 1000000000 ∧ x.val.size ≤ 1000000000) → vs.flatMap vbytes ++ a = us.flatMap vbytes ++ b → vs = us ∧ a = b
  | [], [], a, b, _, _, _, h => ⟨rfl, by simpa using h⟩
  | x :: vs, y :: us, a, b, hl, h1, h2, h => by
    simp only [List.flatMap_cons, vbytes, List.append_assoc] at h
    obtain ⟨q1, q2⟩ := h1 x (by simp)
    obtain ⟨r1, r2⟩ := h2 y (by simp)
    obtain ⟨e1, h⟩ := Cd.short_free q1 r1 h
    obtain ⟨e2, h⟩ := Cd.short_free q2 r2 h
    obtain ⟨e3, e4⟩ := flatV_free (by simpa using hl) (fun z hz => h1 z (by simp [hz])) (fun z hz => h2 z (by simp [hz])) h
    refine ⟨?_, e4⟩
    cases x; cases y
    simp only at e1 e2
    rw [e1, e2, e3]
theorem flatC_free : ∀ {vs us : List Cl} {a b : List UInt8}, vs.length = us.length → (∀ x ∈ vs, x.name.size ≤ 1000000000 ∧ x.key.size ≤ 1000000000 ∧ x.val.size ≤ 1000000000) → (∀ x ∈ us, x.name.size ≤ 1000000000 ∧ x.key.size ≤ 1000000000 ∧ x.val.size ≤ 1000000000) → vs.flatMap cbytes ++ a = us.flatMap cbytes ++ b → vs = us ∧ a = b
  | [], [], a, b, _, _, _, h => ⟨rfl, by simpa using h⟩
  | x :: vs, y :: us, a, b, hl, h1, h2, h => by
    simp only [List.flatMap_cons, cbytes, List.append_assoc] at h
    obtain ⟨q1, q2, q3⟩ := h1 x (by simp)
    obtain ⟨r1, r2, r3⟩ := h2 y (by simp)
    obtain ⟨e1, h⟩ := Cd.short_free q1 r1 h
    obtain ⟨e2, h⟩ := Cd.short_free q2 r2 h
    obtain ⟨e0, h⟩ := Cd.short_free q3 r3 h
    obtain ⟨e3, e4⟩ := flatC_free (by simpa using hl) (fun z hz => h1 z (by simp [hz])) (fun z hz => h2 z (by simp [hz])) h
    refine ⟨?_, e4⟩
    cases x; cases y
    simp only at e1 e2 e0
    rw [e1, e2, e0, e3]
theorem small_memV {vs : List Vr} (h : VrSmall vs vs.length) : ∀ x ∈ vs, x.name.size ≤ 1000000000 ∧ x.val.size ≤ 1000000000 := by
  intro x hx
  obtain ⟨i, hi, rfl⟩ := List.mem_iff_getElem.1 hx
  have := h i hi
  rw [List.getD_eq_getElem?_getD, List.getElem?_eq_getElem hi] at this
  simp only [Option.getD_some] at this
  omega
theorem small_memC {vs : List Cl} (h : ClSmall vs vs.length) : ∀ x ∈ vs, x.name.size ≤ 1000000000 ∧ x.key.size ≤ 1000000000 ∧ x.val.size ≤ 1000000000 := by
  intro x hx
  obtain ⟨i, hi, rfl⟩ := List.mem_iff_getElem.1 hx
  have := h i hi
  rw [List.getD_eq_getElem?_getD, List.getElem?_eq_getElem hi] at this
  simp only [Option.getD_some] at this
  omega
/-- Small stores with the same bytes are the same. -/
theorem bytes_free {vs us : List Vr} {cs ds : List Cl} {o p : ByteArray} (h1 : StSmall vs cs o) (h2 : StSmall us ds p) (h : bytes vs cs o = bytes us ds p) : vs = us ∧ cs = ds ∧ o = p := by
  obtain ⟨a1, a2, a3, a4, a5⟩ := h1
  obtain ⟨b1, b2, b3, b4, b5⟩ := h2
  unfold bytes at h
  simp only [List.append_assoc] at h
  obtain ⟨e1, h⟩ := Pl.vb_free (by omega) (by omega) h
  obtain ⟨e2, h⟩ := flatV_free e1 (small_memV (by assumption)) (small_memV (by assumption)) h
  obtain ⟨e3, h⟩ := Pl.vb_free (by omega) (by omega) h
  obtain ⟨e4, h⟩ := flatC_free e3 (small_memC (by assumption)) (small_memC (by assumption)) h
  have h' : Cd.short o ++ [] = Cd.short p ++ [] := by simpa using h
  exact ⟨e2, e4, (Cd.short_free (by omega) (by omega) h').1⟩
end St
end PartStB
end Go.Proofs.Ytbaoadfnmicijaa
