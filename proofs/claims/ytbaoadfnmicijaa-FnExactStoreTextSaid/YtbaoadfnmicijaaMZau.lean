/- When a store is right: plain facts. Plain facts: a store in bytes, and that no two small stores have the same bytes. -/
import Derived.Test.YtbaoadfnmicijaaMZat
import Derived.Test.YtbaoadfnmicijaaMZad
import Derived.Lib.Bytealg
import Derived.Test.YtbaoadfnmicijaaMZaq
import Derived.Test.YtbaoadfnmicijaaMZas
namespace Go.Proofs.Ytbaoadfnmicijaa
section PartOkP
namespace St
/-- What the library's comparison tells. -/
theorem cmp_is : ∀ a b : List UInt8, Lib.compareBytes a b = if Op.bytesLess a b then -1 else if a == b then 0 else 1
  | [], [] => rfl
  | [], _ :: _ => rfl
  | _ :: _, [] => rfl
  | a :: x, b :: y => by
    unfold Lib.compareBytes Op.bytesLess
    rw [cmp_is x y]
    by_cases h : a < b
    · simp [h]
    · by_cases h2 : b < a
      · have hne : ¬ a = b := by intro e; subst e; exact h h2
        simp [h, h2, hne]
      · have e : a = b := by
          have h3 : ¬ a.toNat < b.toNat := h
          have h4 : ¬ b.toNat < a.toNat := h2
          exact UInt8.toNat_inj.1 (by omega)
        subst e
        simp [h]
theorem less_irrefl : ∀ a : List UInt8, Op.bytesLess a a = false
  | [] => rfl
  | a :: x => by
    unfold Op.bytesLess
    rw [less_irrefl x]
    simp
/-- Which of two keys is ahead. -/
def lt2 (a0 a1 b0 b1 : ByteArray) : Bool := Op.bytesLess a0.toList b0.toList || ((a0.toList == b0.toList) && Op.bytesLess a1.toList b1.toList)
/-- What compare of two keys tells. -/
def cmp2 (a0 a1 b0 b1 : ByteArray) : Int := if Lib.compareBytes a0.data.toList b0.data.toList = 0 then Lib.compareBytes a1.data.toList b1.data.toList else Lib.compareBytes a0.data.toList b0.data.toList
theorem cmp2_is (a0 a1 b0 b1 : ByteArray) : decide (0 ≤ cmp2 a0 a1 b0 b1) = !lt2 a0 a1 b0 b1 := by
  unfold cmp2 lt2
  rw [cmp_is, cmp_is]
  simp only [Lib.toList_data]
  cases h0 : Op.bytesLess a0.data.toList b0.data.toList with
  | true => simp
  | false =>
    cases h1 : (a0.data.toList == b0.data.toList) with
    | false => simp
    | true =>
      simp only [Bool.false_eq_true, if_false, if_true]
      cases h2 : Op.bytesLess a1.data.toList b1.data.toList with
      | true => simp
      | false =>
        cases h3 : (a1.data.toList == b1.data.toList) <;> simp
theorem lt2_empty (a b : ByteArray) : lt2 a ByteArray.empty b ByteArray.empty = Op.bytesLess a.toList b.toList := by
  unfold lt2
  rw [less_irrefl]
  simp
def aheadV (vs : List Vr) (i : Nat) : Bool := lt2 (vs.getD (i - 1) Vr.no).name ByteArray.empty (vs.getD i Vr.no).name ByteArray.empty
def aheadC (cs : List Cl) (i : Nat) : Bool := lt2 (cs.getD (i - 1) Cl.no).name (cs.getD (i - 1) Cl.no).key (cs.getD i Cl.no).name (cs.getD i Cl.no).key
def ascV (vs : List Vr) (i : Nat) : Bool := decide (i = 0) || aheadV vs i
def ascC (cs : List Cl) (i : Nat) : Bool := decide (i = 0) || aheadC cs i
def goodV (vs : List Vr) (i : Nat) : Bool := Cd.nm (vs.getD i Vr.no).name.data.toList && decide ((vs.getD i Vr.no).val.size ≤ 40)
def goodC (cs : List Cl) (i : Nat) : Bool := Cd.nm (cs.getD i Cl.no).name.data.toList && (decide ((cs.getD i Cl.no).key.size ≤ 40) && decide ((cs.getD i Cl.no).val.size ≤ 40))
/-- When a store is right. -/
def ok (vs : List Vr) (cs : List Cl) (o : ByteArray) : Bool :=
  decide (vs.length ≤ 60 ∧ cs.length ≤ 2000 ∧ o.size ≤ 3000) && (((List.range vs.length).all (ascV vs) && (List.range cs.length).all (ascC cs)) && ((List.range vs.length).all (goodV vs) && (List.range cs.length).all (goodC cs)))
theorem ok_no_v {vs : List Vr} {cs : List Cl} {o : ByteArray} {i : Nat} (hi : i < vs.length) (h : goodV vs i = false ∨ ascV vs i = false) : ok vs cs o = false := by
  unfold ok
  rcases h with h | h
  · rw [show (List.range vs.length).all (goodV vs) = false from List.all_eq_false.2 ⟨i, List.mem_range.2 hi, by rw [h]; simp⟩]; simp
  · rw [show (List.range vs.length).all (ascV vs) = false from List.all_eq_false.2 ⟨i, List.mem_range.2 hi, by rw [h]; simp⟩]; simp
theorem ok_no_c {vs : List Vr} {cs : List Cl} {o : ByteArray} {i : Nat} (hi : i < cs.length) (h : goodC cs i = false ∨ ascC cs i = false) : ok vs cs o = false := by
  unfold ok
  rcases h with h | h
  · rw [show (List.range cs.length).all (goodC cs) = false from List.all_eq_false.2 ⟨i, List.mem_range.2 hi, by rw [h]; simp⟩]; simp
  · rw [show (List.range cs.length).all (ascC cs) = false from List.all_eq_false.2 ⟨i, List.mem_range.2 hi, by rw [h]; simp⟩]; simp
theorem ok_yes {vs : List Vr} {cs : List Cl} {o : ByteArray} (h1 : ∀ i, i < vs.length → goodV vs i = true ∧ ascV vs i = true) (h2 : ∀ i, i < cs.length → goodC cs i = true ∧ ascC cs i = true) : ok vs cs o = decide (vs.length ≤ 60 ∧ cs.length ≤ 2000 ∧ o.size ≤ 3000) := by
  unfold ok
  rw [List.all_eq_true.2 fun q hq => (h1 q (List.mem_range.1 hq)).2, List.all_eq_true.2 fun q hq => (h2 q (List.mem_range.1 hq)).2, List.all_eq_true.2 fun q hq => (h1 q (List.mem_range.1 hq)).1, List.all_eq_true.2 fun q hq => (h2 q (List.mem_range.1 hq)).1]
  simp
end St
end PartOkP
section PartStB
namespace Pl
end Pl
namespace Cd
end Cd
namespace St
def vbytes (x : Vr) : List UInt8 := Cd.short x.name ++ Cd.short x.val
def cbytes (x : Cl) : List UInt8 := Cd.short x.name ++ (Cd.short x.key ++ Cd.short x.val)
/-- The bytes of a store. -/
def bytes (vs : List Vr) (cs : List Cl) (o : ByteArray) : List UInt8 :=
  Pl.vb 8 vs.length ++ vs.flatMap vbytes ++ Pl.vb 8 cs.length ++ cs.flatMap cbytes ++ Cd.short o
/-- What StoreText answers. -/
def text? (vs : List Vr) (cs : List Cl) (o : ByteArray) : Value :=
  if ok vs cs o = true then .tuple #[.string ⟨(bytes vs cs o).toArray⟩, .bool true] else .tuple #[.string ⟨#[]⟩, .bool false]

end St
end PartStB
end Go.Proofs.Ytbaoadfnmicijaa
