/- When a store is right: plain facts. What setting leaves of a store's cells: plain facts. Frames: what of a world is as it was. The specification's reader of a pattern: what it holds, and its two tests. -/
import Derived.Test.YtmofljfffcnlbaaMPSxZab
import Derived.Test.YtmofljfffcnlbaaMPSxZad
import Derived.Lib.Bytealg
import Derived.Test.YtmofljfffcnlbaaMPSxZac
import Derived.Test.YtmofljfffcnlbaaProg
import Derived.WalkKit
import Derived.Below
import Derived.WalkSpells
import Derived.WalkLawsBesides
import Derived.Handy
import Derived.Lib.Strings
import Derived.BigQuiet
import Derived.Deep.QuietTactic
namespace Go.Proofs.Ytmofljfffcnlbaa
section PartOkP
namespace St
/-- What the library's comparison tells. -/
theorem cmp_is : ∀ a b : List UInt8, Lib.compareBytes a b = if Op.bytesLess a b then -1 else if a == b then 0 else 1
  | [], [] => rfl
  | [], _ :: _ => rfl
  | _ :: _, [] => rfl
  | a :: x, b :: y => by
    unfold Lib.compareBytes Op.bytesLess
    rw [cmp_is x y]
    by_cases h : a < b
    · simp [h]
    · by_cases h2 : b < a
      · have hne : ¬ a = b := by intro e; subst e; exact h h2
        simp [h, h2, hne]
      · have e : a = b := by
          have h3 : ¬ a.toNat < b.toNat := h
          have h4 : ¬ b.toNat < a.toNat := h2
          exact UInt8.toNat_inj.1 (by omega)
        subst e
        simp [h]
theorem less_irrefl : ∀ a : List UInt8, Op.bytesLess a a = false
  | [] => rfl
  | a :: x => by
    unfold Op.bytesLess
    rw [less_irrefl x]
    simp
/-- Which of two keys is ahead. -/
def lt2 (a0 a1 b0 b1 : ByteArray) : Bool := Op.bytesLess a0.toList b0.toList || ((a0.toList == b0.toList) && Op.bytesLess a1.toList b1.toList)
/-- What compare of two keys tells. -/
def cmp2 (a0 a1 b0 b1 : ByteArray) : Int := if Lib.compareBytes a0.data.toList b0.data.toList = 0 then Lib.compareBytes a1.data.toList b1.data.toList else Lib.compareBytes a0.data.toList b0.data.toList
theorem cmp2_is (a0 a1 b0 b1 : ByteArray) : decide (0 ≤ cmp2 a0 a1 b0 b1) = !lt2 a0 a1 b0 b1 := by
  unfold cmp2 lt2
  rw [cmp_is, cmp_is]
  simp only [Lib.toList_data]
  cases h0 : Op.bytesLess a0.data.toList b0.data.toList with
  | true => simp
  | false =>
    cases h1 : (a0.data.toList == b0.data.toList) with
    | false => simp
    | true =>
      simp only [Bool.false_eq_true, if_false, if_true]
      cases h2 : Op.bytesLess a1.data.toList b1.data.toList with
      | true => simp
      | false =>
        cases h3 : (a1.data.toList == b1.data.toList) <;> simp
theorem lt2_empty (a b : ByteArray) : lt2 a ByteArray.empty b ByteArray.empty = Op.bytesLess a.toList b.toList := by
  unfold lt2
  rw [less_irrefl]
  simp
def aheadV (vs : List Vr) (i : Nat) : Bool := lt2 (vs.getD (i - 1) Vr.no).name ByteArray.empty (vs.getD i Vr.no).name ByteArray.empty
def aheadC (cs : List Cl) (i : Nat) : Bool := lt2 (cs.getD (i - 1) Cl.no).name (cs.getD (i - 1) Cl.no).key (cs.getD i Cl.no).name (cs.getD i Cl.no).key
def ascV (vs : List Vr) (i : Nat) : Bool := decide (i = 0) || aheadV vs i
def ascC (cs : List Cl) (i : Nat) : Bool := decide (i = 0) || aheadC cs i
def goodV (vs : List Vr) (i : Nat) : Bool := Cd.nm (vs.getD i Vr.no).name.data.toList && decide ((vs.getD i Vr.no).val.size ≤ 40)
def goodC (cs : List Cl) (i : Nat) : Bool := Cd.nm (cs.getD i Cl.no).name.data.toList && (decide ((cs.getD i Cl.no).key.size ≤ 40) && decide ((cs.getD i Cl.no).val.size ≤ 40))
/-- When a store is right. -/
def ok (vs : List Vr) (cs : List Cl) (o : ByteArray) : Bool :=
  decide (vs.length ≤ 60 ∧ cs.length ≤ 2000 ∧ o.size ≤ 3000) && (((List.range vs.length).all (ascV vs) && (List.range cs.length).all (ascC cs)) && ((List.range vs.length).all (goodV vs) && (List.range cs.length).all (goodC cs)))
theorem ok_no_v {vs : List Vr} {cs : List Cl} {o : ByteArray} {i : Nat} (hi : i < vs.length) (h : goodV vs i = false ∨ ascV vs i = false) : ok vs cs o = false := by
  unfold ok
  rcases h with h | h
  · rw [show (List.range vs.length).all (goodV vs) = false from List.all_eq_false.2 ⟨i, List.mem_range.2 hi, by rw [h]; simp⟩]; simp
  · rw [show (List.range vs.length).all (ascV vs) = false from List.all_eq_false.2 ⟨i, List.mem_range.2 hi, by rw [h]; simp⟩]; simp
theorem ok_no_c {vs : List Vr} {cs : List Cl} {o : ByteArray} {i : Nat} (hi : i < cs.length) (h : goodC cs i = false ∨ ascC cs i = false) : ok vs cs o = false := by
  unfold ok
  rcases h with h | h
  · rw [show (List.range cs.length).all (goodC cs) = false from List.all_eq_false.2 ⟨i, List.mem_range.2 hi, by rw [h]; simp⟩]; simp
  · rw [show (List.range cs.length).all (ascC cs) = false from List.all_eq_false.2 ⟨i, List.mem_range.2 hi, by rw [h]; simp⟩]; simp
theorem ok_yes {vs : List Vr} {cs : List Cl} {o : ByteArray} (h1 : ∀ i, i < vs.length → goodV vs i = true ∧ ascV vs i = true) (h2 : ∀ i, i < cs.length → goodC cs i = true ∧ ascC cs i = true) : ok vs cs o = decide (vs.length ≤ 60 ∧ cs.length ≤ 2000 ∧ o.size ≤ 3000) := by
  unfold ok
  rw [List.all_eq_true.2 fun q hq => (h1 q (List.mem_range.1 hq)).2, List.all_eq_true.2 fun q hq => (h2 q (List.mem_range.1 hq)).2, List.all_eq_true.2 fun q hq => (h1 q (List.mem_range.1 hq)).1, List.all_eq_true.2 fun q hq => (h2 q (List.mem_range.1 hq)).1]
  simp
end St
end PartOkP
section PartSsQ
namespace St
def ltC (name key : ByteArray) (x : Cl) : Bool := lt2 x.name x.key name (cut key)
def gtC (name key : ByteArray) (x : Cl) : Bool := lt2 name (cut key) x.name x.key
/-- All that are ahead, what is set, all that are behind. -/
def newCells (cs : List Cl) (name key val : ByteArray) : List Cl := cs.filter (ltC name key) ++ [⟨name, cut key, cut val⟩] ++ cs.filter (gtC name key)
/-- What SetCell leaves of the Cells. -/
def setCells (cs : List Cl) (name key val : ByteArray) : List Cl := if (newCells cs name key val).length ≤ 2000 then newCells cs name key val else cs
def aheadCl (cs : List Cl) (name key : ByteArray) (j : Nat) : List Cl := (cs.take j).filter (ltC name key)
def behindCl (cs : List Cl) (name key val : ByteArray) (j : Nat) : List Cl := cs.filter (ltC name key) ++ [⟨name, cut key, cut val⟩] ++ (cs.take j).filter (gtC name key)
end St
theorem aheadCl_len (cs : List Cl) (name key : ByteArray) (j : Nat) : (St.aheadCl cs name key j).length ≤ cs.length := filter_take_len _ cs j
theorem behindCl_len (cs : List Cl) (name key val : ByteArray) (j : Nat) : (St.behindCl cs name key val j).length ≤ cs.length + cs.length + 1 := by
  have h2 := filter_take_len (St.gtC name key) cs j
  have h1 := List.length_filter_le (St.ltC name key) cs
  unfold St.behindCl
  simp only [List.length_append, List.length_cons, List.length_nil]
  omega
theorem aheadCl_yes (cs : List Cl) (name key : ByteArray) (j : Nat) (h : j < cs.length) (hp : St.ltC name key (cs.getD j Cl.no) = true) : St.aheadCl cs name key (j + 1) = St.aheadCl cs name key j ++ [cs.getD j Cl.no] := filter_take_yes _ cs Cl.no j h hp
theorem aheadCl_no (cs : List Cl) (name key : ByteArray) (j : Nat) (h : j < cs.length) (hp : St.ltC name key (cs.getD j Cl.no) = false) : St.aheadCl cs name key (j + 1) = St.aheadCl cs name key j := filter_take_no _ cs Cl.no j h hp
theorem behindCl_yes (cs : List Cl) (name key val : ByteArray) (j : Nat) (h : j < cs.length) (hp : St.gtC name key (cs.getD j Cl.no) = true) : St.behindCl cs name key val (j + 1) = St.behindCl cs name key val j ++ [cs.getD j Cl.no] := by
  unfold St.behindCl
  rw [filter_take_yes _ cs Cl.no j h hp, ← List.append_assoc]
theorem behindCl_no (cs : List Cl) (name key val : ByteArray) (j : Nat) (h : j < cs.length) (hp : St.gtC name key (cs.getD j Cl.no) = false) : St.behindCl cs name key val (j + 1) = St.behindCl cs name key val j := by
  unfold St.behindCl
  rw [filter_take_no _ cs Cl.no j h hp]
theorem aheadCl_end (cs : List Cl) (name key : ByteArray) (j : Nat) (h : cs.length ≤ j) : St.aheadCl cs name key j = cs.filter (St.ltC name key) := by
  unfold St.aheadCl
  rw [List.take_of_length_le h]
theorem behindCl_end (cs : List Cl) (name key val : ByteArray) (j : Nat) (h : cs.length ≤ j) : St.behindCl cs name key val j = St.newCells cs name key val := by
  unfold St.behindCl St.newCells
  rw [List.take_of_length_le h]
theorem behindCl_zero (cs : List Cl) (name key val : ByteArray) (j : Nat) (h : cs.length ≤ j) : St.behindCl cs name key val 0 = St.aheadCl cs name key j ++ [⟨name, St.cut key, St.cut val⟩] := by
  rw [aheadCl_end cs name key j h]
  unfold St.behindCl
  rw [List.take_zero, List.filter_nil, List.append_nil]
end PartSsQ
section PartFrm
open Go.RowKit

/-- All but the memory is as it was. -/
def Env (w w' : World) : Prop := w'.os = w.os ∧ w'.tape = w.tape ∧ w'.output = w.output
theorem Env.refl (w : World) : Env w w := ⟨rfl, rfl, rfl⟩
theorem Env.trans {w w1 w2 : World} (h : Env w w1) (k : Env w1 w2) : Env w w2 := ⟨k.1.trans h.1, k.2.1.trans h.2.1, k.2.2.trans h.2.2⟩
/-- A frame: what lies below B, and from C on, is as it was. -/
def FM (B C : Nat) (w w' : World) : Prop := Env w w' ∧ w.heap.size ≤ w'.heap.size ∧ ∀ k, k < w.heap.size → (k < B ∨ C ≤ k) → w'.heap[k]? = w.heap[k]?
theorem FM.refl (B C : Nat) (w : World) : FM B C w w := ⟨Env.refl w, Nat.le_refl _, fun _ _ _ => rfl⟩
theorem FM.set {B C : Nat} {w w' : World} (h : FM B C w w') (r o : Nat) (u : Value) (h1 : B ≤ r) (h2 : r < C) : FM B C w (w'.setCell ⟨r, o, none⟩ u) :=
  ⟨h.1, by simpa [World.setCell] using h.2.1, fun k hk hkk => by rw [Below.heap_setCell _ _ _ _ (by show k ≠ r; omega)]; exact h.2.2 k hk hkk⟩
theorem FM.up {B C : Nat} {w w' w2 : World} (h : FM B C w w') (hb : Below w'.heap.size w' w2) : FM B C w w2 :=
  ⟨h.1.trans ⟨hb.os, hb.tape, hb.output⟩, Nat.le_trans h.2.1 hb.size, fun k hk hkk => (hb.block k (Nat.lt_of_lt_of_le hk h.2.1)).trans (h.2.2 k hk hkk)⟩
theorem FM.below {B C : Nat} {w w' : World} (h : FM B C w w') (hB : B ≤ w.heap.size) : Below B w w' := ⟨h.1.1, h.1.2.1, h.1.2.2, h.2.1, fun k hk => h.2.2 k (by omega) (.inl hk)⟩
end PartFrm
section PartRdA
open Go.RowKit

end PartRdA
end Go.Proofs.Ytmofljfffcnlbaa
