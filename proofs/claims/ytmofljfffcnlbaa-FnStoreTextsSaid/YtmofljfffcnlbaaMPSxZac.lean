/- What the program's Cut answers, at every text: its first forty bytes, in memory of its own. What the specification's Cut answers, at every text. What setting leaves of a store: plain facts. Records of 2 fields in memory (Instr): how great a row of them is, the law's own copy of it, two of the same. -/
import Derived.Test.YtmofljfffcnlbaaProg
import Derived.Test.YtmofljfffcnlbaaMPSxZab
import Derived.WalkKit
import Derived.WalkSpells
import Derived.WalkLawsBesides
import Derived.Handy
import Derived.Lib.Strings
import Derived.Test.YtmofljfffcnlbaaMPSxZaa
import Derived.Deep.SlicePairs
import Derived.Deep.Strs
import Derived.Deep.Fields
import Derived.ProofKit
import Derived.OpenShut
import Derived.ChangeOld
namespace Go.Proofs.Ytmofljfffcnlbaa
section PartVCutI
open Go.RowKit

theorem take_str (s : ByteArray) (n : Nat) (_h : n ≤ s.size) : s.extract 0 n = ⟨(s.data.toList.take n).toArray⟩ := by
  rw [Lib.extract_eq s 0 n]
  simp
end PartVCutI
section PartVCut
open Go.RowKit

set_option maxHeartbeats 400000 in
theorem specCut_any (s : ByteArray) (w : World) :
    Calls Try.prog 59 #[.string s] w fun e w' => e = .returned (.string ⟨(Pv.cut s.data.toList).toArray⟩) ∧ w' = w := by
  have el : s.data.toList.length = s.size := by simp
  by_cases h : 40 < s.size
  · have HE : Hid (s.extract 0 40 = ⟨(Pv.cut s.data.toList).toArray⟩) := take_str s 40 (by omega)
    have d : decide ((40 : Int) < (s.size : Int)) = true := by simp; omega
    clear el
    go_enter Try.func59, Try.ntmps59
    go_wp2
    go_ret
    exact ⟨by rw [← HE.out]; rfl, rfl⟩
  · have HE : Hid (s = ⟨(Pv.cut s.data.toList).toArray⟩) := by
      show _ = _
      rw [Pv.cut_short _ (by omega)]
    have d : decide ((40 : Int) < (s.size : Int)) = false := by simp; omega
    clear el
    go_enter Try.func59, Try.ntmps59
    go_wp2
    go_ret
    exact ⟨by rw [← HE.out]; rfl, rfl⟩

end PartVCut
section PartSsP
namespace St
def cut (s : ByteArray) : ByteArray := ⟨(Pv.cut s.data.toList).toArray⟩
def ltV (name : ByteArray) (x : Vr) : Bool := Op.bytesLess x.name.toList name.toList
def gtV (name : ByteArray) (x : Vr) : Bool := !(Op.bytesLess x.name.toList name.toList || x.name.toList == name.toList)
/-- All that are ahead, what is set, all that are behind. -/
def newVars (vs : List Vr) (name val : ByteArray) : List Vr := vs.filter (ltV name) ++ [⟨name, cut val⟩] ++ vs.filter (gtV name)
/-- What SetVar leaves of the Vars. -/
def setVars (vs : List Vr) (name val : ByteArray) : List Vr := if (newVars vs name val).length ≤ 60 then newVars vs name val else vs
def aheadRow (vs : List Vr) (name : ByteArray) (j : Nat) : List Vr := (vs.take j).filter (ltV name)
def behindRow (vs : List Vr) (name val : ByteArray) (j : Nat) : List Vr := vs.filter (ltV name) ++ [⟨name, cut val⟩] ++ (vs.take j).filter (gtV name)
end St
theorem filter_take_yes {α : Type} (p : α → Bool) (xs : List α) (no : α) (j : Nat) (h : j < xs.length) (hp : p (xs.getD j no) = true) : (xs.take (j + 1)).filter p = (xs.take j).filter p ++ [xs.getD j no] := by
  have e : xs.getD j no = xs[j] := by simp [h]
  rw [List.take_succ_eq_append_getElem h, List.filter_append, ← e]
  simp only [List.filter_cons, List.filter_nil, hp, if_true]
theorem filter_take_no {α : Type} (p : α → Bool) (xs : List α) (no : α) (j : Nat) (h : j < xs.length) (hp : p (xs.getD j no) = false) : (xs.take (j + 1)).filter p = (xs.take j).filter p := by
  have e : xs.getD j no = xs[j] := by simp [h]
  rw [List.take_succ_eq_append_getElem h, List.filter_append, ← e]
  simp only [List.filter_cons, List.filter_nil, hp, Bool.false_eq_true, if_false, List.append_nil]
theorem filter_take_len {α : Type} (p : α → Bool) (xs : List α) (j : Nat) : ((xs.take j).filter p).length ≤ xs.length := by
  refine Nat.le_trans (List.length_filter_le _ _) ?_
  rw [List.length_take]
  exact Nat.min_le_right _ _
theorem aheadRow_len (vs : List Vr) (name : ByteArray) (j : Nat) : (St.aheadRow vs name j).length ≤ vs.length := filter_take_len _ vs j
theorem behindRow_len (vs : List Vr) (name val : ByteArray) (j : Nat) : (St.behindRow vs name val j).length ≤ vs.length + vs.length + 1 := by
  have h2 := filter_take_len (St.gtV name) vs j
  have h1 := List.length_filter_le (St.ltV name) vs
  unfold St.behindRow
  simp only [List.length_append, List.length_cons, List.length_nil]
  omega
theorem aheadRow_yes (vs : List Vr) (name : ByteArray) (j : Nat) (h : j < vs.length) (hp : St.ltV name (vs.getD j Vr.no) = true) : St.aheadRow vs name (j + 1) = St.aheadRow vs name j ++ [vs.getD j Vr.no] := filter_take_yes _ vs Vr.no j h hp
theorem aheadRow_no (vs : List Vr) (name : ByteArray) (j : Nat) (h : j < vs.length) (hp : St.ltV name (vs.getD j Vr.no) = false) : St.aheadRow vs name (j + 1) = St.aheadRow vs name j := filter_take_no _ vs Vr.no j h hp
theorem behindRow_yes (vs : List Vr) (name val : ByteArray) (j : Nat) (h : j < vs.length) (hp : St.gtV name (vs.getD j Vr.no) = true) : St.behindRow vs name val (j + 1) = St.behindRow vs name val j ++ [vs.getD j Vr.no] := by
  unfold St.behindRow
  rw [filter_take_yes _ vs Vr.no j h hp, ← List.append_assoc]
theorem behindRow_no (vs : List Vr) (name val : ByteArray) (j : Nat) (h : j < vs.length) (hp : St.gtV name (vs.getD j Vr.no) = false) : St.behindRow vs name val (j + 1) = St.behindRow vs name val j := by
  unfold St.behindRow
  rw [filter_take_no _ vs Vr.no j h hp]
theorem aheadRow_end (vs : List Vr) (name : ByteArray) (j : Nat) (h : vs.length ≤ j) : St.aheadRow vs name j = vs.filter (St.ltV name) := by
  unfold St.aheadRow
  rw [List.take_of_length_le h]
theorem behindRow_end (vs : List Vr) (name val : ByteArray) (j : Nat) (h : vs.length ≤ j) : St.behindRow vs name val j = St.newVars vs name val := by
  unfold St.behindRow St.newVars
  rw [List.take_of_length_le h]
theorem behindRow_zero (vs : List Vr) (name val : ByteArray) (j : Nat) (h : vs.length ≤ j) : St.behindRow vs name val 0 = St.aheadRow vs name j ++ [⟨name, St.cut val⟩] := by
  rw [aheadRow_end vs name j h]
  unfold St.behindRow
  rw [List.take_zero, List.filter_nil, List.append_nil]
end PartSsP
section PartCoI
open Go.RowKit

structure Ins where
  op : Int
  arg : Int
def Ins.no : Ins := ⟨0, 0⟩
instance : Inhabited Ins := ⟨Ins.no⟩
/-- The slice v leads to the records xs. -/
def InsAt (w : World) (v : Value) (xs : List Ins) : Prop := ∃ (a : Option Addr) (c : Nat), v = .slice a xs.length c ∧
  (0 < xs.length → ∃ b o, a = some ⟨b, o, none⟩ ∧ b < w.heap.size ∧ ∀ i, i < xs.length → w.cell? ⟨b, o + i * 2, none⟩ = some (.int .i64 (xs.getD i Ins.no).op) ∧ w.cell? ⟨b, o + i * 2 + 1, none⟩ = some (.int .i64 (xs.getD i Ins.no).arg))
theorem InsAt.keep {w w' : World} {v : Value} {xs : List Ins} (h : InsAt w v xs) (hb : Below w.heap.size w w') : InsAt w' v xs := by
  obtain ⟨ka, kc, rfl, f⟩ := h
  refine ⟨ka, kc, rfl, fun h0 => ?_⟩
  obtain ⟨b, o, rfl, hl, hc⟩ := f h0
  exact ⟨b, o, rfl, Nat.lt_of_lt_of_le hl hb.size, fun i hi => ⟨(hb.cell hl).trans ((hc i hi).1), (hb.cell hl).trans ((hc i hi).2)⟩⟩

end PartCoI
end Go.Proofs.Ytmofljfffcnlbaa
