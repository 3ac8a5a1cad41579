/- When a store is right: plain facts. What setting leaves of a store's cells: plain facts. -/
import Derived.Test.YtjohhledpjmffaaZac
import Derived.Test.YtjohhledpjmffaaZah
import Derived.Lib.Bytealg
import Derived.Test.YtjohhledpjmffaaZaf
namespace Go.Proofs.Ytjohhledpjmffaa
section PartOkP
namespace St
theorem less_irrefl : ∀ a : List UInt8, Op.bytesLess a a = false
  | [] => rfl
  | a :: x => by
    unfold Op.bytesLess
    rw [less_irrefl x]
    simp
/-- Which of two keys is ahead. -/
def lt2 (a0 a1 b0 b1 : ByteArray) : Bool := Op.bytesLess a0.toList b0.toList || ((a0.toList == b0.toList) && Op.bytesLess a1.toList b1.toList)
theorem lt2_empty (a b : ByteArray) : lt2 a ByteArray.empty b ByteArray.empty = Op.bytesLess a.toList b.toList := by
  unfold lt2
  rw [less_irrefl]
  simp
def aheadV (vs : List Vr) (i : Nat) : Bool := lt2 (vs.getD (i - 1) Vr.no).name ByteArray.empty (vs.getD i Vr.no).name ByteArray.empty
def aheadC (cs : List Cl) (i : Nat) : Bool := lt2 (cs.getD (i - 1) Cl.no).name (cs.getD (i - 1) Cl.no).key (cs.getD i Cl.no).name (cs.getD i Cl.no).key
def ascV (vs : List Vr) (i : Nat) : Bool := decide (i = 0) || aheadV vs i
def ascC (cs : List Cl) (i : Nat) : Bool := decide (i = 0) || aheadC cs i
def goodV (vs : List Vr) (i : Nat) : Bool := Cd.nm (vs.getD i Vr.no).name.data.toList && decide ((vs.getD i Vr.no).val.size ≤ 40)
def goodC (cs : List Cl) (i : Nat) : Bool := Cd.nm (cs.getD i Cl.no).name.data.toList && (decide ((cs.getD i Cl.no).key.size ≤ 40) && decide ((cs.getD i Cl.no).val.size ≤ 40))
/-- When a store is right. -/
def ok (vs : List Vr) (cs : List Cl) (o : ByteArray) : Bool :=
  decide (vs.length ≤ 60 ∧ cs.length ≤ 2000 ∧ o.size ≤ 3000) && (((List.range vs.length).all (ascV vs) && (List.range cs.length).all (ascC cs)) && ((List.range vs.length).all (goodV vs) && (List.range cs.length).all (goodC cs)))
theorem ok_yes {vs : List Vr} {cs : List Cl} {o : ByteArray} (h1 : ∀ i, i < vs.length → goodV vs i = true ∧ ascV vs i = true) (h2 : ∀ i, i < cs.length → goodC cs i = true ∧ ascC cs i = true) : ok vs cs o = decide (vs.length ≤ 60 ∧ cs.length ≤ 2000 ∧ o.size ≤ 3000) := by
  unfold ok
  rw [List.all_eq_true.2 fun q hq => (h1 q (List.mem_range.1 hq)).2, List.all_eq_true.2 fun q hq => (h2 q (List.mem_range.1 hq)).2, List.all_eq_true.2 fun q hq => (h1 q (List.mem_range.1 hq)).1, List.all_eq_true.2 fun q hq => (h2 q (List.mem_range.1 hq)).1]
  simp
end St
end PartOkP
section PartSsQ
namespace St
def ltC (name key : ByteArray) (x : Cl) : Bool := lt2 x.name x.key name (cut key)
def gtC (name key : ByteArray) (x : Cl) : Bool := lt2 name (cut key) x.name x.key
/-- All that are ahead, what is set, all that are behind. -/
def newCells (cs : List Cl) (name key val : ByteArray) : List Cl := cs.filter (ltC name key) ++ [⟨name, cut key, cut val⟩] ++ cs.filter (gtC name key)
/-- What SetCell leaves of the Cells. -/
def setCells (cs : List Cl) (name key val : ByteArray) : List Cl := if (newCells cs name key val).length ≤ 2000 then newCells cs name key val else cs
def aheadCl (cs : List Cl) (name key : ByteArray) (j : Nat) : List Cl := (cs.take j).filter (ltC name key)
def behindCl (cs : List Cl) (name key val : ByteArray) (j : Nat) : List Cl := cs.filter (ltC name key) ++ [⟨name, cut key, cut val⟩] ++ (cs.take j).filter (gtC name key)
end St
theorem aheadCl_len (cs : List Cl) (name key : ByteArray) (j : Nat) : (St.aheadCl cs name key j).length ≤ cs.length := filter_take_len _ cs j
theorem behindCl_len (cs : List Cl) (name key val : ByteArray) (j : Nat) : (St.behindCl cs name key val j).length ≤ cs.length + cs.length + 1 := by
  have h2 := filter_take_len (St.gtC name key) cs j
  have h1 := List.length_filter_le (St.ltC name key) cs
  unfold St.behindCl
  simp only [List.length_append, List.length_cons, List.length_nil]
  omega
theorem aheadCl_yes (cs : List Cl) (name key : ByteArray) (j : Nat) (h : j < cs.length) (hp : St.ltC name key (cs.getD j Cl.no) = true) : St.aheadCl cs name key (j + 1) = St.aheadCl cs name key j ++ [cs.getD j Cl.no] := filter_take_yes _ cs Cl.no j h hp
theorem aheadCl_no (cs : List Cl) (name key : ByteArray) (j : Nat) (h : j < cs.length) (hp : St.ltC name key (cs.getD j Cl.no) = false) : St.aheadCl cs name key (j + 1) = St.aheadCl cs name key j := filter_take_no _ cs Cl.no j h hp
theorem behindCl_yes (cs : List Cl) (name key val : ByteArray) (j : Nat) (h : j < cs.length) (hp : St.gtC name key (cs.getD j Cl.no) = true) : St.behindCl cs name key val (j + 1) = St.behindCl cs name key val j ++ [cs.getD j Cl.no] := by
  unfold St.behindCl
  rw [filter_take_yes _ cs Cl.no j h hp, ← List.append_assoc]
theorem behindCl_no (cs : List Cl) (name key val : ByteArray) (j : Nat) (h : j < cs.length) (hp : St.gtC name key (cs.getD j Cl.no) = false) : St.behindCl cs name key val (j + 1) = St.behindCl cs name key val j := by
  unfold St.behindCl
  rw [filter_take_no _ cs Cl.no j h hp]
theorem aheadCl_end (cs : List Cl) (name key : ByteArray) (j : Nat) (h : cs.length ≤ j) : St.aheadCl cs name key j = cs.filter (St.ltC name key) := by
  unfold St.aheadCl
  rw [List.take_of_length_le h]
theorem behindCl_end (cs : List Cl) (name key val : ByteArray) (j : Nat) (h : cs.length ≤ j) : St.behindCl cs name key val j = St.newCells cs name key val := by
  unfold St.behindCl St.newCells
  rw [List.take_of_length_le h]
theorem behindCl_zero (cs : List Cl) (name key val : ByteArray) (j : Nat) (h : cs.length ≤ j) : St.behindCl cs name key val 0 = St.aheadCl cs name key j ++ [⟨name, St.cut key, St.cut val⟩] := by
  rw [aheadCl_end cs name key j h]
  unfold St.behindCl
  rw [List.take_zero, List.filter_nil, List.append_nil]
end PartSsQ
end Go.Proofs.Ytjohhledpjmffaa
