/- Plain facts: when code is right. When a store is right: plain facts. What setting leaves of a store's cells: plain facts. -/
import Derived.Test.YtohhhhkhkgmanaaZad
import Derived.Test.YtohhhhkhkgmanaaZae
import Derived.Test.YtohhhhkhkgmanaaZab
import Derived.Lib.Bytealg
namespace Go.Proofs.Ytohhhhkhkgmanaa
section PartCdP
namespace Cd

/-- 1 to 8 letters. -/
def nm (t : List UInt8) : Bool := t.all Tk.letter && decide (1 ≤ t.length ∧ t.length ≤ 8)
def text (ts : List ByteArray) (a : Int) : ByteArray := ts.getD a.toNat ByteArray.empty
/-- Is the arg of an instruction at a place right? -/
def arg (ts : List ByteArray) (x : Ins) (a : Int) (to : Int) : Bool :=
  if x.op = 1 then decide (x.arg < (ts.length : Int))
  else if x.op = 15 then decide (x.arg < (ts.length : Int)) && (Pp.read (text ts x.arg).data.toList).isSome
  else if x.op = 2 ∨ x.op = 3 ∨ x.op = 17 ∨ x.op = 18 ∨ x.op = 19 ∨ x.op = 20 ∨ x.op = 24 then decide (x.arg < (ts.length : Int)) && nm (text ts x.arg).data.toList
  else if x.op = 16 then decide (1 ≤ x.arg ∧ x.arg ≤ 4)
  else if x.op = 21 ∨ x.op = 22 then decide (a < x.arg) && decide (x.arg ≤ to)
  else decide (x.arg = 0)
def ins (ts : List ByteArray) (x : Ins) (a : Int) (to : Int) : Bool := decide (1 ≤ x.op ∧ x.op ≤ 24) && decide (0 ≤ x.arg ∧ x.arg ≤ 255) && arg ts x a to
/-- How many it takes, and how many it puts. -/
def needs (x : Ins) : Int × Int :=
  if x.op = 1 ∨ x.op = 2 ∨ x.op = 5 ∨ x.op = 6 then (0, 1)
  else if x.op = 3 ∨ x.op = 4 ∨ x.op = 7 ∨ x.op = 15 then (1, 1)
  else if x.op = 8 ∨ x.op = 9 ∨ x.op = 10 ∨ x.op = 11 ∨ x.op = 12 ∨ x.op = 13 ∨ x.op = 14 then (2, 1)
  else if x.op = 16 then (x.arg, 0)
  else if x.op = 17 ∨ x.op = 18 ∨ x.op = 21 then (1, 0)
  else if x.op = 19 ∨ x.op = 20 then (2, 0)
  else (0, 0)
/-- Where it goes on. -/
def next (x : Ins) (a : Nat) : List Nat := (if x.op = 23 ∨ x.op = 22 then [] else [a + 1]) ++ (if x.op = 21 ∨ x.op = 22 then [x.arg.toNat] else [])
/-- The height n is told of each of these places, unless one has another. -/
def mark (hs : List Int) (n : Int) : List Nat → Option (List Int)
  | [] => some hs
  | k :: ks => if 0 ≤ hs.getD k (-1) ∧ hs.getD k (-1) ≠ n then none else mark (hs.set k n) n ks
/-- The specification's round. -/
def loopS (ts : List ByteArray) (xs : List Ins) (to : Nat) : Nat → Nat → List Int → Bool
  | 0, _, hs => decide (hs.getD to (-1) ≤ 0)
  | f + 1, a, hs =>
    if ins ts (xs.getD a Ins.no) (a : Int) (to : Int) = false then false
    else if hs.getD a (-1) < 0 then loopS ts xs to f (a + 1) hs
    else if hs.getD a (-1) < (needs (xs.getD a Ins.no)).1 ∨ 20 < hs.getD a (-1) - (needs (xs.getD a Ins.no)).1 + (needs (xs.getD a Ins.no)).2 then false
    else match mark hs (hs.getD a (-1) - (needs (xs.getD a Ins.no)).1 + (needs (xs.getD a Ins.no)).2) (next (xs.getD a Ins.no) a) with
      | none => false
      | some hs' => loopS ts xs to f (a + 1) hs'
/-- The program's round. -/
def loopI (xs : List Ins) (to : Nat) : Nat → Nat → List Int → Bool
  | 0, _, hs => decide (hs.getD to (-1) = -1 ∨ hs.getD to (-1) = 0)
  | f + 1, a, hs =>
    if hs.getD a (-1) = -1 then loopI xs to f (a + 1) hs
    else if hs.getD a (-1) < (needs (xs.getD a Ins.no)).1 ∨ 20 < hs.getD a (-1) then false
    else match mark hs (hs.getD a (-1) - (needs (xs.getD a Ins.no)).1 + (needs (xs.getD a Ins.no)).2) (next (xs.getD a Ins.no) a) with
      | none => false
      | some hs' => loopI xs to f (a + 1) hs'
def start (fr to : Nat) : List Int := (List.replicate (to + 1) (-1 : Int)).set fr 0
def part (ts : List ByteArray) (xs : List Ins) (fr to : Nat) : Bool := loopS ts xs to (to - fr) fr (start fr to)
/-- Is code right? -/
def ok (ts : List ByteArray) (xs : List Ins) (bg ln en : Int) : Bool :=
  ts.all (fun t => decide (t.size ≤ 30)) && (decide (ts.length ≤ 60) && (decide (xs.length ≤ 250) && (decide (bg = 0) && (decide (0 ≤ ln ∧ ln ≤ (xs.length : Int)) && (decide (ln ≤ en ∧ en ≤ (xs.length : Int)) &&
  (part ts xs 0 ln.toNat && (part ts xs ln.toNat en.toNat && part ts xs en.toNat xs.length)))))))

theorem getD_set (hs : List Int) (k j : Nat) (n : Int) : (hs.set k n).getD j (-1) = if j = k ∧ k < hs.length then n else hs.getD j (-1) := by
  simp only [List.getD_eq_getElem?_getD, List.getElem?_set]
  by_cases h : k = j
  · subst h
    by_cases h2 : k < hs.length
    · simp [h2]
    · simp [h2]
  · have : ¬ j = k := fun e => h e.symm
    simp [h, this]
theorem mark_keep {n : Int} : ∀ {ks : List Nat} {hs hs' : List Int} {j : Nat}, mark hs n ks = some hs' → 0 ≤ hs.getD j (-1) → hs'.getD j (-1) = hs.getD j (-1)
  | [], hs, hs', j, h, _ => by simp [mark] at h; rw [h]
  | k :: ks, hs, hs', j, h, hj => by
    simp only [mark] at h
    split at h
    · cases h
    · rename_i hne
      have e : (hs.set k n).getD j (-1) = hs.getD j (-1) := by
        rw [getD_set]
        by_cases hk : j = k ∧ k < hs.length
        · rw [if_pos hk]
          obtain ⟨rfl, _⟩ := hk
          by_cases e2 : hs.getD j (-1) = n
          · exact e2.symm
          · exact absurd ⟨hj, e2⟩ hne
        · rw [if_neg hk]
      have := mark_keep h (j := j) (by rw [e]; exact hj)
      rw [this, e]
/-- All heights are within. -/
def Inv (hs : List Int) (lo hi : Int) : Prop := ∀ j, lo ≤ hs.getD j (-1) ∧ hs.getD j (-1) ≤ hi
theorem Inv.set {hs : List Int} {lo hi n : Int} (h : Inv hs lo hi) (h1 : lo ≤ n) (h2 : n ≤ hi) (k : Nat) : Inv (hs.set k n) lo hi := by
  intro j
  rw [getD_set]
  split
  · exact ⟨h1, h2⟩
  · exact h j
theorem Inv.mark {lo hi n : Int} (h1 : lo ≤ n) (h2 : n ≤ hi) : ∀ {ks : List Nat} {hs hs' : List Int}, Inv hs lo hi → Cd.mark hs n ks = some hs' → Inv hs' lo hi
  | [], hs, hs', h, e => by simp [Cd.mark] at e; rw [← e]; exact h
  | k :: ks, hs, hs', h, e => by
    simp only [Cd.mark] at e
    split at e
    · cases e
    · exact Inv.mark h1 h2 (h.set h1 h2 k) e

theorem big_no (xs : List Ins) (to : Nat) : ∀ (f a : Nat) (hs : List Int), a + f = to → (∃ k, a ≤ k ∧ k ≤ to ∧ 20 < hs.getD k (-1)) → loopI xs to f a hs = false
  | 0, a, hs, h, ⟨k, h1, h2, h3⟩ => by
    obtain rfl : k = to := by omega
    simp only [loopI]
    exact decide_eq_false (by omega)
  | f + 1, a, hs, h, ⟨k, h1, h2, h3⟩ => by
    simp only [loopI]
    by_cases hm : hs.getD a (-1) = -1
    · rw [if_pos hm]
      have hne : k ≠ a := fun e => by rw [e] at h3; omega
      exact big_no xs to f (a + 1) hs (by omega) ⟨k, by omega, h2, h3⟩
    · rw [if_neg hm]
      split
      · rfl
      · rename_i hno
        split
        · rfl
        · rename_i hs' hmk
          have hne : k ≠ a := fun e => by rw [e] at h3; omega
          exact big_no xs to f (a + 1) hs' (by omega) ⟨k, by omega, h2, by rw [mark_keep hmk (by omega)]; exact h3⟩

end Cd
end PartCdP
section PartOkP
namespace St
/-- What the library's comparison tells. -/
theorem cmp_is : ∀ a b : List UInt8, Lib.compareBytes a b = if Op.bytesLess a b then -1 else if a == b then 0 else 1
  | [], [] => rfl
  | [], _ :: _ => rfl
  | _ :: _, [] => rfl
  | a :: x, b :: y => by
    unfold Lib.compareBytes Op.bytesLess
    rw [cmp_is x y]
    by_cases h : a < b
    · simp [h]
    · by_cases h2 : b < a
      · have hne : ¬ a = b := by intro e; subst e; exact h h2
        simp [h, h2, hne]
      · have e : a = b := by
          have h3 : ¬ a.toNat < b.toNat := h
          have h4 : ¬ b.toNat < a.toNat := h2
          exact UInt8.toNat_inj.1 (by omega)
        subst e
        simp [h]
theorem less_irrefl : ∀ a : List UInt8, Op.bytesLess a a = false
  | [] => rfl
  | a :: x => by
    unfold Op.bytesLess
    rw [less_irrefl x]
    simp
/-- Which of two keys is ahead. -/
def lt2 (a0 a1 b0 b1 : ByteArray) : Bool := Op.bytesLess a0.toList b0.toList || ((a0.toList == b0.toList) && Op.bytesLess a1.toList b1.toList)
/-- What compare of two keys tells. -/
def cmp2 (a0 a1 b0 b1 : ByteArray) : Int := if Lib.compareBytes a0.data.toList b0.data.toList = 0 then Lib.compareBytes a1.data.toList b1.data.toList else Lib.compareBytes a0.data.toList b0.data.toList
theorem cmp2_is (a0 a1 b0 b1 : ByteArray) : decide (0 ≤ cmp2 a0 a1 b0 b1) = !lt2 a0 a1 b0 b1 := by
  unfold cmp2 lt2
  rw [cmp_is, cmp_is]
  simp only [Lib.toList_data]
  cases h0 : Op.bytesLess a0.data.toList b0.data.toList with
  | true => simp
  | false =>
    cases h1 : (a0.data.toList == b0.data.toList) with
    | false => simp
    | true =>
      simp only [Bool.false_eq_true, if_false, if_true]
      cases h2 : Op.bytesLess a1.data.toList b1.data.toList with
      | true => simp
      | false =>
        cases h3 : (a1.data.toList == b1.data.toList) <;> simp
theorem lt2_empty (a b : ByteArray) : lt2 a ByteArray.empty b ByteArray.empty = Op.bytesLess a.toList b.toList := by
  unfold lt2
  rw [less_irrefl]
  simp
def aheadV (vs : List Vr) (i : Nat) : Bool := lt2 (vs.getD (i - 1) Vr.no).name ByteArray.empty (vs.getD i Vr.no).name ByteArray.empty
def aheadC (cs : List Cl) (i : Nat) : Bool := lt2 (cs.getD (i - 1) Cl.no).name (cs.getD (i - 1) Cl.no).key (cs.getD i Cl.no).name (cs.getD i Cl.no).key
def ascV (vs : List Vr) (i : Nat) : Bool := decide (i = 0) || aheadV vs i
def ascC (cs : List Cl) (i : Nat) : Bool := decide (i = 0) || aheadC cs i
def goodV (vs : List Vr) (i : Nat) : Bool := Cd.nm (vs.getD i Vr.no).name.data.toList && decide ((vs.getD i Vr.no).val.size ≤ 40)
def goodC (cs : List Cl) (i : Nat) : Bool := Cd.nm (cs.getD i Cl.no).name.data.toList && (decide ((cs.getD i Cl.no).key.size ≤ 40) && decide ((cs.getD i Cl.no).val.size ≤ 40))
/-- When a store is right. -/
def ok (vs : List Vr) (cs : List Cl) (o : ByteArray) : Bool :=
  decide (vs.length ≤ 60 ∧ cs.length ≤ 2000 ∧ o.size ≤ 3000) && (((List.range vs.length).all (ascV vs) && (List.range cs.length).all (ascC cs)) && ((List.range vs.length).all (goodV vs) && (List.range cs.length).all (goodC cs)))
theorem ok_no_v {vs : List Vr} {cs : List Cl} {o : ByteArray} {i : Nat} (hi : i < vs.length) (h : goodV vs i = false ∨ ascV vs i = false) : ok vs cs o = false := by
  unfold ok
  rcases h with h | h
  · rw [show (List.range vs.length).all (goodV vs) = false from List.all_eq_false.2 ⟨i, List.mem_range.2 hi, by rw [h]; simp⟩]; simp
  · rw [show (List.range vs.length).all (ascV vs) = false from List.all_eq_false.2 ⟨i, List.mem_range.2 hi, by rw [h]; simp⟩]; simp
theorem ok_no_c {vs : List Vr} {cs : List Cl} {o : ByteArray} {i : Nat} (hi : i < cs.length) (h : goodC cs i = false ∨ ascC cs i = false) : ok vs cs o = false := by
  unfold ok
  rcases h with h | h
  · rw [show (List.range cs.length).all (goodC cs) = false from List.all_eq_false.2 ⟨i, List.mem_range.2 hi, by rw [h]; simp⟩]; simp
  · rw [show (List.range cs.length).all (ascC cs) = false from List.all_eq_false.2 ⟨i, List.mem_range.2 hi, by rw [h]; simp⟩]; simp
theorem ok_yes {vs : List Vr} {cs : List Cl} {o : ByteArray} (h1 : ∀ i, i < vs.length → goodV vs i = true ∧ ascV vs i = true) (h2 : ∀ i, i < cs.length → goodC cs i = true ∧ ascC cs i = true) : ok vs cs o = decide (vs.length ≤ 60 ∧ cs.length ≤ 2000 ∧ o.size ≤ 3000) := by
  unfold ok
  rw [List.all_eq_true.2 fun q hq => (h1 q (List.mem_range.1 hq)).2, List.all_eq_true.2 fun q hq => (h2 q (List.mem_range.1 hq)).2, List.all_eq_true.2 fun q hq => (h1 q (List.mem_range.1 hq)).1, List.all_eq_true.2 fun q hq => (h2 q (List.mem_range.1 hq)).1]
  simp
end St
end PartOkP
section PartSsQ
namespace St
def ltC (name key : ByteArray) (x : Cl) : Bool := lt2 x.name x.key name (cut key)
def gtC (name key : ByteArray) (x : Cl) : Bool := lt2 name (cut key) x.name x.key
/-- All that are ahead, what is set, all that are behind. -/
def newCells (cs : List Cl) (name key val : ByteArray) : List Cl := cs.filter (ltC name key) ++ [⟨name, cut key, cut val⟩] ++ cs.filter (gtC name key)
/-- What SetCell leaves of the Cells. -/
def setCells (cs : List Cl) (name key val : ByteArray) : List Cl := if (newCells cs name key val).length ≤ 2000 then newCells cs name key val else cs
def aheadCl (cs : List Cl) (name key : ByteArray) (j : Nat) : List Cl := (cs.take j).filter (ltC name key)
def behindCl (cs : List Cl) (name key val : ByteArray) (j : Nat) : List Cl := cs.filter (ltC name key) ++ [⟨name, cut key, cut val⟩] ++ (cs.take j).filter (gtC name key)
end St
theorem aheadCl_len (cs : List Cl) (name key : ByteArray) (j : Nat) : (St.aheadCl cs name key j).length ≤ cs.length := filter_take_len _ cs j
theorem behindCl_len (cs : List Cl) (name key val : ByteArray) (j : Nat) : (St.behindCl cs name key val j).length ≤ cs.length + cs.length + 1 := by
  have h2 := filter_take_len (St.gtC name key) cs j
  have h1 := List.length_filter_le (St.ltC name key) cs
  unfold St.behindCl
  simp only [List.length_append, List.length_cons, List.length_nil]
  omega
theorem aheadCl_yes (cs : List Cl) (name key : ByteArray) (j : Nat) (h : j < cs.length) (hp : St.ltC name key (cs.getD j Cl.no) = true) : St.aheadCl cs name key (j + 1) = St.aheadCl cs name key j ++ [cs.getD j Cl.no] := filter_take_yes _ cs Cl.no j h hp
theorem aheadCl_no (cs : List Cl) (name key : ByteArray) (j : Nat) (h : j < cs.length) (hp : St.ltC name key (cs.getD j Cl.no) = false) : St.aheadCl cs name key (j + 1) = St.aheadCl cs name key j := filter_take_no _ cs Cl.no j h hp
theorem behindCl_yes (cs : List Cl) (name key val : ByteArray) (j : Nat) (h : j < cs.length) (hp : St.gtC name key (cs.getD j Cl.no) = true) : St.behindCl cs name key val (j + 1) = St.behindCl cs name key val j ++ [cs.getD j Cl.no] := by
  unfold St.behindCl
  rw [filter_take_yes _ cs Cl.no j h hp, ← List.append_assoc]
theorem behindCl_no (cs : List Cl) (name key val : ByteArray) (j : Nat) (h : j < cs.length) (hp : St.gtC name key (cs.getD j Cl.no) = false) : St.behindCl cs name key val (j + 1) = St.behindCl cs name key val j := by
  unfold St.behindCl
  rw [filter_take_no _ cs Cl.no j h hp]
theorem aheadCl_end (cs : List Cl) (name key : ByteArray) (j : Nat) (h : cs.length ≤ j) : St.aheadCl cs name key j = cs.filter (St.ltC name key) := by
  unfold St.aheadCl
  rw [List.take_of_length_le h]
theorem behindCl_end (cs : List Cl) (name key val : ByteArray) (j : Nat) (h : cs.length ≤ j) : St.behindCl cs name key val j = St.newCells cs name key val := by
  unfold St.behindCl St.newCells
  rw [List.take_of_length_le h]
theorem behindCl_zero (cs : List Cl) (name key val : ByteArray) (j : Nat) (h : cs.length ≤ j) : St.behindCl cs name key val 0 = St.aheadCl cs name key j ++ [⟨name, St.cut key, St.cut val⟩] := by
  rw [aheadCl_end cs name key j h]
  unfold St.behindCl
  rw [List.take_zero, List.filter_nil, List.append_nil]
end PartSsQ
end Go.Proofs.Ytohhhhkhkgmanaa
