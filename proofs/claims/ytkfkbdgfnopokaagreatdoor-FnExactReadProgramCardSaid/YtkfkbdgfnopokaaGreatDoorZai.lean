/- Plain facts: when a program is right. Plain facts: what the program counts of a node's kids is what the document asks of them. The specification of ProgramOk: names, plain texts. The specification of ProgramOk: names. 1 to 8 letters: isOfLetters. When a program is right: names, words, expressions, the op at a place. -/
import Derived.Test.YtkfkbdgfnopokaaGreatDoorZac
import Derived.Test.YtkfkbdgfnopokaaGreatDoorZah
import Derived.Test.YtkfkbdgfnopokaaGreatDoorZaa
import Derived.Test.YtkfkbdgfnopokaaGreatDoorZag
namespace Go.Proofs.YtkfkbdgfnopokaaGreatDoor
section PartPgP
namespace Pg
def words : List (List UInt8) := [[66, 69, 71, 73, 78], [69, 78, 68], [112, 114, 105, 110, 116], [110, 101, 120, 116], [100, 117, 109, 112], [105, 102], [101, 108, 115, 101], [108, 101, 110, 103, 116, 104], [78, 70], [78, 82]]
def name (t : List UInt8) : Bool := !(words.contains t) && t.all Tk.letter && decide (1 ≤ t.length ∧ t.length ≤ 8)
def plain (t : List UInt8) (most : Nat) (m : UInt8) : Bool := t.all (fun b => b != m && b != 10) && decide (t.length ≤ most)
def text (op : Int) (t : List UInt8) : Bool :=
 if op = 1 then Pv.isn t
 else if op = 2 then plain t 30 34
 else if op = 3 ∨ op = 4 ∨ op = 18 ∨ op = 19 ∨ op = 20 ∨ op = 21 ∨ op = 25 then name t
 else if op = 16 then (Pp.read t).isSome && plain t 24 47
 else t.isEmpty
def many (op : Int) : Nat × Nat :=
 if op = 4 ∨ op = 5 ∨ op = 8 ∨ op = 16 ∨ op = 18 ∨ op = 19 then (1, 1)
 else if op = 9 ∨ op = 10 ∨ op = 11 ∨ op = 12 ∨ op = 13 ∨ op = 14 ∨ op = 15 ∨ op = 20 ∨ op = 21 then (2, 2)
 else if op = 17 then (1, 4)
 else if op = 22 then (2, 3)
 else if op = 24 then (0, 20)
 else (0, 0)
def ex (op : Int) : Bool := decide (1 ≤ op ∧ op ≤ 16)
def kid (ps : List Pi) (i : Nat) (x : Pi) (k : Nat) : Bool :=
 decide (0 ≤ x.kids.getD k 0 ∧ x.kids.getD k 0 ≤ (i : Int) - 1) &&
 !((decide (x.op = 24) || (decide (x.op = 22) && decide (0 < k))) == ex (ps.getD (x.kids.getD k 0).toNat Pi.no).op || (decide (x.op = 22) && decide ((ps.getD (x.kids.getD k 0).toNat Pi.no).op = 22)))
def node (ps : List Pi) (i : Nat) : Bool :=
 decide (1 ≤ (ps.getD i Pi.no).op ∧ (ps.getD i Pi.no).op ≤ 25) && text (ps.getD i Pi.no).op (ps.getD i Pi.no).text.data.toList && decide ((many (ps.getD i Pi.no).op).1 ≤ (ps.getD i Pi.no).kids.length ∧ (ps.getD i Pi.no).kids.length ≤ (many (ps.getD i Pi.no).op).2) &&
 (List.range (ps.getD i Pi.no).kids.length).all (kid ps i (ps.getD i Pi.no))
structure Rl where
 when : Int
 cond : Int
 act : Int
def Rl.no : Rl := ⟨0, 0, 0⟩
def rule (ps : List Pi) (r : Rl) : Bool :=
 decide (1 ≤ r.when ∧ r.when ≤ 3) && decide (0 ≤ r.act ∧ r.act ≤ (ps.length : Int) - 1) && decide ((ps.getD r.act.toNat Pi.no).op = 24) &&
 (decide (r.cond = -1) || (decide (r.when = 2) && decide (0 ≤ r.cond ∧ r.cond ≤ (ps.length : Int) - 1) && ex (ps.getD r.cond.toNat Pi.no).op))
def ok (ps : List Pi) (rs : List Rl) : Bool := decide (ps.length ≤ 200) && decide (rs.length ≤ 12) && (List.range ps.length).all (node ps) && rs.all (rule ps)
end Pg
open Go.RowKit
def RlsAt (w : World) (v : Value) (rs : List Pg.Rl) : Prop := ∃ (a : Option Addr) (c : Nat), v = .slice a rs.length c ∧
 (0 < rs.length → ∃ b o, a = some ⟨b, o, none⟩ ∧ b < w.heap.size ∧ ∀ i, i < rs.length → w.cell? ⟨b, o + i * 3, none⟩ = some (.int .i64 (rs.getD i Pg.Rl.no).when) ∧ w.cell? ⟨b, o + i * 3 + 1, none⟩ = some (.int .i64 (rs.getD i Pg.Rl.no).cond) ∧ w.cell? ⟨b, o + i * 3 + 2, none⟩ = some (.int .i64 (rs.getD i Pg.Rl.no).act))
theorem RlsAt.keep {w w' : World} {v : Value} {rs : List Pg.Rl} (h : RlsAt w v rs) (hb : Below w.heap.size w w') : RlsAt w' v rs := by
 obtain ⟨ka, kc, rfl, f⟩ := h
 refine ⟨ka, kc, rfl, fun h0 => ?_⟩
 obtain ⟨b, o, rfl, hl, hc⟩ := f h0
 exact ⟨b, o, rfl, Nat.lt_of_lt_of_le hl hb.size, fun i hi => ⟨(hb.cell hl).trans (hc i hi).1, (hb.cell hl).trans (hc i hi).2.1, (hb.cell hl).trans (hc i hi).2.2⟩⟩
end PartPgP
section PartPkA
namespace Pg
def kst (op : Int) (k : Nat) : Bool := decide (op = 24) || (decide (op = 22) && decide (0 < k))
def kops (op : Int) (os : List Int) : Bool := (List.range os.length).all fun k => !(kst op k == ex (os.getD k 0) || (decide (op = 22) && decide (os.getD k 0 = 22)))
def noIf (op o : Int) : Bool := !(decide (o = 22) && decide (op = 22))
def cnt (op : Int) : List Int → Nat → Nat → Option (Nat × Nat)
 | [], e, s => some (e, s)
 | o :: r, e, s => if ex o then (if s = 0 then cnt op r (e + 1) s else none) else if noIf op o then cnt op r e (s + 1) else none
def fits (op : Int) (e s : Nat) : Bool :=
 if op = 4 ∨ op = 5 ∨ op = 8 ∨ op = 16 ∨ op = 18 ∨ op = 19 then decide (e = 1) && decide (s = 0)
 else if op = 9 ∨ op = 10 ∨ op = 11 ∨ op = 12 ∨ op = 13 ∨ op = 14 ∨ op = 15 ∨ op = 20 ∨ op = 21 then decide (e = 2) && decide (s = 0)
 else if op = 17 then decide (1 ≤ e) && (decide (e ≤ 4) && decide (s = 0))
 else if op = 22 then decide (e = 1) && (decide (1 ≤ s) && decide (s ≤ 2))
 else if op = 24 then decide (e = 0) && decide (s ≤ 20)
 else decide (e = 0) && decide (s = 0)
def counted (op : Int) (os : List Int) : Bool := match cnt op os 0 0 with | none => false | some (e, s) => fits op e s
theorem cnt_behind (op : Int) : ∀ (os : List Int) (e s : Nat), 0 < s → cnt op os e s = if os.all (fun o => !ex o && noIf op o) then some (e, s + os.length) else none
 | [], e, s, _ => by simp [cnt]
 | o :: r, e, s, h => by
  rw [cnt]
  cases h1 : ex o
  ·cases h2 : noIf op o
   ·simp [h1, h2]
   ·simp only [Bool.false_eq_true, ↓reduceIte, cnt_behind op r e (s + 1) (by omega), List.all_cons, h1, h2, Bool.not_false, Bool.and_self, Bool.true_and, List.length_cons]
    rw [show s + 1 + r.length = s + (r.length + 1) by omega]
  ·simp [h1, show ¬ s = 0 by omega]
theorem cnt_ahead (op : Int) : ∀ (os : List Int) (e : Nat), cnt op os e 0 = if (os.dropWhile ex).all (fun o => !ex o && noIf op o) then some (e + (os.takeWhile ex).length, (os.dropWhile ex).length) else none
 | [], e => by simp [cnt]
 | o :: r, e => by
  rw [cnt]
  cases h1 : ex o
  ·cases h2 : noIf op o
   ·simp [h1, h2]
   ·simp only [Bool.false_eq_true, ↓reduceIte, cnt_behind op r e (0 + 1) (by omega), h1, h2, List.dropWhile_cons, List.takeWhile_cons, List.all_cons, Bool.not_false, Bool.and_self, Bool.true_and, List.length_cons, List.length_nil]
    rw [show 0 + 1 + r.length = r.length + 1 by omega]
    simp
  ·simp only [↓reduceIte, cnt_ahead op r (e + 1), h1, List.dropWhile_cons, List.takeWhile_cons, List.length_cons]
   rw [show e + 1 + (r.takeWhile ex).length = e + ((r.takeWhile ex).length + 1) by omega]
theorem td_len (os : List Int) : (os.takeWhile ex).length + (os.dropWhile ex).length = os.length := by
 rw [← List.length_append, List.takeWhile_append_dropWhile]
theorem drop_nil (os : List Int) : (os.dropWhile ex).length = 0 ↔ os.all ex = true := by
 rw [List.length_eq_zero_iff]
 induction os with
 | nil => simp
 | cons o r ih => cases h : ex o <;> simp [h, ih]
theorem take_nil (os : List Int) : (os.takeWhile ex).length = 0 → os.dropWhile ex = os := by
 intro h
 have h2 := List.takeWhile_append_dropWhile (p := ex) (l := os)
 rw [List.length_eq_zero_iff.1 h] at h2
 exact h2
theorem all_range (os : List Int) (p : Int → Bool) : ((List.range os.length).all fun k => p (os.getD k 0)) = os.all p := by
 rw [Bool.eq_iff_iff, List.all_eq_true, List.all_eq_true]
 constructor
 ·intro h o ho
  obtain ⟨k, hk, rfl⟩ := List.getElem_of_mem ho
  have := h k (List.mem_range.2 hk)
  simpa [hk] using this
 ·intro h k hk
  have hk := List.mem_range.1 hk
  have := h _ (List.getElem_mem hk)
  simpa [hk] using this
theorem counted_exs (op : Int) (os : List Int) (lo hi : Nat) (h22 : op ≠ 22) (h24 : op ≠ 24) (hf : ∀ e s, fits op e s = (decide (lo ≤ e ∧ e ≤ hi) && decide (s = 0))) : counted op os = (decide (lo ≤ os.length ∧ os.length ≤ hi) && kops op os) := by
 have hk : kops op os = os.all ex := by
  unfold kops
  rw [← all_range]
  congr 1
  funext k
  simp [kst, h22, h24]
 rw [hk, counted, cnt_ahead]
 have hl := td_len os
 have hd := drop_nil os
 cases ha : os.all ex
 ·rw [Bool.and_false]
  have hn : (os.dropWhile ex).length ≠ 0 := fun h => by rw [hd.1 h] at ha; cases ha
  split
  ·rfl
  ·rename_i e s h
   split at h
   ·simp at h
    rw [hf, ← h.2]
    simp [hn]
   ·cases h
 ·have hn := hd.2 ha
  rw [List.length_eq_zero_iff.1 hn] at hl ⊢
  simp at hl
  simp [hf, hl]
theorem counted_is (op : Int) (os : List Int) : counted op os = (decide ((many op).1 ≤ os.length ∧ os.length ≤ (many op).2) && kops op os) := by
 by_cases h1 : op = 4 ∨ op = 5 ∨ op = 8 ∨ op = 16 ∨ op = 18 ∨ op = 19
 ·rw [show many op = (1, 1) by simp only [many, if_pos h1]]
  refine counted_exs op os 1 1 (by omega) (by omega) fun e s => ?_
  simp only [fits, if_pos h1]
  congr 1
  exact decide_eq_decide.2 (by omega)
 by_cases h2 : op = 9 ∨ op = 10 ∨ op = 11 ∨ op = 12 ∨ op = 13 ∨ op = 14 ∨ op = 15 ∨ op = 20 ∨ op = 21
 ·rw [show many op = (2, 2) by simp only [many, if_neg h1, if_pos h2]]
  refine counted_exs op os 2 2 (by omega) (by omega) fun e s => ?_
  simp only [fits, if_neg h1, if_pos h2]
  congr 1
  exact decide_eq_decide.2 (by omega)
 by_cases h3 : op = 17
 ·rw [show many op = (1, 4) by simp only [many, if_neg h1, if_neg h2, if_pos h3]]
  refine counted_exs op os 1 4 (by omega) (by omega) fun e s => ?_
  simp only [fits, if_neg h1, if_neg h2, if_pos h3]
  by_cases q1 : 1 ≤ e <;> by_cases q2 : e ≤ 4 <;> simp [q1, q2]
 by_cases h4 : op = 22
 ·subst h4
  rw [show many 22 = (2, 3) by decide, counted, cnt_ahead]
  have hl := td_len os
  by_cases hlen : 2 ≤ os.length ∧ os.length ≤ 3
  ·rw [decide_eq_true hlen, Bool.true_and]
   have key : ∀ o : Int, ex o = true → o ≠ 22 := fun o h e => by subst e; exact absurd h (by decide)
   match os, hlen with
   | [a, b], _ =>
    cases ha : ex a <;> cases hb : ex b <;> by_cases ea : a = 22 <;> by_cases eb : b = 22 <;> first | (subst ea; exact absurd ha (by decide)) | simp_all [kops, kst, fits, noIf, List.range_succ, List.dropWhile, List.takeWhile]
   | [a, b, c], _ =>
    cases ha : ex a <;> cases hb : ex b <;> cases hc : ex c <;> by_cases ea : a = 22 <;> by_cases eb : b = 22 <;> by_cases ec : c = 22 <;> first | (subst ea; exact absurd ha (by decide)) | simp_all [kops, kst, fits, noIf, List.range_succ, List.dropWhile, List.takeWhile]
  ·rw [decide_eq_false hlen, Bool.false_and]
   split
   ·rfl
   ·rename_i e s h
    split at h
    ·simp at h
     simp [fits]
     omega
    ·cases h
 by_cases h5 : op = 24
 ·subst h5
  have hk : kops 24 os = os.all (fun o => !ex o) := by
   unfold kops
   rw [← all_range]
   congr 1
   funext k
   simp [kst]
  rw [show many 24 = (0, 20) by decide, counted, cnt_ahead, hk]
  have hl := td_len os
  by_cases ht : (os.takeWhile ex).length = 0
  ·rw [take_nil os ht, ht]
   have : (os.all fun o => !ex o && noIf 24 o) = os.all fun o => !ex o := by congr 1; funext o; simp [noIf]
   rw [this]
   cases os.all (fun o => !ex o)
   ·simp
   ·simp [fits]
  ·have hh : (os.all fun o => !ex o) = false := by
    match os, ht with
    | [], ht => simp at ht
    | a :: r, ht =>
     cases ha : ex a
     ·simp [List.takeWhile, ha] at ht
     ·simp [ha]
   rw [hh, Bool.and_false]
   split
   ·rfl
   ·rename_i e s h
    split at h
    ·simp at h
     simp [fits]
     omega
    ·cases h
 ·rw [show many op = (0, 0) by simp only [many, if_neg h1, if_neg h2, if_neg h3, if_neg h4, if_neg h5]]
  refine counted_exs op os 0 0 h4 h5 fun e s => ?_
  simp only [fits, if_neg h1, if_neg h2, if_neg h3, if_neg h4, if_neg h5]
  congr 1
  exact decide_eq_decide.2 (by omega)
def ahead (i : Nat) (ks : List Int) : Bool := ks.all fun z => decide (0 ≤ z ∧ z < (i : Int))
def opAt (ps : List Pi) (z : Int) : Int := (ps.getD z.toNat Pi.no).op
theorem all_and (l : List Nat) (p q : Nat → Bool) : l.all (fun k => p k && q k) = (l.all p && l.all q) := by
 induction l with
 | nil => rfl
 | cons a r ih => simp only [List.all_cons, ih]; cases p a <;> cases q a <;> cases r.all p <;> simp
theorem node_is (ps : List Pi) (i : Nat) (op : Int) (t : ByteArray) (ks : List Int) (h : ps.getD i Pi.no = ⟨op, t, ks⟩) : node ps i = (ahead i ks && (decide (1 ≤ op ∧ op ≤ 25) && (text op t.data.toList && counted op (ks.map (opAt ps))))) := by
 have hk : (List.range ks.length).all (kid ps i ⟨op, t, ks⟩) = (ahead i ks && kops op (ks.map (opAt ps))) := by
  have e : kid ps i ⟨op, t, ks⟩ = fun k => decide (0 ≤ ks.getD k 0 ∧ ks.getD k 0 ≤ (i : Int) - 1) && !(kst op k == ex (opAt ps (ks.getD k 0)) || (decide (op = 22) && decide (opAt ps (ks.getD k 0) = 22))) := by
   funext k
   rfl
  rw [e, all_and]
  congr 1
  ·rw [all_range ks (fun z => decide (0 ≤ z ∧ z ≤ (i : Int) - 1)), ahead]
   congr 1
   funext z
   exact decide_eq_decide.2 (by omega)
  ·unfold kops
   rw [List.length_map]
   rw [Bool.eq_iff_iff, List.all_eq_true, List.all_eq_true]
   have g : ∀ k, k ∈ List.range ks.length → (ks.map (opAt ps)).getD k 0 = opAt ps (ks.getD k 0) := by
    intro k hk
    have hk := List.mem_range.1 hk
    simp [hk]
   constructor
   ·intro hh k hm
    rw [g k hm]
    exact hh k hm
   ·intro hh k hm
    have := hh k hm
    rw [g k hm] at this
    exact this
 unfold node
 rw [h]
 simp only
 rw [hk, counted_is, List.length_map]
 cases ahead i ks <;> cases decide (1 ≤ op ∧ op ≤ 25) <;> cases text op t.data.toList <;> simp
end Pg
end PartPkA
section PartPgA
open Go.RowKit
set_option maxHeartbeats 400000 in
theorem sIn_any (x lo hi : Int) (w : World) : Calls Tryz.prog 51 #[.int .i64 x, .int .i64 lo, .int .i64 hi] w fun e w' => e = .returned (.bool (decide (lo ≤ x ∧ x ≤ hi))) ∧ w' = w := by
 by_cases h1 : lo ≤ x
 ·by_cases h2 : x ≤ hi
  ·have d1 : decide (lo ≤ x) = true := decide_eq_true h1
   have d2 : decide (x ≤ hi) = true := decide_eq_true h2
   have e : decide (lo ≤ x ∧ x ≤ hi) = true := decide_eq_true ⟨h1, h2⟩
   rw [e]; clear e h1 h2
   go_enter Tryz.func51, Tryz.ntmps51
   go_wp2
   go_ret
   exact ⟨rfl, rfl⟩
  ·have d1 : decide (lo ≤ x) = true := decide_eq_true h1
   have d2 : decide (x ≤ hi) = false := decide_eq_false h2
   have e : decide (lo ≤ x ∧ x ≤ hi) = false := decide_eq_false (fun k => h2 k.2)
   rw [e]; clear e h1 h2
   go_enter Tryz.func51, Tryz.ntmps51
   go_wp2
   go_ret
   exact ⟨rfl, rfl⟩
 ·have d1 : decide (lo ≤ x) = false := decide_eq_false h1
  have e : decide (lo ≤ x ∧ x ≤ hi) = false := decide_eq_false (fun k => h1 k.1)
  rw [e]; clear e h1
  go_enter Tryz.func51, Tryz.ntmps51
  go_wp2
  go_ret
  exact ⟨rfl, rfl⟩
theorem plain_no {s : ByteArray} {most : Nat} {m : UInt8} {j : Nat} (h : j < s.size) (hb : s[j] = m ∨ s[j] = 10) : Pg.plain s.data.toList most m = false := by
 have : s.data.toList.all (fun b => b != m && b != 10) = false := by
  rw [List.all_eq_false]
  refine ⟨s[j], ?_, ?_⟩
  ·show s.data[j] ∈ s.data.toList
   simp
  ·rcases hb with hb | hb <;> simp [hb]
 unfold Pg.plain
 rw [this]
 rfl
theorem plain_yes {s : ByteArray} {most : Nat} {m : UInt8} (h : ∀ j, ∀ h : j < s.size, s[j] ≠ m ∧ s[j] ≠ 10) : Pg.plain s.data.toList most m = decide (s.size ≤ most) := by
 have e : s.data.toList.all (fun b => b != m && b != 10) = true := by
  rw [List.all_eq_true]
  intro b hb
  obtain ⟨i, hi, rfl⟩ := List.mem_iff_getElem.1 hb
  have hi2 : i < s.size := by simpa using hi
  have := h i hi2
  rw [lst_at s i hi2]
  simp [this.1, this.2]
 unfold Pg.plain
 rw [e]
 simp
set_option maxHeartbeats 1000000 in
set_option maxRecDepth 100000 in
theorem spPlain (s : ByteArray) (most : Nat) (m : UInt8) (w : World) (hs : s.size ≤ 1048576) :
  Calls Tryz.prog 111 #[.string s, .int .i64 (most : Int), .int .u8 (m.toNat : Int)] w fun e w' => e = .returned (.bool (Pg.plain s.data.toList most m)) ∧ w' = w := by
 obtain ⟨V, hV⟩ : ∃ V, V = Pg.plain s.data.toList most m := ⟨_, rfl⟩
 rw [← hV]
 have HV : Hid (V = Pg.plain s.data.toList most m) := hV
 clear hV
 go_enter Tryz.func111, Tryz.ntmps111
 go_wp2
 go_loop [7] (fun i => ∃ j : Nat, i = .int .i64 (j : Int) ∧ j ≤ s.size ∧ Hid (∀ k, k < j → ∀ h : k < s.size, s[k] ≠ m ∧ s[k] ≠ 10)) (fun i => s.size - (intOf i).toNat)
 case atStart => exact ⟨0, rfl, by omega, fun k hk => by omega⟩
 case round =>
  obtain ⟨j, rfl, hj, HJ⟩ := hrel
  by_cases hlt : j < s.size
  ·have hi : (j : Int) < (s.size : Int) := by omega
   have d0 : decide ((j : Int) < (s.size : Int)) = true := decide_eq_true hi
   by_cases h1 : s[j] = m
   ·have d1 : ((s[j].toNat : Int) == (m.toNat : Int)) = true := by rw [h1]; simp
    have HF : Hid (V = false) := by show _ = _; rw [HV.out]; exact plain_no hlt (.inl h1)
    clear h1 HJ HV
    go_wp2
    go_ret
    exact ⟨by rw [HF.out]; rfl, rfl⟩
   ·have d1 : ((s[j].toNat : Int) == (m.toNat : Int)) = false := beq_eq_false_iff_ne.2 (fun e => h1 (UInt8.toNat_inj.1 (by omega)))
    by_cases h2 : s[j] = 10
    ·have d2 : ((s[j].toNat : Int) == 10) = true := by rw [h2]; rfl
     have HF : Hid (V = false) := by show _ = _; rw [HV.out]; exact plain_no hlt (.inr h2)
     clear h1 h2 HJ HV
     go_wp2
     go_ret
     exact ⟨by rw [HF.out]; rfl, rfl⟩
    ·have d2 : ((s[j].toNat : Int) == 10) = false := beq_eq_false_iff_ne.2 (fun e => h2 (UInt8.toNat_inj.1 (by show _ = 10; omega)))
     have HN : Hid (∀ k, k < j + 1 → ∀ h : k < s.size, s[k] ≠ m ∧ s[k] ≠ 10) := by
      intro k hk h
      by_cases e : k = j
      ·subst e; exact ⟨h1, h2⟩
      ·exact HJ.out k (by omega) h
     clear h1 h2 HJ HV
     go_wp2
     go_round
     case rel => exact ⟨j + 1, by go_num, by omega, HN.out⟩
     case measure => simp [intOf]; omega
  ·obtain rfl : j = s.size := by omega
   have d0 : decide ((s.size : Int) < (s.size : Int)) = false := decide_eq_false (by omega)
   have HF : Hid (V = decide (s.size ≤ most)) := by show _ = _; rw [HV.out]; exact plain_yes (fun k h => HJ.out k h h)
   clear HJ HV
   go_wp2
   go_ret
   refine ⟨?_, rfl⟩
   rw [HF.out]
   by_cases h : s.size ≤ most
   ·have d : decide ((s.size : Int) ≤ (most : Int)) = true := decide_eq_true (by omega)
    simp [h]
   ·simp [h]
end PartPgA
section PartPgB
open Go.RowKit
theorem name_word {s : ByteArray} (h : s.data.toList ∈ Pg.words) : Pg.name s.data.toList = false := by
 unfold Pg.name
 rw [List.contains_iff_mem.2 h]
 rfl
theorem name_no {s : ByteArray} {j : Nat} (h : j < s.size) (hl : Tk.letter s[j] = false) : Pg.name s.data.toList = false := by
 have : s.data.toList.all Tk.letter = false := by
  rw [List.all_eq_false]
  refine ⟨s[j], ?_, by rw [hl]; simp⟩
  show s.data[j] ∈ s.data.toList
  simp
 unfold Pg.name
 rw [this]
 simp
theorem name_yes {s : ByteArray} (hw : s.data.toList ∉ Pg.words) (h : ∀ j, ∀ h : j < s.size, Tk.letter s[j] = true) : Pg.name s.data.toList = decide ((1 : Int) ≤ (s.size : Int) ∧ (s.size : Int) ≤ 8) := by
 have e : s.data.toList.all Tk.letter = true := by
  rw [List.all_eq_true]
  intro b hb
  obtain ⟨i, hi, rfl⟩ := List.mem_iff_getElem.1 hb
  have hi2 : i < s.size := by simpa using hi
  exact h i hi2
 have e2 : Pg.words.contains s.data.toList = false := by
  cases hc : Pg.words.contains s.data.toList with
  | false => rfl
  | true => exact absurd (List.contains_iff_mem.1 hc) hw
 unfold Pg.name
 rw [e, e2]
 have e3 : s.data.toList.length = s.size := by simp
 rw [e3]
 by_cases h8 : 1 ≤ s.size ∧ s.size ≤ 8
 ·rw [decide_eq_true h8, decide_eq_true (by omega)]; rfl
 ·rw [decide_eq_false h8, decide_eq_false (by omega)]; rfl
set_option maxHeartbeats 2000000 in
set_option maxRecDepth 100000 in
theorem spName (s : ByteArray) (w : World) (hs : s.size ≤ 1048576) :
  Calls Tryz.prog 108 #[.string s] w fun e w' => e = .returned (.bool (Pg.name s.data.toList)) ∧ Below w.heap.size w w' := by
 obtain ⟨V, hV⟩ : ∃ V, V = Pg.name s.data.toList := ⟨_, rfl⟩
 rw [← hV]
 have HV : Hid (V = Pg.name s.data.toList) := hV
 have hsl : s.toList = s.data.toList := Lib.toList_data s
 clear hV
 have HW : Hid (∀ j, j < 10 → (w.alloc (.cells #[.string ⟨#[66, 69, 71, 73, 78]⟩, .string ⟨#[69, 78, 68]⟩, .string ⟨#[112, 114, 105, 110, 116]⟩, .string ⟨#[110, 101, 120, 116]⟩, .string ⟨#[100, 117, 109, 112]⟩, .string ⟨#[105, 102]⟩, .string ⟨#[101, 108, 115, 101]⟩, .string ⟨#[108, 101, 110, 103, 116, 104]⟩, .string ⟨#[78, 70]⟩, .string ⟨#[78, 82]⟩] 9)).cell? ⟨w.heap.size, j, none⟩ = some (.string ⟨(Pg.words.getD j []).toArray⟩)) := by
  intro j hj
  show (w.alloc (.cells (Pg.words.map fun t => Value.string ⟨t.toArray⟩).toArray 9)).cell? ⟨w.heap.size, j, none⟩ = _
  rw [blk_cell (heap_alloc_new w _)]
  have : j < Pg.words.length := hj
  simp [this]
 have HB : Hid (Below w.heap.size w (w.alloc (.cells #[.string ⟨#[66, 69, 71, 73, 78]⟩, .string ⟨#[69, 78, 68]⟩, .string ⟨#[112, 114, 105, 110, 116]⟩, .string ⟨#[110, 101, 120, 116]⟩, .string ⟨#[100, 117, 109, 112]⟩, .string ⟨#[105, 102]⟩, .string ⟨#[101, 108, 115, 101]⟩, .string ⟨#[108, 101, 110, 103, 116, 104]⟩, .string ⟨#[78, 70]⟩, .string ⟨#[78, 82]⟩] 9))) := (Below.refl _ _).alloc (Nat.le_refl _) _
 go_enter Tryz.func108, Tryz.ntmps108
 go_wp2
 generalize w.alloc (.cells #[.string ⟨#[66, 69, 71, 73, 78]⟩, .string ⟨#[69, 78, 68]⟩, .string ⟨#[112, 114, 105, 110, 116]⟩, .string ⟨#[110, 101, 120, 116]⟩, .string ⟨#[100, 117, 109, 112]⟩, .string ⟨#[105, 102]⟩, .string ⟨#[101, 108, 115, 101]⟩, .string ⟨#[108, 101, 110, 103, 116, 104]⟩, .string ⟨#[78, 70]⟩, .string ⟨#[78, 82]⟩] 9) = W at *
 go_loop [4] (fun i => ∃ j : Nat, i = .int .i64 (j : Int) ∧ j ≤ 10 ∧ Hid (∀ k, k < j → Pg.words.getD k [] ≠ s.data.toList)) (fun i => 10 - (intOf i).toNat)
 case atStart => exact ⟨0, rfl, by omega, fun k hk => by omega⟩
 case round =>
  obtain ⟨j, rfl, hj, HJ⟩ := hrel
  by_cases hlt : j < 10
  ·have hi : (j : Int) < 10 := by omega
   have d0 : decide ((j : Int) < 10) = true := decide_eq_true hi
   have x0 := HW.out j hlt
   obtain ⟨X, hX⟩ : ∃ X : ByteArray, X = ⟨(Pg.words.getD j []).toArray⟩ := ⟨_, rfl⟩
   have hXl : X.toList = Pg.words.getD j [] := by rw [hX, Lib.toList_data]
   rw [← hX] at x0
   by_cases he : Pg.words.getD j [] = s.data.toList
   ·have d1 : (X.toList == s.toList) = true := by rw [hXl, hsl, he]; simp
    have HF : Hid (V = false) := by
     show _ = _
     rw [HV.out]
     refine name_word ?_
     rw [← he]
     have : j < Pg.words.length := hlt
     rw [List.getD_eq_getElem?_getD, List.getElem?_eq_getElem this]
     exact List.getElem_mem _
    clear hX hXl he HJ HV hsl
    go_wp2
    go_ret
    exact ⟨by rw [HF.out]; rfl, HB.out⟩
   ·have d1 : (X.toList == s.toList) = false := by rw [hXl, hsl]; simpa using he
    have HN : Hid (∀ k, k < j + 1 → Pg.words.getD k [] ≠ s.data.toList) := by
     intro k hk
     by_cases e : k = j
     ·subst e; exact he
     ·exact HJ.out k (by omega)
    clear hX hXl he HJ HV hsl
    go_wp2
    go_round
    case rel => exact ⟨j + 1, by go_num, by omega, HN.out⟩
    case measure => simp [intOf]; omega
  ·obtain rfl : j = 10 := by omega
   have HNW : Hid (s.data.toList ∉ Pg.words) := by
    intro hm
    obtain ⟨i, hi, e⟩ := List.mem_iff_getElem.1 hm
    refine HJ.out i hi ?_
    rw [List.getD_eq_getElem?_getD, List.getElem?_eq_getElem hi]
    exact e
   clear HJ HW hsl
   go_wp2
   go_loop [5] (fun i => ∃ j : Nat, i = .int .i64 (j : Int) ∧ j ≤ s.size ∧ Hid (∀ k, k < j → ∀ h : k < s.size, Tk.letter s[k] = true)) (fun i => s.size - (intOf i).toNat)
   case atStart => exact ⟨0, rfl, by omega, fun k hk => by omega⟩
   case round =>
    obtain ⟨j, rfl, hj, HJ⟩ := hrel
    by_cases hlt : j < s.size
    ·have hi : (j : Int) < (s.size : Int) := by omega
     have d0 : decide ((j : Int) < (s.size : Int)) = true := decide_eq_true hi
     by_cases hl : Tk.letter s[j] = true
     ·have CJ : Hid (∀ w, Calls Tryz.prog 76 #[.int .u8 (s[j].toNat : Int)] w fun e w' => e = .returned (.bool true) ∧ w' = w) := by
       intro w
       have := spLetter s[j] w
       rwa [hl] at this
      have HN : Hid (∀ k, k < j + 1 → ∀ h : k < s.size, Tk.letter s[k] = true) := by
       intro k hk h
       by_cases e : k = j
       ·subst e; exact hl
       ·exact HJ.out k (by omega) h
      clear HJ hl HV
      go_wp2_with (go_at_call 76; refine (CJ.out _).mono ?_; rintro e w2 ⟨rfl, rfl⟩)
      go_round
      case rel => exact ⟨j + 1, by go_num, by omega, HN.out⟩
      case measure => simp [intOf]; omega
     ·have CJ : Hid (∀ w, Calls Tryz.prog 76 #[.int .u8 (s[j].toNat : Int)] w fun e w' => e = .returned (.bool false) ∧ w' = w) := by
       intro w
       have := spLetter s[j] w
       rwa [Bool.eq_false_iff.2 hl] at this
      have HF : Hid (V = false) := by show _ = _; rw [HV.out]; exact name_no hlt (Bool.eq_false_iff.2 hl)
      clear HJ hl HV
      go_wp2_with (go_at_call 76; refine (CJ.out _).mono ?_; rintro e w2 ⟨rfl, rfl⟩)
      go_ret
      exact ⟨by rw [HF.out]; rfl, HB.out⟩
    ·obtain rfl : j = s.size := by omega
     have d0 : decide ((s.size : Int) < (s.size : Int)) = false := decide_eq_false (by omega)
     have CI : Hid (∀ w, Calls Tryz.prog 51 #[.int .i64 (s.size : Int), .int .i64 1, .int .i64 8] w fun e w' => e = .returned (.bool V) ∧ w' = w) := by
      intro w
      have := sIn_any (s.size : Int) 1 8 w
      rwa [← name_yes HNW.out (fun k h => HJ.out k h h), ← HV.out] at this
     clear HJ HV HNW
     go_wp2_with (go_at_call 51; refine (CI.out _).mono ?_; rintro e w2 ⟨rfl, rfl⟩)
     go_ret
     exact ⟨rfl, HB.out⟩
end PartPgB
section PartPkN
open Go.RowKit
theorem take_all (p : UInt8 → Bool) : ∀ l : List UInt8, (l.takeWhile p).length = l.length ↔ l.all p = true
 | [] => by simp
 | b :: r => by
  cases h : p b
  ·simp [h]
  ·simp [h, take_all p r]
theorem row_same (p : UInt8 → Bool) (s : ByteArray) : ((tx (s.data.toList.take (Tk.run p s.data.toList 0))).toList == s.toList) = s.data.toList.all p := by
 rw [Lib.toList_data, Lib.toList_data]
 have e : Tk.run p s.data.toList 0 = (s.data.toList.takeWhile p).length := by simp [Tk.run]
 have e2 : (tx (s.data.toList.take (Tk.run p s.data.toList 0))).data.toList = s.data.toList.take (Tk.run p s.data.toList 0) := by simp
 rw [e2, e]
 generalize s.data.toList = l
 rw [Bool.eq_iff_iff, beq_iff_eq, ← take_all]
 constructor
 ·intro h
  have h2 := congrArg List.length h
  rw [List.length_take] at h2
  have := (List.takeWhile_prefix p (l := l)).length_le
  omega
 ·intro h
  rw [h, List.take_length]
set_option maxRecDepth 100000 in
set_option maxHeartbeats 1600000 in
theorem isOf_any (s : ByteArray) (w : World) : Calls Tryz.prog 142 #[.string s] w fun e w' => e = .returned (.bool (s.data.toList.all Tk.letter && decide (1 ≤ s.data.toList.length ∧ s.data.toList.length ≤ 8))) ∧ Below w.heap.size w w' := by
 obtain ⟨A, hA⟩ : ∃ A, A = s.data.toList.all Tk.letter := ⟨_, rfl⟩
 have hsl : s.data.toList.length = s.size := by simp
 obtain ⟨V, hV⟩ : ∃ V, V = (A && decide (1 ≤ s.size ∧ s.size ≤ 8)) := ⟨_, rfl⟩
 have HV : Hid (V = (A && decide (1 ≤ s.size ∧ s.size ≤ 8))) := hV
 obtain ⟨R, hR⟩ : ∃ R, R = tx (s.data.toList.take (Tk.run Tk.letter s.data.toList 0)) := ⟨_, rfl⟩
 have HRO : Hid (∀ w, Calls Tryz.prog 86 #[.string s, .string setLetters] w fun e w' => e = .returned (.string R) ∧ Below w.heap.size w w') := fun w => by rw [hR]; exact rowOf_any s setLetters Tk.letter w asc_letters letters_is
 have qR : (R.toList == s.toList) = A := by rw [hR, hA]; exact row_same _ _
 have hem : s.toList.isEmpty = decide (s.size = 0) := by
  rw [Lib.toList_data, ← hsl]
  cases s.data.toList <;> simp
 rw [hsl, ← hA, ← hV]
 clear hV hA hR hsl
 unfold setLetters at HRO
 by_cases h0 : s.size = 0
 ·have HRR : Hid (V = false) := HV.out.trans (by rw [decide_eq_false (by omega)]; exact Bool.and_false _)
  rw [decide_eq_true h0] at hem
  clear HV HRO qR h0
  go_enter Tryz.func142, Tryz.ntmps142
  go_wp2
  go_ret
  exact ⟨by rw [HRR.out]; rfl, Below.refl _ _⟩
 rw [decide_eq_false h0] at hem
 by_cases h8 : ¬ s.size ≤ 8
 ·have HRR : Hid (V = false) := HV.out.trans (by rw [decide_eq_false (by omega)]; exact Bool.and_false _)
  have d8 : decide ((s.size : Int) ≤ 8) = false := decide_eq_false (by omega)
  clear HV HRO qR h0 h8
  go_enter Tryz.func142, Tryz.ntmps142
  go_wp2
  go_ret
  exact ⟨by rw [HRR.out]; rfl, Below.refl _ _⟩
 have d8 : decide ((s.size : Int) ≤ 8) = true := decide_eq_true (by omega)
 have HV2 : Hid (V = A) := HV.out.trans (by rw [decide_eq_true (by omega)]; exact Bool.and_true _)
 clear HV h0 h8
 go_enter Tryz.func142, Tryz.ntmps142
 go_wp2_with fail
 refine (HRO.out _).mono ?_
 rintro e w1 ⟨rfl, hb1⟩
 clear HRO
 go_wp2
 go_ret
 exact ⟨by rw [HV2.out]; rfl, hb1⟩
end PartPkN
section PartPkB
open Go.RowKit
set_option maxHeartbeats 400000 in
theorem isEx_any (op : Int) (w : World) : Calls Tryz.prog 70 #[.int .i64 op] w fun e w' => e = .returned (.bool (Pg.ex op)) ∧ w' = w := by
 by_cases h1 : 1 ≤ op
 ·have d1 : decide ((1 : Int) ≤ op) = true := decide_eq_true h1
  have e : Pg.ex op = decide (op ≤ 16) := by unfold Pg.ex; exact decide_eq_decide.2 (by omega)
  rw [e]
  go_enter Tryz.func70, Tryz.ntmps70
  go_wp2
  go_ret
  exact ⟨rfl, rfl⟩
 ·have d1 : decide ((1 : Int) ≤ op) = false := decide_eq_false h1
  have e : Pg.ex op = false := decide_eq_false (by omega)
  rw [e]
  go_enter Tryz.func70, Tryz.ntmps70
  go_wp2
  go_ret
  exact ⟨rfl, rfl⟩
theorem words_is (s : ByteArray) : Pg.words.contains s.data.toList = ((s.toList == [66, 69, 71, 73, 78]) || (s.toList == [69, 78, 68]) || (s.toList == [112, 114, 105, 110, 116]) || (s.toList == [110, 101, 120, 116]) || (s.toList == [100, 117, 109, 112]) || (s.toList == [105, 102]) || (s.toList == [101, 108, 115, 101]) || (s.toList == [108, 101, 110, 103, 116, 104]) || (s.toList == [78, 70]) || (s.toList == [78, 82])) := by
 rw [Lib.toList_data]
 generalize s.data.toList = l
 simp only [Pg.words, List.contains_cons, List.contains_nil, Bool.or_false]
 simp only [Bool.or_assoc]
set_option maxHeartbeats 1600000 in
theorem isWord_any (s : ByteArray) (w : World) : Calls Tryz.prog 143 #[.string s] w fun e w' => e = .returned (.bool (Pg.words.contains s.data.toList)) ∧ w' = w := by
 obtain ⟨V, hV⟩ : ∃ V, V = Pg.words.contains s.data.toList := ⟨_, rfl⟩
 have HV : Hid (V = ((s.toList == [66, 69, 71, 73, 78]) || (s.toList == [69, 78, 68]) || (s.toList == [112, 114, 105, 110, 116]) || (s.toList == [110, 101, 120, 116]) || (s.toList == [100, 117, 109, 112]) || (s.toList == [105, 102]) || (s.toList == [101, 108, 115, 101]) || (s.toList == [108, 101, 110, 103, 116, 104]) || (s.toList == [78, 70]) || (s.toList == [78, 82]))) := by rw [hV]; exact words_is s
 rw [← hV]
 clear hV
 by_cases h0 : (s.toList == [66, 69, 71, 73, 78]) = true
 ·have HR : Hid (V = true) := HV.out.trans (by rw [h0]; simp)
  clear HV
  go_enter Tryz.func143, Tryz.ntmps143
  go_wp2
  go_ret
  exact ⟨by rw [HR.out]; rfl, rfl⟩
 replace h0 := Bool.eq_false_iff.2 h0
 by_cases h1 : (s.toList == [69, 78, 68]) = true
 ·have HR : Hid (V = true) := HV.out.trans (by rw [h1]; simp)
  clear HV
  go_enter Tryz.func143, Tryz.ntmps143
  go_wp2
  go_ret
  exact ⟨by rw [HR.out]; rfl, rfl⟩
 replace h1 := Bool.eq_false_iff.2 h1
 by_cases h2 : (s.toList == [112, 114, 105, 110, 116]) = true
 ·have HR : Hid (V = true) := HV.out.trans (by rw [h2]; simp)
  clear HV
  go_enter Tryz.func143, Tryz.ntmps143
  go_wp2
  go_ret
  exact ⟨by rw [HR.out]; rfl, rfl⟩
 replace h2 := Bool.eq_false_iff.2 h2
 by_cases h3 : (s.toList == [110, 101, 120, 116]) = true
 ·have HR : Hid (V = true) := HV.out.trans (by rw [h3]; simp)
  clear HV
  go_enter Tryz.func143, Tryz.ntmps143
  go_wp2
  go_ret
  exact ⟨by rw [HR.out]; rfl, rfl⟩
 replace h3 := Bool.eq_false_iff.2 h3
 by_cases h4 : (s.toList == [100, 117, 109, 112]) = true
 ·have HR : Hid (V = true) := HV.out.trans (by rw [h4]; simp)
  clear HV
  go_enter Tryz.func143, Tryz.ntmps143
  go_wp2
  go_ret
  exact ⟨by rw [HR.out]; rfl, rfl⟩
 replace h4 := Bool.eq_false_iff.2 h4
 by_cases h5 : (s.toList == [105, 102]) = true
 ·have HR : Hid (V = true) := HV.out.trans (by rw [h5]; simp)
  clear HV
  go_enter Tryz.func143, Tryz.ntmps143
  go_wp2
  go_ret
  exact ⟨by rw [HR.out]; rfl, rfl⟩
 replace h5 := Bool.eq_false_iff.2 h5
 by_cases h6 : (s.toList == [101, 108, 115, 101]) = true
 ·have HR : Hid (V = true) := HV.out.trans (by rw [h6]; simp)
  clear HV
  go_enter Tryz.func143, Tryz.ntmps143
  go_wp2
  go_ret
  exact ⟨by rw [HR.out]; rfl, rfl⟩
 replace h6 := Bool.eq_false_iff.2 h6
 by_cases h7 : (s.toList == [108, 101, 110, 103, 116, 104]) = true
 ·have HR : Hid (V = true) := HV.out.trans (by rw [h7]; simp)
  clear HV
  go_enter Tryz.func143, Tryz.ntmps143
  go_wp2
  go_ret
  exact ⟨by rw [HR.out]; rfl, rfl⟩
 replace h7 := Bool.eq_false_iff.2 h7
 by_cases h8 : (s.toList == [78, 70]) = true
 ·have HR : Hid (V = true) := HV.out.trans (by rw [h8]; simp)
  clear HV
  go_enter Tryz.func143, Tryz.ntmps143
  go_wp2
  go_ret
  exact ⟨by rw [HR.out]; rfl, rfl⟩
 replace h8 := Bool.eq_false_iff.2 h8
 by_cases h9 : (s.toList == [78, 82]) = true
 ·have HR : Hid (V = true) := HV.out.trans (by rw [h9]; simp)
  clear HV
  go_enter Tryz.func143, Tryz.ntmps143
  go_wp2
  go_ret
  exact ⟨by rw [HR.out]; rfl, rfl⟩
 replace h9 := Bool.eq_false_iff.2 h9
 have HR : Hid (V = false) := HV.out.trans (by rw [h0, h1, h2, h3, h4, h5, h6, h7, h8, h9]; rfl)
 clear HV
 go_enter Tryz.func143, Tryz.ntmps143
 go_wp2
 go_ret
 exact ⟨by rw [HR.out]; rfl, rfl⟩
set_option maxRecDepth 100000 in
set_option maxHeartbeats 1600000 in
theorem isName_any (s : ByteArray) (w : World) : Calls Tryz.prog 123 #[.string s] w fun e w' => e = .returned (.bool (Pg.name s.data.toList)) ∧ Below w.heap.size w w' := by
 obtain ⟨V, hV⟩ : ∃ V, V = Pg.name s.data.toList := ⟨_, rfl⟩
 obtain ⟨A, hA⟩ : ∃ A, A = (s.data.toList.all Tk.letter && decide (1 ≤ s.data.toList.length ∧ s.data.toList.length ≤ 8)) := ⟨_, rfl⟩
 obtain ⟨B, hB⟩ : ∃ B, B = Pg.words.contains s.data.toList := ⟨_, rfl⟩
 have HV : Hid (V = (!B && A)) := by rw [hV, hA, hB, Pg.name, Bool.and_assoc]; exact rfl
 have HW : Hid (∀ w, Calls Tryz.prog 143 #[.string s] w fun e w' => e = .returned (.bool B) ∧ w' = w) := fun w => by rw [hB]; exact isWord_any s w
 have HO : Hid (∀ w, Calls Tryz.prog 142 #[.string s] w fun e w' => e = .returned (.bool A) ∧ Below w.heap.size w w') := fun w => by rw [hA]; exact isOf_any s w
 rw [← hV]
 clear hV hA hB
 cases A
 ·have HRR : Hid (V = false) := HV.out.trans (Bool.and_false _)
  clear HV HW
  go_enter Tryz.func123, Tryz.ntmps123
  go_wp2_with fail
  refine (HO.out _).mono ?_
  rintro e w1 ⟨rfl, hb1⟩
  clear HO
  go_wp2
  go_ret
  exact ⟨by rw [HRR.out]; rfl, hb1⟩
 ·have HRR : Hid (V = !B) := HV.out.trans (Bool.and_true _)
  clear HV
  go_enter Tryz.func123, Tryz.ntmps123
  go_wp2_with fail
  refine (HO.out _).mono ?_
  rintro e w1 ⟨rfl, hb1⟩
  clear HO
  go_wp2_with fail
  refine (HW.out _).mono ?_
  rintro e w2 ⟨rfl, hw2⟩
  rw [hw2]
  clear HW hw2
  go_wp2
  go_ret
  exact ⟨by rw [HRR.out]; rfl, hb1⟩
set_option maxHeartbeats 800000 in
theorem opAt_any (v : Value) (ps : List Pi) (z : Int) (w : World) (h : PcsAt w v ps) (hl : ps.length ≤ 1048576) :
  Calls Tryz.prog 98 #[v, .int .i64 z] w fun e w' => e = .returned (.int .i64 (if 0 ≤ z ∧ z < (ps.length : Int) then Pg.opAt ps z else 0)) ∧ Below w.heap.size w w' := by
 obtain ⟨a, c, rfl, f⟩ := h
 by_cases h0 : z < 0
 ·have d0 : decide (z < 0) = true := decide_eq_true h0
  rw [if_neg (by omega)]
  clear f
  go_enter Tryz.func98, Tryz.ntmps98
  go_wp2
  go_ret
  exact ⟨rfl, Below.refl _ _⟩
 have d0 : decide (z < 0) = false := decide_eq_false h0
 by_cases h1 : (ps.length : Int) ≤ z
 ·have d1 : decide ((ps.length : Int) ≤ z) = true := decide_eq_true h1
  rw [if_neg (by omega)]
  clear f
  go_enter Tryz.func98, Tryz.ntmps98
  go_wp2
  go_ret
  exact ⟨rfl, Below.refl _ _⟩
 have d1 : decide ((ps.length : Int) ≤ z) = false := decide_eq_false h1
 rw [if_pos (by omega)]
 obtain ⟨k, rfl⟩ : ∃ k : Nat, z = (k : Int) := ⟨z.toNat, by omega⟩
 obtain ⟨b, o, rfl, hb, hp⟩ := f (by omega)
 obtain ⟨kv, p0, -, -, -⟩ := hp k (by omega)
 have e : Pg.opAt ps (k : Int) = (ps.getD k Pi.no).op := rfl
 rw [e]
 generalize (ps.getD k Pi.no).op = X at *
 have i1 : (k : Int) < (ps.length : Int) := by omega
 generalize ps.length = n at *
 clear hp f e
 go_enter Tryz.func98, Tryz.ntmps98
 go_wp2
 go_ret
 exact ⟨rfl, Below.refl _ _⟩
end PartPkB
end Go.Proofs.YtkfkbdgfnopokaaGreatDoor
