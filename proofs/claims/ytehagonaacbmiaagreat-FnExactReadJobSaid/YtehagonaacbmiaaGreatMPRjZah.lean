/- A job: when it is right. Plain facts, without the program: what is a number among texts, the number of a text, what is cut of it, and the fields of a line. Plain facts: when a program is right. The specification of Tokens: letters, figures, what stands between two marks. -/
import Derived.Test.YtehagonaacbmiaaGreatMPRjZaf
import Derived.Test.YtehagonaacbmiaaGreatMPRjZag
import Derived.Test.YtehagonaacbmiaaGreatMPRjZaa
import Derived.Test.YtehagonaacbmiaaGreatMPRjZab
namespace Go.Proofs.YtehagonaacbmiaaGreat
section PartJbA
open Go.RowKit

/-- A job, plain. -/
structure Jb where
  ts : List ByteArray
  xs : List Ins
  bg : Int
  ln : Int
  en : Int
  vs : List Vr
  cs : List Cl
  o : ByteArray
  ns : List ByteArray
  ls : List ByteArray
namespace Jb
def okN (j : Jb) (i : Nat) : Bool := Cd.nm (j.ns.getD i ByteArray.empty).data.toList
def okL (j : Jb) (i : Nat) : Bool := decide ((j.ls.getD i ByteArray.empty).size ≤ 200)
/-- When it is right. -/
def ok (j : Jb) : Bool := (List.range j.ns.length).all j.okN && ((List.range j.ls.length).all j.okL && (Cd.ok j.ts j.xs j.bg j.ln j.en && (St.ok j.vs j.cs j.o && (decide (j.ns.length ≤ 20) && decide (j.ls.length ≤ 20)))))
/-- The cells of a job. -/
def cells (tv lv u x nv mv : Value) (j : Jb) : Array Value := #[tv, lv, .int .i64 j.bg, .int .i64 j.ln, .int .i64 j.en, u, x, .string j.o, nv, mv]
structure At (w : World) (tv lv u x nv mv : Value) (j : Jb) : Prop where
  t : TsAt w tv j.ts
  l : InsAt w lv j.xs
  u : VrAt w u j.vs
  x : ClAt w x j.cs
  n : TsAt w nv j.ns
  m : TsAt w mv j.ls
theorem At.keep {w w' : World} {tv lv u x nv mv : Value} {j : Jb} (h : At w tv lv u x nv mv j) (hb : Below w.heap.size w w') : At w' tv lv u x nv mv j :=
  ⟨h.t.keep hb, h.l.keep hb, h.u.keep hb, h.x.keep hb, h.n.keep hb, h.m.keep hb⟩
/-- A job that is not great. -/
structure Sm (j : Jb) : Prop where
  t : TsSmall j.ts j.ts.length
  tl : j.ts.length ≤ 1048576
  xl : j.xs.length ≤ 1048576
  s : StSmall j.vs j.cs j.o
  n : TsSmall j.ns j.ns.length
  nl : j.ns.length ≤ 1048576
  m : TsSmall j.ls j.ls.length
  ml : j.ls.length ≤ 1048576
theorem ok_noN {j : Jb} {i : Nat} (hi : i < j.ns.length) (h : j.okN i = false) : j.ok = false := by
  unfold ok
  rw [show (List.range j.ns.length).all j.okN = false from List.all_eq_false.2 ⟨i, List.mem_range.2 hi, by rw [h]; simp⟩]
  rfl
theorem ok_noL {j : Jb} {i : Nat} (hi : i < j.ls.length) (h : j.okL i = false) : j.ok = false := by
  unfold ok
  rw [show (List.range j.ls.length).all j.okL = false from List.all_eq_false.2 ⟨i, List.mem_range.2 hi, by rw [h]; simp⟩]
  simp
theorem ok_rest {j : Jb} (h1 : ∀ i, i < j.ns.length → j.okN i = true) (h2 : ∀ i, i < j.ls.length → j.okL i = true) : j.ok = (Cd.ok j.ts j.xs j.bg j.ln j.en && (St.ok j.vs j.cs j.o && (decide (j.ns.length ≤ 20) && decide (j.ls.length ≤ 20)))) := by
  unfold ok
  rw [List.all_eq_true.2 fun q hq => h1 q (List.mem_range.1 hq), List.all_eq_true.2 fun q hq => h2 q (List.mem_range.1 hq)]
  simp
end Jb

theorem hidOfJ {p : Prop} (h : p) : Hid p := h
end PartJbA
section PartPV
namespace Pv

/-- Is it a figure? -/
def fg (b : UInt8) : Bool := decide (48 ≤ b.toNat ∧ b.toNat ≤ 57)
/-- Is it a number: one to six figures, and nothing else? -/
def isn (l : List UInt8) : Bool := l.all fg && decide (1 ≤ l.length ∧ l.length ≤ 6)
/-- The number that n grows to by the figures ahead. -/
def num : Nat → List UInt8 → Nat
  | n, [] => n
  | n, b :: r => if fg b then num ((n * 10 + (b.toNat - 48)) % 1000000) r else n
theorem drop_at (s : ByteArray) (k : Nat) (h : k < s.size) : s.data.toList.drop k = s[k] :: s.data.toList.drop (k + 1) := by
  rw [List.drop_eq_getElem_cons (by simpa using h)]; rfl
theorem drop_end (s : ByteArray) (k : Nat) (h : s.size ≤ k) : s.data.toList.drop k = [] := List.drop_of_length_le (by simpa using h)
/-- What is cut of a text. -/
def cut (l : List UInt8) : List UInt8 := l.take 40
/-- Does it part fields? -/
def gap (b : UInt8) : Bool := decide (b.toNat = 32 ∨ b.toNat = 9)
/-- The parts of what is left, cur being read already. -/
def fld : List UInt8 → List UInt8 → List (List UInt8)
  | cur, [] => if cur = [] then [] else [cut cur]
  | cur, b :: r => if gap b then (if cur = [] then fld [] r else cut cur :: fld [] r) else fld (cur ++ [b]) r
/-- The fields of a line. -/
def flds (l : List UInt8) : List (List UInt8) := (fld [] l).take 20
theorem fld_end (cur : List UInt8) (h : cur ≠ []) : fld cur [] = [cut cur] := by rw [fld, if_neg h]
theorem fld_end0 : fld [] [] = [] := rfl
theorem fld_gap (cur : List UInt8) (h : cur ≠ []) (b : UInt8) (hb : gap b = true) (r : List UInt8) : fld cur (b :: r) = cut cur :: fld [] r := by rw [fld, if_pos hb, if_neg h]
theorem fld_gap0 (b : UInt8) (hb : gap b = true) (r : List UInt8) : fld [] (b :: r) = fld [] r := by rw [fld, if_pos hb, if_pos rfl]
theorem cur_ne (s : ByteArray) (p k : Nat) (hp : p < k) (h : k ≤ s.size) : (s.data.toList.drop p).take (k - p) ≠ [] := by
  intro e
  have := congrArg List.length e
  simp at this
  omega
theorem cur_nil (s : ByteArray) (k : Nat) : (s.data.toList.drop k).take (k - k) = [] := by simp

/-- What is held at a round's head: ws are the fields that are done (no more than twenty), the next one begins at p, k signs are read. -/
structure At (s : ByteArray) (k p : Nat) (ws : List (List UInt8)) : Prop where
  inside : k ≤ s.size → p ≤ k ∧ (ws ++ fld ((s.data.toList.drop p).take (k - p)) (s.data.toList.drop k)).take 20 = flds s.data.toList
  over : s.size < k → ws = flds s.data.toList
  few : ws.length ≤ 20
theorem At.start (s : ByteArray) : At s 0 0 [] := ⟨fun _ => ⟨Nat.le_refl _, rfl⟩, fun h => by omega, by simp⟩
theorem At.gap {s : ByteArray} {k p : Nat} {ws : List (List UInt8)} (h : At s k p ws) (hk : k < s.size) (hb : s[k].toNat = 32 ∨ s[k].toNat = 9) :
    (p < k → ws.length < 20 → At s (k + 1) (k + 1) (ws ++ [cut ((s.data.toList.drop p).take (k - p))])) ∧ (p < k → 20 ≤ ws.length → At s (k + 1) (k + 1) ws) ∧ (¬ p < k → At s (k + 1) (k + 1) ws) := by
  obtain ⟨i1, i2⟩ := h.inside (by omega)
  have hg : Pv.gap s[k] = true := decide_eq_true hb
  refine ⟨fun hp hw => ?_, fun hp hw => ?_, fun hp => ?_⟩
  · refine ⟨fun _ => ⟨Nat.le_refl _, ?_⟩, fun ho => by omega, by simp; omega⟩
    rw [← i2, drop_at s k hk, fld_gap _ (cur_ne s p k hp (by omega)) _ hg, cur_nil]
    simp
  · have hw2 : ws.length = 20 := by have := h.few; omega
    refine ⟨fun _ => ⟨Nat.le_refl _, ?_⟩, fun ho => by omega, h.few⟩
    rw [← i2, List.take_append_of_le_length (by omega), List.take_append_of_le_length (by omega)]
  · obtain rfl : p = k := by omega
    refine ⟨fun _ => ⟨Nat.le_refl _, ?_⟩, fun ho => by omega, h.few⟩
    rw [← i2, cur_nil, cur_nil, drop_at s p hk, fld_gap0 _ hg]
theorem At.last {s : ByteArray} {k p : Nat} {ws : List (List UInt8)} (h : At s k p ws) (hk : k = s.size) :
    (p < k → ws.length < 20 → At s (k + 1) (k + 1) (ws ++ [cut ((s.data.toList.drop p).take (k - p))])) ∧ (p < k → 20 ≤ ws.length → At s (k + 1) (k + 1) ws) ∧ (¬ p < k → At s (k + 1) (k + 1) ws) := by
  obtain ⟨i1, i2⟩ := h.inside (by omega)
  have hd : s.data.toList.drop k = [] := drop_end s k (by omega)
  rw [hd] at i2
  refine ⟨fun hp hw => ?_, fun hp hw => ?_, fun hp => ?_⟩
  · refine ⟨fun ho => by omega, fun _ => ?_, by simp; omega⟩
    rw [← i2, fld_end _ (cur_ne s p k hp (by omega))]
    exact (List.take_of_length_le (by rw [List.length_append, List.length_singleton]; omega)).symm
  · have hw2 : ws.length = 20 := by have := h.few; omega
    refine ⟨fun ho => by omega, fun _ => ?_, h.few⟩
    rw [← i2, List.take_append_of_le_length (by omega), List.take_of_length_le (by omega)]
  · obtain rfl : p = k := by omega
    refine ⟨fun ho => by omega, fun _ => ?_, h.few⟩
    rw [← i2, cur_nil, fld_end0, List.append_nil, List.take_of_length_le h.few]
end Pv
end PartPV
section PartPgP
namespace Pg

/-- The words that are no names. -/
def words : List (List UInt8) := [[66, 69, 71, 73, 78], [69, 78, 68], [112, 114, 105, 110, 116], [110, 101, 120, 116], [100, 117, 109, 112], [105, 102], [101, 108, 115, 101], [108, 101, 110, 103, 116, 104], [78, 70], [78, 82]]
def name (t : List UInt8) : Bool := !(words.contains t) && t.all Tk.letter && decide (1 ≤ t.length ∧ t.length ≤ 8)
def plain (t : List UInt8) (most : Nat) (m : UInt8) : Bool := t.all (fun b => b != m && b != 10) && decide (t.length ≤ most)
/-- Is the text as its op wants it? -/
def text (op : Int) (t : List UInt8) : Bool :=
  if op = 1 then Pv.isn t
  else if op = 2 then plain t 30 34
  else if op = 3 ∨ op = 4 ∨ op = 18 ∨ op = 19 ∨ op = 20 ∨ op = 21 ∨ op = 25 then name t
  else if op = 16 then (Pp.read t).isSome && plain t 24 47
  else t.isEmpty
/-- How many kids at least and at most. -/
def many (op : Int) : Nat × Nat :=
  if op = 4 ∨ op = 5 ∨ op = 8 ∨ op = 16 ∨ op = 18 ∨ op = 19 then (1, 1)
  else if op = 9 ∨ op = 10 ∨ op = 11 ∨ op = 12 ∨ op = 13 ∨ op = 14 ∨ op = 15 ∨ op = 20 ∨ op = 21 then (2, 2)
  else if op = 17 then (1, 4)
  else if op = 22 then (2, 3)
  else if op = 24 then (0, 20)
  else (0, 0)
def ex (op : Int) : Bool := decide (1 ≤ op ∧ op ≤ 16)
/-- Is kid number k of node i, x, as it must be? -/
def kid (ps : List Pi) (i : Nat) (x : Pi) (k : Nat) : Bool :=
  decide (0 ≤ x.kids.getD k 0 ∧ x.kids.getD k 0 ≤ (i : Int) - 1) &&
  !((decide (x.op = 24) || (decide (x.op = 22) && decide (0 < k))) == ex (ps.getD (x.kids.getD k 0).toNat Pi.no).op || (decide (x.op = 22) && decide ((ps.getD (x.kids.getD k 0).toNat Pi.no).op = 22)))
def node (ps : List Pi) (i : Nat) : Bool :=
  decide (1 ≤ (ps.getD i Pi.no).op ∧ (ps.getD i Pi.no).op ≤ 25) && text (ps.getD i Pi.no).op (ps.getD i Pi.no).text.data.toList && decide ((many (ps.getD i Pi.no).op).1 ≤ (ps.getD i Pi.no).kids.length ∧ (ps.getD i Pi.no).kids.length ≤ (many (ps.getD i Pi.no).op).2) &&
  (List.range (ps.getD i Pi.no).kids.length).all (kid ps i (ps.getD i Pi.no))
/-- A rule: when, if, do. -/
structure Rl where
  when : Int
  cond : Int
  act : Int
def Rl.no : Rl := ⟨0, 0, 0⟩
def rule (ps : List Pi) (r : Rl) : Bool :=
  decide (1 ≤ r.when ∧ r.when ≤ 3) && decide (0 ≤ r.act ∧ r.act ≤ (ps.length : Int) - 1) && decide ((ps.getD r.act.toNat Pi.no).op = 24) &&
  (decide (r.cond = -1) || (decide (r.when = 2) && decide (0 ≤ r.cond ∧ r.cond ≤ (ps.length : Int) - 1) && ex (ps.getD r.cond.toNat Pi.no).op))
def ok (ps : List Pi) (rs : List Rl) : Bool := decide (ps.length ≤ 200) && decide (rs.length ≤ 12) && (List.range ps.length).all (node ps) && rs.all (rule ps)
end Pg
open Go.RowKit

/-- The slice v leads to the rules rs. -/
def RlsAt (w : World) (v : Value) (rs : List Pg.Rl) : Prop := ∃ (a : Option Addr) (c : Nat), v = .slice a rs.length c ∧
  (0 < rs.length → ∃ b o, a = some ⟨b, o, none⟩ ∧ b < w.heap.size ∧ ∀ i, i < rs.length → w.cell? ⟨b, o + i * 3, none⟩ = some (.int .i64 (rs.getD i Pg.Rl.no).when) ∧ w.cell? ⟨b, o + i * 3 + 1, none⟩ = some (.int .i64 (rs.getD i Pg.Rl.no).cond) ∧ w.cell? ⟨b, o + i * 3 + 2, none⟩ = some (.int .i64 (rs.getD i Pg.Rl.no).act))
theorem RlsAt.keep {w w' : World} {v : Value} {rs : List Pg.Rl} (h : RlsAt w v rs) (hb : Below w.heap.size w w') : RlsAt w' v rs := by
  obtain ⟨ka, kc, rfl, f⟩ := h
  refine ⟨ka, kc, rfl, fun h0 => ?_⟩
  obtain ⟨b, o, rfl, hl, hc⟩ := f h0
  exact ⟨b, o, rfl, Nat.lt_of_lt_of_le hl hb.size, fun i hi => ⟨(hb.cell hl).trans (hc i hi).1, (hb.cell hl).trans (hc i hi).2.1, (hb.cell hl).trans (hc i hi).2.2⟩⟩

end PartPgP
section PartTkA
open Go.RowKit

set_option maxHeartbeats 1000000 in
theorem spLetter (c : UInt8) (w : World) : Calls Tryz.prog 48 #[.int .u8 (c.toNat : Int)] w fun e w' => e = .returned (.bool (Tk.letter c)) ∧ w' = w := by
  obtain ⟨z, hz⟩ : ∃ z, z = c.toNat := ⟨_, rfl⟩
  have h256 : c.toNat < 256 := c.toNat_lt
  rw [← hz] at h256
  have HL : Hid (Tk.letter c = ((decide (97 ≤ z) && decide (z ≤ 122)) || (decide (65 ≤ z) && decide (z ≤ 90)))) := by rw [hz]; rfl
  rw [← hz]
  clear hz
  rcases (show z < 65 ∨ (65 ≤ z ∧ z ≤ 90) ∨ (90 < z ∧ z < 97) ∨ (97 ≤ z ∧ z ≤ 122) ∨ 122 < z by omega) with h | h | h | h | h
  · have e : Tk.letter c = false := by rw [HL.out]; simp; omega
    rw [e]; clear e HL
    have d1 : decide ((97 : Int) ≤ (z : Int)) = false := by simp; omega
    have d2 : decide ((z : Int) ≤ 122) = true := by simp; omega
    have d3 : decide ((65 : Int) ≤ (z : Int)) = false := by simp; omega
    have d4 : decide ((z : Int) ≤ 90) = true := by simp; omega
    go_enter Tryz.func48, Tryz.ntmps48
    go_wp2
    go_ret
    exact ⟨rfl, rfl⟩
  · have e : Tk.letter c = true := by rw [HL.out]; simp; omega
    rw [e]; clear e HL
    have d1 : decide ((97 : Int) ≤ (z : Int)) = false := by simp; omega
    have d2 : decide ((z : Int) ≤ 122) = true := by simp; omega
    have d3 : decide ((65 : Int) ≤ (z : Int)) = true := by simp; omega
    have d4 : decide ((z : Int) ≤ 90) = true := by simp; omega
    go_enter Tryz.func48, Tryz.ntmps48
    go_wp2
    go_ret
    exact ⟨rfl, rfl⟩
  · have e : Tk.letter c = false := by rw [HL.out]; simp; omega
    rw [e]; clear e HL
    have d1 : decide ((97 : Int) ≤ (z : Int)) = false := by simp; omega
    have d2 : decide ((z : Int) ≤ 122) = true := by simp; omega
    have d3 : decide ((65 : Int) ≤ (z : Int)) = true := by simp; omega
    have d4 : decide ((z : Int) ≤ 90) = false := by simp; omega
    go_enter Tryz.func48, Tryz.ntmps48
    go_wp2
    go_ret
    exact ⟨rfl, rfl⟩
  · have e : Tk.letter c = true := by rw [HL.out]; simp; omega
    rw [e]; clear e HL
    have d1 : decide ((97 : Int) ≤ (z : Int)) = true := by simp; omega
    have d2 : decide ((z : Int) ≤ 122) = true := by simp; omega
    have d3 : decide ((65 : Int) ≤ (z : Int)) = true := by simp; omega
    have d4 : decide ((z : Int) ≤ 90) = false := by simp; omega
    go_enter Tryz.func48, Tryz.ntmps48
    go_wp2
    go_ret
    exact ⟨rfl, rfl⟩
  · have e : Tk.letter c = false := by rw [HL.out]; simp; omega
    rw [e]; clear e HL
    have d1 : decide ((97 : Int) ≤ (z : Int)) = true := by simp; omega
    have d2 : decide ((z : Int) ≤ 122) = false := by simp; omega
    have d3 : decide ((65 : Int) ≤ (z : Int)) = true := by simp; omega
    have d4 : decide ((z : Int) ≤ 90) = false := by simp; omega
    go_enter Tryz.func48, Tryz.ntmps48
    go_wp2
    go_ret
    exact ⟨rfl, rfl⟩

theorem lst_at (s : ByteArray) (j : Nat) (h : j < s.size) : s.data.toList[j]'(by simpa using h) = s[j] := rfl
theorem lst_some (s : ByteArray) (j : Nat) (h : j < s.size) : s.data.toList[j]? = some s[j] := by
  rw [List.getElem?_eq_getElem (by simpa using h)]
  rfl
theorem lst_getD (s : ByteArray) (j : Nat) (h : j < s.size) : s.data.toList.getD j 0 = s[j] := by
  rw [List.getD_eq_getElem?_getD, lst_some s j h]
  rfl

end PartTkA
end Go.Proofs.YtehagonaacbmiaaGreat
