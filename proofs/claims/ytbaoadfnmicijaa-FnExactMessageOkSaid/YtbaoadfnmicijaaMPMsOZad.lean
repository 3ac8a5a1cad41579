/- Plain facts: when code is right. Plain facts, without the program: what is a number among texts, the number of a text, what is cut of it, and the fields of a line. Plain facts: when a program is right. -/
import Derived.Test.YtbaoadfnmicijaaMPMsOZab
import Derived.Test.YtbaoadfnmicijaaMPMsOZac
namespace Go.Proofs.Ytbaoadfnmicijaa
section PartCdP
namespace Cd

/-- 1 to 8 letters. -/
def nm (t : List UInt8) : Bool := t.all Tk.letter && decide (1 ≤ t.length ∧ t.length ≤ 8)
def text (ts : List ByteArray) (a : Int) : ByteArray := ts.getD a.toNat ByteArray.empty
/-- Is the arg of an instruction at a place right? -/
def arg (ts : List ByteArray) (x : Ins) (a : Int) (to : Int) : Bool :=
  if x.op = 1 then decide (x.arg < (ts.length : Int))
  else if x.op = 15 then decide (x.arg < (ts.length : Int)) && (Pp.read (text ts x.arg).data.toList).isSome
  else if x.op = 2 ∨ x.op = 3 ∨ x.op = 17 ∨ x.op = 18 ∨ x.op = 19 ∨ x.op = 20 ∨ x.op = 24 then decide (x.arg < (ts.length : Int)) && nm (text ts x.arg).data.toList
  else if x.op = 16 then decide (1 ≤ x.arg ∧ x.arg ≤ 4)
  else if x.op = 21 ∨ x.op = 22 then decide (a < x.arg) && decide (x.arg ≤ to)
  else decide (x.arg = 0)
def ins (ts : List ByteArray) (x : Ins) (a : Int) (to : Int) : Bool := decide (1 ≤ x.op ∧ x.op ≤ 24) && decide (0 ≤ x.arg ∧ x.arg ≤ 255) && arg ts x a to
/-- How many it takes, and how many it puts. -/
def needs (x : Ins) : Int × Int :=
  if x.op = 1 ∨ x.op = 2 ∨ x.op = 5 ∨ x.op = 6 then (0, 1)
  else if x.op = 3 ∨ x.op = 4 ∨ x.op = 7 ∨ x.op = 15 then (1, 1)
  else if x.op = 8 ∨ x.op = 9 ∨ x.op = 10 ∨ x.op = 11 ∨ x.op = 12 ∨ x.op = 13 ∨ x.op = 14 then (2, 1)
  else if x.op = 16 then (x.arg, 0)
  else if x.op = 17 ∨ x.op = 18 ∨ x.op = 21 then (1, 0)
  else if x.op = 19 ∨ x.op = 20 then (2, 0)
  else (0, 0)
/-- Where it goes on. -/
def next (x : Ins) (a : Nat) : List Nat := (if x.op = 23 ∨ x.op = 22 then [] else [a + 1]) ++ (if x.op = 21 ∨ x.op = 22 then [x.arg.toNat] else [])
/-- The height n is told of each of these places, unless one has another. -/
def mark (hs : List Int) (n : Int) : List Nat → Option (List Int)
  | [] => some hs
  | k :: ks => if 0 ≤ hs.getD k (-1) ∧ hs.getD k (-1) ≠ n then none else mark (hs.set k n) n ks
/-- The specification's round. -/
def loopS (ts : List ByteArray) (xs : List Ins) (to : Nat) : Nat → Nat → List Int → Bool
  | 0, _, hs => decide (hs.getD to (-1) ≤ 0)
  | f + 1, a, hs =>
    if ins ts (xs.getD a Ins.no) (a : Int) (to : Int) = false then false
    else if hs.getD a (-1) < 0 then loopS ts xs to f (a + 1) hs
    else if hs.getD a (-1) < (needs (xs.getD a Ins.no)).1 ∨ 20 < hs.getD a (-1) - (needs (xs.getD a Ins.no)).1 + (needs (xs.getD a Ins.no)).2 then false
    else match mark hs (hs.getD a (-1) - (needs (xs.getD a Ins.no)).1 + (needs (xs.getD a Ins.no)).2) (next (xs.getD a Ins.no) a) with
      | none => false
      | some hs' => loopS ts xs to f (a + 1) hs'
def start (fr to : Nat) : List Int := (List.replicate (to + 1) (-1 : Int)).set fr 0
def part (ts : List ByteArray) (xs : List Ins) (fr to : Nat) : Bool := loopS ts xs to (to - fr) fr (start fr to)
/-- Is code right? -/
def ok (ts : List ByteArray) (xs : List Ins) (bg ln en : Int) : Bool :=
  ts.all (fun t => decide (t.size ≤ 30)) && (decide (ts.length ≤ 60) && (decide (xs.length ≤ 250) && (decide (bg = 0) && (decide (0 ≤ ln ∧ ln ≤ (xs.length : Int)) && (decide (ln ≤ en ∧ en ≤ (xs.length : Int)) &&
  (part ts xs 0 ln.toNat && (part ts xs ln.toNat en.toNat && part ts xs en.toNat xs.length)))))))

theorem getD_set (hs : List Int) (k j : Nat) (n : Int) : (hs.set k n).getD j (-1) = if j = k ∧ k < hs.length then n else hs.getD j (-1) := by
  simp only [List.getD_eq_getElem?_getD, List.getElem?_set]
  by_cases h : k = j
  · subst h
    by_cases h2 : k < hs.length
    · simp [h2]
    · simp [h2]
  · have : ¬ j = k := fun e => h e.symm
    simp [h, this]
/-- All heights are within. -/
def Inv (hs : List Int) (lo hi : Int) : Prop := ∀ j, lo ≤ hs.getD j (-1) ∧ hs.getD j (-1) ≤ hi
theorem Inv.set {hs : List Int} {lo hi n : Int} (h : Inv hs lo hi) (h1 : lo ≤ n) (h2 : n ≤ hi) (k : Nat) : Inv (hs.set k n) lo hi := by
  intro j
  rw [getD_set]
  split
  · exact ⟨h1, h2⟩
  · exact h j
theorem Inv.mark {lo hi n : Int} (h1 : lo ≤ n) (h2 : n ≤ hi) : ∀ {ks : List Nat} {hs hs' : List Int}, Inv hs lo hi → Cd.mark hs n ks = some hs' → Inv hs' lo hi
  | [], hs, hs', h, e => by simp [Cd.mark] at e; rw [← e]; exact h
  | k :: ks, hs, hs', h, e => by
    simp only [Cd.mark] at e
    split at e
    · cases e
    · exact Inv.mark h1 h2 (h.set h1 h2 k) e

end Cd
end PartCdP
section PartPV
namespace Pv

/-- Is it a figure? -/
def fg (b : UInt8) : Bool := decide (48 ≤ b.toNat ∧ b.toNat ≤ 57)
/-- Is it a number: one to six figures, and nothing else? -/
def isn (l : List UInt8) : Bool := l.all fg && decide (1 ≤ l.length ∧ l.length ≤ 6)
/-- The number that n grows to by the figures ahead. -/
def num : Nat → List UInt8 → Nat
  | n, [] => n
  | n, b :: r => if fg b then num ((n * 10 + (b.toNat - 48)) % 1000000) r else n
theorem drop_at (s : ByteArray) (k : Nat) (h : k < s.size) : s.data.toList.drop k = s[k] :: s.data.toList.drop (k + 1) := by
  rw [List.drop_eq_getElem_cons (by simpa using h)]; rfl
/-- What is cut of a text. -/
def cut (l : List UInt8) : List UInt8 := l.take 40
/-- Does it part fields? -/
def gap (b : UInt8) : Bool := decide (b.toNat = 32 ∨ b.toNat = 9)
/-- The parts of what is left, cur being read already. -/
def fld : List UInt8 → List UInt8 → List (List UInt8)
  | cur, [] => if cur = [] then [] else [cut cur]
  | cur, b :: r => if gap b then (if cur = [] then fld [] r else cut cur :: fld [] r) else fld (cur ++ [b]) r
/-- The fields of a line. -/
def flds (l : List UInt8) : List (List UInt8) := (fld [] l).take 20
theorem fld_gap (cur : List UInt8) (h : cur ≠ []) (b : UInt8) (hb : gap b = true) (r : List UInt8) : fld cur (b :: r) = cut cur :: fld [] r := by rw [fld, if_pos hb, if_neg h]
theorem fld_gap0 (b : UInt8) (hb : gap b = true) (r : List UInt8) : fld [] (b :: r) = fld [] r := by rw [fld, if_pos hb, if_pos rfl]
theorem cur_ne (s : ByteArray) (p k : Nat) (hp : p < k) (h : k ≤ s.size) : (s.data.toList.drop p).take (k - p) ≠ [] := by
  intro e
  have := congrArg List.length e
  simp at this
  omega
theorem cur_nil (s : ByteArray) (k : Nat) : (s.data.toList.drop k).take (k - k) = [] := by simp

/-- What is held at a round's head: ws are the fields that are done (no more than twenty), the next one begins at p, k signs are read. -/
structure At (s : ByteArray) (k p : Nat) (ws : List (List UInt8)) : Prop where
  inside : k ≤ s.size → p ≤ k ∧ (ws ++ fld ((s.data.toList.drop p).take (k - p)) (s.data.toList.drop k)).take 20 = flds s.data.toList
  over : s.size < k → ws = flds s.data.toList
  few : ws.length ≤ 20
theorem At.start (s : ByteArray) : At s 0 0 [] := ⟨fun _ => ⟨Nat.le_refl _, rfl⟩, fun h => by omega, by simp⟩
theorem At.gap {s : ByteArray} {k p : Nat} {ws : List (List UInt8)} (h : At s k p ws) (hk : k < s.size) (hb : s[k].toNat = 32 ∨ s[k].toNat = 9) :
    (p < k → ws.length < 20 → At s (k + 1) (k + 1) (ws ++ [cut ((s.data.toList.drop p).take (k - p))])) ∧ (p < k → 20 ≤ ws.length → At s (k + 1) (k + 1) ws) ∧ (¬ p < k → At s (k + 1) (k + 1) ws) := by
  obtain ⟨i1, i2⟩ := h.inside (by omega)
  have hg : Pv.gap s[k] = true := decide_eq_true hb
  refine ⟨fun hp hw => ?_, fun hp hw => ?_, fun hp => ?_⟩
  · refine ⟨fun _ => ⟨Nat.le_refl _, ?_⟩, fun ho => by omega, by simp; omega⟩
    rw [← i2, drop_at s k hk, fld_gap _ (cur_ne s p k hp (by omega)) _ hg, cur_nil]
    simp
  · have hw2 : ws.length = 20 := by have := h.few; omega
    refine ⟨fun _ => ⟨Nat.le_refl _, ?_⟩, fun ho => by omega, h.few⟩
    rw [← i2, List.take_append_of_le_length (by omega), List.take_append_of_le_length (by omega)]
  · obtain rfl : p = k := by omega
    refine ⟨fun _ => ⟨Nat.le_refl _, ?_⟩, fun ho => by omega, h.few⟩
    rw [← i2, cur_nil, cur_nil, drop_at s p hk, fld_gap0 _ hg]
end Pv
end PartPV
section PartPgP
namespace Pg

/-- The words that are no names. -/
def words : List (List UInt8) := [[66, 69, 71, 73, 78], [69, 78, 68], [112, 114, 105, 110, 116], [110, 101, 120, 116], [100, 117, 109, 112], [105, 102], [101, 108, 115, 101], [108, 101, 110, 103, 116, 104], [78, 70], [78, 82]]
def name (t : List UInt8) : Bool := !(words.contains t) && t.all Tk.letter && decide (1 ≤ t.length ∧ t.length ≤ 8)
def plain (t : List UInt8) (most : Nat) (m : UInt8) : Bool := t.all (fun b => b != m && b != 10) && decide (t.length ≤ most)
/-- Is the text as its op wants it? -/
def text (op : Int) (t : List UInt8) : Bool :=
  if op = 1 then Pv.isn t
  else if op = 2 then plain t 30 34
  else if op = 3 ∨ op = 4 ∨ op = 18 ∨ op = 19 ∨ op = 20 ∨ op = 21 ∨ op = 25 then name t
  else if op = 16 then (Pp.read t).isSome && plain t 24 47
  else t.isEmpty
/-- How many kids at least and at most. -/
def many (op : Int) : Nat × Nat :=
  if op = 4 ∨ op = 5 ∨ op = 8 ∨ op = 16 ∨ op = 18 ∨ op = 19 then (1, 1)
  else if op = 9 ∨ op = 10 ∨ op = 11 ∨ op = 12 ∨ op = 13 ∨ op = 14 ∨ op = 15 ∨ op = 20 ∨ op = 21 then (2, 2)
  else if op = 17 then (1, 4)
  else if op = 22 then (2, 3)
  else if op = 24 then (0, 20)
  else (0, 0)
def ex (op : Int) : Bool := decide (1 ≤ op ∧ op ≤ 16)
/-- Is kid number k of node i, x, as it must be? -/
def kid (ps : List Pi) (i : Nat) (x : Pi) (k : Nat) : Bool :=
  decide (0 ≤ x.kids.getD k 0 ∧ x.kids.getD k 0 ≤ (i : Int) - 1) &&
  !((decide (x.op = 24) || (decide (x.op = 22) && decide (0 < k))) == ex (ps.getD (x.kids.getD k 0).toNat Pi.no).op || (decide (x.op = 22) && decide ((ps.getD (x.kids.getD k 0).toNat Pi.no).op = 22)))
def node (ps : List Pi) (i : Nat) : Bool :=
  decide (1 ≤ (ps.getD i Pi.no).op ∧ (ps.getD i Pi.no).op ≤ 25) && text (ps.getD i Pi.no).op (ps.getD i Pi.no).text.data.toList && decide ((many (ps.getD i Pi.no).op).1 ≤ (ps.getD i Pi.no).kids.length ∧ (ps.getD i Pi.no).kids.length ≤ (many (ps.getD i Pi.no).op).2) &&
  (List.range (ps.getD i Pi.no).kids.length).all (kid ps i (ps.getD i Pi.no))
/-- A rule: when, if, do. -/
structure Rl where
  when : Int
  cond : Int
  act : Int
def Rl.no : Rl := ⟨0, 0, 0⟩
def rule (ps : List Pi) (r : Rl) : Bool :=
  decide (1 ≤ r.when ∧ r.when ≤ 3) && decide (0 ≤ r.act ∧ r.act ≤ (ps.length : Int) - 1) && decide ((ps.getD r.act.toNat Pi.no).op = 24) &&
  (decide (r.cond = -1) || (decide (r.when = 2) && decide (0 ≤ r.cond ∧ r.cond ≤ (ps.length : Int) - 1) && ex (ps.getD r.cond.toNat Pi.no).op))
def ok (ps : List Pi) (rs : List Rl) : Bool := decide (ps.length ≤ 200) && decide (rs.length ≤ 12) && (List.range ps.length).all (node ps) && rs.all (rule ps)
end Pg
open Go.RowKit

/-- The slice v leads to the rules rs. -/
def RlsAt (w : World) (v : Value) (rs : List Pg.Rl) : Prop := ∃ (a : Option Addr) (c : Nat), v = .slice a rs.length c ∧
  (0 < rs.length → ∃ b o, a = some ⟨b, o, none⟩ ∧ b < w.heap.size ∧ ∀ i, i < rs.length → w.cell? ⟨b, o + i * 3, none⟩ = some (.int .i64 (rs.getD i Pg.Rl.no).when) ∧ w.cell? ⟨b, o + i * 3 + 1, none⟩ = some (.int .i64 (rs.getD i Pg.Rl.no).cond) ∧ w.cell? ⟨b, o + i * 3 + 2, none⟩ = some (.int .i64 (rs.getD i Pg.Rl.no).act))
theorem RlsAt.keep {w w' : World} {v : Value} {rs : List Pg.Rl} (h : RlsAt w v rs) (hb : Below w.heap.size w w') : RlsAt w' v rs := by
  obtain ⟨ka, kc, rfl, f⟩ := h
  refine ⟨ka, kc, rfl, fun h0 => ?_⟩
  obtain ⟨b, o, rfl, hl, hc⟩ := f h0
  exact ⟨b, o, rfl, Nat.lt_of_lt_of_le hl hb.size, fun i hi => ⟨(hb.cell hl).trans (hc i hi).1, (hb.cell hl).trans (hc i hi).2.1, (hb.cell hl).trans (hc i hi).2.2⟩⟩

end PartPgP
end Go.Proofs.Ytbaoadfnmicijaa
