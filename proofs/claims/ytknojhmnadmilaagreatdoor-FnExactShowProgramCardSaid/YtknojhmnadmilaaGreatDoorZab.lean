/- Plain facts: the tokens of a text. Plain facts, without the program: what is a number among texts, the number of a text, what is cut of it, and the fields of a line. Plain facts: when a program is right. -/
import Derived.Test.YtknojhmnadmilaaGreatDoorZaa
namespace Go.Proofs.YtknojhmnadmilaaGreatDoor
section PartTkP
namespace Tk

/-- A token: its kind and its text. -/
structure Tok where
  kind : Nat
  text : List UInt8
def no : Tok := ⟨0, []⟩
def letter (b : UInt8) : Bool := (decide (97 ≤ b.toNat) && decide (b.toNat ≤ 122)) || (decide (65 ≤ b.toNat) && decide (b.toNat ≤ 90))
def figure (b : UInt8) : Bool := decide (48 ≤ b.toNat) && decide (b.toNat ≤ 57)
/-- The first place from i on whose byte is not so, or the end. -/
def run (p : UInt8 → Bool) (l : List UInt8) (i : Nat) : Nat := i + ((l.drop i).takeWhile p).length
theorem run_end (p : UInt8 → Bool) {l : List UInt8} {i : Nat} (h : l.length ≤ i) : run p l i = i := by
  unfold run
  rw [List.drop_eq_nil_of_le h]
  rfl
theorem run_step {p : UInt8 → Bool} {l : List UInt8} {i : Nat} (h : i < l.length) (hp : p l[i] = true) : run p l i = run p l (i + 1) := by
  unfold run
  rw [List.drop_eq_getElem_cons h, List.takeWhile_cons_of_pos hp]
  simp
  omega
theorem run_stop {p : UInt8 → Bool} {l : List UInt8} {i : Nat} (h : i < l.length) (hp : p l[i] = false) : run p l i = i := by
  unfold run
  rw [List.drop_eq_getElem_cons h, List.takeWhile_cons_of_neg (by simp [hp])]
  rfl
theorem run_ge (p : UInt8 → Bool) (l : List UInt8) (i : Nat) : i ≤ run p l i := by unfold run; omega
theorem run_le (p : UInt8 → Bool) {l : List UInt8} {i : Nat} (h : i ≤ l.length) : run p l i ≤ l.length := by
  unfold run
  have := (List.takeWhile_prefix p (l := l.drop i)).length_le
  simp at this
  omega
/-- What stands from a up to b. -/
def cut (l : List UInt8) (a b : Nat) : List UInt8 := (l.drop a).take (b - a)
/-- The end of what stands between two marks, from the first one on, or 0. -/
def textEnd (l : List UInt8) (a : Nat) (m : UInt8) (most : Nat) : Nat :=
  if l[run (fun b => b != m && b != 10) l (a + 1)]? = some m ∧ run (fun b => b != m && b != 10) l (a + 1) - a - 1 ≤ most then run (fun b => b != m && b != 10) l (a + 1) else 0
theorem textEnd_lt {l : List UInt8} {a : Nat} {m : UInt8} {most : Nat} (h : textEnd l a m most ≠ 0) : a < textEnd l a m most ∧ textEnd l a m most < l.length := by
  unfold textEnd at h ⊢
  split at h
  · rename_i k
    rw [if_pos k]
    refine ⟨by have := run_ge (fun b => b != m && b != 10) l (a + 1); omega, ?_⟩
    exact (List.getElem?_eq_some_iff.1 k.1).1
  · exact absurd rfl h
def signs : List UInt8 := [123, 125, 40, 41, 91, 93, 36, 126, 60, 43, 45, 42, 37, 46, 44, 61]
/-- The token at a, and the place behind it. -/
def one (l : List UInt8) (a : Nat) (last : Tok) : Option (Tok × Nat) :=
  if l.getD a 0 = 10 ∨ l.getD a 0 = 59 then some (⟨6, [59]⟩, a + 1)
  else if letter (l.getD a 0) = true then (if 8 < run letter l a - a then none else some (⟨1, cut l a (run letter l a)⟩, run letter l a))
  else if figure (l.getD a 0) = true then (if 6 < run figure l a - a then none else some (⟨2, cut l a (run figure l a)⟩, run figure l a))
  else if l.getD a 0 = 34 then (if textEnd l a 34 30 = 0 then none else some (⟨3, cut l (a + 1) (textEnd l a 34 30)⟩, textEnd l a 34 30 + 1))
  else if l.getD a 0 = 47 then (if textEnd l a 47 24 = 0 ∨ last.kind ≠ 5 ∨ last.text ≠ [126] then none else if (Pp.read (cut l (a + 1) (textEnd l a 47 24))).isSome = true then some (⟨4, cut l (a + 1) (textEnd l a 47 24)⟩, textEnd l a 47 24 + 1) else none)
  else if l[a + 1]? = some 61 ∧ (l.getD a 0 = 43 ∨ l.getD a 0 = 61) then some (⟨5, cut l a (a + 2)⟩, a + 2)
  else if l.getD a 0 ∈ signs then some (⟨5, cut l a (a + 1)⟩, a + 1)
  else none
/-- The token is behind its place. -/
theorem one_gt {l : List UInt8} {a : Nat} {last t : Tok} {n : Nat} (ha : a < l.length) (h : one l a last = some (t, n)) : a < n ∧ n ≤ l.length := by
  have hg : l.getD a 0 = l[a] := by simp [ha]
  unfold one at h
  split at h
  · simp only [Option.some.injEq, Prod.mk.injEq] at h; omega
  split at h
  · rename_i k
    split at h
    · cases h
    · simp only [Option.some.injEq, Prod.mk.injEq] at h
      rw [hg] at k
      have := run_step ha k
      have := run_ge letter l (a + 1)
      have := run_le letter (Nat.le_of_lt ha)
      omega
  split at h
  · rename_i k
    split at h
    · cases h
    · simp only [Option.some.injEq, Prod.mk.injEq] at h
      rw [hg] at k
      have := run_step ha k
      have := run_ge figure l (a + 1)
      have := run_le figure (Nat.le_of_lt ha)
      omega
  split at h
  · split at h
    · cases h
    · rename_i k
      simp only [Option.some.injEq, Prod.mk.injEq] at h
      have := textEnd_lt k
      omega
  split at h
  · split at h
    · cases h
    · rename_i k
      split at h
      · simp only [Option.some.injEq, Prod.mk.injEq] at h
        have := textEnd_lt (l := l) (a := a) (m := 47) (most := 24) (fun e => k (.inl e))
        omega
      · cases h
  split at h
  · rename_i k
    simp only [Option.some.injEq, Prod.mk.injEq] at h
    have := (List.getElem?_eq_some_iff.1 k.1).1
    omega
  split at h
  · simp only [Option.some.injEq, Prod.mk.injEq] at h; omega
  · cases h
/-- All tokens from a on, behind those of out, and the place of a fault, or 0. -/
def loop (l : List UInt8) : Nat → Nat → Tok → List Tok → List Tok × Nat
  | 0, _, _, out => (out, 0)
  | f + 1, a, last, out =>
    if l.length ≤ a then (out, 0)
    else if l.getD a 0 = 32 ∨ l.getD a 0 = 9 then loop l f (a + 1) last out
    else if l.getD a 0 = 35 then loop l f (run (fun b => b != 10) l a) last out
    else match one l a last with
      | none => ([], a + 1)
      | some (t, n) => if out.length = 200 then ([], a + 1) else loop l f n t (out ++ [t])
def tokens (l : List UInt8) : List Tok × Nat := if 600 < l.length then ([], 601) else loop l (l.length + 1) 0 no []
end Tk
end PartTkP
section PartPV
namespace Pv

/-- Is it a figure? -/
def fg (b : UInt8) : Bool := decide (48 ≤ b.toNat ∧ b.toNat ≤ 57)
/-- Is it a number: one to six figures, and nothing else? -/
def isn (l : List UInt8) : Bool := l.all fg && decide (1 ≤ l.length ∧ l.length ≤ 6)
theorem isn_no (s : ByteArray) (k : Nat) (h : k < s.size) (hb : s[k].toNat < 48 ∨ 57 < s[k].toNat) : isn s.data.toList = false := by
  have : s.data.toList.all fg = false := by
    rw [List.all_eq_false]
    refine ⟨s[k], List.getElem_mem (l := s.data.toList) (by simpa using h), ?_⟩
    simp [fg]; omega
  simp [isn, this]
theorem isn_size (s : ByteArray) (h : s.size < 1 ∨ 6 < s.size) : isn s.data.toList = false := by
  have e : s.data.toList.length = s.size := by simp
  unfold isn
  rw [e, Bool.and_eq_false_iff]
  right
  simp; omega
theorem isn_all (s : ByteArray) (h : ∀ k (hk : k < s.size), 48 ≤ s[k].toNat ∧ s[k].toNat ≤ 57) : isn s.data.toList = decide (1 ≤ s.size ∧ s.size ≤ 6) := by
  have e : s.data.toList.length = s.size := by simp
  have : s.data.toList.all fg = true := by
    rw [List.all_eq_true]
    intro b hb
    obtain ⟨i, hi, rfl⟩ := List.mem_iff_getElem.1 hb
    exact decide_eq_true (h i (by simpa using hi))
  unfold isn
  rw [this, e, Bool.true_and]

/-- The number that n grows to by the figures ahead. -/
def num : Nat → List UInt8 → Nat
  | n, [] => n
  | n, b :: r => if fg b then num ((n * 10 + (b.toNat - 48)) % 1000000) r else n
/-- Without the blanks ahead. -/
def skip (l : List UInt8) : List UInt8 := l.dropWhile (· == 32)
/-- The number of a text. -/
def nof (l : List UInt8) : Nat := num 0 (skip l)
theorem num_lt (n : Nat) (l : List UInt8) (h : n < 1000000) : num n l < 1000000 := by
  induction l generalizing n with
  | nil => exact h
  | cons b r ih =>
    rw [num]
    split
    · exact ih _ (Nat.mod_lt _ (by omega))
    · exact h
theorem nof_lt (l : List UInt8) : nof l < 1000000 := num_lt 0 _ (by omega)
theorem num_fig (n : Nat) (b : UInt8) (r : List UInt8) (h1 : 48 ≤ b.toNat) (h2 : b.toNat ≤ 57) : num n (b :: r) = num ((n * 10 + (b.toNat - 48)) % 1000000) r := by
  rw [num, if_pos (by simp [fg]; omega)]
theorem num_stop (n : Nat) (b : UInt8) (r : List UInt8) (h : b.toNat < 48 ∨ 57 < b.toNat) : num n (b :: r) = n := by
  rw [num, if_neg (by simp [fg]; omega)]
theorem skip_blank (b : UInt8) (r : List UInt8) (h : b.toNat = 32) : skip (b :: r) = skip r := by
  have : b = 32 := UInt8.toNat_inj.1 (by rw [h]; rfl)
  subst this
  simp [skip]
theorem skip_sign (b : UInt8) (r : List UInt8) (h : b.toNat ≠ 32) : skip (b :: r) = b :: r := by
  have : ¬ b = 32 := by intro e; apply h; rw [e]; rfl
  simp [skip, this]
theorem drop_at (s : ByteArray) (k : Nat) (h : k < s.size) : s.data.toList.drop k = s[k] :: s.data.toList.drop (k + 1) := by
  rw [List.drop_eq_getElem_cons (by simpa using h)]; rfl
theorem drop_end (s : ByteArray) (k : Nat) (h : s.size ≤ k) : s.data.toList.drop k = [] := List.drop_of_length_le (by simpa using h)
theorem skip_len (l : List UInt8) : (skip l).length ≤ l.length := by
  unfold skip
  exact (List.dropWhile_suffix _).length_le

/-- What is cut of a text. -/
def cut (l : List UInt8) : List UInt8 := l.take 40
theorem cut_len (l : List UInt8) : (cut l).length ≤ 40 := by simp [cut]; omega
theorem cut_cut (l : List UInt8) : cut (cut l) = cut l := by
  unfold cut
  rw [List.take_take]
  rfl
theorem cut_short (l : List UInt8) (h : l.length ≤ 40) : cut l = l := List.take_of_length_le h

/-- Does it part fields? -/
def gap (b : UInt8) : Bool := decide (b.toNat = 32 ∨ b.toNat = 9)
/-- The parts of what is left, cur being read already. -/
def fld : List UInt8 → List UInt8 → List (List UInt8)
  | cur, [] => if cur = [] then [] else [cut cur]
  | cur, b :: r => if gap b then (if cur = [] then fld [] r else cut cur :: fld [] r) else fld (cur ++ [b]) r
/-- The fields of a line. -/
def flds (l : List UInt8) : List (List UInt8) := (fld [] l).take 20
theorem fld_end (cur : List UInt8) (h : cur ≠ []) : fld cur [] = [cut cur] := by rw [fld, if_neg h]
theorem fld_end0 : fld [] [] = [] := rfl
theorem fld_gap (cur : List UInt8) (h : cur ≠ []) (b : UInt8) (hb : gap b = true) (r : List UInt8) : fld cur (b :: r) = cut cur :: fld [] r := by rw [fld, if_pos hb, if_neg h]
theorem fld_gap0 (b : UInt8) (hb : gap b = true) (r : List UInt8) : fld [] (b :: r) = fld [] r := by rw [fld, if_pos hb, if_pos rfl]
theorem fld_sign (cur : List UInt8) (b : UInt8) (h : gap b = false) (r : List UInt8) : fld cur (b :: r) = fld (cur ++ [b]) r := by rw [fld, if_neg (by rw [h]; decide)]
theorem flds_len (l : List UInt8) : (flds l).length ≤ 20 := by simp [flds]; omega
theorem cur_more (s : ByteArray) (p k : Nat) (hp : p ≤ k) (h : k < s.size) : (s.data.toList.drop p).take (k - p) ++ [s[k]] = (s.data.toList.drop p).take (k + 1 - p) := by
  rw [show k + 1 - p = (k - p) + 1 by omega, List.take_add_one]
  congr 1
  rw [List.getElem?_drop, show p + (k - p) = k by omega, List.getElem?_eq_getElem (by simpa using h)]
  rfl
theorem cur_ne (s : ByteArray) (p k : Nat) (hp : p < k) (h : k ≤ s.size) : (s.data.toList.drop p).take (k - p) ≠ [] := by
  intro e
  have := congrArg List.length e
  simp at this
  omega
theorem cur_nil (s : ByteArray) (k : Nat) : (s.data.toList.drop k).take (k - k) = [] := by simp

/-- What is held at a round's head: ws are the fields that are done (no more than twenty), the next one begins at p, k signs are read. -/
structure At (s : ByteArray) (k p : Nat) (ws : List (List UInt8)) : Prop where
  inside : k ≤ s.size → p ≤ k ∧ (ws ++ fld ((s.data.toList.drop p).take (k - p)) (s.data.toList.drop k)).take 20 = flds s.data.toList
  over : s.size < k → ws = flds s.data.toList
  few : ws.length ≤ 20
theorem At.start (s : ByteArray) : At s 0 0 [] := ⟨fun _ => ⟨Nat.le_refl _, rfl⟩, fun h => by omega, by simp⟩
theorem At.sign {s : ByteArray} {k p : Nat} {ws : List (List UInt8)} (h : At s k p ws) (hk : k < s.size) (hb : s[k].toNat ≠ 32) (hb2 : s[k].toNat ≠ 9) : At s (k + 1) p ws := by
  obtain ⟨i1, i2⟩ := h.inside (by omega)
  refine ⟨fun _ => ⟨by omega, ?_⟩, fun ho => by omega, h.few⟩
  rw [← i2, drop_at s k hk, fld_sign _ _ (by simp [gap, hb, hb2]), cur_more s p k i1 hk]
theorem At.gap {s : ByteArray} {k p : Nat} {ws : List (List UInt8)} (h : At s k p ws) (hk : k < s.size) (hb : s[k].toNat = 32 ∨ s[k].toNat = 9) :
    (p < k → ws.length < 20 → At s (k + 1) (k + 1) (ws ++ [cut ((s.data.toList.drop p).take (k - p))])) ∧ (p < k → 20 ≤ ws.length → At s (k + 1) (k + 1) ws) ∧ (¬ p < k → At s (k + 1) (k + 1) ws) := by
  obtain ⟨i1, i2⟩ := h.inside (by omega)
  have hg : Pv.gap s[k] = true := decide_eq_true hb
  refine ⟨fun hp hw => ?_, fun hp hw => ?_, fun hp => ?_⟩
  · refine ⟨fun _ => ⟨Nat.le_refl _, ?_⟩, fun ho => by omega, by simp; omega⟩
    rw [← i2, drop_at s k hk, fld_gap _ (cur_ne s p k hp (by omega)) _ hg, cur_nil]
    simp
  · have hw2 : ws.length = 20 := by have := h.few; omega
    refine ⟨fun _ => ⟨Nat.le_refl _, ?_⟩, fun ho => by omega, h.few⟩
    rw [← i2, List.take_append_of_le_length (by omega), List.take_append_of_le_length (by omega)]
  · obtain rfl : p = k := by omega
    refine ⟨fun _ => ⟨Nat.le_refl _, ?_⟩, fun ho => by omega, h.few⟩
    rw [← i2, cur_nil, cur_nil, drop_at s p hk, fld_gap0 _ hg]
theorem At.last {s : ByteArray} {k p : Nat} {ws : List (List UInt8)} (h : At s k p ws) (hk : k = s.size) :
    (p < k → ws.length < 20 → At s (k + 1) (k + 1) (ws ++ [cut ((s.data.toList.drop p).take (k - p))])) ∧ (p < k → 20 ≤ ws.length → At s (k + 1) (k + 1) ws) ∧ (¬ p < k → At s (k + 1) (k + 1) ws) := by
  obtain ⟨i1, i2⟩ := h.inside (by omega)
  have hd : s.data.toList.drop k = [] := drop_end s k (by omega)
  rw [hd] at i2
  refine ⟨fun hp hw => ?_, fun hp hw => ?_, fun hp => ?_⟩
  · refine ⟨fun ho => by omega, fun _ => ?_, by simp; omega⟩
    rw [← i2, fld_end _ (cur_ne s p k hp (by omega))]
    exact (List.take_of_length_le (by rw [List.length_append, List.length_singleton]; omega)).symm
  · have hw2 : ws.length = 20 := by have := h.few; omega
    refine ⟨fun ho => by omega, fun _ => ?_, h.few⟩
    rw [← i2, List.take_append_of_le_length (by omega), List.take_of_length_le (by omega)]
  · obtain rfl : p = k := by omega
    refine ⟨fun ho => by omega, fun _ => ?_, h.few⟩
    rw [← i2, cur_nil, fld_end0, List.append_nil, List.take_of_length_le h.few]
/-- Twenty fields are all. -/
theorem At.full {s : ByteArray} {k p : Nat} {ws : List (List UInt8)} (h : At s k p ws) (hw : 20 ≤ ws.length) : ws = flds s.data.toList := by
  by_cases hk : k ≤ s.size
  · obtain ⟨i1, i2⟩ := h.inside hk
    rw [← i2, List.take_append_of_le_length hw, List.take_of_length_le h.few]
  · exact h.over (by omega)
end Pv
end PartPV
section PartPgP
namespace Pg

/-- The words that are no names. -/
def words : List (List UInt8) := [[66, 69, 71, 73, 78], [69, 78, 68], [112, 114, 105, 110, 116], [110, 101, 120, 116], [100, 117, 109, 112], [105, 102], [101, 108, 115, 101], [108, 101, 110, 103, 116, 104], [78, 70], [78, 82]]
def name (t : List UInt8) : Bool := !(words.contains t) && t.all Tk.letter && decide (1 ≤ t.length ∧ t.length ≤ 8)
def plain (t : List UInt8) (most : Nat) (m : UInt8) : Bool := t.all (fun b => b != m && b != 10) && decide (t.length ≤ most)
/-- Is the text as its op wants it? -/
def text (op : Int) (t : List UInt8) : Bool :=
  if op = 1 then Pv.isn t
  else if op = 2 then plain t 30 34
  else if op = 3 ∨ op = 4 ∨ op = 18 ∨ op = 19 ∨ op = 20 ∨ op = 21 ∨ op = 25 then name t
  else if op = 16 then (Pp.read t).isSome && plain t 24 47
  else t.isEmpty
/-- How many kids at least and at most. -/
def many (op : Int) : Nat × Nat :=
  if op = 4 ∨ op = 5 ∨ op = 8 ∨ op = 16 ∨ op = 18 ∨ op = 19 then (1, 1)
  else if op = 9 ∨ op = 10 ∨ op = 11 ∨ op = 12 ∨ op = 13 ∨ op = 14 ∨ op = 15 ∨ op = 20 ∨ op = 21 then (2, 2)
  else if op = 17 then (1, 4)
  else if op = 22 then (2, 3)
  else if op = 24 then (0, 20)
  else (0, 0)
def ex (op : Int) : Bool := decide (1 ≤ op ∧ op ≤ 16)
/-- Is kid number k of node i, x, as it must be? -/
def kid (ps : List Pi) (i : Nat) (x : Pi) (k : Nat) : Bool :=
  decide (0 ≤ x.kids.getD k 0 ∧ x.kids.getD k 0 ≤ (i : Int) - 1) &&
  !((decide (x.op = 24) || (decide (x.op = 22) && decide (0 < k))) == ex (ps.getD (x.kids.getD k 0).toNat Pi.no).op || (decide (x.op = 22) && decide ((ps.getD (x.kids.getD k 0).toNat Pi.no).op = 22)))
def node (ps : List Pi) (i : Nat) : Bool :=
  decide (1 ≤ (ps.getD i Pi.no).op ∧ (ps.getD i Pi.no).op ≤ 25) && text (ps.getD i Pi.no).op (ps.getD i Pi.no).text.data.toList && decide ((many (ps.getD i Pi.no).op).1 ≤ (ps.getD i Pi.no).kids.length ∧ (ps.getD i Pi.no).kids.length ≤ (many (ps.getD i Pi.no).op).2) &&
  (List.range (ps.getD i Pi.no).kids.length).all (kid ps i (ps.getD i Pi.no))
/-- A rule: when, if, do. -/
structure Rl where
  when : Int
  cond : Int
  act : Int
def Rl.no : Rl := ⟨0, 0, 0⟩
def rule (ps : List Pi) (r : Rl) : Bool :=
  decide (1 ≤ r.when ∧ r.when ≤ 3) && decide (0 ≤ r.act ∧ r.act ≤ (ps.length : Int) - 1) && decide ((ps.getD r.act.toNat Pi.no).op = 24) &&
  (decide (r.cond = -1) || (decide (r.when = 2) && decide (0 ≤ r.cond ∧ r.cond ≤ (ps.length : Int) - 1) && ex (ps.getD r.cond.toNat Pi.no).op))
def ok (ps : List Pi) (rs : List Rl) : Bool := decide (ps.length ≤ 200) && decide (rs.length ≤ 12) && (List.range ps.length).all (node ps) && rs.all (rule ps)
end Pg
open Go.RowKit

/-- The slice v leads to the rules rs. -/
def RlsAt (w : World) (v : Value) (rs : List Pg.Rl) : Prop := ∃ (a : Option Addr) (c : Nat), v = .slice a rs.length c ∧
  (0 < rs.length → ∃ b o, a = some ⟨b, o, none⟩ ∧ b < w.heap.size ∧ ∀ i, i < rs.length → w.cell? ⟨b, o + i * 3, none⟩ = some (.int .i64 (rs.getD i Pg.Rl.no).when) ∧ w.cell? ⟨b, o + i * 3 + 1, none⟩ = some (.int .i64 (rs.getD i Pg.Rl.no).cond) ∧ w.cell? ⟨b, o + i * 3 + 2, none⟩ = some (.int .i64 (rs.getD i Pg.Rl.no).act))
theorem RlsAt.keep {w w' : World} {v : Value} {rs : List Pg.Rl} (h : RlsAt w v rs) (hb : Below w.heap.size w w') : RlsAt w' v rs := by
  obtain ⟨ka, kc, rfl, f⟩ := h
  refine ⟨ka, kc, rfl, fun h0 => ?_⟩
  obtain ⟨b, o, rfl, hl, hc⟩ := f h0
  exact ⟨b, o, rfl, Nat.lt_of_lt_of_le hl hb.size, fun i hi => ⟨(hb.cell hl).trans (hc i hi).1, (hb.cell hl).trans (hc i hi).2.1, (hb.cell hl).trans (hc i hi).2.2⟩⟩

end PartPgP
end Go.Proofs.YtknojhmnadmilaaGreatDoor
