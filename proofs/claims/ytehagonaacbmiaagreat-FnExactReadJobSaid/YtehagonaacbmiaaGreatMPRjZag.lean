/- Plain facts: the tokens of a text. Plain facts: when code is right. What a store answers: plain facts. When a store is right: plain facts. -/
import Derived.Test.YtehagonaacbmiaaGreatMPRjZab
import Derived.Test.YtehagonaacbmiaaGreatMPRjZaa
import Derived.Test.YtehagonaacbmiaaGreatMPRjZaf
import Derived.Lib.Bytealg
namespace Go.Proofs.YtehagonaacbmiaaGreat
section PartTkP
namespace Tk

/-- A token: its kind and its text. -/
structure Tok where
  kind : Nat
  text : List UInt8
def no : Tok := ⟨0, []⟩
def letter (b : UInt8) : Bool := (decide (97 ≤ b.toNat) && decide (b.toNat ≤ 122)) || (decide (65 ≤ b.toNat) && decide (b.toNat ≤ 90))
def figure (b : UInt8) : Bool := decide (48 ≤ b.toNat) && decide (b.toNat ≤ 57)
/-- The first place from i on whose byte is not so, or the end. -/
def run (p : UInt8 → Bool) (l : List UInt8) (i : Nat) : Nat := i + ((l.drop i).takeWhile p).length
theorem run_end (p : UInt8 → Bool) {l : List UInt8} {i : Nat} (h : l.length ≤ i) : run p l i = i := by
  unfold run
  rw [List.drop_eq_nil_of_le h]
  rfl
theorem run_step {p : UInt8 → Bool} {l : List UInt8} {i : Nat} (h : i < l.length) (hp : p l[i] = true) : run p l i = run p l (i + 1) := by
  unfold run
  rw [List.drop_eq_getElem_cons h, List.takeWhile_cons_of_pos hp]
  simp
  omega
theorem run_stop {p : UInt8 → Bool} {l : List UInt8} {i : Nat} (h : i < l.length) (hp : p l[i] = false) : run p l i = i := by
  unfold run
  rw [List.drop_eq_getElem_cons h, List.takeWhile_cons_of_neg (by simp [hp])]
  rfl
/-- What stands from a up to b. -/
def cut (l : List UInt8) (a b : Nat) : List UInt8 := (l.drop a).take (b - a)
/-- The end of what stands between two marks, from the first one on, or 0. -/
def textEnd (l : List UInt8) (a : Nat) (m : UInt8) (most : Nat) : Nat :=
  if l[run (fun b => b != m && b != 10) l (a + 1)]? = some m ∧ run (fun b => b != m && b != 10) l (a + 1) - a - 1 ≤ most then run (fun b => b != m && b != 10) l (a + 1) else 0
def signs : List UInt8 := [123, 125, 40, 41, 91, 93, 36, 126, 60, 43, 45, 42, 37, 46, 44, 61]
/-- The token at a, and the place behind it. -/
def one (l : List UInt8) (a : Nat) (last : Tok) : Option (Tok × Nat) :=
  if l.getD a 0 = 10 ∨ l.getD a 0 = 59 then some (⟨6, [59]⟩, a + 1)
  else if letter (l.getD a 0) = true then (if 8 < run letter l a - a then none else some (⟨1, cut l a (run letter l a)⟩, run letter l a))
  else if figure (l.getD a 0) = true then (if 6 < run figure l a - a then none else some (⟨2, cut l a (run figure l a)⟩, run figure l a))
  else if l.getD a 0 = 34 then (if textEnd l a 34 30 = 0 then none else some (⟨3, cut l (a + 1) (textEnd l a 34 30)⟩, textEnd l a 34 30 + 1))
  else if l.getD a 0 = 47 then (if textEnd l a 47 24 = 0 ∨ last.kind ≠ 5 ∨ last.text ≠ [126] then none else if (Pp.read (cut l (a + 1) (textEnd l a 47 24))).isSome = true then some (⟨4, cut l (a + 1) (textEnd l a 47 24)⟩, textEnd l a 47 24 + 1) else none)
  else if l[a + 1]? = some 61 ∧ (l.getD a 0 = 43 ∨ l.getD a 0 = 61) then some (⟨5, cut l a (a + 2)⟩, a + 2)
  else if l.getD a 0 ∈ signs then some (⟨5, cut l a (a + 1)⟩, a + 1)
  else none
end Tk
end PartTkP
section PartCdP
namespace Cd

/-- 1 to 8 letters. -/
def nm (t : List UInt8) : Bool := t.all Tk.letter && decide (1 ≤ t.length ∧ t.length ≤ 8)
def text (ts : List ByteArray) (a : Int) : ByteArray := ts.getD a.toNat ByteArray.empty
/-- Is the arg of an instruction at a place right? -/
def arg (ts : List ByteArray) (x : Ins) (a : Int) (to : Int) : Bool :=
  if x.op = 1 then decide (x.arg < (ts.length : Int))
  else if x.op = 15 then decide (x.arg < (ts.length : Int)) && (Pp.read (text ts x.arg).data.toList).isSome
  else if x.op = 2 ∨ x.op = 3 ∨ x.op = 17 ∨ x.op = 18 ∨ x.op = 19 ∨ x.op = 20 ∨ x.op = 24 then decide (x.arg < (ts.length : Int)) && nm (text ts x.arg).data.toList
  else if x.op = 16 then decide (1 ≤ x.arg ∧ x.arg ≤ 4)
  else if x.op = 21 ∨ x.op = 22 then decide (a < x.arg) && decide (x.arg ≤ to)
  else decide (x.arg = 0)
def ins (ts : List ByteArray) (x : Ins) (a : Int) (to : Int) : Bool := decide (1 ≤ x.op ∧ x.op ≤ 24) && decide (0 ≤ x.arg ∧ x.arg ≤ 255) && arg ts x a to
/-- How many it takes, and how many it puts. -/
def needs (x : Ins) : Int × Int :=
  if x.op = 1 ∨ x.op = 2 ∨ x.op = 5 ∨ x.op = 6 then (0, 1)
  else if x.op = 3 ∨ x.op = 4 ∨ x.op = 7 ∨ x.op = 15 then (1, 1)
  else if x.op = 8 ∨ x.op = 9 ∨ x.op = 10 ∨ x.op = 11 ∨ x.op = 12 ∨ x.op = 13 ∨ x.op = 14 then (2, 1)
  else if x.op = 16 then (x.arg, 0)
  else if x.op = 17 ∨ x.op = 18 ∨ x.op = 21 then (1, 0)
  else if x.op = 19 ∨ x.op = 20 then (2, 0)
  else (0, 0)
/-- Where it goes on. -/
def next (x : Ins) (a : Nat) : List Nat := (if x.op = 23 ∨ x.op = 22 then [] else [a + 1]) ++ (if x.op = 21 ∨ x.op = 22 then [x.arg.toNat] else [])
/-- The height n is told of each of these places, unless one has another. -/
def mark (hs : List Int) (n : Int) : List Nat → Option (List Int)
  | [] => some hs
  | k :: ks => if 0 ≤ hs.getD k (-1) ∧ hs.getD k (-1) ≠ n then none else mark (hs.set k n) n ks
/-- The specification's round. -/
def loopS (ts : List ByteArray) (xs : List Ins) (to : Nat) : Nat → Nat → List Int → Bool
  | 0, _, hs => decide (hs.getD to (-1) ≤ 0)
  | f + 1, a, hs =>
    if ins ts (xs.getD a Ins.no) (a : Int) (to : Int) = false then false
    else if hs.getD a (-1) < 0 then loopS ts xs to f (a + 1) hs
    else if hs.getD a (-1) < (needs (xs.getD a Ins.no)).1 ∨ 20 < hs.getD a (-1) - (needs (xs.getD a Ins.no)).1 + (needs (xs.getD a Ins.no)).2 then false
    else match mark hs (hs.getD a (-1) - (needs (xs.getD a Ins.no)).1 + (needs (xs.getD a Ins.no)).2) (next (xs.getD a Ins.no) a) with
      | none => false
      | some hs' => loopS ts xs to f (a + 1) hs'
/-- The program's round. -/
def loopI (xs : List Ins) (to : Nat) : Nat → Nat → List Int → Bool
  | 0, _, hs => decide (hs.getD to (-1) = -1 ∨ hs.getD to (-1) = 0)
  | f + 1, a, hs =>
    if hs.getD a (-1) = -1 then loopI xs to f (a + 1) hs
    else if hs.getD a (-1) < (needs (xs.getD a Ins.no)).1 ∨ 20 < hs.getD a (-1) then false
    else match mark hs (hs.getD a (-1) - (needs (xs.getD a Ins.no)).1 + (needs (xs.getD a Ins.no)).2) (next (xs.getD a Ins.no) a) with
      | none => false
      | some hs' => loopI xs to f (a + 1) hs'
/-- Is each instruction right? -/
def allI (ts : List ByteArray) (xs : List Ins) (to : Nat) : Nat → Nat → Bool
  | 0, _ => true
  | f + 1, a => ins ts (xs.getD a Ins.no) (a : Int) (to : Int) && allI ts xs to f (a + 1)
def start (fr to : Nat) : List Int := (List.replicate (to + 1) (-1 : Int)).set fr 0
def part (ts : List ByteArray) (xs : List Ins) (fr to : Nat) : Bool := loopS ts xs to (to - fr) fr (start fr to)
def partI (ts : List ByteArray) (xs : List Ins) (fr to : Nat) : Bool := allI ts xs to (to - fr) fr && loopI xs to (to - fr) fr (start fr to)
/-- Is code right? -/
def ok (ts : List ByteArray) (xs : List Ins) (bg ln en : Int) : Bool :=
  ts.all (fun t => decide (t.size ≤ 30)) && (decide (ts.length ≤ 60) && (decide (xs.length ≤ 250) && (decide (bg = 0) && (decide (0 ≤ ln ∧ ln ≤ (xs.length : Int)) && (decide (ln ≤ en ∧ en ≤ (xs.length : Int)) &&
  (part ts xs 0 ln.toNat && (part ts xs ln.toNat en.toNat && part ts xs en.toNat xs.length)))))))

theorem getD_set (hs : List Int) (k j : Nat) (n : Int) : (hs.set k n).getD j (-1) = if j = k ∧ k < hs.length then n else hs.getD j (-1) := by
  simp only [List.getD_eq_getElem?_getD, List.getElem?_set]
  by_cases h : k = j
  · subst h
    by_cases h2 : k < hs.length
    · simp [h2]
    · simp [h2]
  · have : ¬ j = k := fun e => h e.symm
    simp [h, this]
theorem mark_len {n : Int} : ∀ {ks : List Nat} {hs hs' : List Int}, mark hs n ks = some hs' → hs'.length = hs.length
  | [], hs, hs', h => by simp [mark] at h; rw [h]
  | k :: ks, hs, hs', h => by
    simp only [mark] at h
    split at h
    · cases h
    · have := mark_len h
      simpa using this
theorem mark_keep {n : Int} : ∀ {ks : List Nat} {hs hs' : List Int} {j : Nat}, mark hs n ks = some hs' → 0 ≤ hs.getD j (-1) → hs'.getD j (-1) = hs.getD j (-1)
  | [], hs, hs', j, h, _ => by simp [mark] at h; rw [h]
  | k :: ks, hs, hs', j, h, hj => by
    simp only [mark] at h
    split at h
    · cases h
    · rename_i hne
      have e : (hs.set k n).getD j (-1) = hs.getD j (-1) := by
        rw [getD_set]
        by_cases hk : j = k ∧ k < hs.length
        · rw [if_pos hk]
          obtain ⟨rfl, _⟩ := hk
          by_cases e2 : hs.getD j (-1) = n
          · exact e2.symm
          · exact absurd ⟨hj, e2⟩ hne
        · rw [if_neg hk]
      have := mark_keep h (j := j) (by rw [e]; exact hj)
      rw [this, e]
/-- All heights are within. -/
def Inv (hs : List Int) (lo hi : Int) : Prop := ∀ j, lo ≤ hs.getD j (-1) ∧ hs.getD j (-1) ≤ hi
theorem Inv.set {hs : List Int} {lo hi n : Int} (h : Inv hs lo hi) (h1 : lo ≤ n) (h2 : n ≤ hi) (k : Nat) : Inv (hs.set k n) lo hi := by
  intro j
  rw [getD_set]
  split
  · exact ⟨h1, h2⟩
  · exact h j
theorem Inv.mark {lo hi n : Int} (h1 : lo ≤ n) (h2 : n ≤ hi) : ∀ {ks : List Nat} {hs hs' : List Int}, Inv hs lo hi → Cd.mark hs n ks = some hs' → Inv hs' lo hi
  | [], hs, hs', h, e => by simp [Cd.mark] at e; rw [← e]; exact h
  | k :: ks, hs, hs', h, e => by
    simp only [Cd.mark] at e
    split at e
    · cases e
    · exact Inv.mark h1 h2 (h.set h1 h2 k) e

theorem big_no (xs : List Ins) (to : Nat) : ∀ (f a : Nat) (hs : List Int), a + f = to → (∃ k, a ≤ k ∧ k ≤ to ∧ 20 < hs.getD k (-1)) → loopI xs to f a hs = false
  | 0, a, hs, h, ⟨k, h1, h2, h3⟩ => by
    obtain rfl : k = to := by omega
    simp only [loopI]
    exact decide_eq_false (by omega)
  | f + 1, a, hs, h, ⟨k, h1, h2, h3⟩ => by
    simp only [loopI]
    by_cases hm : hs.getD a (-1) = -1
    · rw [if_pos hm]
      have hne : k ≠ a := fun e => by rw [e] at h3; omega
      exact big_no xs to f (a + 1) hs (by omega) ⟨k, by omega, h2, h3⟩
    · rw [if_neg hm]
      split
      · rfl
      · rename_i hno
        split
        · rfl
        · rename_i hs' hmk
          have hne : k ≠ a := fun e => by rw [e] at h3; omega
          exact big_no xs to f (a + 1) hs' (by omega) ⟨k, by omega, h2, by rw [mark_keep hmk (by omega)]; exact h3⟩

theorem needs_ok {ts : List ByteArray} {x : Ins} {a to : Int} (h : ins ts x a to = true) : 0 ≤ (needs x).1 ∧ (needs x).1 ≤ 4 ∧ 0 ≤ (needs x).2 ∧ (needs x).2 ≤ 1 ∧ ((needs x).1 < (needs x).2 → x.op = 1 ∨ x.op = 2 ∨ x.op = 5 ∨ x.op = 6) := by
  have h4 : x.op = 16 → 1 ≤ x.arg ∧ x.arg ≤ 4 := by
    intro e
    unfold ins arg at h
    simp [e] at h
    omega
  unfold needs
  repeat' split
  all_goals first | (simp; done) | (simp; omega) | (simp only; omega)
/-- Jumps go on, within their part. -/
theorem next_ok {ts : List ByteArray} {x : Ins} {a to : Nat} (h : ins ts x (a : Int) (to : Int) = true) (ha : a < to) : ∀ k ∈ next x a, a < k ∧ k ≤ to := by
  have h4 : x.op = 21 ∨ x.op = 22 → (a : Int) < x.arg ∧ x.arg ≤ (to : Int) := by
    intro e
    unfold ins arg at h
    rcases e with e | e <;> simp [e] at h <;> omega
  intro k hk
  unfold next at hk
  simp only [List.mem_append] at hk
  rcases hk with hk | hk
  · split at hk
    · cases hk
    · simp at hk; omega
  · split at hk
    · rename_i hop
      have := h4 hop
      simp at hk
      omega
    · cases hk

theorem loop_same (ts : List ByteArray) (xs : List Ins) (to : Nat) : ∀ (f a : Nat) (hs : List Int), a + f = to → hs.length = to + 1 → Inv hs (-1) 20 → loopS ts xs to f a hs = (allI ts xs to f a && loopI xs to f a hs)
  | 0, a, hs, h, hl, hi => by
    simp only [loopS, loopI, allI, Bool.true_and]
    have := hi to
    rw [decide_eq_decide]
    omega
  | f + 1, a, hs, h, hl, hi => by
    simp only [loopS, loopI, allI]
    cases hin : ins ts (xs.getD a Ins.no) (a : Int) (to : Int)
    · simp
    · have hia := hi a
      obtain ⟨q1, q2, q3, q4, q5⟩ := needs_ok hin
      simp only [Bool.true_and, Bool.true_eq_false, ↓reduceIte]
      by_cases hm : hs.getD a (-1) < 0
      · rw [if_pos hm, if_pos (by omega)]
        exact loop_same ts xs to f (a + 1) hs (by omega) hl hi
      · rw [if_neg hm, if_neg (show ¬ hs.getD a (-1) = -1 by omega)]
        by_cases ht : hs.getD a (-1) < (needs (xs.getD a Ins.no)).1
        · rw [if_pos (.inl ht), if_pos (.inl ht)]
          simp
        · by_cases hb : 20 < hs.getD a (-1) - (needs (xs.getD a Ins.no)).1 + (needs (xs.getD a Ins.no)).2
          · rw [if_pos (.inr hb), if_neg (by omega)]
            have hop := q5 (by omega)
            have hnx : next (xs.getD a Ins.no) a = [a + 1] := by
              unfold next
              rw [if_neg (by omega), if_neg (by omega)]
              rfl
            rw [hnx]
            have : (match mark hs (hs.getD a (-1) - (needs (xs.getD a Ins.no)).1 + (needs (xs.getD a Ins.no)).2) [a + 1] with
              | none => false
              | some hs' => loopI xs to f (a + 1) hs') = false := by
              split
              · rfl
              · rename_i hs' hmk
                simp only [mark] at hmk
                split at hmk
                · cases hmk
                · simp only [Option.some.injEq] at hmk
                  refine big_no xs to f (a + 1) hs' (by omega) ⟨a + 1, by omega, by omega, ?_⟩
                  rw [← hmk, getD_set, if_pos ⟨rfl, by omega⟩]
                  exact hb
            rw [this, Bool.and_false]
          · rw [if_neg (by omega), if_neg (by omega)]
            cases hmk : mark hs (hs.getD a (-1) - (needs (xs.getD a Ins.no)).1 + (needs (xs.getD a Ins.no)).2) (next (xs.getD a Ins.no) a) with
            | none => simp
            | some hs' =>
              exact loop_same ts xs to f (a + 1) hs' (by omega) (by rw [mark_len hmk]; exact hl) (Inv.mark (by omega) (by omega) hi hmk)
theorem start_len (fr to : Nat) : (start fr to).length = to + 1 := by simp [start]
theorem start_inv (fr to : Nat) : Inv (start fr to) (-1) 20 := by
  unfold start
  refine Inv.set ?_ (by omega) (by omega) fr
  intro j
  rw [List.getD_eq_getElem?_getD, List.getElem?_replicate]
  split <;> simp
theorem part_same (ts : List ByteArray) (xs : List Ins) (fr to : Nat) (h : fr ≤ to) : part ts xs fr to = partI ts xs fr to :=
  loop_same ts xs to (to - fr) fr _ (by omega) (start_len fr to) (start_inv fr to)
end Cd
end PartCdP
section PartSvP
namespace St
/-- The first that p says so of. -/
def first {α : Type} (p : α → Bool) (no : α) : List α → α
  | [] => no
  | x :: r => if p x then x else first p no r
/-- What CellOf answers, the key cut. -/
def cell (cs : List Cl) (name key : ByteArray) : ByteArray := (first (fun x : Cl => (x.name.toList == name.toList) && (x.key.toList == key.toList)) Cl.no cs).val
end St
end PartSvP
section PartOkP
namespace St
/-- What the library's comparison tells. -/
theorem cmp_is : ∀ a b : List UInt8, Lib.compareBytes a b = if Op.bytesLess a b then -1 else if a == b then 0 else 1
  | [], [] => rfl
  | [], _ :: _ => rfl
  | _ :: _, [] => rfl
  | a :: x, b :: y => by
    unfold Lib.compareBytes Op.bytesLess
    rw [cmp_is x y]
    by_cases h : a < b
    · simp [h]
    · by_cases h2 : b < a
      · have hne : ¬ a = b := by intro e; subst e; exact h h2
        simp [h, h2, hne]
      · have e : a = b := by
          have h3 : ¬ a.toNat < b.toNat := h
          have h4 : ¬ b.toNat < a.toNat := h2
          exact UInt8.toNat_inj.1 (by omega)
        subst e
        simp [h]
theorem less_irrefl : ∀ a : List UInt8, Op.bytesLess a a = false
  | [] => rfl
  | a :: x => by
    unfold Op.bytesLess
    rw [less_irrefl x]
    simp
/-- Which of two keys is ahead. -/
def lt2 (a0 a1 b0 b1 : ByteArray) : Bool := Op.bytesLess a0.toList b0.toList || ((a0.toList == b0.toList) && Op.bytesLess a1.toList b1.toList)
/-- What compare of two keys tells. -/
def cmp2 (a0 a1 b0 b1 : ByteArray) : Int := if Lib.compareBytes a0.data.toList b0.data.toList = 0 then Lib.compareBytes a1.data.toList b1.data.toList else Lib.compareBytes a0.data.toList b0.data.toList
theorem cmp2_is (a0 a1 b0 b1 : ByteArray) : decide (0 ≤ cmp2 a0 a1 b0 b1) = !lt2 a0 a1 b0 b1 := by
  unfold cmp2 lt2
  rw [cmp_is, cmp_is]
  simp only [Lib.toList_data]
  cases h0 : Op.bytesLess a0.data.toList b0.data.toList with
  | true => simp
  | false =>
    cases h1 : (a0.data.toList == b0.data.toList) with
    | false => simp
    | true =>
      simp only [Bool.false_eq_true, if_false, if_true]
      cases h2 : Op.bytesLess a1.data.toList b1.data.toList with
      | true => simp
      | false =>
        cases h3 : (a1.data.toList == b1.data.toList) <;> simp
theorem lt2_empty (a b : ByteArray) : lt2 a ByteArray.empty b ByteArray.empty = Op.bytesLess a.toList b.toList := by
  unfold lt2
  rw [less_irrefl]
  simp
def aheadV (vs : List Vr) (i : Nat) : Bool := lt2 (vs.getD (i - 1) Vr.no).name ByteArray.empty (vs.getD i Vr.no).name ByteArray.empty
def aheadC (cs : List Cl) (i : Nat) : Bool := lt2 (cs.getD (i - 1) Cl.no).name (cs.getD (i - 1) Cl.no).key (cs.getD i Cl.no).name (cs.getD i Cl.no).key
def ascV (vs : List Vr) (i : Nat) : Bool := decide (i = 0) || aheadV vs i
def ascC (cs : List Cl) (i : Nat) : Bool := decide (i = 0) || aheadC cs i
def goodV (vs : List Vr) (i : Nat) : Bool := Cd.nm (vs.getD i Vr.no).name.data.toList && decide ((vs.getD i Vr.no).val.size ≤ 40)
def goodC (cs : List Cl) (i : Nat) : Bool := Cd.nm (cs.getD i Cl.no).name.data.toList && (decide ((cs.getD i Cl.no).key.size ≤ 40) && decide ((cs.getD i Cl.no).val.size ≤ 40))
/-- When a store is right. -/
def ok (vs : List Vr) (cs : List Cl) (o : ByteArray) : Bool :=
  decide (vs.length ≤ 60 ∧ cs.length ≤ 2000 ∧ o.size ≤ 3000) && (((List.range vs.length).all (ascV vs) && (List.range cs.length).all (ascC cs)) && ((List.range vs.length).all (goodV vs) && (List.range cs.length).all (goodC cs)))
theorem ok_no_v {vs : List Vr} {cs : List Cl} {o : ByteArray} {i : Nat} (hi : i < vs.length) (h : goodV vs i = false ∨ ascV vs i = false) : ok vs cs o = false := by
  unfold ok
  rcases h with h | h
  · rw [show (List.range vs.length).all (goodV vs) = false from List.all_eq_false.2 ⟨i, List.mem_range.2 hi, by rw [h]; simp⟩]; simp
  · rw [show (List.range vs.length).all (ascV vs) = false from List.all_eq_false.2 ⟨i, List.mem_range.2 hi, by rw [h]; simp⟩]; simp
theorem ok_no_c {vs : List Vr} {cs : List Cl} {o : ByteArray} {i : Nat} (hi : i < cs.length) (h : goodC cs i = false ∨ ascC cs i = false) : ok vs cs o = false := by
  unfold ok
  rcases h with h | h
  · rw [show (List.range cs.length).all (goodC cs) = false from List.all_eq_false.2 ⟨i, List.mem_range.2 hi, by rw [h]; simp⟩]; simp
  · rw [show (List.range cs.length).all (ascC cs) = false from List.all_eq_false.2 ⟨i, List.mem_range.2 hi, by rw [h]; simp⟩]; simp
theorem ok_yes {vs : List Vr} {cs : List Cl} {o : ByteArray} (h1 : ∀ i, i < vs.length → goodV vs i = true ∧ ascV vs i = true) (h2 : ∀ i, i < cs.length → goodC cs i = true ∧ ascC cs i = true) : ok vs cs o = decide (vs.length ≤ 60 ∧ cs.length ≤ 2000 ∧ o.size ≤ 3000) := by
  unfold ok
  rw [List.all_eq_true.2 fun q hq => (h1 q (List.mem_range.1 hq)).2, List.all_eq_true.2 fun q hq => (h2 q (List.mem_range.1 hq)).2, List.all_eq_true.2 fun q hq => (h1 q (List.mem_range.1 hq)).1, List.all_eq_true.2 fun q hq => (h2 q (List.mem_range.1 hq)).1]
  simp
end St
end PartOkP
end Go.Proofs.YtehagonaacbmiaaGreat
