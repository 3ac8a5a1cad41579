/- Plain facts: when code is right. Plain facts, without the program: what is a number among texts, the number of a text, what is cut of it, and the fields of a line. -/
import Derived.Test.YthbblocllicmiadZab
import Derived.Test.YthbblocllicmiadZac
namespace Go.Proofs.Ythbblocllicmiad
section PartCdP
namespace Cd

/-- 1 to 8 letters. -/
def nm (t : List UInt8) : Bool := t.all Tk.letter && decide (1 ≤ t.length ∧ t.length ≤ 8)
def text (ts : List ByteArray) (a : Int) : ByteArray := ts.getD a.toNat ByteArray.empty
/-- Is the arg of an instruction at a place right? -/
def arg (ts : List ByteArray) (x : Ins) (a : Int) (to : Int) : Bool :=
  if x.op = 1 then decide (x.arg < (ts.length : Int))
  else if x.op = 15 then decide (x.arg < (ts.length : Int)) && (Pp.read (text ts x.arg).data.toList).isSome
  else if x.op = 2 ∨ x.op = 3 ∨ x.op = 17 ∨ x.op = 18 ∨ x.op = 19 ∨ x.op = 20 ∨ x.op = 24 then decide (x.arg < (ts.length : Int)) && nm (text ts x.arg).data.toList
  else if x.op = 16 then decide (1 ≤ x.arg ∧ x.arg ≤ 4)
  else if x.op = 21 ∨ x.op = 22 then decide (a < x.arg) && decide (x.arg ≤ to)
  else decide (x.arg = 0)
def ins (ts : List ByteArray) (x : Ins) (a : Int) (to : Int) : Bool := decide (1 ≤ x.op ∧ x.op ≤ 24) && decide (0 ≤ x.arg ∧ x.arg ≤ 255) && arg ts x a to
/-- How many it takes, and how many it puts. -/
def needs (x : Ins) : Int × Int :=
  if x.op = 1 ∨ x.op = 2 ∨ x.op = 5 ∨ x.op = 6 then (0, 1)
  else if x.op = 3 ∨ x.op = 4 ∨ x.op = 7 ∨ x.op = 15 then (1, 1)
  else if x.op = 8 ∨ x.op = 9 ∨ x.op = 10 ∨ x.op = 11 ∨ x.op = 12 ∨ x.op = 13 ∨ x.op = 14 then (2, 1)
  else if x.op = 16 then (x.arg, 0)
  else if x.op = 17 ∨ x.op = 18 ∨ x.op = 21 then (1, 0)
  else if x.op = 19 ∨ x.op = 20 then (2, 0)
  else (0, 0)
/-- Where it goes on. -/
def next (x : Ins) (a : Nat) : List Nat := (if x.op = 23 ∨ x.op = 22 then [] else [a + 1]) ++ (if x.op = 21 ∨ x.op = 22 then [x.arg.toNat] else [])
/-- The height n is told of each of these places, unless one has another. -/
def mark (hs : List Int) (n : Int) : List Nat → Option (List Int)
  | [] => some hs
  | k :: ks => if 0 ≤ hs.getD k (-1) ∧ hs.getD k (-1) ≠ n then none else mark (hs.set k n) n ks
/-- The specification's round. -/
def loopS (ts : List ByteArray) (xs : List Ins) (to : Nat) : Nat → Nat → List Int → Bool
  | 0, _, hs => decide (hs.getD to (-1) ≤ 0)
  | f + 1, a, hs =>
    if ins ts (xs.getD a Ins.no) (a : Int) (to : Int) = false then false
    else if hs.getD a (-1) < 0 then loopS ts xs to f (a + 1) hs
    else if hs.getD a (-1) < (needs (xs.getD a Ins.no)).1 ∨ 20 < hs.getD a (-1) - (needs (xs.getD a Ins.no)).1 + (needs (xs.getD a Ins.no)).2 then false
    else match mark hs (hs.getD a (-1) - (needs (xs.getD a Ins.no)).1 + (needs (xs.getD a Ins.no)).2) (next (xs.getD a Ins.no) a) with
      | none => false
      | some hs' => loopS ts xs to f (a + 1) hs'
/-- The program's round. -/
def loopI (xs : List Ins) (to : Nat) : Nat → Nat → List Int → Bool
  | 0, _, hs => decide (hs.getD to (-1) = -1 ∨ hs.getD to (-1) = 0)
  | f + 1, a, hs =>
    if hs.getD a (-1) = -1 then loopI xs to f (a + 1) hs
    else if hs.getD a (-1) < (needs (xs.getD a Ins.no)).1 ∨ 20 < hs.getD a (-1) then false
    else match mark hs (hs.getD a (-1) - (needs (xs.getD a Ins.no)).1 + (needs (xs.getD a Ins.no)).2) (next (xs.getD a Ins.no) a) with
      | none => false
      | some hs' => loopI xs to f (a + 1) hs'
/-- Is each instruction right? -/
def allI (ts : List ByteArray) (xs : List Ins) (to : Nat) : Nat → Nat → Bool
  | 0, _ => true
  | f + 1, a => ins ts (xs.getD a Ins.no) (a : Int) (to : Int) && allI ts xs to f (a + 1)
def start (fr to : Nat) : List Int := (List.replicate (to + 1) (-1 : Int)).set fr 0
def part (ts : List ByteArray) (xs : List Ins) (fr to : Nat) : Bool := loopS ts xs to (to - fr) fr (start fr to)
def partI (ts : List ByteArray) (xs : List Ins) (fr to : Nat) : Bool := allI ts xs to (to - fr) fr && loopI xs to (to - fr) fr (start fr to)
/-- Is code right? -/
def ok (ts : List ByteArray) (xs : List Ins) (bg ln en : Int) : Bool :=
  ts.all (fun t => decide (t.size ≤ 30)) && (decide (ts.length ≤ 60) && (decide (xs.length ≤ 250) && (decide (bg = 0) && (decide (0 ≤ ln ∧ ln ≤ (xs.length : Int)) && (decide (ln ≤ en ∧ en ≤ (xs.length : Int)) &&
  (part ts xs 0 ln.toNat && (part ts xs ln.toNat en.toNat && part ts xs en.toNat xs.length)))))))

theorem getD_set (hs : List Int) (k j : Nat) (n : Int) : (hs.set k n).getD j (-1) = if j = k ∧ k < hs.length then n else hs.getD j (-1) := by
  simp only [List.getD_eq_getElem?_getD, List.getElem?_set]
  by_cases h : k = j
  · subst h
    by_cases h2 : k < hs.length
    · simp [h2]
    · simp [h2]
  · have : ¬ j = k := fun e => h e.symm
    simp [h, this]
theorem mark_len {n : Int} : ∀ {ks : List Nat} {hs hs' : List Int}, mark hs n ks = some hs' → hs'.length = hs.length
  | [], hs, hs', h => by simp [mark] at h; rw [h]
  | k :: ks, hs, hs', h => by
    simp only [mark] at h
    split at h
    · cases h
    · have := mark_len h
      simpa using this
theorem mark_keep {n : Int} : ∀ {ks : List Nat} {hs hs' : List Int} {j : Nat}, mark hs n ks = some hs' → 0 ≤ hs.getD j (-1) → hs'.getD j (-1) = hs.getD j (-1)
  | [], hs, hs', j, h, _ => by simp [mark] at h; rw [h]
  | k :: ks, hs, hs', j, h, hj => by
    simp only [mark] at h
    split at h
    · cases h
    · rename_i hne
      have e : (hs.set k n).getD j (-1) = hs.getD j (-1) := by
        rw [getD_set]
        by_cases hk : j = k ∧ k < hs.length
        · rw [if_pos hk]
          obtain ⟨rfl, _⟩ := hk
          by_cases e2 : hs.getD j (-1) = n
          · exact e2.symm
          · exact absurd ⟨hj, e2⟩ hne
        · rw [if_neg hk]
      have := mark_keep h (j := j) (by rw [e]; exact hj)
      rw [this, e]
/-- All heights are within. -/
def Inv (hs : List Int) (lo hi : Int) : Prop := ∀ j, lo ≤ hs.getD j (-1) ∧ hs.getD j (-1) ≤ hi
theorem Inv.set {hs : List Int} {lo hi n : Int} (h : Inv hs lo hi) (h1 : lo ≤ n) (h2 : n ≤ hi) (k : Nat) : Inv (hs.set k n) lo hi := by
  intro j
  rw [getD_set]
  split
  · exact ⟨h1, h2⟩
  · exact h j
theorem Inv.mark {lo hi n : Int} (h1 : lo ≤ n) (h2 : n ≤ hi) : ∀ {ks : List Nat} {hs hs' : List Int}, Inv hs lo hi → Cd.mark hs n ks = some hs' → Inv hs' lo hi
  | [], hs, hs', h, e => by simp [Cd.mark] at e; rw [← e]; exact h
  | k :: ks, hs, hs', h, e => by
    simp only [Cd.mark] at e
    split at e
    · cases e
    · exact Inv.mark h1 h2 (h.set h1 h2 k) e

theorem big_no (xs : List Ins) (to : Nat) : ∀ (f a : Nat) (hs : List Int), a + f = to → (∃ k, a ≤ k ∧ k ≤ to ∧ 20 < hs.getD k (-1)) → loopI xs to f a hs = false
  | 0, a, hs, h, ⟨k, h1, h2, h3⟩ => by
    obtain rfl : k = to := by omega
    simp only [loopI]
    exact decide_eq_false (by omega)
  | f + 1, a, hs, h, ⟨k, h1, h2, h3⟩ => by
    simp only [loopI]
    by_cases hm : hs.getD a (-1) = -1
    · rw [if_pos hm]
      have hne : k ≠ a := fun e => by rw [e] at h3; omega
      exact big_no xs to f (a + 1) hs (by omega) ⟨k, by omega, h2, h3⟩
    · rw [if_neg hm]
      split
      · rfl
      · rename_i hno
        split
        · rfl
        · rename_i hs' hmk
          have hne : k ≠ a := fun e => by rw [e] at h3; omega
          exact big_no xs to f (a + 1) hs' (by omega) ⟨k, by omega, h2, by rw [mark_keep hmk (by omega)]; exact h3⟩

theorem needs_ok {ts : List ByteArray} {x : Ins} {a to : Int} (h : ins ts x a to = true) : 0 ≤ (needs x).1 ∧ (needs x).1 ≤ 4 ∧ 0 ≤ (needs x).2 ∧ (needs x).2 ≤ 1 ∧ ((needs x).1 < (needs x).2 → x.op = 1 ∨ x.op = 2 ∨ x.op = 5 ∨ x.op = 6) := by
  have h4 : x.op = 16 → 1 ≤ x.arg ∧ x.arg ≤ 4 := by
    intro e
    unfold ins arg at h
    simp [e] at h
    omega
  unfold needs
  repeat' split
  all_goals first | (simp; done) | (simp; omega) | (simp only; omega)
/-- Jumps go on, within their part. -/
theorem next_ok {ts : List ByteArray} {x : Ins} {a to : Nat} (h : ins ts x (a : Int) (to : Int) = true) (ha : a < to) : ∀ k ∈ next x a, a < k ∧ k ≤ to := by
  have h4 : x.op = 21 ∨ x.op = 22 → (a : Int) < x.arg ∧ x.arg ≤ (to : Int) := by
    intro e
    unfold ins arg at h
    rcases e with e | e <;> simp [e] at h <;> omega
  intro k hk
  unfold next at hk
  simp only [List.mem_append] at hk
  rcases hk with hk | hk
  · split at hk
    · cases hk
    · simp at hk; omega
  · split at hk
    · rename_i hop
      have := h4 hop
      simp at hk
      omega
    · cases hk

theorem loop_same (ts : List ByteArray) (xs : List Ins) (to : Nat) : ∀ (f a : Nat) (hs : List Int), a + f = to → hs.length = to + 1 → Inv hs (-1) 20 → loopS ts xs to f a hs = (allI ts xs to f a && loopI xs to f a hs)
  | 0, a, hs, h, hl, hi => by
    simp only [loopS, loopI, allI, Bool.true_and]
    have := hi to
    rw [decide_eq_decide]
    omega
  | f + 1, a, hs, h, hl, hi => by
    simp only [loopS, loopI, allI]
    cases hin : ins ts (xs.getD a Ins.no) (a : Int) (to : Int)
    · simp
    · have hia := hi a
      obtain ⟨q1, q2, q3, q4, q5⟩ := needs_ok hin
      simp only [Bool.true_and, Bool.true_eq_false, ↓reduceIte]
      by_cases hm : hs.getD a (-1) < 0
      · rw [if_pos hm, if_pos (by omega)]
        exact loop_same ts xs to f (a + 1) hs (by omega) hl hi
      · rw [if_neg hm, if_neg (show ¬ hs.getD a (-1) = -1 by omega)]
        by_cases ht : hs.getD a (-1) < (needs (xs.getD a Ins.no)).1
        · rw [if_pos (.inl ht), if_pos (.inl ht)]
          simp
        · by_cases hb : 20 < hs.getD a (-1) - (needs (xs.getD a Ins.no)).1 + (needs (xs.getD a Ins.no)).2
          · rw [if_pos (.inr hb), if_neg (by omega)]
            have hop := q5 (by omega)
            have hnx : next (xs.getD a Ins.no) a = [a + 1] := by
              unfold next
              rw [if_neg (by omega), if_neg (by omega)]
              rfl
            rw [hnx]
            have : (match mark hs (hs.getD a (-1) - (needs (xs.getD a Ins.no)).1 + (needs (xs.getD a Ins.no)).2) [a + 1] with
              | none => false
              | some hs' => loopI xs to f (a + 1) hs') = false := by
              split
              · rfl
              · rename_i hs' hmk
                simp only [mark] at hmk
                split at hmk
                · cases hmk
                · simp only [Option.some.injEq] at hmk
                  refine big_no xs to f (a + 1) hs' (by omega) ⟨a + 1, by omega, by omega, ?_⟩
                  rw [← hmk, getD_set, if_pos ⟨rfl, by omega⟩]
                  exact hb
            rw [this, Bool.and_false]
          · rw [if_neg (by omega), if_neg (by omega)]
            cases hmk : mark hs (hs.getD a (-1) - (needs (xs.getD a Ins.no)).1 + (needs (xs.getD a Ins.no)).2) (next (xs.getD a Ins.no) a) with
            | none => simp
            | some hs' =>
              exact loop_same ts xs to f (a + 1) hs' (by omega) (by rw [mark_len hmk]; exact hl) (Inv.mark (by omega) (by omega) hi hmk)
theorem start_len (fr to : Nat) : (start fr to).length = to + 1 := by simp [start]
theorem start_inv (fr to : Nat) : Inv (start fr to) (-1) 20 := by
  unfold start
  refine Inv.set ?_ (by omega) (by omega) fr
  intro j
  rw [List.getD_eq_getElem?_getD, List.getElem?_replicate]
  split <;> simp
theorem part_same (ts : List ByteArray) (xs : List Ins) (fr to : Nat) (h : fr ≤ to) : part ts xs fr to = partI ts xs fr to :=
  loop_same ts xs to (to - fr) fr _ (by omega) (start_len fr to) (start_inv fr to)
end Cd
end PartCdP
section PartPV
namespace Pv

/-- Is it a figure? -/
def fg (b : UInt8) : Bool := decide (48 ≤ b.toNat ∧ b.toNat ≤ 57)
/-- Is it a number: one to six figures, and nothing else? -/
def isn (l : List UInt8) : Bool := l.all fg && decide (1 ≤ l.length ∧ l.length ≤ 6)
theorem isn_no (s : ByteArray) (k : Nat) (h : k < s.size) (hb : s[k].toNat < 48 ∨ 57 < s[k].toNat) : isn s.data.toList = false := by
  have : s.data.toList.all fg = false := by
    rw [List.all_eq_false]
    refine ⟨s[k], List.getElem_mem (l := s.data.toList) (by simpa using h), ?_⟩
    simp [fg]; omega
  simp [isn, this]
theorem isn_size (s : ByteArray) (h : s.size < 1 ∨ 6 < s.size) : isn s.data.toList = false := by
  have e : s.data.toList.length = s.size := by simp
  unfold isn
  rw [e, Bool.and_eq_false_iff]
  right
  simp; omega
theorem isn_all (s : ByteArray) (h : ∀ k (hk : k < s.size), 48 ≤ s[k].toNat ∧ s[k].toNat ≤ 57) : isn s.data.toList = decide (1 ≤ s.size ∧ s.size ≤ 6) := by
  have e : s.data.toList.length = s.size := by simp
  have : s.data.toList.all fg = true := by
    rw [List.all_eq_true]
    intro b hb
    obtain ⟨i, hi, rfl⟩ := List.mem_iff_getElem.1 hb
    exact decide_eq_true (h i (by simpa using hi))
  unfold isn
  rw [this, e, Bool.true_and]

/-- The number that n grows to by the figures ahead. -/
def num : Nat → List UInt8 → Nat
  | n, [] => n
  | n, b :: r => if fg b then num ((n * 10 + (b.toNat - 48)) % 1000000) r else n
/-- Without the blanks ahead. -/
def skip (l : List UInt8) : List UInt8 := l.dropWhile (· == 32)
/-- The number of a text. -/
def nof (l : List UInt8) : Nat := num 0 (skip l)
theorem num_lt (n : Nat) (l : List UInt8) (h : n < 1000000) : num n l < 1000000 := by
  induction l generalizing n with
  | nil => exact h
  | cons b r ih =>
    rw [num]
    split
    · exact ih _ (Nat.mod_lt _ (by omega))
    · exact h
theorem nof_lt (l : List UInt8) : nof l < 1000000 := num_lt 0 _ (by omega)
theorem num_fig (n : Nat) (b : UInt8) (r : List UInt8) (h1 : 48 ≤ b.toNat) (h2 : b.toNat ≤ 57) : num n (b :: r) = num ((n * 10 + (b.toNat - 48)) % 1000000) r := by
  rw [num, if_pos (by simp [fg]; omega)]
theorem num_stop (n : Nat) (b : UInt8) (r : List UInt8) (h : b.toNat < 48 ∨ 57 < b.toNat) : num n (b :: r) = n := by
  rw [num, if_neg (by simp [fg]; omega)]
theorem skip_blank (b : UInt8) (r : List UInt8) (h : b.toNat = 32) : skip (b :: r) = skip r := by
  have : b = 32 := UInt8.toNat_inj.1 (by rw [h]; rfl)
  subst this
  simp [skip]
theorem skip_sign (b : UInt8) (r : List UInt8) (h : b.toNat ≠ 32) : skip (b :: r) = b :: r := by
  have : ¬ b = 32 := by intro e; apply h; rw [e]; rfl
  simp [skip, this]
theorem drop_at (s : ByteArray) (k : Nat) (h : k < s.size) : s.data.toList.drop k = s[k] :: s.data.toList.drop (k + 1) := by
  rw [List.drop_eq_getElem_cons (by simpa using h)]; rfl
theorem drop_end (s : ByteArray) (k : Nat) (h : s.size ≤ k) : s.data.toList.drop k = [] := List.drop_of_length_le (by simpa using h)
theorem skip_len (l : List UInt8) : (skip l).length ≤ l.length := by
  unfold skip
  exact (List.dropWhile_suffix _).length_le

/-- What is cut of a text. -/
def cut (l : List UInt8) : List UInt8 := l.take 40
theorem cut_len (l : List UInt8) : (cut l).length ≤ 40 := by simp [cut]; omega
theorem cut_cut (l : List UInt8) : cut (cut l) = cut l := by
  unfold cut
  rw [List.take_take]
  rfl
theorem cut_short (l : List UInt8) (h : l.length ≤ 40) : cut l = l := List.take_of_length_le h

/-- Does it part fields? -/
def gap (b : UInt8) : Bool := decide (b.toNat = 32 ∨ b.toNat = 9)
/-- The parts of what is left, cur being read already. -/
def fld : List UInt8 → List UInt8 → List (List UInt8)
  | cur, [] => if cur = [] then [] else [cut cur]
  | cur, b :: r => if gap b then (if cur = [] then fld [] r else cut cur :: fld [] r) else fld (cur ++ [b]) r
/-- The fields of a line. -/
def flds (l : List UInt8) : List (List UInt8) := (fld [] l).take 20
theorem fld_end (cur : List UInt8) (h : cur ≠ []) : fld cur [] = [cut cur] := by rw [fld, if_neg h]
theorem fld_end0 : fld [] [] = [] := rfl
theorem fld_gap (cur : List UInt8) (h : cur ≠ []) (b : UInt8) (hb : gap b = true) (r : List UInt8) : fld cur (b :: r) = cut cur :: fld [] r := by rw [fld, if_pos hb, if_neg h]
theorem fld_gap0 (b : UInt8) (hb : gap b = true) (r : List UInt8) : fld [] (b :: r) = fld [] r := by rw [fld, if_pos hb, if_pos rfl]
theorem fld_sign (cur : List UInt8) (b : UInt8) (h : gap b = false) (r : List UInt8) : fld cur (b :: r) = fld (cur ++ [b]) r := by rw [fld, if_neg (by rw [h]; decide)]
theorem flds_len (l : List UInt8) : (flds l).length ≤ 20 := by simp [flds]; omega
theorem cur_more (s : ByteArray) (p k : Nat) (hp : p ≤ k) (h : k < s.size) : (s.data.toList.drop p).take (k - p) ++ [s[k]] = (s.data.toList.drop p).take (k + 1 - p) := by
  rw [show k + 1 - p = (k - p) + 1 by omega, List.take_add_one]
  congr 1
  rw [List.getElem?_drop, show p + (k - p) = k by omega, List.getElem?_eq_getElem (by simpa using h)]
  rfl
theorem cur_ne (s : ByteArray) (p k : Nat) (hp : p < k) (h : k ≤ s.size) : (s.data.toList.drop p).take (k - p) ≠ [] := by
  intro e
  have := congrArg List.length e
  simp at this
  omega
theorem cur_nil (s : ByteArray) (k : Nat) : (s.data.toList.drop k).take (k - k) = [] := by simp

/-- What is held at a round's head: ws are the fields that are done (no more than twenty), the next one begins at p, k signs are read. -/
structure At (s : ByteArray) (k p : Nat) (ws : List (List UInt8)) : Prop where
  inside : k ≤ s.size → p ≤ k ∧ (ws ++ fld ((s.data.toList.drop p).take (k - p)) (s.data.toList.drop k)).take 20 = flds s.data.toList
  over : s.size < k → ws = flds s.data.toList
  few : ws.length ≤ 20
theorem At.start (s : ByteArray) : At s 0 0 [] := ⟨fun _ => ⟨Nat.le_refl _, rfl⟩, fun h => by omega, by simp⟩
theorem At.sign {s : ByteArray} {k p : Nat} {ws : List (List UInt8)} (h : At s k p ws) (hk : k < s.size) (hb : s[k].toNat ≠ 32) (hb2 : s[k].toNat ≠ 9) : At s (k + 1) p ws := by
  obtain ⟨i1, i2⟩ := h.inside (by omega)
  refine ⟨fun _ => ⟨by omega, ?_⟩, fun ho => by omega, h.few⟩
  rw [← i2, drop_at s k hk, fld_sign _ _ (by simp [gap, hb, hb2]), cur_more s p k i1 hk]
theorem At.gap {s : ByteArray} {k p : Nat} {ws : List (List UInt8)} (h : At s k p ws) (hk : k < s.size) (hb : s[k].toNat = 32 ∨ s[k].toNat = 9) :
    (p < k → ws.length < 20 → At s (k + 1) (k + 1) (ws ++ [cut ((s.data.toList.drop p).take (k - p))])) ∧ (p < k → 20 ≤ ws.length → At s (k + 1) (k + 1) ws) ∧ (¬ p < k → At s (k + 1) (k + 1) ws) := by
  obtain ⟨i1, i2⟩ := h.inside (by omega)
  have hg : Pv.gap s[k] = true := decide_eq_true hb
  refine ⟨fun hp hw => ?_, fun hp hw => ?_, fun hp => ?_⟩
  · refine ⟨fun _ => ⟨Nat.le_refl _, ?_⟩, fun ho => by omega, by simp; omega⟩
    rw [← i2, drop_at s k hk, fld_gap _ (cur_ne s p k hp (by omega)) _ hg, cur_nil]
    simp
  · have hw2 : ws.length = 20 := by have := h.few; omega
    refine ⟨fun _ => ⟨Nat.le_refl _, ?_⟩, fun ho => by omega, h.few⟩
    rw [← i2, List.take_append_of_le_length (by omega), List.take_append_of_le_length (by omega)]
  · obtain rfl : p = k := by omega
    refine ⟨fun _ => ⟨Nat.le_refl _, ?_⟩, fun ho => by omega, h.few⟩
    rw [← i2, cur_nil, cur_nil, drop_at s p hk, fld_gap0 _ hg]
theorem At.last {s : ByteArray} {k p : Nat} {ws : List (List UInt8)} (h : At s k p ws) (hk : k = s.size) :
    (p < k → ws.length < 20 → At s (k + 1) (k + 1) (ws ++ [cut ((s.data.toList.drop p).take (k - p))])) ∧ (p < k → 20 ≤ ws.length → At s (k + 1) (k + 1) ws) ∧ (¬ p < k → At s (k + 1) (k + 1) ws) := by
  obtain ⟨i1, i2⟩ := h.inside (by omega)
  have hd : s.data.toList.drop k = [] := drop_end s k (by omega)
  rw [hd] at i2
  refine ⟨fun hp hw => ?_, fun hp hw => ?_, fun hp => ?_⟩
  · refine ⟨fun ho => by omega, fun _ => ?_, by simp; omega⟩
    rw [← i2, fld_end _ (cur_ne s p k hp (by omega))]
    exact (List.take_of_length_le (by rw [List.length_append, List.length_singleton]; omega)).symm
  · have hw2 : ws.length = 20 := by have := h.few; omega
    refine ⟨fun ho => by omega, fun _ => ?_, h.few⟩
    rw [← i2, List.take_append_of_le_length (by omega), List.take_of_length_le (by omega)]
  · obtain rfl : p = k := by omega
    refine ⟨fun ho => by omega, fun _ => ?_, h.few⟩
    rw [← i2, cur_nil, fld_end0, List.append_nil, List.take_of_length_le h.few]
/-- Twenty fields are all. -/
theorem At.full {s : ByteArray} {k p : Nat} {ws : List (List UInt8)} (h : At s k p ws) (hw : 20 ≤ ws.length) : ws = flds s.data.toList := by
  by_cases hk : k ≤ s.size
  · obtain ⟨i1, i2⟩ := h.inside hk
    rw [← i2, List.take_append_of_le_length hw, List.take_of_length_le h.few]
  · exact h.over (by omega)
end Pv
end PartPV
end Go.Proofs.Ythbblocllicmiad
