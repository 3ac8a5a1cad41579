/- When a pattern is right: what PatternOk of the program answers, at every pattern. Plain facts: where a piece of a pattern may end. -/
import Derived.Test.YtlnmbahakdmkgaaPtA
namespace Go.Proofs.Ytlnmbahakdmkgaa
section PartPtD
open Go.RowKit
namespace Pk
/-- How many kids a piece of this kind has. -/
def kw (op : Int) : Nat := if op = 5 ∨ op = 6 then 2 else if op = 7 ∨ op = 8 ∨ op = 9 then 1 else 0
/-- Is a text of n bytes right for this kind? -/
def tx (op : Int) (n : Nat) : Bool := if op = 1 then decide (n = 1) else if op = 3 ∨ op = 4 then decide (1 ≤ n ∧ n ≤ 24) else decide (n = 0)
/-- Are all of them places ahead of i? -/
def ahead (i : Nat) (ks : List Int) : Bool := ks.all fun k => decide (0 ≤ k ∧ k < (i : Int))
def piece (i : Nat) (p : Pi) : Bool := decide (1 ≤ p.op ∧ p.op ≤ 12) && (ahead i p.kids && (decide (p.kids.length = kw p.op) && tx p.op p.text.size))
def upto (ps : List Pi) (n : Nat) : Bool := (List.range n).all fun i => piece i (ps.getD i Pi.no)
def pat (ps : List Pi) : Bool := decide (1 ≤ ps.length ∧ ps.length ≤ 60) && upto ps ps.length
theorem ahead_take (i : Nat) (ks : List Int) (k : Nat) (h : k < ks.length) : ahead i (ks.take (k + 1)) = (ahead i (ks.take k) && decide (0 ≤ ks.getD k 0 ∧ ks.getD k 0 < (i : Int))) := by
  unfold ahead
  rw [List.take_succ_eq_append_getElem h, List.all_append]
  simp [h]
theorem ahead_false (i : Nat) (ks : List Int) (k : Nat) (h : k < ks.length) (hb : ¬ (0 ≤ ks.getD k 0 ∧ ks.getD k 0 < (i : Int))) : ahead i ks = false := by
  unfold ahead
  rw [List.all_eq_false]
  refine ⟨ks[k], List.getElem_mem _, ?_⟩
  simp [h] at hb ⊢
  exact hb
theorem upto_succ (ps : List Pi) (n : Nat) : upto ps (n + 1) = (upto ps n && piece n (ps.getD n Pi.no)) := by
  unfold upto
  rw [List.range_succ, List.all_append]
  simp
theorem upto_false (ps : List Pi) (n k : Nat) (h : k < n) (hp : piece k (ps.getD k Pi.no) = false) : upto ps n = false := by
  unfold upto
  rw [List.all_eq_false]
  exact ⟨k, List.mem_range.2 h, by rw [hp]; simp⟩
theorem empty_of (s : ByteArray) : s.toList.isEmpty = decide (s.size = 0) := by
  rw [Lib.toList_data]
  have e : s.size = s.data.toList.length := by simp
  rw [e]
  cases s.data.toList <;> simp
end Pk

set_option maxHeartbeats 800000 in
theorem kidsWanted_any (op : Int) (w : World) :
    Calls Try.prog 64 #[.int .i64 op] w fun e w' => e = .returned (.int .i64 ((Pk.kw op : Nat) : Int)) ∧ w' = w := by
  have key : op = 5 ∨ op = 6 ∨ op = 7 ∨ op = 8 ∨ op = 9 ∨ (op ≠ 5 ∧ op ≠ 6 ∧ op ≠ 7 ∧ op ≠ 8 ∧ op ≠ 9) := by omega
  rcases key with rfl | rfl | rfl | rfl | rfl | ⟨h5, h6, h7, h8, h9⟩
  · go_enter Try.func64, Try.ntmps64
    go_wp2
    go_ret
    exact ⟨rfl, rfl⟩
  · go_enter Try.func64, Try.ntmps64
    go_wp2
    go_ret
    exact ⟨rfl, rfl⟩
  · go_enter Try.func64, Try.ntmps64
    go_wp2
    go_ret
    exact ⟨rfl, rfl⟩
  · go_enter Try.func64, Try.ntmps64
    go_wp2
    go_ret
    exact ⟨rfl, rfl⟩
  · go_enter Try.func64, Try.ntmps64
    go_wp2
    go_ret
    exact ⟨rfl, rfl⟩
  · have e : Pk.kw op = 0 := by simp [Pk.kw, h5, h6, h7, h8, h9]
    rw [e]
    have d5 : (op == 5) = false := by simpa using h5
    have d6 : (op == 6) = false := by simpa using h6
    have d7 : (op == 7) = false := by simpa using h7
    have d8 : (op == 8) = false := by simpa using h8
    have d9 : (op == 9) = false := by simpa using h9
    clear h5 h6 h7 h8 h9 e
    go_enter Try.func64, Try.ntmps64
    go_wp2
    go_ret
    exact ⟨rfl, rfl⟩

set_option maxHeartbeats 800000 in
theorem textOk_any (op : Int) (t : ByteArray) (a : Option Addr) (l c : Nat) (w : World) :
    Calls Try.prog 65 #[.agg #[.int .i64 op, .string t, .slice a l c]] w fun e w' => e = .returned (.bool (Pk.tx op t.size)) ∧ Below w.heap.size w w' := by
  have key : op = 1 ∨ op = 3 ∨ op = 4 ∨ (op ≠ 1 ∧ op ≠ 3 ∧ op ≠ 4) := by omega
  rcases key with rfl | rfl | rfl | ⟨h1, h3, h4⟩
  · have e : Pk.tx 1 t.size = ((t.size : Int) == 1) := by
      by_cases h : t.size = 1
      · simp [Pk.tx, h]
      · have h2 : ((t.size : Int) == 1) = false := by simp; omega
        rw [h2]
        simp [Pk.tx, h]
    rw [e]
    go_enter Try.func65, Try.ntmps65
    go_wp2
    go_ret
    exact ⟨rfl, (Below.refl _ _).alloc (Nat.le_refl _) _⟩
  · by_cases h1 : 1 ≤ t.size
    · have d1 : decide ((1 : Int) ≤ (t.size : Int)) = true := by simp; omega
      have e : Pk.tx 3 t.size = decide ((t.size : Int) ≤ 24) := by
        by_cases h : t.size ≤ 24
        · have h2 : decide ((t.size : Int) ≤ 24) = true := by simp; omega
          rw [h2]
          simp [Pk.tx]; omega
        · have h2 : decide ((t.size : Int) ≤ 24) = false := by simp; omega
          rw [h2]
          simp [Pk.tx]; omega
      rw [e]
      go_enter Try.func65, Try.ntmps65
      go_wp2
      go_ret
      exact ⟨rfl, (Below.refl _ _).alloc (Nat.le_refl _) _⟩
    · have d1 : decide ((1 : Int) ≤ (t.size : Int)) = false := by simp; omega
      have e : Pk.tx 3 t.size = false := by simp [Pk.tx]; omega
      rw [e]
      go_enter Try.func65, Try.ntmps65
      go_wp2
      go_ret
      exact ⟨rfl, (Below.refl _ _).alloc (Nat.le_refl _) _⟩
  · by_cases h1 : 1 ≤ t.size
    · have d1 : decide ((1 : Int) ≤ (t.size : Int)) = true := by simp; omega
      have e : Pk.tx 4 t.size = decide ((t.size : Int) ≤ 24) := by
        by_cases h : t.size ≤ 24
        · have h2 : decide ((t.size : Int) ≤ 24) = true := by simp; omega
          rw [h2]
          simp [Pk.tx]; omega
        · have h2 : decide ((t.size : Int) ≤ 24) = false := by simp; omega
          rw [h2]
          simp [Pk.tx]; omega
      rw [e]
      go_enter Try.func65, Try.ntmps65
      go_wp2
      go_ret
      exact ⟨rfl, (Below.refl _ _).alloc (Nat.le_refl _) _⟩
    · have d1 : decide ((1 : Int) ≤ (t.size : Int)) = false := by simp; omega
      have e : Pk.tx 4 t.size = false := by simp [Pk.tx]; omega
      rw [e]
      go_enter Try.func65, Try.ntmps65
      go_wp2
      go_ret
      exact ⟨rfl, (Below.refl _ _).alloc (Nat.le_refl _) _⟩
  · have d1 : (op == 1) = false := by simpa using h1
    have d3 : (op == 3) = false := by simpa using h3
    have d4 : (op == 4) = false := by simpa using h4
    have e : Pk.tx op t.size = decide (t.size = 0) := by simp [Pk.tx, h1, h3, h4]
    rw [e]
    clear h1 h3 h4 e
    rw [show decide (t.size = 0) = t.toList.isEmpty by rw [Pk.empty_of]]
    go_enter Try.func65, Try.ntmps65
    go_wp2
    go_ret
    exact ⟨rfl, (Below.refl _ _).alloc (Nat.le_refl _) _⟩

end PartPtD
section PartPEn
namespace En

/-- Does a piece take this byte? -/
def takes (p : Pi) (b : UInt8) : Bool := if p.op = 2 then true else (decide (b ∈ p.text.data.toList)) == decide (p.op ≠ 4)
def kid (p : Pi) (i : Nat) : Nat := (p.kids.getD i 0).toNat

/-- Piece k of ps, taken from place i of s on, may end at j. -/
inductive Ends (ps : List Pi) (s : ByteArray) : Nat → Nat → Nat → Prop
  | one {k i : Nat} (h : i < s.size) (hop : (ps.getD k Pi.no).op = 1 ∨ (ps.getD k Pi.no).op = 2 ∨ (ps.getD k Pi.no).op = 3 ∨ (ps.getD k Pi.no).op = 4) (ht : takes (ps.getD k Pi.no) s[i] = true) : Ends ps s k i (i + 1)
  | begin {k i : Nat} (hop : (ps.getD k Pi.no).op = 10) (h : i = 0) : Ends ps s k i i
  | fin {k i : Nat} (hop : (ps.getD k Pi.no).op = 11) (h : i = s.size) : Ends ps s k i i
  | none {k i : Nat} (hop : (ps.getD k Pi.no).op = 12) : Ends ps s k i i
  | cat {k i j e : Nat} (hop : (ps.getD k Pi.no).op = 5) (h1 : Ends ps s (kid (ps.getD k Pi.no) 0) i j) (h2 : Ends ps s (kid (ps.getD k Pi.no) 1) j e) : Ends ps s k i e
  | altl {k i e : Nat} (hop : (ps.getD k Pi.no).op = 6) (h1 : Ends ps s (kid (ps.getD k Pi.no) 0) i e) : Ends ps s k i e
  | altr {k i e : Nat} (hop : (ps.getD k Pi.no).op = 6) (h1 : Ends ps s (kid (ps.getD k Pi.no) 1) i e) : Ends ps s k i e
  | opt0 {k i : Nat} (hop : (ps.getD k Pi.no).op = 9) : Ends ps s k i i
  | opt1 {k i e : Nat} (hop : (ps.getD k Pi.no).op = 9) (h1 : Ends ps s (kid (ps.getD k Pi.no) 0) i e) : Ends ps s k i e
  | star0 {k i : Nat} (hop : (ps.getD k Pi.no).op = 7) : Ends ps s k i i
  | star1 {k i j e : Nat} (hop : (ps.getD k Pi.no).op = 7) (h1 : Ends ps s (kid (ps.getD k Pi.no) 0) i j) (h2 : Ends ps s k j e) : Ends ps s k i e
  | plus0 {k i e : Nat} (hop : (ps.getD k Pi.no).op = 8) (h1 : Ends ps s (kid (ps.getD k Pi.no) 0) i e) : Ends ps s k i e
  | plus1 {k i j e : Nat} (hop : (ps.getD k Pi.no).op = 8) (h1 : Ends ps s (kid (ps.getD k Pi.no) 0) i j) (h2 : Ends ps s k j e) : Ends ps s k i e

/-- Again and again: from i on, by steps of piece k, none at least. -/
inductive Reach (ps : List Pi) (s : ByteArray) (k : Nat) : Nat → Nat → Prop
  | here {i : Nat} : Reach ps s k i i
  | step {i j e : Nat} (h1 : Reach ps s k i j) (h2 : Ends ps s k j e) : Reach ps s k i e

theorem Reach.head {ps : List Pi} {s : ByteArray} {k i j e : Nat} (h : Ends ps s k i j) (r : Reach ps s k j e) : Reach ps s k i e := by
  induction r with
  | here => exact .step .here h
  | step _ h2 ih => exact .step ih h2

theorem star_of {ps : List Pi} {s : ByteArray} {k i e : Nat} (hop : (ps.getD k Pi.no).op = 7) (r : Reach ps s (kid (ps.getD k Pi.no) 0) i e) : Ends ps s k i e := by
  have key : ∀ i e, Reach ps s (kid (ps.getD k Pi.no) 0) i e → ∀ f, Ends ps s k e f → Ends ps s k i f := by
    intro i e r
    induction r with
    | here => exact fun f h => h
    | step _ h2 ih => exact fun f h => ih f (.star1 hop h2 h)
  exact key i e r e (.star0 hop)
theorem plus_of {ps : List Pi} {s : ByteArray} {k i j e : Nat} (hop : (ps.getD k Pi.no).op = 8) (h : Ends ps s (kid (ps.getD k Pi.no) 0) i j) (r : Reach ps s (kid (ps.getD k Pi.no) 0) j e) : Ends ps s k i e := by
  have key : ∀ j e, Reach ps s (kid (ps.getD k Pi.no) 0) j e → ∀ i, Ends ps s (kid (ps.getD k Pi.no) 0) i j → Reach ps s (kid (ps.getD k Pi.no) 0) i e := fun j e r i h => Reach.head h r
  have key2 : ∀ i e, Reach ps s (kid (ps.getD k Pi.no) 0) i e → ∀ f, Ends ps s (kid (ps.getD k Pi.no) 0) e f → Ends ps s k i f := by
    intro i e r
    induction r with
    | here => exact fun f h => .plus0 hop h
    | step r1 h2 ih =>
      intro f hf
      have h3 := ih _ h2
      have : ∀ i e, Ends ps s k i e → (ps.getD k Pi.no).op = 8 → Ends ps s (kid (ps.getD k Pi.no) 0) e f → Ends ps s k i f := by
        intro i e hh
        generalize hk : k = k' at hh
        induction hh with
        | plus0 hop2 h1 => subst hk; exact fun _ hf => .plus1 hop2 h1 (.plus0 hop2 hf)
        | plus1 hop2 h1 _ _ ih2 => subst hk; exact fun ho hf => .plus1 hop2 h1 (ih2 rfl ho hf)
        | one h ho ht => subst hk; exact fun h8 _ => absurd h8 (by omega)
        | begin ho => subst hk; exact fun h8 _ => absurd h8 (by omega)
        | fin ho => subst hk; exact fun h8 _ => absurd h8 (by omega)
        | none ho => subst hk; exact fun h8 _ => absurd h8 (by omega)
        | cat ho => subst hk; exact fun h8 _ => absurd h8 (by omega)
        | altl ho => subst hk; exact fun h8 _ => absurd h8 (by omega)
        | altr ho => subst hk; exact fun h8 _ => absurd h8 (by omega)
        | opt0 ho => subst hk; exact fun h8 _ => absurd h8 (by omega)
        | opt1 ho => subst hk; exact fun h8 _ => absurd h8 (by omega)
        | star0 ho => subst hk; exact fun h8 _ => absurd h8 (by omega)
        | star1 ho => subst hk; exact fun h8 _ => absurd h8 (by omega)
      exact this _ _ h3 hop hf
  cases key j e r i h with
  | here => cases r with
    | here => exact .plus0 hop h
    | step r1 h2 => exact key2 _ _ (Reach.head h r1) _ h2
  | step r1 h2 => exact key2 _ _ r1 _ h2

/-- What a star takes is what is reached, and the other way round. -/
theorem star_iff {ps : List Pi} {s : ByteArray} {k i e : Nat} (hop : (ps.getD k Pi.no).op = 7) : Ends ps s k i e ↔ Reach ps s (kid (ps.getD k Pi.no) 0) i e := by
  refine ⟨fun h => ?_, star_of hop⟩
  generalize hk : k = k' at h
  induction h with
  | star0 _ => exact .here
  | star1 ho h1 _ _ ih2 => subst hk; exact Reach.head h1 (ih2 rfl)
  | one h ho ht => subst hk; omega
  | begin ho => subst hk; omega
  | fin ho => subst hk; omega
  | none ho => subst hk; omega
  | cat ho => subst hk; omega
  | altl ho => subst hk; omega
  | altr ho => subst hk; omega
  | opt0 ho => subst hk; omega
  | opt1 ho => subst hk; omega
  | plus0 ho => subst hk; omega
  | plus1 ho => subst hk; omega
theorem plus_iff {ps : List Pi} {s : ByteArray} {k i e : Nat} (hop : (ps.getD k Pi.no).op = 8) : Ends ps s k i e ↔ ∃ j, Ends ps s (kid (ps.getD k Pi.no) 0) i j ∧ Reach ps s (kid (ps.getD k Pi.no) 0) j e := by
  refine ⟨fun h => ?_, fun ⟨j, h, r⟩ => plus_of hop h r⟩
  generalize hk : k = k' at h
  induction h with
  | plus0 ho h1 => subst hk; exact ⟨_, h1, .here⟩
  | plus1 ho h1 _ _ ih2 => subst hk; obtain ⟨j, h2, r⟩ := ih2 rfl; exact ⟨_, h1, Reach.head h2 r⟩
  | star0 ho => subst hk; omega
  | star1 ho => subst hk; omega
  | one h ho ht => subst hk; omega
  | begin ho => subst hk; omega
  | fin ho => subst hk; omega
  | none ho => subst hk; omega
  | cat ho => subst hk; omega
  | altl ho => subst hk; omega
  | altr ho => subst hk; omega
  | opt0 ho => subst hk; omega
  | opt1 ho => subst hk; omega

/-- What is taken ends behind where it began, and within the text. -/
theorem Ends.le {ps : List Pi} {s : ByteArray} {k i e : Nat} (h : Ends ps s k i e) : i ≤ e ∧ (i ≤ s.size → e ≤ s.size) := by
  induction h with
  | one h => omega
  | begin => omega
  | fin => omega
  | none => omega
  | cat _ _ _ i1 i2 => omega
  | altl _ _ i1 => omega
  | altr _ _ i1 => omega
  | opt0 => omega
  | opt1 _ _ i1 => omega
  | star0 => omega
  | star1 _ _ _ i1 i2 => omega
  | plus0 _ _ i1 => omega
  | plus1 _ _ _ i1 i2 => omega
end En
end PartPEn
end Go.Proofs.Ytlnmbahakdmkgaa
