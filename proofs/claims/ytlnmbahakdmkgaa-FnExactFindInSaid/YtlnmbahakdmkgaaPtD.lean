/- When a pattern is right: what PatternOk of the program answers, at every pattern. -/
import Derived.Test.YtlnmbahakdmkgaaPtA
namespace Go.Proofs.Ytlnmbahakdmkgaa
open Go.RowKit
namespace Pk
/-- How many kids a piece of this kind has. -/
def kw (op : Int) : Nat := if op = 5 ∨ op = 6 then 2 else if op = 7 ∨ op = 8 ∨ op = 9 then 1 else 0
/-- Is a text of n bytes right for this kind? -/
def tx (op : Int) (n : Nat) : Bool := if op = 1 then decide (n = 1) else if op = 3 ∨ op = 4 then decide (1 ≤ n ∧ n ≤ 24) else decide (n = 0)
/-- Are all of them places ahead of i? -/
def ahead (i : Nat) (ks : List Int) : Bool := ks.all fun k => decide (0 ≤ k ∧ k < (i : Int))
def piece (i : Nat) (p : Pi) : Bool := decide (1 ≤ p.op ∧ p.op ≤ 12) && (ahead i p.kids && (decide (p.kids.length = kw p.op) && tx p.op p.text.size))
def upto (ps : List Pi) (n : Nat) : Bool := (List.range n).all fun i => piece i (ps.getD i Pi.no)
def pat (ps : List Pi) : Bool := decide (1 ≤ ps.length ∧ ps.length ≤ 60) && upto ps ps.length
theorem ahead_take (i : Nat) (ks : List Int) (k : Nat) (h : k < ks.length) : ahead i (ks.take (k + 1)) = (ahead i (ks.take k) && decide (0 ≤ ks.getD k 0 ∧ ks.getD k 0 < (i : Int))) := by
  unfold ahead
  rw [List.take_succ_eq_append_getElem h, List.all_append]
  simp [h]
theorem ahead_false (i : Nat) (ks : List Int) (k : Nat) (h : k < ks.length) (hb : ¬ (0 ≤ ks.getD k 0 ∧ ks.getD k 0 < (i : Int))) : ahead i ks = false := by
  unfold ahead
  rw [List.all_eq_false]
  refine ⟨ks[k], List.getElem_mem _, ?_⟩
  simp [h] at hb ⊢
  exact hb
theorem upto_succ (ps : List Pi) (n : Nat) : upto ps (n + 1) = (upto ps n && piece n (ps.getD n Pi.no)) := by
  unfold upto
  rw [List.range_succ, List.all_append]
  simp
theorem upto_false (ps : List Pi) (n k : Nat) (h : k < n) (hp : piece k (ps.getD k Pi.no) = false) : upto ps n = false := by
  unfold upto
  rw [List.all_eq_false]
  exact ⟨k, List.mem_range.2 h, by rw [hp]; simp⟩
theorem empty_of (s : ByteArray) : s.toList.isEmpty = decide (s.size = 0) := by
  rw [Lib.toList_data]
  have e : s.size = s.data.toList.length := by simp
  rw [e]
  cases s.data.toList <;> simp
end Pk

set_option maxHeartbeats 800000 in
theorem kidsWanted_any (op : Int) (w : World) :
    Calls Try.prog 64 #[.int .i64 op] w fun e w' => e = .returned (.int .i64 ((Pk.kw op : Nat) : Int)) ∧ w' = w := by
  have key : op = 5 ∨ op = 6 ∨ op = 7 ∨ op = 8 ∨ op = 9 ∨ (op ≠ 5 ∧ op ≠ 6 ∧ op ≠ 7 ∧ op ≠ 8 ∧ op ≠ 9) := by omega
  rcases key with rfl | rfl | rfl | rfl | rfl | ⟨h5, h6, h7, h8, h9⟩
  · go_enter Try.func64, Try.ntmps64
    go_wp2
    go_ret
    exact ⟨rfl, rfl⟩
  · go_enter Try.func64, Try.ntmps64
    go_wp2
    go_ret
    exact ⟨rfl, rfl⟩
  · go_enter Try.func64, Try.ntmps64
    go_wp2
    go_ret
    exact ⟨rfl, rfl⟩
  · go_enter Try.func64, Try.ntmps64
    go_wp2
    go_ret
    exact ⟨rfl, rfl⟩
  · go_enter Try.func64, Try.ntmps64
    go_wp2
    go_ret
    exact ⟨rfl, rfl⟩
  · have e : Pk.kw op = 0 := by simp [Pk.kw, h5, h6, h7, h8, h9]
    rw [e]
    have d5 : (op == 5) = false := by simpa using h5
    have d6 : (op == 6) = false := by simpa using h6
    have d7 : (op == 7) = false := by simpa using h7
    have d8 : (op == 8) = false := by simpa using h8
    have d9 : (op == 9) = false := by simpa using h9
    clear h5 h6 h7 h8 h9 e
    go_enter Try.func64, Try.ntmps64
    go_wp2
    go_ret
    exact ⟨rfl, rfl⟩

set_option maxHeartbeats 800000 in
theorem textOk_any (op : Int) (t : ByteArray) (a : Option Addr) (l c : Nat) (w : World) :
    Calls Try.prog 65 #[.agg #[.int .i64 op, .string t, .slice a l c]] w fun e w' => e = .returned (.bool (Pk.tx op t.size)) ∧ Below w.heap.size w w' := by
  have key : op = 1 ∨ op = 3 ∨ op = 4 ∨ (op ≠ 1 ∧ op ≠ 3 ∧ op ≠ 4) := by omega
  rcases key with rfl | rfl | rfl | ⟨h1, h3, h4⟩
  · have e : Pk.tx 1 t.size = ((t.size : Int) == 1) := by
      by_cases h : t.size = 1
      · simp [Pk.tx, h]
      · have h2 : ((t.size : Int) == 1) = false := by simp; omega
        rw [h2]
        simp [Pk.tx, h]
    rw [e]
    go_enter Try.func65, Try.ntmps65
    go_wp2
    go_ret
    exact ⟨rfl, (Below.refl _ _).alloc (Nat.le_refl _) _⟩
  · by_cases h1 : 1 ≤ t.size
    · have d1 : decide ((1 : Int) ≤ (t.size : Int)) = true := by simp; omega
      have e : Pk.tx 3 t.size = decide ((t.size : Int) ≤ 24) := by
        by_cases h : t.size ≤ 24
        · have h2 : decide ((t.size : Int) ≤ 24) = true := by simp; omega
          rw [h2]
          simp [Pk.tx]; omega
        · have h2 : decide ((t.size : Int) ≤ 24) = false := by simp; omega
          rw [h2]
          simp [Pk.tx]; omega
      rw [e]
      go_enter Try.func65, Try.ntmps65
      go_wp2
      go_ret
      exact ⟨rfl, (Below.refl _ _).alloc (Nat.le_refl _) _⟩
    · have d1 : decide ((1 : Int) ≤ (t.size : Int)) = false := by simp; omega
      have e : Pk.tx 3 t.size = false := by simp [Pk.tx]; omega
      rw [e]
      go_enter Try.func65, Try.ntmps65
      go_wp2
      go_ret
      exact ⟨rfl, (Below.refl _ _).alloc (Nat.le_refl _) _⟩
  · by_cases h1 : 1 ≤ t.size
    · have d1 : decide ((1 : Int) ≤ (t.size : Int)) = true := by simp; omega
      have e : Pk.tx 4 t.size = decide ((t.size : Int) ≤ 24) := by
        by_cases h : t.size ≤ 24
        · have h2 : decide ((t.size : Int) ≤ 24) = true := by simp; omega
          rw [h2]
          simp [Pk.tx]; omega
        · have h2 : decide ((t.size : Int) ≤ 24) = false := by simp; omega
          rw [h2]
          simp [Pk.tx]; omega
      rw [e]
      go_enter Try.func65, Try.ntmps65
      go_wp2
      go_ret
      exact ⟨rfl, (Below.refl _ _).alloc (Nat.le_refl _) _⟩
    · have d1 : decide ((1 : Int) ≤ (t.size : Int)) = false := by simp; omega
      have e : Pk.tx 4 t.size = false := by simp [Pk.tx]; omega
      rw [e]
      go_enter Try.func65, Try.ntmps65
      go_wp2
      go_ret
      exact ⟨rfl, (Below.refl _ _).alloc (Nat.le_refl _) _⟩
  · have d1 : (op == 1) = false := by simpa using h1
    have d3 : (op == 3) = false := by simpa using h3
    have d4 : (op == 4) = false := by simpa using h4
    have e : Pk.tx op t.size = decide (t.size = 0) := by simp [Pk.tx, h1, h3, h4]
    rw [e]
    clear h1 h3 h4 e
    rw [show decide (t.size = 0) = t.toList.isEmpty by rw [Pk.empty_of]]
    go_enter Try.func65, Try.ntmps65
    go_wp2
    go_ret
    exact ⟨rfl, (Below.refl _ _).alloc (Nat.le_refl _) _⟩

#print axioms textOk_any
end Go.Proofs.Ytlnmbahakdmkgaa
