/- What ShortText and ReadShort answer, the program's and the specification's, and that the laws on ReadVar, ShortText and ReadShort answer true. -/
import Derived.Test.YthbblocllicmiaqZaq
import Derived.Test.YthbblocllicmiaqVrC
namespace Go.Proofs.Ythbblocllicmiaq
open Go.RowKit

set_option maxHeartbeats 400000 in
theorem vclone_any (s : ByteArray) (w : World) (h : s.size ≤ 1048576) :
    Calls Try.prog 69 #[.string s] w fun e w' => e = .returned (.string s) ∧ Below w.heap.size w w' := by
  go_enter Try.func69, Try.ntmps69
  go_wp2_with (go_at_call 76; refine (Try.stringslite_Clone s _ (by omega)).mono ?_; rintro e w' ⟨rfl, hb⟩)
  go_ret
  exact ⟨rfl, hb⟩

/-- What ShortText answers. -/
def shortRes (s : ByteArray) : Value := if s.size ≤ 20000 then .tuple #[.string (⟨(Pl.vb 8 s.size).toArray⟩ ++ s), .bool true] else .tuple #[.string ⟨#[]⟩, .bool false]

theorem implVar_nat (n : Nat) (w : World) (h : n ≤ 20000) :
    Calls Try.prog 51 #[.int .i64 n] w fun e w' => e = .returned (.tuple #[.string ⟨(Pl.vb 8 n).toArray⟩, .bool true]) ∧ Below w.heap.size w w' := by
  have := implVarText_any n w
  rwa [varRes_yes n (by omega)] at this

set_option maxHeartbeats 400000 in
theorem implShort_any (s : ByteArray) (w : World) (hs : s.size ≤ 1048576) :
    Calls Try.prog 53 #[.string s] w fun e w' => e = .returned (shortRes s) ∧ Below w.heap.size w w' := by
  unfold shortRes
  by_cases h : s.size ≤ 20000
  · rw [if_pos h]
    have hvl := Pl.vb_len 8 s.size
    go_enter Try.func53, Try.ntmps53
    go_wp2_with (go_at_call 51; refine (implVar_nat s.size _ (by omega)).mono ?_; rintro e w' ⟨rfl, hb⟩)
    go_ret2
    exact ⟨rfl, hb⟩
  · rw [if_neg h]
    go_enter Try.func53, Try.ntmps53
    go_wp2
    go_ret2
    exact ⟨rfl, Below.refl _ _⟩

/-- What ReadVar answers, taken apart. -/
theorem rv_parts (s : ByteArray) (n : Int) :
    rvRes s n = .tuple #[.int .i64 0, .int .i64 0, .bool false] ∨ ∃ m k : Nat, m ≤ 1000000000 ∧ k ≤ s.size ∧ rvRes s n = .tuple #[.int .i64 m, .int .i64 k, .bool true] := by
  unfold rvRes
  by_cases h : 0 ≤ n ∧ n ≤ (s.size : Int)
  · rw [if_pos h]
    cases hr : Pl.rvF 5 [] (s.data.toList.drop n.toNat) with
    | none => exact .inl rfl
    | some r =>
      obtain ⟨m, k⟩ := r
      have := Pl.rvF_some _ _ _ _ _ hr
      refine .inr ⟨m, n.toNat + k, this.1, ?_, ?_⟩
      · have h2 := this.2
        simp at h2
        omega
      · show Value.tuple #[.int .i64 (m : Int), .int .i64 (n + (k : Int)), .bool true] = _
        have e : n + (k : Int) = ((n.toNat + k : Nat) : Int) := by omega
        rw [e]
  · rw [if_neg h]
    exact .inl rfl

set_option maxHeartbeats 800000 in
set_option maxRecDepth 100000 in
theorem specReadShort_no (s : ByteArray) (n : Int) (w : World) (hs : s.size ≤ 1048576) (hr : rvRes s n = .tuple #[.int .i64 0, .int .i64 0, .bool false]) :
    Calls Try.prog 56 #[.string s, .int .i64 n] w fun e w' => e = .returned (.tuple #[.string ⟨#[]⟩, .int .i64 0, .bool false]) ∧ Below w.heap.size w w' := by
  have c1 := fun w => specRv_any s n w hs
  rw [hr] at c1
  have C1 : Hid (∀ w, Calls Try.prog 55 #[.string s, .int .i64 n] w fun e w' => e = .returned (.tuple #[.int .i64 0, .int .i64 0, .bool false]) ∧ Below w.heap.size w w') := c1
  clear c1 hr
  go_enter Try.func56, Try.ntmps56
  go_wp2_with (go_at_call 55; refine (C1.out _).mono ?_; rintro e w1 ⟨rfl, hb1⟩)
  go_ret3
  exact ⟨rfl, hb1⟩

set_option maxHeartbeats 800000 in
set_option maxRecDepth 100000 in
theorem specReadShort_much (s : ByteArray) (n : Int) (w : World) (hs : s.size ≤ 1048576) (m k : Nat) (hm : m ≤ 1000000000) (_hk : k ≤ s.size) (hr : rvRes s n = .tuple #[.int .i64 m, .int .i64 k, .bool true]) (h : 20000 < m) :
    Calls Try.prog 56 #[.string s, .int .i64 n] w fun e w' => e = .returned (.tuple #[.string ⟨#[]⟩, .int .i64 0, .bool false]) ∧ Below w.heap.size w w' := by
  have c1 := fun w => specRv_any s n w hs
  rw [hr] at c1
  have C1 : Hid (∀ w, Calls Try.prog 55 #[.string s, .int .i64 n] w fun e w' => e = .returned (.tuple #[.int .i64 m, .int .i64 k, .bool true]) ∧ Below w.heap.size w w') := c1
  clear c1 hr
  have hd : decide ((20000 : Int) < (m : Int)) = true := by simp; omega
  go_enter Try.func56, Try.ntmps56
  go_wp2_with (go_at_call 55; refine (C1.out _).mono ?_; rintro e w1 ⟨rfl, hb1⟩)
  go_ret3
  exact ⟨rfl, hb1⟩

set_option maxHeartbeats 800000 in
set_option maxRecDepth 100000 in
theorem specReadShort_short (s : ByteArray) (n : Int) (w : World) (hs : s.size ≤ 1048576) (m k : Nat) (hm : m ≤ 20000) (hk : k ≤ s.size) (hr : rvRes s n = .tuple #[.int .i64 m, .int .i64 k, .bool true]) (h : s.size < k + m) :
    Calls Try.prog 56 #[.string s, .int .i64 n] w fun e w' => e = .returned (.tuple #[.string ⟨#[]⟩, .int .i64 0, .bool false]) ∧ Below w.heap.size w w' := by
  have c1 := fun w => specRv_any s n w hs
  rw [hr] at c1
  have C1 : Hid (∀ w, Calls Try.prog 55 #[.string s, .int .i64 n] w fun e w' => e = .returned (.tuple #[.int .i64 m, .int .i64 k, .bool true]) ∧ Below w.heap.size w w') := c1
  clear c1 hr
  have hd : decide ((20000 : Int) < (m : Int)) = false := by simp; omega
  have hd2 : decide ((s.size : Int) - (k : Int) < (m : Int)) = true := by simp; omega
  go_enter Try.func56, Try.ntmps56
  go_wp2_with (go_at_call 55; refine (C1.out _).mono ?_; rintro e w1 ⟨rfl, hb1⟩)
  go_ret3
  exact ⟨rfl, hb1⟩

set_option maxHeartbeats 800000 in
set_option maxRecDepth 100000 in
theorem specReadShort_yes (s : ByteArray) (n : Int) (w : World) (hs : s.size ≤ 1048576) (m k : Nat) (hm : m ≤ 20000) (hk : k + m ≤ s.size) (hr : rvRes s n = .tuple #[.int .i64 m, .int .i64 k, .bool true]) :
    Calls Try.prog 56 #[.string s, .int .i64 n] w fun e w' => e = .returned (.tuple #[.string (s.extract k (k + m)), .int .i64 ((k : Int) + (m : Int)), .bool true]) ∧ Below w.heap.size w w' := by
  have c1 := fun w => specRv_any s n w hs
  rw [hr] at c1
  have C1 : Hid (∀ w, Calls Try.prog 55 #[.string s, .int .i64 n] w fun e w' => e = .returned (.tuple #[.int .i64 m, .int .i64 k, .bool true]) ∧ Below w.heap.size w w') := c1
  clear c1 hr
  have hd : decide ((20000 : Int) < (m : Int)) = false := by simp; omega
  have hd2 : decide ((s.size : Int) - (k : Int) < (m : Int)) = false := by simp; omega
  have hto : ((k : Int) + (m : Int)).toNat = k + m := by omega
  go_enter Try.func56, Try.ntmps56
  go_wp2_with (go_at_call 55; refine (C1.out _).mono ?_; rintro e w1 ⟨rfl, hb1⟩)
  go_ret3
  exact ⟨rfl, hb1⟩

set_option maxHeartbeats 800000 in
set_option maxRecDepth 100000 in
theorem implReadShort_no (s : ByteArray) (n : Int) (w : World) (hs : s.size ≤ 1048576) (hr : rvRes s n = .tuple #[.int .i64 0, .int .i64 0, .bool false]) :
    Calls Try.prog 58 #[.string s, .int .i64 n] w fun e w' => e = .returned (.tuple #[.string ⟨#[]⟩, .int .i64 0, .bool false]) ∧ Below w.heap.size w w' := by
  have c1 := fun w => implRv_any s n w hs
  rw [hr] at c1
  have C1 : Hid (∀ w, Calls Try.prog 57 #[.string s, .int .i64 n] w fun e w' => e = .returned (.tuple #[.int .i64 0, .int .i64 0, .bool false]) ∧ w' = w) := c1
  clear c1 hr
  go_enter Try.func58, Try.ntmps58
  go_wp2_with (go_at_call 57; refine (C1.out _).mono ?_; rintro e w1 ⟨rfl, rfl⟩)
  go_ret3
  exact ⟨rfl, Below.refl _ _⟩

set_option maxHeartbeats 800000 in
set_option maxRecDepth 100000 in
theorem implReadShort_much (s : ByteArray) (n : Int) (w : World) (hs : s.size ≤ 1048576) (m k : Nat) (hm : m ≤ 1000000000) (_hk : k ≤ s.size) (hr : rvRes s n = .tuple #[.int .i64 m, .int .i64 k, .bool true]) (h : 20000 < m) :
    Calls Try.prog 58 #[.string s, .int .i64 n] w fun e w' => e = .returned (.tuple #[.string ⟨#[]⟩, .int .i64 0, .bool false]) ∧ Below w.heap.size w w' := by
  have c1 := fun w => implRv_any s n w hs
  rw [hr] at c1
  have C1 : Hid (∀ w, Calls Try.prog 57 #[.string s, .int .i64 n] w fun e w' => e = .returned (.tuple #[.int .i64 m, .int .i64 k, .bool true]) ∧ w' = w) := c1
  clear c1 hr
  have hd : decide ((20000 : Int) < (m : Int)) = true := by simp; omega
  go_enter Try.func58, Try.ntmps58
  go_wp2_with (go_at_call 57; refine (C1.out _).mono ?_; rintro e w1 ⟨rfl, rfl⟩)
  go_ret3
  exact ⟨rfl, Below.refl _ _⟩

set_option maxHeartbeats 800000 in
set_option maxRecDepth 100000 in
theorem implReadShort_short (s : ByteArray) (n : Int) (w : World) (hs : s.size ≤ 1048576) (m k : Nat) (hm : m ≤ 20000) (hk : k ≤ s.size) (hr : rvRes s n = .tuple #[.int .i64 m, .int .i64 k, .bool true]) (h : s.size < k + m) :
    Calls Try.prog 58 #[.string s, .int .i64 n] w fun e w' => e = .returned (.tuple #[.string ⟨#[]⟩, .int .i64 0, .bool false]) ∧ Below w.heap.size w w' := by
  have c1 := fun w => implRv_any s n w hs
  rw [hr] at c1
  have C1 : Hid (∀ w, Calls Try.prog 57 #[.string s, .int .i64 n] w fun e w' => e = .returned (.tuple #[.int .i64 m, .int .i64 k, .bool true]) ∧ w' = w) := c1
  clear c1 hr
  have hd : decide ((20000 : Int) < (m : Int)) = false := by simp; omega
  have hd2 : decide ((s.size : Int) - (k : Int) < (m : Int)) = true := by simp; omega
  go_enter Try.func58, Try.ntmps58
  go_wp2_with (go_at_call 57; refine (C1.out _).mono ?_; rintro e w1 ⟨rfl, rfl⟩)
  go_ret3
  exact ⟨rfl, Below.refl _ _⟩

set_option maxHeartbeats 800000 in
set_option maxRecDepth 100000 in
theorem implReadShort_yes (s : ByteArray) (n : Int) (w : World) (hs : s.size ≤ 1048576) (m k : Nat) (hm : m ≤ 20000) (hk : k + m ≤ s.size) (hr : rvRes s n = .tuple #[.int .i64 m, .int .i64 k, .bool true]) :
    Calls Try.prog 58 #[.string s, .int .i64 n] w fun e w' => e = .returned (.tuple #[.string (s.extract k (k + m)), .int .i64 ((k : Int) + (m : Int)), .bool true]) ∧ Below w.heap.size w w' := by
  have c1 := fun w => implRv_any s n w hs
  rw [hr] at c1
  have C1 : Hid (∀ w, Calls Try.prog 57 #[.string s, .int .i64 n] w fun e w' => e = .returned (.tuple #[.int .i64 m, .int .i64 k, .bool true]) ∧ w' = w) := c1
  clear c1 hr
  have hd : decide ((20000 : Int) < (m : Int)) = false := by simp; omega
  have hd2 : decide ((s.size : Int) - (k : Int) < (m : Int)) = false := by simp; omega
  have hto : ((k : Int) + (m : Int)).toNat = k + m := by omega
  go_enter Try.func58, Try.ntmps58
  go_wp2_with (first | (go_at_call 57; refine (C1.out _).mono ?_; rintro e w1 ⟨rfl, rfl⟩) | (go_at_call 69; refine (vclone_any _ _ (by simp; omega)).mono ?_; rintro e w2 ⟨rfl, hb2⟩))
  go_ret3
  exact ⟨rfl, hb2⟩

/-- Both answer the same, whatever it is. -/
theorem readShort_both (s : ByteArray) (n : Int) (hs : s.size ≤ 1048576) : ∃ (t : ByteArray) (z : Int) (b : Bool),
    (∀ w, Calls Try.prog 56 #[.string s, .int .i64 n] w fun e w' => e = .returned (.tuple #[.string t, .int .i64 z, .bool b]) ∧ Below w.heap.size w w') ∧
    (∀ w, Calls Try.prog 58 #[.string s, .int .i64 n] w fun e w' => e = .returned (.tuple #[.string t, .int .i64 z, .bool b]) ∧ Below w.heap.size w w') := by
  rcases rv_parts s n with hr | ⟨m, k, hm, hk, hr⟩
  · exact ⟨_, _, _, fun w => specReadShort_no s n w hs hr, fun w => implReadShort_no s n w hs hr⟩
  · by_cases h1 : 20000 < m
    · exact ⟨_, _, _, fun w => specReadShort_much s n w hs m k hm hk hr h1, fun w => implReadShort_much s n w hs m k hm hk hr h1⟩
    · by_cases h2 : s.size < k + m
      · exact ⟨_, _, _, fun w => specReadShort_short s n w hs m k (by omega) hk hr h2, fun w => implReadShort_short s n w hs m k (by omega) hk hr h2⟩
      · exact ⟨_, _, _, fun w => specReadShort_yes s n w hs m k (by omega) (by omega) hr, fun w => implReadShort_yes s n w hs m k (by omega) (by omega) hr⟩

end Go.Proofs.Ythbblocllicmiaq
