/- What ShortText and ReadShort answer, the program's and the specification's, and that the laws on ReadVar, ShortText and ReadShort answer true. -/
import Derived.Test.YtbaoadfnmicijaaMPRsZah
import Derived.Test.YtbaoadfnmicijaaMPRsVrC
namespace Go.Proofs.Ytbaoadfnmicijaa
open Go.RowKit

set_option maxHeartbeats 400000 in
theorem vclone_any (s : ByteArray) (w : World) (h : s.size ≤ 1048576) :
    Calls Try.prog 66 #[.string s] w fun e w' => e = .returned (.string s) ∧ Below w.heap.size w w' := by
  go_enter Try.func66, Try.ntmps66
  go_wp2_with (go_at_call 71; refine (Try.stringslite_Clone s _ (by omega)).mono ?_; rintro e w' ⟨rfl, hb⟩)
  go_ret
  exact ⟨rfl, hb⟩

set_option maxHeartbeats 800000 in
set_option maxRecDepth 100000 in
theorem specReadShort_no (s : ByteArray) (n : Int) (w : World) (hs : s.size ≤ 1048576) (hr : rvRes s n = .tuple #[.int .i64 0, .int .i64 0, .bool false]) :
    Calls Try.prog 58 #[.string s, .int .i64 n] w fun e w' => e = .returned (.tuple #[.string ⟨#[]⟩, .int .i64 0, .bool false]) ∧ Below w.heap.size w w' := by
  have c1 := fun w => specRv_any s n w hs
  rw [hr] at c1
  have C1 : Hid (∀ w, Calls Try.prog 57 #[.string s, .int .i64 n] w fun e w' => e = .returned (.tuple #[.int .i64 0, .int .i64 0, .bool false]) ∧ Below w.heap.size w w') := c1
  clear c1 hr
  go_enter Try.func58, Try.ntmps58
  go_wp2_with (go_at_call 57; refine (C1.out _).mono ?_; rintro e w1 ⟨rfl, hb1⟩)
  go_ret3
  exact ⟨rfl, hb1⟩

set_option maxHeartbeats 800000 in
set_option maxRecDepth 100000 in
theorem specReadShort_much (s : ByteArray) (n : Int) (w : World) (hs : s.size ≤ 1048576) (m k : Nat) (hm : m ≤ 1000000000) (_hk : k ≤ s.size) (hr : rvRes s n = .tuple #[.int .i64 m, .int .i64 k, .bool true]) (h : 20000 < m) :
    Calls Try.prog 58 #[.string s, .int .i64 n] w fun e w' => e = .returned (.tuple #[.string ⟨#[]⟩, .int .i64 0, .bool false]) ∧ Below w.heap.size w w' := by
  have c1 := fun w => specRv_any s n w hs
  rw [hr] at c1
  have C1 : Hid (∀ w, Calls Try.prog 57 #[.string s, .int .i64 n] w fun e w' => e = .returned (.tuple #[.int .i64 m, .int .i64 k, .bool true]) ∧ Below w.heap.size w w') := c1
  clear c1 hr
  have hd : decide ((20000 : Int) < (m : Int)) = true := by simp; omega
  go_enter Try.func58, Try.ntmps58
  go_wp2_with (go_at_call 57; refine (C1.out _).mono ?_; rintro e w1 ⟨rfl, hb1⟩)
  go_ret3
  exact ⟨rfl, hb1⟩

set_option maxHeartbeats 800000 in
set_option maxRecDepth 100000 in
theorem specReadShort_short (s : ByteArray) (n : Int) (w : World) (hs : s.size ≤ 1048576) (m k : Nat) (hm : m ≤ 20000) (hk : k ≤ s.size) (hr : rvRes s n = .tuple #[.int .i64 m, .int .i64 k, .bool true]) (h : s.size < k + m) :
    Calls Try.prog 58 #[.string s, .int .i64 n] w fun e w' => e = .returned (.tuple #[.string ⟨#[]⟩, .int .i64 0, .bool false]) ∧ Below w.heap.size w w' := by
  have c1 := fun w => specRv_any s n w hs
  rw [hr] at c1
  have C1 : Hid (∀ w, Calls Try.prog 57 #[.string s, .int .i64 n] w fun e w' => e = .returned (.tuple #[.int .i64 m, .int .i64 k, .bool true]) ∧ Below w.heap.size w w') := c1
  clear c1 hr
  have hd : decide ((20000 : Int) < (m : Int)) = false := by simp; omega
  have hd2 : decide ((s.size : Int) - (k : Int) < (m : Int)) = true := by simp; omega
  go_enter Try.func58, Try.ntmps58
  go_wp2_with (go_at_call 57; refine (C1.out _).mono ?_; rintro e w1 ⟨rfl, hb1⟩)
  go_ret3
  exact ⟨rfl, hb1⟩

set_option maxHeartbeats 800000 in
set_option maxRecDepth 100000 in
theorem specReadShort_yes (s : ByteArray) (n : Int) (w : World) (hs : s.size ≤ 1048576) (m k : Nat) (hm : m ≤ 20000) (hk : k + m ≤ s.size) (hr : rvRes s n = .tuple #[.int .i64 m, .int .i64 k, .bool true]) :
    Calls Try.prog 58 #[.string s, .int .i64 n] w fun e w' => e = .returned (.tuple #[.string (s.extract k (k + m)), .int .i64 ((k : Int) + (m : Int)), .bool true]) ∧ Below w.heap.size w w' := by
  have c1 := fun w => specRv_any s n w hs
  rw [hr] at c1
  have C1 : Hid (∀ w, Calls Try.prog 57 #[.string s, .int .i64 n] w fun e w' => e = .returned (.tuple #[.int .i64 m, .int .i64 k, .bool true]) ∧ Below w.heap.size w w') := c1
  clear c1 hr
  have hd : decide ((20000 : Int) < (m : Int)) = false := by simp; omega
  have hd2 : decide ((s.size : Int) - (k : Int) < (m : Int)) = false := by simp; omega
  have hto : ((k : Int) + (m : Int)).toNat = k + m := by omega
  go_enter Try.func58, Try.ntmps58
  go_wp2_with (go_at_call 57; refine (C1.out _).mono ?_; rintro e w1 ⟨rfl, hb1⟩)
  go_ret3
  exact ⟨rfl, hb1⟩

set_option maxHeartbeats 800000 in
set_option maxRecDepth 100000 in
theorem implReadShort_no (s : ByteArray) (n : Int) (w : World) (hs : s.size ≤ 1048576) (hr : rvRes s n = .tuple #[.int .i64 0, .int .i64 0, .bool false]) :
    Calls Try.prog 60 #[.string s, .int .i64 n] w fun e w' => e = .returned (.tuple #[.string ⟨#[]⟩, .int .i64 0, .bool false]) ∧ Below w.heap.size w w' := by
  have c1 := fun w => implRv_any s n w hs
  rw [hr] at c1
  have C1 : Hid (∀ w, Calls Try.prog 59 #[.string s, .int .i64 n] w fun e w' => e = .returned (.tuple #[.int .i64 0, .int .i64 0, .bool false]) ∧ w' = w) := c1
  clear c1 hr
  go_enter Try.func60, Try.ntmps60
  go_wp2_with (go_at_call 59; refine (C1.out _).mono ?_; rintro e w1 ⟨rfl, rfl⟩)
  go_ret3
  exact ⟨rfl, Below.refl _ _⟩

set_option maxHeartbeats 800000 in
set_option maxRecDepth 100000 in
theorem implReadShort_much (s : ByteArray) (n : Int) (w : World) (hs : s.size ≤ 1048576) (m k : Nat) (hm : m ≤ 1000000000) (_hk : k ≤ s.size) (hr : rvRes s n = .tuple #[.int .i64 m, .int .i64 k, .bool true]) (h : 20000 < m) :
    Calls Try.prog 60 #[.string s, .int .i64 n] w fun e w' => e = .returned (.tuple #[.string ⟨#[]⟩, .int .i64 0, .bool false]) ∧ Below w.heap.size w w' := by
  have c1 := fun w => implRv_any s n w hs
  rw [hr] at c1
  have C1 : Hid (∀ w, Calls Try.prog 59 #[.string s, .int .i64 n] w fun e w' => e = .returned (.tuple #[.int .i64 m, .int .i64 k, .bool true]) ∧ w' = w) := c1
  clear c1 hr
  have hd : decide ((20000 : Int) < (m : Int)) = true := by simp; omega
  go_enter Try.func60, Try.ntmps60
  go_wp2_with (go_at_call 59; refine (C1.out _).mono ?_; rintro e w1 ⟨rfl, rfl⟩)
  go_ret3
  exact ⟨rfl, Below.refl _ _⟩

set_option maxHeartbeats 800000 in
set_option maxRecDepth 100000 in
theorem implReadShort_short (s : ByteArray) (n : Int) (w : World) (hs : s.size ≤ 1048576) (m k : Nat) (hm : m ≤ 20000) (hk : k ≤ s.size) (hr : rvRes s n = .tuple #[.int .i64 m, .int .i64 k, .bool true]) (h : s.size < k + m) :
    Calls Try.prog 60 #[.string s, .int .i64 n] w fun e w' => e = .returned (.tuple #[.string ⟨#[]⟩, .int .i64 0, .bool false]) ∧ Below w.heap.size w w' := by
  have c1 := fun w => implRv_any s n w hs
  rw [hr] at c1
  have C1 : Hid (∀ w, Calls Try.prog 59 #[.string s, .int .i64 n] w fun e w' => e = .returned (.tuple #[.int .i64 m, .int .i64 k, .bool true]) ∧ w' = w) := c1
  clear c1 hr
  have hd : decide ((20000 : Int) < (m : Int)) = false := by simp; omega
  have hd2 : decide ((s.size : Int) - (k : Int) < (m : Int)) = true := by simp; omega
  go_enter Try.func60, Try.ntmps60
  go_wp2_with (go_at_call 59; refine (C1.out _).mono ?_; rintro e w1 ⟨rfl, rfl⟩)
  go_ret3
  exact ⟨rfl, Below.refl _ _⟩

set_option maxHeartbeats 800000 in
set_option maxRecDepth 100000 in
theorem implReadShort_yes (s : ByteArray) (n : Int) (w : World) (hs : s.size ≤ 1048576) (m k : Nat) (hm : m ≤ 20000) (hk : k + m ≤ s.size) (hr : rvRes s n = .tuple #[.int .i64 m, .int .i64 k, .bool true]) :
    Calls Try.prog 60 #[.string s, .int .i64 n] w fun e w' => e = .returned (.tuple #[.string (s.extract k (k + m)), .int .i64 ((k : Int) + (m : Int)), .bool true]) ∧ Below w.heap.size w w' := by
  have c1 := fun w => implRv_any s n w hs
  rw [hr] at c1
  have C1 : Hid (∀ w, Calls Try.prog 59 #[.string s, .int .i64 n] w fun e w' => e = .returned (.tuple #[.int .i64 m, .int .i64 k, .bool true]) ∧ w' = w) := c1
  clear c1 hr
  have hd : decide ((20000 : Int) < (m : Int)) = false := by simp; omega
  have hd2 : decide ((s.size : Int) - (k : Int) < (m : Int)) = false := by simp; omega
  have hto : ((k : Int) + (m : Int)).toNat = k + m := by omega
  go_enter Try.func60, Try.ntmps60
  go_wp2_with (first | (go_at_call 59; refine (C1.out _).mono ?_; rintro e w1 ⟨rfl, rfl⟩) | (go_at_call 66; refine (vclone_any _ _ (by simp; omega)).mono ?_; rintro e w2 ⟨rfl, hb2⟩))
  go_ret3
  exact ⟨rfl, hb2⟩

end Go.Proofs.Ytbaoadfnmicijaa
