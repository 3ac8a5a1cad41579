/- Plain facts, without the program: sums of 32 bits, step by step and by tables, and that texts that differ in one byte have other sums. -/
namespace Go.Proofs.YtbfnpdklnbpgjaaDoor
namespace Ps

/-- One step: half of it, down, turned by the word when it was odd. -/
def st (s : Nat) : Nat := if s % 2 = 1 then s / 2 ^^^ 3558460437 else s / 2
def stN : Nat → Nat → Nat
  | 0, s => s
  | k + 1, s => stN k (st s)

theorem st_xor (a b : Nat) : st (a ^^^ b) = st a ^^^ st b := by
  unfold st
  rw [Nat.xor_div_two]
  have hm := @Nat.xor_mod_two_eq_one a b
  by_cases ha : a % 2 = 1 <;> by_cases hb : b % 2 = 1
  · rw [if_neg (by rw [hm]; simp [ha, hb]), if_pos ha, if_pos hb]
    rw [Nat.xor_assoc, Nat.xor_comm 3558460437, Nat.xor_assoc, Nat.xor_self, Nat.xor_zero]
  · rw [if_pos (by rw [hm]; simp [ha, hb]), if_pos ha, if_neg hb]
    rw [Nat.xor_assoc, Nat.xor_comm (b / 2), ← Nat.xor_assoc]
  · rw [if_pos (by rw [hm]; simp [ha, hb]), if_neg ha, if_pos hb]
    rw [Nat.xor_assoc]
  · rw [if_neg (by rw [hm]; simp [ha, hb]), if_neg ha, if_neg hb]
theorem stN_xor (k a b : Nat) : stN k (a ^^^ b) = stN k a ^^^ stN k b := by
  induction k generalizing a b with
  | zero => rfl
  | succ k ih => simp only [stN, st_xor, ih]

theorem stN_high (k q : Nat) : stN k (q * 2 ^ k) = q := by
  induction k with
  | zero => simp [stN]
  | succ k ih =>
    have e : q * 2 ^ (k + 1) = 2 * (q * 2 ^ k) := by rw [Nat.pow_succ]; rw [← Nat.mul_assoc, Nat.mul_comm]
    have h : st (q * 2 ^ (k + 1)) = q * 2 ^ k := by
      unfold st
      rw [e, if_neg (by omega)]
      omega
    rw [stN, h, ih]
theorem split_xor (k s : Nat) : s = (s / 2 ^ k * 2 ^ k) ^^^ (s % 2 ^ k) := by
  apply Nat.eq_of_testBit_eq
  intro i
  rw [Nat.testBit_xor, Nat.testBit_mul_two_pow, Nat.testBit_mod_two_pow, Nat.testBit_div_two_pow]
  by_cases hi : i < k
  · have hk : ¬ k ≤ i := by omega
    simp [hi, hk]
  · simp [hi, Nat.le_of_not_lt hi]
/-- k steps by a table of what they make of the lowest k bits. -/
theorem stN_table (k s : Nat) : stN k s = s / 2 ^ k ^^^ stN k (s % 2 ^ k) := by
  conv => lhs; rw [split_xor k s]
  rw [stN_xor, stN_high]
theorem stN_add (j k s : Nat) : stN (j + k) s = stN k (stN j s) := by
  induction j generalizing s with
  | zero => rw [Nat.zero_add]; rfl
  | succ j ih => rw [Nat.succ_add, stN, ih]; rfl

theorem st_lt (s : Nat) (h : s < 4294967296) : st s < 4294967296 := by
  unfold st
  split
  · exact Nat.xor_lt_two_pow (n := 32) (by omega) (by omega)
  · omega
theorem stN_lt (k s : Nat) (h : s < 4294967296) : stN k s < 4294967296 := by
  induction k generalizing s with
  | zero => exact h
  | succ k ih => exact ih _ (st_lt s h)

/-- No two sums become the same. -/
theorem st_zero (s : Nat) (h : s < 4294967296) (h0 : st s = 0) : s = 0 := by
  unfold st at h0
  split at h0
  · exfalso
    have e : s / 2 = 3558460437 := by
      have := congrArg (· ^^^ 3558460437) h0
      simp only [Nat.xor_assoc, Nat.xor_self, Nat.xor_zero, Nat.zero_xor] at this
      exact this
    omega
  · omega
theorem st_inj (a b : Nat) (ha : a < 4294967296) (hb : b < 4294967296) (h : st a = st b) : a = b := by
  have h1 : st (a ^^^ b) = 0 := by rw [st_xor, h, Nat.xor_self]
  have h2 := st_zero (a ^^^ b) (Nat.xor_lt_two_pow (n := 32) ha hb) h1
  have h3 := congrArg (a ^^^ ·) h2
  simp only [← Nat.xor_assoc, Nat.xor_self, Nat.zero_xor, Nat.xor_zero] at h3
  exact h3.symm
theorem stN_inj (k a b : Nat) (ha : a < 4294967296) (hb : b < 4294967296) (h : stN k a = stN k b) : a = b := by
  induction k generalizing a b with
  | zero => exact h
  | succ k ih => exact st_inj a b ha hb (ih _ _ (st_lt a ha) (st_lt b hb) h)

/-- The sum of a byte more. -/
def sb (s : Nat) (b : UInt8) : Nat := stN 8 (s ^^^ b.toNat)
/-- The sum of more bytes. -/
def sm (s : Nat) (l : List UInt8) : Nat := l.foldl sb s
theorem sm_snoc (s : Nat) (l : List UInt8) (b : UInt8) : sm s (l ++ [b]) = sb (sm s l) b := by simp [sm]
theorem sm_app (s : Nat) (l m : List UInt8) : sm s (l ++ m) = sm (sm s l) m := by simp [sm]
theorem byte_lt (b : UInt8) : b.toNat < 4294967296 := by have := b.toNat_lt; omega
theorem sb_lt (s : Nat) (b : UInt8) (h : s < 4294967296) : sb s b < 4294967296 := stN_lt 8 _ (Nat.xor_lt_two_pow (n := 32) h (byte_lt b))
theorem sm_lt (s : Nat) (l : List UInt8) (h : s < 4294967296) : sm s l < 4294967296 := by
  induction l generalizing s with
  | nil => exact h
  | cons b l ih => exact ih _ (sb_lt s b h)
theorem xor_left_inj (s a b : Nat) (h : s ^^^ a = s ^^^ b) : a = b := by
  have := congrArg (s ^^^ ·) h
  simp only [← Nat.xor_assoc, Nat.xor_self, Nat.zero_xor] at this
  exact this
theorem sb_inj_byte (s : Nat) (a b : UInt8) (hs : s < 4294967296) (h : sb s a = sb s b) : a = b := by
  have h1 := stN_inj 8 _ _ (Nat.xor_lt_two_pow (n := 32) hs (byte_lt a)) (Nat.xor_lt_two_pow (n := 32) hs (byte_lt b)) h
  exact UInt8.toNat_inj.1 (xor_left_inj s _ _ h1)
theorem sb_inj_sum (s t : Nat) (b : UInt8) (hs : s < 4294967296) (ht : t < 4294967296) (h : sb s b = sb t b) : s = t := by
  have h1 := stN_inj 8 _ _ (Nat.xor_lt_two_pow (n := 32) hs (byte_lt b)) (Nat.xor_lt_two_pow (n := 32) ht (byte_lt b)) h
  rw [Nat.xor_comm s, Nat.xor_comm t] at h1
  exact xor_left_inj _ _ _ h1
theorem sm_inj_sum (s t : Nat) (l : List UInt8) (hs : s < 4294967296) (ht : t < 4294967296) (h : sm s l = sm t l) : s = t := by
  induction l generalizing s t with
  | nil => exact h
  | cons b l ih => exact sb_inj_sum s t b hs ht (ih _ _ (sb_lt s b hs) (sb_lt t b ht) h)
/-- Texts that differ in one byte have other sums. -/
theorem sm_turned (s : Nat) (p r : List UInt8) (a b : UInt8) (hs : s < 4294967296) (hab : a ≠ b) : sm s (p ++ a :: r) ≠ sm s (p ++ b :: r) := by
  rw [sm_app, sm_app]
  intro h
  have h1 := sm_inj_sum (sb (sm s p) a) (sb (sm s p) b) r (sb_lt _ _ (sm_lt s p hs)) (sb_lt _ _ (sm_lt s p hs)) h
  exact hab (sb_inj_byte _ a b (sm_lt s p hs) h1)

/-- A sum in four bytes, the highest first. -/
def four (x : Nat) : List UInt8 := [UInt8.ofNat (x / 16777216), UInt8.ofNat (x / 65536), UInt8.ofNat (x / 256), UInt8.ofNat x]
theorem four_inj (x y : Nat) (hx : x < 4294967296) (hy : y < 4294967296) (h : four x = four y) : x = y := by
  simp only [four, List.cons.injEq, and_true] at h
  obtain ⟨h1, h2, h3, h4⟩ := h
  have t1 := congrArg UInt8.toNat h1
  have t2 := congrArg UInt8.toNat h2
  have t3 := congrArg UInt8.toNat h3
  have t4 := congrArg UInt8.toNat h4
  simp only [UInt8.toNat_ofNat'] at t1 t2 t3 t4
  omega
#print axioms sm_turned
#print axioms four_inj
end Ps
end Go.Proofs.YtbfnpdklnbpgjaaDoor
