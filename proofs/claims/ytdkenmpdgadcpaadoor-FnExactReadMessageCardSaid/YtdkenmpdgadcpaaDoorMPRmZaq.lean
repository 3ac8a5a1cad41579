/- Texts moved together: the program's together. Plain facts, without the program: sums of 32 bits, step by step and by tables, and that texts that differ in one byte have other sums. -/
import Derived.Test.YtdkenmpdgadcpaaDoorMPRmCoS
import Derived.Test.YtdkenmpdgadcpaaDoorMPRmZap
import Derived.Test.YtdkenmpdgadcpaaDoorMPRmZaa
import Derived.Lib.BufferWrite
import Derived.Laws.CopyOwn
import Derived.Lib.ConvBytes
namespace Go.Proofs.YtdkenmpdgadcpaaDoor
section PartTgA
open Go.RowKit

/-- All texts, one behind the other. -/
def Tg.all (ts : List ByteArray) : List UInt8 := ts.flatMap fun t => t.data.toList
theorem Tg.take_all (ts : List ByteArray) (k : Nat) (h : k < ts.length) : Tg.all (ts.take (k + 1)) = Tg.all (ts.take k) ++ (ts.getD k ByteArray.empty).data.toList := by
  exact Cd.take_flat (fun t => t.data.toList) ts ByteArray.empty k h
theorem Tg.byteInfo : (Tryd.prog.info? 5).map (fun i => (i.zero, i.size, i.bytes)) = some (some (.int .u8 0), 1, 1) := by kernel_rfl
theorem Tg.sizeU8 : ∀ w, (Go.sizeOf 5).run Tryd.prog w = .ok 1 w := by
  intro w
  obtain ⟨i0, hi, hz0, hz1, hz2⟩ := info_parts Tg.byteInfo
  simp [Go.sizeOf, typeInfo, hi, hz1]
/-- left[:n:n] -/
theorem Tg.cut (W : World) (a : Addr) (m n : Nat) (h : n ≤ m) : (Instr.slice 36 (.slice (some a) m m) none (some (.int .i64 (n : Int))) (some (.int .i64 (n : Int)))).run Tryd.prog W = .ok (.slice (some a) n n) W := by
  have ht : Tryd.prog.underlying 36 = some (.slice (Tryd.prog.elem 36)) := by simp [Program.elem, Tryd.underlying36]
  have he : Tryd.prog.elem 36 = 5 := by simp [Program.elem, Tryd.underlying36]
  rw [run_slice_hm W 36 _ _ _ ht .i64 .i64 _ _ (by omega) (by omega) (by omega), he, Tg.sizeU8]
  simp only [Result.andThen, sliced]
  by_cases h0 : n = 0
  · subst h0; simp
  · simp [Addr.add, h0]
/-- left[n:] -/
theorem Tg.rest (W : World) (g o m n : Nat) (h : n ≤ m) : ∃ o', (n < m → o' = o + n) ∧ (Instr.slice 36 (.slice (some ⟨g, o, none⟩) m m) (some (.int .i64 (n : Int))) none none).run Tryd.prog W = .ok (.slice (some ⟨g, o', none⟩) (m - n) (m - n)) W := by
  have ht : Tryd.prog.underlying 36 = some (.slice (Tryd.prog.elem 36)) := by simp [Program.elem, Tryd.underlying36]
  have he : Tryd.prog.elem 36 = 5 := by simp [Program.elem, Tryd.underlying36]
  refine ⟨if m = n then o else o + n, fun hl => by rw [if_neg (by omega)], ?_⟩
  rw [run_slice_l W 36 _ _ _ ht .i64 _ (by omega) (by omega), he, Tg.sizeU8]
  simp only [Result.andThen, sliced]
  by_cases h0 : m = n
  · subst h0; simp
  · by_cases h1 : n = 0
    · subst h1; simp [Addr.add, h0]
    · simp [Addr.add, h0, h1]
end PartTgA
section PartPlainS
namespace Ps

/-- One step: half of it, down, turned by the word when it was odd. -/
def st (s : Nat) : Nat := if s % 2 = 1 then s / 2 ^^^ 3558460437 else s / 2
def stN : Nat → Nat → Nat
  | 0, s => s
  | k + 1, s => stN k (st s)

theorem st_xor (a b : Nat) : st (a ^^^ b) = st a ^^^ st b := by
  unfold st
  rw [Nat.xor_div_two]
  have hm := @Nat.xor_mod_two_eq_one a b
  by_cases ha : a % 2 = 1 <;> by_cases hb : b % 2 = 1
  · rw [if_neg (by rw [hm]; simp [ha, hb]), if_pos ha, if_pos hb]
    rw [Nat.xor_assoc, Nat.xor_comm 3558460437, Nat.xor_assoc, Nat.xor_self, Nat.xor_zero]
  · rw [if_pos (by rw [hm]; simp [ha, hb]), if_pos ha, if_neg hb]
    rw [Nat.xor_assoc, Nat.xor_comm (b / 2), ← Nat.xor_assoc]
  · rw [if_pos (by rw [hm]; simp [ha, hb]), if_neg ha, if_pos hb]
    rw [Nat.xor_assoc]
  · rw [if_neg (by rw [hm]; simp [ha, hb]), if_neg ha, if_neg hb]
theorem stN_xor (k a b : Nat) : stN k (a ^^^ b) = stN k a ^^^ stN k b := by
  induction k generalizing a b with
  | zero => rfl
  | succ k ih => simp only [stN, st_xor, ih]

theorem stN_high (k q : Nat) : stN k (q * 2 ^ k) = q := by
  induction k with
  | zero => simp [stN]
  | succ k ih =>
    have e : q * 2 ^ (k + 1) = 2 * (q * 2 ^ k) := by rw [Nat.pow_succ]; rw [← Nat.mul_assoc, Nat.mul_comm]
    have h : st (q * 2 ^ (k + 1)) = q * 2 ^ k := by
      unfold st
      rw [e, if_neg (by omega)]
      omega
    rw [stN, h, ih]
theorem split_xor (k s : Nat) : s = (s / 2 ^ k * 2 ^ k) ^^^ (s % 2 ^ k) := by
  apply Nat.eq_of_testBit_eq
  intro i
  rw [Nat.testBit_xor, Nat.testBit_mul_two_pow, Nat.testBit_mod_two_pow, Nat.testBit_div_two_pow]
  by_cases hi : i < k
  · have hk : ¬ k ≤ i := by omega
    simp [hi, hk]
  · simp [hi, Nat.le_of_not_lt hi]
/-- k steps by a table of what they make of the lowest k bits. -/
theorem stN_table (k s : Nat) : stN k s = s / 2 ^ k ^^^ stN k (s % 2 ^ k) := by
  conv => lhs; rw [split_xor k s]
  rw [stN_xor, stN_high]
theorem stN_add (j k s : Nat) : stN (j + k) s = stN k (stN j s) := by
  induction j generalizing s with
  | zero => rw [Nat.zero_add]; rfl
  | succ j ih => rw [Nat.succ_add, stN, ih]; rfl

theorem st_lt (s : Nat) (h : s < 4294967296) : st s < 4294967296 := by
  unfold st
  split
  · exact Nat.xor_lt_two_pow (n := 32) (by omega) (by omega)
  · omega
theorem stN_lt (k s : Nat) (h : s < 4294967296) : stN k s < 4294967296 := by
  induction k generalizing s with
  | zero => exact h
  | succ k ih => exact ih _ (st_lt s h)

/-- The sum of a byte more. -/
def sb (s : Nat) (b : UInt8) : Nat := stN 8 (s ^^^ b.toNat)
/-- The sum of more bytes. -/
def sm (s : Nat) (l : List UInt8) : Nat := l.foldl sb s
theorem sm_snoc (s : Nat) (l : List UInt8) (b : UInt8) : sm s (l ++ [b]) = sb (sm s l) b := by simp [sm]
theorem byte_lt (b : UInt8) : b.toNat < 4294967296 := by have := b.toNat_lt; omega
theorem sb_lt (s : Nat) (b : UInt8) (h : s < 4294967296) : sb s b < 4294967296 := stN_lt 8 _ (Nat.xor_lt_two_pow (n := 32) h (byte_lt b))
theorem sm_lt (s : Nat) (l : List UInt8) (h : s < 4294967296) : sm s l < 4294967296 := by
  induction l generalizing s with
  | nil => exact h
  | cons b l ih => exact ih _ (sb_lt s b h)
/-- A sum in four bytes, the highest first. -/
def four (x : Nat) : List UInt8 := [UInt8.ofNat (x / 16777216), UInt8.ofNat (x / 65536), UInt8.ofNat (x / 256), UInt8.ofNat x]
end Ps
end PartPlainS
end Go.Proofs.YtdkenmpdgadcpaaDoor
