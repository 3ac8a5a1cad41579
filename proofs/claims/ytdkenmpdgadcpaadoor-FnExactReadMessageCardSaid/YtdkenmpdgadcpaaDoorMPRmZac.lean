/- The contract of the library's Clone, laid at this program: the same bytes, in memory of its own. Plain facts, without the program: what a number read at a place of a text is, byte by byte. -/
import Derived.Shelf.LaysM
import Derived.Shelf.Strconv.Clone
import Derived.Test.YtdkenmpdgadcpaaDoorProg
import Derived.WalkKit
import Derived.Test.YtdkenmpdgadcpaaDoorMPRmZaa
namespace Go.Proofs.YtdkenmpdgadcpaaDoor
section PartShelfC
open Go.Shelf
def Tryd.laysM316_ren : Go.Shelf.Ren := ⟨fun | 316 => 42 | n => n, fun | 9 => 9 | 3 => 3 | 4 => 4 | 37 => 36 | 0 => 0 | 127 => 71 | 5 => 5 | n => n, fun | n => n⟩
theorem Tryd.laysM316 : Go.Proofs.LaysM.n316 Tryd.prog Tryd.laysM316_ren := {
  mixed := by kernel_rfl
  f316 := Tryd.func42.trans (congrArg some (by kernel_rfl))
  t0 := Tryd.underlying0
  a0 := Tryd.isAgg0
  z0 := Tryd.sizeOf0
  v0 := Tryd.zeroValue0
  t3 := Tryd.underlying3
  a3 := Tryd.isAgg3
  z3 := Tryd.sizeOf3
  v3 := Tryd.zeroValue3
  t4 := Tryd.underlying4
  a4 := Tryd.isAgg4
  z4 := Tryd.sizeOf4
  v4 := Tryd.zeroValue4
  t9 := Tryd.underlying9
  a9 := Tryd.isAgg9
  z9 := Tryd.sizeOf9
  v9 := Tryd.zeroValue9
  t37 := Tryd.underlying36
  a37 := Tryd.isAgg36
  z37 := Tryd.sizeOf36
  v37 := Tryd.zeroValue36
  t127 := Tryd.underlying71
  a127 := Tryd.isAgg71
  z127 := Tryd.sizeOf71
  v127 := Tryd.zeroValue71
  t5 := Tryd.underlying5
  a5 := Tryd.isAgg5
  z5 := Tryd.sizeOf5
  v5 := Tryd.zeroValue5
  i0 := by kernel_rfl
  i3 := by kernel_rfl
  i4 := by kernel_rfl
  i5 := by kernel_rfl
  i9 := by kernel_rfl
  i37 := by kernel_rfl
  i127 := by kernel_rfl }
open Go.RowKit in
theorem Tryd.stringslite_Clone (s : ByteArray) (w : World) (hlim : s.size ≤ 281474976710656) :
    Calls Tryd.prog 42 #[.string s] w fun e w' => e = .returned (.string s) ∧ Below w.heap.size w w' := Any.stringslite_Clone Tryd.laysM316 s w hlim
open Go.RowKit in
set_option maxHeartbeats 400000 in
theorem clone_any (s : ByteArray) (w : World) (hs : s.size ≤ 281474976710656) :
    Calls Tryd.prog 37 #[.string s] w fun e w' => e = .returned (.string s) ∧ Below w.heap.size w w' := by
  go_enter Tryd.func37, Tryd.ntmps37
  go_wp2_with (go_at_call 42; refine (Tryd.stringslite_Clone s _ hs).mono ?_; rintro e w' ⟨rfl, hb⟩)
  go_ret
  exact ⟨rfl, hb⟩
end PartShelfC
section PartPlainB
namespace Pl

/-- pre: the bytes read so far; the third: those that follow; at most f more are read. The number, and how many bytes. -/
def rvF : Nat → List UInt8 → List UInt8 → Option (Nat × Nat)
  | 0, _, _ => none
  | _ + 1, _, [] => none
  | f + 1, pre, b :: r => if b.toNat < 128 then (if (b.toNat = 0 ∧ 0 < pre.length) ∨ 1000000000 < val (pre ++ [b]) then none else some (val (pre ++ [b]), pre.length + 1)) else rvF f (pre ++ [b]) r

theorem rvF_nil (f : Nat) (pre : List UInt8) : rvF f pre [] = none := by cases f <;> rfl
theorem rvF_on (f : Nat) (pre : List UInt8) (b : UInt8) (r : List UInt8) (h : 128 ≤ b.toNat) : rvF (f + 1) pre (b :: r) = rvF f (pre ++ [b]) r := by
  rw [rvF, if_neg (by omega)]
theorem rvF_bad (f : Nat) (pre : List UInt8) (b : UInt8) (r : List UInt8) (h : b.toNat < 128) (h2 : (b.toNat = 0 ∧ 0 < pre.length) ∨ 1000000000 < val (pre ++ [b])) : rvF (f + 1) pre (b :: r) = none := by
  rw [rvF, if_pos h, if_pos h2]
theorem rvF_end (f : Nat) (pre : List UInt8) (b : UInt8) (r : List UInt8) (h : b.toNat < 128) (h2 : ¬ ((b.toNat = 0 ∧ 0 < pre.length) ∨ 1000000000 < val (pre ++ [b]))) : rvF (f + 1) pre (b :: r) = some (val (pre ++ [b]), pre.length + 1) := by
  rw [rvF, if_pos h, if_neg h2]

/-- Of what is read: the number is at most MaxNumber, and the bytes are there. -/
theorem rvF_some (f : Nat) (pre r : List UInt8) (n k : Nat) (h : rvF f pre r = some (n, k)) : n ≤ 1000000000 ∧ k ≤ pre.length + r.length := by
  induction f generalizing pre r with
  | zero => simp [rvF] at h
  | succ f ih =>
    cases r with
    | nil => simp [rvF] at h
    | cons b r =>
      by_cases hb : b.toNat < 128
      · by_cases h2 : (b.toNat = 0 ∧ 0 < pre.length) ∨ 1000000000 < val (pre ++ [b])
        · rw [rvF_bad f pre b r hb h2] at h; cases h
        · rw [rvF_end f pre b r hb h2] at h
          simp only [Option.some.injEq, Prod.mk.injEq] at h
          obtain ⟨rfl, rfl⟩ := h
          simp; omega
      · rw [rvF_on f pre b r (by omega)] at h
        have := ih _ _ h
        simp at this ⊢; omega

theorem drop_cons (l : List UInt8) (k : Nat) (h : k < l.length) : l.drop k = l[k] :: l.drop (k + 1) := by
  rw [List.drop_eq_getElem_cons h]

theorem Goes.snoc {l : List UInt8} {b : UInt8} (h : Goes l) (hb : 128 ≤ b.toNat) : Goes (l ++ [b]) := by
  intro c hc
  simp at hc
  rcases hc with hc | rfl
  · exact h c hc
  · exact hb

theorem mul_bound (c sc : Nat) (hc : c < 128) (hs : sc ≤ 268435456) : c * sc ≤ 34359738368 := by
  have := Nat.mul_le_mul (show c ≤ 128 by omega) hs
  omega
theorem mul_int (b c : Nat) : ((b % 128 * c : Nat) : Int) = (b : Int) % 128 * (c : Int) := by rw [Int.natCast_mul, Int.natCast_emod]; rfl
end Pl
end PartPlainB
end Go.Proofs.YtdkenmpdgadcpaaDoor
