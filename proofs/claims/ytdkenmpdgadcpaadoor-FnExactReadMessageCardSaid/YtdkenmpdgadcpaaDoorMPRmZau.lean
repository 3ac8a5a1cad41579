/- Plain facts: what is read of the bytes of code. What Unsealed answers. -/
import Derived.Test.YtdkenmpdgadcpaaDoorMPRmZap
import Derived.Test.YtdkenmpdgadcpaaDoorMPRmZac
import Derived.Test.YtdkenmpdgadcpaaDoorMPRmZar
import Derived.Lib.Strings
namespace Go.Proofs.YtdkenmpdgadcpaaDoor
section PartRcP
namespace Pl
/-- What is read is what its number is written as. -/
theorem rvF_bytes (f : Nat) (pre r : List UInt8) (n k : Nat) (hp : Goes pre) (hf : pre.length + f ≤ 9) (h : rvF f pre r = some (n, k)) : pre.length < k ∧ pre ++ r.take (k - pre.length) = vb 8 n := by
  induction f generalizing pre r with
  | zero => simp [rvF] at h
  | succ f ih =>
    cases r with
    | nil => simp [rvF] at h
    | cons b r =>
      by_cases hb : b.toNat < 128
      · by_cases h2 : (b.toNat = 0 ∧ 0 < pre.length) ∨ 1000000000 < val (pre ++ [b])
        · rw [rvF_bad f pre b r hb h2] at h; cases h
        · rw [rvF_end f pre b r hb h2] at h
          simp only [Option.some.injEq, Prod.mk.injEq] at h
          obtain ⟨rfl, rfl⟩ := h
          refine ⟨by omega, ?_⟩
          have := (vb_val 8 pre b hp hb (by omega)).2 (fun h => h2 (.inl h))
          rw [this, show pre.length + 1 - pre.length = 1 by omega]
          rfl
      · rw [rvF_on f pre b r (by omega)] at h
        obtain ⟨h1, h2⟩ := ih (pre ++ [b]) r (hp.snoc (by omega)) (by simp; omega) h
        simp only [List.length_append, List.length_singleton] at h1 h2
        refine ⟨by omega, ?_⟩
        rw [← h2, show k - pre.length = (k - (pre.length + 1)) + 1 by omega, List.take_succ_cons, List.append_assoc]
        rfl
end Pl

namespace Rc
/-- A number at a place, and the place behind it. -/
def rv (L : List UInt8) (a : Nat) : Option (Nat × Nat) := (Pl.rvF 5 [] (L.drop a)).map fun r => (r.1, a + r.2)
/-- A short text at a place. -/
def rs (L : List UInt8) (a : Nat) : Option (List UInt8 × Nat) :=
  match rv L a with
  | none => none
  | some (m, k) => if m ≤ 20000 ∧ k + m ≤ L.length then some ((L.drop k).take m, k + m) else none
theorem rv_bytes {L : List UInt8} {a n k : Nat} (ha : a ≤ L.length) (h : rv L a = some (n, k)) : a < k ∧ k ≤ L.length ∧ L.take k = L.take a ++ Pl.vb 8 n ∧ n ≤ 1000000000 := by
  unfold rv at h
  obtain ⟨⟨n', j⟩, h1, h2⟩ := Option.map_eq_some_iff.1 h
  simp only [Prod.mk.injEq] at h2
  obtain ⟨rfl, rfl⟩ := h2
  obtain ⟨h3, h4⟩ := Pl.rvF_some _ _ _ _ _ h1
  obtain ⟨h5, h6⟩ := Pl.rvF_bytes 5 [] _ _ _ (fun _ h => by cases h) (by simp) h1
  simp only [List.length_nil, List.length_drop, Nat.zero_add, Nat.sub_zero, List.nil_append] at h4 h5 h6
  refine ⟨by omega, by omega, ?_, h3⟩
  rw [← h6, List.take_add]
end Rc
end PartRcP
section PartUnsK
open Go.RowKit

/-- A text is as sealed. -/
def Ps.isS (s : ByteArray) : Prop := 4 ≤ s.size ∧ s.size ≤ 20004 ∧ s.data.toList.drop (s.size - 4) = Ps.four (Ps.sm 4294967295 (s.data.toList.take (s.size - 4)))

open Classical in
/-- What Unsealed answers. -/
noncomputable def unsRes (s : ByteArray) : Value := if Ps.isS s then .tuple #[.string ⟨(s.data.toList.take (s.size - 4)).toArray⟩, .bool true] else .tuple #[.string ⟨#[]⟩, .bool false]

theorem unsRes_yes (s : ByteArray) (h : Ps.isS s) : unsRes s = .tuple #[.string ⟨(s.data.toList.take (s.size - 4)).toArray⟩, .bool true] := by unfold unsRes; rw [if_pos h]

theorem unsRes_no (s : ByteArray) (h : ¬ Ps.isS s) : unsRes s = .tuple #[.string ⟨#[]⟩, .bool false] := by unfold unsRes; rw [if_neg h]

theorem Ps.extract_tail (s : ByteArray) (k : Nat) : (s.extract k s.size).data.toList = s.data.toList.drop k := by
  simp only [ByteArray.data_extract, Array.toList_extract, List.extract_eq_take_drop]
  exact List.take_of_length_le (by simp)

theorem Ps.extract_head (s : ByteArray) (k : Nat) : (s.extract 0 k).data.toList = s.data.toList.take k := by
  simp [ByteArray.data_extract]

theorem Ps.isS_iff (s : ByteArray) (k : Nat) (h : s.size = k + 4) : Ps.isS s ↔ k ≤ 20000 ∧ s.data.toList.drop k = Ps.four (Ps.sm 4294967295 (s.data.toList.take k)) := by
  unfold Ps.isS
  rw [show s.size - 4 = k by omega]
  constructor
  · rintro ⟨_, h2, h3⟩; exact ⟨by omega, h3⟩
  · rintro ⟨h2, h3⟩; exact ⟨by omega, by omega, h3⟩
end PartUnsK
end Go.Proofs.YtdkenmpdgadcpaaDoor
