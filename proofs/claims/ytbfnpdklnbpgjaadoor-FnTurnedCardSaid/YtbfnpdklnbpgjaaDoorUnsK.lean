/- What Unsealed answers. -/
import Derived.Test.YtbfnpdklnbpgjaaDoorSumK
import Derived.Lib.Strings
namespace Go.Proofs.YtbfnpdklnbpgjaaDoor
open Go.RowKit

/-- A text is as sealed. -/
def Ps.isS (s : ByteArray) : Prop := 4 ≤ s.size ∧ s.size ≤ 20004 ∧ s.data.toList.drop (s.size - 4) = Ps.four (Ps.sm 4294967295 (s.data.toList.take (s.size - 4)))

open Classical in
/-- What Unsealed answers. -/
noncomputable def unsRes (s : ByteArray) : Value := if Ps.isS s then .tuple #[.string ⟨(s.data.toList.take (s.size - 4)).toArray⟩, .bool true] else .tuple #[.string ⟨#[]⟩, .bool false]

theorem unsRes_yes (s : ByteArray) (h : Ps.isS s) : unsRes s = .tuple #[.string ⟨(s.data.toList.take (s.size - 4)).toArray⟩, .bool true] := by unfold unsRes; rw [if_pos h]

theorem unsRes_no (s : ByteArray) (h : ¬ Ps.isS s) : unsRes s = .tuple #[.string ⟨#[]⟩, .bool false] := by unfold unsRes; rw [if_neg h]

theorem Ps.extract_tail (s : ByteArray) (k : Nat) : (s.extract k s.size).data.toList = s.data.toList.drop k := by
  simp only [ByteArray.data_extract, Array.toList_extract, List.extract_eq_take_drop]
  exact List.take_of_length_le (by simp)

theorem Ps.extract_head (s : ByteArray) (k : Nat) : (s.extract 0 k).data.toList = s.data.toList.take k := by
  simp [ByteArray.data_extract]

theorem Ps.isS_iff (s : ByteArray) (k : Nat) (h : s.size = k + 4) : Ps.isS s ↔ k ≤ 20000 ∧ s.data.toList.drop k = Ps.four (Ps.sm 4294967295 (s.data.toList.take k)) := by
  unfold Ps.isS
  rw [show s.size - 4 = k by omega]
  constructor
  · rintro ⟨_, h2, h3⟩; exact ⟨by omega, h3⟩
  · rintro ⟨h2, h3⟩; exact ⟨by omega, by omega, h3⟩
end Go.Proofs.YtbfnpdklnbpgjaaDoor
