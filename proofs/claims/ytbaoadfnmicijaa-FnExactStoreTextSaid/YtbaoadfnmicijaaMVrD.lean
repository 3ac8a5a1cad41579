/- What ShortText and ReadShort answer, the program's and the specification's, and that the laws on ReadVar, ShortText and ReadShort answer true. -/
import Derived.Test.YtbaoadfnmicijaaMZap
import Derived.Test.YtbaoadfnmicijaaMVrC
namespace Go.Proofs.Ytbaoadfnmicijaa
open Go.RowKit

/-- What ShortText answers. -/
def shortRes (s : ByteArray) : Value := if s.size ≤ 20000 then .tuple #[.string (⟨(Pl.vb 8 s.size).toArray⟩ ++ s), .bool true] else .tuple #[.string ⟨#[]⟩, .bool false]

theorem implVar_nat (n : Nat) (w : World) (h : n ≤ 20000) :
    Calls Try.prog 52 #[.int .i64 n] w fun e w' => e = .returned (.tuple #[.string ⟨(Pl.vb 8 n).toArray⟩, .bool true]) ∧ Below w.heap.size w w' := by
  have := implVarText_any n w
  rwa [varRes_yes n (by omega)] at this

set_option maxHeartbeats 400000 in
theorem implShort_any (s : ByteArray) (w : World) (hs : s.size ≤ 1048576) :
    Calls Try.prog 54 #[.string s] w fun e w' => e = .returned (shortRes s) ∧ Below w.heap.size w w' := by
  unfold shortRes
  by_cases h : s.size ≤ 20000
  · rw [if_pos h]
    have hvl := Pl.vb_len 8 s.size
    go_enter Try.func54, Try.ntmps54
    go_wp2_with (go_at_call 52; refine (implVar_nat s.size _ (by omega)).mono ?_; rintro e w' ⟨rfl, hb⟩)
    go_ret2
    exact ⟨rfl, hb⟩
  · rw [if_neg h]
    go_enter Try.func54, Try.ntmps54
    go_wp2
    go_ret2
    exact ⟨rfl, Below.refl _ _⟩

end Go.Proofs.Ytbaoadfnmicijaa
