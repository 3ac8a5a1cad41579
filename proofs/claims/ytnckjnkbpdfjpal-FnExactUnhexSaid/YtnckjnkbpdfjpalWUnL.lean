/- The law on Unhex answers true. -/
import Derived.Test.YtnckjnkbpdfjpalWUnI
namespace Go.Proofs.Ytnckjnkbpdfjpal
open Go.RowKit

set_option maxHeartbeats 400000 in
theorem lawUnhex (s : ByteArray) (w : World) (_hs : s.size ≤ maxLen) :
    Calls Try.prog 8 #[.string s] w fun e w' => e = .returned (.bool true) ∧ Below w.heap.size w w' := by
  by_cases hbig : (1048576 : Int) < (s.size : Int)
  · go_enter Try.func8, Try.ntmps8
    go_wp2
    go_ret
    exact ⟨rfl, Below.refl _ _⟩
  have hsm : s.size ≤ 1048576 := by omega
  clear hbig
  have hv : ∃ t b, unRes s = .tuple #[.string t, .bool b] := by
    unfold unRes
    split
    · cases Pl.vals Pl.figures.data.toList [] s.data.toList with
      | none => exact ⟨_, _, rfl⟩
      | some vs => exact ⟨_, _, rfl⟩
    · exact ⟨_, _, rfl⟩
  obtain ⟨t, b, hv⟩ := hv
  have c1 := fun w => specUnhex_any s w hsm
  have c2 := fun w => implUnhex_any s w hsm
  rw [hv] at c1 c2
  have C1 := (show Hid _ from c1)
  have C2 := (show Hid _ from c2)
  clear c1 c2 hv
  go_enter Try.func8, Try.ntmps8
  go_wp2_with (first | (go_at_call 19; refine (C1.out _).mono ?_; rintro e w1 ⟨rfl, hb1⟩) | (go_at_call 20; refine (C2.out _).mono ?_; rintro e w2 ⟨rfl, hb2⟩))
  go_ret
  exact ⟨rfl, hb1.trans (hb2.mono hb1.size)⟩
end Go.Proofs.Ytnckjnkbpdfjpal
