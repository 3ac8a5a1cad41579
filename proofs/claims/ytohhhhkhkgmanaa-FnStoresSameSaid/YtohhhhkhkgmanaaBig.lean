/- The law's own test of a draw's length, and texts put together. -/
import Derived.Test.YtohhhhkhkgmanaaZan
namespace Go.Proofs.Ytohhhhkhkgmanaa
open Go.RowKit
set_option maxHeartbeats 400000 in
theorem big_any (ad : Option Addr) (n cap : Nat) (w : World) : Calls Try.prog 7 #[.slice ad n cap] w fun e w' => e = .returned (.bool (decide ((1048576 : Int) < (n : Int)))) ∧ w' = w := by
  go_enter Try.func7, Try.ntmps7
  go_wp2
  go_ret
  exact ⟨rfl, rfl⟩
theorem big_yes (ad : Option Addr) (n cap : Nat) (h : 1048576 < n) : ∀ w, Calls Try.prog 7 #[.slice ad n cap] w fun e w' => e = .returned (.bool true) ∧ w' = w := fun w => by
  have := big_any ad n cap w
  rwa [show decide ((1048576 : Int) < (n : Int)) = true by simp; omega] at this
theorem big_no (ad : Option Addr) (n cap : Nat) (h : ¬ 1048576 < n) : ∀ w, Calls Try.prog 7 #[.slice ad n cap] w fun e w' => e = .returned (.bool false) ∧ w' = w := fun w => by
  have := big_any ad n cap w
  rwa [show decide ((1048576 : Int) < (n : Int)) = false by simp; omega] at this
end Go.Proofs.Ytohhhhkhkgmanaa
