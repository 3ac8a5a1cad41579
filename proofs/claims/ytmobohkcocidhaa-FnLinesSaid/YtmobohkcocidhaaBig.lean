/- The law's own test of a draw's length, and texts put together. -/
import Derived.Test.YtmobohkcocidhaaDB
namespace Go.Proofs.Ytmobohkcocidhaa
open Go.RowKit
set_option maxHeartbeats 400000 in
theorem big_any (ad : Option Addr) (n cap : Nat) (w : World) : Calls Try.prog 6 #[.slice ad n cap] w fun e w' => e = .returned (.bool (decide ((1048576 : Int) < (n : Int)))) ∧ w' = w := by
  go_enter Try.func6, Try.ntmps6
  go_wp2
  go_ret
  exact ⟨rfl, rfl⟩
theorem big_yes (ad : Option Addr) (n cap : Nat) (h : 1048576 < n) : ∀ w, Calls Try.prog 6 #[.slice ad n cap] w fun e w' => e = .returned (.bool true) ∧ w' = w := fun w => by
  have := big_any ad n cap w
  rwa [show decide ((1048576 : Int) < (n : Int)) = true by simp; omega] at this
theorem big_no (ad : Option Addr) (n cap : Nat) (h : ¬ 1048576 < n) : ∀ w, Calls Try.prog 6 #[.slice ad n cap] w fun e w' => e = .returned (.bool false) ∧ w' = w := fun w => by
  have := big_any ad n cap w
  rwa [show decide ((1048576 : Int) < (n : Int)) = false by simp; omega] at this
theorem app_data (a b : ByteArray) : (a ++ b).data.toList = a.data.toList ++ b.data.toList := by simp
theorem app_size (a b : ByteArray) : (a ++ b).size = a.size + b.size := by simp
theorem len_size (a : ByteArray) : a.data.toList.length = a.size := by simp
/-- What was laid before stays. -/
theorem keep2 {w w' : World} {g : Nat} {a b : Value} (hb : Below w.heap.size w w') (hg : g < w.heap.size) (h : w.cell? ⟨g, 0, none⟩ = some a ∧ w.cell? ⟨g, 1, none⟩ = some b) : w'.cell? ⟨g, 0, none⟩ = some a ∧ w'.cell? ⟨g, 1, none⟩ = some b :=
  ⟨(hb.cell (by exact hg)).trans h.1, (hb.cell (by exact hg)).trans h.2⟩
end Go.Proofs.Ytmobohkcocidhaa
