/- At every int, NumText of the program and of the specification answer the same, wherever the library's table of powers of ten is as its text lays it. -/
import Derived.Test.YtchieahfellcbanDoorVText
namespace Go.Proofs.YtchieahfellcbanDoor
open Go.RowKit
set_option maxHeartbeats 400000 in
theorem lawNumText (n : Int) (w : World) (h1 : -9223372036854775808 ≤ n) (h2 : n ≤ 9223372036854775807) (ht : Lib.TabIs Tryd.prog w "internal/strconv.uint64pow10" .u64 Lib.pow10Tab) :
    Calls Tryd.prog 5 #[.int .i64 n] w fun e w' => e = .returned (.bool true) ∧ Below w.heap.size w w' := by
  have hlt := lt_of_tab ht
  have C1 : Hid (∀ w, Calls Tryd.prog 11 #[.int .i64 n] w fun e w' => e = .returned (.string ⟨(ntL n).toArray⟩) ∧ Below w.heap.size w w') := fun w => specNumText_any n w h1 h2
  have C2 : Hid (∀ w1, Below w.heap.size w w1 → Calls Tryd.prog 12 #[.int .i64 n] w1 fun e w' => e = .returned (.string ⟨(ntL n).toArray⟩) ∧ Below w1.heap.size w1 w') :=
    fun w1 hb => implNumText_any n w1 h1 h2 (var?_below hb gPow hlt ht)
  clear ht
  generalize (⟨(ntL n).toArray⟩ : ByteArray) = t at *
  go_enter Tryd.func5, Tryd.ntmps5
  go_wp2_with (first | (go_at_call 11; refine (C1.out _).mono ?_; rintro e w1 ⟨rfl, hb1⟩) | (go_at_call 12; refine (C2.out _ hb1).mono ?_; rintro e w2 ⟨rfl, hb2⟩))
  go_ret
  exact ⟨rfl, hb1.trans (hb2.mono hb1.size)⟩
#print axioms lawNumText
end Go.Proofs.YtchieahfellcbanDoor
