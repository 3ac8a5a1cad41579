/- At every text, LinesOf of the program and of the specification answer the same lines, in memory of their own. -/
import Derived.Test.YtmobohkcocidhaaLnS
import Derived.Test.YtmobohkcocidhaaLnI
import Derived.Test.YtmobohkcocidhaaVMark
namespace Go.Proofs.Ytmobohkcocidhaa
open Go.RowKit

set_option maxHeartbeats 1000000 in
set_option maxRecDepth 100000 in
theorem lawLines (s : ByteArray) (w : World) :
    Calls Try.prog 5 #[.string s] w fun e w' => e = .returned (.bool true) ∧ Below w.heap.size w w' := by
  by_cases hbig : (1048576 : Int) < (s.size : Int)
  · go_enter Try.func5, Try.ntmps5
    go_wp2
    go_ret
    exact ⟨rfl, Below.refl _ _⟩
  have hsm : s.size ≤ 1048576 := by omega
  clear hbig
  have hl := Ln.all_len s.data.toList
  have C7 : Hid (∀ w, Calls Try.prog 10 #[.string s] w fun e w' => ∃ v, e = .returned v ∧ SRow w.heap.size w' v (Ln.all s.data.toList) ∧ Below w.heap.size w w') := fun w => specLines_any s w (by omega)
  have C8 : Hid (∀ w, Calls Try.prog 8 #[.string s] w fun e w' => ∃ v, e = .returned v ∧ SRow w.heap.size w' v (Ln.all s.data.toList) ∧ Below w.heap.size w w') := fun w => implLines_any s w (by omega)
  generalize Ln.all s.data.toList = ws at *
  go_enter Try.func5, Try.ntmps5
  go_wp2_with fail
  refine (C7.out _).mono ?_
  rintro e w1 ⟨v1, rfl, r1, b1⟩
  go_wp2_with fail
  refine (C8.out _).mono ?_
  rintro e w2 ⟨v2, rfl, r2, b2⟩
  go_wp2_with fail
  refine (eqS_any v2 v1 _ _ ws w2 r2 (r1.keep b2) (by omega)).mono ?_
  rintro e w3 ⟨rfl, b3⟩
  go_wp2_with fail
  have s1 := b1.size
  have s2 := b2.size
  have s3 := b3.size
  refine (markS_any v2 _ ws w3 (r2.keep b3) (by omega) (by omega)).mono ?_
  rintro e w4 ⟨rfl, r4, b4⟩
  have s4 := b4.size
  have c14 : Below w1.heap.size w1 w4 := (b2.trans (b3.mono s2)).trans b4
  go_wp2_with fail
  refine (heldS_any v2 _ ws.length w4 r4 (by omega)).mono ?_
  rintro e w5 ⟨rfl, b5⟩
  have s5 := b5.size
  have c15 : Below w1.heap.size w1 w5 := c14.trans (b5.mono (by omega))
  go_wp2_with fail
  refine (C8.out _).mono ?_
  rintro e w6 ⟨v3, rfl, r6, b6⟩
  have s6 := b6.size
  have c16 : Below w1.heap.size w1 w6 := c15.trans (b6.mono (by omega))
  go_wp2_with fail
  refine (eqS_any v3 v1 _ _ ws w6 r6 (r1.keep c16) (by omega)).mono ?_
  rintro e w7 ⟨rfl, b7⟩
  have s7 := b7.size
  have c47 : Below w4.heap.size w4 w7 := (b5.trans (b6.mono s5)).trans (b7.mono (by omega))
  go_wp2_with fail
  refine (heldS_any v2 _ ws.length w7 (r4.keep c47) (by omega)).mono ?_
  rintro e w8 ⟨rfl, b8⟩
  have s8 := b8.size
  have c18 : Below w1.heap.size w1 w8 := (c16.trans (b7.mono (by omega))).trans (b8.mono (by omega))
  go_wp2
  go_ret
  exact ⟨rfl, b1.trans (c18.mono s1)⟩
end Go.Proofs.Ytmobohkcocidhaa
