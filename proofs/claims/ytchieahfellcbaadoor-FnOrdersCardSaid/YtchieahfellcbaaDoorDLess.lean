/- What DrawLess answers: some two texts of at most 42 bytes each. -/
import Derived.Test.YtchieahfellcbaaDoorDVal
namespace Go.Proofs.YtchieahfellcbaaDoor
open Go.RowKit

set_option maxHeartbeats 1000000 in
set_option maxRecDepth 100000 in
theorem dLess_any (ad : Option Addr) (n cap : Nat) (w : World) (hn : n ≤ 1048576) (hc : Code w ad n) :
    Calls Tryd.prog 36 #[.slice ad n cap] w fun e w' => ∃ t u : List UInt8, t.length ≤ 42 ∧ u.length ≤ 42 ∧ e = .returned (.tuple #[.string ⟨t.toArray⟩, .string ⟨u.toArray⟩]) ∧ Below w.heap.size w w' := by
  have HC : Hid (Code w ad n) := hc
  clear hc
  go_enter Tryd.func36, Tryd.ntmps36
  go_wp2_with fail
  refine (new_any ad n cap w hn HC.out).mono ?_
  rintro e w1 ⟨rfl, d1, s1, b1⟩
  have D1 : Hid (Drw (w.heap.size + 1) w1 w.heap.size ad n cap) := d1
  clear d1
  go_wp2_with fail
  refine (l03Val_any _ _ n cap ad w1 D1.out (by omega)).mono ?_
  rintro e w2 ⟨t, ht, rfl, d2, g2⟩
  have B2 : Hid (Below w.heap.size w w2) := b1.trans (below_of_grown g2 (Nat.le_refl _) (by omega))
  have D2 : Hid (Drw (w.heap.size + 1) w2 w.heap.size ad n cap) := d2
  have s2 := g2.size
  clear d2 g2 D1 b1
  go_wp2_with fail
  refine (l03Val_any _ _ n cap ad w2 D2.out (by omega)).mono ?_
  rintro e w3 ⟨u, hu, rfl, d3, g3⟩
  have B3 : Hid (Below w.heap.size w w3) := B2.out.trans (below_of_grown g3 (Nat.le_refl _) (by omega))
  clear d3 g3 D2
  go_wp2
  go_ret2
  exact ⟨t, u, ht, hu, rfl, B3.out⟩
end Go.Proofs.YtchieahfellcbaaDoor
