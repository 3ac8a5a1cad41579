/- Once in so many draws: some Boolean. -/
import Derived.Test.YtmobohkcocidhaaDB
namespace Go.Proofs.Ytmobohkcocidhaa
open Go.RowKit

set_option maxHeartbeats 400000 in
theorem once_any (B g n cap : Nat) (ad : Option Addr) (m : Nat) (w : World) (hd : Drw B w g ad n cap) (hm : 0 < m) (hm2 : m ≤ 4294967296) :
    Calls Try.prog 18 #[.pointer (some ⟨g, 0, none⟩), .int .i64 (m : Int)] w fun e w' => ∃ b : Bool, e = .returned (.bool b) ∧ Drw B w' g ad n cap ∧ w.grownBy w' (some g) := by
  have HD : Hid (Drw B w g ad n cap) := hd
  clear hd
  go_enter Try.func18, Try.ntmps18
  go_wp2_with fail
  refine (below_any B g n cap ad m w HD.out hm hm2).mono ?_
  rintro e w1 ⟨x, hx, rfl, d1, g1⟩
  have D1 : Hid (Drw B w1 g ad n cap) := d1
  have G1 : Hid (w.grownBy w1 (some g)) := g1
  clear d1 g1
  go_wp2
  go_ret
  exact ⟨_, rfl, D1.out, G1.out⟩
end Go.Proofs.Ytmobohkcocidhaa
