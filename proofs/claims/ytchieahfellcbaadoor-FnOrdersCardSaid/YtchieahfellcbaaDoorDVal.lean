/- A drawn value: some text of at most 42 bytes. -/
import Derived.Test.YtchieahfellcbaaDoorDPs
namespace Go.Proofs.YtchieahfellcbaaDoor
open Go.RowKit

def vals03 : List (List UInt8) := [[], [97], [98], [48], [49], [55], [48, 55], [52, 50], [57, 57, 57, 57, 57, 57], [32, 53], [53, 120], [104, 101, 108, 108, 111], [97, 98, 99, 97, 98, 99], [49, 48, 48, 48, 48, 48, 48], [97, 97, 98], [48, 49, 50, 51, 52, 53, 54, 55, 56, 57, 48, 49, 50, 51, 52, 53, 54, 55, 56, 57, 48, 49, 50, 51, 52, 53, 54, 55, 56, 57, 48, 49, 50, 51, 52, 53, 54, 55, 56, 57, 120, 120]]
theorem vals03_len : ∀ t ∈ vals03, t.length ≤ 42 := by decide

set_option maxHeartbeats 1000000 in
set_option maxRecDepth 100000 in
theorem l03Val_any (B g n cap : Nat) (ad : Option Addr) (w : World) (hd : Drw B w g ad n cap) (hB : B ≤ w.heap.size) :
    Calls Tryd.prog 57 #[.pointer (some ⟨g, 0, none⟩)] w fun e w' => ∃ t : List UInt8, t.length ≤ 42 ∧ e = .returned (.string ⟨t.toArray⟩) ∧ Drw B w' g ad n cap ∧ w.grownBy w' (some g) := by
  have C : Hid (Calls Tryd.prog 68 #[.pointer (some ⟨g, 0, none⟩), .slice (some ⟨w.heap.size, 0, none⟩) 16 16] (w.alloc (.cells (vals03.map sv).toArray 9))
      fun e w' => ∃ t : List UInt8, t ∈ vals03 ∧ e = .returned (.string ⟨t.toArray⟩) ∧ Drw B w' g ad n cap ∧ w.grownBy w' (some g)) := pickL_any B g n cap ad vals03 w hd hB (by decide) (by decide)
  clear hd
  go_enter Tryd.func57, Tryd.ntmps57
  go_wp2_with fail
  refine C.out.mono ?_
  rintro e w1 ⟨t, ht, rfl, d1, g1⟩
  have HT : Hid (t.length ≤ 42) := vals03_len t ht
  have D1 : Hid (Drw B w1 g ad n cap) := d1
  have G1 : Hid (w.grownBy w1 (some g)) := g1
  clear ht d1 g1
  go_wp2
  go_ret
  exact ⟨t, HT.out, rfl, D1.out, G1.out⟩
end Go.Proofs.YtchieahfellcbaaDoor
