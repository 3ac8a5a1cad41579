/- What DrawCut answers: some text of at most 60 bytes; and DrawNumText: some int. -/
import Derived.Test.YtchieahfellcbaaDoorDPk
import Derived.Test.YtchieahfellcbaaDoorDLg
namespace Go.Proofs.YtchieahfellcbaaDoor
open Go.RowKit

def lens03 : List Int := [0, 3, 40, 41, 60]
theorem lens03_in : ∀ z ∈ lens03, 0 ≤ z ∧ z ≤ 60 := by decide
theorem long_int (z : Int) (w : World) (h0 : 0 ≤ z) (h1 : z ≤ 60) :
    Calls Tryd.prog 46 #[.int .i64 z, .int .u8 65] w fun e w' => ∃ bs : List UInt8, bs.length ≤ 60 ∧ e = .returned (.string ⟨bs.toArray⟩) ∧ Below w.heap.size w w' := by
  obtain ⟨m, rfl⟩ := Int.eq_ofNat_of_zero_le h0
  refine (long_any m 65 w (by omega) (by decide)).mono ?_
  rintro e w' ⟨bs, hb, h2, h3⟩
  exact ⟨bs, by omega, h2, h3⟩

set_option maxHeartbeats 1000000 in
set_option maxRecDepth 100000 in
theorem dCut_any (ad : Option Addr) (n cap : Nat) (w : World) (hn : n ≤ 1048576) (hc : Code w ad n) :
    Calls Tryd.prog 25 #[.slice ad n cap] w fun e w' => ∃ t : List UInt8, t.length ≤ 60 ∧ e = .returned (.string ⟨t.toArray⟩) ∧ Below w.heap.size w w' := by
  have HC : Hid (Code w ad n) := hc
  clear hc
  go_enter Tryd.func25, Tryd.ntmps25
  go_wp2_with fail
  refine (new_any ad n cap w hn HC.out).mono ?_
  rintro e w1 ⟨rfl, d1, s1, b1⟩
  have D1 : Hid (Drw (w.heap.size + 1) w1 w.heap.size ad n cap) := d1
  have C : Hid (Calls Tryd.prog 53 #[.pointer (some ⟨w.heap.size, 0, none⟩), .slice (some ⟨w1.heap.size, 0, none⟩) 5 5] (w1.alloc (.cells (lens03.map (Value.int .i64)).toArray 3))
      fun e w' => ∃ z : Int, z ∈ lens03 ∧ e = .returned (.int .i64 z) ∧ Drw (w.heap.size + 1) w' w.heap.size ad n cap ∧ w1.grownBy w' (some w.heap.size)) := pickI_any _ _ n cap ad lens03 w1 d1 (by omega) (by decide) (by decide)
  have s1' : w.heap.size < w1.heap.size := by omega
  clear d1 s1
  go_wp2_with fail
  refine C.out.mono ?_
  rintro e w2 ⟨z, hz, rfl, d2, g2⟩
  have B2 : Hid (Below w.heap.size w w2) := b1.trans (below_of_grown g2 (Nat.le_refl _) (by omega))
  obtain ⟨hz0, hz1⟩ := lens03_in z hz
  clear d2 g2 hz C b1
  go_wp2_with fail
  refine (long_int z w2 hz0 hz1).mono ?_
  rintro e w3 ⟨t, ht, rfl, b3⟩
  have B3 : Hid (Below w.heap.size w w3) := B2.out.trans (b3.mono B2.out.size)
  clear b3
  go_wp2
  go_ret
  exact ⟨t, ht, rfl, B3.out⟩

/-- The numbers at the edges, and a drawn one. -/
def nums03 (x : Nat) : List Int := [0, 1, -1, 999999, 1000000, 9223372036854775807, -9223372036854775808, (x : Int)]
theorem nums03_in (x : Nat) (hx : x < 5000) : ∀ z ∈ nums03 x, -9223372036854775808 ≤ z ∧ z ≤ 9223372036854775807 := by
  intro z hz
  simp only [nums03, List.mem_cons, List.not_mem_nil, or_false] at hz
  omega

set_option maxHeartbeats 1000000 in
set_option maxRecDepth 100000 in
theorem dNumText_any (ad : Option Addr) (n cap : Nat) (w : World) (hn : n ≤ 1048576) (hc : Code w ad n) :
    Calls Tryd.prog 26 #[.slice ad n cap] w fun e w' => ∃ z : Int, (-9223372036854775808 ≤ z ∧ z ≤ 9223372036854775807) ∧ e = .returned (.int .i64 z) ∧ Below w.heap.size w w' := by
  have HC : Hid (Code w ad n) := hc
  clear hc
  go_enter Tryd.func26, Tryd.ntmps26
  go_wp2_with fail
  refine (new_any ad n cap w hn HC.out).mono ?_
  rintro e w1 ⟨rfl, d1, s1, b1⟩
  have D1 : Hid (Drw (w.heap.size + 1) w1 w.heap.size ad n cap) := d1
  clear d1
  go_wp2_with fail
  refine (below_any _ _ n cap ad 5000 w1 D1.out (by decide) (by decide)).mono ?_
  rintro e w2 ⟨x, hx, rfl, d2, g2⟩
  have B2 : Hid (Below w.heap.size w w2) := b1.trans (below_of_grown g2 (Nat.le_refl _) (by omega))
  have s2 := g2.size
  have C : Hid (Calls Tryd.prog 53 #[.pointer (some ⟨w.heap.size, 0, none⟩), .slice (some ⟨w2.heap.size, 0, none⟩) 8 8] (w2.alloc (.cells ((nums03 x).map (Value.int .i64)).toArray 3))
      fun e w' => ∃ z : Int, z ∈ nums03 x ∧ e = .returned (.int .i64 z) ∧ Drw (w.heap.size + 1) w' w.heap.size ad n cap ∧ w2.grownBy w' (some w.heap.size)) := pickI_any _ _ n cap ad (nums03 x) w2 d2 (by omega) (by simp [nums03]) (by simp [nums03])
  clear d2 g2 b1 D1
  go_wp2_with fail
  refine C.out.mono ?_
  rintro e w3 ⟨z, hz, rfl, d3, g3⟩
  have B3 : Hid (Below w.heap.size w w3) := B2.out.trans (below_of_grown g3 (Nat.le_refl _) (by omega))
  have HZ : Hid (-9223372036854775808 ≤ z ∧ z ≤ 9223372036854775807) := nums03_in x hx z hz
  clear d3 g3 hz C
  go_wp2
  go_ret
  exact ⟨z, HZ.out, rfl, B3.out⟩
#print axioms dCut_any
#print axioms dNumText_any
end Go.Proofs.YtchieahfellcbaaDoor
