/- A new cursor over the bytes of a draw; numbers and texts that are drawn: each is some number or text within its bounds, and nothing that was there is written. -/
import Derived.Test.YteajkkcelajadaaDA
namespace Go.Proofs.Yteajkkcelajadaa
open Go.RowKit

/-- The bytes of a draw, in a slice that came in. -/
def Code (w : World) (ad : Option Addr) (n : Nat) : Prop :=
  0 < n → ∃ b off, ad = some ⟨b, off, none⟩ ∧ b < w.heap.size ∧ ∀ j, j < n → ∃ z : Nat, z < 256 ∧ w.cell? ⟨b, off + j, none⟩ = some (.int .u8 (z : Int))
theorem Code.keep {w w' : World} {ad : Option Addr} {n : Nat} (h : Code w ad n) (hb : Below w.heap.size w w') : Code w' ad n := by
  intro h0
  obtain ⟨b, off, e, h1, h2⟩ := h h0
  refine ⟨b, off, e, Nat.lt_of_lt_of_le h1 hb.size, fun j hj => ?_⟩
  obtain ⟨z, hz, hc⟩ := h2 j hj
  exact ⟨z, hz, by rw [hb.cell (by exact h1)]; exact hc⟩
theorem below_of_grown {B : Nat} {w w' : World} {g : Nat} (h : w.grownBy w' (some g)) (hB : B ≤ g) (hg : g < w.heap.size) : Below B w w' :=
  (Below.refl B w).grown h (by omega) (fun k hk => by cases hk; exact hB)
theorem Drw.lt {B : Nat} {w : World} {g : Nat} {ad : Option Addr} {n cap : Nat} (h : Drw B w g ad n cap) : g < w.heap.size := by
  obtain ⟨i, k, _, hc⟩ := h.cur
  exact (Array.getElem?_eq_some_iff.1 hc).1

theorem Drw.made (w : World) (ad : Option Addr) (n cap : Nat) (x : Int) (hn : n ≤ 1048576) (hc : Code w ad n) :
    Drw (w.heap.size + 1) (w.alloc (.cells #[.slice ad n cap, .int .i64 0, .int .i64 x] 42)) w.heap.size ad n cap := by
  refine ⟨⟨0, x, by omega, heap_alloc_new w _⟩, by omega, hn, fun h0 => ?_⟩
  obtain ⟨b, off, e, h1, h2⟩ := hc h0
  refine ⟨b, off, e, by omega, by omega, fun j hj => ?_⟩
  obtain ⟨z, hz, hc⟩ := h2 j hj
  exact ⟨z, hz, by rw [((Below.refl w.heap.size w).alloc (Nat.le_refl _) _).cell (by exact h1)]; exact hc⟩

set_option maxHeartbeats 1000000 in
set_option maxRecDepth 100000 in
theorem new_any (ad : Option Addr) (n cap : Nat) (w : World) (hn : n ≤ 1048576) (hc : Code w ad n) :
    Calls Try.prog 17 #[.slice ad n cap] w fun e w' => e = .returned (.pointer (some ⟨w.heap.size, 0, none⟩)) ∧ Drw (w.heap.size + 1) w' w.heap.size ad n cap ∧ w'.heap.size = w.heap.size + 1 ∧ Below w.heap.size w w' := by
  have HC : Hid (Code w ad n) := hc
  clear hc
  go_enter Try.func17, Try.ntmps17
  go_wp2
  go_loop [3, 4] (fun h i => ∃ (k : Nat) (x : Int), i = .int .i64 (k : Int) ∧ h = .int .i64 x ∧ k ≤ n ∧ 0 ≤ x ∧ x ≤ 1073741823) (fun _ i => n - (intOf i).toNat)
  case atStart => exact ⟨0, _, rfl, rfl, by omega, by omega, by omega⟩
  case round =>
    obtain ⟨k, x, rfl, rfl, hk, hx0, hx1⟩ := hrel
    by_cases hlt : k < n
    · by_cases h4 : k < 4000
      · have d4 : decide ((k : Int) < 4000) = true := by simp; omega
        obtain ⟨b, off, hadr, _, hz⟩ := HC.out (by omega)
        obtain ⟨z, hz256, hzc⟩ := hz k hlt
        have HZ : Hid _ := hz
        clear hz
        have hlt2 : (k : Int) < (n : Int) := by omega
        have hy := and_le (x * 131 + (z : Int) + 7) 1073741823 (by decide)
        have HY : Hid (0 ≤ bits .and .i64 (x * 131 + (z : Int) + 7) 1073741823 ∧ bits .and .i64 (x * 131 + (z : Int) + 7) 1073741823 ≤ 1073741823) := hy
        clear hy
        subst hadr
        go_wp2
        go_round
        case rel => exact ⟨k + 1, _, by go_num, rfl, by omega, HY.out.1, HY.out.2⟩
        case measure => simp [intOf]; omega
      · have d4 : decide ((k : Int) < 4000) = false := by simp; omega
        go_wp2
        go_ret
        exact ⟨rfl, Drw.made w ad n cap x hn HC.out, by simp, (Below.refl _ _).alloc (Nat.le_refl _) _⟩
    · go_wp2
      go_ret
      exact ⟨rfl, Drw.made w ad n cap x hn HC.out, by simp, (Below.refl _ _).alloc (Nat.le_refl _) _⟩
end Go.Proofs.Yteajkkcelajadaa
