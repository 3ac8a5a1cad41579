/- A text of m bytes of one kind. -/
import Derived.Test.YtmobohkcocidhaaDB
import Derived.Test.YtmobohkcocidhaaKitM
namespace Go.Proofs.Ytmobohkcocidhaa
open Go.RowKit

set_option maxHeartbeats 1000000 in
set_option maxRecDepth 100000 in
/-- m bytes of one kind. -/
theorem long_any (m : Nat) (x : Nat) (w : World) (hm : m ≤ 1000000) (hx : x < 256) :
    Calls Try.prog 19 #[.int .i64 (m : Int), .int .u8 (x : Int)] w fun e w' => ∃ bs : List UInt8, bs.length = m ∧ e = .returned (.string ⟨bs.toArray⟩) ∧ Below w.heap.size w w' := by
  obtain ⟨M, hMs, hMl, hmk⟩ := makeFull_run m (by omega)
  go_enter Try.func19, Try.ntmps19
  go_wp2
  clear hmk
  go_loopw [6] (fun i wr => ∃ (k : Nat) (bs : List UInt8), i = .int .i64 (k : Int) ∧ k ≤ m ∧ Row w.heap.size wr (.slice (some ⟨w.heap.size, 0, none⟩) m m) bs ∧ Below w.heap.size w wr ∧ Hid (bs.length = m)) (fun i _ => m - (intOf i).toNat)
  case atStart => exact ⟨0, List.replicate m 0, rfl, by omega, Row.full w (Nat.le_refl _) (by unfold maxLen; omega) hMs hMl, (Below.refl _ _).alloc (Nat.le_refl _) _, (by show _ = _; simp)⟩
  case round =>
    obtain ⟨k, bs, rfl, hk, hrow, hbel, HL⟩ := hrel
    by_cases hlt : k < m
    · have hc := hrow.cell HL.out k hlt
      have hf := hrow.free HL.out k
      have hs := hrow.store HL.out k (UInt8.ofNat x)
      rw [Pl.small x hx] at hs
      have HS : Hid _ := hs
      clear hs
      go_wp2
      go_roundw
      case rel => exact ⟨k + 1, _, by go_num, by omega, HS.out, hbel.setCell (Nat.le_refl _) _, by have := HL.out; show _ = _; simpa using this⟩
      case measure => simp [intOf]; omega
    · have hst := hrow.str
      go_wp2
      go_ret
      exact ⟨bs, HL.out, rfl, hbel⟩

end Go.Proofs.Ytmobohkcocidhaa
