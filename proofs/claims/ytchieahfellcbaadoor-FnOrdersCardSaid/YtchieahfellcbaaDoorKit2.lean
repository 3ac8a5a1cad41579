/- Small laws for the walks: make of bytes, and the figure of a number. -/
import Derived.Test.YtchieahfellcbaaDoorKit
import Derived.Test.YtchieahfellcbaaDoorPlainC
namespace Go.Proofs.YtchieahfellcbaaDoor
open Go.RowKit

/-- make of no bytes, with room for c of them. -/
theorem make_run (c : Nat) (h : c ≤ 1000000000) : ∃ M : Array Value, M.size = c ∧ ∀ W : World, (Instr.makeSlice 22 (.int .i64 0) (.int .i64 (c : Int))).run Tryd.prog W = .ok (.slice (some ⟨W.heap.size, 0, none⟩) 0 c) (W.alloc (.cells M 5)) := by
  obtain ⟨i0, hi, hz0, hz1, hz2⟩ := info_parts Tryd.infoU
  refine ⟨madeCells (Value.int .u8 0).cells (((c : Nat) : Int).toNat * i0.size), ?_, fun W => ?_⟩
  · rw [size_madeCells, hz1]; simp
  · have h := run_make (P := Tryd.prog) W 22 5 i0 (.int .u8 0) Tryd.underlying22 hi hz0 .i64 .i64 0 (c : Int) (by omega) (by omega) (by rw [hz2]; omega) (by omega)
    simpa using h

set_option maxHeartbeats 400000 in
theorem l01Figure_int (z : Int) (w : World) (h0 : 0 ≤ z) (h1 : z < 16) :
    Calls Tryd.prog 58 #[.int .i64 z] w fun e w' => e = .returned (.int .u8 ((Pl.fig z.toNat).toNat : Int)) ∧ w' = w := by
  obtain ⟨n, rfl⟩ := Int.eq_ofNat_of_zero_le h0
  rw [Int.toNat_natCast]
  by_cases h : n < 10
  · have e := Pl.fig_low n h
    have E : Hid (((Pl.fig n).toNat : Int) = 48 + (n : Int)) := by show _ = _; omega
    clear e
    go_enter Tryd.func58, Tryd.ntmps58
    go_wp2
    go_ret
    exact ⟨by rw [E.out]; rfl, rfl⟩
  · have e := Pl.fig_high n h (by omega)
    have E : Hid (((Pl.fig n).toNat : Int) = 97 + (n : Int) - 10) := by show _ = _; omega
    clear e
    go_enter Tryd.func58, Tryd.ntmps58
    go_wp2
    go_ret
    exact ⟨by rw [E.out]; rfl, rfl⟩

end Go.Proofs.YtchieahfellcbaaDoor
