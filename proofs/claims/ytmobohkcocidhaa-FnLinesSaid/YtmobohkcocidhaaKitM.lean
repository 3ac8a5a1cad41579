/- Small laws for the walks: make of bytes, and rows of bytes that are read and written in place. -/
import Derived.Test.YtmobohkcocidhaaKit
namespace Go.Proofs.Ytmobohkcocidhaa
open Go.RowKit

/-- make of no bytes, with room for c of them. -/
theorem make_run (c : Nat) (h : c ≤ 1000000000) : ∃ M : Array Value, M.size = c ∧ ∀ W : World, (Instr.makeSlice 22 (.int .i64 0) (.int .i64 (c : Int))).run Try.prog W = .ok (.slice (some ⟨W.heap.size, 0, none⟩) 0 c) (W.alloc (.cells M 5)) := by
  obtain ⟨i0, hi, hz0, hz1, hz2⟩ := info_parts Try.infoU
  refine ⟨madeCells (Value.int .u8 0).cells (((c : Nat) : Int).toNat * i0.size), ?_, fun W => ?_⟩
  · rw [size_madeCells, hz1]; simp
  · have h := run_make (P := Try.prog) W 22 5 i0 (.int .u8 0) Try.underlying22 hi hz0 .i64 .i64 0 (c : Int) (by omega) (by omega) (by rw [hz2]; omega) (by omega)
    simpa using h

/-- make of n bytes, all nought. -/
theorem makeFull_run (n : Nat) (h : n ≤ 1000000000) : ∃ M : Array Value, M.size = n ∧ M.toList = (List.replicate n (0 : UInt8)).map bv ∧ ∀ W : World, (Instr.makeSlice 22 (.int .i64 (n : Int)) (.int .i64 (n : Int))).run Try.prog W = .ok (.slice (some ⟨W.heap.size, 0, none⟩) n n) (W.alloc (.cells M 5)) := by
  obtain ⟨i0, hi, hz0, hz1, hz2⟩ := info_parts Try.infoU
  refine ⟨madeCells (Value.int .u8 0).cells (((n : Nat) : Int).toNat * i0.size), ?_, ?_, fun W => ?_⟩
  · rw [size_madeCells, hz1]; simp
  · rw [hz1]
    have := toList_madeCells_one (.int .u8 0) n
    simp only [Int.toNat_natCast, Nat.mul_one, List.map_replicate]
    exact this
  · have h := run_make (P := Try.prog) W 22 5 i0 (.int .u8 0) Try.underlying22 hi hz0 .i64 .i64 (n : Int) (n : Int) (by omega) (by omega) (by rw [hz2]; omega) (by omega)
    simpa using h

theorem Row.full {B n : Nat} {M : Array Value} (w : World) (hB : B ≤ w.heap.size) (hn : n ≤ maxLen) (hs : M.size = n) (hM : M.toList = (List.replicate n (0 : UInt8)).map bv) :
    Row B (w.alloc (.cells M 5)) (.slice (some ⟨w.heap.size, 0, none⟩) n n) (List.replicate n 0) := by
  have := World.ownsRow_lit (base := B) (e := 5) (size := 1) w M n hB hn (by omega)
  unfold Row
  rw [hM] at this
  simpa using this

/-- The place of a row that holds something. -/
theorem Row.at {B : Nat} {w : World} {v : Value} {bs : List UInt8} (h : Row B w v bs) (hne : bs ≠ []) : ∃ g cap, v = .slice (some ⟨g, 0, none⟩) bs.length cap ∧ B ≤ g ∧ g < w.heap.size := by
  rcases h.2 with ⟨_, h0⟩ | ⟨g, cap, cur, rfl, hb, hg, _⟩
  · exact absurd (by simpa using h0) hne
  · exact ⟨g, cap, rfl, hb, (Array.getElem?_eq_some_iff.1 hg).1⟩
theorem Row.cell {B : Nat} {w : World} {g cap n : Nat} {bs : List UInt8} (h : Row B w (.slice (some ⟨g, 0, none⟩) n cap) bs) (hn : bs.length = n) (j : Nat) (hj : j < n) : w.cell? ⟨g, j, none⟩ = some (.int .u8 ((bs.getD j 0).toNat : Int)) := by
  subst hn
  have := World.ownsRow.cellAt h j (by omega)
  rw [this]
  simp [hj, bv]
theorem Row.free {B : Nat} {w : World} {g cap n : Nat} {bs : List UInt8} (h : Row B w (.slice (some ⟨g, 0, none⟩) n cap) bs) (hn : bs.length = n) (j : Nat) : w.frozen? ⟨g, j, none⟩ = false := by
  subst hn
  exact World.ownsRow.frozenAt h j
theorem Row.store {B : Nat} {w : World} {g cap n : Nat} {bs : List UInt8} (h : Row B w (.slice (some ⟨g, 0, none⟩) n cap) bs) (hn : bs.length = n) (j : Nat) (c : UInt8) :
    Row B (w.setCell ⟨g, j, none⟩ (.int .u8 (c.toNat : Int))) (.slice (some ⟨g, 0, none⟩) n cap) (bs.set j c) := by
  subst hn
  have := (World.ownsRow.stored h j (bv c)).1
  unfold Row
  rw [List.map_set, List.length_set]
  exact this

end Go.Proofs.Ytmobohkcocidhaa
