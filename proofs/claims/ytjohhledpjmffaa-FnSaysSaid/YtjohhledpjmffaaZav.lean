/- Small laws for the walks: make of bytes, and rows of bytes that are read and written in place. A text of m bytes of one kind. -/
import Derived.Test.YtjohhledpjmffaaZam
import Derived.Test.YtjohhledpjmffaaZas
namespace Go.Proofs.Ytjohhledpjmffaa
section PartKitM
open Go.RowKit

/-- make of n bytes, all nought. -/
theorem makeFull_run (n : Nat) (h : n ≤ 1000000000) : ∃ M : Array Value, M.size = n ∧ M.toList = (List.replicate n (0 : UInt8)).map bv ∧ ∀ W : World, (Instr.makeSlice 22 (.int .i64 (n : Int)) (.int .i64 (n : Int))).run Try.prog W = .ok (.slice (some ⟨W.heap.size, 0, none⟩) n n) (W.alloc (.cells M 5)) := by
  obtain ⟨i0, hi, hz0, hz1, hz2⟩ := info_parts Try.infoU
  refine ⟨madeCells (Value.int .u8 0).cells (((n : Nat) : Int).toNat * i0.size), ?_, ?_, fun W => ?_⟩
  · rw [size_madeCells, hz1]; simp
  · rw [hz1]
    have := toList_madeCells_one (.int .u8 0) n
    simp only [Int.toNat_natCast, Nat.mul_one, List.map_replicate]
    exact this
  · have h := run_make (P := Try.prog) W 22 5 i0 (.int .u8 0) Try.underlying22 hi hz0 .i64 .i64 (n : Int) (n : Int) (by omega) (by omega) (by rw [hz2]; omega) (by omega)
    simpa using h

theorem Row.full {B n : Nat} {M : Array Value} (w : World) (hB : B ≤ w.heap.size) (hn : n ≤ maxLen) (hs : M.size = n) (hM : M.toList = (List.replicate n (0 : UInt8)).map bv) :
    Row B (w.alloc (.cells M 5)) (.slice (some ⟨w.heap.size, 0, none⟩) n n) (List.replicate n 0) := by
  have := World.ownsRow_lit (base := B) (e := 5) (size := 1) w M n hB hn (by omega)
  unfold Row
  rw [hM] at this
  simpa using this

/-- The place of a row that holds something. -/
theorem Row.at {B : Nat} {w : World} {v : Value} {bs : List UInt8} (h : Row B w v bs) (hne : bs ≠ []) : ∃ g cap, v = .slice (some ⟨g, 0, none⟩) bs.length cap ∧ B ≤ g ∧ g < w.heap.size := by
  rcases h.2 with ⟨_, h0⟩ | ⟨g, cap, cur, rfl, hb, hg, _⟩
  · exact absurd (by simpa using h0) hne
  · exact ⟨g, cap, rfl, hb, (Array.getElem?_eq_some_iff.1 hg).1⟩
theorem Row.cell {B : Nat} {w : World} {g cap n : Nat} {bs : List UInt8} (h : Row B w (.slice (some ⟨g, 0, none⟩) n cap) bs) (hn : bs.length = n) (j : Nat) (hj : j < n) : w.cell? ⟨g, j, none⟩ = some (.int .u8 ((bs.getD j 0).toNat : Int)) := by
  subst hn
  have := World.ownsRow.cellAt h j (by omega)
  rw [this]
  simp [hj, bv]
theorem Row.free {B : Nat} {w : World} {g cap n : Nat} {bs : List UInt8} (h : Row B w (.slice (some ⟨g, 0, none⟩) n cap) bs) (hn : bs.length = n) (j : Nat) : w.frozen? ⟨g, j, none⟩ = false := by
  subst hn
  exact World.ownsRow.frozenAt h j
theorem Row.store {B : Nat} {w : World} {g cap n : Nat} {bs : List UInt8} (h : Row B w (.slice (some ⟨g, 0, none⟩) n cap) bs) (hn : bs.length = n) (j : Nat) (c : UInt8) :
    Row B (w.setCell ⟨g, j, none⟩ (.int .u8 (c.toNat : Int))) (.slice (some ⟨g, 0, none⟩) n cap) (bs.set j c) := by
  subst hn
  have := (World.ownsRow.stored h j (bv c)).1
  unfold Row
  rw [List.map_set, List.length_set]
  exact this

end PartKitM
section PartDLg
open Go.RowKit

set_option maxHeartbeats 1000000 in
set_option maxRecDepth 100000 in
/-- m bytes of one kind. -/
theorem long_any (m : Nat) (x : Nat) (w : World) (hm : m ≤ 1000000) (hx : x < 256) :
    Calls Try.prog 73 #[.int .i64 (m : Int), .int .u8 (x : Int)] w fun e w' => ∃ bs : List UInt8, bs.length = m ∧ e = .returned (.string ⟨bs.toArray⟩) ∧ Below w.heap.size w w' := by
  obtain ⟨M, hMs, hMl, hmk⟩ := makeFull_run m (by omega)
  go_enter Try.func73, Try.ntmps73
  go_wp2
  clear hmk
  go_loopw [6] (fun i wr => ∃ (k : Nat) (bs : List UInt8), i = .int .i64 (k : Int) ∧ k ≤ m ∧ Row w.heap.size wr (.slice (some ⟨w.heap.size, 0, none⟩) m m) bs ∧ Below w.heap.size w wr ∧ Hid (bs.length = m)) (fun i _ => m - (intOf i).toNat)
  case atStart => exact ⟨0, List.replicate m 0, rfl, by omega, Row.full w (Nat.le_refl _) (by unfold maxLen; omega) hMs hMl, (Below.refl _ _).alloc (Nat.le_refl _) _, (by show _ = _; simp)⟩
  case round =>
    obtain ⟨k, bs, rfl, hk, hrow, hbel, HL⟩ := hrel
    by_cases hlt : k < m
    · have hc := hrow.cell HL.out k hlt
      have hf := hrow.free HL.out k
      have hs := hrow.store HL.out k (UInt8.ofNat x)
      rw [Pl.small x hx] at hs
      have HS : Hid _ := hs
      clear hs
      go_wp2
      go_roundw
      case rel => exact ⟨k + 1, _, by go_num, by omega, HS.out, hbel.setCell (Nat.le_refl _) _, by have := HL.out; show _ = _; simpa using this⟩
      case measure => simp [intOf]; omega
    · have hst := hrow.str
      go_wp2
      go_ret
      exact ⟨bs, HL.out, rfl, hbel⟩

end PartDLg
end Go.Proofs.Ytjohhledpjmffaa
