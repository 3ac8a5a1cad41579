/- The law's own 'sameInts', of two rows of the same numbers; a text of one byte. -/
import Derived.Test.YtibmagmdeacenacFnT
import Derived.Lib.ConvBytes
namespace Go.Proofs.Ytibmagmdeacenac
open Go.RowKit

/-- The text of one byte, out of a new row. -/
theorem conv_one (c : UInt8) (w : World) : (convert 22 9 (.slice (some ⟨w.heap.size, 0, none⟩) 1 1)).run Try.prog (w.alloc (.cells #[.int .u8 (c.toNat : Int)] 5)) = .ok (.string ⟨#[c]⟩) (w.alloc (.cells #[.int .u8 (c.toNat : Int)] 5)) := by
  rw [run_convert_bytes_arg (P := Try.prog) _ 22 5 Try.underlying22 Try.underlying5 w.heap.size 0 1 1 [(c.toNat : Int)] (by simp) (fun j hj => by
    have : j = 0 := by omega
    subst this
    rw [blk_cell (heap_alloc_new w _)]
    rfl) 9 Try.underlying9]
  have e3 : strOfNums [(c.toNat : Int)] = ⟨#[c]⟩ := by
    unfold strOfNums
    congr 2
    simp
  rw [e3]
theorem LAt.lit (w : World) (x : Nat) : LAt (w.alloc (.cells #[.int .i64 (x : Int)] 3)) (.slice (some ⟨w.heap.size, 0, none⟩) 1 1) [x] := by
  refine ⟨_, 1, rfl, fun _ => ⟨w.heap.size, rfl, by simp, fun j hj => ?_⟩⟩
  have : j = 0 := by simpa using hj
  subst this
  rw [blk_cell (heap_alloc_new w _)]
  rfl

set_option maxHeartbeats 1000000 in
set_option maxRecDepth 100000 in
theorem sameInts_any (a b : Value) (l : List Nat) (w : World) (ha : LAt w a l) (hb : LAt w b l) (hl : l.length ≤ 1048577) :
    Calls Try.prog 10 #[a, b] w fun e w' => e = .returned (.bool true) ∧ Below w.heap.size w w' := by
  obtain ⟨aa, ac, rfl, fa⟩ := ha
  obtain ⟨ba, bc, rfl, fb⟩ := hb
  obtain ⟨n, hn⟩ : ∃ n, n = l.length := ⟨_, rfl⟩
  have FA : Hid (∀ j, j < n → ∃ g, aa = some ⟨g, 0, none⟩ ∧ g < w.heap.size ∧ w.cell? ⟨g, j, none⟩ = some (.int .i64 ((l.getD j 0 : Nat) : Int))) := by
    intro j hj
    obtain ⟨g, rfl, h1, h2⟩ := fa (by omega)
    exact ⟨g, rfl, h1, h2 j (by omega)⟩
  have FB : Hid (∀ j, j < n → ∃ g, ba = some ⟨g, 0, none⟩ ∧ g < w.heap.size ∧ w.cell? ⟨g, j, none⟩ = some (.int .i64 ((l.getD j 0 : Nat) : Int))) := by
    intro j hj
    obtain ⟨g, rfl, h1, h2⟩ := fb (by omega)
    exact ⟨g, rfl, h1, h2 j (by omega)⟩
  rw [← hn] at hl ⊢
  clear hn fa fb
  go_enter Try.func10, Try.ntmps10
  go_wp2
  go_loopw [5] (fun i wr => ∃ k : Nat, i = .int .i64 (k : Int) ∧ k ≤ n ∧ Below w.heap.size w wr) (fun i _ => n - (intOf i).toNat)
  case atStart => exact ⟨0, rfl, by omega, Below.refl _ _⟩
  case round =>
    obtain ⟨k, rfl, hk, hbel⟩ := hrel
    by_cases hlt : k < n
    · obtain ⟨g1, rfl, l1, e1⟩ := FA.out k hlt
      obtain ⟨g2, rfl, l2, e2⟩ := FB.out k hlt
      generalize l.getD k 0 = x at *
      have c1 : wr.cell? ⟨g1, k, none⟩ = some (.int .i64 (x : Int)) := (hbel.cell (by exact l1)).trans e1
      have c2 : wr.cell? ⟨g2, k, none⟩ = some (.int .i64 (x : Int)) := (hbel.cell (by exact l2)).trans e2
      have i1 : (k : Int) < (n : Int) := by omega
      clear e1 e2
      go_wp2_with fail
      go_quiet (fail)
      go_wp2
      go_roundw
      case rel => exact ⟨k + 1, by go_num, by omega, below_drewN hbel _⟩
      case measure => simp [intOf]; omega
    · go_wp2
      go_ret
      exact ⟨rfl, hbel⟩
#print axioms sameInts_any
end Go.Proofs.Ytibmagmdeacenac
