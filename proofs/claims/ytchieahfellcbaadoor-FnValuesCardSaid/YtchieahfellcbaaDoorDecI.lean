/- What the program's Decimal answers, at every int, wherever the library's table of powers of ten is as its text lays it. -/
import Derived.Test.YtchieahfellcbaaDoorDecK
import Derived.Test.YtchieahfellcbaaDoorShelfI
import Derived.WalkSmall
import Derived.Lib.LaidTab
namespace Go.Proofs.YtchieahfellcbaaDoor
open Go.RowKit

theorem digits_eq (f u : Nat) (h0 : 0 < u) (h : u < 10 ^ f) : Lib.decDigits u = Pl.dg f u := by
  induction f generalizing u with
  | zero => simp at h; omega
  | succ f ih =>
    rw [Pl.dg_more f u (by omega), Lib.decDigits]
    by_cases h10 : u < 10
    · rw [dif_pos h10, show u / 10 = 0 by omega, Pl.dg_zero, show u % 10 = u by omega]
      rfl
    · rw [dif_neg h10, ih (u / 10) (by omega) (by rw [Nat.pow_succ] at h; omega)]
      rfl
theorem itoa_eq (n : Int) (h1 : -9223372036854775808 ≤ n) (h2 : n ≤ 9223372036854775807) : Lib.itoa n = Pl.decL n := by
  unfold Lib.itoa Pl.decL
  by_cases h0 : n = 0
  · subst h0
    rw [if_pos rfl, if_neg (by omega), Lib.decDigits, dif_pos (by decide)]
    rfl
  · rw [if_neg h0]
    by_cases hn : n < 0
    · rw [if_pos hn, if_pos hn, digits_eq 20 n.natAbs (by omega) (by omega)]
    · rw [if_neg hn, if_neg hn, digits_eq 20 n.toNat (by omega) (by omega), show n.toNat = n.natAbs by omega]

theorem below_grow (w : World) (k : Nat) (os : Array Obj) : Below w.heap.size w (Go.Sort.grow (w.drewN k) os) := by
  refine ⟨rfl, rfl, rfl, ?_, ?_⟩
  · show w.heap.size ≤ (w.heap ++ os).size
    simp
  · intro j hj
    show (w.heap ++ os)[j]? = w.heap[j]?
    rw [Array.getElem?_append, if_pos hj]

theorem gPow : Tryd.prog.globalNamed "internal/strconv.uint64pow10" = some 1 := by kernel_rfl

set_option maxHeartbeats 400000 in
theorem implDecimal_any (n : Int) (w : World) (h1 : -9223372036854775808 ≤ n) (h2 : n ≤ 9223372036854775807) (ht : Lib.TabIs Tryd.prog w "internal/strconv.uint64pow10" .u64 Lib.pow10Tab) :
    Calls Tryd.prog 13 #[.int .i64 n] w fun e w' => e = .returned (.string ⟨(Pl.decL n).toArray⟩) ∧ Below w.heap.size w w' := by
  have HT : Hid _ := ht
  clear ht
  rw [← itoa_eq n h1 h2]
  go_enter Tryd.func13, Tryd.ntmps13
  go_wp2_with (go_at_call 44; refine (Tryd.strconv_Itoa n h1 h2 _ HT.out).mono ?_; rintro e w' ⟨rfl, k, os, rfl⟩)
  go_ret
  exact ⟨rfl, below_grow w k os⟩

theorem lt_of_tab {w : World} (ht : Lib.TabIs Tryd.prog w "internal/strconv.uint64pow10" .u64 Lib.pow10Tab) : 1 < w.heap.size := by
  have := ht.cell gPow 0 (by decide)
  exact World.block_lt_of_cell? w _ this

#print axioms implDecimal_any
end Go.Proofs.YtchieahfellcbaaDoor
