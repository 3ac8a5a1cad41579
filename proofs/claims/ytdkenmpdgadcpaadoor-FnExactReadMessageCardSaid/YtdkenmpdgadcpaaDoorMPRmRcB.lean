/- What is read of the bytes of code: short texts, by both; the program's reader. -/
import Derived.Test.YtdkenmpdgadcpaaDoorMPRmRcA
import Derived.Test.YtdkenmpdgadcpaaDoorMPRmZai
namespace Go.Proofs.YtdkenmpdgadcpaaDoor
open Go.RowKit

/-- The program's reader's block. -/
def Br7 (w : World) (g : Nat) (s : ByteArray) (a : Nat) (wrong : Bool) : Prop := w.heap[g]? = some (.cells #[.string s, .int .i64 (a : Int), .bool wrong] 53 (0, 0))

set_option maxHeartbeats 2000000 in
set_option maxRecDepth 100000 in
theorem imNumber (g : Nat) (s : ByteArray) (a most : Nat) (bad : Bool) (w : World) (h : Br7 w g s a bad) (ha : a ≤ s.size) (hs : s.size ≤ 1048576) :
    Calls Tryd.prog 25 #[.pointer (some ⟨g, 0, none⟩), .int .i64 (most : Int)] w fun e w' => (match Rc.rv s.data.toList a with
      | some (n, k) => if n ≤ most then e = .returned (.int .i64 (n : Int)) ∧ Br7 w' g s k bad else e = .returned (.int .i64 0) ∧ Br7 w' g s a true
      | none => e = .returned (.int .i64 0) ∧ Br7 w' g s a true) ∧ w.grownBy w' (some g) := by
  have C := fun W => implRv_any s (a : Int) W hs
  rw [rvRes_is s a ha] at C
  have HH : Hid (Br7 w g s a bad) := h
  have hgl := blk_lt h
  have c0 := blk_cell h 0
  have c1 := blk_cell h 1
  have d1 := blk_cell (w := w.drew) h 1
  have d2 := blk_cell (w := w.drew) h 2
  have f1 := blk_free (w := w.drew) h 1
  have f2 := blk_free (w := w.drew) h 2
  simp only [List.getElem?_toArray, List.getElem?_cons_zero, List.getElem?_cons_succ] at c0 c1 d1 d2
  clear h
  cases hr : Rc.rv s.data.toList a with
  | none =>
    rw [hr] at C
    have CC : Hid (∀ W, Calls Tryd.prog 38 #[.string s, .int .i64 (a : Int)] W fun e w' => e = .returned (.tuple #[.int .i64 0, .int .i64 0, .bool false]) ∧ w' = W) := C
    clear C hr
    go_enter Tryd.func25, Tryd.ntmps25
    go_wp2_with fail
    go_region_with ((go_at_call 38; refine (CC.out _).mono ?_; rintro e w1 ⟨rfl, rfl⟩))
    all_goals
      go_wp2
      go_ret
      exact ⟨⟨rfl, blk_set (w := w.drew) HH.out 2 (.bool true)⟩, gr_trans (gr_below ((Below.refl _ _).drew)) (gr_set _ _ _ _)⟩
  | some r =>
    obtain ⟨n, k⟩ := r
    rw [hr] at C
    have CC : Hid (∀ W, Calls Tryd.prog 38 #[.string s, .int .i64 (a : Int)] W fun e w' => e = .returned (.tuple #[.int .i64 (n : Int), .int .i64 (k : Int), .bool true]) ∧ w' = W) := C
    clear C hr
    simp only
    by_cases hm : n ≤ most
    · simp only [if_pos hm]
      have dm : decide ((most : Int) < (n : Int)) = false := decide_eq_false (by omega)
      go_enter Tryd.func25, Tryd.ntmps25
      go_wp2_with fail
      go_region_with ((go_at_call 38; refine (CC.out _).mono ?_; rintro e w1 ⟨rfl, rfl⟩))
      all_goals
        go_wp2
        go_ret
        exact ⟨⟨rfl, blk_set (w := w.drew) HH.out 1 (.int .i64 (k : Int))⟩, gr_trans (gr_below ((Below.refl _ _).drew)) (gr_set _ _ _ _)⟩
    · simp only [if_neg hm]
      have dm : decide ((most : Int) < (n : Int)) = true := decide_eq_true (by omega)
      go_enter Tryd.func25, Tryd.ntmps25
      go_wp2_with fail
      go_region_with ((go_at_call 38; refine (CC.out _).mono ?_; rintro e w1 ⟨rfl, rfl⟩))
      all_goals
        go_wp2
        go_ret
        exact ⟨⟨rfl, blk_set (w := w.drew) HH.out 2 (.bool true)⟩, gr_trans (gr_below ((Below.refl _ _).drew)) (gr_set _ _ _ _)⟩

end Go.Proofs.YtdkenmpdgadcpaaDoor
