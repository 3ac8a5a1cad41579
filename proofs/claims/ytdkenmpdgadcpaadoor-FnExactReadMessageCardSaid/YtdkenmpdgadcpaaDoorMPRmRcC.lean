/- What is read of the bytes of code: the program's reader, a byte. -/
import Derived.Test.YtdkenmpdgadcpaaDoorMPRmRcB
namespace Go.Proofs.YtdkenmpdgadcpaaDoor
open Go.RowKit

set_option maxHeartbeats 2000000 in
set_option maxRecDepth 100000 in
theorem imByte (g : Nat) (s : ByteArray) (a : Nat) (bad : Bool) (w : World) (h : Br7 w g s a bad) (ha : a ≤ s.size) (hs : s.size ≤ 1048576) :
    Calls Tryd.prog 24 #[.pointer (some ⟨g, 0, none⟩)] w fun e w' => (if a < s.size then e = .returned (.int .i64 ((s.data.toList.getD a 0).toNat : Int)) ∧ Br7 w' g s (a + 1) bad else e = .returned (.int .i64 0) ∧ Br7 w' g s a true) ∧ w.grownBy w' (some g) := by
  have HH : Hid (Br7 w g s a bad) := h
  have c0 := blk_cell h 0
  have c1 := blk_cell h 1
  have c2 := blk_cell h 2
  have f1 := blk_free h 1
  have f2 := blk_free h 2
  simp only [List.getElem?_toArray, List.getElem?_cons_zero, List.getElem?_cons_succ] at c0 c1 c2
  clear h
  by_cases hlt : a < s.size
  · simp only [if_pos hlt]
    have hd : s.data.toList.getD a 0 = s[a] := lst_getD s a hlt
    rw [hd]
    have d0 : decide ((s.size : Int) ≤ (a : Int)) = false := decide_eq_false (by omega)
    have hi : (a : Int) < (s.size : Int) := by omega
    have HW8 : Hid (wrap64 (s[a].toNat : Int) = (s[a].toNat : Int)) := by
      show _ = _
      have := s[a].toNat_lt
      unfold wrap64
      omega
    clear hd
    have hc0 : ∀ n, ((w.drewN n).setCell ⟨g, 1, none⟩ (.int .i64 ((a : Int) + 1))).cell? ⟨g, 0, none⟩ = some (.string s) := fun n => by rw [blk_cell (blk_set (w := w.drewN n) HH.out 1 _)]; rfl
    have hc1 : ∀ n, ((w.drewN n).setCell ⟨g, 1, none⟩ (.int .i64 ((a : Int) + 1))).cell? ⟨g, 1, none⟩ = some (.int .i64 ((a : Int) + 1)) := fun n => by rw [blk_cell (blk_set (w := w.drewN n) HH.out 1 _)]; rfl
    have hw1 : IntKind.i64.wrap ((a : Int) + 1 - 1) = (a : Int) := by rw [show (a : Int) + 1 - 1 = (a : Int) by omega]; exact IntWalk.i64_in _ (by omega)
    have HS : Hid (∀ n, Br7 ((w.drewN n).setCell ⟨g, 1, none⟩ (.int .i64 ((a : Int) + 1))) g s (a + 1) bad) := fun n => blk_set (w := w.drewN n) HH.out 1 _
    go_enter Tryd.func24, Tryd.ntmps24
    go_wp2_with fail
    go_quiet (fail)
    go_wp2_with fail
    go_quiet (fail)
    go_wp2
    go_ret
    refine ⟨⟨?_, HS.out _⟩, gr_trans (gr_trans (gr_below (below_drewN (Below.refl _ _) _)) (gr_set _ _ _ _)) (gr_below (below_drewN (Below.refl _ _) _))⟩
    show Ending.returned (Value.int .i64 (wrap64 (s[a].toNat : Int))) = _
    rw [HW8.out]
  · simp only [if_neg hlt]
    have d0 : decide ((s.size : Int) ≤ (a : Int)) = true := decide_eq_true (by omega)
    go_enter Tryd.func24, Tryd.ntmps24
    go_wp2_with fail
    go_quiet (fail)
    go_wp2
    go_ret
    exact ⟨⟨rfl, blk_set (w := w.drewN _) HH.out 2 (.bool true)⟩, gr_trans (gr_below (below_drewN (Below.refl _ _) _)) (gr_set _ _ _ _)⟩
end Go.Proofs.YtdkenmpdgadcpaaDoor
