/- The law on ReadMessage: at every text it answers as the specification. -/
import Derived.Test.YtdkenmpdgadcpaaDoorMPRmRmS
namespace Go.Proofs.YtdkenmpdgadcpaaDoor
open Go.RowKit

set_option maxHeartbeats 2000000 in
set_option maxRecDepth 100000 in
theorem eqMessage_any (m : Ms) (w : World) : Calls Tryd.prog 11 #[m.val, m.val] w fun e w' => e = .returned (.bool true) ∧ Below w.heap.size w w' := by
  obtain ⟨kd, wk, tk, tr, bo⟩ := m
  unfold Ms.val
  simp only
  have HB : Hid (Below w.heap.size w ((w.alloc (.cells #[.int .i64 kd, .int .i64 wk, .int .i64 tk, .int .i64 tr, .string bo] 27)).alloc (.cells #[.int .i64 kd, .int .i64 wk, .int .i64 tk, .int .i64 tr, .string bo] 27))) := ((Below.refl _ _).alloc (Nat.le_refl _) _).alloc (by simp) _
  have n0 : (kd != kd) = false := by simp
  have n1 : (wk != wk) = false := by simp
  have n2 : (tk != tk) = false := by simp
  have n3 : (tr != tr) = false := by simp
  have n4 : (!(bo.toList == bo.toList)) = false := by simp
  go_enter Tryd.func11, Tryd.ntmps11
  go_wp2
  go_ret
  exact ⟨rfl, HB.out⟩

set_option maxRecDepth 100000 in
set_option maxHeartbeats 4000000 in
theorem lawReadMessage (s : ByteArray) (w : World) (ht : Tabd w) :
    Calls Tryd.prog 4 #[.string s] w fun e w' => e = .returned (.bool true) ∧ Below w.heap.size w w' := by
  by_cases hs : 1048576 < s.size
  · have d1 : decide ((1048576 : Int) < (s.size : Int)) = true := decide_eq_true (by omega)
    clear ht
    go_enter Tryd.func4, Tryd.ntmps4
    go_wp2
    go_ret
    exact ⟨rfl, Below.refl _ _⟩
  · have d1 : decide ((1048576 : Int) < (s.size : Int)) = false := decide_eq_false (by omega)
    obtain ⟨m, ok, HF⟩ := Ms.ans_form s
    have CI : Hid (∀ W, Below w.heap.size w W → Calls Tryd.prog 10 #[.string s] W fun e w' => e = .returned (.tuple #[m.val, .bool ok]) ∧ Below W.heap.size W w') := fun W hb => (imReadMessage s W (by omega) (ht.keep hb)).mono (fun e w' h => ⟨HF e h.1, h.2⟩)
    have CS : Hid (∀ W, Calls Tryd.prog 9 #[.string s] W fun e w' => e = .returned (.tuple #[m.val, .bool ok]) ∧ Below W.heap.size W w') := fun W => (spReadMessage s W (by omega)).mono (fun e w' h => ⟨HF e h.1, h.2⟩)
    have CE := hidOfT (fun W => eqMessage_any m W)
    have hq : (ok != ok) = false := by simp
    clear HF ht hs
    obtain ⟨kd, wk, tk, tr, bo⟩ := m
    unfold Ms.val at *
    simp only at *
    go_enter Tryd.func4, Tryd.ntmps4
    go_wp2_with fail
    refine (CS.out _).mono ?_
    rintro e w1 ⟨rfl, hb1⟩
    have HB1 : Hid (Below w.heap.size w (w1.alloc (.cells #[.int .i64 kd, .int .i64 wk, .int .i64 tk, .int .i64 tr, .string bo] 27))) := hb1.alloc hb1.size _
    have HX : Hid ((w1.alloc (.cells #[.int .i64 kd, .int .i64 wk, .int .i64 tk, .int .i64 tr, .string bo] 27)).heap[w1.heap.size]? = some (.cells #[.int .i64 kd, .int .i64 wk, .int .i64 tk, .int .i64 tr, .string bo] 27 (0, 0))) := heap_alloc_new _ _
    clear hb1 CS
    go_wp2_with fail
    generalize w1.alloc (.cells #[.int .i64 kd, .int .i64 wk, .int .i64 tk, .int .i64 tr, .string bo] 27) = W1 at *
    refine (CI.out _ HB1.out).mono ?_
    rintro e w3 ⟨rfl, hb3⟩
    have HB3 := hidOfT ((HB1.out.trans (hb3.mono HB1.out.size)).alloc (B := w.heap.size) (Nat.le_trans HB1.out.size hb3.size) (.cells #[.int .i64 kd, .int .i64 wk, .int .i64 tk, .int .i64 tr, .string bo] 27))
    have HX3 := hidOfT ((hb3.block _ (blk_lt HX.out)).trans HX.out)
    obtain ⟨⟨y0, y1, y2, y3, y4⟩, -⟩ := fiveM ((Lib.alloc_old w3 (.cells #[.int .i64 kd, .int .i64 wk, .int .i64 tk, .int .i64 tr, .string bo] 27) _ (blk_lt HX3.out)).trans HX3.out)
    clear hb3 CI HB1 HX
    go_wp2_with fail
    refine (CE.out _).mono ?_
    rintro e w5 ⟨rfl, hb5⟩
    have HB5 := hidOfT (HB3.out.trans (hb5.mono HB3.out.size))
    clear hb5 CE y0 y1 y2 y3 y4
    go_wp2_with fail
    go_ret
    exact ⟨rfl, HB5.out⟩
end Go.Proofs.YtdkenmpdgadcpaaDoor
