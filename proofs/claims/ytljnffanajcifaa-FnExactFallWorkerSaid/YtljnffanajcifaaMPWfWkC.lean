/- WorkerNew, TickWorker and FallWorker: the program's and the specification's. -/
import Derived.Test.YtljnffanajcifaaMPWfWkB
namespace Go.Proofs.Ytljnffanajcifaa
open Go.RowKit

theorem FS.below {S : Nat → Prop} {w w' : World} {B : Nat} (h : FS S w w') (hs : ∀ k, S k → B ≤ k) (hB : B ≤ w.heap.size) : Below B w w' :=
  ⟨h.1.1, h.1.2.1, h.1.2.2, h.2.1, fun k hk => h.2.2 k (by omega) (fun e => by have := hs k e; omega)⟩
set_option maxHeartbeats 2000000 in
set_option maxRecDepth 100000 in
theorem spFall (m : Wk) (w : World) : Calls Try.prog 16 #[m.val] w fun e w' => e = .returned m.fall.val ∧ Below w.heap.size w w' := by
  obtain ⟨kd, wk, tk, tr, bo⟩ := m
  unfold Wk.val Wk.fall
  simp only
  go_enter Try.func16, Try.ntmps16
  go_wp2
  refine bodyPost_ret (results_cell_row rfl _ _ (w.heap.size + 1) 23 #[.int .i64 kd, .bool false, .int .i64 0, .int .i64 0, .string ⟨#[]⟩] (0, 0) _ rfl (alloc2_1 _ _ _) Try.underlying23 rfl (by kernel_rfl)) rfl ?_
  exact ⟨rfl, two_below _ _ _⟩
set_option maxHeartbeats 2000000 in
set_option maxRecDepth 100000 in
theorem imFall (m : Wk) (w : World) (hs : m.res.size ≤ 281474976710656) : Calls Try.prog 17 #[m.val] w fun e w' => e = .returned m.fall.val ∧ Below w.heap.size w w' := by
  have CG := hidOfW (fun (W : World) => guarded_any m W hs)
  have CT := hidOfW (fun (g : Nat) (W : World) => fall_any g m W)
  clear hs
  obtain ⟨kd, wk, tk, tr, bo⟩ := m
  unfold Wk.val Wk.fall at *
  simp only at *
  have HB : Hid (Below w.heap.size w ((w.alloc (.cells #[.int .i64 kd, .bool wk, .int .i64 tk, .int .i64 tr, .string bo] 23)).alloc (.cells #[.int .i64 0, .bool false, .int .i64 0, .int .i64 0, .string ⟨#[]⟩] 23))) := two_below _ _ _
  have HQ := hidOfW (alloc2_1 w (.cells #[.int .i64 kd, .bool wk, .int .i64 tk, .int .i64 tr, .string bo] 23) (.cells #[.int .i64 0, .bool false, .int .i64 0, .int .i64 0, .string ⟨#[]⟩] 23))
  go_enter Try.func17, Try.ntmps17
  go_wp2_with fail
  generalize (w.alloc (.cells #[.int .i64 kd, .bool wk, .int .i64 tk, .int .i64 tr, .string bo] 23)).alloc (.cells #[.int .i64 0, .bool false, .int .i64 0, .int .i64 0, .string ⟨#[]⟩] 23) = W0 at *
  refine (CG.out _).mono ?_
  rintro e w1 ⟨g, hg, rfl, hb1, hh⟩
  have HB1 := hidOfW (HB.out.trans (hb1.mono HB.out.size))
  have HQ1 := hidOfW ((hb1.block _ (blk_lt HQ.out)).trans HQ.out)
  have HG := hidOfW (Nat.lt_of_lt_of_le (blk_lt HQ.out) hg)
  have HH := hidOfW hh
  clear hb1 hg hh HB HQ CG
  go_wp2_with fail
  refine (CT.out g _ HH.out).mono ?_
  rintro e w3 ⟨rfl, hf⟩
  have HB3 := hidOfW (HB1.out.trans (hf.below (B := w.heap.size) (fun k hk => by have := HG.out; omega) HB1.out.size))
  have Q3 := (hf.2.2 _ (blk_lt HQ1.out) (by have := HG.out; omega)).trans HQ1.out
  have ac0 := (blk_cell Q3 0).trans rfl
  have af0 := blk_free Q3 0
  have ah0 := blk_set Q3 0 (.int .i64 kd)
  have ac1 := (blk_cell ah0 1).trans rfl
  have af1 := blk_free ah0 1
  have ah1 := blk_set ah0 1 (.bool false)
  have ac2 := (blk_cell ah1 2).trans rfl
  have af2 := blk_free ah1 2
  have ah2 := blk_set ah1 2 (.int .i64 0)
  have ac3 := (blk_cell ah2 3).trans rfl
  have af3 := blk_free ah2 3
  have ah3 := blk_set ah2 3 (.int .i64 0)
  have ac4 := (blk_cell ah3 4).trans rfl
  have af4 := blk_free ah3 4
  have ah4 := blk_set ah3 4 (.string ⟨#[]⟩)
  have HQ4 := hidOfW ah4
  have HB4 := hidOfW (((((HB3.out.setCell (p := ⟨w.heap.size + 1, 0, none⟩) (by simp) (.int .i64 kd)).setCell (p := ⟨w.heap.size + 1, 1, none⟩) (by simp) (.bool false)).setCell (p := ⟨w.heap.size + 1, 2, none⟩) (by simp) (.int .i64 0)).setCell (p := ⟨w.heap.size + 1, 3, none⟩) (by simp) (.int .i64 0)).setCell (p := ⟨w.heap.size + 1, 4, none⟩) (by simp) (.string ⟨#[]⟩))
  clear hf CT HB1 HH HQ1 HB3 Q3 ah0 ah1 ah2 ah3 ah4 HG
  try unfold ByteArray.empty
  go_wp2_with fail
  refine bodyPost_ret (results_cell_row rfl _ _ (w.heap.size + 1) 23 #[.int .i64 kd, .bool false, .int .i64 0, .int .i64 0, .string ⟨#[]⟩] (0, 0) _ rfl HQ4.out Try.underlying23 rfl (by kernel_rfl)) rfl ?_
  exact ⟨rfl, HB4.out⟩
end Go.Proofs.Ytljnffanajcifaa
