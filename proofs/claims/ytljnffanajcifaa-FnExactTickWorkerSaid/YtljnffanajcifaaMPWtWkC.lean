/- WorkerNew, TickWorker and FallWorker: the program's and the specification's. -/
import Derived.Test.YtljnffanajcifaaMPWtWkB
namespace Go.Proofs.Ytljnffanajcifaa
open Go.RowKit

theorem FS.below {S : Nat → Prop} {w w' : World} {B : Nat} (h : FS S w w') (hs : ∀ k, S k → B ≤ k) (hB : B ≤ w.heap.size) : Below B w w' :=
  ⟨h.1.1, h.1.2.1, h.1.2.2, h.2.1, fun k hk => h.2.2 k (by omega) (fun e => by have := hs k e; omega)⟩
set_option maxHeartbeats 2000000 in
set_option maxRecDepth 100000 in
theorem imTick (m : Wk) (w : World) (hs : m.res.size ≤ 281474976710656) : Calls Try.prog 12 #[m.val] w fun e w' => ∃ v, e = .returned v ∧ MsOwn w.heap.size w' v m.said ∧ Below w.heap.size w w' := by
  have CG := hidOfW (fun (W : World) => guarded_any m W hs)
  have CT := hidOfW (fun (g : Nat) (W : World) => tick_any g m W)
  obtain ⟨L, hL⟩ : ∃ L, L = m.said := ⟨_, rfl⟩
  rw [← hL] at CT ⊢
  clear hL hs
  obtain ⟨kd, wk, tk, tr, bo⟩ := m
  unfold Wk.val at *
  simp only at *
  have HB : Hid (Below w.heap.size w (w.alloc (.cells #[.int .i64 kd, .bool wk, .int .i64 tk, .int .i64 tr, .string bo] 23))) := (Below.refl _ _).alloc (Nat.le_refl _) _
  go_enter Try.func12, Try.ntmps12
  go_wp2_with fail
  generalize w.alloc (.cells #[.int .i64 kd, .bool wk, .int .i64 tk, .int .i64 tr, .string bo] 23) = W0 at *
  refine (CG.out _).mono ?_
  rintro e w1 ⟨g, hg, rfl, hb1, hh⟩
  have HB1 := hidOfW (HB.out.trans (hb1.mono HB.out.size))
  have HG := hidOfW (Nat.le_trans HB.out.size hg)
  have HH := hidOfW hh
  clear hb1 hg hh HB CG
  go_wp2_with fail
  refine (CT.out g _ HH.out).mono ?_
  rintro e w2 ⟨v, rfl, hv, hf⟩
  have HV := hidOfW (hv.mono HB1.out.size)
  have HB2 := hidOfW (HB1.out.trans (hf.below (B := w.heap.size) (fun k hk => by have := HG.out; omega) HB1.out.size))
  clear hv hf CT HB1 HH
  go_wp2_with fail
  go_ret
  exact ⟨_, rfl, HV.out, HB2.out⟩
end Go.Proofs.Ytljnffanajcifaa
