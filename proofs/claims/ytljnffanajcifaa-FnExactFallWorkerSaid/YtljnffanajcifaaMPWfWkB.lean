/- What a worker says by itself: the program's saidBy and the specification's TickWorker; a list of one message at most. -/
import Derived.Test.YtljnffanajcifaaMPWfWkA
namespace Go.Proofs.Ytljnffanajcifaa
open Go.RowKit

/-- The cells of a message. -/
def Ms.cells (m : Ms) : Array Value := #[.int .i64 m.kind, .int .i64 m.worker, .int .i64 m.task, .int .i64 m.try_, .string m.body]
/-- The messages ms, one at most, in a block of its own from B on. -/
def MsOwn (B : Nat) (w : World) (v : Value) (ms : List Ms) : Prop :=
  (ms = [] ∧ ∃ a c, v = .slice a 0 c) ∨ ∃ (m : Ms) (g c : Nat), ms = [m] ∧ v = .slice (some ⟨g, 0, none⟩) 1 c ∧ B ≤ g ∧ w.heap[g]? = some (.cells m.cells 37 (0, 0))
theorem MsOwn.mono {B B' : Nat} {w : World} {v : Value} {ms : List Ms} (h : MsOwn B w v ms) (hn : B' ≤ B) : MsOwn B' w v ms := by
  rcases h with h | ⟨m, g, c, rfl, rfl, h1, h2⟩
  · exact .inl h
  · exact .inr ⟨m, g, c, rfl, rfl, Nat.le_trans hn h1, h2⟩
theorem alloc2_1 (w : World) (A B : Obj) : ((w.alloc A).alloc B).heap[w.heap.size + 1]? = some B := by
  have := heap_alloc_new (w.alloc A) B
  rwa [show (w.alloc A).heap.size = w.heap.size + 1 by simp] at this
theorem two_below (w : World) (A B : Obj) : Below w.heap.size w ((w.alloc A).alloc B) := ((Below.refl _ _).alloc (Nat.le_refl _) _).alloc (by simp) _
set_option maxHeartbeats 2000000 in
set_option maxRecDepth 100000 in
/-- A worker put under a lock. -/
theorem guarded_any (m : Wk) (w : World) (hs : m.res.size ≤ 281474976710656) : Calls Try.prog 18 #[m.val] w fun e w' => ∃ g, w.heap.size ≤ g ∧ e = .returned (.pointer (some ⟨g, 0, none⟩)) ∧ Below w.heap.size w w' ∧
    w'.heap[g]? = some (.cells #[.int .i32 0, .int .u32 0, .int .i64 m.id, .bool m.up, .int .i64 m.task, .int .i64 m.try_, .string m.res] 53 (0, 0)) := by
  obtain ⟨kd, wk, tk, tr, bo⟩ := m
  unfold Wk.val
  simp only at *
  have CC := hidOfW (fun (W : World) => clone_any bo W hs)
  clear hs
  have q0 := heap_alloc_new w (.cells #[.int .i64 kd, .bool wk, .int .i64 tk, .int .i64 tr, .string bo] 23)
  have hbw : Below w.heap.size w (w.alloc (.cells #[.int .i64 kd, .bool wk, .int .i64 tk, .int .i64 tr, .string bo] 23)) := (Below.refl _ _).alloc (Nat.le_refl _) _
  have HQ : Hid (∀ W, Below (w.alloc (.cells #[.int .i64 kd, .bool wk, .int .i64 tk, .int .i64 tr, .string bo] 23)).heap.size (w.alloc (.cells #[.int .i64 kd, .bool wk, .int .i64 tk, .int .i64 tr, .string bo] 23)) W →
      W.heap[w.heap.size]? = some (.cells #[.int .i64 kd, .bool wk, .int .i64 tk, .int .i64 tr, .string bo] 23 (0, 0)) ∧ Below w.heap.size w W ∧ w.heap.size < W.heap.size) := fun W hb => by
    have R := (hb.block _ (blk_lt q0)).trans q0
    exact ⟨R, hbw.trans (hb.mono hbw.size), blk_lt R⟩
  clear q0 hbw
  go_enter Try.func18, Try.ntmps18
  go_wp2_with fail
  generalize w.alloc (.cells #[.int .i64 kd, .bool wk, .int .i64 tk, .int .i64 tr, .string bo] 23) = W0 at *
  refine (CC.out _).mono ?_
  rintro e w1 ⟨rfl, hb1⟩
  obtain ⟨R, HB, hlt⟩ := HQ.out _ hb1
  have R2 := blk_set R 4 (.string bo)
  have HB2 := hidOfW (HB.setCell (p := ⟨w.heap.size, 4, none⟩) (Nat.le_refl _) (.string bo))
  have HLT := hidOfW hlt
  have y4 := (blk_cell R 4).trans rfl
  have f4 := blk_free R 4
  have x0 := (blk_cell R2 0).trans rfl
  have x1 := (blk_cell R2 1).trans rfl
  have x2 := (blk_cell R2 2).trans rfl
  have x3 := (blk_cell R2 3).trans rfl
  have x4 := (blk_cell R2 4).trans rfl
  have hsz : w.heap.size ≤ (w1.setCell ⟨w.heap.size, 4, none⟩ (.string bo)).heap.size := HB2.out.size
  have HSZ := hidOfW hsz
  clear R R2 HB hlt hb1 CC HQ hsz
  go_wp2_with fail
  go_ret
  refine ⟨w1.heap.size, Nat.le_of_lt HLT.out, rfl, HB2.out.alloc HSZ.out _, ?_⟩
  have hn := heap_alloc_new (w1.setCell ⟨w.heap.size, 4, none⟩ (.string bo)) (.cells #[.int .i32 0, .int .u32 0, .int .i64 kd, .bool wk, .int .i64 tk, .int .i64 tr, .string bo] 53)
  rwa [show (w1.setCell ⟨w.heap.size, 4, none⟩ (.string bo)).heap.size = w1.heap.size by simp [World.setCell]] at hn

theorem MsOwn.set {B : Nat} {w : World} {v : Value} {ms : List Ms} (h : MsOwn B w v ms) (p : Addr) (u : Value) (hp : p.block < B) : MsOwn B (w.setCell p u) v ms := by
  rcases h with h | ⟨m, g, c, rfl, rfl, h1, h2⟩
  · exact .inl h
  · exact .inr ⟨m, g, c, rfl, rfl, h1, (Below.heap_setCell _ _ _ _ (by omega)).trans h2⟩
theorem FS.setNew {S : Nat → Prop} {w w' : World} (h : FS S w w') (r o : Nat) (u : Value) (h1 : w.heap.size ≤ r) : FS S w (w'.setCell ⟨r, o, none⟩ u) :=
  ⟨h.1, by simpa [World.setCell] using h.2.1, fun k hk hkk => by rw [Below.heap_setCell _ _ _ _ (by show k ≠ r; omega)]; exact h.2.2 k hk hkk⟩
open Go.MuLone in
set_option maxHeartbeats 2000000 in
set_option maxRecDepth 100000 in
theorem fall_any (g : Nat) (m : Wk) (w : World) (h : w.heap[g]? = some (.cells #[.int .i32 0, .int .u32 0, .int .i64 m.id, .bool m.up, .int .i64 m.task, .int .i64 m.try_, .string m.res] 53 (0, 0))) :
    Calls Try.prog 22 #[.pointer (some ⟨g, 0, none⟩)] w fun e w' => e = .returned m.fall.val ∧ FS (fun k => k = g) w w' := by
  obtain ⟨kd, wk, tk, tr, bo⟩ := m
  unfold Wk.val Wk.fall
  simp only at *
  have q0 := heap_alloc_new w (.cells #[.int .i64 0, .bool false, .int .i64 0, .int .i64 0, .string ⟨#[]⟩] 23)
  have F0 := FS.ofBelow (S := fun k => k = g) ((Below.refl _ w).alloc (Nat.le_refl _) (.cells #[.int .i64 0, .bool false, .int .i64 0, .int .i64 0, .string ⟨#[]⟩] 23))
  have hgw := blk_lt h
  have h1 := (Below.heap_alloc w (.cells #[.int .i64 0, .bool false, .int .i64 0, .int .i64 0, .string ⟨#[]⟩] 23) g hgw).trans h
  go_enter_defers Try.func22, Try.ntmps22
  have HGW := hidOfW hgw
  clear hgw h
  go_wp2_with fail
  generalize hW0 : w.alloc (.cells #[.int .i64 0, .bool false, .int .i64 0, .int .i64 0, .string ⟨#[]⟩] 23) = W0 at *
  refine (lock_free Try.muLib ⟨g, 0, none⟩ _ ((blk_cell h1 0).trans rfl) (blk_free h1 0)).mono ?_
  rintro e w' ⟨rfl, rfl⟩
  have R1 := blk_set h1 0 (.int .i32 1)
  have Q1 := (Below.heap_setCell W0 ⟨g, 0, none⟩ (.int .i32 1) w.heap.size (by have := HGW.out; simp; omega)).trans q0
  have F1 := hidOfW (F0.set g 0 (.int .i32 1) rfl)
  clear h1 q0 F0 hW0
  generalize W0.setCell ⟨g, 0, none⟩ (.int .i32 1) = W1 at *
  have x2 := (blk_cell R1 2).trans rfl
  have z2 := blk_free R1 2
  have R11 := blk_set R1 2 (.int .i64 kd)
  have x3 := (blk_cell R11 3).trans rfl
  have z3 := blk_free R11 3
  have R12 := blk_set R11 3 (.bool false)
  have x4 := (blk_cell R12 4).trans rfl
  have z4 := blk_free R12 4
  have R13 := blk_set R12 4 (.int .i64 0)
  have x5 := (blk_cell R13 5).trans rfl
  have z5 := blk_free R13 5
  have R14 := blk_set R13 5 (.int .i64 0)
  have x6 := (blk_cell R14 6).trans rfl
  have z6 := blk_free R14 6
  have R15 := blk_set R14 6 (.string ⟨#[]⟩)
  have Q11 := (Below.heap_setCell (W1) ⟨g, 2, none⟩ (.int .i64 kd) w.heap.size (by have := HGW.out; simp; omega)).trans Q1
  have Q12 := (Below.heap_setCell (W1.setCell ⟨g, 2, none⟩ (.int .i64 kd)) ⟨g, 3, none⟩ (.bool false) w.heap.size (by have := HGW.out; simp; omega)).trans Q11
  have Q13 := (Below.heap_setCell ((W1.setCell ⟨g, 2, none⟩ (.int .i64 kd)).setCell ⟨g, 3, none⟩ (.bool false)) ⟨g, 4, none⟩ (.int .i64 0) w.heap.size (by have := HGW.out; simp; omega)).trans Q12
  have Q14 := (Below.heap_setCell (((W1.setCell ⟨g, 2, none⟩ (.int .i64 kd)).setCell ⟨g, 3, none⟩ (.bool false)).setCell ⟨g, 4, none⟩ (.int .i64 0)) ⟨g, 5, none⟩ (.int .i64 0) w.heap.size (by have := HGW.out; simp; omega)).trans Q13
  have Q15 := (Below.heap_setCell ((((W1.setCell ⟨g, 2, none⟩ (.int .i64 kd)).setCell ⟨g, 3, none⟩ (.bool false)).setCell ⟨g, 4, none⟩ (.int .i64 0)).setCell ⟨g, 5, none⟩ (.int .i64 0)) ⟨g, 6, none⟩ (.string ⟨#[]⟩) w.heap.size (by have := HGW.out; simp; omega)).trans Q14
  have F2 := hidOfW (((((F1.out.set g 2 (.int .i64 kd) rfl).set g 3 (.bool false) rfl).set g 4 (.int .i64 0) rfl).set g 5 (.int .i64 0) rfl).set g 6 (.string ⟨#[]⟩) rfl)
  have y2 := (blk_cell R15 2).trans rfl
  have y3 := (blk_cell R15 3).trans rfl
  have y4 := (blk_cell R15 4).trans rfl
  have y5 := (blk_cell R15 5).trans rfl
  have y6 := (blk_cell R15 6).trans rfl
  have v0 := (blk_cell Q15 0).trans rfl
  have u0 := blk_free Q15 0
  have Q21 := blk_set Q15 0 (.int .i64 kd)
  have v1 := (blk_cell Q21 1).trans rfl
  have u1 := blk_free Q21 1
  have Q22 := blk_set Q21 1 (.bool false)
  have v2 := (blk_cell Q22 2).trans rfl
  have u2 := blk_free Q22 2
  have Q23 := blk_set Q22 2 (.int .i64 0)
  have v3 := (blk_cell Q23 3).trans rfl
  have u3 := blk_free Q23 3
  have Q24 := blk_set Q23 3 (.int .i64 0)
  have v4 := (blk_cell Q24 4).trans rfl
  have u4 := blk_free Q24 4
  have Q25 := blk_set Q24 4 (.string ⟨#[]⟩)
  have R21 := (Below.heap_setCell (((((W1.setCell ⟨g, 2, none⟩ (.int .i64 kd)).setCell ⟨g, 3, none⟩ (.bool false)).setCell ⟨g, 4, none⟩ (.int .i64 0)).setCell ⟨g, 5, none⟩ (.int .i64 0)).setCell ⟨g, 6, none⟩ (.string ⟨#[]⟩)) ⟨w.heap.size, 0, none⟩ (.int .i64 kd) g (by have := HGW.out; simp; omega)).trans R15
  have R22 := (Below.heap_setCell ((((((W1.setCell ⟨g, 2, none⟩ (.int .i64 kd)).setCell ⟨g, 3, none⟩ (.bool false)).setCell ⟨g, 4, none⟩ (.int .i64 0)).setCell ⟨g, 5, none⟩ (.int .i64 0)).setCell ⟨g, 6, none⟩ (.string ⟨#[]⟩)).setCell ⟨w.heap.size, 0, none⟩ (.int .i64 kd)) ⟨w.heap.size, 1, none⟩ (.bool false) g (by have := HGW.out; simp; omega)).trans R21
  have R23 := (Below.heap_setCell (((((((W1.setCell ⟨g, 2, none⟩ (.int .i64 kd)).setCell ⟨g, 3, none⟩ (.bool false)).setCell ⟨g, 4, none⟩ (.int .i64 0)).setCell ⟨g, 5, none⟩ (.int .i64 0)).setCell ⟨g, 6, none⟩ (.string ⟨#[]⟩)).setCell ⟨w.heap.size, 0, none⟩ (.int .i64 kd)).setCell ⟨w.heap.size, 1, none⟩ (.bool false)) ⟨w.heap.size, 2, none⟩ (.int .i64 0) g (by have := HGW.out; simp; omega)).trans R22
  have R24 := (Below.heap_setCell ((((((((W1.setCell ⟨g, 2, none⟩ (.int .i64 kd)).setCell ⟨g, 3, none⟩ (.bool false)).setCell ⟨g, 4, none⟩ (.int .i64 0)).setCell ⟨g, 5, none⟩ (.int .i64 0)).setCell ⟨g, 6, none⟩ (.string ⟨#[]⟩)).setCell ⟨w.heap.size, 0, none⟩ (.int .i64 kd)).setCell ⟨w.heap.size, 1, none⟩ (.bool false)).setCell ⟨w.heap.size, 2, none⟩ (.int .i64 0)) ⟨w.heap.size, 3, none⟩ (.int .i64 0) g (by have := HGW.out; simp; omega)).trans R23
  have R25 := (Below.heap_setCell (((((((((W1.setCell ⟨g, 2, none⟩ (.int .i64 kd)).setCell ⟨g, 3, none⟩ (.bool false)).setCell ⟨g, 4, none⟩ (.int .i64 0)).setCell ⟨g, 5, none⟩ (.int .i64 0)).setCell ⟨g, 6, none⟩ (.string ⟨#[]⟩)).setCell ⟨w.heap.size, 0, none⟩ (.int .i64 kd)).setCell ⟨w.heap.size, 1, none⟩ (.bool false)).setCell ⟨w.heap.size, 2, none⟩ (.int .i64 0)).setCell ⟨w.heap.size, 3, none⟩ (.int .i64 0)) ⟨w.heap.size, 4, none⟩ (.string ⟨#[]⟩) g (by have := HGW.out; simp; omega)).trans R24
  have F3 := hidOfW (((((F2.out.setNew w.heap.size 0 (.int .i64 kd) (Nat.le_refl _)).setNew w.heap.size 1 (.bool false) (Nat.le_refl _)).setNew w.heap.size 2 (.int .i64 0) (Nat.le_refl _)).setNew w.heap.size 3 (.int .i64 0) (Nat.le_refl _)).setNew w.heap.size 4 (.string ⟨#[]⟩) (Nat.le_refl _))
  have HR := hidOfW R25
  have HQ := hidOfW Q25
  clear R1 Q1 R11 Q11 R21 Q21 R12 Q12 R22 Q22 R13 Q13 R23 Q23 R14 Q14 R24 Q24 R15 Q15 R25 Q25 F1
  go_wp2_with fail
  refine leaves_cons (f := 25) (args := #[.pointer (some ⟨g, 0, none⟩)]) (by simp) (by simp [go_sem]) ?_
  refine (unlock_deferred Try.muLib ⟨g, 0, none⟩ .returning _ ((blk_cell HR.out 0).trans rfl) (blk_free HR.out 0)).mono ?_
  rintro e u' w'' ⟨rfl, rfl, rfl⟩
  have HQ2 := (Below.heap_setCell _ ⟨g, 0, none⟩ (.int .i32 0) w.heap.size (by have := HGW.out; simp; omega)).trans HQ.out
  exact ⟨_, results_cell_row rfl _ _ w.heap.size 23 #[.int .i64 kd, .bool false, .int .i64 0, .int .i64 0, .string ⟨#[]⟩] (0, 0) _ rfl HQ2 Try.underlying23 rfl (by kernel_rfl), rfl, F3.out.set g 0 _ rfl⟩
end Go.Proofs.Ytljnffanajcifaa
