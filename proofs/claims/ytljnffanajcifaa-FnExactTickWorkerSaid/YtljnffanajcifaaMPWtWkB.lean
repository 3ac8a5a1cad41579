/- What a worker says by itself: the program's saidBy and the specification's TickWorker; a list of one message at most. -/
import Derived.Test.YtljnffanajcifaaMPWtWkA
namespace Go.Proofs.Ytljnffanajcifaa
open Go.RowKit

/-- What it says by itself. -/
def Wk.said (m : Wk) : List Ms := if m.up = false then [] else if m.res.size = 0 then [⟨1, m.id, 0, 0, ByteArray.empty⟩] else [⟨3, m.id, m.task, m.try_, m.res⟩]
/-- The cells of a message. -/
def Ms.cells (m : Ms) : Array Value := #[.int .i64 m.kind, .int .i64 m.worker, .int .i64 m.task, .int .i64 m.try_, .string m.body]
/-- The messages ms, one at most, in a block of its own from B on. -/
def MsOwn (B : Nat) (w : World) (v : Value) (ms : List Ms) : Prop :=
  (ms = [] ∧ ∃ a c, v = .slice a 0 c) ∨ ∃ (m : Ms) (g c : Nat), ms = [m] ∧ v = .slice (some ⟨g, 0, none⟩) 1 c ∧ B ≤ g ∧ w.heap[g]? = some (.cells m.cells 37 (0, 0))
theorem MsOwn.keep {B n : Nat} {w w' : World} {v : Value} {ms : List Ms} (h : MsOwn B w v ms) (hb : Below n w w') (hn : w.heap.size ≤ n) : MsOwn B w' v ms := by
  rcases h with h | ⟨m, g, c, rfl, rfl, h1, h2⟩
  · exact .inl h
  · exact .inr ⟨m, g, c, rfl, rfl, h1, (hb.block g (Nat.lt_of_lt_of_le (blk_lt h2) hn)).trans h2⟩
theorem MsOwn.mono {B B' : Nat} {w : World} {v : Value} {ms : List Ms} (h : MsOwn B w v ms) (hn : B' ≤ B) : MsOwn B' w v ms := by
  rcases h with h | ⟨m, g, c, rfl, rfl, h1, h2⟩
  · exact .inl h
  · exact .inr ⟨m, g, c, rfl, rfl, Nat.le_trans hn h1, h2⟩
theorem alloc2_1 (w : World) (A B : Obj) : ((w.alloc A).alloc B).heap[w.heap.size + 1]? = some B := by
  have := heap_alloc_new (w.alloc A) B
  rwa [show (w.alloc A).heap.size = w.heap.size + 1 by simp] at this
theorem MsOwn.new {w : World} {A : Obj} {m : Ms} {ms : List Ms} (h : ms = [m]) (c : Nat) : MsOwn w.heap.size ((w.alloc A).alloc (.cells m.cells 37 (0, 0))) (.slice (some ⟨w.heap.size + 1, 0, none⟩) 1 c) ms :=
  .inr ⟨m, _, c, h, rfl, by omega, alloc2_1 _ _ _⟩
theorem two_below (w : World) (A B : Obj) : Below w.heap.size w ((w.alloc A).alloc B) := ((Below.refl _ _).alloc (Nat.le_refl _) _).alloc (by simp) _
theorem strIs {b : ByteArray} (h : b.size = 0) : b = ByteArray.empty := by
  obtain ⟨⟨l⟩⟩ := b
  cases l with
  | nil => rfl
  | cons a t => simp [ByteArray.size] at h
theorem strNo {b : ByteArray} (h : ¬ b.size = 0) : b.toList.isEmpty = false := by
  cases hh : b.toList.isEmpty with
  | false => rfl
  | true =>
    have h2 : b.data.toList.length = b.size := by simp
    rw [← Lib.toList_data] at h2
    rw [List.isEmpty_iff.1 hh] at h2
    exact absurd h2.symm h

set_option maxHeartbeats 2000000 in
set_option maxRecDepth 100000 in
theorem saidBy_any (m : Wk) (w : World) : Calls Try.prog 26 #[m.val] w fun e w' => ∃ v, e = .returned v ∧ MsOwn w.heap.size w' v m.said ∧ Below w.heap.size w w' := by
  obtain ⟨kd, wk, tk, tr, bo⟩ := m
  unfold Wk.val
  simp only
  cases wk with
  | false =>
    go_enter Try.func26, Try.ntmps26
    go_wp2
    go_ret
    exact ⟨_, rfl, .inl ⟨rfl, _, _, rfl⟩, (Below.refl _ _).alloc (Nat.le_refl _) _⟩
  | true =>
    by_cases h : bo.size = 0
    · obtain rfl := strIs h
      go_enter Try.func26, Try.ntmps26
      go_wp2
      go_ret
      exact ⟨_, rfl, MsOwn.new (m := ⟨1, kd, 0, 0, ByteArray.empty⟩) rfl _, two_below _ _ _⟩
    · have hs : Wk.said ⟨kd, true, tk, tr, bo⟩ = [⟨3, kd, tk, tr, bo⟩] := by unfold Wk.said; rw [if_neg (by simp), if_neg h]
      have hn := strNo h
      go_enter Try.func26, Try.ntmps26
      go_wp2
      go_ret
      exact ⟨_, rfl, MsOwn.new (m := ⟨3, kd, tk, tr, bo⟩) hs _, two_below _ _ _⟩
set_option maxHeartbeats 2000000 in
set_option maxRecDepth 100000 in
theorem spTick (m : Wk) (w : World) : Calls Try.prog 10 #[m.val] w fun e w' => ∃ v, e = .returned v ∧ MsOwn w.heap.size w' v m.said ∧ Below w.heap.size w w' := by
  obtain ⟨kd, wk, tk, tr, bo⟩ := m
  unfold Wk.val
  simp only
  cases wk with
  | false =>
    go_enter Try.func10, Try.ntmps10
    go_wp2
    go_ret
    exact ⟨_, rfl, .inl ⟨rfl, _, _, rfl⟩, two_below _ _ _⟩
  | true =>
    by_cases h : bo.size = 0
    · obtain rfl := strIs h
      go_enter Try.func10, Try.ntmps10
      go_wp2
      go_ret
      exact ⟨_, rfl, MsOwn.new (m := ⟨1, kd, 0, 0, ByteArray.empty⟩) rfl _, two_below _ _ _⟩
    · have hs : Wk.said ⟨kd, true, tk, tr, bo⟩ = [⟨3, kd, tk, tr, bo⟩] := by unfold Wk.said; rw [if_neg (by simp), if_neg h]
      have hn := strNo h
      go_enter Try.func10, Try.ntmps10
      go_wp2
      go_ret
      exact ⟨_, rfl, MsOwn.new (m := ⟨3, kd, tk, tr, bo⟩) hs _, two_below _ _ _⟩
set_option maxHeartbeats 2000000 in
set_option maxRecDepth 100000 in
/-- A worker put under a lock. -/
theorem guarded_any (m : Wk) (w : World) (hs : m.res.size ≤ 281474976710656) : Calls Try.prog 18 #[m.val] w fun e w' => ∃ g, w.heap.size ≤ g ∧ e = .returned (.pointer (some ⟨g, 0, none⟩)) ∧ Below w.heap.size w w' ∧
    w'.heap[g]? = some (.cells #[.int .i32 0, .int .u32 0, .int .i64 m.id, .bool m.up, .int .i64 m.task, .int .i64 m.try_, .string m.res] 53 (0, 0)) := by
  obtain ⟨kd, wk, tk, tr, bo⟩ := m
  unfold Wk.val
  simp only at *
  have CC := hidOfW (fun (W : World) => clone_any bo W hs)
  clear hs
  have q0 := heap_alloc_new w (.cells #[.int .i64 kd, .bool wk, .int .i64 tk, .int .i64 tr, .string bo] 23)
  have hbw : Below w.heap.size w (w.alloc (.cells #[.int .i64 kd, .bool wk, .int .i64 tk, .int .i64 tr, .string bo] 23)) := (Below.refl _ _).alloc (Nat.le_refl _) _
  have HQ : Hid (∀ W, Below (w.alloc (.cells #[.int .i64 kd, .bool wk, .int .i64 tk, .int .i64 tr, .string bo] 23)).heap.size (w.alloc (.cells #[.int .i64 kd, .bool wk, .int .i64 tk, .int .i64 tr, .string bo] 23)) W →
      W.heap[w.heap.size]? = some (.cells #[.int .i64 kd, .bool wk, .int .i64 tk, .int .i64 tr, .string bo] 23 (0, 0)) ∧ Below w.heap.size w W ∧ w.heap.size < W.heap.size) := fun W hb => by
    have R := (hb.block _ (blk_lt q0)).trans q0
    exact ⟨R, hbw.trans (hb.mono hbw.size), blk_lt R⟩
  clear q0 hbw
  go_enter Try.func18, Try.ntmps18
  go_wp2_with fail
  generalize w.alloc (.cells #[.int .i64 kd, .bool wk, .int .i64 tk, .int .i64 tr, .string bo] 23) = W0 at *
  refine (CC.out _).mono ?_
  rintro e w1 ⟨rfl, hb1⟩
  obtain ⟨R, HB, hlt⟩ := HQ.out _ hb1
  have R2 := blk_set R 4 (.string bo)
  have HB2 := hidOfW (HB.setCell (p := ⟨w.heap.size, 4, none⟩) (Nat.le_refl _) (.string bo))
  have HLT := hidOfW hlt
  have y4 := (blk_cell R 4).trans rfl
  have f4 := blk_free R 4
  have x0 := (blk_cell R2 0).trans rfl
  have x1 := (blk_cell R2 1).trans rfl
  have x2 := (blk_cell R2 2).trans rfl
  have x3 := (blk_cell R2 3).trans rfl
  have x4 := (blk_cell R2 4).trans rfl
  have hsz : w.heap.size ≤ (w1.setCell ⟨w.heap.size, 4, none⟩ (.string bo)).heap.size := HB2.out.size
  have HSZ := hidOfW hsz
  clear R R2 HB hlt hb1 CC HQ hsz
  go_wp2_with fail
  go_ret
  refine ⟨w1.heap.size, Nat.le_of_lt HLT.out, rfl, HB2.out.alloc HSZ.out _, ?_⟩
  have hn := heap_alloc_new (w1.setCell ⟨w.heap.size, 4, none⟩ (.string bo)) (.cells #[.int .i32 0, .int .u32 0, .int .i64 kd, .bool wk, .int .i64 tk, .int .i64 tr, .string bo] 53)
  rwa [show (w1.setCell ⟨w.heap.size, 4, none⟩ (.string bo)).heap.size = w1.heap.size by simp [World.setCell]] at hn

theorem MsOwn.set {B : Nat} {w : World} {v : Value} {ms : List Ms} (h : MsOwn B w v ms) (p : Addr) (u : Value) (hp : p.block < B) : MsOwn B (w.setCell p u) v ms := by
  rcases h with h | ⟨m, g, c, rfl, rfl, h1, h2⟩
  · exact .inl h
  · exact .inr ⟨m, g, c, rfl, rfl, h1, (Below.heap_setCell _ _ _ _ (by omega)).trans h2⟩
open Go.MuLone in
set_option maxHeartbeats 2000000 in
set_option maxRecDepth 100000 in
theorem tick_any (g : Nat) (m : Wk) (w : World) (h : w.heap[g]? = some (.cells #[.int .i32 0, .int .u32 0, .int .i64 m.id, .bool m.up, .int .i64 m.task, .int .i64 m.try_, .string m.res] 53 (0, 0))) :
    Calls Try.prog 19 #[.pointer (some ⟨g, 0, none⟩)] w fun e w' => ∃ v, e = .returned v ∧ MsOwn w.heap.size w' v m.said ∧ FS (fun k => k = g) w w' := by
  have CS := hidOfW (fun (W : World) => saidBy_any m W)
  obtain ⟨L, hL⟩ : ∃ L, L = m.said := ⟨_, rfl⟩
  rw [← hL] at CS ⊢
  clear hL
  obtain ⟨kd, wk, tk, tr, bo⟩ := m
  unfold Wk.val at CS
  simp only at *
  have hz := blk_free h 0
  have h0 := (blk_cell h 0).trans rfl
  have R1 := blk_set h 0 (.int .i32 1)
  have F1 := hidOfW ((FS.refl (fun k => k = g) w).set g 0 (.int .i32 1) rfl)
  have x2 := (blk_cell R1 2).trans rfl
  have x3 := (blk_cell R1 3).trans rfl
  have x4 := (blk_cell R1 4).trans rfl
  have x5 := (blk_cell R1 5).trans rfl
  have x6 := (blk_cell R1 6).trans rfl
  have HH := hidOfW h
  have HR := hidOfW R1
  clear h R1
  go_enter_defers Try.func19, Try.ntmps19
  go_wp2_with (go_at_call 24; refine (lock_free Try.muLib ⟨g, 0, none⟩ _ h0 hz).mono ?_; rintro e w' ⟨rfl, rfl⟩)
  refine (CS.out _).mono ?_
  rintro e w2 ⟨v, rfl, hv, hb⟩
  have R2 := hidOfW ((hb.block g (blk_lt HR.out)).trans HR.out)
  have F2 := hidOfW (F1.out.up hb)
  have hlt : g < (w.setCell ⟨g, 0, none⟩ (.int .i32 1)).heap.size := blk_lt HR.out
  have V2 := hidOfW ((hv.set ⟨g, 0, none⟩ (.int .i32 0) hlt).mono (B' := w.heap.size) (by simp [World.setCell]))
  clear hv hb h0 hz x2 x3 x4 x5 x6 HH HR F1 CS hlt
  go_wp2_with fail
  refine leaves_cons (f := 25) (args := #[.pointer (some ⟨g, 0, none⟩)]) (by simp) (by simp [go_sem]) ?_
  refine (unlock_deferred Try.muLib ⟨g, 0, none⟩ .returning _ ((blk_cell R2.out 0).trans rfl) (blk_free R2.out 0)).mono ?_
  rintro e u' w'' ⟨rfl, rfl, rfl⟩
  exact ⟨_, results_tmp rfl _ _ _, v, rfl, V2.out, F2.out.set g 0 _ rfl⟩
end Go.Proofs.Ytljnffanajcifaa
