/- Lists of one message at most: their marks, and two of the same. -/
import Derived.Test.YtljnffanajcifaaMPWtWkC
import Derived.Test.YtljnffanajcifaaMPWtMsA
namespace Go.Proofs.Ytljnffanajcifaa
open Go.RowKit

/-- The list with marks in it. -/
def msMarked : List Ms → List Ms
  | [] => []
  | _ => [⟨1, 2, 3, 4, ⟨(mk 5).toArray⟩⟩]
/-- How far the marks go. -/
def msCount : List Ms → Int
  | [] => 1
  | _ => 6
set_option maxHeartbeats 2000000 in
set_option maxRecDepth 100000 in
theorem markMs_any (B : Nat) (v : Value) (ms : List Ms) (w : World) (h : MsOwn B w v ms) :
    Calls Try.prog 14 #[v, .int .i64 1] w fun e w' => e = .returned (.int .i64 (msCount ms)) ∧ MsOwn B w' v (msMarked ms) ∧ FS (fun k => B ≤ k) w w' := by
  rcases h with ⟨rfl, a, c, rfl⟩ | ⟨m, g, c, rfl, rfl, hB, h0⟩
  · go_enter Try.func14, Try.ntmps14
    go_wp2
    refine wp_loop_rounds 1 ?_
    rw [rounds_succ]
    go_wp2
    go_ret
    exact ⟨rfl, .inl ⟨rfl, _, _, rfl⟩, FS.refl _ _⟩
  · obtain ⟨kd, wk, tk, tr, bo⟩ := m
    unfold Ms.cells at h0
    simp only at h0
    have CM : Hid (∀ W : World, Calls Try.prog 21 #[.int .i64 5] W fun e w' => e = .returned (.string ⟨(mk 5).toArray⟩) ∧ Below W.heap.size W w') := fun W => markText_int 5 5 W rfl (by omega) (by omega)
    unfold msMarked msCount
    generalize (⟨(mk 5).toArray⟩ : ByteArray) = mb at *
    have c0 := (blk_cell h0 0).trans rfl
    have f0 := blk_free h0 0
    have h1 := blk_set h0 0 (.int .i64 1)
    have c1 := (blk_cell h1 1).trans rfl
    have f1 := blk_free h1 1
    have h2 := blk_set h1 1 (.int .i64 2)
    have c2 := (blk_cell h2 2).trans rfl
    have f2 := blk_free h2 2
    have h3 := blk_set h2 2 (.int .i64 3)
    have c3 := (blk_cell h3 3).trans rfl
    have f3 := blk_free h3 3
    have h4 := blk_set h3 3 (.int .i64 4)
    have HF := hidOfW (((((FS.refl (fun k => B ≤ k) w).set g 0 (.int .i64 1) hB).set g 1 (.int .i64 2) hB).set g 2 (.int .i64 3) hB).set g 3 (.int .i64 4) hB)
    have HH := hidOfW h4
    have HBB := hidOfW hB
    clear h0 h1 h2 h3 h4 hB
    go_enter Try.func14, Try.ntmps14
    go_wp2_with fail
    refine wp_loop_rounds 2 ?_
    rw [rounds_succ]
    go_wp2_with fail
    refine (CM.out _).mono ?_
    rintro e w1 ⟨rfl, hb1⟩
    have R := (hb1.block g (blk_lt HH.out)).trans HH.out
    have c4 := (blk_cell R 4).trans rfl
    have f4 := blk_free R 4
    have HR := hidOfW (blk_set R 4 (.string mb))
    have HF2 := hidOfW ((HF.out.up hb1).set g 4 (.string mb) HBB.out)
    clear R hb1 HF HH CM c0 c1 c2 c3 f0 f1 f2 f3
    go_wp2_with fail
    rw [rounds_succ]
    go_wp2_with fail
    go_ret
    exact ⟨rfl, .inr ⟨⟨1, 2, 3, 4, mb⟩, g, c, rfl, rfl, HBB.out, HR.out⟩, HF2.out⟩
set_option maxHeartbeats 2000000 in
set_option maxRecDepth 100000 in
theorem heldMs_any (B : Nat) (v : Value) (ms : List Ms) (w : World) (h : MsOwn B w v (msMarked ms)) :
    Calls Try.prog 15 #[v, .int .i64 1] w fun e w' => e = .returned (.int .i64 (msCount ms)) ∧ Below w.heap.size w w' := by
  cases ms with
  | nil =>
    rcases h with ⟨-, a, c, rfl⟩ | ⟨m, g, c, hm, -⟩
    · go_enter Try.func15, Try.ntmps15
      go_wp2
      refine wp_loop_rounds 1 ?_
      rw [rounds_succ]
      go_wp2
      go_ret
      exact ⟨rfl, Below.refl _ _⟩
    · exact absurd hm (by simp [msMarked])
  | cons m0 l0 =>
    rcases h with ⟨hm, -⟩ | ⟨m, g, c, hm, rfl, hB, h0⟩
    · exact absurd hm (by simp [msMarked])
    have hm2 : m = ⟨1, 2, 3, 4, ⟨(mk 5).toArray⟩⟩ := by
      unfold msMarked at hm
      simpa using hm.symm
    subst hm2
    clear hm
    unfold Ms.cells at h0
    simp only at h0
    have CM : Hid (∀ W : World, Calls Try.prog 21 #[.int .i64 5] W fun e w' => e = .returned (.string ⟨(mk 5).toArray⟩) ∧ Below W.heap.size W w') := fun W => markText_int 5 5 W rfl (by omega) (by omega)
    unfold msCount
    generalize (⟨(mk 5).toArray⟩ : ByteArray) = mb at *
    have c0 := (blk_cell h0 0).trans rfl
    have c1 := (blk_cell h0 1).trans rfl
    have c2 := (blk_cell h0 2).trans rfl
    have c3 := (blk_cell h0 3).trans rfl
    have c4 := (blk_cell h0 4).trans rfl
    have hlt := blk_lt h0
    have n4 : (!(mb.toList == mb.toList)) = false := by simp
    clear h0 hB
    go_enter Try.func15, Try.ntmps15
    go_wp2_with fail
    refine wp_loop_rounds 2 ?_
    rw [rounds_succ]
    go_wp2_with fail
    go_region_held3 (fun w' => w'.cell? ⟨g, 4, none⟩ = some (.string mb)) (first | go_keep | (rw [hb2.cell (by exact hlt)]; exact c4)) ((go_at_call 21; refine (CM.out _).mono ?_; rintro e a2 ⟨rfl, hb2⟩))
    have HB2 := hidOfW ((Below.refl w.heap.size w).drew.trans hb2)
    clear hb2 CM
    go_wp2_with fail
    rw [rounds_succ]
    go_wp2_with fail
    go_ret
    exact ⟨rfl, HB2.out⟩
theorem keepM {w w' : World} {g g2 : Nat} {a0 a1 a2 a3 a4 : Value} (hb : Below w.heap.size w w') (h : w.cell? ⟨g, 0, none⟩ = some a0 ∧ w.cell? ⟨g, 1, none⟩ = some a1 ∧ w.cell? ⟨g, 2, none⟩ = some a2 ∧ w.cell? ⟨g, 3, none⟩ = some a3 ∧ w.cell? ⟨g, 4, none⟩ = some a4 ∧ w.cell? ⟨g2, 0, none⟩ = some a0 ∧ w.cell? ⟨g2, 1, none⟩ = some a1 ∧ w.cell? ⟨g2, 2, none⟩ = some a2 ∧ w.cell? ⟨g2, 3, none⟩ = some a3 ∧ w.cell? ⟨g2, 4, none⟩ = some a4 ∧ Hid (g < w.heap.size ∧ g2 < w.heap.size)) :
    w'.cell? ⟨g, 0, none⟩ = some a0 ∧ w'.cell? ⟨g, 1, none⟩ = some a1 ∧ w'.cell? ⟨g, 2, none⟩ = some a2 ∧ w'.cell? ⟨g, 3, none⟩ = some a3 ∧ w'.cell? ⟨g, 4, none⟩ = some a4 ∧ w'.cell? ⟨g2, 0, none⟩ = some a0 ∧ w'.cell? ⟨g2, 1, none⟩ = some a1 ∧ w'.cell? ⟨g2, 2, none⟩ = some a2 ∧ w'.cell? ⟨g2, 3, none⟩ = some a3 ∧ w'.cell? ⟨g2, 4, none⟩ = some a4 ∧ Hid (g < w'.heap.size ∧ g2 < w'.heap.size) := by
  obtain ⟨h0, h1, h2, h3, h4, k0, k1, k2, k3, k4, hl⟩ := h
  have l1 : g < w.heap.size := hl.1
  have l2 : g2 < w.heap.size := hl.2
  have hs := hb.size
  exact ⟨(hb.cell l1).trans h0, (hb.cell l1).trans h1, (hb.cell l1).trans h2, (hb.cell l1).trans h3, (hb.cell l1).trans h4, (hb.cell l2).trans k0, (hb.cell l2).trans k1, (hb.cell l2).trans k2, (hb.cell l2).trans k3, (hb.cell l2).trans k4, Nat.lt_of_lt_of_le l1 hs, Nat.lt_of_lt_of_le l2 hs⟩
set_option maxHeartbeats 2000000 in
set_option maxRecDepth 100000 in
theorem eqMs_any (B B2 : Nat) (v v2 : Value) (ms : List Ms) (w : World) (h : MsOwn B w v ms) (h2 : MsOwn B2 w v2 ms) :
    Calls Try.prog 13 #[v, v2] w fun e w' => e = .returned (.bool true) ∧ Below w.heap.size w w' := by
  rcases h with ⟨rfl, a, c, rfl⟩ | ⟨m, g, c, rfl, rfl, hB, h0⟩
  · rcases h2 with ⟨-, a2, c2, rfl⟩ | ⟨m, g, c, hm, -⟩
    · go_enter Try.func13, Try.ntmps13
      go_wp2
      refine wp_loop_rounds 1 ?_
      rw [rounds_succ]
      go_wp2
      go_ret
      exact ⟨rfl, Below.refl _ _⟩
    · exact absurd hm (by simp)
  · rcases h2 with ⟨hm, -⟩ | ⟨m2, g2, c2, hm, rfl, hB2, k0⟩
    · exact absurd hm (by simp)
    obtain rfl : m = m2 := by simpa using hm
    have CE := hidOfW (fun W => eqMsg_any m W)
    obtain ⟨kd, wk, tk, tr, bo⟩ := m
    unfold Ms.cells at *
    unfold Ms.val at CE
    simp only at *
    have x0 := (blk_cell h0 0).trans rfl
    have x1 := (blk_cell h0 1).trans rfl
    have x2 := (blk_cell h0 2).trans rfl
    have x3 := (blk_cell h0 3).trans rfl
    have x4 := (blk_cell h0 4).trans rfl
    have y0 := (blk_cell k0 0).trans rfl
    have y1 := (blk_cell k0 1).trans rfl
    have y2 := (blk_cell k0 2).trans rfl
    have y3 := (blk_cell k0 3).trans rfl
    have y4 := (blk_cell k0 4).trans rfl
    have hl1 := blk_lt h0
    have hl2 := blk_lt k0
    clear h0 k0 hB hB2 hm
    go_enter Try.func13, Try.ntmps13
    go_wp2_with fail
    refine wp_loop_rounds 2 ?_
    rw [rounds_succ]
    go_wp2_with fail
    go_region_held3 (fun w' => w'.cell? ⟨g, 0, none⟩ = some (.int .i64 kd) ∧ w'.cell? ⟨g, 1, none⟩ = some (.int .i64 wk) ∧ w'.cell? ⟨g, 2, none⟩ = some (.int .i64 tk) ∧ w'.cell? ⟨g, 3, none⟩ = some (.int .i64 tr) ∧ w'.cell? ⟨g, 4, none⟩ = some (.string bo) ∧ w'.cell? ⟨g2, 0, none⟩ = some (.int .i64 kd) ∧ w'.cell? ⟨g2, 1, none⟩ = some (.int .i64 wk) ∧ w'.cell? ⟨g2, 2, none⟩ = some (.int .i64 tk) ∧ w'.cell? ⟨g2, 3, none⟩ = some (.int .i64 tr) ∧ w'.cell? ⟨g2, 4, none⟩ = some (.string bo) ∧ Hid (g < w'.heap.size ∧ g2 < w'.heap.size)) (first | exact keepM hb2 (by assumption) | exact ⟨x0, x1, x2, x3, x4, y0, y1, y2, y3, y4, hl1, hl2⟩ | assumption) ((go_at_call 20; refine (CE.out _).mono ?_; rintro e a2 ⟨rfl, hb2⟩))
    have HB2 := hidOfW ((Below.refl w.heap.size w).drew.trans hb2)
    clear hb2 CE
    go_wp2_with fail
    rw [rounds_succ]
    go_wp2_with fail
    go_ret
    exact ⟨rfl, HB2.out⟩
end Go.Proofs.Ytljnffanajcifaa
