/- The law's own helpers over tokens: rows held against each other, written and held. -/
import Derived.Test.YtbiknfhfpmomfapTkR
import Derived.Test.YtbiknfhfpmomfapMkT
namespace Go.Proofs.Ytbiknfhfpmomfap
open Go.RowKit

set_option maxHeartbeats 800000 in
theorem eqTok_same (k : Int) (t : ByteArray) (w : World) :
    Calls Try.prog 13 #[.agg #[.int .i64 k, .string t], .agg #[.int .i64 k, .string t]] w fun e w' => e = .returned (.bool true) ∧ Below w.heap.size w w' := by
  have hq : (k != k) = false := by simp
  go_enter Try.func13, Try.ntmps13
  go_wp2
  go_ret
  exact ⟨rfl, below2 _ _ _⟩

set_option maxHeartbeats 2000000 in
theorem eqToks_same (v1 v2 : Value) (ts : List Tk.Tok) (w : World) (h1 : TkAt w v1 ts) (h2 : TkAt w v2 ts) (hl : ts.length ≤ 1000) :
    Calls Try.prog 6 #[v1, v2] w fun e w' => e = .returned (.bool true) ∧ Below w.heap.size w w' := by
  obtain ⟨a1, c1, rfl, f1⟩ := h1
  obtain ⟨a2, c2, rfl, f2⟩ := h2
  obtain ⟨n, hn⟩ : ∃ n, n = ts.length := ⟨_, rfl⟩
  rw [← hn] at f1 f2 hl ⊢
  have hq : ((n : Int) != (n : Int)) = false := by simp
  by_cases h0 : n = 0
  · subst h0
    clear f1 f2 hn
    go_enter Try.func6, Try.ntmps6
    go_wp2
    refine wp_loop_rounds 1 ?_
    rw [rounds_succ]
    go_wp2
    go_ret
    exact ⟨rfl, Below.refl _ _⟩
  · obtain ⟨g1, rfl, l1, k1⟩ := f1 (by omega)
    obtain ⟨g2, rfl, l2, k2⟩ := f2 (by omega)
    have K1 : Hid (∀ j, j < n → w.cell? ⟨g1, j * 2, none⟩ = some (.int .i64 ((ts.getD j Tk.no).kind : Int)) ∧ w.cell? ⟨g1, j * 2 + 1, none⟩ = some (.string ⟨(ts.getD j Tk.no).text.toArray⟩)) := k1
    have K2 : Hid (∀ j, j < n → w.cell? ⟨g2, j * 2, none⟩ = some (.int .i64 ((ts.getD j Tk.no).kind : Int)) ∧ w.cell? ⟨g2, j * 2 + 1, none⟩ = some (.string ⟨(ts.getD j Tk.no).text.toArray⟩)) := k2
    clear k1 k2 f1 f2 hn
    go_enter Try.func6, Try.ntmps6
    go_wp2
    go_loopw [5] (fun i wr => ∃ k : Nat, i = .int .i64 (k : Int) ∧ k ≤ n ∧ Below w.heap.size w wr) (fun i _ => n - (intOf i).toNat)
    case atStart => exact ⟨0, rfl, by omega, Below.refl _ _⟩
    case round =>
      obtain ⟨k, rfl, hk, hbel⟩ := hrel
      have hsz := hbel.size
      by_cases hlt : k < n
      · obtain ⟨x0, x1⟩ := K1.out k hlt
        obtain ⟨z0, z1⟩ := K2.out k hlt
        rw [← hbel.cell (p := ⟨g1, k * 2, none⟩) l1] at x0
        rw [← hbel.cell (p := ⟨g1, k * 2 + 1, none⟩) l1] at x1
        rw [← hbel.cell (p := ⟨g2, k * 2, none⟩) l2] at z0
        rw [← hbel.cell (p := ⟨g2, k * 2 + 1, none⟩) l2] at z1
        generalize ((ts.getD k Tk.no).kind : Int) = kk at *
        generalize (⟨(ts.getD k Tk.no).text.toArray⟩ : ByteArray) = tt at *
        have CC : Hid (∀ w', Calls Try.prog 13 #[.agg #[.int .i64 kk, .string tt], .agg #[.int .i64 kk, .string tt]] w' fun e w'' => e = .returned (.bool true) ∧ Below w'.heap.size w' w'') := fun w' => eqTok_same kk tt w'
        have i1 : (k : Int) < (n : Int) := by omega
        have i0 : (0 : Int) ≤ (k : Int) := by omega
        go_wp2_with fail
        go_region_with ((go_at_call 13; refine (CC.out _).mono ?_; rintro e w1 ⟨rfl, hb1⟩))
        all_goals
          go_wp2
          go_roundw
          case rel => exact ⟨k + 1, by go_num, by omega, hbel.trans (((Below.refl _ _).drew.trans hb1).mono hsz)⟩
          case measure => simp [intOf]; omega
      · go_wp2
        go_ret
        exact ⟨rfl, hbel⟩
#print axioms eqToks_same
end Go.Proofs.Ytbiknfhfpmomfap
