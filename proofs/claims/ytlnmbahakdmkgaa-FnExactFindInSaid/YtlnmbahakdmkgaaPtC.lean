/- Patterns in memory: two of the same pieces are told the same. -/
import Derived.Test.YtlnmbahakdmkgaaPtA
namespace Go.Proofs.Ytlnmbahakdmkgaa
open Go.RowKit

set_option maxHeartbeats 800000 in
theorem eqInts_any (v1 v2 : Value) (ks : List Int) (w : World) (h1 : KidsAt w v1 ks) (h2 : KidsAt w v2 ks) (hl : ks.length ≤ 1048576) :
    Calls Try.prog 69 #[v1, v2] w fun e w' => e = .returned (.bool true) ∧ Below w.heap.size w w' := by
  obtain ⟨a1, c1, rfl, f1⟩ := h1
  obtain ⟨a2, c2, rfl, f2⟩ := h2
  obtain ⟨n, hn⟩ : ∃ n, n = ks.length := ⟨_, rfl⟩
  rw [← hn] at f1 f2 hl ⊢
  have hq : ((n : Int) != (n : Int)) = false := by simp
  by_cases h0 : n = 0
  · subst h0
    clear f1 f2 hn
    go_enter Try.func69, Try.ntmps69
    go_wp2
    refine wp_loop_rounds 1 ?_
    rw [rounds_succ]
    go_wp2
    go_ret
    exact ⟨rfl, Below.refl _ _⟩
  · obtain ⟨g1, o1, rfl, l1, k1⟩ := f1 (by omega)
    obtain ⟨g2, o2, rfl, l2, k2⟩ := f2 (by omega)
    have K1 : Hid (∀ j, j < n → w.cell? ⟨g1, o1 + j, none⟩ = some (.int .i64 (ks.getD j 0))) := k1
    have K2 : Hid (∀ j, j < n → w.cell? ⟨g2, o2 + j, none⟩ = some (.int .i64 (ks.getD j 0))) := k2
    clear k1 k2 f1 f2 hn
    go_enter Try.func69, Try.ntmps69
    go_wp2
    go_loopw [5] (fun i wr => ∃ k : Nat, i = .int .i64 (k : Int) ∧ k ≤ n ∧ Below w.heap.size w wr) (fun i _ => n - (intOf i).toNat)
    case atStart => exact ⟨0, rfl, by omega, Below.refl _ _⟩
    case round =>
      obtain ⟨k, rfl, hk, hbel⟩ := hrel
      by_cases hlt : k < n
      · have c1 := (hbel.cell l1).trans (K1.out k hlt)
        have c2 := (hbel.cell l2).trans (K2.out k hlt)
        obtain ⟨x, hx⟩ : ∃ x, x = ks.getD k 0 := ⟨_, rfl⟩
        rw [← hx] at c1 c2
        have i1 : (k : Int) < (n : Int) := by omega
        have hq : (x != x) = false := by simp
        clear hx
        go_wp2_with fail
        go_quiet (fail)
        go_wp2
        go_roundw
        case rel => exact ⟨k + 1, by go_num, by omega, below_drewN hbel _⟩
        case measure => simp [intOf]; omega
      · go_wp2
        go_ret
        exact ⟨rfl, hbel⟩

set_option maxHeartbeats 800000 in
theorem eqPiece_any (v1 v2 : Value) (p : Pi) (w : World) (h1 : KidsAt w v1 p.kids) (h2 : KidsAt w v2 p.kids) (hl : p.kids.length ≤ 1048576) :
    Calls Try.prog 51 #[.agg #[.int .i64 p.op, .string p.text, v1], .agg #[.int .i64 p.op, .string p.text, v2]] w fun e w' => e = .returned (.bool true) ∧ Below w.heap.size w w' := by
  obtain ⟨op, t, ks⟩ := p
  simp only at h1 h2 hl ⊢
  have CC : Hid (∀ w', Below w.heap.size w w' → Calls Try.prog 69 #[v1, v2] w' fun e w'' => e = .returned (.bool true) ∧ Below w'.heap.size w' w'') := fun w' hb => eqInts_any v1 v2 ks w' (h1.keep hb) (h2.keep hb) hl
  obtain ⟨a1, c1, rfl, f1⟩ := h1
  obtain ⟨a2, c2, rfl, f2⟩ := h2
  clear f1 f2
  have hq : (op != op) = false := by simp
  go_enter Try.func51, Try.ntmps51
  go_wp2_with fail
  refine (CC.out _ (((Below.refl _ _).alloc (Nat.le_refl _) _).alloc (by simp) _)).mono ?_
  rintro e w1 ⟨rfl, hb1⟩
  go_wp2
  go_ret
  exact ⟨rfl, (((Below.refl _ _).alloc (Nat.le_refl _) _).alloc (by simp) _).trans (hb1.mono (by simp; omega))⟩

set_option maxHeartbeats 2000000 in
theorem eqPcs_any (v1 v2 : Value) (ps : List Pi) (w : World) (h1 : PcsAt w v1 ps) (h2 : PcsAt w v2 ps) (hl : ps.length ≤ 1048576) (hs : Small ps ps.length) :
    Calls Try.prog 30 #[v1, v2] w fun e w' => e = .returned (.bool true) ∧ Below w.heap.size w w' := by
  obtain ⟨a1, c1, rfl, f1⟩ := h1
  obtain ⟨a2, c2, rfl, f2⟩ := h2
  obtain ⟨n, hn⟩ : ∃ n, n = ps.length := ⟨_, rfl⟩
  have HS : Hid (Small ps n) := by rw [hn]; exact hs
  rw [← hn] at f1 f2 hl ⊢
  clear hs
  have hq : ((n : Int) != (n : Int)) = false := by simp
  by_cases h0 : n = 0
  · subst h0
    clear f1 f2 hn
    go_enter Try.func30, Try.ntmps30
    go_wp2
    refine wp_loop_rounds 1 ?_
    rw [rounds_succ]
    go_wp2
    go_ret
    exact ⟨rfl, Below.refl _ _⟩
  · obtain ⟨g1, o1, rfl, l1, k1⟩ := f1 (by omega)
    obtain ⟨g2, o2, rfl, l2, k2⟩ := f2 (by omega)
    have K1 : Hid (∀ j, j < n → PieceAt w g1 (o1 + j * 3) (ps.getD j Pi.no)) := k1
    have K2 : Hid (∀ j, j < n → PieceAt w g2 (o2 + j * 3) (ps.getD j Pi.no)) := k2
    clear k1 k2 f1 f2 hn
    go_enter Try.func30, Try.ntmps30
    go_wp2
    go_loopw [5] (fun i wr => ∃ k : Nat, i = .int .i64 (k : Int) ∧ k ≤ n ∧ Below w.heap.size w wr) (fun i _ => n - (intOf i).toNat)
    case atStart => exact ⟨0, rfl, by omega, Below.refl _ _⟩
    case round =>
      obtain ⟨k, rfl, hk, hbel⟩ := hrel
      have hsz := hbel.size
      by_cases hlt : k < n
      · have q1 := (K1.out k hlt).keep l1 hbel
        have q2 := (K2.out k hlt).keep l2 hbel
        have hkl := (HS.out k hlt).1
        obtain ⟨p, hp⟩ : ∃ p, p = ps.getD k Pi.no := ⟨_, rfl⟩
        rw [← hp] at q1 q2 hkl
        clear hp
        obtain ⟨kv1, x0, x1, x2, y1⟩ := q1
        obtain ⟨kv2, z0, z1, z2, y2⟩ := q2
        have CC : Hid (∀ w', Below wr.heap.size wr w' → Calls Try.prog 51 #[.agg #[.int .i64 p.op, .string p.text, kv1], .agg #[.int .i64 p.op, .string p.text, kv2]] w' fun e w'' => e = .returned (.bool true) ∧ Below w'.heap.size w' w'') :=
          fun w' hb => eqPiece_any kv1 kv2 p w' (y1.keep hb) (y2.keep hb) hkl
        obtain ⟨op, t, ks⟩ := p
        simp only at x0 x1 z0 z1 CC
        obtain ⟨ka1, kc1, rfl, _⟩ := y1
        obtain ⟨ka2, kc2, rfl, _⟩ := y2
        have i1 : (k : Int) < (n : Int) := by omega
        have i0 : (0 : Int) ≤ (k : Int) := by omega
        go_wp2_with fail
        go_region_with ((go_at_call 51; refine (CC.out _ (by first | exact Below.refl _ _ | exact (Below.refl _ _).drew)).mono ?_; rintro e w1 ⟨rfl, hb1⟩))
        all_goals
          go_wp2
          go_roundw
          case rel => exact ⟨k + 1, by go_num, by omega, hbel.trans (((Below.refl _ _).drew.trans hb1).mono hsz)⟩
          case measure => simp [intOf]; omega
      · go_wp2
        go_ret
        exact ⟨rfl, hbel⟩

set_option maxHeartbeats 800000 in
theorem eqPat_any (v1 v2 : Value) (ps : List Pi) (w : World) (h1 : PcsAt w v1 ps) (h2 : PcsAt w v2 ps) (hl : ps.length ≤ 1048576) (hs : Small ps ps.length) :
    Calls Try.prog 10 #[.agg #[v1], .agg #[v2]] w fun e w' => e = .returned (.bool true) ∧ Below w.heap.size w w' := by
  have CC : Hid (∀ w', Below w.heap.size w w' → Calls Try.prog 30 #[v1, v2] w' fun e w'' => e = .returned (.bool true) ∧ Below w'.heap.size w' w'') := fun w' hb => eqPcs_any v1 v2 ps w' (h1.keep hb) (h2.keep hb) hl hs
  obtain ⟨a1, c1, rfl, f1⟩ := h1
  obtain ⟨a2, c2, rfl, f2⟩ := h2
  clear f1 f2
  go_enter Try.func10, Try.ntmps10
  go_wp2_with fail
  refine (CC.out _ (((Below.refl _ _).alloc (Nat.le_refl _) _).alloc (by simp) _)).mono ?_
  rintro e w1 ⟨rfl, hb1⟩
  go_wp2
  go_ret
  exact ⟨rfl, (((Below.refl _ _).alloc (Nat.le_refl _) _).alloc (by simp) _).trans (hb1.mono (by simp; omega))⟩
#print axioms eqPat_any
end Go.Proofs.Ytlnmbahakdmkgaa
