/- The law's own helpers over rows of texts: two rows of the same texts are told the same; marks are written into a row, and are found there. -/
import Derived.Test.YtmobohkcocidhaaKS
import Derived.Test.YtmobohkcocidhaaDecK
namespace Go.Proofs.Ytmobohkcocidhaa
open Go.RowKit

set_option maxHeartbeats 800000 in
set_option maxRecDepth 100000 in
theorem eqS_any (v1 v2 : Value) (B1 B2 : Nat) (ws : List (List UInt8)) (w : World) (h1 : SRow B1 w v1 ws) (h2 : SRow B2 w v2 ws) (hl : ws.length ≤ 601) :
    Calls Try.prog 14 #[v1, v2] w fun e w' => e = .returned (.bool true) ∧ Below w.heap.size w w' := by
  obtain ⟨a1, c1, rfl, f1⟩ := h1.form
  obtain ⟨a2, c2, rfl, f2⟩ := h2.form
  clear h1 h2
  obtain ⟨n, hn⟩ : ∃ n, n = ws.length := ⟨_, rfl⟩
  rw [← hn] at f1 f2 hl ⊢
  have hq : ((n : Int) != (n : Int)) = false := by simp
  by_cases h0 : n = 0
  · subst h0
    clear f1 f2 hn
    go_enter Try.func14, Try.ntmps14
    go_wp2
    refine wp_loop_rounds 1 ?_
    rw [rounds_succ]
    go_wp2
    go_ret
    exact ⟨rfl, Below.refl _ _⟩
  · obtain ⟨g1, rfl, _, l1, k1, _⟩ := f1 (by omega)
    obtain ⟨g2, rfl, _, l2, k2, _⟩ := f2 (by omega)
    have K1 : Hid (∀ j, j < n → w.cell? ⟨g1, j, none⟩ = some (sv (ws.getD j []))) := k1
    have K2 : Hid (∀ j, j < n → w.cell? ⟨g2, j, none⟩ = some (sv (ws.getD j []))) := k2
    clear k1 k2 f1 f2 hn
    go_enter Try.func14, Try.ntmps14
    go_wp2
    go_loopw [5] (fun i wr => ∃ k : Nat, i = .int .i64 (k : Int) ∧ k ≤ n ∧ Below w.heap.size w wr) (fun i _ => n - (intOf i).toNat)
    case atStart => exact ⟨0, rfl, by omega, Below.refl _ _⟩
    case round =>
      obtain ⟨k, rfl, hk, hbel⟩ := hrel
      by_cases hlt : k < n
      · obtain ⟨x, hx⟩ : ∃ x : ByteArray, Value.string x = sv (ws.getD k []) := ⟨_, rfl⟩
        have c1 : wr.cell? ⟨g1, k, none⟩ = some (.string x) := by rw [hx]; exact (hbel.cell (by exact l1)).trans (K1.out k hlt)
        have c2 : wr.cell? ⟨g2, k, none⟩ = some (.string x) := by rw [hx]; exact (hbel.cell (by exact l2)).trans (K2.out k hlt)
        have i1 : (k : Int) < (n : Int) := by omega
        clear hx
        go_wp2_with fail
        go_quiet (fail)
        go_wp2
        go_roundw
        case rel => exact ⟨k + 1, by go_num, by omega, below_drewN hbel _⟩
        case measure => simp [intOf]; omega
      · go_wp2
        go_ret
        exact ⟨rfl, hbel⟩

/-- The mark of k. -/
def mk (k : Nat) : List UInt8 := 109 :: Pl.dg 20 k

set_option maxHeartbeats 800000 in
set_option maxRecDepth 100000 in
theorem markText_any (n : Nat) (w : World) (h0 : 0 < n) (hn : n ≤ 1000000) :
    Calls Try.prog 24 #[.int .i64 (n : Int)] w fun e w' => e = .returned (.string ⟨(mk n).toArray⟩) ∧ Below w.heap.size w w' := by
  go_enter Try.func24, Try.ntmps24
  go_wp2
  go_loopw [0, 3] (fun i v wr => ∃ (m f : Nat) (t : List UInt8), i = .int .i64 (m : Int) ∧ v = .string ⟨t.toArray⟩ ∧ m ≤ 1000000 ∧ t.length + f = 20 ∧ Below w.heap.size w wr ∧ Hid (m < 10 ^ f) ∧ Hid (Pl.dg f m ++ t = Pl.dg 20 n)) (fun i _ _ => (intOf i).toNat)
  case atStart => exact ⟨n, 20, [], rfl, rfl, hn, rfl, Below.refl _ _, (by show n < 10 ^ 20; omega), (by show _ = _; simp)⟩
  case round =>
    obtain ⟨m, f, t, rfl, rfl, hm, htf, hbel, H1, H2⟩ := hrel
    have hsz := hbel.size
    by_cases hm0 : m = 0
    · subst hm0
      have h3 : Hid (t = Pl.dg 20 n) := by have := H2.out; rw [Pl.dg_zero] at this; exact this
      have htl : t.length ≤ 20 := by omega
      go_wp2
      go_ret
      exact ⟨ret_str (by unfold mk; rw [← h3.out]; exact cat1 109 t), hbel⟩
    · obtain ⟨g, hg, hq, hv⟩ := dg_round n f m t H1.out H2.out hm0
      have HG : Hid (f = g + 1) := hg
      have HQ : Hid (m / 10 < 10 ^ g) := hq
      have HV : Hid (Pl.dg g (m / 10) ++ (Pl.ch (m % 10) :: t) = Pl.dg 20 n) := hv
      clear hg hq hv
      have hpos : 0 < m := by omega
      have hcv := conv1 wr (Pl.ch (m % 10))
      rw [show ((Pl.ch (m % 10)).toNat : Int) = 48 + (m : Int) % 10 by have := Pl.ch_nat (m % 10) (by omega); omega] at hcv
      go_wp2
      go_roundw
      case rel =>
        refine ⟨m / 10, g, Pl.ch (m % 10) :: t, by go_num, ?_, by omega, ?_, hbel.alloc hsz _, HQ.out, HV.out⟩
        · rw [← cat1]
          rfl
        · have := HG.out; simp; omega
      case measure => simp [intOf]; omega

theorem markText_int (z : Int) (n : Nat) (w : World) (hz : z = (n : Int)) (h0 : 0 < n) (hn : n ≤ 1000000) :
    Calls Try.prog 24 #[.int .i64 z] w fun e w' => e = .returned (.string ⟨(mk n).toArray⟩) ∧ Below w.heap.size w w' := by
  subst hz
  exact markText_any n w h0 hn

/-- The marks from 1 on, n of them. -/
def mks (n : Nat) : List (List UInt8) := (List.range n).map fun i => mk (i + 1)
theorem mks_len (n : Nat) : (mks n).length = n := by simp [mks]
theorem mks_at (n j : Nat) (h : j < n) : (mks n).getD j [] = mk (j + 1) := by simp [mks, h]
/-- What a row holds when its first k texts are marked. -/
def mkd (ws : List (List UInt8)) (k : Nat) : List (List UInt8) := mks k ++ ws.drop k
theorem mkd_len (ws : List (List UInt8)) (k : Nat) (h : k ≤ ws.length) : (mkd ws k).length = ws.length := by simp [mkd, mks_len]; omega
theorem mkd_set (ws : List (List UInt8)) (k : Nat) (h : k < ws.length) : (mkd ws k).set k (mk (k + 1)) = mkd ws (k + 1) := by
  unfold mkd
  rw [List.set_append_right _ _ (by rw [mks_len]; exact Nat.le_refl _), mks_len, Nat.sub_self, List.drop_eq_getElem_cons h, List.set_cons_zero]
  simp [mks, List.range_succ]
theorem mkd_all (ws : List (List UInt8)) : mkd ws ws.length = mks ws.length := by simp [mkd]

set_option maxHeartbeats 800000 in
set_option maxRecDepth 100000 in
theorem markS_any (v : Value) (B : Nat) (ws : List (List UInt8)) (w : World) (h : SRow B w v ws) (hl : ws.length ≤ 601) (_hB : B ≤ w.heap.size) :
    Calls Try.prog 15 #[v, .int .i64 1] w fun e w' => e = .returned (.int .i64 ((ws.length + 1 : Nat) : Int)) ∧ SRow B w' v (mks ws.length) ∧ Below B w w' := by
  obtain ⟨a, c, rfl, f⟩ := h.form
  by_cases h0 : ws.length = 0
  · obtain rfl : ws = [] := List.eq_nil_of_length_eq_zero h0
    clear f
    go_enter Try.func15, Try.ntmps15
    go_wp2
    refine wp_loop_rounds 1 ?_
    rw [rounds_succ]
    go_wp2
    go_ret
    exact ⟨rfl, h, Below.refl _ _⟩
  · obtain ⟨g, rfl, hg, _, _, _⟩ := f (by omega)
    obtain ⟨n, hn⟩ : ∃ n, n = ws.length := ⟨_, rfl⟩
    rw [← hn] at h hl ⊢
    have HN : Hid (n = ws.length) := hn
    clear f hn h0
    go_enter Try.func15, Try.ntmps15
    go_wp2
    go_loopw [1, 5] (fun q i wr => ∃ k : Nat, i = .int .i64 (k : Int) ∧ q = .int .i64 ((k : Int) + 1) ∧ k ≤ n ∧ SRow B wr (.slice (some ⟨g, 0, none⟩) n c) (mkd ws k) ∧ Below B w wr) (fun _ i _ => n - (intOf i).toNat)
    case atStart => exact ⟨0, rfl, rfl, by omega, h, Below.refl _ _⟩
    case round =>
      obtain ⟨k, rfl, rfl, hk, hrow, hbel⟩ := hrel
      have hsz := hbel.size
      have hlen : (mkd ws k).length = n := by rw [mkd_len ws k (by have := HN.out; omega)]; exact HN.out.symm
      by_cases hlt : k < n
      · have HLE : Hid ((mkd ws k).length = n) := hlen
        clear hlen
        go_wp2_with (go_at_call 24; refine (markText_int _ (k + 1) _ (by omega) (by omega) (by omega)).mono ?_; rintro e w1 ⟨rfl, hb1⟩; have hc1 := (hrow.keep hb1).cell HLE.out k hlt; have hf1 := (hrow.keep hb1).free HLE.out k)
        have hst := (hrow.keep hb1).store HLE.out k (mk (k + 1))
        rw [mkd_set ws k (by have := HN.out; omega)] at hst
        go_roundw
        case rel => exact ⟨k + 1, by go_num, by go_num, by omega, hst, (hbel.trans (hb1.mono (by omega))).setCell hg _⟩
        case measure => simp [intOf]; omega
      · obtain rfl : k = n := by omega
        have HA : Hid (mkd ws k = mks k) := by have := mkd_all ws; rw [← HN.out] at this; exact this
        go_wp2
        go_ret
        exact ⟨rfl, by rw [← HA.out]; exact hrow, hbel⟩

set_option maxHeartbeats 1000000 in
set_option maxRecDepth 100000 in
theorem heldS_any (v : Value) (B n : Nat) (w : World) (h : SRow B w v (mks n)) (hl : n ≤ 601) :
    Calls Try.prog 16 #[v, .int .i64 1] w fun e w' => e = .returned (.int .i64 ((n + 1 : Nat) : Int)) ∧ Below w.heap.size w w' := by
  obtain ⟨a, c, rfl, f⟩ := h.form
  rw [mks_len] at f ⊢
  by_cases h0 : n = 0
  · subst h0
    clear f h
    go_enter Try.func16, Try.ntmps16
    go_wp2
    refine wp_loop_rounds 1 ?_
    rw [rounds_succ]
    go_wp2
    go_ret
    exact ⟨rfl, Below.refl _ _⟩
  · obtain ⟨g, rfl, hg, hgl, hc, _⟩ := f (by omega)
    have HC : Hid (∀ j, j < n → w.cell? ⟨g, j, none⟩ = some (.string ⟨(mk (j + 1)).toArray⟩)) := by
      intro j hj
      rw [hc j hj, mks_at n j hj]
      rfl
    clear f h hc h0
    go_enter Try.func16, Try.ntmps16
    go_wp2
    go_loopw [1, 5] (fun q i wr => ∃ k : Nat, i = .int .i64 (k : Int) ∧ q = .int .i64 ((k : Int) + 1) ∧ k ≤ n ∧ Below w.heap.size w wr) (fun _ i _ => n - (intOf i).toNat)
    case atStart => exact ⟨0, rfl, rfl, by omega, Below.refl _ _⟩
    case round =>
      obtain ⟨k, rfl, rfl, hk, hbel⟩ := hrel
      have hsz := hbel.size
      by_cases hlt : k < n
      · obtain ⟨x, hx⟩ : ∃ x : ByteArray, x = ⟨(mk (k + 1)).toArray⟩ := ⟨_, rfl⟩
        have hc1 : wr.cell? ⟨g, k, none⟩ = some (.string x) := by rw [hx]; exact (hbel.cell (by exact hgl)).trans (HC.out k hlt)
        have CM : Hid (∀ W : World, Calls Try.prog 24 #[.int .i64 ((k : Int) + 1)] W fun e w' => e = .returned (.string x) ∧ Below W.heap.size W w') := by
          intro W
          have := markText_int ((k : Int) + 1) (k + 1) W (by omega) (by omega) (by omega)
          rwa [← hx] at this
        clear hx
        have i1 : (k : Int) < (n : Int) := by omega
        have i0 : (0 : Int) ≤ (k : Int) := by omega
        have hgw : g < wr.heap.size := by omega
        go_wp2_with fail
        go_region_held3 (fun w' => w'.cell? ⟨g, k, none⟩ = some (.string x)) (first | go_keep | (rw [hb1.cell (by exact hgw)]; exact hc1)) ((go_at_call 24; refine (CM.out _).mono ?_; rintro e w1 ⟨rfl, hb1⟩))
        go_wp2
        go_roundw
        case rel => exact ⟨k + 1, by go_num, by go_num, by omega, hbel.trans (((Below.refl _ _).drew.trans hb1).mono hsz)⟩
        case measure => simp [intOf]; omega
      · obtain rfl : k = n := by omega
        go_wp2
        go_ret
        exact ⟨rfl, hbel⟩

#print axioms heldS_any
end Go.Proofs.Ytmobohkcocidhaa
