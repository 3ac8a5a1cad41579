/- What the specification's Decimal answers, at every int. -/
import Derived.Test.YtchieahfellcbaaDoorKit2
import Derived.Test.YtchieahfellcbaaDoorDecK
namespace Go.Proofs.YtchieahfellcbaaDoor
open Go.RowKit

theorem fig_ch (d : Nat) (h : d < 10) : Pl.fig d = Pl.ch d := by unfold Pl.fig Pl.ch; rw [if_pos h]

theorem l01Figure_at (z : Int) (d : Nat) (w : World) (hz : z = (d : Int)) (hd : d < 16) :
    Calls Tryd.prog 58 #[.int .i64 z] w fun e w' => e = .returned (.int .u8 ((Pl.fig d).toNat : Int)) ∧ w' = w := by
  subst hz
  exact l01Figure_int (d : Int) w (by omega) (by omega)

set_option maxHeartbeats 800000 in
set_option maxRecDepth 100000 in
theorem specDecimal_pos (n : Nat) (w : World) (h0 : n ≠ 0) (hn : n < 9223372036854775808) :
    Calls Tryd.prog 34 #[.int .i64 (n : Int)] w fun e w' => e = .returned (.string ⟨(Pl.dg 20 n).toArray⟩) ∧ Below w.heap.size w w' := by
  have hz : ((n : Int) == 0) = false := by simp; omega
  have hneg : decide ((n : Int) < 0) = false := by simp
  go_enter Tryd.func34, Tryd.ntmps34
  go_wp2
  go_loopw [0, 4] (fun i v wr => ∃ (m f : Nat) (t : List UInt8), i = .int .i64 (m : Int) ∧ v = .string ⟨t.toArray⟩ ∧ m < 9223372036854775808 ∧ t.length + f = 20 ∧ Below w.heap.size w wr ∧ Hid (m < 10 ^ f) ∧ Hid (Pl.dg f m ++ t = Pl.dg 20 n)) (fun i _ _ => (intOf i).toNat)
  case atStart => exact ⟨n, 20, [], rfl, rfl, hn, rfl, Below.refl _ _, (by show n < 10 ^ 20; omega), (by show _ = _; simp)⟩
  case round =>
    obtain ⟨m, f, t, rfl, rfl, hm, htf, hbel, H1, H2⟩ := hrel
    have hsz := hbel.size
    by_cases hm0 : m = 0
    · subst hm0
      have hq : ((0 : Int) != 0) = false := by decide
      have h3 : Hid (t = Pl.dg 20 n) := by have := H2.out; rw [Pl.dg_zero] at this; exact this
      go_wp2
      go_ret
      exact ⟨ret_str (by rw [h3.out]), hbel⟩
    · obtain ⟨g, hg, hq, hv⟩ := dg_round n f m t H1.out H2.out hm0
      have HG : Hid (f = g + 1) := hg
      have HQ : Hid (m / 10 < 10 ^ g) := hq
      have HV : Hid (Pl.dg g (m / 10) ++ (Pl.ch (m % 10) :: t) = Pl.dg 20 n) := hv
      clear hg hq hv
      have hne : ((m : Int) != 0) = true := by simp; omega
      have hcv := conv1 wr (Pl.fig (m % 10))
      go_wp2_with (go_at_call 58; refine (l01Figure_int _ _ (by omega) (by omega)).mono ?_; rintro e w' ⟨rfl, rfl⟩)
      go_roundw
      case rel =>
        refine ⟨m / 10, g, Pl.ch (m % 10) :: t, by go_num, ?_, by omega, ?_, hbel.alloc hsz _, HQ.out, HV.out⟩
        · rw [← fig_ch (m % 10) (by omega), ← cat1]
          rfl
        · have := HG.out; simp; omega
      case measure => simp [intOf]; omega

set_option maxHeartbeats 800000 in
set_option maxRecDepth 100000 in
theorem specDecimal_neg (n : Nat) (w : World) (h0 : n ≠ 0) (hn : n ≤ 9223372036854775808) :
    Calls Tryd.prog 34 #[.int .i64 (-(n : Int))] w fun e w' => e = .returned (.string ⟨(45 :: Pl.dg 20 n).toArray⟩) ∧ Below w.heap.size w w' := by
  have hz : (-(n : Int) == 0) = false := by simp; omega
  have hneg : decide (-(n : Int) < 0) = true := by simp; omega
  go_enter Tryd.func34, Tryd.ntmps34
  go_wp2
  go_loopw [0, 4] (fun i v wr => ∃ (m f : Nat) (t : List UInt8), i = .int .i64 (-(m : Int)) ∧ v = .string ⟨t.toArray⟩ ∧ m ≤ 9223372036854775808 ∧ t.length + f = 20 ∧ Below w.heap.size w wr ∧ Hid (m < 10 ^ f) ∧ Hid (Pl.dg f m ++ t = Pl.dg 20 n)) (fun i _ _ => (-(intOf i)).toNat)
  case atStart => exact ⟨n, 20, [], rfl, rfl, hn, rfl, Below.refl _ _, (by show n < 10 ^ 20; omega), (by show _ = _; simp)⟩
  case round =>
    obtain ⟨m, f, t, rfl, rfl, hm, htf, hbel, H1, H2⟩ := hrel
    have hsz := hbel.size
    by_cases hm0 : m = 0
    · subst hm0
      have hq : (-((0 : Nat) : Int) != 0) = false := by decide
      have h3 : Hid (t = Pl.dg 20 n) := by have := H2.out; rw [Pl.dg_zero] at this; exact this
      have htl : t.length ≤ 20 := by omega
      go_wp2
      go_ret
      exact ⟨ret_str (by rw [← h3.out]; exact cat1 45 t), hbel⟩
    · obtain ⟨g, hg, hq, hv⟩ := dg_round n f m t H1.out H2.out hm0
      have HG : Hid (f = g + 1) := hg
      have HQ : Hid (m / 10 < 10 ^ g) := hq
      have HV : Hid (Pl.dg g (m / 10) ++ (Pl.ch (m % 10) :: t) = Pl.dg 20 n) := hv
      clear hg hq hv
      have hne : (-(m : Int) != 0) = true := by simp; omega
      have hcv := conv1 wr (Pl.fig (m % 10))
      rcases Nat.lt_or_ge (m % 10) 1 with hd | hd
      all_goals
        go_wp2_with (go_at_call 58; refine (l01Figure_at _ (m % 10) _ (by omega) (by omega)).mono ?_; rintro e w' ⟨rfl, rfl⟩)
        go_roundw
        case rel =>
          refine ⟨m / 10, g, Pl.ch (m % 10) :: t, by go_num, ?_, by omega, ?_, hbel.alloc hsz _, HQ.out, HV.out⟩
          · rw [← fig_ch (m % 10) (by omega), ← cat1]
            rfl
          · have := HG.out; simp; omega
        case measure => simp [intOf]; omega

set_option maxHeartbeats 400000 in
theorem specDecimal_zero (w : World) : Calls Tryd.prog 34 #[.int .i64 0] w fun e w' => e = .returned (.string ⟨#[48]⟩) ∧ Below w.heap.size w w' := by
  go_enter Tryd.func34, Tryd.ntmps34
  go_wp2
  go_ret
  exact ⟨rfl, Below.refl _ _⟩

theorem specDecimal_any (n : Int) (w : World) (h1 : -9223372036854775808 ≤ n) (h2 : n ≤ 9223372036854775807) :
    Calls Tryd.prog 34 #[.int .i64 n] w fun e w' => e = .returned (.string ⟨(Pl.decL n).toArray⟩) ∧ Below w.heap.size w w' := by
  unfold Pl.decL
  by_cases h0 : n = 0
  · rw [if_pos h0]; subst h0; exact specDecimal_zero w
  · rw [if_neg h0]
    by_cases hn : n < 0
    · rw [if_pos hn]
      have := specDecimal_neg n.natAbs w (by omega) (by omega)
      rwa [show -(n.natAbs : Int) = n by omega] at this
    · rw [if_neg hn]
      have := specDecimal_pos n.natAbs w (by omega) (by omega)
      rwa [show (n.natAbs : Int) = n by omega] at this
end Go.Proofs.YtchieahfellcbaaDoor
