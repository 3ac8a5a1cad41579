/- What spec.l01Var and both VarText answer, at every number. -/
import Derived.Test.YtdkenmpdgadcpaaDoorMPRmZaa
namespace Go.Proofs.YtdkenmpdgadcpaaDoor
open Go.RowKit

theorem vb_round (n f m : Nat) (xs : List UInt8) (hf : m < 128 ^ (f + 1)) (he : xs ++ Pl.vb f m = Pl.vb 8 n) (h : 127 < m) :
    ∃ g, f = g + 1 ∧ m / 128 < 128 ^ (g + 1) ∧ (xs ++ [Pl.hb m]) ++ Pl.vb g (m / 128) = Pl.vb 8 n := by
  cases f with
  | zero => simp at hf; omega
  | succ g =>
    refine ⟨g, rfl, ?_, ?_⟩
    · rw [Nat.pow_succ] at hf; omega
    · rw [Pl.vb_more g m h] at he; simpa using he

set_option maxHeartbeats 400000 in
theorem l01Var_any (n : Nat) (w : World) (hn : n < 9223372036854775808) :
    Calls Tryd.prog 14 #[.int .i64 n] w fun e w' => e = .returned (.string ⟨(Pl.vb 8 n).toArray⟩) ∧ Below w.heap.size w w' := by
  go_enter Tryd.func14, Tryd.ntmps14
  go_wp2
  go_loopw [0, 3] (fun i v wr => ∃ (m f : Nat) (xs : List UInt8), i = .int .i64 m ∧ m < 9223372036854775808 ∧ Row w.heap.size wr v xs ∧ Below w.heap.size w wr ∧ Hid (m < 128 ^ (f + 1)) ∧ Hid (xs.length + f = 8) ∧ Hid (xs ++ Pl.vb f m = Pl.vb 8 n)) (fun i _ _ => (intOf i).toNat)
  case atStart => exact ⟨n, 8, [], rfl, hn, Row.made w #[] 0 (Nat.le_refl _) (by decide) rfl, (Below.refl _ _).alloc (Nat.le_refl _) _, hn, rfl, rfl⟩
  case round =>
    obtain ⟨m, f, xs, rfl, hm, hrow, hbel, H1, H2, H3⟩ := hrel
    have hsz := hbel.size
    have hxl : xs.length ≤ 8 := by have := H2.out; omega
    by_cases hlt : 127 < m
    · obtain ⟨g, hg, hq, hv⟩ := vb_round n f m xs H1.out H3.out hlt
      have HG : Hid (f = g + 1) := hg
      have HQ : Hid (m / 128 < 128 ^ (g + 1)) := hq
      have HV : Hid ((xs ++ [Pl.hb m]) ++ Pl.vb g (m / 128) = Pl.vb 8 n) := hv
      clear hg hq hv
      go_wp2_with (at_builtin; go_must (refine hrow.push rfl (.tmp 7) (.tmp 12) rfl rfl _ (Pl.hb m) ?hz rfl ?hl ?hb ?_))
      case hz => have := Pl.hb_nat m; omega
      case hl => omega
      case hb => omega
      · intro v' w1 hrow' hbel'
        go_wp2
        go_roundw
        case rel => exact ⟨m / 128, g, _, by go_num, by omega, hrow', hbel.trans hbel', HQ.out, by have h1 := H2.out; have h2 := HG.out; show _ = 8; simp; omega, HV.out⟩
        case measure => simp [intOf]; omega
    · go_wp2_with (at_builtin; go_must (refine hrow.push rfl (.tmp 16) (.tmp 19) rfl rfl _ (UInt8.ofNat m) ?hz2 rfl ?hl2 ?hb2 ?_))
      case hz2 => have := Pl.small m (by omega); omega
      case hl2 => omega
      case hb2 => omega
      · intro v' w1 hrow' hbel'
        have hst := hrow'.str
        go_wp2
        go_ret
        refine ⟨?_, hbel.trans hbel'⟩
        have h3 := H3.out
        rw [Pl.vb_last f m hlt] at h3
        rw [h3]
        rfl

theorem l01Var_int (z : Int) (w : World) (h0 : 0 ≤ z) (h1 : z < 9223372036854775808) :
    Calls Tryd.prog 14 #[.int .i64 z] w fun e w' => e = .returned (.string ⟨(Pl.vb 8 z.toNat).toArray⟩) ∧ Below w.heap.size w w' := by
  obtain ⟨n, rfl⟩ := Int.eq_ofNat_of_zero_le h0
  rw [Int.toNat_natCast]
  exact l01Var_any n w (by omega)

set_option maxHeartbeats 400000 in
theorem l01In_yes (x a b : Int) (w : World) (h1 : a ≤ x) (h2 : x ≤ b) :
    Calls Tryd.prog 28 #[.int .i64 x, .int .i64 a, .int .i64 b] w fun e w' => e = .returned (.bool true) ∧ w' = w := by
  have d2 : decide (x ≤ b) = true := by simpa using h2
  go_enter Tryd.func28, Tryd.ntmps28
  go_wp2
  go_ret
  exact ⟨rfl, rfl⟩
set_option maxHeartbeats 400000 in
theorem l01In_no (x a b : Int) (w : World) (h : x < a ∨ b < x) :
    Calls Tryd.prog 28 #[.int .i64 x, .int .i64 a, .int .i64 b] w fun e w' => e = .returned (.bool false) ∧ w' = w := by
  by_cases h1 : x < a
  · have d1 : decide (a ≤ x) = false := by simpa using h1
    clear h
    go_enter Tryd.func28, Tryd.ntmps28
    go_wp2
    go_ret
    exact ⟨rfl, rfl⟩
  · have h2 : b < x := by omega
    have d2 : decide (x ≤ b) = false := by simpa using h2
    clear h
    go_enter Tryd.func28, Tryd.ntmps28
    go_wp2
    go_ret
    exact ⟨rfl, rfl⟩

end Go.Proofs.YtdkenmpdgadcpaaDoor
