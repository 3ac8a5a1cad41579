/- What the specification's ReadVar answers, at every text and place. -/
import Derived.Test.YtdkenmpdgadcpaaDoorMPRmVrB
import Derived.Deep.RegionHeld3
namespace Go.Proofs.YtdkenmpdgadcpaaDoor
open Go.RowKit

set_option maxHeartbeats 800000 in
set_option maxRecDepth 100000 in
theorem specRv_any (s : ByteArray) (at_ : Int) (w : World) (hs : s.size ≤ 1048576) :
    Calls Tryd.prog 36 #[.string s, .int .i64 at_] w fun e w' => e = .returned (rvRes s at_) ∧ Below w.heap.size w w' := by
  by_cases h0 : at_ < 0 ∨ (s.size : Int) < at_
  · have hres : rvRes s at_ = .tuple #[.int .i64 0, .int .i64 0, .bool false] := by unfold rvRes; rw [if_neg (by omega)]; rfl
    rw [hres]
    clear hres
    go_enter Tryd.func36, Tryd.ntmps36
    go_wp2_with (go_at_call 28; refine (l01In_no _ _ _ _ (by omega)).mono ?_; rintro e w' ⟨rfl, rfl⟩)
    go_ret3
    exact ⟨rfl, Below.refl _ _⟩
  obtain ⟨a, rfl⟩ := Int.eq_ofNat_of_zero_le (by omega : 0 ≤ at_)
  have ha : a ≤ s.size := by omega
  have hres : rvRes s a = rvVal a (Pl.rvF 5 [] (s.data.toList.drop a)) := by unfold rvRes; rw [if_pos (by omega)]; rfl
  rw [hres]
  clear hres h0
  go_enter Tryd.func36, Tryd.ntmps36
  go_wp2_with (go_at_call 28; refine (l01In_yes _ _ _ _ (by omega) (by omega)).mono ?_; rintro e w' ⟨rfl, rfl⟩)
  go_loop [7, 8, 9] (fun nn sc i => ∃ (k m c : Nat) (pre : List UInt8), i = .int .i64 k ∧ nn = .int .i64 m ∧ sc = .int .i64 c ∧ a ≤ k ∧ k ≤ s.size ∧ k ≤ a + 5 ∧ Hid (RvAt s a k m c pre)) (fun _ _ i => s.size - (intOf i).toNat)
  case atStart => exact ⟨a, 0, 1, [], rfl, rfl, rfl, by omega, by omega, by omega, RvAt.start s a⟩
  case round =>
    obtain ⟨k, m, c, pre, rfl, rfl, rfl, hak, hks, hk5, H⟩ := hrel
    by_cases hlt : k < s.size
    · by_cases h5 : k < a + 5
      · obtain ⟨hm, hc⟩ := H.out.small h5
        have hmul := Pl.mul_bound (s[k].toNat % 128) c (by omega) hc
        have hq1 : ((s[k].toNat : Int) % 128) * (c : Int) ≤ 34359738368 := by rw [← Pl.mul_int]; omega
        have hq0 : 0 ≤ ((s[k].toNat : Int) % 128) * (c : Int) := by rw [← Pl.mul_int]; omega
        have h256 : s[k].toNat < 256 := s[k].toNat_lt
        clear hmul
        have hd5 : decide ((k : Int) < (a : Int) + 5) = true := by simp; omega
        by_cases hb : 128 ≤ s[k].toNat
        · have HN : Hid (RvAt s a (k + 1) (m + s[k].toNat % 128 * c) (c * 128) (pre ++ [s[k]])) := H.out.on hlt h5 hb
          go_wp2
          go_round
          case rel => exact ⟨k + 1, m + s[k].toNat % 128 * c, c * 128, _, by go_num, by rw [Int.natCast_add, Pl.mul_int], by go_num, by omega, by omega, by omega, HN.out⟩
          case measure => simp [intOf]; omega
        · by_cases hbig : 1000000000 < (m : Int) + (s[k].toNat : Int) % 128 * (c : Int)
          · go_wp2_with fail
            go_quiet (fail)
            go_wp2
            go_ret3
            exact ⟨by rw [H.out.no hlt h5 (by omega) (.inr hbig)]; rfl, below_drewN (Below.refl _ _) _⟩
          · have hbd : decide (1000000000 < (m : Int) + (s[k].toNat : Int) % 128 * (c : Int)) = false := by simp; omega
            go_wp2_with fail
            have hi1 : (a : Int) ≤ (k : Int) + 1 := by omega
            have hi2 : (k : Int) + 1 ≤ (s.size : Int) := by omega
            have hi3 : (0 : Int) ≤ (k : Int) + 1 := by omega
            have hwr : IntKind.i64.wrap ((k : Int) + 1) = (k : Int) + 1 := IntWalk.i64_in _ (by omega)
            have hsl : ∀ wx, (Instr.slice 9 (.string s) (some (.int .i64 (a : Int))) (some (.int .i64 ((k : Int) + 1))) none).run Tryd.prog wx = .ok (.string (s.extract a (k + 1))) wx := by
              intro wx
              rw [run_slice_string wx 9 s .i64 .i64 (a : Int) ((k : Int) + 1) Tryd.underlying9 (by omega) (by omega) (by omega)]
              rfl
            go_region_held3 (fun _ => True) (go_keep) ((go_at_call 14; refine (l01Var_int _ _ (by omega) (by omega)).mono ?_; rintro e w1 ⟨rfl, hb1⟩))
            go_wp2
            · have hne : (!Pl.vb 8 ((m : Int) + (s[k].toNat : Int) % 128 * (c : Int)).toNat == (s.extract a (k + 1)).toList) = true := by assumption
              have hz : s[k].toNat = 0 ∧ a < k := by
                refine Classical.byContradiction fun hn => ?_
                rw [(H.out.cmp hlt h5 (by omega)).2 hn] at hne
                cases hne
              go_ret3
              exact ⟨by rw [H.out.no hlt h5 (by omega) (.inl hz)]; rfl, (Below.refl _ _).drew.trans hb1⟩
            · have hne : (!Pl.vb 8 ((m : Int) + (s[k].toNat : Int) % 128 * (c : Int)).toNat == (s.extract a (k + 1)).toList) = false := by assumption
              have hz := (H.out.cmp hlt h5 (by omega)).1 (by simpa using hne)
              go_ret3
              exact ⟨by rw [H.out.yes hlt h5 (by omega) hz _ rfl (by omega)]; rfl, (Below.refl _ _).drew.trans hb1⟩
      · have hd5 : decide ((k : Int) < (a : Int) + 5) = false := by simp; omega
        go_wp2
        go_ret3
        exact ⟨by rw [H.out.out (by omega)]; rfl, Below.refl _ _⟩
    · go_wp2
      go_ret3
      exact ⟨by rw [H.out.out (by omega)]; rfl, Below.refl _ _⟩

end Go.Proofs.YtdkenmpdgadcpaaDoor
