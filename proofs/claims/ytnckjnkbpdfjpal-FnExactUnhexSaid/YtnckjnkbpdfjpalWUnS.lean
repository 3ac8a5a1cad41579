/- What the specification's Unhex answers, at every text. -/
import Derived.Test.YtnckjnkbpdfjpalWVals
import Derived.Test.YtnckjnkbpdfjpalPlainE
namespace Go.Proofs.Ytnckjnkbpdfjpal
open Go.RowKit

set_option maxHeartbeats 400000 in
theorem l01Value_any (n : Nat) (w : World) (hn : n < 256) :
    Calls Try.prog 25 #[.int .u8 (n : Int)] w fun e w' => e = .returned (.int .i64 (Pl.valI n)) ∧ w' = w := by
  by_cases h1 : 48 ≤ n ∧ n ≤ 57
  · have hv : Pl.valI n = (n : Int) - 48 := by unfold Pl.valI; rw [if_pos h1]
    rw [hv]
    clear hv
    obtain ⟨h1, h2⟩ := h1
    have d2 : decide ((n : Int) ≤ 57) = true := by simp; omega
    go_enter Try.func25, Try.ntmps25
    go_wp2
    go_ret
    exact ⟨rfl, rfl⟩
  · by_cases h2 : 97 ≤ n ∧ n ≤ 102
    · have hv : Pl.valI n = (n : Int) - 97 + 10 := by unfold Pl.valI; rw [if_neg h1, if_pos h2]
      rw [hv]
      clear hv h1
      obtain ⟨h2, h3⟩ := h2
      have d2 : decide ((n : Int) ≤ 57) = false := by simp; omega
      have d3 : decide ((n : Int) ≤ 102) = true := by simp; omega
      go_enter Try.func25, Try.ntmps25
      go_wp2
      go_ret
      exact ⟨rfl, rfl⟩
    · have hv : Pl.valI n = -1 := by unfold Pl.valI; rw [if_neg h1, if_neg h2]
      rw [hv]
      clear hv
      by_cases h3 : n < 48
      · clear h1 h2
        go_enter Try.func25, Try.ntmps25
        go_wp2
        go_ret
        exact ⟨rfl, rfl⟩
      · have h4 : 57 < n := by omega
        clear h1
        have d2 : decide ((n : Int) ≤ 57) = false := by simp; omega
        by_cases h5 : n < 97
        · clear h2
          go_enter Try.func25, Try.ntmps25
          go_wp2
          go_ret
          exact ⟨rfl, rfl⟩
        · have h6 : 102 < n := by omega
          clear h2
          have d3 : decide ((n : Int) ≤ 102) = false := by simp; omega
          go_enter Try.func25, Try.ntmps25
          go_wp2
          go_ret
          exact ⟨rfl, rfl⟩

def unVal : Option (List UInt8) → Value
  | some vs => .tuple #[.string ⟨(Pl.prs vs).toArray⟩, .bool true]
  | none => .tuple #[.string ⟨#[]⟩, .bool false]
/-- What Unhex answers. -/
def unRes (s : ByteArray) : Value := if s.size ≤ 40000 ∧ s.size % 2 = 0 then unVal (Pl.vals Pl.figures.data.toList [] s.data.toList) else .tuple #[.string ⟨#[]⟩, .bool false]

set_option maxHeartbeats 800000 in
set_option maxRecDepth 100000 in
theorem specUnhex_any (s : ByteArray) (w : World) (hs : s.size ≤ 1048576) :
    Calls Try.prog 19 #[.string s] w fun e w' => e = .returned (unRes s) ∧ Below w.heap.size w w' := by
  by_cases h1 : 40000 < s.size
  · have hr : unRes s = .tuple #[.string ⟨#[]⟩, .bool false] := by unfold unRes; rw [if_neg (by omega)]
    rw [hr]
    have d1 : decide ((40000 : Int) < (s.size : Int)) = true := by simp; omega
    go_enter Try.func19, Try.ntmps19
    go_wp2
    go_ret2
    exact ⟨rfl, Below.refl _ _⟩
  have d1 : decide ((40000 : Int) < (s.size : Int)) = false := by simp; omega
  by_cases h2 : s.size % 2 = 0
  · have hr : unRes s = unVal (Pl.vals Pl.figures.data.toList [] s.data.toList) := by unfold unRes; rw [if_pos (by omega)]
    rw [hr]
    clear hr
    obtain ⟨n, hn⟩ : ∃ n, s.size = 2 * n := ⟨s.size / 2, by omega⟩
    have hn2 : 2 * n = s.size := hn.symm
    have d2 : ((s.size : Int) % 2 != 0) = false := by simp; omega
    clear hn
    go_enter Try.func19, Try.ntmps19
    go_wp2
    go_loopw [4, 5] (fun v i wr => ∃ (k j : Nat) (vs : List UInt8), i = .int .i64 k ∧ k ≤ s.size ∧ 2 * j = k ∧ Row w.heap.size wr v (Pl.prs vs) ∧ Below w.heap.size w wr ∧ Hid (vs.length = 2 * j) ∧ Hid (Pl.vals Pl.figures.data.toList vs (s.data.toList.drop k) = Pl.vals Pl.figures.data.toList [] s.data.toList)) (fun _ i _ => s.size - (intOf i).toNat)
    case atStart => exact ⟨0, 0, [], rfl, by omega, rfl, Row.made w #[] 0 (Nat.le_refl _) (by decide) rfl, (Below.refl _ _).alloc (Nat.le_refl _) _, rfl, rfl⟩
    case round =>
      obtain ⟨k, j, vs, rfl, hk, hj, hrow, hbel, HL, HV⟩ := hrel
      have hsz := hbel.size
      have hll : (Pl.prs vs).length ≤ 20000 := by rw [Pl.prs_len vs j HL.out]; omega
      by_cases hlt : k < s.size
      · have hlt2 : k + 1 < s.size := by omega
        have h256 : s[k].toNat < 256 := s[k].toNat_lt
        have g256 : s[k + 1].toNat < 256 := s[k + 1].toNat_lt
        obtain ⟨b1, b2⟩ := Pl.valI_lt s[k].toNat
        obtain ⟨b3, b4⟩ := Pl.valI_lt s[k + 1].toNat
        by_cases hh : Pl.valI s[k].toNat < 0
        · have HM : Hid (Pl.vals Pl.figures.data.toList [] s.data.toList = none) := by
            show _ = _
            rw [← HV.out, Pl.drop_at s k hlt, Pl.vals_miss _ _ _ _ (by rw [Pl.fnd_val, if_neg (by omega)])]
          go_wp2_with (go_at_call 25; refine (l01Value_any _ _ (by first | exact h256 | exact g256)).mono ?_; rintro e w' ⟨rfl, rfl⟩)
          go_ret2
          exact ⟨by rw [HM.out]; rfl, hbel⟩
        · by_cases hl : Pl.valI s[k + 1].toNat < 0
          · have HM : Hid (Pl.vals Pl.figures.data.toList [] s.data.toList = none) := by
              show _ = _
              rw [← HV.out, Pl.drop_at s k hlt, Pl.vals_hit _ _ _ _ (Pl.valI s[k].toNat).toNat (by rw [Pl.fnd_val, if_pos (by omega)]), Pl.drop_at s (k + 1) hlt2, Pl.vals_miss _ _ _ _ (by rw [Pl.fnd_val, if_neg (by omega)])]
            have dl : decide (Pl.valI s[k + 1].toNat < 0) = true := by simpa using hl
            go_wp2_with (go_at_call 25; refine (l01Value_any _ _ (by first | exact h256 | exact g256)).mono ?_; rintro e w' ⟨rfl, rfl⟩)
            go_ret2
            exact ⟨by rw [HM.out]; rfl, hbel⟩
          · obtain ⟨p, hp⟩ := Int.eq_ofNat_of_zero_le (by omega : 0 ≤ Pl.valI s[k].toNat)
            obtain ⟨q, hq⟩ := Int.eq_ofNat_of_zero_le (by omega : 0 ≤ Pl.valI s[k + 1].toNat)
            have HN : Hid (Pl.vals Pl.figures.data.toList (vs ++ [UInt8.ofNat p, UInt8.ofNat q]) (s.data.toList.drop (k + 2)) = Pl.vals Pl.figures.data.toList [] s.data.toList) := by
              show _ = _
              rw [← HV.out, Pl.drop_at s k hlt, Pl.vals_hit _ _ _ _ p (by rw [Pl.fnd_val, if_pos (by omega), hp]; rfl), Pl.drop_at s (k + 1) hlt2, Pl.vals_hit _ _ _ _ q (by rw [Pl.fnd_val, if_pos (by omega), hq]; rfl)]
              simp
            have HP : Hid (Pl.prs (vs ++ [UInt8.ofNat p, UInt8.ofNat q]) = Pl.prs vs ++ [Pl.pb p q]) := by
              show _ = _
              rw [Pl.prs_snoc vs j HL.out, Pl.small p (by omega), Pl.small q (by omega)]
            have HP1 : Hid (Pl.valI s[k].toNat = (p : Int)) := hp
            have HQ1 : Hid (Pl.valI s[k + 1].toNat = (q : Int)) := hq
            clear hp hq
            have dl : decide (Pl.valI s[k + 1].toNat < 0) = false := by simpa using hl
            go_wp2_with (first | (go_at_call 25; refine (l01Value_any _ _ (by first | exact h256 | exact g256)).mono ?_; rintro e w' ⟨rfl, rfl⟩) | (at_builtin; go_must (refine hrow.push rfl (.tmp 39) (.tmp 45) rfl rfl _ (Pl.pb p q) ?hz rfl ?hl ?hb ?_)))
            case hz => have e1 := HP1.out; have e2 := HQ1.out; have := Pl.pb_nat p q (by omega); omega
            case hl => omega
            case hb => omega
            · intro v' w1 hrow' hbel'
              rw [← HP.out] at hrow'
              go_wp2
              go_roundw
              case rel => exact ⟨k + 2, j + 1, _, by go_num, by omega, by omega, hrow', hbel.trans hbel', by have := HL.out; show _ = _; simp; omega, HN.out⟩
              case measure => simp [intOf]; omega
      · have HS : Hid (Pl.vals Pl.figures.data.toList [] s.data.toList = some vs) := by
          show _ = _
          rw [← HV.out, Pl.drop_out s k (by omega)]
          rfl
        have hst := hrow.str
        go_wp2
        go_ret2
        exact ⟨by rw [HS.out]; rfl, hbel⟩
  · have hr : unRes s = .tuple #[.string ⟨#[]⟩, .bool false] := by unfold unRes; rw [if_neg (by omega)]
    rw [hr]
    have d2 : ((s.size : Int) % 2 != 0) = true := by simp; omega
    go_enter Try.func19, Try.ntmps19
    go_wp2
    go_ret2
    exact ⟨rfl, Below.refl _ _⟩
end Go.Proofs.Ytnckjnkbpdfjpal
