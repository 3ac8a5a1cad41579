/- What ReadDecimal answers, the program's and the specification's, at every text, and that the law on it answers true. -/
import Derived.Test.YtnckjnkbpdfjpamWVals
import Derived.Test.YtnckjnkbpdfjpamWDec
import Derived.Lib.Strings
namespace Go.Proofs.Ytnckjnkbpdfjpam
open Go.RowKit

def rdVal (s : ByteArray) : Option (List UInt8) → Value
  | none => .tuple #[.int .i64 0, .bool false]
  | some vs => if Pl.pvv vs ≤ 1000000000 ∧ Pl.decL (Pl.pvv vs : Int) = s.data.toList then .tuple #[.int .i64 (Pl.pvv vs : Int), .bool true] else .tuple #[.int .i64 0, .bool false]
/-- What ReadDecimal answers. -/
def rdRes (s : ByteArray) : Value := if s.size ≤ 10 then rdVal s (Pl.vals Pl.digits.data.toList [] s.data.toList) else .tuple #[.int .i64 0, .bool false]

theorem rd_no (s : ByteArray) (vs : List UInt8) (h : 1000000000 < Pl.pvv vs ∨ Pl.decL (Pl.pvv vs : Int) ≠ s.data.toList) : rdVal s (some vs) = .tuple #[.int .i64 0, .bool false] := by
  simp only [rdVal]
  rw [if_neg]
  rintro ⟨h1, h2⟩
  rcases h with h | h
  · omega
  · exact h h2
theorem rd_yes (s : ByteArray) (vs : List UInt8) (h1 : Pl.pvv vs ≤ 1000000000) (h2 : Pl.decL (Pl.pvv vs : Int) = s.data.toList) : rdVal s (some vs) = .tuple #[.int .i64 (Pl.pvv vs : Int), .bool true] := by
  simp only [rdVal]
  rw [if_pos ⟨h1, h2⟩]

theorem pow10_le (k : Nat) (h : k ≤ 10) : (10 : Nat) ^ k ≤ 10000000000 := by
  have : (10 : Nat) ^ k ≤ 10 ^ 10 := Nat.pow_le_pow_right (by omega) h
  simpa using this

set_option maxHeartbeats 800000 in
set_option maxRecDepth 100000 in
theorem specRd_any (s : ByteArray) (w : World) (hs : s.size ≤ 1048576) :
    Calls Try.prog 4 #[.string s] w fun e w' => e = .returned (rdRes s) ∧ Below w.heap.size w w' := by
  by_cases h10 : 10 < s.size
  · have hr : rdRes s = .tuple #[.int .i64 0, .bool false] := by unfold rdRes; rw [if_neg (by omega)]
    rw [hr]
    go_enter Try.func4, Try.ntmps4
    go_wp2
    go_ret2
    exact ⟨rfl, Below.refl _ _⟩
  have hr : rdRes s = rdVal s (Pl.vals Pl.digits.data.toList [] s.data.toList) := by unfold rdRes; rw [if_pos (by omega)]
  rw [hr]
  clear hr
  go_enter Try.func4, Try.ntmps4
  go_wp2
  go_loop [4, 5] (fun n i => ∃ (k m : Nat) (vs : List UInt8), i = .int .i64 (k : Int) ∧ n = .int .i64 (m : Int) ∧ k ≤ s.size ∧ m < 10000000000 ∧ Hid (m < 10 ^ k) ∧ Hid (m = Pl.pvv vs) ∧ Hid (Pl.vals Pl.digits.data.toList vs (s.data.toList.drop k) = Pl.vals Pl.digits.data.toList [] s.data.toList)) (fun _ i => s.size - (intOf i).toNat)
  case atStart => exact ⟨0, 0, [], rfl, rfl, by omega, by omega, (by show 0 < 10 ^ 0; decide), rfl, rfl⟩
  case round =>
    obtain ⟨k, m, vs, rfl, rfl, hk, hm, HM, HP, HV⟩ := hrel
    by_cases hlt : k < s.size
    · have h256 : s[k].toNat < 256 := s[k].toNat_lt
      by_cases hd : 48 ≤ s[k].toNat ∧ s[k].toNat ≤ 57
      · obtain ⟨hd1, hd2⟩ := hd
        have hg : decide ((57 : Int) < (s[k].toNat : Int)) = false := by simp; omega
        have hm9 : m < 1000000000 := by
          have h1 := HM.out
          have h2 : (10 : Nat) ^ k ≤ 10 ^ 9 := Nat.pow_le_pow_right (by omega) (by omega)
          simp at h2
          omega
        have HN : Hid (Pl.vals Pl.digits.data.toList (vs ++ [UInt8.ofNat (s[k].toNat - 48)]) (s.data.toList.drop (k + 1)) = Pl.vals Pl.digits.data.toList [] s.data.toList) := by
          show _ = _
          rw [← HV.out, Pl.drop_at s k hlt, Pl.vals_hit _ _ _ _ (s[k].toNat - 48) (by rw [Pl.fnd10, if_pos ⟨hd1, hd2⟩])]
        have HP2 : Hid (10 * m + (s[k].toNat - 48) = Pl.pvv (vs ++ [UInt8.ofNat (s[k].toNat - 48)])) := by
          show _ = _
          rw [Pl.pvv_snoc, ← HP.out, Pl.small _ (by omega)]
        have HM2 : Hid (10 * m + (s[k].toNat - 48) < 10 ^ (k + 1)) := by
          have := HM.out
          show _ < _
          rw [Nat.pow_succ]; omega
        go_wp2
        go_round
        case rel => exact ⟨k + 1, 10 * m + (s[k].toNat - 48), _, by go_num, by go_num, by omega, by omega, HM2.out, HP2.out, HN.out⟩
        case measure => simp [intOf]; omega
      · have HX : Hid (Pl.vals Pl.digits.data.toList [] s.data.toList = none) := by
          show _ = _
          rw [← HV.out, Pl.drop_at s k hlt, Pl.vals_miss _ _ _ _ (by rw [Pl.fnd10, if_neg hd])]
        by_cases hd1 : s[k].toNat < 48
        · clear hd
          go_wp2
          go_ret2
          exact ⟨by rw [HX.out]; rfl, Below.refl _ _⟩
        · have hg : decide ((57 : Int) < (s[k].toNat : Int)) = true := by simp; omega
          clear hd
          go_wp2
          go_ret2
          exact ⟨by rw [HX.out]; rfl, Below.refl _ _⟩
    · have HX : Hid (Pl.vals Pl.digits.data.toList [] s.data.toList = some vs) := by
        show _ = _
        rw [← HV.out, Pl.drop_out s k (by omega)]
        rfl
      by_cases hbig : 1000000000 < m
      · have hg : decide ((1000000000 : Int) < (m : Int)) = true := by simp; omega
        go_wp2
        go_ret2
        exact ⟨by rw [HX.out, rd_no s vs (.inl (by rw [← HP.out]; exact hbig))]; rfl, Below.refl _ _⟩
      · have hg : decide ((1000000000 : Int) < (m : Int)) = false := by simp; omega
        go_wp2_with (go_at_call 6; refine (specDecimal_any _ _ (by omega) (by omega)).mono ?_; rintro e w1 ⟨rfl, hb1⟩)
        · have hne : (!Pl.decL (m : Int) == s.toList) = true := by assumption
          go_ret2
          refine ⟨?_, hb1⟩
          rw [HX.out, rd_no s vs (.inr ?_)]
          · rfl
          · rw [← HP.out, ← Lib.toList_data]
            simpa using hne
        · have hne : (!Pl.decL (m : Int) == s.toList) = false := by assumption
          go_ret2
          refine ⟨?_, hb1⟩
          have e : Pl.decL (Pl.pvv vs : Int) = s.data.toList := by
            rw [← HP.out, ← Lib.toList_data]
            simpa using hne
          rw [HX.out, rd_yes s vs (by rw [← HP.out]; omega) e, ← HP.out]
          rfl

/-- A text of figures that is read: what its worths say of its first sign. -/
theorem rd_first (s : ByteArray) (vs : List UInt8) (h10 : s.size ≤ 10) (h : Pl.vals Pl.digits.data.toList [] s.data.toList = some vs) :
    (Pl.decL (Pl.pvv vs : Int) = s.data.toList ↔ vs ≠ [] ∧ ¬ (vs.head? = some 0 ∧ vs ≠ [0])) ∧ vs.length = s.size ∧ s.data.toList = Pl.txt vs ∧ (∀ v ∈ vs, v.toNat < 10) := by
  obtain ⟨ws, e1, e2, e3⟩ := Pl.vals10 _ _ _ h
  simp only [List.nil_append] at e1
  subst e1
  have hl : vs.length = s.size := by
    have := congrArg List.length e2
    simpa [Pl.txt] using this.symm
  refine ⟨?_, hl, e2, e3⟩
  rw [e2]
  exact Pl.dec_iff vs (by omega) e3
theorem ch_zero (v : UInt8) (h : v.toNat < 10) : Pl.ch v.toNat = 48 ↔ v = 0 := by
  constructor
  · intro e
    have h1 := congrArg UInt8.toNat e
    rw [Pl.ch_nat _ (by omega)] at h1
    exact UInt8.toNat_inj.1 (by simpa using h1)
  · rintro rfl; rfl
/-- Nought ahead, and not alone: no number. -/
theorem rd_lead (s : ByteArray) (h0 : 0 < s.size) (h10 : s.size ≤ 10) (h1 : s[0].toNat = 48) (h2 : s.data.toList ≠ [48]) : rdVal s (Pl.vals Pl.digits.data.toList [] s.data.toList) = .tuple #[.int .i64 0, .bool false] := by
  cases hv : Pl.vals Pl.digits.data.toList [] s.data.toList with
  | none => rfl
  | some vs =>
    obtain ⟨i1, i2, i3, i4⟩ := rd_first s vs h10 hv
    apply rd_no
    right
    rw [ne_eq, i1]
    rintro ⟨_, h⟩
    apply h
    cases vs with
    | nil => simp at i2; omega
    | cons v r =>
      have hs0 : s[0] = Pl.ch v.toNat := by
        have : s.data.toList[0]? = some (Pl.ch v.toNat) := by rw [i3]; simp [Pl.txt]
        rw [List.getElem?_eq_getElem (by simpa using h0)] at this
        exact Option.some.inj this
      have hv0 : v = 0 := (ch_zero v (i4 v (by simp))).1 (UInt8.toNat_inj.1 (by rw [← hs0, h1]; rfl))
      subst hv0
      refine ⟨by simp, ?_⟩
      intro e
      apply h2
      rw [i3, e]
      rfl
/-- No needless nought ahead: the number stands, if it is small enough. -/
theorem rd_plain (s : ByteArray) (h0 : 0 < s.size) (h10 : s.size ≤ 10) (h1 : s[0].toNat ≠ 48 ∨ s.data.toList = [48]) (vs : List UInt8) (hv : Pl.vals Pl.digits.data.toList [] s.data.toList = some vs) : Pl.decL (Pl.pvv vs : Int) = s.data.toList := by
  obtain ⟨i1, i2, i3, i4⟩ := rd_first s vs h10 hv
  rw [i1]
  cases vs with
  | nil => simp at i2; omega
  | cons v r =>
    refine ⟨by simp, ?_⟩
    rintro ⟨e, e2⟩
    have hv0 : v = 0 := by simpa using e
    have hs0 : s[0] = Pl.ch v.toNat := by
      have : s.data.toList[0]? = some (Pl.ch v.toNat) := by rw [i3]; simp [Pl.txt]
      rw [List.getElem?_eq_getElem (by simpa using h0)] at this
      exact Option.some.inj this
    rcases h1 with h1 | h1
    · apply h1; rw [hs0, hv0]; rfl
    · apply e2
      rw [h1] at i3
      have : r = [] := by simpa [Pl.txt] using (congrArg List.length i3).symm
      rw [this, hv0]
end Go.Proofs.Ytnckjnkbpdfjpam
