/- What the program's ReadDecimal answers, at every text. -/
import Derived.Test.YtnckjnkbpdfjpaaDoorIE
import Derived.Test.YtnckjnkbpdfjpaaDoorPlainF
import Derived.Lib.Strings
namespace Go.Proofs.YtnckjnkbpdfjpaaDoor
open Go.RowKit

def rdVal (s : ByteArray) : Option (List UInt8) → Value
  | none => .tuple #[.int .i64 0, .bool false]
  | some vs => if Pl.pvv vs ≤ 1000000000 ∧ Pl.decL (Pl.pvv vs : Int) = s.data.toList then .tuple #[.int .i64 (Pl.pvv vs : Int), .bool true] else .tuple #[.int .i64 0, .bool false]

/-- What ReadDecimal answers. -/
def rdRes (s : ByteArray) : Value := if s.size ≤ 10 then rdVal s (Pl.vals Pl.digits.data.toList [] s.data.toList) else .tuple #[.int .i64 0, .bool false]

theorem rd_no (s : ByteArray) (vs : List UInt8) (h : 1000000000 < Pl.pvv vs ∨ Pl.decL (Pl.pvv vs : Int) ≠ s.data.toList) : rdVal s (some vs) = .tuple #[.int .i64 0, .bool false] := by
  simp only [rdVal]
  rw [if_neg]
  rintro ⟨h1, h2⟩
  rcases h with h | h
  · omega
  · exact h h2

theorem rd_yes (s : ByteArray) (vs : List UInt8) (h1 : Pl.pvv vs ≤ 1000000000) (h2 : Pl.decL (Pl.pvv vs : Int) = s.data.toList) : rdVal s (some vs) = .tuple #[.int .i64 (Pl.pvv vs : Int), .bool true] := by
  simp only [rdVal]
  rw [if_pos ⟨h1, h2⟩]

theorem pow10_le (k : Nat) (h : k ≤ 10) : (10 : Nat) ^ k ≤ 10000000000 := by
  have : (10 : Nat) ^ k ≤ 10 ^ 10 := Nat.pow_le_pow_right (by omega) h
  simpa using this

/-- A text of figures that is read: what its worths say of its first sign. -/
theorem rd_first (s : ByteArray) (vs : List UInt8) (h10 : s.size ≤ 10) (h : Pl.vals Pl.digits.data.toList [] s.data.toList = some vs) :
    (Pl.decL (Pl.pvv vs : Int) = s.data.toList ↔ vs ≠ [] ∧ ¬ (vs.head? = some 0 ∧ vs ≠ [0])) ∧ vs.length = s.size ∧ s.data.toList = Pl.txt vs ∧ (∀ v ∈ vs, v.toNat < 10) := by
  obtain ⟨ws, e1, e2, e3⟩ := Pl.vals10 _ _ _ h
  simp only [List.nil_append] at e1
  subst e1
  have hl : vs.length = s.size := by
    have := congrArg List.length e2
    simpa [Pl.txt] using this.symm
  refine ⟨?_, hl, e2, e3⟩
  rw [e2]
  exact Pl.dec_iff vs (by omega) e3

theorem ch_zero (v : UInt8) (h : v.toNat < 10) : Pl.ch v.toNat = 48 ↔ v = 0 := by
  constructor
  · intro e
    have h1 := congrArg UInt8.toNat e
    rw [Pl.ch_nat _ (by omega)] at h1
    exact UInt8.toNat_inj.1 (by simpa using h1)
  · rintro rfl; rfl

/-- Nought ahead, and not alone: no number. -/
theorem rd_lead (s : ByteArray) (h0 : 0 < s.size) (h10 : s.size ≤ 10) (h1 : s[0].toNat = 48) (h2 : s.data.toList ≠ [48]) : rdVal s (Pl.vals Pl.digits.data.toList [] s.data.toList) = .tuple #[.int .i64 0, .bool false] := by
  cases hv : Pl.vals Pl.digits.data.toList [] s.data.toList with
  | none => rfl
  | some vs =>
    obtain ⟨i1, i2, i3, i4⟩ := rd_first s vs h10 hv
    apply rd_no
    right
    rw [ne_eq, i1]
    rintro ⟨_, h⟩
    apply h
    cases vs with
    | nil => simp at i2; omega
    | cons v r =>
      have hs0 : s[0] = Pl.ch v.toNat := by
        have : s.data.toList[0]? = some (Pl.ch v.toNat) := by rw [i3]; simp [Pl.txt]
        rw [List.getElem?_eq_getElem (by simpa using h0)] at this
        exact Option.some.inj this
      have hv0 : v = 0 := (ch_zero v (i4 v (by simp))).1 (UInt8.toNat_inj.1 (by rw [← hs0, h1]; rfl))
      subst hv0
      refine ⟨by simp, ?_⟩
      intro e
      apply h2
      rw [i3, e]
      rfl

/-- No needless nought ahead: the number stands, if it is small enough. -/
theorem rd_plain (s : ByteArray) (h0 : 0 < s.size) (h10 : s.size ≤ 10) (h1 : s[0].toNat ≠ 48 ∨ s.data.toList = [48]) (vs : List UInt8) (hv : Pl.vals Pl.digits.data.toList [] s.data.toList = some vs) : Pl.decL (Pl.pvv vs : Int) = s.data.toList := by
  obtain ⟨i1, i2, i3, i4⟩ := rd_first s vs h10 hv
  rw [i1]
  cases vs with
  | nil => simp at i2; omega
  | cons v r =>
    refine ⟨by simp, ?_⟩
    rintro ⟨e, e2⟩
    have hv0 : v = 0 := by simpa using e
    have hs0 : s[0] = Pl.ch v.toNat := by
      have : s.data.toList[0]? = some (Pl.ch v.toNat) := by rw [i3]; simp [Pl.txt]
      rw [List.getElem?_eq_getElem (by simpa using h0)] at this
      exact Option.some.inj this
    rcases h1 with h1 | h1
    · apply h1; rw [hs0, hv0]; rfl
    · apply e2
      rw [h1] at i3
      have : r = [] := by simpa [Pl.txt] using (congrArg List.length i3).symm
      rw [this, hv0]

theorem empty_of (s : ByteArray) : s.toList.isEmpty = (s.size == 0) := by
  rw [Lib.toList_data]
  cases h : s.data.toList with
  | nil =>
    have : s.size = 0 := by rw [Lib.size_eq, h]; rfl
    simp [this]
  | cons a r =>
    have : s.size ≠ 0 := by rw [Lib.size_eq, h]; simp
    simp [this]

theorem Row.place {B : Nat} {w : World} {v : Value} {bs : List UInt8} (h : Row B w v bs) (hne : bs ≠ []) : ∃ g cap, v = .slice (some ⟨g, 0, none⟩) bs.length cap ∧ ∀ j, j < bs.length → w.cell? ⟨g, j, none⟩ = some (.int .u8 ((bs.getD j 0).toNat : Int)) := by
  rcases h.2 with ⟨_, h0⟩ | ⟨g, cap, cur, rfl, hb, hg, _⟩
  · exact absurd (by simpa using h0) hne
  · refine ⟨g, cap, rfl, fun j hj => ?_⟩
    have := World.ownsRow.cellAt h j (by omega)
    rw [this]
    simp [hj, bv]

theorem pvv_take (vs : List UInt8) (k : Nat) (h : k < vs.length) : Pl.pvv (vs.take (k + 1)) = 10 * Pl.pvv (vs.take k) + (vs.getD k 0).toNat := by
  rw [List.take_succ_eq_append_getElem h, Pl.pvv_snoc]
  simp [h]

set_option maxHeartbeats 800000 in
set_option maxRecDepth 100000 in
theorem implRd_any (s : ByteArray) (w : World) (hs : s.size ≤ 1048576) :
    Calls Tryd.prog 8 #[.string s] w fun e w' => e = .returned (rdRes s) ∧ Below w.heap.size w w' := by
  by_cases h0 : s.size = 0
  · have hr : rdRes s = .tuple #[.int .i64 0, .bool false] := by
      unfold rdRes
      rw [if_pos (by omega)]
      have hl : s.data.toList = [] := by
        have := Lib.size_eq s
        rw [h0] at this
        exact List.eq_nil_of_length_eq_zero this.symm
      rw [hl]
      exact rd_no s [] (.inr (by rw [hl]; decide))
    rw [hr]
    clear hr
    have he : s.toList.isEmpty = true := by rw [empty_of]; simp [h0]
    clear h0
    go_enter Tryd.func8, Tryd.ntmps8
    go_wp2
    go_ret2
    exact ⟨rfl, Below.refl _ _⟩
  have he : s.toList.isEmpty = false := by rw [empty_of]; simpa using h0
  by_cases h10 : 10 < s.size
  · have hr : rdRes s = .tuple #[.int .i64 0, .bool false] := by unfold rdRes; rw [if_neg (by omega)]
    rw [hr]
    have d1 : decide ((10 : Int) < (s.size : Int)) = true := by simp; omega
    go_enter Tryd.func8, Tryd.ntmps8
    go_wp2
    go_ret2
    exact ⟨rfl, Below.refl _ _⟩
  have d1 : decide ((10 : Int) < (s.size : Int)) = false := by simp; omega
  have hr : rdRes s = rdVal s (Pl.vals Pl.digits.data.toList [] s.data.toList) := by unfold rdRes; rw [if_pos (by omega)]
  rw [hr]
  clear hr
  have hpos : 0 < s.size := by omega
  have h256 : s[0].toNat < 256 := s[0].toNat_lt
  clear h0
  by_cases hlead : s[0].toNat = 48 ∧ s.data.toList ≠ [48]
  · have HR : Hid _ := rd_lead s hpos (by omega) hlead.1 hlead.2
    have e1 : ((s[0].toNat : Int) == 48) = true := by rw [hlead.1]; rfl
    have e2 : (s.toList == [48]) = false := by rw [Lib.toList_data]; simpa using hlead.2
    clear hlead
    go_enter Tryd.func8, Tryd.ntmps8
    go_wp2
    go_ret2
    exact ⟨by rw [HR.out]; rfl, Below.refl _ _⟩
  have hpl : s[0].toNat ≠ 48 ∨ s.data.toList = [48] := by
    by_cases h : s[0].toNat = 48
    · right
      exact Classical.byContradiction fun hn => hlead ⟨h, hn⟩
    · exact .inl h
  have hfin := rd_plain s hpos (by omega) hpl
  have HF : Hid (∀ vs, Pl.vals Pl.digits.data.toList [] s.data.toList = some vs → Pl.decL (Pl.pvv vs : Int) = s.data.toList) := hfin
  have hc := fun w => valuesOf_any s Pl.digits w hs (by decide)
  have HC : Hid _ := hc
  clear hc hfin
  have e1 : (((s[0].toNat : Int) == 48) = false) ∨ (((s[0].toNat : Int) == 48) = true ∧ (s.toList == [48]) = true) := by
    by_cases h : s[0].toNat = 48
    · right
      refine ⟨by rw [h]; rfl, ?_⟩
      rw [Lib.toList_data]
      rcases hpl with hpl | hpl
      · exact absurd h hpl
      · simpa using hpl
    · left; simp; omega
  clear hlead hpl
  rcases e1 with e1 | ⟨e1, e2⟩
  all_goals
    go_enter Tryd.func8, Tryd.ntmps8
    go_wp2_with fail
    refine (HC.out _).mono ?_
    rintro e w1 ⟨hb1, ⟨vs, v, hvs, rfl, hrow⟩ | ⟨hno, rfl⟩⟩
    · have HV : Hid (Pl.vals Pl.digits.data.toList [] s.data.toList = some vs) := hvs
      have hfs := rd_first s vs (by omega) hvs
      have hvl : vs.length = s.size := hfs.2.1
      have HSM : Hid (∀ v ∈ vs, v.toNat < 10) := hfs.2.2.2
      have hne : vs ≠ [] := by intro h; rw [h] at hvl; simp at hvl; omega
      obtain ⟨g, cap, rfl, hcell⟩ := hrow.place hne
      have HVL : Hid (vs.length = s.size) := hvl
      rw [hvl] at hcell ⊢
      have HCL : Hid (∀ j, j < s.size → w1.cell? ⟨g, j, none⟩ = some (.int .u8 ((vs.getD j 0).toNat : Int))) := hcell
      clear hvs hfs hvl hne hrow hcell
      go_wp2
      go_loop [6, 34] (fun n i => ∃ (k m : Nat), i = .int .i64 (k : Int) ∧ n = .int .i64 (m : Int) ∧ k ≤ s.size ∧ m < 10000000000 ∧ Hid (m = Pl.pvv (vs.take k))) (fun _ i => s.size - (intOf i).toNat)
      case atStart => exact ⟨0, 0, rfl, rfl, by omega, by omega, rfl⟩
      case round =>
        obtain ⟨k, m, rfl, rfl, hk, hm, HP⟩ := hrel
        by_cases hlt : k < s.size
        · obtain ⟨d, hd⟩ : ∃ d, d = (vs.getD k 0).toNat := ⟨_, rfl⟩
          have hcell := HCL.out k hlt
          rw [← hd] at hcell
          have hd10 : d < 10 := by
            have hvl := HVL.out
            rw [hd, List.getD_eq_getElem?_getD, List.getElem?_eq_getElem (by omega)]
            exact HSM.out _ (List.getElem_mem _)
          have HD : Hid (m * 10 + d = Pl.pvv (vs.take (k + 1))) := by
            show _ = _
            rw [pvv_take vs k (by have := HVL.out; omega), ← HP.out, ← hd]; omega
          have hb : m * 10 + d < 10000000000 := by
            rw [HD.out]
            have h1 := Pl.pvv_lt (vs.take (k + 1)) (fun v hv => HSM.out v (List.mem_of_mem_take hv))
            have h2 := pow10_le (vs.take (k + 1)).length (by simp; omega)
            omega
          clear hd
          go_wp2
          go_round
          case rel => exact ⟨k + 1, m * 10 + d, by go_num, by go_num, by omega, by omega, HD.out⟩
          case measure => simp [intOf]; omega
        · have HP2 : Hid (m = Pl.pvv vs) := by
            have := HP.out
            rwa [List.take_of_length_le (by have := HVL.out; omega)] at this
          by_cases hbig : 1000000000 < m
          · go_wp2
            go_ret2
            exact ⟨by rw [HV.out, rd_no s vs (.inl (by rw [← HP2.out]; exact hbig))]; rfl, hb1⟩
          · go_wp2
            go_ret2
            exact ⟨by rw [HV.out, rd_yes s vs (by rw [← HP2.out]; omega) (HF.out vs HV.out), ← HP2.out]; rfl, hb1⟩
    · have HN : Hid (Pl.vals Pl.digits.data.toList [] s.data.toList = none) := hno
      clear hno
      go_wp2
      go_ret2
      exact ⟨by rw [HN.out]; rfl, hb1⟩

end Go.Proofs.YtnckjnkbpdfjpaaDoor
