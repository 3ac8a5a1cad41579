/- What the program's ReadDecimal answers, at every text, and that the law on it answers true. -/
import Derived.Test.YtnckjnkbpdfjpamWRd
namespace Go.Proofs.Ytnckjnkbpdfjpam
open Go.RowKit

theorem empty_of (s : ByteArray) : s.toList.isEmpty = (s.size == 0) := by
  rw [Lib.toList_data]
  cases h : s.data.toList with
  | nil =>
    have : s.size = 0 := by rw [Lib.size_eq, h]; rfl
    simp [this]
  | cons a r =>
    have : s.size ≠ 0 := by rw [Lib.size_eq, h]; simp
    simp [this]

theorem Row.place {B : Nat} {w : World} {v : Value} {bs : List UInt8} (h : Row B w v bs) (hne : bs ≠ []) : ∃ g cap, v = .slice (some ⟨g, 0, none⟩) bs.length cap ∧ ∀ j, j < bs.length → w.cell? ⟨g, j, none⟩ = some (.int .u8 ((bs.getD j 0).toNat : Int)) := by
  rcases h.2 with ⟨_, h0⟩ | ⟨g, cap, cur, rfl, hb, hg, _⟩
  · exact absurd (by simpa using h0) hne
  · refine ⟨g, cap, rfl, fun j hj => ?_⟩
    have := World.ownsRow.cellAt h j (by omega)
    rw [this]
    simp [hj, bv]

theorem pvv_take (vs : List UInt8) (k : Nat) (h : k < vs.length) : Pl.pvv (vs.take (k + 1)) = 10 * Pl.pvv (vs.take k) + (vs.getD k 0).toNat := by
  rw [List.take_succ_eq_append_getElem h, Pl.pvv_snoc]
  simp [h]

set_option maxHeartbeats 800000 in
set_option maxRecDepth 100000 in
theorem implRd_any (s : ByteArray) (w : World) (hs : s.size ≤ 1048576) :
    Calls Try.prog 5 #[.string s] w fun e w' => e = .returned (rdRes s) ∧ Below w.heap.size w w' := by
  by_cases h0 : s.size = 0
  · have hr : rdRes s = .tuple #[.int .i64 0, .bool false] := by
      unfold rdRes
      rw [if_pos (by omega)]
      have hl : s.data.toList = [] := by
        have := Lib.size_eq s
        rw [h0] at this
        exact List.eq_nil_of_length_eq_zero this.symm
      rw [hl]
      exact rd_no s [] (.inr (by rw [hl]; decide))
    rw [hr]
    clear hr
    have he : s.toList.isEmpty = true := by rw [empty_of]; simp [h0]
    clear h0
    go_enter Try.func5, Try.ntmps5
    go_wp2
    go_ret2
    exact ⟨rfl, Below.refl _ _⟩
  have he : s.toList.isEmpty = false := by rw [empty_of]; simpa using h0
  by_cases h10 : 10 < s.size
  · have hr : rdRes s = .tuple #[.int .i64 0, .bool false] := by unfold rdRes; rw [if_neg (by omega)]
    rw [hr]
    have d1 : decide ((10 : Int) < (s.size : Int)) = true := by simp; omega
    go_enter Try.func5, Try.ntmps5
    go_wp2
    go_ret2
    exact ⟨rfl, Below.refl _ _⟩
  have d1 : decide ((10 : Int) < (s.size : Int)) = false := by simp; omega
  have hr : rdRes s = rdVal s (Pl.vals Pl.digits.data.toList [] s.data.toList) := by unfold rdRes; rw [if_pos (by omega)]
  rw [hr]
  clear hr
  have hpos : 0 < s.size := by omega
  have h256 : s[0].toNat < 256 := s[0].toNat_lt
  clear h0
  by_cases hlead : s[0].toNat = 48 ∧ s.data.toList ≠ [48]
  · have HR : Hid _ := rd_lead s hpos (by omega) hlead.1 hlead.2
    have e1 : ((s[0].toNat : Int) == 48) = true := by rw [hlead.1]; rfl
    have e2 : (s.toList == [48]) = false := by rw [Lib.toList_data]; simpa using hlead.2
    clear hlead
    go_enter Try.func5, Try.ntmps5
    go_wp2
    go_ret2
    exact ⟨by rw [HR.out]; rfl, Below.refl _ _⟩
  have hpl : s[0].toNat ≠ 48 ∨ s.data.toList = [48] := by
    by_cases h : s[0].toNat = 48
    · right
      exact Classical.byContradiction fun hn => hlead ⟨h, hn⟩
    · exact .inl h
  have hfin := rd_plain s hpos (by omega) hpl
  have HF : Hid (∀ vs, Pl.vals Pl.digits.data.toList [] s.data.toList = some vs → Pl.decL (Pl.pvv vs : Int) = s.data.toList) := hfin
  have hc := fun w => valuesOf_any s Pl.digits w hs (by decide)
  have HC : Hid _ := hc
  clear hc hfin
  have e1 : (((s[0].toNat : Int) == 48) = false) ∨ (((s[0].toNat : Int) == 48) = true ∧ (s.toList == [48]) = true) := by
    by_cases h : s[0].toNat = 48
    · right
      refine ⟨by rw [h]; rfl, ?_⟩
      rw [Lib.toList_data]
      rcases hpl with hpl | hpl
      · exact absurd h hpl
      · simpa using hpl
    · left; simp; omega
  clear hlead hpl
  rcases e1 with e1 | ⟨e1, e2⟩
  all_goals
    go_enter Try.func5, Try.ntmps5
    go_wp2_with fail
    refine (HC.out _).mono ?_
    rintro e w1 ⟨hb1, ⟨vs, v, hvs, rfl, hrow⟩ | ⟨hno, rfl⟩⟩
    · have HV : Hid (Pl.vals Pl.digits.data.toList [] s.data.toList = some vs) := hvs
      have hfs := rd_first s vs (by omega) hvs
      have hvl : vs.length = s.size := hfs.2.1
      have HSM : Hid (∀ v ∈ vs, v.toNat < 10) := hfs.2.2.2
      have hne : vs ≠ [] := by intro h; rw [h] at hvl; simp at hvl; omega
      obtain ⟨g, cap, rfl, hcell⟩ := hrow.place hne
      have HVL : Hid (vs.length = s.size) := hvl
      rw [hvl] at hcell ⊢
      have HCL : Hid (∀ j, j < s.size → w1.cell? ⟨g, j, none⟩ = some (.int .u8 ((vs.getD j 0).toNat : Int))) := hcell
      clear hvs hfs hvl hne hrow hcell
      go_wp2
      go_loop [6, 34] (fun n i => ∃ (k m : Nat), i = .int .i64 (k : Int) ∧ n = .int .i64 (m : Int) ∧ k ≤ s.size ∧ m < 10000000000 ∧ Hid (m = Pl.pvv (vs.take k))) (fun _ i => s.size - (intOf i).toNat)
      case atStart => exact ⟨0, 0, rfl, rfl, by omega, by omega, rfl⟩
      case round =>
        obtain ⟨k, m, rfl, rfl, hk, hm, HP⟩ := hrel
        by_cases hlt : k < s.size
        · obtain ⟨d, hd⟩ : ∃ d, d = (vs.getD k 0).toNat := ⟨_, rfl⟩
          have hcell := HCL.out k hlt
          rw [← hd] at hcell
          have hd10 : d < 10 := by
            have hvl := HVL.out
            rw [hd, List.getD_eq_getElem?_getD, List.getElem?_eq_getElem (by omega)]
            exact HSM.out _ (List.getElem_mem _)
          have HD : Hid (m * 10 + d = Pl.pvv (vs.take (k + 1))) := by
            show _ = _
            rw [pvv_take vs k (by have := HVL.out; omega), ← HP.out, ← hd]; omega
          have hb : m * 10 + d < 10000000000 := by
            rw [HD.out]
            have h1 := Pl.pvv_lt (vs.take (k + 1)) (fun v hv => HSM.out v (List.mem_of_mem_take hv))
            have h2 := pow10_le (vs.take (k + 1)).length (by simp; omega)
            omega
          clear hd
          go_wp2
          go_round
          case rel => exact ⟨k + 1, m * 10 + d, by go_num, by go_num, by omega, by omega, HD.out⟩
          case measure => simp [intOf]; omega
        · have HP2 : Hid (m = Pl.pvv vs) := by
            have := HP.out
            rwa [List.take_of_length_le (by have := HVL.out; omega)] at this
          by_cases hbig : 1000000000 < m
          · go_wp2
            go_ret2
            exact ⟨by rw [HV.out, rd_no s vs (.inl (by rw [← HP2.out]; exact hbig))]; rfl, hb1⟩
          · go_wp2
            go_ret2
            exact ⟨by rw [HV.out, rd_yes s vs (by rw [← HP2.out]; omega) (HF.out vs HV.out), ← HP2.out]; rfl, hb1⟩
    · have HN : Hid (Pl.vals Pl.digits.data.toList [] s.data.toList = none) := hno
      clear hno
      go_wp2
      go_ret2
      exact ⟨by rw [HN.out]; rfl, hb1⟩

set_option maxHeartbeats 400000 in
theorem lawReadDecimal (s : ByteArray) (w : World) (_hs : s.size ≤ maxLen) :
    Calls Try.prog 3 #[.string s] w fun e w' => e = .returned (.bool true) ∧ Below w.heap.size w w' := by
  by_cases hbig : (1048576 : Int) < (s.size : Int)
  · go_enter Try.func3, Try.ntmps3
    go_wp2
    go_ret
    exact ⟨rfl, Below.refl _ _⟩
  have hsm : s.size ≤ 1048576 := by omega
  clear hbig
  have hv : ∃ n b, rdRes s = .tuple #[.int .i64 n, .bool b] := by
    unfold rdRes
    split
    · cases Pl.vals Pl.digits.data.toList [] s.data.toList with
      | none => exact ⟨_, _, rfl⟩
      | some vs =>
        simp only [rdVal]
        split <;> exact ⟨_, _, rfl⟩
    · exact ⟨_, _, rfl⟩
  obtain ⟨n, b, hv⟩ := hv
  have c1 := fun w => specRd_any s w hsm
  have c2 := fun w => implRd_any s w hsm
  rw [hv] at c1 c2
  have C1 := (show Hid _ from c1)
  have C2 := (show Hid _ from c2)
  clear c1 c2 hv
  go_enter Try.func3, Try.ntmps3
  go_wp2_with (first | (go_at_call 4; refine (C1.out _).mono ?_; rintro e w1 ⟨rfl, hb1⟩) | (go_at_call 5; refine (C2.out _).mono ?_; rintro e w2 ⟨rfl, hb2⟩))
  go_ret
  exact ⟨rfl, hb1.trans (hb2.mono hb1.size)⟩
end Go.Proofs.Ytnckjnkbpdfjpam
