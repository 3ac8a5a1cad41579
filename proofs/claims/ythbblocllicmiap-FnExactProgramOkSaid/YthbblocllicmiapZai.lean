/- The specification of Tokens: letters, figures, what stands between two marks. The specification of ProgramOk: names, plain texts. -/
import Derived.Test.YthbblocllicmiapZab
import Derived.Test.YthbblocllicmiapZah
import Derived.Test.YthbblocllicmiapZac
namespace Go.Proofs.Ythbblocllicmiap
section PartTkA
open Go.RowKit

set_option maxHeartbeats 1000000 in
theorem spLetter (c : UInt8) (w : World) : Calls Try.prog 38 #[.int .u8 (c.toNat : Int)] w fun e w' => e = .returned (.bool (Tk.letter c)) ∧ w' = w := by
  obtain ⟨z, hz⟩ : ∃ z, z = c.toNat := ⟨_, rfl⟩
  have h256 : c.toNat < 256 := c.toNat_lt
  rw [← hz] at h256
  have HL : Hid (Tk.letter c = ((decide (97 ≤ z) && decide (z ≤ 122)) || (decide (65 ≤ z) && decide (z ≤ 90)))) := by rw [hz]; rfl
  rw [← hz]
  clear hz
  rcases (show z < 65 ∨ (65 ≤ z ∧ z ≤ 90) ∨ (90 < z ∧ z < 97) ∨ (97 ≤ z ∧ z ≤ 122) ∨ 122 < z by omega) with h | h | h | h | h
  · have e : Tk.letter c = false := by rw [HL.out]; simp; omega
    rw [e]; clear e HL
    have d1 : decide ((97 : Int) ≤ (z : Int)) = false := by simp; omega
    have d2 : decide ((z : Int) ≤ 122) = true := by simp; omega
    have d3 : decide ((65 : Int) ≤ (z : Int)) = false := by simp; omega
    have d4 : decide ((z : Int) ≤ 90) = true := by simp; omega
    go_enter Try.func38, Try.ntmps38
    go_wp2
    go_ret
    exact ⟨rfl, rfl⟩
  · have e : Tk.letter c = true := by rw [HL.out]; simp; omega
    rw [e]; clear e HL
    have d1 : decide ((97 : Int) ≤ (z : Int)) = false := by simp; omega
    have d2 : decide ((z : Int) ≤ 122) = true := by simp; omega
    have d3 : decide ((65 : Int) ≤ (z : Int)) = true := by simp; omega
    have d4 : decide ((z : Int) ≤ 90) = true := by simp; omega
    go_enter Try.func38, Try.ntmps38
    go_wp2
    go_ret
    exact ⟨rfl, rfl⟩
  · have e : Tk.letter c = false := by rw [HL.out]; simp; omega
    rw [e]; clear e HL
    have d1 : decide ((97 : Int) ≤ (z : Int)) = false := by simp; omega
    have d2 : decide ((z : Int) ≤ 122) = true := by simp; omega
    have d3 : decide ((65 : Int) ≤ (z : Int)) = true := by simp; omega
    have d4 : decide ((z : Int) ≤ 90) = false := by simp; omega
    go_enter Try.func38, Try.ntmps38
    go_wp2
    go_ret
    exact ⟨rfl, rfl⟩
  · have e : Tk.letter c = true := by rw [HL.out]; simp; omega
    rw [e]; clear e HL
    have d1 : decide ((97 : Int) ≤ (z : Int)) = true := by simp; omega
    have d2 : decide ((z : Int) ≤ 122) = true := by simp; omega
    have d3 : decide ((65 : Int) ≤ (z : Int)) = true := by simp; omega
    have d4 : decide ((z : Int) ≤ 90) = false := by simp; omega
    go_enter Try.func38, Try.ntmps38
    go_wp2
    go_ret
    exact ⟨rfl, rfl⟩
  · have e : Tk.letter c = false := by rw [HL.out]; simp; omega
    rw [e]; clear e HL
    have d1 : decide ((97 : Int) ≤ (z : Int)) = true := by simp; omega
    have d2 : decide ((z : Int) ≤ 122) = false := by simp; omega
    have d3 : decide ((65 : Int) ≤ (z : Int)) = true := by simp; omega
    have d4 : decide ((z : Int) ≤ 90) = false := by simp; omega
    go_enter Try.func38, Try.ntmps38
    go_wp2
    go_ret
    exact ⟨rfl, rfl⟩

set_option maxHeartbeats 1000000 in
theorem spFigure (c : UInt8) (w : World) : Calls Try.prog 39 #[.int .u8 (c.toNat : Int)] w fun e w' => e = .returned (.bool (Tk.figure c)) ∧ w' = w := by
  obtain ⟨z, hz⟩ : ∃ z, z = c.toNat := ⟨_, rfl⟩
  have h256 : c.toNat < 256 := c.toNat_lt
  rw [← hz] at h256
  have HL : Hid (Tk.figure c = (decide (48 ≤ z) && decide (z ≤ 57))) := by rw [hz]; rfl
  rw [← hz]
  clear hz
  rcases (show z < 48 ∨ (48 ≤ z ∧ z ≤ 57) ∨ 57 < z by omega) with h | h | h
  · have e : Tk.figure c = false := by rw [HL.out]; simp; omega
    rw [e]; clear e HL
    have d1 : decide ((48 : Int) ≤ (z : Int)) = false := by simp; omega
    have d2 : decide ((z : Int) ≤ 57) = true := by simp; omega
    go_enter Try.func39, Try.ntmps39
    go_wp2
    go_ret
    exact ⟨rfl, rfl⟩
  · have e : Tk.figure c = true := by rw [HL.out]; simp; omega
    rw [e]; clear e HL
    have d1 : decide ((48 : Int) ≤ (z : Int)) = true := by simp; omega
    have d2 : decide ((z : Int) ≤ 57) = true := by simp; omega
    go_enter Try.func39, Try.ntmps39
    go_wp2
    go_ret
    exact ⟨rfl, rfl⟩
  · have e : Tk.figure c = false := by rw [HL.out]; simp; omega
    rw [e]; clear e HL
    have d1 : decide ((48 : Int) ≤ (z : Int)) = true := by simp; omega
    have d2 : decide ((z : Int) ≤ 57) = false := by simp; omega
    go_enter Try.func39, Try.ntmps39
    go_wp2
    go_ret
    exact ⟨rfl, rfl⟩

theorem lst_at (s : ByteArray) (j : Nat) (h : j < s.size) : s.data.toList[j]'(by simpa using h) = s[j] := rfl
theorem lst_some (s : ByteArray) (j : Nat) (h : j < s.size) : s.data.toList[j]? = some s[j] := by
  rw [List.getElem?_eq_getElem (by simpa using h)]
  rfl
theorem lst_none (s : ByteArray) (j : Nat) (h : s.size ≤ j) : s.data.toList[j]? = none := List.getElem?_eq_none (by simpa using h)
theorem lst_getD (s : ByteArray) (j : Nat) (h : j < s.size) : s.data.toList.getD j 0 = s[j] := by
  rw [List.getD_eq_getElem?_getD, lst_some s j h]
  rfl

set_option maxHeartbeats 2000000 in
set_option maxRecDepth 100000 in
theorem spText (s : ByteArray) (a : Nat) (m : UInt8) (most : Nat) (w : World) (ha : a < s.size) (hs : s.size ≤ 1048576) :
    Calls Try.prog 40 #[.string s, .int .i64 (a : Int), .int .u8 (m.toNat : Int), .int .i64 (most : Int)] w fun e w' => e = .returned (.int .i64 (Tk.textEnd s.data.toList a m most : Int)) ∧ Below w.heap.size w w' := by
  obtain ⟨R, hR⟩ : ∃ R, R = Tk.run (fun b => b != m && b != 10) s.data.toList (a + 1) := ⟨_, rfl⟩
  have hsl : s.data.toList.length = s.size := by simp
  obtain ⟨E, hE⟩ : ∃ E, E = Tk.textEnd s.data.toList a m most := ⟨_, rfl⟩
  have HE : Hid (E = if s.data.toList[R]? = some m ∧ R - a - 1 ≤ most then R else 0) := by rw [hE, hR]; rfl
  rw [← hE]
  have HSL : Hid (s.data.toList.length = s.size) := hsl
  have hm256 : m.toNat < 256 := m.toNat_lt
  have HR : Hid (Tk.run (fun b => b != m && b != 10) s.data.toList (a + 1) = R) := hR.symm
  clear hR hsl hE
  go_enter Try.func40, Try.ntmps40
  go_wp2
  go_loopw [9] (fun i wr => ∃ j : Nat, i = .int .i64 (j : Int) ∧ a + 1 ≤ j ∧ j ≤ s.size ∧ Hid (Below w.heap.size w wr) ∧ Hid (Tk.run (fun b => b != m && b != 10) s.data.toList j = R)) (fun i _ => s.size - (intOf i).toNat)
  case atStart => exact ⟨a + 1, by go_num, Nat.le_refl _, ha, Below.refl _ _, HR.out⟩
  case round =>
    obtain ⟨j, rfl, haj, hj, HB, HJ⟩ := hrel
    by_cases hlt : j < s.size
    · have h256 : s[j].toNat < 256 := s[j].toNat_lt
      have hi : (j : Int) < (s.size : Int) := by omega
      have d0 : decide ((j : Int) < (s.size : Int)) = true := decide_eq_true hi
      have d9 : ((j : Int) == (s.size : Int)) = false := beq_eq_false_iff_ne.2 (by omega)
      by_cases h1 : s[j] = m
      · have hRj : R = j := by
          rw [← HJ.out]
          refine Tk.run_stop (by rw [HSL.out]; exact hlt) ?_
          rw [lst_at s j hlt, h1]
          simp
        have d1 : ((s[j].toNat : Int) != (m.toNat : Int)) = false := by rw [h1]; simp
        by_cases h3 : j - a - 1 ≤ most
        · have hE : E = j := by rw [HE.out, hRj, lst_some s j hlt, h1, if_pos ⟨rfl, h3⟩]
          have d3 : decide ((most : Int) < (j : Int) - (a : Int) - 1) = false := decide_eq_false (by omega)
          subst hE
          clear HE HJ h1 HR hRj
          go_wp2
          go_ret
          exact ⟨rfl, HB.out⟩
        · have hE : E = 0 := by rw [HE.out, hRj, if_neg (fun k => h3 k.2)]
          have d3 : decide ((most : Int) < (j : Int) - (a : Int) - 1) = true := decide_eq_true (by omega)
          subst hE
          clear HE HJ h1 HR hRj
          go_wp2
          go_ret
          exact ⟨rfl, HB.out⟩
      · have d1 : ((s[j].toNat : Int) != (m.toNat : Int)) = true := by
          have : s[j].toNat ≠ m.toNat := fun e => h1 (UInt8.toNat_inj.1 e)
          simp
          omega
        by_cases h2 : s[j] = 10
        · have hRj : R = j := by
            rw [← HJ.out]
            refine Tk.run_stop (by rw [HSL.out]; exact hlt) ?_
            rw [lst_at s j hlt, h2]
            simp
          have d2 : ((s[j].toNat : Int) != 10) = false := by rw [h2]; rfl
          have hE : E = 0 := by rw [HE.out, hRj, lst_some s j hlt, if_neg (fun k => h1 (Option.some.inj k.1))]
          subst hE
          clear HE HJ h1 h2 HR hRj
          go_wp2
          go_ret
          exact ⟨rfl, HB.out⟩
        · have d2 : ((s[j].toNat : Int) != 10) = true := by
            have : s[j].toNat ≠ 10 := fun e => h2 (UInt8.toNat_inj.1 e)
            simp
            omega
          have HN : Hid (Tk.run (fun b => b != m && b != 10) s.data.toList (j + 1) = R) := by
            show _ = _
            rw [← HJ.out]
            refine (Tk.run_step (by rw [HSL.out]; exact hlt) ?_).symm
            rw [lst_at s j hlt]
            simp [h1, h2]
          clear HJ h1 h2 HE HR
          go_wp2
          go_roundw
          case rel => exact ⟨j + 1, by go_num, by omega, by omega, HB.out, HN.out⟩
          case measure => simp [intOf]; omega
    · obtain rfl : j = s.size := by omega
      have d0 : decide ((s.size : Int) < (s.size : Int)) = false := decide_eq_false (by omega)
      have hRj : R = s.size := by
        rw [← HJ.out]
        exact Tk.run_end _ (by rw [HSL.out]; omega)
      have hE : E = 0 := by rw [HE.out, hRj, lst_none s s.size (Nat.le_refl _), if_neg (fun k => by cases k.1)]
      subst hE
      clear HE HJ HR hRj
      go_wp2
      go_ret
      exact ⟨rfl, HB.out⟩
end PartTkA
section PartPgA
open Go.RowKit

set_option maxHeartbeats 400000 in
theorem sIn_any (x lo hi : Int) (w : World) : Calls Try.prog 27 #[.int .i64 x, .int .i64 lo, .int .i64 hi] w fun e w' => e = .returned (.bool (decide (lo ≤ x ∧ x ≤ hi))) ∧ w' = w := by
  by_cases h1 : lo ≤ x
  · by_cases h2 : x ≤ hi
    · have d1 : decide (lo ≤ x) = true := decide_eq_true h1
      have d2 : decide (x ≤ hi) = true := decide_eq_true h2
      have e : decide (lo ≤ x ∧ x ≤ hi) = true := decide_eq_true ⟨h1, h2⟩
      rw [e]; clear e h1 h2
      go_enter Try.func27, Try.ntmps27
      go_wp2
      go_ret
      exact ⟨rfl, rfl⟩
    · have d1 : decide (lo ≤ x) = true := decide_eq_true h1
      have d2 : decide (x ≤ hi) = false := decide_eq_false h2
      have e : decide (lo ≤ x ∧ x ≤ hi) = false := decide_eq_false (fun k => h2 k.2)
      rw [e]; clear e h1 h2
      go_enter Try.func27, Try.ntmps27
      go_wp2
      go_ret
      exact ⟨rfl, rfl⟩
  · have d1 : decide (lo ≤ x) = false := decide_eq_false h1
    have e : decide (lo ≤ x ∧ x ≤ hi) = false := decide_eq_false (fun k => h1 k.1)
    rw [e]; clear e h1
    go_enter Try.func27, Try.ntmps27
    go_wp2
    go_ret
    exact ⟨rfl, rfl⟩

theorem plain_no {s : ByteArray} {most : Nat} {m : UInt8} {j : Nat} (h : j < s.size) (hb : s[j] = m ∨ s[j] = 10) : Pg.plain s.data.toList most m = false := by
  have : s.data.toList.all (fun b => b != m && b != 10) = false := by
    rw [List.all_eq_false]
    refine ⟨s[j], ?_, ?_⟩
    · show s.data[j] ∈ s.data.toList
      simp
    · rcases hb with hb | hb <;> simp [hb]
  unfold Pg.plain
  rw [this]
  rfl
theorem plain_yes {s : ByteArray} {most : Nat} {m : UInt8} (h : ∀ j, ∀ h : j < s.size, s[j] ≠ m ∧ s[j] ≠ 10) : Pg.plain s.data.toList most m = decide (s.size ≤ most) := by
  have e : s.data.toList.all (fun b => b != m && b != 10) = true := by
    rw [List.all_eq_true]
    intro b hb
    obtain ⟨i, hi, rfl⟩ := List.mem_iff_getElem.1 hb
    have hi2 : i < s.size := by simpa using hi
    have := h i hi2
    rw [lst_at s i hi2]
    simp [this.1, this.2]
  unfold Pg.plain
  rw [e]
  simp

set_option maxHeartbeats 1000000 in
set_option maxRecDepth 100000 in
theorem spPlain (s : ByteArray) (most : Nat) (m : UInt8) (w : World) (hs : s.size ≤ 1048576) :
    Calls Try.prog 70 #[.string s, .int .i64 (most : Int), .int .u8 (m.toNat : Int)] w fun e w' => e = .returned (.bool (Pg.plain s.data.toList most m)) ∧ w' = w := by
  obtain ⟨V, hV⟩ : ∃ V, V = Pg.plain s.data.toList most m := ⟨_, rfl⟩
  rw [← hV]
  have HV : Hid (V = Pg.plain s.data.toList most m) := hV
  clear hV
  go_enter Try.func70, Try.ntmps70
  go_wp2
  go_loop [7] (fun i => ∃ j : Nat, i = .int .i64 (j : Int) ∧ j ≤ s.size ∧ Hid (∀ k, k < j → ∀ h : k < s.size, s[k] ≠ m ∧ s[k] ≠ 10)) (fun i => s.size - (intOf i).toNat)
  case atStart => exact ⟨0, rfl, by omega, fun k hk => by omega⟩
  case round =>
    obtain ⟨j, rfl, hj, HJ⟩ := hrel
    by_cases hlt : j < s.size
    · have hi : (j : Int) < (s.size : Int) := by omega
      have d0 : decide ((j : Int) < (s.size : Int)) = true := decide_eq_true hi
      by_cases h1 : s[j] = m
      · have d1 : ((s[j].toNat : Int) == (m.toNat : Int)) = true := by rw [h1]; simp
        have HF : Hid (V = false) := by show _ = _; rw [HV.out]; exact plain_no hlt (.inl h1)
        clear h1 HJ HV
        go_wp2
        go_ret
        exact ⟨by rw [HF.out]; rfl, rfl⟩
      · have d1 : ((s[j].toNat : Int) == (m.toNat : Int)) = false := beq_eq_false_iff_ne.2 (fun e => h1 (UInt8.toNat_inj.1 (by omega)))
        by_cases h2 : s[j] = 10
        · have d2 : ((s[j].toNat : Int) == 10) = true := by rw [h2]; rfl
          have HF : Hid (V = false) := by show _ = _; rw [HV.out]; exact plain_no hlt (.inr h2)
          clear h1 h2 HJ HV
          go_wp2
          go_ret
          exact ⟨by rw [HF.out]; rfl, rfl⟩
        · have d2 : ((s[j].toNat : Int) == 10) = false := beq_eq_false_iff_ne.2 (fun e => h2 (UInt8.toNat_inj.1 (by show _ = 10; omega)))
          have HN : Hid (∀ k, k < j + 1 → ∀ h : k < s.size, s[k] ≠ m ∧ s[k] ≠ 10) := by
            intro k hk h
            by_cases e : k = j
            · subst e; exact ⟨h1, h2⟩
            · exact HJ.out k (by omega) h
          clear h1 h2 HJ HV
          go_wp2
          go_round
          case rel => exact ⟨j + 1, by go_num, by omega, HN.out⟩
          case measure => simp [intOf]; omega
    · obtain rfl : j = s.size := by omega
      have d0 : decide ((s.size : Int) < (s.size : Int)) = false := decide_eq_false (by omega)
      have HF : Hid (V = decide (s.size ≤ most)) := by show _ = _; rw [HV.out]; exact plain_yes (fun k h => HJ.out k h h)
      clear HJ HV
      go_wp2
      go_ret
      refine ⟨?_, rfl⟩
      rw [HF.out]
      by_cases h : s.size ≤ most
      · have d : decide ((s.size : Int) ≤ (most : Int)) = true := decide_eq_true (by omega)
        simp [h]
      · simp [h]
end PartPgA
end Go.Proofs.Ythbblocllicmiap
