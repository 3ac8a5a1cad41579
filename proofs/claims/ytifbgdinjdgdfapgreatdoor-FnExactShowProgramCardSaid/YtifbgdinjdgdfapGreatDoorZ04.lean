/- The specification of Tokens: letters, figures, what stands between two marks. The specification of ProgramOk: names, plain texts. The specification of ProgramOk: names. What is a number: the program's IsNum and the specification's, at every text. -/
import Derived.Test.YtifbgdinjdgdfapGreatDoorZ00
import Derived.Test.YtifbgdinjdgdfapGreatDoorZ03
import Derived.Test.YtifbgdinjdgdfapGreatDoorZ01
import Derived.Test.YtifbgdinjdgdfapGreatDoorProg
import Derived.WalkKit
import Derived.WalkSpells
import Derived.WalkLawsBesides
import Derived.Handy
import Derived.Lib.Strings
namespace Go.Proofs.YtifbgdinjdgdfapGreatDoor
section PartTkA
open Go.RowKit

set_option maxHeartbeats 1000000 in
theorem spLetter (c : UInt8) (w : World) : Calls Tryz.prog 75 #[.int .u8 (c.toNat : Int)] w fun e w' => e = .returned (.bool (Tk.letter c)) ∧ w' = w := by
  obtain ⟨z, hz⟩ : ∃ z, z = c.toNat := ⟨_, rfl⟩
  have h256 : c.toNat < 256 := c.toNat_lt
  rw [← hz] at h256
  have HL : Hid (Tk.letter c = ((decide (97 ≤ z) && decide (z ≤ 122)) || (decide (65 ≤ z) && decide (z ≤ 90)))) := by rw [hz]; rfl
  rw [← hz]
  clear hz
  rcases (show z < 65 ∨ (65 ≤ z ∧ z ≤ 90) ∨ (90 < z ∧ z < 97) ∨ (97 ≤ z ∧ z ≤ 122) ∨ 122 < z by omega) with h | h | h | h | h
  · have e : Tk.letter c = false := by rw [HL.out]; simp; omega
    rw [e]; clear e HL
    have d1 : decide ((97 : Int) ≤ (z : Int)) = false := by simp; omega
    have d2 : decide ((z : Int) ≤ 122) = true := by simp; omega
    have d3 : decide ((65 : Int) ≤ (z : Int)) = false := by simp; omega
    have d4 : decide ((z : Int) ≤ 90) = true := by simp; omega
    go_enter Tryz.func75, Tryz.ntmps75
    go_wp2
    go_ret
    exact ⟨rfl, rfl⟩
  · have e : Tk.letter c = true := by rw [HL.out]; simp; omega
    rw [e]; clear e HL
    have d1 : decide ((97 : Int) ≤ (z : Int)) = false := by simp; omega
    have d2 : decide ((z : Int) ≤ 122) = true := by simp; omega
    have d3 : decide ((65 : Int) ≤ (z : Int)) = true := by simp; omega
    have d4 : decide ((z : Int) ≤ 90) = true := by simp; omega
    go_enter Tryz.func75, Tryz.ntmps75
    go_wp2
    go_ret
    exact ⟨rfl, rfl⟩
  · have e : Tk.letter c = false := by rw [HL.out]; simp; omega
    rw [e]; clear e HL
    have d1 : decide ((97 : Int) ≤ (z : Int)) = false := by simp; omega
    have d2 : decide ((z : Int) ≤ 122) = true := by simp; omega
    have d3 : decide ((65 : Int) ≤ (z : Int)) = true := by simp; omega
    have d4 : decide ((z : Int) ≤ 90) = false := by simp; omega
    go_enter Tryz.func75, Tryz.ntmps75
    go_wp2
    go_ret
    exact ⟨rfl, rfl⟩
  · have e : Tk.letter c = true := by rw [HL.out]; simp; omega
    rw [e]; clear e HL
    have d1 : decide ((97 : Int) ≤ (z : Int)) = true := by simp; omega
    have d2 : decide ((z : Int) ≤ 122) = true := by simp; omega
    have d3 : decide ((65 : Int) ≤ (z : Int)) = true := by simp; omega
    have d4 : decide ((z : Int) ≤ 90) = false := by simp; omega
    go_enter Tryz.func75, Tryz.ntmps75
    go_wp2
    go_ret
    exact ⟨rfl, rfl⟩
  · have e : Tk.letter c = false := by rw [HL.out]; simp; omega
    rw [e]; clear e HL
    have d1 : decide ((97 : Int) ≤ (z : Int)) = true := by simp; omega
    have d2 : decide ((z : Int) ≤ 122) = false := by simp; omega
    have d3 : decide ((65 : Int) ≤ (z : Int)) = true := by simp; omega
    have d4 : decide ((z : Int) ≤ 90) = false := by simp; omega
    go_enter Tryz.func75, Tryz.ntmps75
    go_wp2
    go_ret
    exact ⟨rfl, rfl⟩

set_option maxHeartbeats 1000000 in
theorem spFigure (c : UInt8) (w : World) : Calls Tryz.prog 76 #[.int .u8 (c.toNat : Int)] w fun e w' => e = .returned (.bool (Tk.figure c)) ∧ w' = w := by
  obtain ⟨z, hz⟩ : ∃ z, z = c.toNat := ⟨_, rfl⟩
  have h256 : c.toNat < 256 := c.toNat_lt
  rw [← hz] at h256
  have HL : Hid (Tk.figure c = (decide (48 ≤ z) && decide (z ≤ 57))) := by rw [hz]; rfl
  rw [← hz]
  clear hz
  rcases (show z < 48 ∨ (48 ≤ z ∧ z ≤ 57) ∨ 57 < z by omega) with h | h | h
  · have e : Tk.figure c = false := by rw [HL.out]; simp; omega
    rw [e]; clear e HL
    have d1 : decide ((48 : Int) ≤ (z : Int)) = false := by simp; omega
    have d2 : decide ((z : Int) ≤ 57) = true := by simp; omega
    go_enter Tryz.func76, Tryz.ntmps76
    go_wp2
    go_ret
    exact ⟨rfl, rfl⟩
  · have e : Tk.figure c = true := by rw [HL.out]; simp; omega
    rw [e]; clear e HL
    have d1 : decide ((48 : Int) ≤ (z : Int)) = true := by simp; omega
    have d2 : decide ((z : Int) ≤ 57) = true := by simp; omega
    go_enter Tryz.func76, Tryz.ntmps76
    go_wp2
    go_ret
    exact ⟨rfl, rfl⟩
  · have e : Tk.figure c = false := by rw [HL.out]; simp; omega
    rw [e]; clear e HL
    have d1 : decide ((48 : Int) ≤ (z : Int)) = true := by simp; omega
    have d2 : decide ((z : Int) ≤ 57) = false := by simp; omega
    go_enter Tryz.func76, Tryz.ntmps76
    go_wp2
    go_ret
    exact ⟨rfl, rfl⟩

theorem lst_at (s : ByteArray) (j : Nat) (h : j < s.size) : s.data.toList[j]'(by simpa using h) = s[j] := rfl
theorem lst_some (s : ByteArray) (j : Nat) (h : j < s.size) : s.data.toList[j]? = some s[j] := by
  rw [List.getElem?_eq_getElem (by simpa using h)]
  rfl
theorem lst_none (s : ByteArray) (j : Nat) (h : s.size ≤ j) : s.data.toList[j]? = none := List.getElem?_eq_none (by simpa using h)
theorem lst_getD (s : ByteArray) (j : Nat) (h : j < s.size) : s.data.toList.getD j 0 = s[j] := by
  rw [List.getD_eq_getElem?_getD, lst_some s j h]
  rfl

set_option maxHeartbeats 2000000 in
set_option maxRecDepth 100000 in
theorem spText (s : ByteArray) (a : Nat) (m : UInt8) (most : Nat) (w : World) (ha : a < s.size) (hs : s.size ≤ 1048576) :
    Calls Tryz.prog 77 #[.string s, .int .i64 (a : Int), .int .u8 (m.toNat : Int), .int .i64 (most : Int)] w fun e w' => e = .returned (.int .i64 (Tk.textEnd s.data.toList a m most : Int)) ∧ Below w.heap.size w w' := by
  obtain ⟨R, hR⟩ : ∃ R, R = Tk.run (fun b => b != m && b != 10) s.data.toList (a + 1) := ⟨_, rfl⟩
  have hsl : s.data.toList.length = s.size := by simp
  obtain ⟨E, hE⟩ : ∃ E, E = Tk.textEnd s.data.toList a m most := ⟨_, rfl⟩
  have HE : Hid (E = if s.data.toList[R]? = some m ∧ R - a - 1 ≤ most then R else 0) := by rw [hE, hR]; rfl
  rw [← hE]
  have HSL : Hid (s.data.toList.length = s.size) := hsl
  have hm256 : m.toNat < 256 := m.toNat_lt
  have HR : Hid (Tk.run (fun b => b != m && b != 10) s.data.toList (a + 1) = R) := hR.symm
  clear hR hsl hE
  go_enter Tryz.func77, Tryz.ntmps77
  go_wp2
  go_loopw [9] (fun i wr => ∃ j : Nat, i = .int .i64 (j : Int) ∧ a + 1 ≤ j ∧ j ≤ s.size ∧ Hid (Below w.heap.size w wr) ∧ Hid (Tk.run (fun b => b != m && b != 10) s.data.toList j = R)) (fun i _ => s.size - (intOf i).toNat)
  case atStart => exact ⟨a + 1, by go_num, Nat.le_refl _, ha, Below.refl _ _, HR.out⟩
  case round =>
    obtain ⟨j, rfl, haj, hj, HB, HJ⟩ := hrel
    by_cases hlt : j < s.size
    · have h256 : s[j].toNat < 256 := s[j].toNat_lt
      have hi : (j : Int) < (s.size : Int) := by omega
      have d0 : decide ((j : Int) < (s.size : Int)) = true := decide_eq_true hi
      have d9 : ((j : Int) == (s.size : Int)) = false := beq_eq_false_iff_ne.2 (by omega)
      by_cases h1 : s[j] = m
      · have hRj : R = j := by
          rw [← HJ.out]
          refine Tk.run_stop (by rw [HSL.out]; exact hlt) ?_
          rw [lst_at s j hlt, h1]
          simp
        have d1 : ((s[j].toNat : Int) != (m.toNat : Int)) = false := by rw [h1]; simp
        by_cases h3 : j - a - 1 ≤ most
        · have hE : E = j := by rw [HE.out, hRj, lst_some s j hlt, h1, if_pos ⟨rfl, h3⟩]
          have d3 : decide ((most : Int) < (j : Int) - (a : Int) - 1) = false := decide_eq_false (by omega)
          subst hE
          clear HE HJ h1 HR hRj
          go_wp2
          go_ret
          exact ⟨rfl, HB.out⟩
        · have hE : E = 0 := by rw [HE.out, hRj, if_neg (fun k => h3 k.2)]
          have d3 : decide ((most : Int) < (j : Int) - (a : Int) - 1) = true := decide_eq_true (by omega)
          subst hE
          clear HE HJ h1 HR hRj
          go_wp2
          go_ret
          exact ⟨rfl, HB.out⟩
      · have d1 : ((s[j].toNat : Int) != (m.toNat : Int)) = true := by
          have : s[j].toNat ≠ m.toNat := fun e => h1 (UInt8.toNat_inj.1 e)
          simp
          omega
        by_cases h2 : s[j] = 10
        · have hRj : R = j := by
            rw [← HJ.out]
            refine Tk.run_stop (by rw [HSL.out]; exact hlt) ?_
            rw [lst_at s j hlt, h2]
            simp
          have d2 : ((s[j].toNat : Int) != 10) = false := by rw [h2]; rfl
          have hE : E = 0 := by rw [HE.out, hRj, lst_some s j hlt, if_neg (fun k => h1 (Option.some.inj k.1))]
          subst hE
          clear HE HJ h1 h2 HR hRj
          go_wp2
          go_ret
          exact ⟨rfl, HB.out⟩
        · have d2 : ((s[j].toNat : Int) != 10) = true := by
            have : s[j].toNat ≠ 10 := fun e => h2 (UInt8.toNat_inj.1 e)
            simp
            omega
          have HN : Hid (Tk.run (fun b => b != m && b != 10) s.data.toList (j + 1) = R) := by
            show _ = _
            rw [← HJ.out]
            refine (Tk.run_step (by rw [HSL.out]; exact hlt) ?_).symm
            rw [lst_at s j hlt]
            simp [h1, h2]
          clear HJ h1 h2 HE HR
          go_wp2
          go_roundw
          case rel => exact ⟨j + 1, by go_num, by omega, by omega, HB.out, HN.out⟩
          case measure => simp [intOf]; omega
    · obtain rfl : j = s.size := by omega
      have d0 : decide ((s.size : Int) < (s.size : Int)) = false := decide_eq_false (by omega)
      have hRj : R = s.size := by
        rw [← HJ.out]
        exact Tk.run_end _ (by rw [HSL.out]; omega)
      have hE : E = 0 := by rw [HE.out, hRj, lst_none s s.size (Nat.le_refl _), if_neg (fun k => by cases k.1)]
      subst hE
      clear HE HJ HR hRj
      go_wp2
      go_ret
      exact ⟨rfl, HB.out⟩
end PartTkA
section PartPgA
open Go.RowKit

set_option maxHeartbeats 400000 in
theorem sIn_any (x lo hi : Int) (w : World) : Calls Tryz.prog 51 #[.int .i64 x, .int .i64 lo, .int .i64 hi] w fun e w' => e = .returned (.bool (decide (lo ≤ x ∧ x ≤ hi))) ∧ w' = w := by
  by_cases h1 : lo ≤ x
  · by_cases h2 : x ≤ hi
    · have d1 : decide (lo ≤ x) = true := decide_eq_true h1
      have d2 : decide (x ≤ hi) = true := decide_eq_true h2
      have e : decide (lo ≤ x ∧ x ≤ hi) = true := decide_eq_true ⟨h1, h2⟩
      rw [e]; clear e h1 h2
      go_enter Tryz.func51, Tryz.ntmps51
      go_wp2
      go_ret
      exact ⟨rfl, rfl⟩
    · have d1 : decide (lo ≤ x) = true := decide_eq_true h1
      have d2 : decide (x ≤ hi) = false := decide_eq_false h2
      have e : decide (lo ≤ x ∧ x ≤ hi) = false := decide_eq_false (fun k => h2 k.2)
      rw [e]; clear e h1 h2
      go_enter Tryz.func51, Tryz.ntmps51
      go_wp2
      go_ret
      exact ⟨rfl, rfl⟩
  · have d1 : decide (lo ≤ x) = false := decide_eq_false h1
    have e : decide (lo ≤ x ∧ x ≤ hi) = false := decide_eq_false (fun k => h1 k.1)
    rw [e]; clear e h1
    go_enter Tryz.func51, Tryz.ntmps51
    go_wp2
    go_ret
    exact ⟨rfl, rfl⟩

theorem plain_no {s : ByteArray} {most : Nat} {m : UInt8} {j : Nat} (h : j < s.size) (hb : s[j] = m ∨ s[j] = 10) : Pg.plain s.data.toList most m = false := by
  have : s.data.toList.all (fun b => b != m && b != 10) = false := by
    rw [List.all_eq_false]
    refine ⟨s[j], ?_, ?_⟩
    · show s.data[j] ∈ s.data.toList
      simp
    · rcases hb with hb | hb <;> simp [hb]
  unfold Pg.plain
  rw [this]
  rfl
theorem plain_yes {s : ByteArray} {most : Nat} {m : UInt8} (h : ∀ j, ∀ h : j < s.size, s[j] ≠ m ∧ s[j] ≠ 10) : Pg.plain s.data.toList most m = decide (s.size ≤ most) := by
  have e : s.data.toList.all (fun b => b != m && b != 10) = true := by
    rw [List.all_eq_true]
    intro b hb
    obtain ⟨i, hi, rfl⟩ := List.mem_iff_getElem.1 hb
    have hi2 : i < s.size := by simpa using hi
    have := h i hi2
    rw [lst_at s i hi2]
    simp [this.1, this.2]
  unfold Pg.plain
  rw [e]
  simp

set_option maxHeartbeats 1000000 in
set_option maxRecDepth 100000 in
theorem spPlain (s : ByteArray) (most : Nat) (m : UInt8) (w : World) (hs : s.size ≤ 1048576) :
    Calls Tryz.prog 110 #[.string s, .int .i64 (most : Int), .int .u8 (m.toNat : Int)] w fun e w' => e = .returned (.bool (Pg.plain s.data.toList most m)) ∧ w' = w := by
  obtain ⟨V, hV⟩ : ∃ V, V = Pg.plain s.data.toList most m := ⟨_, rfl⟩
  rw [← hV]
  have HV : Hid (V = Pg.plain s.data.toList most m) := hV
  clear hV
  go_enter Tryz.func110, Tryz.ntmps110
  go_wp2
  go_loop [7] (fun i => ∃ j : Nat, i = .int .i64 (j : Int) ∧ j ≤ s.size ∧ Hid (∀ k, k < j → ∀ h : k < s.size, s[k] ≠ m ∧ s[k] ≠ 10)) (fun i => s.size - (intOf i).toNat)
  case atStart => exact ⟨0, rfl, by omega, fun k hk => by omega⟩
  case round =>
    obtain ⟨j, rfl, hj, HJ⟩ := hrel
    by_cases hlt : j < s.size
    · have hi : (j : Int) < (s.size : Int) := by omega
      have d0 : decide ((j : Int) < (s.size : Int)) = true := decide_eq_true hi
      by_cases h1 : s[j] = m
      · have d1 : ((s[j].toNat : Int) == (m.toNat : Int)) = true := by rw [h1]; simp
        have HF : Hid (V = false) := by show _ = _; rw [HV.out]; exact plain_no hlt (.inl h1)
        clear h1 HJ HV
        go_wp2
        go_ret
        exact ⟨by rw [HF.out]; rfl, rfl⟩
      · have d1 : ((s[j].toNat : Int) == (m.toNat : Int)) = false := beq_eq_false_iff_ne.2 (fun e => h1 (UInt8.toNat_inj.1 (by omega)))
        by_cases h2 : s[j] = 10
        · have d2 : ((s[j].toNat : Int) == 10) = true := by rw [h2]; rfl
          have HF : Hid (V = false) := by show _ = _; rw [HV.out]; exact plain_no hlt (.inr h2)
          clear h1 h2 HJ HV
          go_wp2
          go_ret
          exact ⟨by rw [HF.out]; rfl, rfl⟩
        · have d2 : ((s[j].toNat : Int) == 10) = false := beq_eq_false_iff_ne.2 (fun e => h2 (UInt8.toNat_inj.1 (by show _ = 10; omega)))
          have HN : Hid (∀ k, k < j + 1 → ∀ h : k < s.size, s[k] ≠ m ∧ s[k] ≠ 10) := by
            intro k hk h
            by_cases e : k = j
            · subst e; exact ⟨h1, h2⟩
            · exact HJ.out k (by omega) h
          clear h1 h2 HJ HV
          go_wp2
          go_round
          case rel => exact ⟨j + 1, by go_num, by omega, HN.out⟩
          case measure => simp [intOf]; omega
    · obtain rfl : j = s.size := by omega
      have d0 : decide ((s.size : Int) < (s.size : Int)) = false := decide_eq_false (by omega)
      have HF : Hid (V = decide (s.size ≤ most)) := by show _ = _; rw [HV.out]; exact plain_yes (fun k h => HJ.out k h h)
      clear HJ HV
      go_wp2
      go_ret
      refine ⟨?_, rfl⟩
      rw [HF.out]
      by_cases h : s.size ≤ most
      · have d : decide ((s.size : Int) ≤ (most : Int)) = true := decide_eq_true (by omega)
        simp [h]
      · simp [h]
end PartPgA
section PartPgB
open Go.RowKit

theorem name_word {s : ByteArray} (h : s.data.toList ∈ Pg.words) : Pg.name s.data.toList = false := by
  unfold Pg.name
  rw [List.contains_iff_mem.2 h]
  rfl
theorem name_no {s : ByteArray} {j : Nat} (h : j < s.size) (hl : Tk.letter s[j] = false) : Pg.name s.data.toList = false := by
  have : s.data.toList.all Tk.letter = false := by
    rw [List.all_eq_false]
    refine ⟨s[j], ?_, by rw [hl]; simp⟩
    show s.data[j] ∈ s.data.toList
    simp
  unfold Pg.name
  rw [this]
  simp
theorem name_yes {s : ByteArray} (hw : s.data.toList ∉ Pg.words) (h : ∀ j, ∀ h : j < s.size, Tk.letter s[j] = true) : Pg.name s.data.toList = decide ((1 : Int) ≤ (s.size : Int) ∧ (s.size : Int) ≤ 8) := by
  have e : s.data.toList.all Tk.letter = true := by
    rw [List.all_eq_true]
    intro b hb
    obtain ⟨i, hi, rfl⟩ := List.mem_iff_getElem.1 hb
    have hi2 : i < s.size := by simpa using hi
    exact h i hi2
  have e2 : Pg.words.contains s.data.toList = false := by
    cases hc : Pg.words.contains s.data.toList with
    | false => rfl
    | true => exact absurd (List.contains_iff_mem.1 hc) hw
  unfold Pg.name
  rw [e, e2]
  have e3 : s.data.toList.length = s.size := by simp
  rw [e3]
  by_cases h8 : 1 ≤ s.size ∧ s.size ≤ 8
  · rw [decide_eq_true h8, decide_eq_true (by omega)]; rfl
  · rw [decide_eq_false h8, decide_eq_false (by omega)]; rfl

set_option maxHeartbeats 2000000 in
set_option maxRecDepth 100000 in
theorem spName (s : ByteArray) (w : World) (hs : s.size ≤ 1048576) :
    Calls Tryz.prog 107 #[.string s] w fun e w' => e = .returned (.bool (Pg.name s.data.toList)) ∧ Below w.heap.size w w' := by
  obtain ⟨V, hV⟩ : ∃ V, V = Pg.name s.data.toList := ⟨_, rfl⟩
  rw [← hV]
  have HV : Hid (V = Pg.name s.data.toList) := hV
  have hsl : s.toList = s.data.toList := Lib.toList_data s
  clear hV
  have HW : Hid (∀ j, j < 10 → (w.alloc (.cells #[.string ⟨#[66, 69, 71, 73, 78]⟩, .string ⟨#[69, 78, 68]⟩, .string ⟨#[112, 114, 105, 110, 116]⟩, .string ⟨#[110, 101, 120, 116]⟩, .string ⟨#[100, 117, 109, 112]⟩, .string ⟨#[105, 102]⟩, .string ⟨#[101, 108, 115, 101]⟩, .string ⟨#[108, 101, 110, 103, 116, 104]⟩, .string ⟨#[78, 70]⟩, .string ⟨#[78, 82]⟩] 9)).cell? ⟨w.heap.size, j, none⟩ = some (.string ⟨(Pg.words.getD j []).toArray⟩)) := by
    intro j hj
    show (w.alloc (.cells (Pg.words.map fun t => Value.string ⟨t.toArray⟩).toArray 9)).cell? ⟨w.heap.size, j, none⟩ = _
    rw [blk_cell (heap_alloc_new w _)]
    have : j < Pg.words.length := hj
    simp [this]
  have HB : Hid (Below w.heap.size w (w.alloc (.cells #[.string ⟨#[66, 69, 71, 73, 78]⟩, .string ⟨#[69, 78, 68]⟩, .string ⟨#[112, 114, 105, 110, 116]⟩, .string ⟨#[110, 101, 120, 116]⟩, .string ⟨#[100, 117, 109, 112]⟩, .string ⟨#[105, 102]⟩, .string ⟨#[101, 108, 115, 101]⟩, .string ⟨#[108, 101, 110, 103, 116, 104]⟩, .string ⟨#[78, 70]⟩, .string ⟨#[78, 82]⟩] 9))) := (Below.refl _ _).alloc (Nat.le_refl _) _
  go_enter Tryz.func107, Tryz.ntmps107
  go_wp2
  generalize w.alloc (.cells #[.string ⟨#[66, 69, 71, 73, 78]⟩, .string ⟨#[69, 78, 68]⟩, .string ⟨#[112, 114, 105, 110, 116]⟩, .string ⟨#[110, 101, 120, 116]⟩, .string ⟨#[100, 117, 109, 112]⟩, .string ⟨#[105, 102]⟩, .string ⟨#[101, 108, 115, 101]⟩, .string ⟨#[108, 101, 110, 103, 116, 104]⟩, .string ⟨#[78, 70]⟩, .string ⟨#[78, 82]⟩] 9) = W at *
  go_loop [4] (fun i => ∃ j : Nat, i = .int .i64 (j : Int) ∧ j ≤ 10 ∧ Hid (∀ k, k < j → Pg.words.getD k [] ≠ s.data.toList)) (fun i => 10 - (intOf i).toNat)
  case atStart => exact ⟨0, rfl, by omega, fun k hk => by omega⟩
  case round =>
    obtain ⟨j, rfl, hj, HJ⟩ := hrel
    by_cases hlt : j < 10
    · have hi : (j : Int) < 10 := by omega
      have d0 : decide ((j : Int) < 10) = true := decide_eq_true hi
      have x0 := HW.out j hlt
      obtain ⟨X, hX⟩ : ∃ X : ByteArray, X = ⟨(Pg.words.getD j []).toArray⟩ := ⟨_, rfl⟩
      have hXl : X.toList = Pg.words.getD j [] := by rw [hX, Lib.toList_data]
      rw [← hX] at x0
      by_cases he : Pg.words.getD j [] = s.data.toList
      · have d1 : (X.toList == s.toList) = true := by rw [hXl, hsl, he]; simp
        have HF : Hid (V = false) := by
          show _ = _
          rw [HV.out]
          refine name_word ?_
          rw [← he]
          have : j < Pg.words.length := hlt
          rw [List.getD_eq_getElem?_getD, List.getElem?_eq_getElem this]
          exact List.getElem_mem _
        clear hX hXl he HJ HV hsl
        go_wp2
        go_ret
        exact ⟨by rw [HF.out]; rfl, HB.out⟩
      · have d1 : (X.toList == s.toList) = false := by rw [hXl, hsl]; simpa using he
        have HN : Hid (∀ k, k < j + 1 → Pg.words.getD k [] ≠ s.data.toList) := by
          intro k hk
          by_cases e : k = j
          · subst e; exact he
          · exact HJ.out k (by omega)
        clear hX hXl he HJ HV hsl
        go_wp2
        go_round
        case rel => exact ⟨j + 1, by go_num, by omega, HN.out⟩
        case measure => simp [intOf]; omega
    · obtain rfl : j = 10 := by omega
      have HNW : Hid (s.data.toList ∉ Pg.words) := by
        intro hm
        obtain ⟨i, hi, e⟩ := List.mem_iff_getElem.1 hm
        refine HJ.out i hi ?_
        rw [List.getD_eq_getElem?_getD, List.getElem?_eq_getElem hi]
        exact e
      clear HJ HW hsl
      go_wp2
      go_loop [5] (fun i => ∃ j : Nat, i = .int .i64 (j : Int) ∧ j ≤ s.size ∧ Hid (∀ k, k < j → ∀ h : k < s.size, Tk.letter s[k] = true)) (fun i => s.size - (intOf i).toNat)
      case atStart => exact ⟨0, rfl, by omega, fun k hk => by omega⟩
      case round =>
        obtain ⟨j, rfl, hj, HJ⟩ := hrel
        by_cases hlt : j < s.size
        · have hi : (j : Int) < (s.size : Int) := by omega
          have d0 : decide ((j : Int) < (s.size : Int)) = true := decide_eq_true hi
          by_cases hl : Tk.letter s[j] = true
          · have CJ : Hid (∀ w, Calls Tryz.prog 75 #[.int .u8 (s[j].toNat : Int)] w fun e w' => e = .returned (.bool true) ∧ w' = w) := by
              intro w
              have := spLetter s[j] w
              rwa [hl] at this
            have HN : Hid (∀ k, k < j + 1 → ∀ h : k < s.size, Tk.letter s[k] = true) := by
              intro k hk h
              by_cases e : k = j
              · subst e; exact hl
              · exact HJ.out k (by omega) h
            clear HJ hl HV
            go_wp2_with (go_at_call 75; refine (CJ.out _).mono ?_; rintro e w2 ⟨rfl, rfl⟩)
            go_round
            case rel => exact ⟨j + 1, by go_num, by omega, HN.out⟩
            case measure => simp [intOf]; omega
          · have CJ : Hid (∀ w, Calls Tryz.prog 75 #[.int .u8 (s[j].toNat : Int)] w fun e w' => e = .returned (.bool false) ∧ w' = w) := by
              intro w
              have := spLetter s[j] w
              rwa [Bool.eq_false_iff.2 hl] at this
            have HF : Hid (V = false) := by show _ = _; rw [HV.out]; exact name_no hlt (Bool.eq_false_iff.2 hl)
            clear HJ hl HV
            go_wp2_with (go_at_call 75; refine (CJ.out _).mono ?_; rintro e w2 ⟨rfl, rfl⟩)
            go_ret
            exact ⟨by rw [HF.out]; rfl, HB.out⟩
        · obtain rfl : j = s.size := by omega
          have d0 : decide ((s.size : Int) < (s.size : Int)) = false := decide_eq_false (by omega)
          have CI : Hid (∀ w, Calls Tryz.prog 51 #[.int .i64 (s.size : Int), .int .i64 1, .int .i64 8] w fun e w' => e = .returned (.bool V) ∧ w' = w) := by
            intro w
            have := sIn_any (s.size : Int) 1 8 w
            rwa [← name_yes HNW.out (fun k h => HJ.out k h h), ← HV.out] at this
          clear HJ HV HNW
          go_wp2_with (go_at_call 51; refine (CI.out _).mono ?_; rintro e w2 ⟨rfl, rfl⟩)
          go_ret
          exact ⟨rfl, HB.out⟩
end PartPgB
section PartVNum
open Go.RowKit

set_option maxHeartbeats 400000 in
theorem isFigure_any (z : Nat) (w : World) (h : z < 256) :
    Calls Tryz.prog 139 #[.int .u8 (z : Int)] w fun e w' => e = .returned (.bool (decide (48 ≤ z ∧ z ≤ 57))) ∧ w' = w := by
  by_cases h1 : 48 ≤ z
  · by_cases h2 : z ≤ 57
    · have d1 : decide ((48 : Int) ≤ (z : Int)) = true := by simp; omega
      have d2 : decide ((z : Int) ≤ 57) = true := by simp; omega
      have e : decide (48 ≤ z ∧ z ≤ 57) = true := by simp; omega
      rw [e]; clear e
      go_enter Tryz.func139, Tryz.ntmps139
      go_wp2
      go_ret
      exact ⟨rfl, rfl⟩
    · have d1 : decide ((48 : Int) ≤ (z : Int)) = true := by simp; omega
      have d2 : decide ((z : Int) ≤ 57) = false := by simp; omega
      have e : decide (48 ≤ z ∧ z ≤ 57) = false := by simp; omega
      rw [e]; clear e
      go_enter Tryz.func139, Tryz.ntmps139
      go_wp2
      go_ret
      exact ⟨rfl, rfl⟩
  · have d1 : decide ((48 : Int) ≤ (z : Int)) = false := by simp; omega
    have e : decide (48 ≤ z ∧ z ≤ 57) = false := by simp; omega
    rw [e]; clear e
    go_enter Tryz.func139, Tryz.ntmps139
    go_wp2
    go_ret
    exact ⟨rfl, rfl⟩
theorem isFigure_at (z : Nat) (b : Bool) (w : World) (h : z < 256) (hb : decide (48 ≤ z ∧ z ≤ 57) = b) :
    Calls Tryz.prog 139 #[.int .u8 (z : Int)] w fun e w' => e = .returned (.bool b) ∧ w' = w := by
  subst hb
  exact isFigure_any z w h

theorem str_ne (s : ByteArray) (h : 0 < s.size) : s.toList.isEmpty = false := by
  rw [Lib.toList_data]
  have e : s.data.toList.length = s.size := by simp
  cases hd : s.data.toList with
  | nil => rw [hd] at e; simp at e; omega
  | cons a l => rfl
theorem str_nil (s : ByteArray) (h : ¬ 0 < s.size) : s = (⟨#[]⟩ : ByteArray) := by
  apply ByteArray.ext
  apply Array.eq_empty_of_size_eq_zero
  have : s.data.size = s.size := rfl
  omega

set_option maxHeartbeats 400000 in
set_option maxRecDepth 100000 in
theorem implIsNum_any (s : ByteArray) (w : World) (hs : s.size ≤ 2097152) :
    Calls Tryz.prog 120 #[.string s] w fun e w' => e = .returned (.bool (Pv.isn s.data.toList)) ∧ w' = w := by
  by_cases h0 : 0 < s.size
  · have e0 := str_ne s h0
    by_cases h6 : 6 < s.size
    · have HN : Hid (Pv.isn s.data.toList = false) := Pv.isn_size s (.inr h6)
      have d6 : decide ((6 : Int) < (s.size : Int)) = true := by simp; omega
      go_enter Tryz.func120, Tryz.ntmps120
      go_wp2
      go_ret
      exact ⟨by rw [HN.out]; rfl, rfl⟩
    have d6 : decide ((6 : Int) < (s.size : Int)) = false := by simp; omega
    go_enter Tryz.func120, Tryz.ntmps120
    go_wp2
    go_loop [3] (fun i => ∃ k : Nat, i = .int .i64 (k : Int) ∧ k ≤ s.size ∧ Hid (∀ j (hj : j < s.size), j < k → 48 ≤ s[j].toNat ∧ s[j].toNat ≤ 57)) (fun i => s.size - (intOf i).toNat)
    case atStart => exact ⟨0, rfl, by omega, fun j _ hj => by omega⟩
    case round =>
      obtain ⟨k, rfl, hk, HP⟩ := hrel
      by_cases hlt : k < s.size
      · have h256 : s[k].toNat < 256 := s[k].toNat_lt
        by_cases hf : 48 ≤ s[k].toNat ∧ s[k].toNat ≤ 57
        · have C : Hid (∀ w, Calls Tryz.prog 139 #[.int .u8 (s[k].toNat : Int)] w fun e w' => e = .returned (.bool true) ∧ w' = w) := fun w => isFigure_at _ true w h256 (by simpa using hf)
          have HN : Hid (∀ j (hj : j < s.size), j < k + 1 → 48 ≤ s[j].toNat ∧ s[j].toNat ≤ 57) := by
            intro j hj hjk
            by_cases e : j = k
            · subst e; exact hf
            · exact HP.out j hj (by omega)
          clear hf
          go_wp2_with (go_at_call 139; refine (C.out _).mono ?_; rintro e w' ⟨rfl, rfl⟩)
          go_round
          case rel => exact ⟨k + 1, by go_num, by omega, HN.out⟩
          case measure => simp [intOf]; omega
        · have C : Hid (∀ w, Calls Tryz.prog 139 #[.int .u8 (s[k].toNat : Int)] w fun e w' => e = .returned (.bool false) ∧ w' = w) := fun w => isFigure_at _ false w h256 (by simpa using hf)
          have HN : Hid (Pv.isn s.data.toList = false) := Pv.isn_no s k hlt (by omega)
          clear hf
          go_wp2_with (go_at_call 139; refine (C.out _).mono ?_; rintro e w' ⟨rfl, rfl⟩)
          go_ret
          exact ⟨by rw [HN.out]; rfl, rfl⟩
      · have HY : Hid (Pv.isn s.data.toList = true) := by
          show _ = _
          rw [Pv.isn_all s (fun j hj => HP.out j hj (by omega))]
          simp; omega
        go_wp2
        go_ret
        exact ⟨by rw [HY.out]; rfl, rfl⟩
  · obtain rfl := str_nil s h0
    go_enter Tryz.func120, Tryz.ntmps120
    go_wp2
    go_ret
    exact ⟨rfl, rfl⟩

set_option maxHeartbeats 400000 in
theorem l01In_any (x : Nat) (w : World) (h : x ≤ 2097152) :
    Calls Tryz.prog 51 #[.int .i64 (x : Int), .int .i64 1, .int .i64 6] w fun e w' => e = .returned (.bool (decide (1 ≤ x ∧ x ≤ 6))) ∧ w' = w := by
  by_cases h1 : 1 ≤ x
  · by_cases h2 : x ≤ 6
    · have d1 : decide ((1 : Int) ≤ (x : Int)) = true := by simp; omega
      have d2 : decide ((x : Int) ≤ 6) = true := by simp; omega
      have e : decide (1 ≤ x ∧ x ≤ 6) = true := by simp; omega
      rw [e]; clear e
      go_enter Tryz.func51, Tryz.ntmps51
      go_wp2
      go_ret
      exact ⟨rfl, rfl⟩
    · have d1 : decide ((1 : Int) ≤ (x : Int)) = true := by simp; omega
      have d2 : decide ((x : Int) ≤ 6) = false := by simp; omega
      have e : decide (1 ≤ x ∧ x ≤ 6) = false := by simp; omega
      rw [e]; clear e
      go_enter Tryz.func51, Tryz.ntmps51
      go_wp2
      go_ret
      exact ⟨rfl, rfl⟩
  · have d1 : decide ((1 : Int) ≤ (x : Int)) = false := by simp; omega
    have e : decide (1 ≤ x ∧ x ≤ 6) = false := by simp; omega
    rw [e]; clear e
    go_enter Tryz.func51, Tryz.ntmps51
    go_wp2
    go_ret
    exact ⟨rfl, rfl⟩

set_option maxHeartbeats 400000 in
set_option maxRecDepth 100000 in
theorem specIsNum_any (s : ByteArray) (w : World) (hs : s.size ≤ 2097152) :
    Calls Tryz.prog 109 #[.string s] w fun e w' => e = .returned (.bool (Pv.isn s.data.toList)) ∧ w' = w := by
  go_enter Tryz.func109, Tryz.ntmps109
  go_wp2
  go_loop [3] (fun i => ∃ k : Nat, i = .int .i64 (k : Int) ∧ k ≤ s.size ∧ Hid (∀ j (hj : j < s.size), j < k → 48 ≤ s[j].toNat ∧ s[j].toNat ≤ 57)) (fun i => s.size - (intOf i).toNat)
  case atStart => exact ⟨0, rfl, by omega, fun j _ hj => by omega⟩
  case round =>
    obtain ⟨k, rfl, hk, HP⟩ := hrel
    by_cases hlt : k < s.size
    · have h256 : s[k].toNat < 256 := s[k].toNat_lt
      by_cases h1 : s[k].toNat < 48
      · have HN : Hid (Pv.isn s.data.toList = false) := Pv.isn_no s k hlt (.inl h1)
        go_wp2
        go_ret
        exact ⟨by rw [HN.out]; rfl, rfl⟩
      · by_cases h2 : 57 < s[k].toNat
        · have HN : Hid (Pv.isn s.data.toList = false) := Pv.isn_no s k hlt (.inr h2)
          have d2 : decide ((57 : Int) < (s[k].toNat : Int)) = true := by simp; omega
          go_wp2
          go_ret
          exact ⟨by rw [HN.out]; rfl, rfl⟩
        · have d2 : decide ((57 : Int) < (s[k].toNat : Int)) = false := by simp; omega
          have HN : Hid (∀ j (hj : j < s.size), j < k + 1 → 48 ≤ s[j].toNat ∧ s[j].toNat ≤ 57) := by
            intro j hj hjk
            by_cases e : j = k
            · subst e; omega
            · exact HP.out j hj (by omega)
          go_wp2
          go_round
          case rel => exact ⟨k + 1, by go_num, by omega, HN.out⟩
          case measure => simp [intOf]; omega
    · have HY : Hid (Pv.isn s.data.toList = decide (1 ≤ s.size ∧ s.size ≤ 6)) := Pv.isn_all s (fun j hj => HP.out j hj (by omega))
      have C : Hid (∀ w, Calls Tryz.prog 51 #[.int .i64 (s.size : Int), .int .i64 1, .int .i64 6] w fun e w' => e = .returned (.bool (Pv.isn s.data.toList)) ∧ w' = w) := by
        intro w
        rw [HY.out]
        exact l01In_any s.size w hs
      go_wp2_with (go_at_call 51; refine (C.out _).mono ?_; rintro e w' ⟨rfl, rfl⟩)
      go_ret
      exact ⟨rfl, rfl⟩
end PartVNum
end Go.Proofs.YtifbgdinjdgdfapGreatDoor
