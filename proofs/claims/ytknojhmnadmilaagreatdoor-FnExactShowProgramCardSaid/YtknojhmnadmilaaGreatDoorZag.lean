/- The specification of ProgramOk: names. What is a number: the program's IsNum and the specification's, at every text. The specification of ProgramOk: how many kids; expressions; a node's text. -/
import Derived.Test.YtknojhmnadmilaaGreatDoorZaf
import Derived.Test.YtknojhmnadmilaaGreatDoorProg
import Derived.Test.YtknojhmnadmilaaGreatDoorZab
import Derived.WalkKit
import Derived.WalkSpells
import Derived.WalkLawsBesides
import Derived.Handy
import Derived.Lib.Strings
namespace Go.Proofs.YtknojhmnadmilaaGreatDoor
section PartPgB
open Go.RowKit

theorem name_word {s : ByteArray} (h : s.data.toList ∈ Pg.words) : Pg.name s.data.toList = false := by
  unfold Pg.name
  rw [List.contains_iff_mem.2 h]
  rfl
theorem name_no {s : ByteArray} {j : Nat} (h : j < s.size) (hl : Tk.letter s[j] = false) : Pg.name s.data.toList = false := by
  have : s.data.toList.all Tk.letter = false := by
    rw [List.all_eq_false]
    refine ⟨s[j], ?_, by rw [hl]; simp⟩
    show s.data[j] ∈ s.data.toList
    simp
  unfold Pg.name
  rw [this]
  simp
theorem name_yes {s : ByteArray} (hw : s.data.toList ∉ Pg.words) (h : ∀ j, ∀ h : j < s.size, Tk.letter s[j] = true) : Pg.name s.data.toList = decide ((1 : Int) ≤ (s.size : Int) ∧ (s.size : Int) ≤ 8) := by
  have e : s.data.toList.all Tk.letter = true := by
    rw [List.all_eq_true]
    intro b hb
    obtain ⟨i, hi, rfl⟩ := List.mem_iff_getElem.1 hb
    have hi2 : i < s.size := by simpa using hi
    exact h i hi2
  have e2 : Pg.words.contains s.data.toList = false := by
    cases hc : Pg.words.contains s.data.toList with
    | false => rfl
    | true => exact absurd (List.contains_iff_mem.1 hc) hw
  unfold Pg.name
  rw [e, e2]
  have e3 : s.data.toList.length = s.size := by simp
  rw [e3]
  by_cases h8 : 1 ≤ s.size ∧ s.size ≤ 8
  · rw [decide_eq_true h8, decide_eq_true (by omega)]; rfl
  · rw [decide_eq_false h8, decide_eq_false (by omega)]; rfl

set_option maxHeartbeats 2000000 in
set_option maxRecDepth 100000 in
theorem spName (s : ByteArray) (w : World) (hs : s.size ≤ 1048576) :
    Calls Tryz.prog 55 #[.string s] w fun e w' => e = .returned (.bool (Pg.name s.data.toList)) ∧ Below w.heap.size w w' := by
  obtain ⟨V, hV⟩ : ∃ V, V = Pg.name s.data.toList := ⟨_, rfl⟩
  rw [← hV]
  have HV : Hid (V = Pg.name s.data.toList) := hV
  have hsl : s.toList = s.data.toList := Lib.toList_data s
  clear hV
  have HW : Hid (∀ j, j < 10 → (w.alloc (.cells #[.string ⟨#[66, 69, 71, 73, 78]⟩, .string ⟨#[69, 78, 68]⟩, .string ⟨#[112, 114, 105, 110, 116]⟩, .string ⟨#[110, 101, 120, 116]⟩, .string ⟨#[100, 117, 109, 112]⟩, .string ⟨#[105, 102]⟩, .string ⟨#[101, 108, 115, 101]⟩, .string ⟨#[108, 101, 110, 103, 116, 104]⟩, .string ⟨#[78, 70]⟩, .string ⟨#[78, 82]⟩] 9)).cell? ⟨w.heap.size, j, none⟩ = some (.string ⟨(Pg.words.getD j []).toArray⟩)) := by
    intro j hj
    show (w.alloc (.cells (Pg.words.map fun t => Value.string ⟨t.toArray⟩).toArray 9)).cell? ⟨w.heap.size, j, none⟩ = _
    rw [blk_cell (heap_alloc_new w _)]
    have : j < Pg.words.length := hj
    simp [this]
  have HB : Hid (Below w.heap.size w (w.alloc (.cells #[.string ⟨#[66, 69, 71, 73, 78]⟩, .string ⟨#[69, 78, 68]⟩, .string ⟨#[112, 114, 105, 110, 116]⟩, .string ⟨#[110, 101, 120, 116]⟩, .string ⟨#[100, 117, 109, 112]⟩, .string ⟨#[105, 102]⟩, .string ⟨#[101, 108, 115, 101]⟩, .string ⟨#[108, 101, 110, 103, 116, 104]⟩, .string ⟨#[78, 70]⟩, .string ⟨#[78, 82]⟩] 9))) := (Below.refl _ _).alloc (Nat.le_refl _) _
  go_enter Tryz.func55, Tryz.ntmps55
  go_wp2
  generalize w.alloc (.cells #[.string ⟨#[66, 69, 71, 73, 78]⟩, .string ⟨#[69, 78, 68]⟩, .string ⟨#[112, 114, 105, 110, 116]⟩, .string ⟨#[110, 101, 120, 116]⟩, .string ⟨#[100, 117, 109, 112]⟩, .string ⟨#[105, 102]⟩, .string ⟨#[101, 108, 115, 101]⟩, .string ⟨#[108, 101, 110, 103, 116, 104]⟩, .string ⟨#[78, 70]⟩, .string ⟨#[78, 82]⟩] 9) = W at *
  go_loop [4] (fun i => ∃ j : Nat, i = .int .i64 (j : Int) ∧ j ≤ 10 ∧ Hid (∀ k, k < j → Pg.words.getD k [] ≠ s.data.toList)) (fun i => 10 - (intOf i).toNat)
  case atStart => exact ⟨0, rfl, by omega, fun k hk => by omega⟩
  case round =>
    obtain ⟨j, rfl, hj, HJ⟩ := hrel
    by_cases hlt : j < 10
    · have hi : (j : Int) < 10 := by omega
      have d0 : decide ((j : Int) < 10) = true := decide_eq_true hi
      have x0 := HW.out j hlt
      obtain ⟨X, hX⟩ : ∃ X : ByteArray, X = ⟨(Pg.words.getD j []).toArray⟩ := ⟨_, rfl⟩
      have hXl : X.toList = Pg.words.getD j [] := by rw [hX, Lib.toList_data]
      rw [← hX] at x0
      by_cases he : Pg.words.getD j [] = s.data.toList
      · have d1 : (X.toList == s.toList) = true := by rw [hXl, hsl, he]; simp
        have HF : Hid (V = false) := by
          show _ = _
          rw [HV.out]
          refine name_word ?_
          rw [← he]
          have : j < Pg.words.length := hlt
          rw [List.getD_eq_getElem?_getD, List.getElem?_eq_getElem this]
          exact List.getElem_mem _
        clear hX hXl he HJ HV hsl
        go_wp2
        go_ret
        exact ⟨by rw [HF.out]; rfl, HB.out⟩
      · have d1 : (X.toList == s.toList) = false := by rw [hXl, hsl]; simpa using he
        have HN : Hid (∀ k, k < j + 1 → Pg.words.getD k [] ≠ s.data.toList) := by
          intro k hk
          by_cases e : k = j
          · subst e; exact he
          · exact HJ.out k (by omega)
        clear hX hXl he HJ HV hsl
        go_wp2
        go_round
        case rel => exact ⟨j + 1, by go_num, by omega, HN.out⟩
        case measure => simp [intOf]; omega
    · obtain rfl : j = 10 := by omega
      have HNW : Hid (s.data.toList ∉ Pg.words) := by
        intro hm
        obtain ⟨i, hi, e⟩ := List.mem_iff_getElem.1 hm
        refine HJ.out i hi ?_
        rw [List.getD_eq_getElem?_getD, List.getElem?_eq_getElem hi]
        exact e
      clear HJ HW hsl
      go_wp2
      go_loop [5] (fun i => ∃ j : Nat, i = .int .i64 (j : Int) ∧ j ≤ s.size ∧ Hid (∀ k, k < j → ∀ h : k < s.size, Tk.letter s[k] = true)) (fun i => s.size - (intOf i).toNat)
      case atStart => exact ⟨0, rfl, by omega, fun k hk => by omega⟩
      case round =>
        obtain ⟨j, rfl, hj, HJ⟩ := hrel
        by_cases hlt : j < s.size
        · have hi : (j : Int) < (s.size : Int) := by omega
          have d0 : decide ((j : Int) < (s.size : Int)) = true := decide_eq_true hi
          by_cases hl : Tk.letter s[j] = true
          · have CJ : Hid (∀ w, Calls Tryz.prog 62 #[.int .u8 (s[j].toNat : Int)] w fun e w' => e = .returned (.bool true) ∧ w' = w) := by
              intro w
              have := spLetter s[j] w
              rwa [hl] at this
            have HN : Hid (∀ k, k < j + 1 → ∀ h : k < s.size, Tk.letter s[k] = true) := by
              intro k hk h
              by_cases e : k = j
              · subst e; exact hl
              · exact HJ.out k (by omega) h
            clear HJ hl HV
            go_wp2_with (go_at_call 62; refine (CJ.out _).mono ?_; rintro e w2 ⟨rfl, rfl⟩)
            go_round
            case rel => exact ⟨j + 1, by go_num, by omega, HN.out⟩
            case measure => simp [intOf]; omega
          · have CJ : Hid (∀ w, Calls Tryz.prog 62 #[.int .u8 (s[j].toNat : Int)] w fun e w' => e = .returned (.bool false) ∧ w' = w) := by
              intro w
              have := spLetter s[j] w
              rwa [Bool.eq_false_iff.2 hl] at this
            have HF : Hid (V = false) := by show _ = _; rw [HV.out]; exact name_no hlt (Bool.eq_false_iff.2 hl)
            clear HJ hl HV
            go_wp2_with (go_at_call 62; refine (CJ.out _).mono ?_; rintro e w2 ⟨rfl, rfl⟩)
            go_ret
            exact ⟨by rw [HF.out]; rfl, HB.out⟩
        · obtain rfl : j = s.size := by omega
          have d0 : decide ((s.size : Int) < (s.size : Int)) = false := decide_eq_false (by omega)
          have CI : Hid (∀ w, Calls Tryz.prog 27 #[.int .i64 (s.size : Int), .int .i64 1, .int .i64 8] w fun e w' => e = .returned (.bool V) ∧ w' = w) := by
            intro w
            have := sIn_any (s.size : Int) 1 8 w
            rwa [← name_yes HNW.out (fun k h => HJ.out k h h), ← HV.out] at this
          clear HJ HV HNW
          go_wp2_with (go_at_call 27; refine (CI.out _).mono ?_; rintro e w2 ⟨rfl, rfl⟩)
          go_ret
          exact ⟨rfl, HB.out⟩
end PartPgB
section PartVNum
open Go.RowKit

set_option maxHeartbeats 400000 in
theorem isFigure_any (z : Nat) (w : World) (h : z < 256) :
    Calls Tryz.prog 64 #[.int .u8 (z : Int)] w fun e w' => e = .returned (.bool (decide (48 ≤ z ∧ z ≤ 57))) ∧ w' = w := by
  by_cases h1 : 48 ≤ z
  · by_cases h2 : z ≤ 57
    · have d1 : decide ((48 : Int) ≤ (z : Int)) = true := by simp; omega
      have d2 : decide ((z : Int) ≤ 57) = true := by simp; omega
      have e : decide (48 ≤ z ∧ z ≤ 57) = true := by simp; omega
      rw [e]; clear e
      go_enter Tryz.func64, Tryz.ntmps64
      go_wp2
      go_ret
      exact ⟨rfl, rfl⟩
    · have d1 : decide ((48 : Int) ≤ (z : Int)) = true := by simp; omega
      have d2 : decide ((z : Int) ≤ 57) = false := by simp; omega
      have e : decide (48 ≤ z ∧ z ≤ 57) = false := by simp; omega
      rw [e]; clear e
      go_enter Tryz.func64, Tryz.ntmps64
      go_wp2
      go_ret
      exact ⟨rfl, rfl⟩
  · have d1 : decide ((48 : Int) ≤ (z : Int)) = false := by simp; omega
    have e : decide (48 ≤ z ∧ z ≤ 57) = false := by simp; omega
    rw [e]; clear e
    go_enter Tryz.func64, Tryz.ntmps64
    go_wp2
    go_ret
    exact ⟨rfl, rfl⟩
theorem isFigure_at (z : Nat) (b : Bool) (w : World) (h : z < 256) (hb : decide (48 ≤ z ∧ z ≤ 57) = b) :
    Calls Tryz.prog 64 #[.int .u8 (z : Int)] w fun e w' => e = .returned (.bool b) ∧ w' = w := by
  subst hb
  exact isFigure_any z w h

theorem str_ne (s : ByteArray) (h : 0 < s.size) : s.toList.isEmpty = false := by
  rw [Lib.toList_data]
  have e : s.data.toList.length = s.size := by simp
  cases hd : s.data.toList with
  | nil => rw [hd] at e; simp at e; omega
  | cons a l => rfl
theorem str_nil (s : ByteArray) (h : ¬ 0 < s.size) : s = (⟨#[]⟩ : ByteArray) := by
  apply ByteArray.ext
  apply Array.eq_empty_of_size_eq_zero
  have : s.data.size = s.size := rfl
  omega

set_option maxHeartbeats 400000 in
set_option maxRecDepth 100000 in
theorem implIsNum_any (s : ByteArray) (w : World) (hs : s.size ≤ 2097152) :
    Calls Tryz.prog 57 #[.string s] w fun e w' => e = .returned (.bool (Pv.isn s.data.toList)) ∧ w' = w := by
  by_cases h0 : 0 < s.size
  · have e0 := str_ne s h0
    by_cases h6 : 6 < s.size
    · have HN : Hid (Pv.isn s.data.toList = false) := Pv.isn_size s (.inr h6)
      have d6 : decide ((6 : Int) < (s.size : Int)) = true := by simp; omega
      go_enter Tryz.func57, Tryz.ntmps57
      go_wp2
      go_ret
      exact ⟨by rw [HN.out]; rfl, rfl⟩
    have d6 : decide ((6 : Int) < (s.size : Int)) = false := by simp; omega
    go_enter Tryz.func57, Tryz.ntmps57
    go_wp2
    go_loop [3] (fun i => ∃ k : Nat, i = .int .i64 (k : Int) ∧ k ≤ s.size ∧ Hid (∀ j (hj : j < s.size), j < k → 48 ≤ s[j].toNat ∧ s[j].toNat ≤ 57)) (fun i => s.size - (intOf i).toNat)
    case atStart => exact ⟨0, rfl, by omega, fun j _ hj => by omega⟩
    case round =>
      obtain ⟨k, rfl, hk, HP⟩ := hrel
      by_cases hlt : k < s.size
      · have h256 : s[k].toNat < 256 := s[k].toNat_lt
        by_cases hf : 48 ≤ s[k].toNat ∧ s[k].toNat ≤ 57
        · have C : Hid (∀ w, Calls Tryz.prog 64 #[.int .u8 (s[k].toNat : Int)] w fun e w' => e = .returned (.bool true) ∧ w' = w) := fun w => isFigure_at _ true w h256 (by simpa using hf)
          have HN : Hid (∀ j (hj : j < s.size), j < k + 1 → 48 ≤ s[j].toNat ∧ s[j].toNat ≤ 57) := by
            intro j hj hjk
            by_cases e : j = k
            · subst e; exact hf
            · exact HP.out j hj (by omega)
          clear hf
          go_wp2_with (go_at_call 64; refine (C.out _).mono ?_; rintro e w' ⟨rfl, rfl⟩)
          go_round
          case rel => exact ⟨k + 1, by go_num, by omega, HN.out⟩
          case measure => simp [intOf]; omega
        · have C : Hid (∀ w, Calls Tryz.prog 64 #[.int .u8 (s[k].toNat : Int)] w fun e w' => e = .returned (.bool false) ∧ w' = w) := fun w => isFigure_at _ false w h256 (by simpa using hf)
          have HN : Hid (Pv.isn s.data.toList = false) := Pv.isn_no s k hlt (by omega)
          clear hf
          go_wp2_with (go_at_call 64; refine (C.out _).mono ?_; rintro e w' ⟨rfl, rfl⟩)
          go_ret
          exact ⟨by rw [HN.out]; rfl, rfl⟩
      · have HY : Hid (Pv.isn s.data.toList = true) := by
          show _ = _
          rw [Pv.isn_all s (fun j hj => HP.out j hj (by omega))]
          simp; omega
        go_wp2
        go_ret
        exact ⟨by rw [HY.out]; rfl, rfl⟩
  · obtain rfl := str_nil s h0
    go_enter Tryz.func57, Tryz.ntmps57
    go_wp2
    go_ret
    exact ⟨rfl, rfl⟩

set_option maxHeartbeats 400000 in
theorem l01In_any (x : Nat) (w : World) (h : x ≤ 2097152) :
    Calls Tryz.prog 27 #[.int .i64 (x : Int), .int .i64 1, .int .i64 6] w fun e w' => e = .returned (.bool (decide (1 ≤ x ∧ x ≤ 6))) ∧ w' = w := by
  by_cases h1 : 1 ≤ x
  · by_cases h2 : x ≤ 6
    · have d1 : decide ((1 : Int) ≤ (x : Int)) = true := by simp; omega
      have d2 : decide ((x : Int) ≤ 6) = true := by simp; omega
      have e : decide (1 ≤ x ∧ x ≤ 6) = true := by simp; omega
      rw [e]; clear e
      go_enter Tryz.func27, Tryz.ntmps27
      go_wp2
      go_ret
      exact ⟨rfl, rfl⟩
    · have d1 : decide ((1 : Int) ≤ (x : Int)) = true := by simp; omega
      have d2 : decide ((x : Int) ≤ 6) = false := by simp; omega
      have e : decide (1 ≤ x ∧ x ≤ 6) = false := by simp; omega
      rw [e]; clear e
      go_enter Tryz.func27, Tryz.ntmps27
      go_wp2
      go_ret
      exact ⟨rfl, rfl⟩
  · have d1 : decide ((1 : Int) ≤ (x : Int)) = false := by simp; omega
    have e : decide (1 ≤ x ∧ x ≤ 6) = false := by simp; omega
    rw [e]; clear e
    go_enter Tryz.func27, Tryz.ntmps27
    go_wp2
    go_ret
    exact ⟨rfl, rfl⟩

set_option maxHeartbeats 400000 in
set_option maxRecDepth 100000 in
theorem specIsNum_any (s : ByteArray) (w : World) (hs : s.size ≤ 2097152) :
    Calls Tryz.prog 53 #[.string s] w fun e w' => e = .returned (.bool (Pv.isn s.data.toList)) ∧ w' = w := by
  go_enter Tryz.func53, Tryz.ntmps53
  go_wp2
  go_loop [3] (fun i => ∃ k : Nat, i = .int .i64 (k : Int) ∧ k ≤ s.size ∧ Hid (∀ j (hj : j < s.size), j < k → 48 ≤ s[j].toNat ∧ s[j].toNat ≤ 57)) (fun i => s.size - (intOf i).toNat)
  case atStart => exact ⟨0, rfl, by omega, fun j _ hj => by omega⟩
  case round =>
    obtain ⟨k, rfl, hk, HP⟩ := hrel
    by_cases hlt : k < s.size
    · have h256 : s[k].toNat < 256 := s[k].toNat_lt
      by_cases h1 : s[k].toNat < 48
      · have HN : Hid (Pv.isn s.data.toList = false) := Pv.isn_no s k hlt (.inl h1)
        go_wp2
        go_ret
        exact ⟨by rw [HN.out]; rfl, rfl⟩
      · by_cases h2 : 57 < s[k].toNat
        · have HN : Hid (Pv.isn s.data.toList = false) := Pv.isn_no s k hlt (.inr h2)
          have d2 : decide ((57 : Int) < (s[k].toNat : Int)) = true := by simp; omega
          go_wp2
          go_ret
          exact ⟨by rw [HN.out]; rfl, rfl⟩
        · have d2 : decide ((57 : Int) < (s[k].toNat : Int)) = false := by simp; omega
          have HN : Hid (∀ j (hj : j < s.size), j < k + 1 → 48 ≤ s[j].toNat ∧ s[j].toNat ≤ 57) := by
            intro j hj hjk
            by_cases e : j = k
            · subst e; omega
            · exact HP.out j hj (by omega)
          go_wp2
          go_round
          case rel => exact ⟨k + 1, by go_num, by omega, HN.out⟩
          case measure => simp [intOf]; omega
    · have HY : Hid (Pv.isn s.data.toList = decide (1 ≤ s.size ∧ s.size ≤ 6)) := Pv.isn_all s (fun j hj => HP.out j hj (by omega))
      have C : Hid (∀ w, Calls Tryz.prog 27 #[.int .i64 (s.size : Int), .int .i64 1, .int .i64 6] w fun e w' => e = .returned (.bool (Pv.isn s.data.toList)) ∧ w' = w) := by
        intro w
        rw [HY.out]
        exact l01In_any s.size w hs
      go_wp2_with (go_at_call 27; refine (C.out _).mono ?_; rintro e w' ⟨rfl, rfl⟩)
      go_ret
      exact ⟨rfl, rfl⟩
end PartVNum
section PartPgC
open Go.RowKit

theorem spEx (op : Int) (w : World) : Calls Tryz.prog 28 #[.int .i64 op] w fun e w' => e = .returned (.bool (Pg.ex op)) ∧ w' = w := by
  have C : Hid (∀ w, Calls Tryz.prog 27 #[.int .i64 op, .int .i64 1, .int .i64 16] w fun e w' => e = .returned (.bool (Pg.ex op)) ∧ w' = w) := fun w => sIn_any op 1 16 w
  generalize Pg.ex op = V at *
  go_enter Tryz.func28, Tryz.ntmps28
  go_wp2_with (go_at_call 27; refine (C.out _).mono ?_; rintro e w2 ⟨rfl, rfl⟩)
  go_ret
  exact ⟨rfl, rfl⟩

set_option maxHeartbeats 4000000 in
set_option maxRecDepth 100000 in
theorem spMany (op : Int) (w : World) : Calls Tryz.prog 43 #[.int .i64 op] w fun e w' => e = .returned (.tuple #[.int .i64 ((Pg.many op).1 : Int), .int .i64 ((Pg.many op).2 : Int)]) ∧ w' = w := by
  by_cases hr : 1 ≤ op ∧ op ≤ 25
  · rcases (show op = 1 ∨ op = 2 ∨ op = 3 ∨ op = 4 ∨ op = 5 ∨ op = 6 ∨ op = 7 ∨ op = 8 ∨ op = 9 ∨ op = 10 ∨ op = 11 ∨ op = 12 ∨ op = 13 ∨ op = 14 ∨ op = 15 ∨ op = 16 ∨ op = 17 ∨ op = 18 ∨ op = 19 ∨ op = 20 ∨ op = 21 ∨ op = 22 ∨ op = 23 ∨ op = 24 ∨ op = 25 by omega) with rfl | rfl | rfl | rfl | rfl | rfl | rfl | rfl | rfl | rfl | rfl | rfl | rfl | rfl | rfl | rfl | rfl | rfl | rfl | rfl | rfl | rfl | rfl | rfl | rfl
    all_goals
      go_enter Tryz.func43, Tryz.ntmps43
      go_wp2
      go_ret2
      exact ⟨rfl, rfl⟩
  · have HM : Hid (Pg.many op = (0, 0)) := by
      show _ = _
      unfold Pg.many
      rw [if_neg (by omega), if_neg (by omega), if_neg (by omega), if_neg (by omega), if_neg (by omega)]
    have e4 : (op == 4) = false := beq_eq_false_iff_ne.2 (by omega)
    have e5 : (op == 5) = false := beq_eq_false_iff_ne.2 (by omega)
    have e8 : (op == 8) = false := beq_eq_false_iff_ne.2 (by omega)
    have e16 : (op == 16) = false := beq_eq_false_iff_ne.2 (by omega)
    have e18 : (op == 18) = false := beq_eq_false_iff_ne.2 (by omega)
    have e19 : (op == 19) = false := beq_eq_false_iff_ne.2 (by omega)
    have e9 : (op == 9) = false := beq_eq_false_iff_ne.2 (by omega)
    have e10 : (op == 10) = false := beq_eq_false_iff_ne.2 (by omega)
    have e11 : (op == 11) = false := beq_eq_false_iff_ne.2 (by omega)
    have e12 : (op == 12) = false := beq_eq_false_iff_ne.2 (by omega)
    have e13 : (op == 13) = false := beq_eq_false_iff_ne.2 (by omega)
    have e14 : (op == 14) = false := beq_eq_false_iff_ne.2 (by omega)
    have e15 : (op == 15) = false := beq_eq_false_iff_ne.2 (by omega)
    have e20 : (op == 20) = false := beq_eq_false_iff_ne.2 (by omega)
    have e21 : (op == 21) = false := beq_eq_false_iff_ne.2 (by omega)
    have e17 : (op == 17) = false := beq_eq_false_iff_ne.2 (by omega)
    have e22 : (op == 22) = false := beq_eq_false_iff_ne.2 (by omega)
    have e24 : (op == 24) = false := beq_eq_false_iff_ne.2 (by omega)
    clear hr
    go_enter Tryz.func43, Tryz.ntmps43
    go_wp2
    go_ret2
    rw [HM.out]
    exact ⟨rfl, rfl⟩
end PartPgC
end Go.Proofs.YtknojhmnadmilaaGreatDoor
