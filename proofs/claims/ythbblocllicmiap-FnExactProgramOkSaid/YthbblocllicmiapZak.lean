/- The specification of ProgramOk: how many kids; expressions; a node's text. Is it a sign that stands for something else, in a pattern? -/
import Derived.Test.YthbblocllicmiapZaj
import Derived.Test.YthbblocllicmiapZah
import Derived.Test.YthbblocllicmiapZag
namespace Go.Proofs.Ythbblocllicmiap
section PartPgC
open Go.RowKit

theorem spEx (op : Int) (w : World) : Calls Try.prog 28 #[.int .i64 op] w fun e w' => e = .returned (.bool (Pg.ex op)) ∧ w' = w := by
  have C : Hid (∀ w, Calls Try.prog 27 #[.int .i64 op, .int .i64 1, .int .i64 16] w fun e w' => e = .returned (.bool (Pg.ex op)) ∧ w' = w) := fun w => sIn_any op 1 16 w
  generalize Pg.ex op = V at *
  go_enter Try.func28, Try.ntmps28
  go_wp2_with (go_at_call 27; refine (C.out _).mono ?_; rintro e w2 ⟨rfl, rfl⟩)
  go_ret
  exact ⟨rfl, rfl⟩

set_option maxHeartbeats 4000000 in
set_option maxRecDepth 100000 in
theorem spMany (op : Int) (w : World) : Calls Try.prog 51 #[.int .i64 op] w fun e w' => e = .returned (.tuple #[.int .i64 ((Pg.many op).1 : Int), .int .i64 ((Pg.many op).2 : Int)]) ∧ w' = w := by
  by_cases hr : 1 ≤ op ∧ op ≤ 25
  · rcases (show op = 1 ∨ op = 2 ∨ op = 3 ∨ op = 4 ∨ op = 5 ∨ op = 6 ∨ op = 7 ∨ op = 8 ∨ op = 9 ∨ op = 10 ∨ op = 11 ∨ op = 12 ∨ op = 13 ∨ op = 14 ∨ op = 15 ∨ op = 16 ∨ op = 17 ∨ op = 18 ∨ op = 19 ∨ op = 20 ∨ op = 21 ∨ op = 22 ∨ op = 23 ∨ op = 24 ∨ op = 25 by omega) with rfl | rfl | rfl | rfl | rfl | rfl | rfl | rfl | rfl | rfl | rfl | rfl | rfl | rfl | rfl | rfl | rfl | rfl | rfl | rfl | rfl | rfl | rfl | rfl | rfl
    all_goals
      go_enter Try.func51, Try.ntmps51
      go_wp2
      go_ret2
      exact ⟨rfl, rfl⟩
  · have HM : Hid (Pg.many op = (0, 0)) := by
      show _ = _
      unfold Pg.many
      rw [if_neg (by omega), if_neg (by omega), if_neg (by omega), if_neg (by omega), if_neg (by omega)]
    have e4 : (op == 4) = false := beq_eq_false_iff_ne.2 (by omega)
    have e5 : (op == 5) = false := beq_eq_false_iff_ne.2 (by omega)
    have e8 : (op == 8) = false := beq_eq_false_iff_ne.2 (by omega)
    have e16 : (op == 16) = false := beq_eq_false_iff_ne.2 (by omega)
    have e18 : (op == 18) = false := beq_eq_false_iff_ne.2 (by omega)
    have e19 : (op == 19) = false := beq_eq_false_iff_ne.2 (by omega)
    have e9 : (op == 9) = false := beq_eq_false_iff_ne.2 (by omega)
    have e10 : (op == 10) = false := beq_eq_false_iff_ne.2 (by omega)
    have e11 : (op == 11) = false := beq_eq_false_iff_ne.2 (by omega)
    have e12 : (op == 12) = false := beq_eq_false_iff_ne.2 (by omega)
    have e13 : (op == 13) = false := beq_eq_false_iff_ne.2 (by omega)
    have e14 : (op == 14) = false := beq_eq_false_iff_ne.2 (by omega)
    have e15 : (op == 15) = false := beq_eq_false_iff_ne.2 (by omega)
    have e20 : (op == 20) = false := beq_eq_false_iff_ne.2 (by omega)
    have e21 : (op == 21) = false := beq_eq_false_iff_ne.2 (by omega)
    have e17 : (op == 17) = false := beq_eq_false_iff_ne.2 (by omega)
    have e22 : (op == 22) = false := beq_eq_false_iff_ne.2 (by omega)
    have e24 : (op == 24) = false := beq_eq_false_iff_ne.2 (by omega)
    clear hr
    go_enter Try.func51, Try.ntmps51
    go_wp2
    go_ret2
    rw [HM.out]
    exact ⟨rfl, rfl⟩
end PartPgC
section PartRdC
open Go.RowKit

def signs : List UInt8 := [42, 43, 63, 124, 40, 41, 91, 93, 46, 94, 36, 92]
theorem special_yes (c : UInt8) (j : Nat) (h : j < 12) (e : (signs.getD j 0).toNat = c.toNat) : Pp.special c = true := by
  have e2 : signs.getD j 0 = c := UInt8.toNat_inj.1 e
  show signs.contains c = true
  rw [← e2, List.getD_eq_getElem?_getD, List.getElem?_eq_getElem (by exact h)]
  simp only [List.contains_iff_mem, Option.getD_some]
  exact List.getElem_mem _
theorem special_no (c : UInt8) (h : ∀ j, j < 12 → (signs.getD j 0).toNat ≠ c.toNat) : Pp.special c = false := by
  show signs.contains c = false
  rw [Bool.eq_false_iff]
  intro hc
  rw [List.contains_iff_mem] at hc
  obtain ⟨j, hj, e⟩ := List.mem_iff_getElem.1 hc
  refine h j hj ?_
  rw [List.getD_eq_getElem?_getD, List.getElem?_eq_getElem hj, ← e]
  rfl

set_option maxHeartbeats 1000000 in
set_option maxRecDepth 100000 in
theorem special_any (c : UInt8) (w : World) :
    Calls Try.prog 108 #[.int .u8 (c.toNat : Int)] w fun e w' => e = .returned (.bool (Pp.special c)) ∧ w' = w := by
  obtain ⟨x, hx⟩ : ∃ x : ByteArray, x = ⟨signs.toArray⟩ := ⟨_, rfl⟩
  have hxs : x.size = 12 := by rw [hx]; rfl
  have HX : Hid (∀ j (hj : j < x.size), x[j].toNat = (signs.getD j 0).toNat) := by
    intro j hj
    subst hx
    have h12 : j < signs.length := by exact hj
    rw [List.getD_eq_getElem?_getD, List.getElem?_eq_getElem h12]
    rfl
  have hc256 : c.toNat < 256 := c.toNat_lt
  go_enter Try.func108, Try.ntmps108
  go_wp2
  rw [show (⟨#[42, 43, 63, 124, 40, 41, 91, 93, 46, 94, 36, 92]⟩ : ByteArray) = x from hx.symm]
  clear hx
  go_loop [4] (fun i => ∃ k : Nat, i = .int .i64 (k : Int) ∧ k ≤ x.size ∧ Hid (∀ j, j < k → (signs.getD j 0).toNat ≠ c.toNat)) (fun i => x.size - (intOf i).toNat)
  case atStart => exact ⟨0, rfl, by omega, fun j hj => by omega⟩
  case round =>
    obtain ⟨k, rfl, hk, HP⟩ := hrel
    by_cases hlt : k < x.size
    · have h256 : x[k].toNat < 256 := x[k].toNat_lt
      have hxk := HX.out k hlt
      by_cases he : x[k].toNat = c.toNat
      · have HY : Hid (Pp.special c = true) := special_yes c k (by omega) (by omega)
        have d : ((x[k].toNat : Int) == (c.toNat : Int)) = true := by simp; omega
        clear hxk
        go_wp2
        go_ret
        exact ⟨by rw [HY.out]; rfl, rfl⟩
      · have d : ((x[k].toNat : Int) == (c.toNat : Int)) = false := by simp; omega
        have HN : Hid (∀ j, j < k + 1 → (signs.getD j 0).toNat ≠ c.toNat) := by
          intro j hj
          by_cases e : j = k
          · subst e; omega
          · exact HP.out j (by omega)
        clear hxk he
        go_wp2
        go_round
        case rel => exact ⟨k + 1, by go_num, by omega, HN.out⟩
        case measure => simp [intOf]; omega
    · have HY : Hid (Pp.special c = false) := special_no c (fun j hj => HP.out j (by omega))
      go_wp2
      go_ret
      exact ⟨by rw [HY.out]; rfl, rfl⟩
end PartRdC
end Go.Proofs.Ythbblocllicmiap
