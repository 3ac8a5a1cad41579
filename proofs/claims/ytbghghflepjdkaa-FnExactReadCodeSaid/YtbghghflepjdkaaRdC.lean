/- Is it a sign that stands for something else, in a pattern? -/
import Derived.Test.YtbghghflepjdkaaZaa
namespace Go.Proofs.Ytbghghflepjdkaa
open Go.RowKit

def signs : List UInt8 := [42, 43, 63, 124, 40, 41, 91, 93, 46, 94, 36, 92]
theorem special_yes (c : UInt8) (j : Nat) (h : j < 12) (e : (signs.getD j 0).toNat = c.toNat) : Pp.special c = true := by
  have e2 : signs.getD j 0 = c := UInt8.toNat_inj.1 e
  show signs.contains c = true
  rw [← e2, List.getD_eq_getElem?_getD, List.getElem?_eq_getElem (by exact h)]
  simp only [List.contains_iff_mem, Option.getD_some]
  exact List.getElem_mem _
theorem special_no (c : UInt8) (h : ∀ j, j < 12 → (signs.getD j 0).toNat ≠ c.toNat) : Pp.special c = false := by
  show signs.contains c = false
  rw [Bool.eq_false_iff]
  intro hc
  rw [List.contains_iff_mem] at hc
  obtain ⟨j, hj, e⟩ := List.mem_iff_getElem.1 hc
  refine h j hj ?_
  rw [List.getD_eq_getElem?_getD, List.getElem?_eq_getElem hj, ← e]
  rfl

set_option maxHeartbeats 1000000 in
set_option maxRecDepth 100000 in
theorem special_any (c : UInt8) (w : World) :
    Calls Try.prog 82 #[.int .u8 (c.toNat : Int)] w fun e w' => e = .returned (.bool (Pp.special c)) ∧ w' = w := by
  obtain ⟨x, hx⟩ : ∃ x : ByteArray, x = ⟨signs.toArray⟩ := ⟨_, rfl⟩
  have hxs : x.size = 12 := by rw [hx]; rfl
  have HX : Hid (∀ j (hj : j < x.size), x[j].toNat = (signs.getD j 0).toNat) := by
    intro j hj
    subst hx
    have h12 : j < signs.length := by exact hj
    rw [List.getD_eq_getElem?_getD, List.getElem?_eq_getElem h12]
    rfl
  have hc256 : c.toNat < 256 := c.toNat_lt
  go_enter Try.func82, Try.ntmps82
  go_wp2
  rw [show (⟨#[42, 43, 63, 124, 40, 41, 91, 93, 46, 94, 36, 92]⟩ : ByteArray) = x from hx.symm]
  clear hx
  go_loop [4] (fun i => ∃ k : Nat, i = .int .i64 (k : Int) ∧ k ≤ x.size ∧ Hid (∀ j, j < k → (signs.getD j 0).toNat ≠ c.toNat)) (fun i => x.size - (intOf i).toNat)
  case atStart => exact ⟨0, rfl, by omega, fun j hj => by omega⟩
  case round =>
    obtain ⟨k, rfl, hk, HP⟩ := hrel
    by_cases hlt : k < x.size
    · have h256 : x[k].toNat < 256 := x[k].toNat_lt
      have hxk := HX.out k hlt
      by_cases he : x[k].toNat = c.toNat
      · have HY : Hid (Pp.special c = true) := special_yes c k (by omega) (by omega)
        have d : ((x[k].toNat : Int) == (c.toNat : Int)) = true := by simp; omega
        clear hxk
        go_wp2
        go_ret
        exact ⟨by rw [HY.out]; rfl, rfl⟩
      · have d : ((x[k].toNat : Int) == (c.toNat : Int)) = false := by simp; omega
        have HN : Hid (∀ j, j < k + 1 → (signs.getD j 0).toNat ≠ c.toNat) := by
          intro j hj
          by_cases e : j = k
          · subst e; omega
          · exact HP.out j (by omega)
        clear hxk he
        go_wp2
        go_round
        case rel => exact ⟨k + 1, by go_num, by omega, HN.out⟩
        case measure => simp [intOf]; omega
    · have HY : Hid (Pp.special c = false) := special_no c (fun j hj => HP.out j (by omega))
      go_wp2
      go_ret
      exact ⟨by rw [HY.out]; rfl, rfl⟩
end Go.Proofs.Ytbghghflepjdkaa
