/- The program's CodeOk: what an instruction takes and puts, its arg, where it goes on. -/
import Derived.Test.YtlpdjmjbppmibaaGreatMPJoZag
import Derived.Test.YtlpdjmjbppmibaaGreatMPJoCdA
import Derived.Test.YtlpdjmjbppmibaaGreatMPJoZau
import Derived.Test.YtlpdjmjbppmibaaGreatMPJoZav
namespace Go.Proofs.YtlpdjmjbppmibaaGreat
open Go.RowKit

set_option maxHeartbeats 4000000 in
set_option maxRecDepth 100000 in
theorem stackUse_any (op arg : Int) (w : World) : Calls Tryz.prog 102 #[.agg #[.int .i64 op, .int .i64 arg]] w fun e w' => e = .returned (.tuple #[.int .i64 (Cd.needs ⟨op, arg⟩).1, .int .i64 (Cd.needs ⟨op, arg⟩).2]) ∧ Below w.heap.size w w' := by
  have HA : Hid (Below w.heap.size w (w.alloc (.cells #[.int .i64 op, .int .i64 arg] 105))) := (Below.refl _ _).alloc (Nat.le_refl _) _
  by_cases hr : 1 ≤ op ∧ op ≤ 24
  · rcases (show op = 1 ∨ op = 2 ∨ op = 3 ∨ op = 4 ∨ op = 5 ∨ op = 6 ∨ op = 7 ∨ op = 8 ∨ op = 9 ∨ op = 10 ∨ op = 11 ∨ op = 12 ∨ op = 13 ∨ op = 14 ∨ op = 15 ∨ op = 16 ∨ op = 17 ∨ op = 18 ∨ op = 19 ∨ op = 20 ∨ op = 21 ∨ op = 22 ∨ op = 23 ∨ op = 24 by omega) with rfl | rfl | rfl | rfl | rfl | rfl | rfl | rfl | rfl | rfl | rfl | rfl | rfl | rfl | rfl | rfl | rfl | rfl | rfl | rfl | rfl | rfl | rfl | rfl
    all_goals
      go_enter Tryz.func102, Tryz.ntmps102
      go_wp2
      go_ret2
      exact ⟨rfl, HA.out⟩
  · have HM : Hid (Cd.needs ⟨op, arg⟩ = (0, 0)) := by
      show _ = _
      unfold Cd.needs
      simp only
      rw [if_neg (by omega), if_neg (by omega), if_neg (by omega), if_neg (by omega), if_neg (by omega), if_neg (by omega)]
    have e1 : (op == 1) = false := beq_eq_false_iff_ne.2 (by omega)
    have e2 : (op == 2) = false := beq_eq_false_iff_ne.2 (by omega)
    have e3 : (op == 3) = false := beq_eq_false_iff_ne.2 (by omega)
    have e4 : (op == 4) = false := beq_eq_false_iff_ne.2 (by omega)
    have e5 : (op == 5) = false := beq_eq_false_iff_ne.2 (by omega)
    have e6 : (op == 6) = false := beq_eq_false_iff_ne.2 (by omega)
    have e7 : (op == 7) = false := beq_eq_false_iff_ne.2 (by omega)
    have e8 : (op == 8) = false := beq_eq_false_iff_ne.2 (by omega)
    have e9 : (op == 9) = false := beq_eq_false_iff_ne.2 (by omega)
    have e10 : (op == 10) = false := beq_eq_false_iff_ne.2 (by omega)
    have e11 : (op == 11) = false := beq_eq_false_iff_ne.2 (by omega)
    have e12 : (op == 12) = false := beq_eq_false_iff_ne.2 (by omega)
    have e13 : (op == 13) = false := beq_eq_false_iff_ne.2 (by omega)
    have e14 : (op == 14) = false := beq_eq_false_iff_ne.2 (by omega)
    have e15 : (op == 15) = false := beq_eq_false_iff_ne.2 (by omega)
    have e16 : (op == 16) = false := beq_eq_false_iff_ne.2 (by omega)
    have e17 : (op == 17) = false := beq_eq_false_iff_ne.2 (by omega)
    have e18 : (op == 18) = false := beq_eq_false_iff_ne.2 (by omega)
    have e19 : (op == 19) = false := beq_eq_false_iff_ne.2 (by omega)
    have e20 : (op == 20) = false := beq_eq_false_iff_ne.2 (by omega)
    have e21 : (op == 21) = false := beq_eq_false_iff_ne.2 (by omega)
    have e22 : (op == 22) = false := beq_eq_false_iff_ne.2 (by omega)
    have e23 : (op == 23) = false := beq_eq_false_iff_ne.2 (by omega)
    have e24 : (op == 24) = false := beq_eq_false_iff_ne.2 (by omega)
    clear hr
    go_enter Tryz.func102, Tryz.ntmps102
    go_wp2
    go_ret2
    rw [HM.out]
    exact ⟨rfl, HA.out⟩

/-- Its arg is a place of a text. -/
def Cd.named (op : Int) : Bool := decide (op = 1 ∨ op = 2 ∨ op = 3 ∨ op = 15 ∨ op = 17 ∨ op = 18 ∨ op = 19 ∨ op = 20 ∨ op = 24)
set_option maxHeartbeats 4000000 in
set_option maxRecDepth 100000 in
theorem namesText_any (op : Int) (w : World) : Calls Tryz.prog 99 #[.int .i64 op] w fun e w' => e = .returned (.bool (Cd.named op)) ∧ w' = w := by
  by_cases hr : op = 1 ∨ op = 2 ∨ op = 3 ∨ op = 15 ∨ op = 17 ∨ op = 18 ∨ op = 19 ∨ op = 20 ∨ op = 24
  · rcases hr with rfl | rfl | rfl | rfl | rfl | rfl | rfl | rfl | rfl
    all_goals
      go_enter Tryz.func99, Tryz.ntmps99
      go_wp2
      go_ret
      exact ⟨rfl, rfl⟩
  · have HM : Hid (Cd.named op = false) := decide_eq_false hr
    have e1 : (op == 1) = false := beq_eq_false_iff_ne.2 (by omega)
    have e2 : (op == 2) = false := beq_eq_false_iff_ne.2 (by omega)
    have e3 : (op == 3) = false := beq_eq_false_iff_ne.2 (by omega)
    have e15 : (op == 15) = false := beq_eq_false_iff_ne.2 (by omega)
    have e17 : (op == 17) = false := beq_eq_false_iff_ne.2 (by omega)
    have e18 : (op == 18) = false := beq_eq_false_iff_ne.2 (by omega)
    have e19 : (op == 19) = false := beq_eq_false_iff_ne.2 (by omega)
    have e20 : (op == 20) = false := beq_eq_false_iff_ne.2 (by omega)
    have e24 : (op == 24) = false := beq_eq_false_iff_ne.2 (by omega)
    clear hr
    go_enter Tryz.func99, Tryz.ntmps99
    go_wp2
    go_ret
    rw [HM.out]
    exact ⟨rfl, rfl⟩

/-- The program's ReadPattern: whether it is read. -/
theorem imReadOk (t : ByteArray) (w : World) (ht : t.size ≤ 1048576) :
    Calls Tryz.prog 109 #[.string t] w fun e w' => ∃ va vn vc, e = .returned (.tuple #[.agg #[.slice va vn vc], .bool (Pp.read t.data.toList).isSome]) ∧ Below w.heap.size w w' := by
  refine (implRead_any t w ht).mono ?_
  rintro e w' ⟨b, k⟩
  cases h : Pp.read t.data.toList with
  | none =>
    rw [h] at k
    obtain rfl : e = _ := k
    exact ⟨_, _, _, rfl, b⟩
  | some p =>
    rw [h] at k
    obtain ⟨v, rfl, k1, k2, k3⟩ := k
    obtain ⟨va, vn, vc, rfl⟩ := k1.form
    exact ⟨va, vn, vc, rfl, b⟩

/-- Does a text fit its op? -/
def Cd.fits (op : Int) (t : List UInt8) : Bool := if op = 1 then true else if op = 15 then (Pp.read t).isSome else Cd.nm t
set_option maxHeartbeats 4000000 in
set_option maxRecDepth 100000 in
theorem textFits_any (op : Int) (t : ByteArray) (w : World) (ht : t.size ≤ 1048576) : Calls Tryz.prog 100 #[.int .i64 op, .string t] w fun e w' => e = .returned (.bool (Cd.fits op t.data.toList)) ∧ Below w.heap.size w w' := by
  obtain ⟨V, hV⟩ : ∃ V, V = Cd.fits op t.data.toList := ⟨_, rfl⟩
  rw [← hV]
  have HV : Hid (V = Cd.fits op t.data.toList) := hV
  clear hV
  by_cases h1 : op = 1
  · subst h1
    have HV2 : Hid (V = true) := HV.out
    clear HV
    go_enter Tryz.func100, Tryz.ntmps100
    go_wp2
    go_ret
    exact ⟨by rw [HV2.out]; rfl, Below.refl _ _⟩
  by_cases h2 : op = 15
  · subst h2
    have C : Hid (∀ w, Calls Tryz.prog 109 #[.string t] w fun e w' => ∃ va vn vc, e = .returned (.tuple #[.agg #[.slice va vn vc], .bool V]) ∧ Below w.heap.size w w') := fun w => by rw [HV.out]; exact imReadOk t w ht
    clear HV h1
    go_enter Tryz.func100, Tryz.ntmps100
    go_wp2_with (go_at_call 109; refine (C.out _).mono ?_; rintro e w2 ⟨va, vn, vc, rfl, b2⟩)
    go_ret
    exact ⟨rfl, b2.alloc b2.size _⟩
  · have C : Hid (∀ w, Calls Tryz.prog 25 #[.string t] w fun e w' => e = .returned (.bool V) ∧ Below w.heap.size w w') := fun w => by
      rw [HV.out, Cd.fits, if_neg h1, if_neg h2]
      exact isOf_any t w
    have e1 : (op == 1) = false := beq_eq_false_iff_ne.2 h1
    have e2 : (op == 15) = false := beq_eq_false_iff_ne.2 h2
    clear HV h1 h2
    go_enter Tryz.func100, Tryz.ntmps100
    go_wp2_with (go_at_call 25; refine (C.out _).mono ?_; rintro e w2 ⟨rfl, b2⟩)
    go_ret
    exact ⟨rfl, b2⟩

end Go.Proofs.YtlpdjmjbppmibaaGreat
