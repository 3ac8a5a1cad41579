/- What ReadPattern of the program answers, at every text. The program's CodeOk: what an instruction takes and puts, its arg, where it goes on. -/
import Derived.Test.YthbblocllicmiaqZau
import Derived.Test.YthbblocllicmiaqZah
import Derived.Test.YthbblocllicmiaqZaj
import Derived.Test.YthbblocllicmiaqCdA
import Derived.Test.YthbblocllicmiaqZas
namespace Go.Proofs.Ythbblocllicmiaq
section PartRiG
open Go.RowKit

set_option maxHeartbeats 2000000 in
set_option maxRecDepth 100000 in
theorem implRead_any (s : ByteArray) (w : World) (hs : s.size ≤ 1048576) :
    Calls Try.prog 72 #[.string s] w fun e w' => Below w.heap.size w w' ∧ Answer w' w.heap.size (Pp.read s.data.toList) e := by
  have hsl : s.data.toList.length = s.size := by simp
  by_cases hin : 1 ≤ s.size ∧ s.size ≤ 24
  · have hem : s.toList.isEmpty = false := by
      rw [Lib.toList_data]
      cases hq : s.data.toList with
      | nil => rw [hq] at hsl; simp at hsl; omega
      | cons b r => rfl
    have d24 : decide ((24 : Int) < (s.size : Int)) = false := decide_eq_false (by omega)
    obtain ⟨R, hR⟩ : ∃ R, R = Pp.read s.data.toList := ⟨_, rfl⟩
    have HR : Hid (R = match Pp.alt s.data.toList 200 0 [] with
        | none => none
        | some (e, o, _) => if e < s.size then none else some o) := by
      show _ = _
      rw [hR, Pp.read, hsl, if_pos hin]
      rfl
    rw [← hR]
    clear hR
    have HA := riAll (w.heap.size + 2) (w.heap.size + 1) s.data.toList (by omega) (by omega) 200 (Nat.le_refl _) 0 (.slice none 0 0) []
    have CA : Hid (∀ w1 : World, Ri w1 (w.heap.size + 1) s.data.toList 0 (.slice none 0 0) → w.heap.size + 2 ≤ w1.heap.size → Calls Try.prog 80 #[.pointer (some ⟨w.heap.size + 1, 0, none⟩)] w1 (RiPost (w.heap.size + 2) (w.heap.size + 1) s.data.toList w1 300 (Pp.alt s.data.toList 200 0 []))) :=
      fun w1 h1 h2 => HA w1 h1 ⟨fun _ => 0, [], World.ownsRow_nil _ _ _ _, fun i hi => by simp at hi, fun i j _ hj => by simp at hj⟩ h2 (by omega) (by simp; omega) (by omega)
    have hst : (⟨(s.data.toList.drop 0).toArray⟩ : ByteArray) = s := by apply ByteArray.ext; simp
    have HI : Hid (∀ A : Obj, Ri ((w.alloc A).alloc (.cells #[.string s, .slice none 0 0] 121)) (w.heap.size + 1) s.data.toList 0 (.slice none 0 0)) := by
      intro A
      show _ = _
      rw [alloc2_1, hst]
    clear HA hst
    go_enter Try.func72, Try.ntmps72
    go_wp2_with fail
    refine (CA.out _ (HI.out _) (by simp)).mono ?_
    intro e w5 hpost
    clear CA HI
    obtain ⟨hfb, hpost⟩ := hpost
    have B5 : Below w.heap.size w w5 := (((Below.refl _ _).alloc (Nat.le_refl _) _).alloc (by simp) _).trans (hfb.below (by omega) (by omega))
    have r0 := hfb.2.1 w.heap.size (by omega) (by omega)
    rw [alloc2_0] at r0
    have hsz5 : w.heap.size + 2 ≤ w5.heap.size := by have := hfb.1; simp at this; omega
    clear hfb
    have x0 := blk_cell r0 0
    have y0 := blk_free r0 0
    simp at x0
    cases hA : Pp.alt s.data.toList 200 0 [] with
    | none =>
      rw [hA] at hpost
      obtain ⟨k, a', v', n', cs', rfl, r', p', hn'⟩ := hpost
      have HRN : Hid (R = none) := by show _ = _; rw [HR.out, hA]
      clear HR hA
      go_wp2_with fail
      refine bodyPost_ret (res_pat rfl _ _ w.heap.size (.slice none 0 0) rfl (blk_set r0 0 (.slice none 0 0))) rfl ?_
      rw [HRN.out]
      exact ⟨B5.setCell (by exact Nat.le_refl _) _, rfl⟩
    | some r =>
      obtain ⟨e5, o5, k5⟩ := r
      rw [hA] at hpost
      obtain ⟨rfl, v', r', p'⟩ := hpost
      have hbd := (Pp.bd s.data.toList 200).alt 0 [] e5 o5 k5 (by omega) hA
      have hpos : 0 < o5.length := Pp.alt_pos _ _ _ _ _ _ _ hA
      simp at hbd
      have ho : o5.length ≤ 60 := by omega
      obtain ⟨c0, c1, f0, f1⟩ := cells2 r'
      obtain ⟨x, hx⟩ : ∃ x, x = tx (s.data.toList.drop e5) := ⟨_, rfl⟩
      have c0' : w5.cell? ⟨w.heap.size + 1, 0, none⟩ = some (.string x) := by rw [hx]; exact c0
      by_cases hend : e5 < s.size
      · have HRN : Hid (R = none) := by show _ = _; rw [HR.out, hA]; simp only [hend, ↓reduceIte]
        have hxe : x.toList.isEmpty = false := by
          rw [hx, tx_empty]
          cases hq : s.data.toList.drop e5 with
          | nil => have := congrArg List.length hq; simp at this; omega
          | cons b r => rfl
        clear HR hA hx c0
        go_wp2_with fail
        refine bodyPost_ret (res_pat rfl _ _ w.heap.size (.slice none 0 0) rfl (blk_set r0 0 (.slice none 0 0))) rfl ?_
        rw [HRN.out]
        exact ⟨B5.setCell (by exact Nat.le_refl _) _, rfl⟩
      · have HRS : Hid (R = some o5) := by show _ = _; rw [HR.out, hA]; simp only [hend, ↓reduceIte]
        have hxe : x.toList.isEmpty = true := by
          rw [hx, tx_empty, List.drop_of_length_le (by omega)]
          rfl
        obtain ⟨ad, cc, rfl⟩ : ∃ ad cc, v' = .slice ad o5.length cc := by
          obtain ⟨_, cs, hp, _⟩ := p'
          rcases hp.2 with ⟨rfl, h0⟩ | ⟨g, cap, cur, rfl, _⟩
          · exact ⟨none, 0, by rw [h0]⟩
          · exact ⟨_, _, rfl⟩
        have d60 : decide ((60 : Int) < (o5.length : Int)) = false := decide_eq_false (by omega)
        have HP' : Hid (RP (w.heap.size + 2) w5 (.slice ad o5.length cc) o5) := p'
        clear HR hA p' hx c0
        go_wp2_with fail
        refine bodyPost_ret (res_pat rfl _ _ w.heap.size (.slice ad o5.length cc) rfl (blk_set r0 0 (.slice ad o5.length cc))) rfl ?_
        rw [HRS.out]
        refine ⟨B5.setCell (by exact Nat.le_refl _) _, _, rfl, ?_, hpos, ho⟩
        exact RP.lower (RP.setg HP'.out (by omega) 0 _) (by omega)
  · have HR : Hid (Pp.read s.data.toList = none) := by show _ = _; rw [Pp.read, hsl, if_neg hin]
    by_cases h0 : s.size = 0
    · have hem : s.toList.isEmpty = true := by
        rw [Lib.toList_data, List.eq_nil_of_length_eq_zero (l := s.data.toList) (by omega)]
        rfl
      go_enter Try.func72, Try.ntmps72
      go_wp2_with fail
      refine bodyPost_ret (res_pat rfl _ _ w.heap.size (.slice none 0 0) rfl (heap_alloc_new _ _)) rfl ?_
      rw [HR.out]
      exact ⟨(Below.refl _ _).alloc (Nat.le_refl _) _, rfl⟩
    · have hem : s.toList.isEmpty = false := by
        rw [Lib.toList_data]
        cases hq : s.data.toList with
        | nil => rw [hq] at hsl; simp at hsl; omega
        | cons b r => rfl
      have d24 : decide ((24 : Int) < (s.size : Int)) = true := decide_eq_true (by omega)
      go_enter Try.func72, Try.ntmps72
      go_wp2_with fail
      refine bodyPost_ret (res_pat rfl _ _ w.heap.size (.slice none 0 0) rfl (heap_alloc_new _ _)) rfl ?_
      rw [HR.out]
      exact ⟨(Below.refl _ _).alloc (Nat.le_refl _) _, rfl⟩
end PartRiG
section PartCdD
open Go.RowKit

set_option maxHeartbeats 4000000 in
set_option maxRecDepth 100000 in
theorem stackUse_any (op arg : Int) (w : World) : Calls Try.prog 66 #[.agg #[.int .i64 op, .int .i64 arg]] w fun e w' => e = .returned (.tuple #[.int .i64 (Cd.needs ⟨op, arg⟩).1, .int .i64 (Cd.needs ⟨op, arg⟩).2]) ∧ Below w.heap.size w w' := by
  have HA : Hid (Below w.heap.size w (w.alloc (.cells #[.int .i64 op, .int .i64 arg] 55))) := (Below.refl _ _).alloc (Nat.le_refl _) _
  by_cases hr : 1 ≤ op ∧ op ≤ 24
  · rcases (show op = 1 ∨ op = 2 ∨ op = 3 ∨ op = 4 ∨ op = 5 ∨ op = 6 ∨ op = 7 ∨ op = 8 ∨ op = 9 ∨ op = 10 ∨ op = 11 ∨ op = 12 ∨ op = 13 ∨ op = 14 ∨ op = 15 ∨ op = 16 ∨ op = 17 ∨ op = 18 ∨ op = 19 ∨ op = 20 ∨ op = 21 ∨ op = 22 ∨ op = 23 ∨ op = 24 by omega) with rfl | rfl | rfl | rfl | rfl | rfl | rfl | rfl | rfl | rfl | rfl | rfl | rfl | rfl | rfl | rfl | rfl | rfl | rfl | rfl | rfl | rfl | rfl | rfl
    all_goals
      go_enter Try.func66, Try.ntmps66
      go_wp2
      go_ret2
      exact ⟨rfl, HA.out⟩
  · have HM : Hid (Cd.needs ⟨op, arg⟩ = (0, 0)) := by
      show _ = _
      unfold Cd.needs
      simp only
      rw [if_neg (by omega), if_neg (by omega), if_neg (by omega), if_neg (by omega), if_neg (by omega), if_neg (by omega)]
    have e1 : (op == 1) = false := beq_eq_false_iff_ne.2 (by omega)
    have e2 : (op == 2) = false := beq_eq_false_iff_ne.2 (by omega)
    have e3 : (op == 3) = false := beq_eq_false_iff_ne.2 (by omega)
    have e4 : (op == 4) = false := beq_eq_false_iff_ne.2 (by omega)
    have e5 : (op == 5) = false := beq_eq_false_iff_ne.2 (by omega)
    have e6 : (op == 6) = false := beq_eq_false_iff_ne.2 (by omega)
    have e7 : (op == 7) = false := beq_eq_false_iff_ne.2 (by omega)
    have e8 : (op == 8) = false := beq_eq_false_iff_ne.2 (by omega)
    have e9 : (op == 9) = false := beq_eq_false_iff_ne.2 (by omega)
    have e10 : (op == 10) = false := beq_eq_false_iff_ne.2 (by omega)
    have e11 : (op == 11) = false := beq_eq_false_iff_ne.2 (by omega)
    have e12 : (op == 12) = false := beq_eq_false_iff_ne.2 (by omega)
    have e13 : (op == 13) = false := beq_eq_false_iff_ne.2 (by omega)
    have e14 : (op == 14) = false := beq_eq_false_iff_ne.2 (by omega)
    have e15 : (op == 15) = false := beq_eq_false_iff_ne.2 (by omega)
    have e16 : (op == 16) = false := beq_eq_false_iff_ne.2 (by omega)
    have e17 : (op == 17) = false := beq_eq_false_iff_ne.2 (by omega)
    have e18 : (op == 18) = false := beq_eq_false_iff_ne.2 (by omega)
    have e19 : (op == 19) = false := beq_eq_false_iff_ne.2 (by omega)
    have e20 : (op == 20) = false := beq_eq_false_iff_ne.2 (by omega)
    have e21 : (op == 21) = false := beq_eq_false_iff_ne.2 (by omega)
    have e22 : (op == 22) = false := beq_eq_false_iff_ne.2 (by omega)
    have e23 : (op == 23) = false := beq_eq_false_iff_ne.2 (by omega)
    have e24 : (op == 24) = false := beq_eq_false_iff_ne.2 (by omega)
    clear hr
    go_enter Try.func66, Try.ntmps66
    go_wp2
    go_ret2
    rw [HM.out]
    exact ⟨rfl, HA.out⟩

/-- Its arg is a place of a text. -/
def Cd.named (op : Int) : Bool := decide (op = 1 ∨ op = 2 ∨ op = 3 ∨ op = 15 ∨ op = 17 ∨ op = 18 ∨ op = 19 ∨ op = 20 ∨ op = 24)
set_option maxHeartbeats 4000000 in
set_option maxRecDepth 100000 in
theorem namesText_any (op : Int) (w : World) : Calls Try.prog 63 #[.int .i64 op] w fun e w' => e = .returned (.bool (Cd.named op)) ∧ w' = w := by
  by_cases hr : op = 1 ∨ op = 2 ∨ op = 3 ∨ op = 15 ∨ op = 17 ∨ op = 18 ∨ op = 19 ∨ op = 20 ∨ op = 24
  · rcases hr with rfl | rfl | rfl | rfl | rfl | rfl | rfl | rfl | rfl
    all_goals
      go_enter Try.func63, Try.ntmps63
      go_wp2
      go_ret
      exact ⟨rfl, rfl⟩
  · have HM : Hid (Cd.named op = false) := decide_eq_false hr
    have e1 : (op == 1) = false := beq_eq_false_iff_ne.2 (by omega)
    have e2 : (op == 2) = false := beq_eq_false_iff_ne.2 (by omega)
    have e3 : (op == 3) = false := beq_eq_false_iff_ne.2 (by omega)
    have e15 : (op == 15) = false := beq_eq_false_iff_ne.2 (by omega)
    have e17 : (op == 17) = false := beq_eq_false_iff_ne.2 (by omega)
    have e18 : (op == 18) = false := beq_eq_false_iff_ne.2 (by omega)
    have e19 : (op == 19) = false := beq_eq_false_iff_ne.2 (by omega)
    have e20 : (op == 20) = false := beq_eq_false_iff_ne.2 (by omega)
    have e24 : (op == 24) = false := beq_eq_false_iff_ne.2 (by omega)
    clear hr
    go_enter Try.func63, Try.ntmps63
    go_wp2
    go_ret
    rw [HM.out]
    exact ⟨rfl, rfl⟩

/-- The program's ReadPattern: whether it is read. -/
theorem imReadOk (t : ByteArray) (w : World) (ht : t.size ≤ 1048576) :
    Calls Try.prog 72 #[.string t] w fun e w' => ∃ va vn vc, e = .returned (.tuple #[.agg #[.slice va vn vc], .bool (Pp.read t.data.toList).isSome]) ∧ Below w.heap.size w w' := by
  refine (implRead_any t w ht).mono ?_
  rintro e w' ⟨b, k⟩
  cases h : Pp.read t.data.toList with
  | none =>
    rw [h] at k
    obtain rfl : e = _ := k
    exact ⟨_, _, _, rfl, b⟩
  | some p =>
    rw [h] at k
    obtain ⟨v, rfl, k1, k2, k3⟩ := k
    obtain ⟨va, vn, vc, rfl⟩ := k1.form
    exact ⟨va, vn, vc, rfl, b⟩

/-- Does a text fit its op? -/
def Cd.fits (op : Int) (t : List UInt8) : Bool := if op = 1 then true else if op = 15 then (Pp.read t).isSome else Cd.nm t
set_option maxHeartbeats 4000000 in
set_option maxRecDepth 100000 in
theorem textFits_any (op : Int) (t : ByteArray) (w : World) (ht : t.size ≤ 1048576) : Calls Try.prog 64 #[.int .i64 op, .string t] w fun e w' => e = .returned (.bool (Cd.fits op t.data.toList)) ∧ Below w.heap.size w w' := by
  obtain ⟨V, hV⟩ : ∃ V, V = Cd.fits op t.data.toList := ⟨_, rfl⟩
  rw [← hV]
  have HV : Hid (V = Cd.fits op t.data.toList) := hV
  clear hV
  by_cases h1 : op = 1
  · subst h1
    have HV2 : Hid (V = true) := HV.out
    clear HV
    go_enter Try.func64, Try.ntmps64
    go_wp2
    go_ret
    exact ⟨by rw [HV2.out]; rfl, Below.refl _ _⟩
  by_cases h2 : op = 15
  · subst h2
    have C : Hid (∀ w, Calls Try.prog 72 #[.string t] w fun e w' => ∃ va vn vc, e = .returned (.tuple #[.agg #[.slice va vn vc], .bool V]) ∧ Below w.heap.size w w') := fun w => by rw [HV.out]; exact imReadOk t w ht
    clear HV h1
    go_enter Try.func64, Try.ntmps64
    go_wp2_with (go_at_call 72; refine (C.out _).mono ?_; rintro e w2 ⟨va, vn, vc, rfl, b2⟩)
    go_ret
    exact ⟨rfl, b2.alloc b2.size _⟩
  · have C : Hid (∀ w, Calls Try.prog 73 #[.string t] w fun e w' => e = .returned (.bool V) ∧ Below w.heap.size w w') := fun w => by
      rw [HV.out, Cd.fits, if_neg h1, if_neg h2]
      exact isOf_any t w
    have e1 : (op == 1) = false := beq_eq_false_iff_ne.2 h1
    have e2 : (op == 15) = false := beq_eq_false_iff_ne.2 h2
    clear HV h1 h2
    go_enter Try.func64, Try.ntmps64
    go_wp2_with (go_at_call 73; refine (C.out _).mono ?_; rintro e w2 ⟨rfl, b2⟩)
    go_ret
    exact ⟨rfl, b2⟩

end PartCdD
end Go.Proofs.Ythbblocllicmiaq
