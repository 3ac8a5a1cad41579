/- When a program is right: a node's text. -/
import Derived.Test.YtkfkbdgfnopokaaGreatDoorZai
import Derived.Test.YtkfkbdgfnopokaaGreatDoorZam
import Derived.Test.YtkfkbdgfnopokaaGreatDoorZau
namespace Go.Proofs.YtkfkbdgfnopokaaGreatDoor
open Go.RowKit
theorem implReadOk (t : ByteArray) (w : World) (ht : t.size ≤ 1048576) :
  Calls Tryz.prog 116 #[.string t] w fun e w' => ∃ va vn vc, e = .returned (.tuple #[.agg #[.slice va vn vc], .bool (Pp.read t.data.toList).isSome]) ∧ Below w.heap.size w w' := by
 refine (implRead_any t w ht).mono ?_
 rintro e w' ⟨b, k⟩
 cases h : Pp.read t.data.toList with
 | none =>
  rw [h] at k
  obtain rfl : e = _ := k
  exact ⟨_, _, _, rfl, b⟩
 | some p =>
  rw [h] at k
  obtain ⟨v, rfl, k1, k2, k3⟩ := k
  obtain ⟨va, vn, vc, rfl⟩ := k1.form
  exact ⟨va, vn, vc, rfl, b⟩
theorem plain_any (t : ByteArray) (most : Nat) (m : UInt8) : Pg.plain t.data.toList most m = (!anyOf t ⟨#[m, 10]⟩ && decide (t.size ≤ most)) := by
 unfold Pg.plain anyOf
 have e : t.data.toList.length = t.size := by simp
 rw [e]
 congr 1
 generalize t.data.toList = l
 induction l with
 | nil => rfl
 | cons b r ih =>
  rw [List.all_cons, List.any_cons, ih, Bool.not_or]
  congr 1
  simp
  by_cases h1 : b = m <;> by_cases h2 : b = 10 <;> simp [h1, h2]
theorem has_text (t : ByteArray) : ((Pp.read t.data.toList).isSome && Pg.plain t.data.toList 24 47) = ((Pp.read t.data.toList).isSome && !anyOf t ⟨#[47, 10]⟩) := by
 by_cases h : t.size ≤ 24
 ·rw [plain_any, decide_eq_true h, Bool.and_true]
 ·have e : Pp.read t.data.toList = none := by
   unfold Pp.read
   rw [if_neg]
   simp
   omega
  rw [e]
  rfl
set_option maxHeartbeats 4000000 in
set_option maxRecDepth 100000 in
theorem nodeTextOk_any (op : Int) (t : ByteArray) (ka : Option Addr) (kl kc : Nat) (w : World) (ht : t.size ≤ 1048576) :
  Calls Tryz.prog 96 #[.agg #[.int .i64 op, .string t, .slice ka kl kc]] w fun e w' => e = .returned (.bool (Pg.text op t.data.toList)) ∧ Below w.heap.size w w' := by
 obtain ⟨V, hV⟩ : ∃ V, V = Pg.text op t.data.toList := ⟨_, rfl⟩
 rw [← hV]
 have HV : Hid (V = Pg.text op t.data.toList) := hV
 clear hV
 have bA : Below w.heap.size w (w.alloc (.cells #[.int .i64 op, .string t, .slice ka kl kc] 87)) := (Below.refl _ _).alloc (Nat.le_refl _) _
 by_cases h1 : op = 1
 ·have C : Hid (∀ w, Calls Tryz.prog 121 #[.string t] w fun e w' => e = .returned (.bool V) ∧ w' = w) := by
   intro w
   have := implIsNum_any t w (by omega)
   rwa [HV.out, h1]
  subst h1
  have HA : Hid _ := bA
  clear HV bA
  go_enter Tryz.func96, Tryz.ntmps96
  go_wp2_with (go_at_call 121; refine (C.out _).mono ?_; rintro e w2 ⟨rfl, rfl⟩)
  go_ret
  exact ⟨rfl, HA.out⟩
 by_cases h2 : op = 2
 ·have HV2 : Hid (V = Pg.plain t.data.toList 30 34) := by
   show _ = _
   rw [HV.out]
   unfold Pg.text
   rw [if_neg h1, if_pos h2]
  subst h2
  clear HV h1
  obtain ⟨A, hA⟩ : ∃ A, A = anyOf t ⟨#[34, 10]⟩ := ⟨_, rfl⟩
  have HV3 : Hid (V = (!A && decide (t.size ≤ 30))) := by show _ = _; rw [HV2.out, hA]; exact plain_any t 30 34
  have C : Hid (∀ w, Calls Tryz.prog 122 #[.string t, .string ⟨#[34, 10]⟩] w fun e w' => e = .returned (.bool A) ∧ Below w.heap.size w w') := fun w => by rw [hA]; exact containsAny_any t ⟨#[34, 10]⟩ w (by unfold Asc; decide) (by decide) ht (by decide)
  have HA : Hid _ := bA
  clear bA hA HV2
  by_cases h30 : t.size ≤ 30
  ·have d30 : decide ((t.size : Int) ≤ 30) = true := decide_eq_true (by omega)
   have HV4 : Hid (V = !A) := HV3.out.trans (by rw [decide_eq_true h30]; exact Bool.and_true _)
   clear HV3 h30
   go_enter Tryz.func96, Tryz.ntmps96
   go_wp2_with fail
   refine (C.out _).mono ?_
   rintro e w2 ⟨rfl, b2⟩
   go_wp2
   go_ret
   exact ⟨by rw [HV4.out]; rfl, HA.out.trans (b2.mono (by simp))⟩
  ·have d30 : decide ((t.size : Int) ≤ 30) = false := decide_eq_false (by omega)
   have HV4 : Hid (V = false) := HV3.out.trans (by rw [decide_eq_false h30]; exact Bool.and_false _)
   clear HV3 h30 C
   go_enter Tryz.func96, Tryz.ntmps96
   go_wp2
   go_ret
   exact ⟨by rw [HV4.out]; rfl, HA.out⟩
 by_cases h3 : op = 3 ∨ op = 4 ∨ op = 18 ∨ op = 19 ∨ op = 20 ∨ op = 21 ∨ op = 25
 ·have C : Hid (∀ w, Calls Tryz.prog 123 #[.string t] w fun e w' => e = .returned (.bool V) ∧ Below w.heap.size w w') := by
   intro w
   have := isName_any t w
   rw [HV.out]
   unfold Pg.text
   rw [if_neg h1, if_neg h2, if_pos h3]
   exact this
  clear HV h1 h2
  rcases h3 with rfl | rfl | rfl | rfl | rfl | rfl | rfl
  all_goals
   have HA : Hid _ := bA
   clear bA
   go_enter Tryz.func96, Tryz.ntmps96
   go_wp2_with (go_at_call 123; refine (C.out _).mono ?_; rintro e w2 ⟨rfl, b2⟩)
   go_ret
   exact ⟨rfl, HA.out.trans (b2.mono (by simp))⟩
 by_cases h4 : op = 16
 ·have HV2 : Hid (V = ((Pp.read t.data.toList).isSome && Pg.plain t.data.toList 24 47)) := by
   show _ = _
   rw [HV.out]
   unfold Pg.text
   rw [if_neg h1, if_neg h2, if_neg h3, if_pos h4]
  subst h4
  clear HV h1 h2 h3
  obtain ⟨ok, hok⟩ : ∃ ok, ok = (Pp.read t.data.toList).isSome := ⟨_, rfl⟩
  obtain ⟨A, hA⟩ : ∃ A, A = anyOf t ⟨#[47, 10]⟩ := ⟨_, rfl⟩
  have HV3 : Hid (V = (ok && !A)) := by show _ = _; rw [HV2.out, hok, hA]; exact has_text t
  clear HV2
  have C : Hid (∀ w, Calls Tryz.prog 116 #[.string t] w fun e w' => ∃ va vn vc, e = .returned (.tuple #[.agg #[.slice va vn vc], .bool ok]) ∧ Below w.heap.size w w') := by
   intro w
   rw [hok]
   exact implReadOk t w ht
  have CP : Hid (∀ w, Calls Tryz.prog 122 #[.string t, .string ⟨#[47, 10]⟩] w fun e w' => e = .returned (.bool A) ∧ Below w.heap.size w w') := fun w => by rw [hA]; exact containsAny_any t ⟨#[47, 10]⟩ w (by unfold Asc; decide) (by decide) ht (by decide)
  clear hok hA
  have hA0 := heap_alloc_new w (.cells #[.int .i64 16, .string t, .slice ka kl kc] 87)
  have HA : Hid _ := bA
  have hl0 : w.heap.size < (w.alloc (.cells #[.int .i64 16, .string t, .slice ka kl kc] 87)).heap.size := by simp
  clear bA
  go_enter Tryz.func96, Tryz.ntmps96
  go_wp2_with fail
  refine (C.out _).mono ?_
  rintro e w2 ⟨va, vn, vc, rfl, b2⟩
  have c1 : w2.cell? ⟨w.heap.size, 1, none⟩ = some (.string t) := by
   rw [b2.cell (p := ⟨w.heap.size, 1, none⟩) hl0, blk_cell hA0]
   rfl
  have HB2 : Hid (Below w.heap.size w w2) := HA.out.trans (b2.mono (by simp))
  have hsz := HB2.out.size
  have c2 : (w2.alloc (.cells #[.slice va vn vc] 144)).cell? ⟨w.heap.size, 1, none⟩ = some (.string t) := (((Below.refl w2.heap.size w2).alloc (Nat.le_refl _) _).cell (p := ⟨w.heap.size, 1, none⟩) (World.block_lt_of_cell? w2 _ c1)).trans c1
  clear b2 hA0 HA C hl0 c1
  cases ok with
  | false =>
   clear CP
   go_wp2
   go_ret
   exact ⟨by rw [HV3.out]; rfl, HB2.out.alloc hsz _⟩
  | true =>
   have HBA : Hid (Below w.heap.size w (w2.alloc (.cells #[.slice va vn vc] 144))) := HB2.out.alloc hsz _
   go_wp2_with fail
   refine (CP.out _).mono ?_
   rintro e w3 ⟨rfl, b3⟩
   have HV4 : Hid (V = !A) := HV3.out
   clear HV3
   go_wp2
   go_ret
   exact ⟨by rw [HV4.out]; rfl, HBA.out.trans (b3.mono HBA.out.size)⟩
 have HV2 : Hid (V = t.data.toList.isEmpty) := by
  show _ = _
  rw [HV.out]
  unfold Pg.text
  rw [if_neg h1, if_neg h2, if_neg h3, if_neg h4]
 have e1 : (op == 1) = false := beq_eq_false_iff_ne.2 h1
 have e2 : (op == 2) = false := beq_eq_false_iff_ne.2 h2
 have e3 : (op == 3) = false := beq_eq_false_iff_ne.2 (by omega)
 have e4 : (op == 4) = false := beq_eq_false_iff_ne.2 (by omega)
 have e18 : (op == 18) = false := beq_eq_false_iff_ne.2 (by omega)
 have e19 : (op == 19) = false := beq_eq_false_iff_ne.2 (by omega)
 have e20 : (op == 20) = false := beq_eq_false_iff_ne.2 (by omega)
 have e21 : (op == 21) = false := beq_eq_false_iff_ne.2 (by omega)
 have e25 : (op == 25) = false := beq_eq_false_iff_ne.2 (by omega)
 have e16 : (op == 16) = false := beq_eq_false_iff_ne.2 h4
 have HA : Hid _ := bA
 have HE : Hid (t.toList.isEmpty = t.data.toList.isEmpty) := by show _ = _; rw [Lib.toList_data]
 clear HV bA h1 h2 h3 h4
 go_enter Tryz.func96, Tryz.ntmps96
 go_wp2
 go_ret
 refine ⟨?_, HA.out⟩
 rw [HV2.out, ← HE.out]
 rfl
end Go.Proofs.YtkfkbdgfnopokaaGreatDoor
