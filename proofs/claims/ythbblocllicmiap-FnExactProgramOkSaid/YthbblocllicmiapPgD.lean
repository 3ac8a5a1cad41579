/- The specification of ProgramOk: a node's text. -/
import Derived.Test.YthbblocllicmiapZak
import Derived.Test.YthbblocllicmiapZao
namespace Go.Proofs.Ythbblocllicmiap
open Go.RowKit

/-- The specification's ReadPattern: whether it is read. -/
theorem spReadOk (t : ByteArray) (w : World) (ht : t.size ≤ 1048576) :
    Calls Try.prog 41 #[.string t] w fun e w' => ∃ va vn vc, e = .returned (.tuple #[.agg #[.slice va vn vc], .bool (Pp.read t.data.toList).isSome]) ∧ Below w.heap.size w w' := by
  refine (specRead_any t w ht).mono ?_
  rintro e w' ⟨b, k⟩
  cases h : Pp.read t.data.toList with
  | none =>
    rw [h] at k
    obtain rfl : e = _ := k
    exact ⟨_, _, _, rfl, b⟩
  | some p =>
    rw [h] at k
    obtain ⟨v, rfl, k1, k2, k3⟩ := k
    obtain ⟨va, vn, vc, rfl⟩ := k1.form
    exact ⟨va, vn, vc, rfl, b⟩

set_option maxHeartbeats 4000000 in
set_option maxRecDepth 100000 in
theorem spNodeText (op : Int) (t : ByteArray) (ka : Option Addr) (kl kc : Nat) (w : World) (ht : t.size ≤ 1048576) :
    Calls Try.prog 52 #[.agg #[.int .i64 op, .string t, .slice ka kl kc]] w fun e w' => e = .returned (.bool (Pg.text op t.data.toList)) ∧ Below w.heap.size w w' := by
  obtain ⟨V, hV⟩ : ∃ V, V = Pg.text op t.data.toList := ⟨_, rfl⟩
  rw [← hV]
  have HV : Hid (V = Pg.text op t.data.toList) := hV
  clear hV
  have bA : Below w.heap.size w (w.alloc (.cells #[.int .i64 op, .string t, .slice ka kl kc] 59)) := (Below.refl _ _).alloc (Nat.le_refl _) _
  by_cases h1 : op = 1
  · have C : Hid (∀ w, Calls Try.prog 69 #[.string t] w fun e w' => e = .returned (.bool V) ∧ w' = w) := by
      intro w
      have := specIsNum_any t w (by omega)
      rwa [HV.out, h1]
    subst h1
    have HA : Hid _ := bA
    clear HV bA
    go_enter Try.func52, Try.ntmps52
    go_wp2_with (go_at_call 69; refine (C.out _).mono ?_; rintro e w2 ⟨rfl, rfl⟩)
    go_ret
    exact ⟨rfl, HA.out⟩
  by_cases h2 : op = 2
  · have C : Hid (∀ w, Calls Try.prog 70 #[.string t, .int .i64 30, .int .u8 34] w fun e w' => e = .returned (.bool V) ∧ w' = w) := by
      intro w
      have := spPlain t 30 34 w ht
      rw [HV.out, h2]
      exact this
    subst h2
    have HA : Hid _ := bA
    clear HV bA h1
    go_enter Try.func52, Try.ntmps52
    go_wp2_with (go_at_call 70; refine (C.out _).mono ?_; rintro e w2 ⟨rfl, rfl⟩)
    go_ret
    exact ⟨rfl, HA.out⟩
  by_cases h3 : op = 3 ∨ op = 4 ∨ op = 18 ∨ op = 19 ∨ op = 20 ∨ op = 21 ∨ op = 25
  · have C : Hid (∀ w, Calls Try.prog 71 #[.string t] w fun e w' => e = .returned (.bool V) ∧ Below w.heap.size w w') := by
      intro w
      have := spName t w ht
      rw [HV.out]
      unfold Pg.text
      rw [if_neg h1, if_neg h2, if_pos h3]
      exact this
    clear HV h1 h2
    rcases h3 with rfl | rfl | rfl | rfl | rfl | rfl | rfl
    all_goals
      have HA : Hid _ := bA
      clear bA
      go_enter Try.func52, Try.ntmps52
      go_wp2_with (go_at_call 71; refine (C.out _).mono ?_; rintro e w2 ⟨rfl, b2⟩)
      go_ret
      exact ⟨rfl, HA.out.trans (b2.mono (by simp))⟩
  by_cases h4 : op = 16
  · have HV2 : Hid (V = ((Pp.read t.data.toList).isSome && Pg.plain t.data.toList 24 47)) := by
      show _ = _
      rw [HV.out]
      unfold Pg.text
      rw [if_neg h1, if_neg h2, if_neg h3, if_pos h4]
    subst h4
    clear HV h1 h2 h3
    obtain ⟨ok, hok⟩ : ∃ ok, ok = (Pp.read t.data.toList).isSome := ⟨_, rfl⟩
    obtain ⟨pl, hpl⟩ : ∃ pl, pl = Pg.plain t.data.toList 24 47 := ⟨_, rfl⟩
    rw [← hok, ← hpl] at HV2
    have C : Hid (∀ w, Calls Try.prog 41 #[.string t] w fun e w' => ∃ va vn vc, e = .returned (.tuple #[.agg #[.slice va vn vc], .bool ok]) ∧ Below w.heap.size w w') := by
      intro w
      rw [hok]
      exact spReadOk t w ht
    have CP : Hid (∀ w, Calls Try.prog 70 #[.string t, .int .i64 24, .int .u8 47] w fun e w' => e = .returned (.bool pl) ∧ w' = w) := by
      intro w
      rw [hpl]
      exact spPlain t 24 47 w ht
    clear hok hpl
    have hA0 := heap_alloc_new w (.cells #[.int .i64 16, .string t, .slice ka kl kc] 59)
    have HA : Hid _ := bA
    have hl0 : w.heap.size < (w.alloc (.cells #[.int .i64 16, .string t, .slice ka kl kc] 59)).heap.size := by simp
    clear bA
    go_enter Try.func52, Try.ntmps52
    go_wp2_with fail
    refine (C.out _).mono ?_
    rintro e w2 ⟨va, vn, vc, rfl, b2⟩
    have c1 : w2.cell? ⟨w.heap.size, 1, none⟩ = some (.string t) := by
      rw [b2.cell (p := ⟨w.heap.size, 1, none⟩) hl0, blk_cell hA0]
      rfl
    have HB2 : Hid (Below w.heap.size w w2) := HA.out.trans (b2.mono (by simp))
    have hsz := HB2.out.size
    have c2 : (w2.alloc (.cells #[.slice va vn vc] 73)).cell? ⟨w.heap.size, 1, none⟩ = some (.string t) := (((Below.refl w2.heap.size w2).alloc (Nat.le_refl _) _).cell (p := ⟨w.heap.size, 1, none⟩) (World.block_lt_of_cell? w2 _ c1)).trans c1
    clear b2 hA0 HA C hl0 c1
    cases ok with
    | false =>
      clear CP
      go_wp2
      go_ret
      exact ⟨by rw [HV2.out]; rfl, HB2.out.alloc hsz _⟩
    | true =>
      go_wp2_with (go_at_call 70; refine (CP.out _).mono ?_; rintro e w3 ⟨rfl, rfl⟩)
      go_ret
      exact ⟨by rw [HV2.out]; rfl, HB2.out.alloc hsz _⟩
  have HV2 : Hid (V = t.data.toList.isEmpty) := by
    show _ = _
    rw [HV.out]
    unfold Pg.text
    rw [if_neg h1, if_neg h2, if_neg h3, if_neg h4]
  have e1 : (op == 1) = false := beq_eq_false_iff_ne.2 h1
  have e2 : (op == 2) = false := beq_eq_false_iff_ne.2 h2
  have e3 : (op == 3) = false := beq_eq_false_iff_ne.2 (by omega)
  have e4 : (op == 4) = false := beq_eq_false_iff_ne.2 (by omega)
  have e18 : (op == 18) = false := beq_eq_false_iff_ne.2 (by omega)
  have e19 : (op == 19) = false := beq_eq_false_iff_ne.2 (by omega)
  have e20 : (op == 20) = false := beq_eq_false_iff_ne.2 (by omega)
  have e21 : (op == 21) = false := beq_eq_false_iff_ne.2 (by omega)
  have e25 : (op == 25) = false := beq_eq_false_iff_ne.2 (by omega)
  have e16 : (op == 16) = false := beq_eq_false_iff_ne.2 h4
  have HA : Hid _ := bA
  have HE : Hid (t.toList.isEmpty = t.data.toList.isEmpty) := by show _ = _; rw [Lib.toList_data]
  clear HV bA h1 h2 h3 h4
  go_enter Try.func52, Try.ntmps52
  go_wp2
  go_ret
  refine ⟨?_, HA.out⟩
  rw [HV2.out, ← HE.out]
  rfl
#print axioms spNodeText
end Go.Proofs.Ythbblocllicmiap
