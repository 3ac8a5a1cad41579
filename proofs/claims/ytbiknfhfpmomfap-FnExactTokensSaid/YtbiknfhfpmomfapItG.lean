/- The program's patternToken. -/
import Derived.Test.YtbiknfhfpmomfapItE
import Derived.Test.YtbiknfhfpmomfapRiG
namespace Go.Proofs.Ytbiknfhfpmomfap
open Go.RowKit

theorem prefix_two (b c : UInt8) (r : List UInt8) : Lib.hasPrefix (b :: r) [c, 61] = (decide (r[0]? = some 61) && decide (b = c)) := by
  cases r with
  | nil => simp [Lib.hasPrefix, List.isPrefixOf]
  | cons x y =>
    rw [Bool.eq_iff_iff]
    simp [Lib.hasPrefix, List.isPrefixOf]
    constructor
    · rintro ⟨h1, h2⟩; exact ⟨h2.symm, h1.symm⟩
    · rintro ⟨h1, h2⟩; exact ⟨h2.symm, h1.symm⟩
/-- The sign that a text begins with. -/
def sgn (b : UInt8) (r : List UInt8) : Option (Tk.Tok × Nat) :=
  if r[0]? = some 61 ∧ (b = 43 ∨ b = 61) then some (⟨5, [b, 61]⟩, 2) else if b ∈ Tk.signs then some (⟨5, [b]⟩, 1) else none

set_option maxRecDepth 100000 in
set_option maxHeartbeats 1000000 in
theorem signToken_any (b : UInt8) (r : List UInt8) (w : World) :
    Calls Try.prog 26 #[.string (tx (b :: r))] w fun e w' => e = .returned (onev (sgn b r)) ∧ Below w.heap.size w w' := by
  obtain ⟨p1, hp1⟩ : ∃ p, p = (decide (r[0]? = some 61) && decide (b = 43)) := ⟨_, rfl⟩
  obtain ⟨p2, hp2⟩ : ∃ p, p = (decide (r[0]? = some 61) && decide (b = 61)) := ⟨_, rfl⟩
  obtain ⟨p3, hp3⟩ : ∃ p, p = decide (b ∈ Tk.signs) := ⟨_, rfl⟩
  have C1 : Hid (∀ w, Calls Try.prog 20 #[.string (tx (b :: r)), .string ⟨#[43, 61]⟩] w fun e w' => e = .returned (.bool p1) ∧ w' = w) := fun w => by
    have := hasPrefix_any (tx (b :: r)) ⟨#[43, 61]⟩ w
    rw [tx_list, show (⟨#[43, 61]⟩ : ByteArray).data.toList = [43, 61] from rfl, prefix_two, ← hp1] at this
    exact this
  have C2 : Hid (∀ w, Calls Try.prog 20 #[.string (tx (b :: r)), .string ⟨#[61, 61]⟩] w fun e w' => e = .returned (.bool p2) ∧ w' = w) := fun w => by
    have := hasPrefix_any (tx (b :: r)) ⟨#[61, 61]⟩ w
    rw [tx_list, show (⟨#[61, 61]⟩ : ByteArray).data.toList = [61, 61] from rfl, prefix_two, ← hp2] at this
    exact this
  have C3 : Hid (∀ w, Calls Try.prog 22 #[.string setSigns, .string (tx [b])] w fun e w' => e = .returned (.bool p3) ∧ w' = w) := fun w => by
    have := containsOne_any setSigns b w
    rw [signs_is, ← hp3] at this
    exact this
  have C4 : Hid (∀ w, Calls Try.prog 23 #[.int .i64 5, .string (tx [b]), .int .i64 2] w fun e w' => e = .returned (.tuple #[.agg #[.int .i64 5, .string (tx [b])], .int .i64 1]) ∧ Below w.heap.size w w') := fun w => plainToken_any 5 2 [b] w (by simp)
  have C5 : Hid (∀ w, Calls Try.prog 23 #[.int .i64 5, .string (tx [b, 61]), .int .i64 2] w fun e w' => e = .returned (.tuple #[.agg #[.int .i64 5, .string (tx [b, 61])], .int .i64 2]) ∧ Below w.heap.size w w') := fun w => plainToken_any 5 2 [b, 61] w (by simp)
  have z1 : (tx (b :: r)).size = r.length + 1 := tx_size _
  have e1 : (tx (b :: r)).extract 0 1 = tx [b] := tx_one b r
  obtain ⟨V, hV⟩ : ∃ V, V = onev (sgn b r) := ⟨_, rfl⟩
  rw [← hV]
  have HV : Hid (V = onev (sgn b r)) := hV
  clear hV
  by_cases h1 : r[0]? = some 61 ∧ (b = 43 ∨ b = 61)
  · have HV2 : Hid (V = .tuple #[.agg #[.int .i64 5, .string (tx [b, 61])], .int .i64 2]) := by
      show _ = _
      rw [HV.out, sgn, if_pos h1]
      rfl
    obtain ⟨r2, rfl⟩ : ∃ r2, r = 61 :: r2 := by
      cases r with
      | nil => simp at h1
      | cons x y =>
        have : x = 61 := by simpa using h1.1
        exact ⟨y, by rw [this]⟩
    have e2 : (tx (b :: 61 :: r2)).extract 0 2 = tx [b, 61] := by rw [ext_take]; simp [tx]
    have z2 : (tx (b :: 61 :: r2)).size = r2.length + 2 := tx_size _
    clear z1
    by_cases h2 : b = 43
    · obtain rfl : p1 = true := by rw [hp1, h2]; simp
      clear HV hp1 hp2 hp3 C3 C2 C4 h1 h2
      go_enter Try.func26, Try.ntmps26
      go_wp2_with fail
      refine (C1.out _).mono ?_
      rintro e w1 ⟨rfl, rfl⟩
      go_wp2_with fail
      refine (C5.out _).mono ?_
      rintro e w2 ⟨rfl, b2⟩
      have r2 := (b2.block w.heap.size (size1 _ _)).trans (alloc1_0 _ _)
      have HB2 : Hid (Below w.heap.size w w2) := (below1 _ _).trans (b2.mono (Nat.le_of_lt (size1 _ _)))
      have HR2 : Hid _ := r2
      obtain ⟨c0, c1, f0, f1⟩ := tok_cells r2
      clear b2 r2
      go_wp2
      exact bodyPost_ret (res_tok rfl _ _ w.heap.size _ _ rfl (tok_stored HR2.out _ _)) rfl ⟨by rw [HV2.out]; rfl, tok_below HB2.out (Nat.le_refl _) _ _⟩
    · obtain rfl : p1 = false := by rw [hp1]; simp [h2]
      obtain rfl : p2 = true := by rw [hp2]; simp; exact h1.2.resolve_left h2
      clear HV hp1 hp2 hp3 C3 C4 h1 h2
      go_enter Try.func26, Try.ntmps26
      go_wp2_with fail
      refine (C1.out _).mono ?_
      rintro e w1 ⟨rfl, rfl⟩
      go_wp2_with fail
      refine (C2.out _).mono ?_
      rintro e w2 ⟨rfl, rfl⟩
      go_wp2_with fail
      refine (C5.out _).mono ?_
      rintro e w3 ⟨rfl, b3⟩
      have r3 := (b3.block w.heap.size (size1 _ _)).trans (alloc1_0 _ _)
      have HB3 : Hid (Below w.heap.size w w3) := (below1 _ _).trans (b3.mono (Nat.le_of_lt (size1 _ _)))
      have HR3 : Hid _ := r3
      obtain ⟨c0, c1, f0, f1⟩ := tok_cells r3
      clear b3 r3
      go_wp2
      exact bodyPost_ret (res_tok rfl _ _ w.heap.size _ _ rfl (tok_stored HR3.out _ _)) rfl ⟨by rw [HV2.out]; rfl, tok_below HB3.out (Nat.le_refl _) _ _⟩
  · obtain rfl : p1 = false := by
      rw [hp1, Bool.eq_false_iff]
      intro h
      simp at h
      exact h1 ⟨by simpa using h.1, .inl h.2⟩
    obtain rfl : p2 = false := by
      rw [hp2, Bool.eq_false_iff]
      intro h
      simp at h
      exact h1 ⟨by simpa using h.1, .inr h.2⟩
    by_cases h2 : b ∈ Tk.signs
    · obtain rfl : p3 = true := by rw [hp3]; exact decide_eq_true h2
      have HV2 : Hid (V = .tuple #[.agg #[.int .i64 5, .string (tx [b])], .int .i64 1]) := by
        show _ = _
        rw [HV.out, sgn, if_neg h1, if_pos h2]
        rfl
      clear HV hp1 hp2 hp3 C5 h1 h2
      go_enter Try.func26, Try.ntmps26
      go_wp2_with fail
      refine (C1.out _).mono ?_
      rintro e w1 ⟨rfl, rfl⟩
      go_wp2_with fail
      refine (C2.out _).mono ?_
      rintro e w2 ⟨rfl, rfl⟩
      go_wp2_with fail
      refine (C3.out _).mono ?_
      rintro e w3 ⟨rfl, rfl⟩
      go_wp2_with fail
      refine (C4.out _).mono ?_
      rintro e w4 ⟨rfl, b4⟩
      have r4 := (b4.block w.heap.size (size1 _ _)).trans (alloc1_0 _ _)
      have HB4 : Hid (Below w.heap.size w w4) := (below1 _ _).trans (b4.mono (Nat.le_of_lt (size1 _ _)))
      have HR4 : Hid _ := r4
      obtain ⟨c0, c1, f0, f1⟩ := tok_cells r4
      clear b4 r4
      go_wp2
      exact bodyPost_ret (res_tok rfl _ _ w.heap.size _ _ rfl (tok_stored HR4.out _ _)) rfl ⟨by rw [HV2.out]; rfl, tok_below HB4.out (Nat.le_refl _) _ _⟩
    · obtain rfl : p3 = false := by rw [hp3]; exact decide_eq_false h2
      have HV2 : Hid (V = onev none) := by
        show _ = _
        rw [HV.out, sgn, if_neg h1, if_neg h2]
      clear HV hp1 hp2 hp3 C5 C4 h1 h2
      go_enter Try.func26, Try.ntmps26
      go_wp2_with fail
      refine (C1.out _).mono ?_
      rintro e w1 ⟨rfl, rfl⟩
      go_wp2_with fail
      refine (C2.out _).mono ?_
      rintro e w2 ⟨rfl, rfl⟩
      go_wp2_with fail
      refine (C3.out _).mono ?_
      rintro e w3 ⟨rfl, rfl⟩
      go_wp2
      exact bodyPost_ret (res_tok rfl _ _ w.heap.size _ _ rfl (alloc1_0 _ _)) rfl ⟨by rw [HV2.out]; rfl, below1 _ _⟩
#print axioms signToken_any
open Go.RowKit

theorem read_none : Pp.read [] = none := by rfl
/-- The pattern that a text begins with. -/
def patr (r : List UInt8) : Option (Tk.Tok × Nat) :=
  if Tk.textEnd (47 :: r) 0 47 24 = 0 then none else if (Pp.read (Tk.cut (47 :: r) 1 (Tk.textEnd (47 :: r) 0 47 24))).isSome = true then some (⟨4, Tk.cut (47 :: r) 1 (Tk.textEnd (47 :: r) 0 47 24)⟩, Tk.textEnd (47 :: r) 0 47 24 + 1) else none

set_option maxRecDepth 100000 in
set_option maxHeartbeats 1000000 in
theorem patternToken_any (r : List UInt8) (w : World) (hr : r.length ≤ 1048576) :
    Calls Try.prog 25 #[.string (tx (47 :: r))] w fun e w' => e = .returned (onev (patr r)) ∧ Below w.heap.size w w' := by
  obtain ⟨E, hE⟩ : ∃ E, E = Tk.textEnd (47 :: r) 0 47 24 := ⟨_, rfl⟩
  obtain ⟨T, hT⟩ : ∃ T, T = Tk.cut (47 :: r) 1 E := ⟨_, rfl⟩
  have C1 : Hid (∀ w, Calls Try.prog 24 #[.int .i64 4, .string (tx (47 :: r)), .int .i64 24] w fun e w' => e = .returned (onev (if E = 0 then none else some (⟨4, T⟩, E + 1))) ∧ Below w.heap.size w w') := fun w => by
    have := markedToken_any 4 24 47 r w (by decide) hr
    rw [← hE, ← hT] at this
    exact this
  obtain ⟨V, hV⟩ : ∃ V, V = onev (patr r) := ⟨_, rfl⟩
  rw [← hV]
  have HV : Hid (V = onev (if E = 0 then none else if (Pp.read T).isSome = true then some (⟨4, T⟩, E + 1) else none)) := by
    show _ = _
    rw [hV, hT, hE]
    rfl
  have HTl : T.length ≤ 1048576 := by rw [hT, Tk.cut, List.length_take, List.length_drop]; simp; omega
  clear hV
  by_cases h0 : E = 0
  · have HV2 : Hid (V = onev none) := by show _ = _; rw [HV.out, if_pos h0]
    have C1 : Hid (∀ w, Calls Try.prog 24 #[.int .i64 4, .string (tx (47 :: r)), .int .i64 24] w fun e w' => e = .returned (.tuple #[.agg #[.int .i64 0, .string ⟨#[]⟩], .int .i64 0]) ∧ Below w.heap.size w w') := fun w => by
      have := C1.out w
      rw [if_pos h0] at this
      exact this
    have C2 : Hid (∀ w, Calls Try.prog 33 #[.string ⟨#[]⟩] w fun e w' => Below w.heap.size w w' ∧ Answer w' w.heap.size none e) := fun w => by
      have := implRead_any ⟨#[]⟩ w (by decide)
      exact this
    clear HV hE hT h0
    go_enter Try.func25, Try.ntmps25
    go_wp2_with fail
    refine (C1.out _).mono ?_
    rintro e w1 ⟨rfl, b1⟩
    have r1 := (b1.block w.heap.size (size1 _ _)).trans (alloc1_0 _ _)
    have HB1 : Hid (Below w.heap.size w w1) := (below1 _ _).trans (b1.mono (Nat.le_of_lt (size1 _ _)))
    have HR1 : Hid _ := r1
    obtain ⟨c0, c1, f0, f1⟩ := tok_cells r1
    clear b1 r1
    go_wp2_with fail
    refine (C2.out _).mono ?_
    rintro e w2 ⟨b2, rfl⟩
    clear c0 c1 f0 f1
    have s1 := size1 w1 (Obj.cells #[.int .i64 0, .string ⟨#[]⟩] 29)
    have r2 := (b2.block w.heap.size (Nat.lt_trans (blk_lt HR1.out) s1)).trans (((below1 _ _).block w.heap.size (blk_lt HR1.out)).trans HR1.out)
    have q2 := (b2.block w1.heap.size s1).trans (alloc1_0 _ _)
    have HB2 : Hid (Below w.heap.size w w2) := HB1.out.trans (((below1 _ _).trans (b2.mono (Nat.le_of_lt s1))).mono HB1.out.size)
    have HR2 : Hid (∀ o, (w2.alloc o).heap[w.heap.size]? = _) := fun o => ((below1 w2 o).block w.heap.size (blk_lt r2)).trans r2
    have q3 := fun o => ((below1 w2 o).block w1.heap.size (blk_lt q2)).trans q2
    have c0 := fun o => (tok_cells (HR2.out o)).1
    have c1 := fun o => (tok_cells (HR2.out o)).2.1
    have f0 := fun o => (tok_cells (HR2.out o)).2.2.1
    have f1 := fun o => (tok_cells (HR2.out o)).2.2.2
    have c2 := fun o => (tok_cells (q3 o)).1
    have c3 := fun o => (tok_cells (q3 o)).2.1
    clear b2 r2 q2 q3 s1 HR1 HB1
    go_wp2
    exact bodyPost_ret (res_tok rfl _ _ w.heap.size _ _ rfl (tok_stored (HR2.out _) _ _)) rfl ⟨by rw [HV2.out]; rfl, tok_below (HB2.out.trans ((below1 _ _).mono HB2.out.size)) (Nat.le_refl _) _ _⟩
  · have C1 : Hid (∀ w, Calls Try.prog 24 #[.int .i64 4, .string (tx (47 :: r)), .int .i64 24] w fun e w' => e = .returned (.tuple #[.agg #[.int .i64 4, .string (tx T)], .int .i64 ((E + 1 : Nat) : Int)]) ∧ Below w.heap.size w w') := fun w => by
      have := C1.out w
      rw [if_neg h0] at this
      exact this
    have C2 : Hid (∀ w, Calls Try.prog 33 #[.string (tx T)] w fun e w' => Below w.heap.size w w' ∧ Answer w' w.heap.size (Pp.read T) e) := fun w => by
      have := implRead_any (tx T) w (by rw [tx_size]; exact HTl)
      rw [tx_list] at this
      exact this
    have HV : Hid (V = onev (if (Pp.read T).isSome = true then some (⟨4, T⟩, E + 1) else none)) := by show _ = _; rw [HV.out, if_neg h0]
    obtain ⟨M, hM⟩ : ∃ M, M = E + 1 := ⟨_, rfl⟩
    rw [← hM] at C1 HV
    clear hE hT h0 hM
    cases hR : Pp.read T with
    | none =>
      have HV2 : Hid (V = onev none) := by show _ = _; rw [HV.out, hR]; rfl
      rw [hR] at C2
      clear HV hR
      go_enter Try.func25, Try.ntmps25
      go_wp2_with fail
      refine (C1.out _).mono ?_
      rintro e w1 ⟨rfl, b1⟩
      have r1 := (b1.block w.heap.size (size1 _ _)).trans (alloc1_0 _ _)
      have HB1 : Hid (Below w.heap.size w w1) := (below1 _ _).trans (b1.mono (Nat.le_of_lt (size1 _ _)))
      have HR1 : Hid _ := r1
      obtain ⟨c0, c1, f0, f1⟩ := tok_cells r1
      clear b1 r1
      go_wp2_with fail
      refine (C2.out _).mono ?_
      rintro e w2 ⟨b2, rfl⟩
      clear c0 c1 f0 f1
      have s1 := size1 w1 (Obj.cells #[.int .i64 4, .string (tx T)] 29)
      have r2 := (b2.block w.heap.size (Nat.lt_trans (blk_lt HR1.out) s1)).trans (((below1 _ _).block w.heap.size (blk_lt HR1.out)).trans HR1.out)
      have q2 := (b2.block w1.heap.size s1).trans (alloc1_0 _ _)
      have HB2 : Hid (Below w.heap.size w w2) := HB1.out.trans (((below1 _ _).trans (b2.mono (Nat.le_of_lt s1))).mono HB1.out.size)
      have HR2 : Hid (∀ o, (w2.alloc o).heap[w.heap.size]? = _) := fun o => ((below1 w2 o).block w.heap.size (blk_lt r2)).trans r2
      have q3 := fun o => ((below1 w2 o).block w1.heap.size (blk_lt q2)).trans q2
      have c0 := fun o => (tok_cells (HR2.out o)).1
      have c1 := fun o => (tok_cells (HR2.out o)).2.1
      have f0 := fun o => (tok_cells (HR2.out o)).2.2.1
      have f1 := fun o => (tok_cells (HR2.out o)).2.2.2
      have c2 := fun o => (tok_cells (q3 o)).1
      have c3 := fun o => (tok_cells (q3 o)).2.1
      clear b2 r2 q2 q3 s1 HR1 HB1
      go_wp2
      exact bodyPost_ret (res_tok rfl _ _ w.heap.size _ _ rfl (tok_stored (HR2.out _) _ _)) rfl ⟨by rw [HV2.out]; rfl, tok_below (HB2.out.trans ((below1 _ _).mono HB2.out.size)) (Nat.le_refl _) _ _⟩
    | some ps =>
      have HV2 : Hid (V = .tuple #[.agg #[.int .i64 4, .string (tx T)], .int .i64 (M : Int)]) := by show _ = _; rw [HV.out, hR]; rfl
      rw [hR] at C2
      clear HV hR
      go_enter Try.func25, Try.ntmps25
      go_wp2_with fail
      refine (C1.out _).mono ?_
      rintro e w1 ⟨rfl, b1⟩
      have r1 := (b1.block w.heap.size (size1 _ _)).trans (alloc1_0 _ _)
      have HB1 : Hid (Below w.heap.size w w1) := (below1 _ _).trans (b1.mono (Nat.le_of_lt (size1 _ _)))
      have HR1 : Hid _ := r1
      obtain ⟨c0, c1, f0, f1⟩ := tok_cells r1
      clear b1 r1
      go_wp2_with fail
      refine (C2.out _).mono ?_
      rintro e w2 ⟨b2, v, rfl, hrp, -, -⟩
      obtain ⟨va, vn, vc, rfl⟩ := hrp.form
      clear hrp
      clear c0 c1 f0 f1
      have s1 := size1 w1 (Obj.cells #[.int .i64 4, .string (tx T)] 29)
      have r2 := (b2.block w.heap.size (Nat.lt_trans (blk_lt HR1.out) s1)).trans (((below1 _ _).block w.heap.size (blk_lt HR1.out)).trans HR1.out)
      have q2 := (b2.block w1.heap.size s1).trans (alloc1_0 _ _)
      have HB2 : Hid (Below w.heap.size w w2) := HB1.out.trans (((below1 _ _).trans (b2.mono (Nat.le_of_lt s1))).mono HB1.out.size)
      have HR2 : Hid (∀ o, (w2.alloc o).heap[w.heap.size]? = _) := fun o => ((below1 w2 o).block w.heap.size (blk_lt r2)).trans r2
      have q3 := fun o => ((below1 w2 o).block w1.heap.size (blk_lt q2)).trans q2
      have c0 := fun o => (tok_cells (HR2.out o)).1
      have c1 := fun o => (tok_cells (HR2.out o)).2.1
      have f0 := fun o => (tok_cells (HR2.out o)).2.2.1
      have f1 := fun o => (tok_cells (HR2.out o)).2.2.2
      have c2 := fun o => (tok_cells (q3 o)).1
      have c3 := fun o => (tok_cells (q3 o)).2.1
      clear b2 r2 q2 q3 s1 HR1 HB1
      go_wp2
      exact bodyPost_ret (res_tok rfl _ _ w.heap.size _ _ rfl (tok_stored (HR2.out _) _ _)) rfl ⟨by rw [HV2.out]; rfl, tok_below (HB2.out.trans ((below1 _ _).mono HB2.out.size)) (Nat.le_refl _) _ _⟩
#print axioms patternToken_any
end Go.Proofs.Ytbiknfhfpmomfap
