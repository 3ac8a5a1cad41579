/- The program's firstToken. -/
import Derived.Test.YtbiknfhfpmomfapItG
namespace Go.Proofs.Ytbiknfhfpmomfap
open Go.RowKit

/-- The token that a text begins with. -/
def fstTok (b : UInt8) (r : List UInt8) (may : Bool) : Option (Tk.Tok × Nat) :=
  if b = 10 ∨ b = 59 then some (⟨6, [59]⟩, 1)
  else if Tk.letter b = true then (if 8 < Tk.run Tk.letter (b :: r) 0 then none else some (⟨1, (b :: r).take (Tk.run Tk.letter (b :: r) 0)⟩, Tk.run Tk.letter (b :: r) 0))
  else if Tk.figure b = true then (if 6 < Tk.run Tk.figure (b :: r) 0 then none else some (⟨2, (b :: r).take (Tk.run Tk.figure (b :: r) 0)⟩, Tk.run Tk.figure (b :: r) 0))
  else if b = 34 then (if Tk.textEnd (34 :: r) 0 34 30 = 0 then none else some (⟨3, Tk.cut (34 :: r) 1 (Tk.textEnd (34 :: r) 0 34 30)⟩, Tk.textEnd (34 :: r) 0 34 30 + 1))
  else if b = 47 ∧ may = true then patr r
  else sgn b r
theorem one_fst (b : UInt8) (r : List UInt8) (last : Tk.Tok) : Tk.one (b :: r) 0 last = fstTok b r (decide (last.kind = 5) && decide (last.text = [126])) := by
  have hg : (b :: r).getD 0 0 = b := rfl
  have hc : ∀ n, Tk.cut (b :: r) 0 n = (b :: r).take n := fun n => by simp [Tk.cut]
  have hg1 : (b :: r)[0 + 1]? = r[0]? := by simp
  unfold Tk.one fstTok
  rw [hg, hc, hc, hc, hc, hg1, Nat.sub_zero, Nat.sub_zero]
  by_cases c1 : b = 10 ∨ b = 59
  · rw [if_pos c1, if_pos c1]
  rw [if_neg c1, if_neg c1]
  by_cases c2 : Tk.letter b = true
  · rw [if_pos c2, if_pos c2]
  rw [if_neg c2, if_neg c2]
  by_cases c3 : Tk.figure b = true
  · rw [if_pos c3, if_pos c3]
  rw [if_neg c3, if_neg c3]
  by_cases c4 : b = 34
  · rw [if_pos c4, if_pos c4, c4]
  rw [if_neg c4, if_neg c4]
  by_cases c5 : b = 47
  · rw [if_pos c5]
    subst c5
    by_cases c6 : last.kind = 5 ∧ last.text = [126]
    · have k1 : (47 : UInt8) = 47 ∧ (decide (last.kind = 5) && decide (last.text = [126])) = true := ⟨rfl, by simp [c6]⟩
      by_cases c7 : Tk.textEnd (47 :: r) 0 47 24 = 0
      · have k2 : Tk.textEnd (47 :: r) 0 47 24 = 0 ∨ last.kind ≠ 5 ∨ last.text ≠ [126] := .inl c7
        rw [if_pos k2, if_pos k1, patr, if_pos c7]
      · have k2 : ¬ (Tk.textEnd (47 :: r) 0 47 24 = 0 ∨ last.kind ≠ 5 ∨ last.text ≠ [126]) := by
          rintro (h | h | h)
          · exact c7 h
          · exact h c6.1
          · exact h c6.2
        rw [if_neg k2, if_pos k1, patr, if_neg c7]
    · have k1 : ¬ ((47 : UInt8) = 47 ∧ (decide (last.kind = 5) && decide (last.text = [126])) = true) := by simpa using c6
      have k2 : Tk.textEnd (47 :: r) 0 47 24 = 0 ∨ last.kind ≠ 5 ∨ last.text ≠ [126] := by
        by_cases h : last.kind = 5
        · exact .inr (.inr fun h2 => c6 ⟨h, h2⟩)
        · exact .inr (.inl h)
      have k3 : ¬ (r[0]? = some 61 ∧ ((47 : UInt8) = 43 ∨ (47 : UInt8) = 61)) := fun h => h.2.elim (by decide) (by decide)
      have k4 : ¬ (47 : UInt8) ∈ Tk.signs := by decide
      rw [if_pos k2, if_neg k1, sgn, if_neg k3, if_neg k4]
  · have k1 : ¬ (b = 47 ∧ (decide (last.kind = 5) && decide (last.text = [126])) = true) := fun h => c5 h.1
    rw [if_neg c5, if_neg k1]
    unfold sgn
    by_cases c8 : r[0]? = some 61 ∧ (b = 43 ∨ b = 61)
    · rw [if_pos c8, if_pos c8]
      cases r with
      | nil => simp at c8
      | cons x y =>
        have : x = 61 := by simpa using c8.1
        subst this
        rfl
    · rw [if_neg c8, if_neg c8]
      rfl
theorem onev_form (O : Option (Tk.Tok × Nat)) : ∃ (K : Int) (x : ByteArray) (M : Int), onev O = .tuple #[.agg #[.int .i64 K, .string x], .int .i64 M] := by
  cases O with
  | none => exact ⟨_, _, _, rfl⟩
  | some p => exact ⟨_, _, _, rfl⟩
theorem one_ne {b c : UInt8} (h : b ≠ c) : ((tx [b]).toList == [c]) = false := by
  rw [Lib.toList_data, tx_list, beq_eq_false_iff_ne]
  simpa using h
theorem one_eq (c : UInt8) : ((tx [c]).toList == [c]) = true := by
  rw [Lib.toList_data, tx_list]
  simp

set_option maxRecDepth 100000 in
set_option maxHeartbeats 2000000 in
theorem firstToken_any (b : UInt8) (r : List UInt8) (may : Bool) (w : World) (hr : r.length ≤ 1000) :
    Calls Try.prog 11 #[.string (tx (b :: r)), .bool may] w fun e w' => e = .returned (onev (fstTok b r may)) ∧ Below w.heap.size w w' := by
  have CL : Hid (∀ w, Calls Try.prog 22 #[.string setLetters, .string (tx [b])] w fun e w' => e = .returned (.bool (Tk.letter b)) ∧ w' = w) := fun w => by
    have := containsOne_any setLetters b w
    rw [letters_is] at this
    exact this
  have CF : Hid (∀ w, Calls Try.prog 22 #[.string setFigures, .string (tx [b])] w fun e w' => e = .returned (.bool (Tk.figure b)) ∧ w' = w) := fun w => by
    have := containsOne_any setFigures b w
    rw [figures_is] at this
    exact this
  obtain ⟨V, hV⟩ : ∃ V, V = onev (fstTok b r may) := ⟨_, rfl⟩
  rw [← hV]
  have HV : Hid (V = onev (fstTok b r may)) := hV
  clear hV
  have z1 : (tx (b :: r)).size = r.length + 1 := tx_size _
  have e1 : (tx (b :: r)).extract 0 1 = tx [b] := tx_one b r
  have hq1 : b ≠ 59 → ((tx [b]).toList == [59]) = false := one_ne
  have hq2 : b ≠ 10 → ((tx [b]).toList == [10]) = false := one_ne
  have hq3 : b ≠ 34 → ((tx [b]).toList == [34]) = false := one_ne
  have hq4 : b ≠ 47 → ((tx [b]).toList == [47]) = false := one_ne
  by_cases c1 : b = 59
  · have HV2 : Hid (V = .tuple #[.agg #[.int .i64 6, .string ⟨#[59]⟩], .int .i64 1]) := by show _ = _; rw [HV.out, fstTok, if_pos (.inr c1)]; rfl
    subst c1
    have q1 := one_eq 59
    generalize tx [59] = X at *
    clear CL CF HV hq1 hq2 hq3 hq4
    go_enter Try.func11, Try.ntmps11
    go_wp2
    exact bodyPost_ret (res_tok rfl _ _ w.heap.size _ _ rfl (alloc1_0 _ _)) rfl ⟨by rw [HV2.out]; rfl, below1 _ _⟩
  have q1 := hq1 c1
  by_cases c2 : b = 10
  · have HV2 : Hid (V = .tuple #[.agg #[.int .i64 6, .string ⟨#[59]⟩], .int .i64 1]) := by show _ = _; rw [HV.out, fstTok, if_pos (.inl c2)]; rfl
    subst c2
    have q2 := one_eq 10
    generalize tx [10] = X at *
    clear CL CF HV hq1 hq2 hq3 hq4 c1
    go_enter Try.func11, Try.ntmps11
    go_wp2
    exact bodyPost_ret (res_tok rfl _ _ w.heap.size _ _ rfl (alloc1_0 _ _)) rfl ⟨by rw [HV2.out]; rfl, below1 _ _⟩
  have q2 := hq2 c2
  have c12 : ¬ (b = 10 ∨ b = 59) := fun h => h.elim c2 c1
  clear hq1 hq2
  by_cases c_letter : Tk.letter b = true
  · obtain ⟨n, hn⟩ : ∃ n, n = Tk.run Tk.letter (b :: r) 0 := ⟨_, rfl⟩
    have hnl : n ≤ r.length + 1 := by rw [hn]; exact Tk.run_le (l := b :: r) _ (Nat.zero_le _)
    have C1 : Hid (∀ w, Calls Try.prog 19 #[.string (tx (b :: r)), .string setLetters] w fun e w' => e = .returned (.string (tx ((b :: r).take n))) ∧ Below w.heap.size w w') := fun w => by
      rw [hn]
      exact rowOf_any (tx (b :: r)) setLetters Tk.letter w asc_letters letters_is
    obtain ⟨K, x, M, hO⟩ := onev_form (if 8 < n then none else some (⟨1, (b :: r).take n⟩, n))
    have C2 : Hid (∀ w, Calls Try.prog 23 #[.int .i64 1, .string (tx ((b :: r).take n)), .int .i64 8] w fun e w' => e = .returned (.tuple #[.agg #[.int .i64 K, .string x], .int .i64 M]) ∧ Below w.heap.size w w') := fun w => by
      have hl : ((b :: r).take n).length = n := by rw [List.length_take]; simp; omega
      have := plainToken_any 1 8 ((b :: r).take n) w (by rw [hl]; omega)
      rw [hl, hO] at this
      exact this
    have HV2 : Hid (V = .tuple #[.agg #[.int .i64 K, .string x], .int .i64 M]) := by
      show _ = _
      rw [HV.out, fstTok, if_neg c12, if_pos c_letter, ← hn, hO]
    rw [c_letter] at CL
    clear HV hn hnl hO CF c1 c2 c12 hq3 hq4 z1
    have z1 : (tx (b :: r)).size = r.length + 1 := tx_size _
    generalize tx [b] = X at *
    go_enter Try.func11, Try.ntmps11
    go_wp2_with fail
    refine (CL.out _).mono ?_
    rintro e w1 ⟨rfl, rfl⟩
    go_wp2_with fail
    refine (C1.out _).mono ?_
    rintro e w2 ⟨rfl, b2⟩
    have r2 := (b2.block w.heap.size (size1 _ _)).trans (alloc1_0 _ _)
    have HB2 : Hid (Below w.heap.size w w2) := (below1 _ _).trans (b2.mono (Nat.le_of_lt (size1 _ _)))
    have HR2 : Hid _ := r2
    obtain ⟨c0, c1, f0, f1⟩ := tok_cells r2
    clear b2 r2
    go_wp2_with fail
    refine (C2.out _).mono ?_
    rintro e w3 ⟨rfl, b3⟩
    clear c0 c1 f0 f1
    have r3 := (b3.block w.heap.size (blk_lt HR2.out)).trans HR2.out
    have HB3 : Hid (Below w.heap.size w w3) := HB2.out.trans (b3.mono HB2.out.size)
    have HR3 : Hid _ := r3
    obtain ⟨c0, c1, f0, f1⟩ := tok_cells r3
    clear b3 r3 HR2 HB2
    go_wp2
    exact bodyPost_ret (res_tok rfl _ _ w.heap.size _ _ rfl (tok_stored HR3.out _ _)) rfl ⟨by rw [HV2.out]; rfl, tok_below HB3.out (Nat.le_refl _) _ _⟩
  have n_letter : Tk.letter b = false := by simpa using c_letter
  rw [n_letter] at CL
  by_cases c_figure : Tk.figure b = true
  · obtain ⟨n, hn⟩ : ∃ n, n = Tk.run Tk.figure (b :: r) 0 := ⟨_, rfl⟩
    have hnl : n ≤ r.length + 1 := by rw [hn]; exact Tk.run_le (l := b :: r) _ (Nat.zero_le _)
    have C1 : Hid (∀ w, Calls Try.prog 19 #[.string (tx (b :: r)), .string setFigures] w fun e w' => e = .returned (.string (tx ((b :: r).take n))) ∧ Below w.heap.size w w') := fun w => by
      rw [hn]
      exact rowOf_any (tx (b :: r)) setFigures Tk.figure w asc_figures figures_is
    obtain ⟨K, x, M, hO⟩ := onev_form (if 6 < n then none else some (⟨2, (b :: r).take n⟩, n))
    have C2 : Hid (∀ w, Calls Try.prog 23 #[.int .i64 2, .string (tx ((b :: r).take n)), .int .i64 6] w fun e w' => e = .returned (.tuple #[.agg #[.int .i64 K, .string x], .int .i64 M]) ∧ Below w.heap.size w w') := fun w => by
      have hl : ((b :: r).take n).length = n := by rw [List.length_take]; simp; omega
      have := plainToken_any 2 6 ((b :: r).take n) w (by rw [hl]; omega)
      rw [hl, hO] at this
      exact this
    have HV2 : Hid (V = .tuple #[.agg #[.int .i64 K, .string x], .int .i64 M]) := by
      show _ = _
      rw [HV.out, fstTok, if_neg c12, if_neg c_letter, if_pos c_figure, ← hn, hO]
    rw [c_figure] at CF
    clear HV hn hnl hO c1 c2 c12 hq3 hq4 z1
    have z1 : (tx (b :: r)).size = r.length + 1 := tx_size _
    generalize tx [b] = X at *
    go_enter Try.func11, Try.ntmps11
    go_wp2_with fail
    refine (CL.out _).mono ?_
    rintro e w1 ⟨rfl, rfl⟩
    go_wp2_with fail
    refine (CF.out _).mono ?_
    rintro e w2 ⟨rfl, rfl⟩
    go_wp2_with fail
    refine (C1.out _).mono ?_
    rintro e w3 ⟨rfl, b3⟩
    have r3 := (b3.block w.heap.size (size1 _ _)).trans (alloc1_0 _ _)
    have HB3 : Hid (Below w.heap.size w w3) := (below1 _ _).trans (b3.mono (Nat.le_of_lt (size1 _ _)))
    have HR3 : Hid _ := r3
    obtain ⟨c0, c1, f0, f1⟩ := tok_cells r3
    clear b3 r3
    go_wp2_with fail
    refine (C2.out _).mono ?_
    rintro e w4 ⟨rfl, b4⟩
    clear c0 c1 f0 f1
    have r4 := (b4.block w.heap.size (blk_lt HR3.out)).trans HR3.out
    have HB4 : Hid (Below w.heap.size w w4) := HB3.out.trans (b4.mono HB3.out.size)
    have HR4 : Hid _ := r4
    obtain ⟨c0, c1, f0, f1⟩ := tok_cells r4
    clear b4 r4 HR3 HB3
    go_wp2
    exact bodyPost_ret (res_tok rfl _ _ w.heap.size _ _ rfl (tok_stored HR4.out _ _)) rfl ⟨by rw [HV2.out]; rfl, tok_below HB4.out (Nat.le_refl _) _ _⟩
  have n_figure : Tk.figure b = false := by simpa using c_figure
  rw [n_figure] at CF
  by_cases c4 : b = 34
  · subst c4
    obtain ⟨K, x, M, hO⟩ := onev_form (if Tk.textEnd (34 :: r) 0 34 30 = 0 then none else some (⟨3, Tk.cut (34 :: r) 1 (Tk.textEnd (34 :: r) 0 34 30)⟩, Tk.textEnd (34 :: r) 0 34 30 + 1))
    have C1 : Hid (∀ w, Calls Try.prog 24 #[.int .i64 3, .string (tx (34 :: r)), .int .i64 30] w fun e w' => e = .returned (.tuple #[.agg #[.int .i64 K, .string x], .int .i64 M]) ∧ Below w.heap.size w w') := fun w => by
      have := markedToken_any 3 30 34 r w (by decide) (by omega)
      rw [hO] at this
      exact this
    have HV2 : Hid (V = .tuple #[.agg #[.int .i64 K, .string x], .int .i64 M]) := by
      show _ = _
      rw [HV.out, fstTok, if_neg c12, if_neg c_letter, if_neg c_figure, if_pos rfl, hO]
    have q3 := one_eq 34
    clear HV hO c1 c2 c12 hq3 hq4 c_letter c_figure n_letter n_figure
    generalize tx [34] = X at *
    go_enter Try.func11, Try.ntmps11
    go_wp2_with fail
    refine (CL.out _).mono ?_
    rintro e w1 ⟨rfl, rfl⟩
    go_wp2_with fail
    refine (CF.out _).mono ?_
    rintro e w2 ⟨rfl, rfl⟩
    go_wp2_with fail
    refine (C1.out _).mono ?_
    rintro e w3 ⟨rfl, b3⟩
    have r3 := (b3.block w.heap.size (size1 _ _)).trans (alloc1_0 _ _)
    have HB3 : Hid (Below w.heap.size w w3) := (below1 _ _).trans (b3.mono (Nat.le_of_lt (size1 _ _)))
    have HR3 : Hid _ := r3
    obtain ⟨c0, c1, f0, f1⟩ := tok_cells r3
    clear b3 r3
    go_wp2
    exact bodyPost_ret (res_tok rfl _ _ w.heap.size _ _ rfl (tok_stored HR3.out _ _)) rfl ⟨by rw [HV2.out]; rfl, tok_below HB3.out (Nat.le_refl _) _ _⟩
  have q3 := hq3 c4
  by_cases c5 : b = 47
  · have q4 : ((tx [b]).toList == [47]) = true := by rw [c5]; exact one_eq 47
    cases may with
    | true =>
      subst c5
      obtain ⟨K, x, M, hO⟩ := onev_form (patr r)
      have C1 : Hid (∀ w, Calls Try.prog 25 #[.string (tx (47 :: r))] w fun e w' => e = .returned (.tuple #[.agg #[.int .i64 K, .string x], .int .i64 M]) ∧ Below w.heap.size w w') := fun w => by
        have := patternToken_any r w (by omega)
        rw [hO] at this
        exact this
      have HV2 : Hid (V = .tuple #[.agg #[.int .i64 K, .string x], .int .i64 M]) := by
        show _ = _
        rw [HV.out, fstTok, if_neg c12, if_neg c_letter, if_neg c_figure, if_neg c4, if_pos ⟨rfl, rfl⟩, hO]
      clear HV hO c1 c2 c12 hq3 hq4 c_letter c_figure n_letter n_figure c4
      generalize tx [47] = X at *
      go_enter Try.func11, Try.ntmps11
      go_wp2_with fail
      refine (CL.out _).mono ?_
      rintro e w1 ⟨rfl, rfl⟩
      go_wp2_with fail
      refine (CF.out _).mono ?_
      rintro e w2 ⟨rfl, rfl⟩
      go_wp2_with fail
      refine (C1.out _).mono ?_
      rintro e w3 ⟨rfl, b3⟩
      have r3 := (b3.block w.heap.size (size1 _ _)).trans (alloc1_0 _ _)
      have HB3 : Hid (Below w.heap.size w w3) := (below1 _ _).trans (b3.mono (Nat.le_of_lt (size1 _ _)))
      have HR3 : Hid _ := r3
      obtain ⟨c0, c1, f0, f1⟩ := tok_cells r3
      clear b3 r3
      go_wp2
      exact bodyPost_ret (res_tok rfl _ _ w.heap.size _ _ rfl (tok_stored HR3.out _ _)) rfl ⟨by rw [HV2.out]; rfl, tok_below HB3.out (Nat.le_refl _) _ _⟩
    | false =>
      obtain ⟨K, x, M, hO⟩ := onev_form (sgn b r)
      have C1 : Hid (∀ w, Calls Try.prog 26 #[.string (tx (b :: r))] w fun e w' => e = .returned (.tuple #[.agg #[.int .i64 K, .string x], .int .i64 M]) ∧ Below w.heap.size w w') := fun w => by
        have := signToken_any b r w
        rw [hO] at this
        exact this
      have HV2 : Hid (V = .tuple #[.agg #[.int .i64 K, .string x], .int .i64 M]) := by
        show _ = _
        rw [HV.out, fstTok, if_neg c12, if_neg c_letter, if_neg c_figure, if_neg c4, if_neg (by simp), hO]
      clear HV hO c1 c2 c12 hq3 hq4 c_letter c_figure n_letter n_figure c4 c5
      generalize tx [b] = X at *
      go_enter Try.func11, Try.ntmps11
      go_wp2_with fail
      refine (CL.out _).mono ?_
      rintro e w1 ⟨rfl, rfl⟩
      go_wp2_with fail
      refine (CF.out _).mono ?_
      rintro e w2 ⟨rfl, rfl⟩
      go_wp2_with fail
      refine (C1.out _).mono ?_
      rintro e w3 ⟨rfl, b3⟩
      have r3 := (b3.block w.heap.size (size1 _ _)).trans (alloc1_0 _ _)
      have HB3 : Hid (Below w.heap.size w w3) := (below1 _ _).trans (b3.mono (Nat.le_of_lt (size1 _ _)))
      have HR3 : Hid _ := r3
      obtain ⟨c0, c1, f0, f1⟩ := tok_cells r3
      clear b3 r3
      go_wp2
      exact bodyPost_ret (res_tok rfl _ _ w.heap.size _ _ rfl (tok_stored HR3.out _ _)) rfl ⟨by rw [HV2.out]; rfl, tok_below HB3.out (Nat.le_refl _) _ _⟩
  · have q4 := hq4 c5
    obtain ⟨K, x, M, hO⟩ := onev_form (sgn b r)
    have C1 : Hid (∀ w, Calls Try.prog 26 #[.string (tx (b :: r))] w fun e w' => e = .returned (.tuple #[.agg #[.int .i64 K, .string x], .int .i64 M]) ∧ Below w.heap.size w w') := fun w => by
      have := signToken_any b r w
      rw [hO] at this
      exact this
    have HV2 : Hid (V = .tuple #[.agg #[.int .i64 K, .string x], .int .i64 M]) := by
      show _ = _
      rw [HV.out, fstTok, if_neg c12, if_neg c_letter, if_neg c_figure, if_neg c4, if_neg (fun h => c5 h.1), hO]
    clear HV hO c1 c2 c12 hq3 hq4 c_letter c_figure n_letter n_figure c4 c5
    generalize tx [b] = X at *
    go_enter Try.func11, Try.ntmps11
    go_wp2_with fail
    refine (CL.out _).mono ?_
    rintro e w1 ⟨rfl, rfl⟩
    go_wp2_with fail
    refine (CF.out _).mono ?_
    rintro e w2 ⟨rfl, rfl⟩
    go_wp2_with fail
    refine (C1.out _).mono ?_
    rintro e w3 ⟨rfl, b3⟩
    have r3 := (b3.block w.heap.size (size1 _ _)).trans (alloc1_0 _ _)
    have HB3 : Hid (Below w.heap.size w w3) := (below1 _ _).trans (b3.mono (Nat.le_of_lt (size1 _ _)))
    have HR3 : Hid _ := r3
    obtain ⟨c0, c1, f0, f1⟩ := tok_cells r3
    clear b3 r3
    go_wp2
    exact bodyPost_ret (res_tok rfl _ _ w.heap.size _ _ rfl (tok_stored HR3.out _ _)) rfl ⟨by rw [HV2.out]; rfl, tok_below HB3.out (Nat.le_refl _) _ _⟩
#print axioms firstToken_any
#print axioms one_fst
end Go.Proofs.Ytbiknfhfpmomfap
