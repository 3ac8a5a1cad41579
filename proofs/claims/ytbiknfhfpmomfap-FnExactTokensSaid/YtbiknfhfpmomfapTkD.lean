/- The specification of Tokens: a pattern. -/
import Derived.Test.YtbiknfhfpmomfapTkC
namespace Go.Proofs.Ytbiknfhfpmomfap
open Go.RowKit

/-- The specification's ReadPattern: whether it is read. -/
theorem spRead_ok (t : ByteArray) (w : World) (ht : t.size ≤ 1048576) :
    Calls Try.prog 18 #[.string t] w fun e w' => ∃ va vn vc, e = .returned (.tuple #[.agg #[.slice va vn vc], .bool (Pp.read t.data.toList).isSome]) ∧ Below w.heap.size w w' := by
  refine (specRead_any t w ht).mono ?_
  rintro e w' ⟨b, k⟩
  cases h : Pp.read t.data.toList with
  | none =>
    rw [h] at k
    obtain rfl : e = _ := k
    exact ⟨_, _, _, rfl, b⟩
  | some p =>
    rw [h] at k
    obtain ⟨v, rfl, k1, k2, k3⟩ := k
    obtain ⟨va, vn, vc, rfl⟩ := k1.form
    exact ⟨va, vn, vc, rfl, b⟩

set_option maxHeartbeats 4000000 in
set_option maxRecDepth 100000 in
theorem spOne_pat (s : ByteArray) (a : Nat) (lk : Nat) (lt : List UInt8) (w : World) (ha : a < s.size) (hs : s.size ≤ 1048576) (hb : s[a] = 47) :
    Calls Try.prog 9 #[.string s, .int .i64 (a : Int), .agg #[.int .i64 (lk : Int), .string ⟨lt.toArray⟩]] w fun e w' => e = .returned (onev (if Tk.textEnd s.data.toList a 47 24 = 0 ∨ lk ≠ 5 ∨ lt ≠ [126] then none else if (Pp.read (Tk.cut s.data.toList (a + 1) (Tk.textEnd s.data.toList a 47 24))).isSome = true then some (⟨4, Tk.cut s.data.toList (a + 1) (Tk.textEnd s.data.toList a 47 24)⟩, Tk.textEnd s.data.toList a 47 24 + 1) else none)) ∧ Below w.heap.size w w' := by
  have hi : (a : Int) < (s.size : Int) := by omega
  have hz : s[a].toNat = 47 := by rw [hb]; rfl
  have CN : Hid (∀ w, Calls Try.prog 15 #[.int .u8 47] w fun e w' => e = .returned (.bool false) ∧ w' = w) := fun w => spLetter 47 w
  have CF : Hid (∀ w, Calls Try.prog 16 #[.int .u8 47] w fun e w' => e = .returned (.bool false) ∧ w' = w) := fun w => spFigure 47 w
  obtain ⟨E, hE⟩ : ∃ E, E = Tk.textEnd s.data.toList a 47 24 := ⟨_, rfl⟩
  have CT : Hid (∀ w, Calls Try.prog 17 #[.string s, .int .i64 (a : Int), .int .u8 47, .int .i64 24] w fun e w' => e = .returned (.int .i64 (E : Int)) ∧ Below w.heap.size w w') := by
    intro w
    rw [hE]
    exact spText s a 47 24 w ha hs
  have HE : E ≠ 0 → a < E ∧ E < s.size := by
    intro h
    rw [hE] at h ⊢
    have := Tk.textEnd_lt h
    simpa using this
  rw [← hE]
  obtain ⟨ok, hok⟩ : ∃ ok, ok = (Pp.read (Tk.cut s.data.toList (a + 1) E)).isSome := ⟨_, rfl⟩
  have CR : Hid (∀ w, Calls Try.prog 18 #[.string (s.extract (a + 1) E)] w fun e w' => ∃ va vn vc, e = .returned (.tuple #[.agg #[.slice va vn vc], .bool ok]) ∧ Below w.heap.size w w') := by
    intro w
    have := spRead_ok (s.extract (a + 1) E) w (by rw [ByteArray.size_extract]; omega)
    rw [← cut_val] at this ⊢
    rw [hok]
    simpa using this
  rw [← hok]
  obtain ⟨V, hV⟩ : ∃ V, V = onev (if E = 0 ∨ lk ≠ 5 ∨ lt ≠ [126] then none else if ok = true then some (⟨4, Tk.cut s.data.toList (a + 1) E⟩, E + 1) else none) := ⟨_, rfl⟩
  rw [← hV]
  have HV : Hid (V = onev (if E = 0 ∨ lk ≠ 5 ∨ lt ≠ [126] then none else if ok = true then some (⟨4, Tk.cut s.data.toList (a + 1) E⟩, E + 1) else none)) := hV
  obtain ⟨L, hL⟩ : ∃ L : ByteArray, L = ⟨lt.toArray⟩ := ⟨_, rfl⟩
  have hLl : L.toList = lt := by rw [hL, Lib.toList_data]
  rw [← hL]
  clear hV hE hb hok hL
  go_enter Try.func9, Try.ntmps9
  go_wp2_with fail
  refine (CN.out _).mono ?_
  rintro e w1 ⟨rfl, rfl⟩
  go_wp2_with fail
  refine (CF.out _).mono ?_
  rintro e w1 ⟨rfl, rfl⟩
  go_wp2_with fail
  refine (CT.out _).mono ?_
  rintro e w1 ⟨rfl, b1⟩
  have r1 := (b1.block (w.heap.size + 1) (by simp)).trans (alloc2_1 _ _ _)
  have r0 := (b1.block w.heap.size (by simp; omega)).trans (alloc2_0 _ _ _)
  have HB : Hid (Below w.heap.size w w1) := (below2 _ _ _).trans (b1.mono (by simp; omega))
  have HR1 : Hid _ := r1
  have hsz : w.heap.size + 2 ≤ w1.heap.size := by have := b1.size; simpa using this
  obtain ⟨c0, c1, f0, f1⟩ := tok_cells r1
  obtain ⟨l0, l1, -, -⟩ := tok_cells r0
  clear b1 r1 r0 CT CN CF
  by_cases hbad : E = 0 ∨ lk ≠ 5 ∨ lt ≠ [126]
  · have HV2 : Hid (V = onev none) := by show _ = _; rw [HV.out, if_pos hbad]
    clear HV HE CR
    by_cases h0 : E = 0
    · have d0 : ((E : Int) == 0) = true := by rw [h0]; rfl
      clear hbad h0
      go_wp2
      exact bodyPost_ret (res_tok rfl _ _ (w.heap.size + 1) _ _ rfl (tok_stored HR1.out _ _)) rfl ⟨by rw [HV2.out]; rfl, tok_below HB.out (by omega) _ _⟩
    · by_cases h5 : lk = 5
      · have h1 : lt ≠ [126] := by rcases hbad with h | h | h; exact absurd h h0; exact absurd h5 h; exact h
        have d0 : ((E : Int) == 0) = false := beq_eq_false_iff_ne.2 (by omega)
        have d1 : ((lk : Int) != 5) = false := by rw [h5]; rfl
        have d2 : (L.toList == [126]) = false := by rw [hLl]; simpa using h1
        clear hbad h0 h5 h1 hLl
        go_wp2
        exact bodyPost_ret (res_tok rfl _ _ (w.heap.size + 1) _ _ rfl (tok_stored HR1.out _ _)) rfl ⟨by rw [HV2.out]; rfl, tok_below HB.out (by omega) _ _⟩
      · have d0 : ((E : Int) == 0) = false := beq_eq_false_iff_ne.2 (by omega)
        have d1 : ((lk : Int) != 5) = true := by simp; omega
        clear hbad h0 h5 hLl
        go_wp2
        exact bodyPost_ret (res_tok rfl _ _ (w.heap.size + 1) _ _ rfl (tok_stored HR1.out _ _)) rfl ⟨by rw [HV2.out]; rfl, tok_below HB.out (by omega) _ _⟩
  · have h0 : E ≠ 0 := fun e => hbad (.inl e)
    have h5 : lk = 5 := Classical.byContradiction fun e => hbad (.inr (.inl e))
    have h1 : lt = [126] := Classical.byContradiction fun e => hbad (.inr (.inr e))
    obtain ⟨hE1, hE2⟩ := HE h0
    have d0 : ((E : Int) == 0) = false := beq_eq_false_iff_ne.2 (by omega)
    have d1 : ((lk : Int) != 5) = false := by rw [h5]; rfl
    have d2 : (L.toList == [126]) = true := by rw [hLl, h1]; rfl
    have i1 : (a : Int) + 1 ≤ (E : Int) := by omega
    have i2 : (E : Int) ≤ (s.size : Int) := by omega
    rw [if_neg hbad] at HV
    clear HE hbad h0 h5 h1 hLl
    go_wp2_with fail
    refine (CR.out _).mono ?_
    rintro e w2 ⟨va, vn, vc, rfl, b2⟩
    have HR2 : Hid _ := (b2.block (w.heap.size + 1) (by omega)).trans HR1.out
    have HB2 : Hid (Below w.heap.size w w2) := HB.out.trans (b2.mono (by omega))
    have hsz2 : w.heap.size + 2 ≤ w2.heap.size := Nat.le_trans hsz b2.size
    clear b2 HB HR1 c0 c1 f0 f1 l0 l1 CR d0 d1 d2
    have bA : Below w2.heap.size w2 (w2.alloc (.cells #[.slice va vn vc] 41)) := (Below.refl _ _).alloc (Nat.le_refl _) _
    have HR3 : Hid ((w2.alloc (.cells #[.slice va vn vc] 41)).heap[w.heap.size + 1]? = some (.cells #[.int .i64 0, .string ⟨#[]⟩] 29 (0, 0))) := (bA.block (w.heap.size + 1) (by omega)).trans HR2.out
    have HB3 : Hid (Below w.heap.size w (w2.alloc (.cells #[.slice va vn vc] 41))) := HB2.out.trans (bA.mono (by omega))
    obtain ⟨c0, c1, f0, f1⟩ := tok_cells HR3.out
    clear bA HR2 HB2
    cases ok with
    | false =>
      have HV2 : Hid (V = onev none) := by show _ = _; rw [HV.out]; rfl
      clear HV
      go_wp2
      exact bodyPost_ret (res_tok rfl _ _ (w.heap.size + 1) _ _ rfl (tok_stored HR3.out _ _)) rfl ⟨by rw [HV2.out]; rfl, tok_below HB3.out (by omega) _ _⟩
    | true =>
      have HV2 : Hid (V = .tuple #[.agg #[.int .i64 4, .string (s.extract (a + 1) E)], .int .i64 ((E : Int) + 1)]) := by
        show _ = _
        rw [HV.out, if_pos rfl, ← cut_val]
        rfl
      clear HV
      go_wp2
      exact bodyPost_ret (res_tok rfl _ _ (w.heap.size + 1) _ _ rfl (tok_stored HR3.out _ _)) rfl ⟨by rw [HV2.out]; rfl, tok_below HB3.out (by omega) _ _⟩
#print axioms spOne_pat
end Go.Proofs.Ytbiknfhfpmomfap
