/- The specification of Tokens: a text between marks, and a pattern. -/
import Derived.Test.YtbiknfhfpmomfapTkB
namespace Go.Proofs.Ytbiknfhfpmomfap
open Go.RowKit

theorem tok_cells {w : World} {g : Nat} {x y : Value} (h : w.heap[g]? = some (.cells #[x, y] 29 (0, 0))) :
    w.cell? ⟨g, 0, none⟩ = some x ∧ w.cell? ⟨g, 1, none⟩ = some y ∧ w.frozen? ⟨g, 0, none⟩ = false ∧ w.frozen? ⟨g, 1, none⟩ = false := by
  refine ⟨?_, ?_, ?_, ?_⟩ <;> simp [World.cell?, World.frozen?, h]
theorem tok_stored {w : World} {g : Nat} {x y : Value} (h : w.heap[g]? = some (.cells #[x, y] 29 (0, 0))) (u v : Value) : ((w.setCell ⟨g, 0, none⟩ u).setCell ⟨g, 1, none⟩ v).heap[g]? = some (.cells #[u, v] 29 (0, 0)) := by
  simp [World.setCell, Array.getElem?_modify, h]
theorem tok_below {C g : Nat} {w w1 : World} (h : Below C w w1) (hg : C ≤ g) (u v : Value) : Below C w ((w1.setCell ⟨g, 0, none⟩ u).setCell ⟨g, 1, none⟩ v) := (h.setCell (by exact hg) u).setCell (by exact hg) v

set_option maxHeartbeats 2000000 in
set_option maxRecDepth 100000 in
theorem spOne_text (s : ByteArray) (a : Nat) (lk : Int) (lt : ByteArray) (w : World) (ha : a < s.size) (hs : s.size ≤ 1048576) (hb : s[a] = 34) :
    Calls Try.prog 9 #[.string s, .int .i64 (a : Int), .agg #[.int .i64 lk, .string lt]] w fun e w' => e = .returned (onev (if Tk.textEnd s.data.toList a 34 30 = 0 then none else some (⟨3, Tk.cut s.data.toList (a + 1) (Tk.textEnd s.data.toList a 34 30)⟩, Tk.textEnd s.data.toList a 34 30 + 1))) ∧ Below w.heap.size w w' := by
  have hi : (a : Int) < (s.size : Int) := by omega
  have hz : s[a].toNat = 34 := by rw [hb]; rfl
  have CN : Hid (∀ w, Calls Try.prog 15 #[.int .u8 34] w fun e w' => e = .returned (.bool false) ∧ w' = w) := fun w => spLetter 34 w
  have CF : Hid (∀ w, Calls Try.prog 16 #[.int .u8 34] w fun e w' => e = .returned (.bool false) ∧ w' = w) := fun w => spFigure 34 w
  obtain ⟨E, hE⟩ : ∃ E, E = Tk.textEnd s.data.toList a 34 30 := ⟨_, rfl⟩
  have CT : Hid (∀ w, Calls Try.prog 17 #[.string s, .int .i64 (a : Int), .int .u8 34, .int .i64 30] w fun e w' => e = .returned (.int .i64 (E : Int)) ∧ Below w.heap.size w w') := by
    intro w
    rw [hE]
    exact spText s a 34 30 w ha hs
  have HE : E ≠ 0 → a < E ∧ E < s.size := by
    intro h
    rw [hE] at h ⊢
    have := Tk.textEnd_lt h
    simpa using this
  rw [← hE]
  obtain ⟨V, hV⟩ : ∃ V, V = onev (if E = 0 then none else some (⟨3, Tk.cut s.data.toList (a + 1) E⟩, E + 1)) := ⟨_, rfl⟩
  rw [← hV]
  have HV : Hid (V = onev (if E = 0 then none else some (⟨3, Tk.cut s.data.toList (a + 1) E⟩, E + 1))) := hV
  clear hV hE hb
  by_cases h0 : E = 0
  · have HV2 : Hid (V = onev none) := by show _ = _; rw [HV.out, if_pos h0]
    subst h0
    clear HV HE
    go_enter Try.func9, Try.ntmps9
    go_wp2_with fail
    refine (CN.out _).mono ?_
    rintro e w1 ⟨rfl, rfl⟩
    go_wp2_with fail
    refine (CF.out _).mono ?_
    rintro e w1 ⟨rfl, rfl⟩
    go_wp2_with fail
    refine (CT.out _).mono ?_
    rintro e w1 ⟨rfl, b1⟩
    have r1 := (b1.block (w.heap.size + 1) (by simp)).trans (alloc2_1 _ _ _)
    have HB : Hid (Below w.heap.size w w1) := (below2 _ _ _).trans (b1.mono (by simp; omega))
    have HR1 : Hid _ := r1
    obtain ⟨c0, c1, f0, f1⟩ := tok_cells r1
    clear b1 r1 CT CN CF
    go_wp2
    exact bodyPost_ret (res_tok rfl _ _ (w.heap.size + 1) _ _ rfl (tok_stored HR1.out _ _)) rfl ⟨by rw [HV2.out]; rfl, tok_below HB.out (by omega) _ _⟩
  · obtain ⟨hE1, hE2⟩ := HE h0
    have HV2 : Hid (V = .tuple #[.agg #[.int .i64 3, .string (s.extract (a + 1) E)], .int .i64 ((E : Int) + 1)]) := by
      show _ = _
      rw [HV.out, if_neg h0, ← cut_val]
      rfl
    have d0 : ((E : Int) == 0) = false := beq_eq_false_iff_ne.2 (by omega)
    have i1 : (a : Int) + 1 ≤ (E : Int) := by omega
    have i2 : (E : Int) ≤ (s.size : Int) := by omega
    clear HV HE h0
    go_enter Try.func9, Try.ntmps9
    go_wp2_with fail
    refine (CN.out _).mono ?_
    rintro e w1 ⟨rfl, rfl⟩
    go_wp2_with fail
    refine (CF.out _).mono ?_
    rintro e w1 ⟨rfl, rfl⟩
    go_wp2_with fail
    refine (CT.out _).mono ?_
    rintro e w1 ⟨rfl, b1⟩
    have r1 := (b1.block (w.heap.size + 1) (by simp)).trans (alloc2_1 _ _ _)
    have HB : Hid (Below w.heap.size w w1) := (below2 _ _ _).trans (b1.mono (by simp; omega))
    have HR1 : Hid _ := r1
    obtain ⟨c0, c1, f0, f1⟩ := tok_cells r1
    clear b1 r1 CT CN CF
    go_wp2
    exact bodyPost_ret (res_tok rfl _ _ (w.heap.size + 1) _ _ rfl (tok_stored HR1.out _ _)) rfl ⟨by rw [HV2.out]; rfl, tok_below HB.out (by omega) _ _⟩
#print axioms spOne_text
end Go.Proofs.Ytbiknfhfpmomfap
