/- Where a piece may end, by the program: 'ends', walked. -/
import Derived.Test.YtlnmbahakdmkgaaIpD
namespace Go.Proofs.Ytlnmbahakdmkgaa
open Go.RowKit Go.Maps

theorem under_known : Try.prog.underlying 91 = some (.map 3 57) := Try.underlying91
theorem zero_eset (w : World) : (zeroValue 57).run Try.prog w = .ok (.map none) w := by kernel_rfl
theorem zero_unit (w : World) : (zeroValue 64).run Try.prog w = .ok (.agg #[]) w := by kernel_rfl
/-- 'found, ok := known[at]'. -/
theorem wpList_known {w : World} {ops : Array Oper} {rest : List Oper} {o : Oper} {a : Act} {Q : Exit → Act → World → Prop} (hg : o.guard = none) (m x : Operand) (hop : o.op = Op.lookup 91 m x true) (b n : Nat) (D : DataW (Option Nat))
    (hm : a.eval m = .map (some b)) (hown : w.ownsMap Try.prog 3 knownElem b n D) (key : Value) (kl : Lit) (hx : a.eval x = key) (hkey : keyOf Try.prog 3 key = some kl)
    (hK : ∀ ob : Option Nat, D.atKey kl (.held none) = .held ob → wpList Try.prog ops Q rest (a.put o.dst (.tuple #[.map ob, .bool (Maps.has D kl)])) w) :
    wpList Try.prog ops Q (o :: rest) a w :=
  wpList_lookup_own_ok w hg m x 91 hop 3 57 keyI under_known knownElem (zero_eset w) (.held none) [] (knownElem_mk none) b n D hm hown key kl hx hkey (fun v ps hv => by
    obtain ⟨ob, rfl, hz⟩ := knownElem_inv hv
    exact hK ob (congrArg Prod.fst hz))

theorem OS.low {w : World} {B C : Nat} {ob : Option Nat} {S : Nat → Prop} (h : OS w B ob S) (hc : C ≤ B) : OS w C ob S := by
  rcases h with h | ⟨b, h1, h2, h3⟩
  · exact .inl h
  · exact .inr ⟨b, h1, Nat.le_trans hc h2, h3⟩
theorem OS.iff {w : World} {B : Nat} {ob : Option Nat} {S T : Nat → Prop} (h : OS w B ob S) (e : ∀ k, S k ↔ T k) : OS w B ob T := by
  rcases h with ⟨h1, h2⟩ | ⟨b, h1, h2, h3⟩
  · exact .inl ⟨h1, fun k hk => h2 k ((e k).2 hk)⟩
  · exact .inr ⟨b, h1, h2, h3.iff e⟩

set_option maxHeartbeats 4000000 in
set_option maxRecDepth 100000 in
theorem ends_plain (c : Im) (L : ILie c) (k : Nat) (hk : k < c.K) (hk0 : (c.pc k).kids.length = 0) : EndC c k := by
  intro X w i hX h hi
  have hlp := h.lp k hk
  have e1 : c.f1 k = none := by unfold Im.f1; rw [if_neg (by omega)]
  obtain ⟨pk1, -, pk3, pk4, -⟩ := Pk.piece_kids (L.pk k hk)
  have hop : (c.pc k).op = 1 ∨ (c.pc k).op = 2 ∨ (c.pc k).op = 3 ∨ (c.pc k).op = 4 ∨ (c.pc k).op = 10 ∨ (c.pc k).op = 11 ∨ (c.pc k).op = 12 := by
    rw [hk0] at pk1
    unfold Pk.kw at pk1
    split at pk1
    · omega
    · split at pk1
      · omega
      · omega
  have HO : Hid (∀ W : World, LpAt W (c.P k) (c.pc k).op (c.pc k).text (c.f1 k) (c.f2 k) (c.kb k) → Calls Try.prog 47 #[.pointer (some ⟨c.P k, 0, none⟩), .string c.s, .int .i64 (i : Int)] W fun e w' => ∃ ob, e = .returned (.map ob) ∧ OS w' W.heap.size ob (EndsOne (c.pc k) c.s i) ∧ Below W.heap.size W w') := fun W hW => endOfOne_any (c.P k) (c.pc k) _ _ _ c.s i W hW hop L.hs (by omega)
  have HE : Hid (∀ j, EndsOne (c.pc k) c.s i j ↔ En.Ends c.ps c.s k i j) := fun j => (ends_one c.ps c.s k i j (by show (c.pc k).op ≠ 5 ∧ (c.pc k).op ≠ 6 ∧ (c.pc k).op ≠ 7 ∧ (c.pc k).op ≠ 8 ∧ (c.pc k).op ≠ 9; omega)).symm
  have HM : Hid (IMemo c X w) := h
  have HX : Hid (∀ b, X b → c.M1 ≤ b ∧ b < w.heap.size) := hX
  have HL : Hid (ILie c) := L
  have HP : Hid (LpAt w (c.P k) (c.pc k).op (c.pc k).text (c.f1 k) (c.f2 k) (c.kb k)) := hlp
  obtain ⟨-, -, c2, -, -⟩ := hlp.cells
  rw [e1] at c2
  clear hlp L h hX hop pk1 pk3 pk4 e1
  go_enter Try.func26, Try.ntmps26
  go_wp2_with fail
  refine (HO.out _ HP.out).mono ?_
  rintro e w1 ⟨ob, rfl, o1, o2⟩
  have HF : Hid (IPost c X (En.Ends c.ps c.s k i) w (.returned (.map ob)) w1) := ⟨ob, rfl, (o1.low HM.out.hi).iff HE.out, fun b e hx => by
    subst e
    have := (HX.out b hx).2
    rcases o1 with ⟨e, _⟩ | ⟨b', e, h2, _⟩
    · cases e
    · have := Option.some.inj e; omega, HM.out.up HL.out (fun b hb => (HX.out b hb).1) o2, (FM.refl _ _ w).up o2⟩
  clear o1 o2
  go_wp2_with fail
  go_ret
  exact HF.out

set_option maxHeartbeats 4000000 in
set_option maxRecDepth 100000 in
theorem ends_kids (c : Im) (L : ILie c) (k : Nat) (hk : k < c.K) (hk0 : 0 < (c.pc k).kids.length) (hC : KidC c k) : EndC c k := by
  intro X w i hX h hi
  have hlp := h.lp k hk
  have e1 : c.f1 k = some ⟨c.P (En.kid (c.pc k) 0), 0, none⟩ := by unfold Im.f1; rw [if_pos hk0]
  have e2 : c.kb k = some (c.B k) := by unfold Im.kb; rw [if_pos hk0]
  obtain ⟨D, hD1, hD2⟩ := h.kn k hk hk0
  have hs := L.hs
  have HC : Hid (KidC c k) := hC
  have HM : Hid (IMemo c X w) := h
  have HX : Hid (∀ b, X b → c.M1 ≤ b ∧ b < w.heap.size) := hX
  have HL : Hid (ILie c) := L
  obtain ⟨-, -, c2, -, c4⟩ := hlp.cells
  rw [e1] at c2
  rw [e2] at c4
  have HD2 : Hid (∀ x : Int, Maps.has D (.int .i64 x) = true → ∃ i b : Nat, x = (i : Int) ∧ i < c.s.size + 1 ∧ (∀ z, D.atKey (.int .i64 x) z = .held (some b)) ∧ c.M1 ≤ b ∧ ¬ X b ∧ ES w b (En.Ends c.ps c.s k i)) := hD2
  clear hlp L h hX hC hD2 e1
  by_cases hh : Maps.has D (.int .i64 (i : Int)) = true
  · obtain ⟨i', b, ei, -, hat, hb1, hb2, hb3⟩ := HD2.out _ hh
    obtain rfl : i = i' := by omega
    have HF : Hid (IPost c X (En.Ends c.ps c.s k i) w (.returned (.map (some b))) w) := ⟨_, rfl, .inr ⟨b, rfl, hb1, hb3⟩, fun b' e => by cases e; exact hb2, HM.out, FM.refl _ _ _⟩
    clear hb1 hb2 hb3 ei
    go_enter Try.func26, Try.ntmps26
    go_wp2_with (first | (at_lookup; refine wpList_known rfl _ _ rfl (c.B k) _ D rfl hD1 _ _ rfl (keyOf_int_mk Try.underlying3 (small_wf (by omega))) ?_; intro ob hob; obtain rfl : some b = ob := by (rw [hat] at hob; simpa using hob)) | fail)
    go_ret
    exact HF.out
  · rw [Bool.not_eq_true] at hh
    go_enter Try.func26, Try.ntmps26
    go_wp2_with (first | (at_lookup; refine wpList_known rfl _ _ rfl (c.B k) _ D rfl hD1 _ _ rfl (keyOf_int_mk Try.underlying3 (small_wf (by omega))) ?_; intro ob hob) | fail)
    refine (HC.out X w i HX.out HM.out hi).mono ?_
    rintro e w1 ⟨b, rfl, q1, q2, q3, q4⟩
    obtain ⟨D1, hE1, hE2⟩ := q3.kn k hk hk0
    obtain ⟨-, -, -, -, c4'⟩ := (q3.lp k hk).cells
    rw [e2] at c4'
    have hn1 : Maps.size D1 < maxLen := by
      have := size_any hE1 (c.s.size + 1) (fun x hx => by obtain ⟨i, _, e, h, _⟩ := hE2 x hx; exact ⟨i, e, h⟩)
      unfold maxLen
      omega
    have hbM : c.M1 ≤ b := Nat.le_trans HM.out.hi q1
    have hbX : ¬ X b := fun hx => by have := (HX.out b hx).2; omega
    have HLN : Hid (∀ w2 : World, w2.ownsMap Try.prog 3 knownElem (c.B k) (Maps.size D1 + 1) (D1.put (.int .i64 (i : Int)) (.held (some b))) → w1.grownBy w2 (some (c.B k)) → IPost c X (En.Ends c.ps c.s k i) w (.returned (.map (some b))) w2) := by
      intro w2 ho hg
      obtain ⟨m1, m2, m3⟩ := q3.learn HL.out k i b _ hk hk0 hi hbM hbX q2 hE1 hE2 ho hg
      exact ⟨_, rfl, .inr ⟨b, rfl, hbM, q2.keep (m3 b (by have := (HL.out.hB k hk hk0).2; omega) q2.lt)⟩, fun b' e => by cases e; exact hbX, m1, q4.trans m2⟩
    clear q1 q2 q3 q4 hE2 hbM hbX c2 c4 HM HC HD2 hob
    go_wp2_with (first | (at_mapUpdate; refine wpList_mapUpdate_own _ rfl _ _ _ 91 rfl 3 57 keyI under_known knownElem (c.B k) _ D1 rfl hE1 hn1 _ _ _ rfl rfl (keyOf_int_mk Try.underlying3 (small_wf (by omega))) (.held (some b)) [] (knownElem_mk _) ?_; intro w2 hown2 hg2) | fail)
    go_ret
    exact HLN.out w2 hown2 hg2
#print axioms ends_plain
#print axioms ends_kids
end Go.Proofs.Ytlnmbahakdmkgaa
