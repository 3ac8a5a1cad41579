/- Where a piece may end, by the program: 'ends', walked. Where a piece may end, by the program: 'endsOfKids': one of two, and maybe. -/
import Derived.Test.YtlnmbahakdmkgaaZav
namespace Go.Proofs.Ytlnmbahakdmkgaa
section PartIpE
open Go.RowKit Go.Maps

theorem under_known : Try.prog.underlying 91 = some (.map 3 57) := Try.underlying91
theorem zero_eset (w : World) : (zeroValue 57).run Try.prog w = .ok (.map none) w := by kernel_rfl
theorem zero_unit (w : World) : (zeroValue 64).run Try.prog w = .ok (.agg #[]) w := by kernel_rfl
/-- 'found, ok := known[at]'. -/
theorem wpList_known {w : World} {ops : Array Oper} {rest : List Oper} {o : Oper} {a : Act} {Q : Exit → Act → World → Prop} (hg : o.guard = none) (m x : Operand) (hop : o.op = Op.lookup 91 m x true) (b n : Nat) (D : DataW (Option Nat))
    (hm : a.eval m = .map (some b)) (hown : w.ownsMap Try.prog 3 knownElem b n D) (key : Value) (kl : Lit) (hx : a.eval x = key) (hkey : keyOf Try.prog 3 key = some kl)
    (hK : ∀ ob : Option Nat, D.atKey kl (.held none) = .held ob → wpList Try.prog ops Q rest (a.put o.dst (.tuple #[.map ob, .bool (Maps.has D kl)])) w) :
    wpList Try.prog ops Q (o :: rest) a w :=
  wpList_lookup_own_ok w hg m x 91 hop 3 57 keyI under_known knownElem (zero_eset w) (.held none) [] (knownElem_mk none) b n D hm hown key kl hx hkey (fun v ps hv => by
    obtain ⟨ob, rfl, hz⟩ := knownElem_inv hv
    exact hK ob (congrArg Prod.fst hz))

theorem OS.low {w : World} {B C : Nat} {ob : Option Nat} {S : Nat → Prop} (h : OS w B ob S) (hc : C ≤ B) : OS w C ob S := by
  rcases h with h | ⟨b, h1, h2, h3⟩
  · exact .inl h
  · exact .inr ⟨b, h1, Nat.le_trans hc h2, h3⟩
theorem OS.iff {w : World} {B : Nat} {ob : Option Nat} {S T : Nat → Prop} (h : OS w B ob S) (e : ∀ k, S k ↔ T k) : OS w B ob T := by
  rcases h with ⟨h1, h2⟩ | ⟨b, h1, h2, h3⟩
  · exact .inl ⟨h1, fun k hk => h2 k ((e k).2 hk)⟩
  · exact .inr ⟨b, h1, h2, h3.iff e⟩

set_option maxHeartbeats 4000000 in
set_option maxRecDepth 100000 in
theorem ends_plain (c : Im) (L : ILie c) (k : Nat) (hk : k < c.K) (hk0 : (c.pc k).kids.length = 0) : EndC c k := by
  intro X w i hX h hi
  have hlp := h.lp k hk
  have e1 : c.f1 k = none := by unfold Im.f1; rw [if_neg (by omega)]
  obtain ⟨pk1, -, pk3, pk4, -⟩ := Pk.piece_kids (L.pk k hk)
  have hop : (c.pc k).op = 1 ∨ (c.pc k).op = 2 ∨ (c.pc k).op = 3 ∨ (c.pc k).op = 4 ∨ (c.pc k).op = 10 ∨ (c.pc k).op = 11 ∨ (c.pc k).op = 12 := by
    rw [hk0] at pk1
    unfold Pk.kw at pk1
    split at pk1
    · omega
    · split at pk1
      · omega
      · omega
  have HO : Hid (∀ W : World, LpAt W (c.P k) (c.pc k).op (c.pc k).text (c.f1 k) (c.f2 k) (c.kb k) → Calls Try.prog 47 #[.pointer (some ⟨c.P k, 0, none⟩), .string c.s, .int .i64 (i : Int)] W fun e w' => ∃ ob, e = .returned (.map ob) ∧ OS w' W.heap.size ob (EndsOne (c.pc k) c.s i) ∧ Below W.heap.size W w') := fun W hW => endOfOne_any (c.P k) (c.pc k) _ _ _ c.s i W hW hop L.hs (by omega)
  have HE : Hid (∀ j, EndsOne (c.pc k) c.s i j ↔ En.Ends c.ps c.s k i j) := fun j => (ends_one c.ps c.s k i j (by show (c.pc k).op ≠ 5 ∧ (c.pc k).op ≠ 6 ∧ (c.pc k).op ≠ 7 ∧ (c.pc k).op ≠ 8 ∧ (c.pc k).op ≠ 9; omega)).symm
  have HM : Hid (IMemo c X w) := h
  have HX : Hid (∀ b, X b → c.M1 ≤ b ∧ b < w.heap.size) := hX
  have HL : Hid (ILie c) := L
  have HP : Hid (LpAt w (c.P k) (c.pc k).op (c.pc k).text (c.f1 k) (c.f2 k) (c.kb k)) := hlp
  obtain ⟨-, -, c2, -, -⟩ := hlp.cells
  rw [e1] at c2
  clear hlp L h hX hop pk1 pk3 pk4 e1
  go_enter Try.func26, Try.ntmps26
  go_wp2_with fail
  refine (HO.out _ HP.out).mono ?_
  rintro e w1 ⟨ob, rfl, o1, o2⟩
  have HF : Hid (IPost c X (En.Ends c.ps c.s k i) w (.returned (.map ob)) w1) := ⟨ob, rfl, (o1.low HM.out.hi).iff HE.out, fun b e hx => by
    subst e
    have := (HX.out b hx).2
    rcases o1 with ⟨e, _⟩ | ⟨b', e, h2, _⟩
    · cases e
    · have := Option.some.inj e; omega, HM.out.up HL.out (fun b hb => (HX.out b hb).1) o2, (FM.refl _ _ w).up o2⟩
  clear o1 o2
  go_wp2_with fail
  go_ret
  exact HF.out

set_option maxHeartbeats 4000000 in
set_option maxRecDepth 100000 in
theorem ends_kids (c : Im) (L : ILie c) (k : Nat) (hk : k < c.K) (hk0 : 0 < (c.pc k).kids.length) (hC : KidC c k) : EndC c k := by
  intro X w i hX h hi
  have hlp := h.lp k hk
  have e1 : c.f1 k = some ⟨c.P (En.kid (c.pc k) 0), 0, none⟩ := by unfold Im.f1; rw [if_pos hk0]
  have e2 : c.kb k = some (c.B k) := by unfold Im.kb; rw [if_pos hk0]
  obtain ⟨D, hD1, hD2⟩ := h.kn k hk hk0
  have hs := L.hs
  have HC : Hid (KidC c k) := hC
  have HM : Hid (IMemo c X w) := h
  have HX : Hid (∀ b, X b → c.M1 ≤ b ∧ b < w.heap.size) := hX
  have HL : Hid (ILie c) := L
  obtain ⟨-, -, c2, -, c4⟩ := hlp.cells
  rw [e1] at c2
  rw [e2] at c4
  have HD2 : Hid (∀ x : Int, Maps.has D (.int .i64 x) = true → ∃ i b : Nat, x = (i : Int) ∧ i < c.s.size + 1 ∧ (∀ z, D.atKey (.int .i64 x) z = .held (some b)) ∧ c.M1 ≤ b ∧ ¬ X b ∧ ES w b (En.Ends c.ps c.s k i)) := hD2
  clear hlp L h hX hC hD2 e1
  by_cases hh : Maps.has D (.int .i64 (i : Int)) = true
  · obtain ⟨i', b, ei, -, hat, hb1, hb2, hb3⟩ := HD2.out _ hh
    obtain rfl : i = i' := by omega
    have HF : Hid (IPost c X (En.Ends c.ps c.s k i) w (.returned (.map (some b))) w) := ⟨_, rfl, .inr ⟨b, rfl, hb1, hb3⟩, fun b' e => by cases e; exact hb2, HM.out, FM.refl _ _ _⟩
    clear hb1 hb2 hb3 ei
    go_enter Try.func26, Try.ntmps26
    go_wp2_with (first | (at_lookup; refine wpList_known rfl _ _ rfl (c.B k) _ D rfl hD1 _ _ rfl (keyOf_int_mk Try.underlying3 (small_wf (by omega))) ?_; intro ob hob; obtain rfl : some b = ob := by (rw [hat] at hob; simpa using hob)) | fail)
    go_ret
    exact HF.out
  · rw [Bool.not_eq_true] at hh
    go_enter Try.func26, Try.ntmps26
    go_wp2_with (first | (at_lookup; refine wpList_known rfl _ _ rfl (c.B k) _ D rfl hD1 _ _ rfl (keyOf_int_mk Try.underlying3 (small_wf (by omega))) ?_; intro ob hob) | fail)
    refine (HC.out X w i HX.out HM.out hi).mono ?_
    rintro e w1 ⟨b, rfl, q1, q2, q3, q4⟩
    obtain ⟨D1, hE1, hE2⟩ := q3.kn k hk hk0
    obtain ⟨-, -, -, -, c4'⟩ := (q3.lp k hk).cells
    rw [e2] at c4'
    have hn1 : Maps.size D1 < maxLen := by
      have := size_any hE1 (c.s.size + 1) (fun x hx => by obtain ⟨i, _, e, h, _⟩ := hE2 x hx; exact ⟨i, e, h⟩)
      unfold maxLen
      omega
    have hbM : c.M1 ≤ b := Nat.le_trans HM.out.hi q1
    have hbX : ¬ X b := fun hx => by have := (HX.out b hx).2; omega
    have HLN : Hid (∀ w2 : World, w2.ownsMap Try.prog 3 knownElem (c.B k) (Maps.size D1 + 1) (D1.put (.int .i64 (i : Int)) (.held (some b))) → w1.grownBy w2 (some (c.B k)) → IPost c X (En.Ends c.ps c.s k i) w (.returned (.map (some b))) w2) := by
      intro w2 ho hg
      obtain ⟨m1, m2, m3⟩ := q3.learn HL.out k i b _ hk hk0 hi hbM hbX q2 hE1 hE2 ho hg
      exact ⟨_, rfl, .inr ⟨b, rfl, hbM, q2.keep (m3 b (by have := (HL.out.hB k hk hk0).2; omega) q2.lt)⟩, fun b' e => by cases e; exact hbX, m1, q4.trans m2⟩
    clear q1 q2 q3 q4 hE2 hbM hbX c2 c4 HM HC HD2 hob
    go_wp2_with (first | (at_mapUpdate; refine wpList_mapUpdate_own _ rfl _ _ _ 91 rfl 3 57 keyI under_known knownElem (c.B k) _ D1 rfl hE1 hn1 _ _ _ rfl rfl (keyOf_int_mk Try.underlying3 (small_wf (by omega))) (.held (some b)) [] (knownElem_mk _) ?_; intro w2 hown2 hg2) | fail)
    go_ret
    exact HLN.out w2 hown2 hg2
end PartIpE
section PartIpF
open Go.RowKit Go.Maps

/-- The set that is being made, in block b0. -/
structure Fd (c : Im) (X : Nat → Prop) (w : World) (b0 : Nat) (wr : World) (S : Nat → Prop) : Prop where
  es : ES wr b0 S
  bd : ∀ j, S j → j < c.s.size + 1
  mem : IMemo c (fun b => X b ∨ b = b0) wr
  fm : FM c.M0 c.M1 w wr
  hb : w.heap.size ≤ b0
section
variable {c : Im} {X : Nat → Prop} {w wr w2 : World} {b0 : Nat} {S T : Nat → Prop}
theorem Fd.begin (L : ILie c) (hX : ∀ b, X b → c.M1 ≤ b ∧ b < w.heap.size) (h : IMemo c X w) : Fd c X w w.heap.size (w.alloc (.map #[] 0)) (fun _ => False) := by
  have hM := h.hi
  refine ⟨ES.made w, fun _ h => h.elim, ?_, (FM.refl _ _ w).up ((Below.refl _ _).alloc (Nat.le_refl _) _), Nat.le_refl _⟩
  refine IMemo.up L (h.more fun b hb => ?_) (fun b hb => ?_) ((Below.refl _ _).alloc (Nat.le_refl _) _)
  · rcases hb with hb | rfl
    · exact .inl hb
    · exact .inr (Nat.le_refl _)
  · rcases hb with hb | rfl
    · exact (hX b hb).1
    · exact hM
theorem Fd.low (h : Fd c X w b0 wr S) (hM : c.M1 ≤ w.heap.size) (hX : ∀ b, X b → c.M1 ≤ b ∧ b < w.heap.size) (b : Nat) (hb : X b ∨ b = b0) : c.M1 ≤ b ∧ b < wr.heap.size := by
  have h1 := h.es.lt
  have h2 := h.hb
  rcases hb with hb | rfl
  · exact ⟨(hX b hb).1, by have := (hX b hb).2; omega⟩
  · exact ⟨by omega, h1⟩
theorem Fd.called (h : Fd c X w b0 wr S) (hM : c.M1 ≤ w.heap.size) (hm : IMemo c (fun b => X b ∨ b = b0) w2) (hf : FM c.M0 c.M1 wr w2) : Fd c X w b0 w2 S :=
  ⟨h.es.keep (hf.2.2 _ h.es.lt (.inr (Nat.le_trans hM h.hb))), h.bd, hm, h.fm.trans hf, h.hb⟩
theorem Fd.low1 (h : Fd c X w b0 wr S) (hM : c.M1 ≤ w.heap.size) (hX : ∀ b, X b → c.M1 ≤ b) (b : Nat) (hb : X b ∨ b = b0) : c.M1 ≤ b := by
  have h2 := h.hb
  rcases hb with hb | rfl
  · exact hX b hb
  · omega
theorem Fd.up (h : Fd c X w b0 wr S) (L : ILie c) (hM : c.M1 ≤ w.heap.size) (hX : ∀ b, X b → c.M1 ≤ b) (hb : Below wr.heap.size wr w2) : Fd c X w b0 w2 S :=
  ⟨h.es.keep (hb.block _ h.es.lt), h.bd, h.mem.up L (h.low1 hM hX) hb, h.fm.up hb, h.hb⟩
theorem Fd.iff (h : Fd c X w b0 wr S) (e : ∀ j, S j ↔ T j) : Fd c X w b0 wr T := ⟨h.es.iff e, fun j hj => h.bd j ((e j).2 hj), h.mem, h.fm, h.hb⟩
theorem Fd.grown (h : Fd c X w b0 wr S) (L : ILie c) (hM : c.M1 ≤ w.heap.size) (hX : ∀ b, X b → c.M1 ≤ b) (hg : wr.grownBy w2 (some b0)) (hE : ES w2 b0 T) (hT : ∀ j, T j → j < c.s.size + 1) : Fd c X w b0 w2 T :=
  ⟨hE, hT, h.mem.grown L (h.low1 hM hX) hg (.inr rfl), h.fm.grown hg h.hb, h.hb⟩
/-- What is left at last. -/
theorem Fd.post (h : Fd c X w b0 wr S) (e : ∀ j, S j ↔ T j) : KPost c X T w (.returned (.map (some b0))) wr :=
  ⟨b0, rfl, h.hb, h.es.iff e, h.mem.more (fun _ hb => .inl (.inl hb)), h.fm⟩
/-- A set taken up into it. -/
theorem Fd.add (h : Fd c X w b0 wr S) (L : ILie c) (hM : c.M1 ≤ w.heap.size) (hX : ∀ b, X b → c.M1 ≤ b) {B : Nat} {ob : Option Nat} (ho : OS wr B ob T) (hn : ob ≠ some b0) (hT : ∀ j, T j → j < c.s.size + 1) :
    Calls Try.prog 67 #[.map (some b0), .map ob] wr fun e w' => e = .returned (.tuple #[]) ∧ Fd c X w b0 w' (fun j => S j ∨ T j) ∧ wr.grownBy w' (some b0) := by
  have hs := L.hs
  rcases ho with ⟨rfl, hno⟩ | ⟨b, rfl, _, hE⟩
  · refine (add_nil b0 wr).mono ?_
    rintro e w' ⟨rfl, hb⟩
    exact ⟨rfl, (h.up L hM hX hb).iff (fun j => ⟨.inl, fun hj => hj.resolve_right (hno j)⟩), ⟨hb.os, hb.tape, hb.output, hb.size, fun q hq _ => hb.block q hq⟩⟩
  · refine (add_any b0 b (c.s.size + 1) S T wr h.es hE (fun e => hn (by rw [e])) h.bd hT (by omega)).mono ?_
    rintro e w' ⟨rfl, h1, h2⟩
    exact ⟨rfl, h.grown L hM hX h2 h1 (fun j hj => hj.elim (h.bd j) (hT j)), h2⟩
end

theorem kid_ptr {c : Im} {w : World} {X : Nat → Prop} (h : IMemo c X w) (k : Nat) (hk : k < c.K) (hk0 : 0 < (c.pc k).kids.length) : w.cell? ⟨c.P k, 0, none⟩ = some (.int .i64 (c.pc k).op) ∧ w.cell? ⟨c.P k, 2, none⟩ = some (.pointer (some ⟨c.P (En.kid (c.pc k) 0), 0, none⟩)) := by
  obtain ⟨c0, -, c2, -, -⟩ := (h.lp k hk).cells
  unfold Im.f1 at c2
  rw [if_pos hk0] at c2
  exact ⟨c0, c2⟩
theorem kid_ptr2 {c : Im} {w : World} {X : Nat → Prop} (h : IMemo c X w) (k : Nat) (hk : k < c.K) (hk1 : 1 < (c.pc k).kids.length) : w.cell? ⟨c.P k, 3, none⟩ = some (.pointer (some ⟨c.P (En.kid (c.pc k) 1), 0, none⟩)) := by
  obtain ⟨-, -, -, c3, -⟩ := (h.lp k hk).cells
  unfold Im.f2 at c3
  rw [if_pos hk1] at c3
  exact c3

set_option maxHeartbeats 4000000 in
set_option maxRecDepth 100000 in
theorem kids_alt (c : Im) (L : ILie c) (k : Nat) (hk : k < c.K) (hop : (c.pc k).op = 6) (hk1 : 1 < (c.pc k).kids.length) (hC0 : EndC c (En.kid (c.pc k) 0)) (hC1 : EndC c (En.kid (c.pc k) 1)) : KidC c k := by
  intro X w i hX h hi
  obtain ⟨p0, p2⟩ := kid_ptr h k hk (by omega)
  rw [hop] at p0
  have hM : c.M1 ≤ w.heap.size := h.hi
  have HX : Hid (∀ b, X b → c.M1 ≤ b ∧ b < w.heap.size) := hX
  have HL : Hid (ILie c) := L
  have HC0 : Hid (EndC c (En.kid (c.pc k) 0)) := hC0
  have HC1 : Hid (EndC c (En.kid (c.pc k) 1)) := hC1
  have HF : Hid (Fd c X w w.heap.size (w.alloc (.map #[] 0)) (fun _ => False)) := Fd.begin L hX h
  obtain ⟨p0', p2'⟩ := kid_ptr HF.out.mem k hk (by omega)
  rw [hop] at p0'
  have HE : Hid (∀ j, En.Ends c.ps c.s k i j ↔ (En.Ends c.ps c.s (En.kid (c.pc k) 0) i j ∨ En.Ends c.ps c.s (En.kid (c.pc k) 1) i j)) := fun j => En.alt2 hop
  have hmm := @run_makeMap Try.prog
  clear L hX h hC0 hC1 hop
  go_enter Try.func48, Try.ntmps48
  go_wp2_with fail
  refine (HC0.out _ _ i (HF.out.low hM HX.out) HF.out.mem hi).mono ?_
  rintro e w1 ⟨ob, rfl, o1, o2, o3, o4⟩
  have HA : Hid (Calls Try.prog 67 #[.map (some w.heap.size), .map ob] w1 fun e w' => e = .returned (.tuple #[]) ∧ Fd c X w w.heap.size w' (fun j => False ∨ En.Ends c.ps c.s (En.kid (c.pc k) 0) i j) ∧ w1.grownBy w' (some w.heap.size)) :=
    (HF.out.called hM o3 o4).add HL.out hM (fun b hb => (HX.out b hb).1) o1 (fun e => o2 _ e (.inr rfl)) (fun j hj => by have := hj.le; omega)
  clear o1 o2 o3 o4 p0 p2 p0' p2' hmm HF
  go_wp2_with fail
  refine HA.out.mono ?_
  rintro e w2 ⟨rfl, hf2, -⟩
  have HF2 : Hid (Fd c X w w.heap.size w2 (fun j => False ∨ En.Ends c.ps c.s (En.kid (c.pc k) 0) i j)) := hf2
  have p3 := kid_ptr2 hf2.mem k hk hk1
  clear hf2 HA
  obtain ⟨wo, hwo⟩ : ∃ wo : World, wo = w2 := ⟨_, rfl⟩
  go_wp2_with fail
  refine (HC1.out _ _ i (HF2.out.low hM HX.out) HF2.out.mem hi).mono ?_
  rintro e w3 ⟨ob2, rfl, o1, o2, o3, o4⟩
  have HA : Hid (Calls Try.prog 67 #[.map (some w.heap.size), .map ob2] w3 fun e w' => e = .returned (.tuple #[]) ∧ Fd c X w w.heap.size w' (fun j => (False ∨ En.Ends c.ps c.s (En.kid (c.pc k) 0) i j) ∨ En.Ends c.ps c.s (En.kid (c.pc k) 1) i j) ∧ w3.grownBy w' (some w.heap.size)) :=
    (HF2.out.called hM o3 o4).add HL.out hM (fun b hb => (HX.out b hb).1) o1 (fun e => o2 _ e (.inr rfl)) (fun j hj => by have := hj.le; omega)
  clear o1 o2 o3 o4 p3 hwo HF2
  go_wp2_with fail
  refine HA.out.mono ?_
  rintro e w4 ⟨rfl, hf4, -⟩
  have HP : Hid (KPost c X (En.Ends c.ps c.s k i) w (.returned (.map (some w.heap.size))) w4) := hf4.post (fun j => by rw [HE.out j]; simp)
  clear hf4 HA
  go_wp2_with fail
  go_ret
  exact HP.out

set_option maxHeartbeats 4000000 in
set_option maxRecDepth 100000 in
theorem kids_opt (c : Im) (L : ILie c) (k : Nat) (hk : k < c.K) (hop : (c.pc k).op = 9) (hk0 : 0 < (c.pc k).kids.length) (hC0 : EndC c (En.kid (c.pc k) 0)) : KidC c k := by
  intro X w i hX h hi
  have hs := L.hs
  obtain ⟨p0, p2⟩ := kid_ptr h k hk hk0
  rw [hop] at p0
  have hM : c.M1 ≤ w.heap.size := h.hi
  have HX : Hid (∀ b, X b → c.M1 ≤ b ∧ b < w.heap.size) := hX
  have HL : Hid (ILie c) := L
  have HC0 : Hid (EndC c (En.kid (c.pc k) 0)) := hC0
  have HF : Hid (Fd c X w w.heap.size (w.alloc (.map #[] 0)) (fun _ => False)) := Fd.begin L hX h
  obtain ⟨p0', p2'⟩ := kid_ptr HF.out.mem k hk hk0
  rw [hop] at p0'
  have HE : Hid (∀ j, En.Ends c.ps c.s k i j ↔ (j = i ∨ En.Ends c.ps c.s (En.kid (c.pc k) 0) i j)) := fun j => En.opt2 hop
  have hmm := @run_makeMap Try.prog
  obtain ⟨w1, hup, u1, u2⟩ := single_map (w.alloc (.map #[] 0)) i (by omega)
  have hsz : (w.alloc (.map #[] 0)).heap.size = w.heap.size + 1 := by simp
  rw [hsz] at hup
  have HA : Hid (Calls Try.prog 67 #[.map (some w.heap.size), .map (some (w.heap.size + 1))] w1 fun e w' => e = .returned (.tuple #[]) ∧ Fd c X w w.heap.size w' (fun j => False ∨ j = i) ∧ w1.grownBy w' (some w.heap.size)) :=
    (HF.out.up L hM (fun b hb => (hX b hb).1) u2).add L hM (fun b hb => (hX b hb).1) (B := 0) (.inr ⟨_, rfl, Nat.zero_le _, by rw [hsz] at u1; exact u1⟩) (fun e => by have := Option.some.inj e; omega) (fun j hj => by omega)
  clear L hX h hC0 hop u1 u2 hsz
  go_enter Try.func48, Try.ntmps48
  go_wp2_with fail
  refine HA.out.mono ?_
  rintro e w2 ⟨rfl, hf2, -⟩
  have HF2 : Hid (Fd c X w w.heap.size w2 (fun j => False ∨ j = i)) := hf2
  obtain ⟨-, q2⟩ := kid_ptr hf2.mem k hk hk0
  clear hf2 HA p0 p2 p0' p2' hmm HF hup
  obtain ⟨wo, hwo⟩ : ∃ wo : World, wo = w2 := ⟨_, rfl⟩
  go_wp2_with fail
  refine (HC0.out _ _ i (HF2.out.low hM HX.out) HF2.out.mem hi).mono ?_
  rintro e w3 ⟨ob2, rfl, o1, o2, o3, o4⟩
  have HA : Hid (Calls Try.prog 67 #[.map (some w.heap.size), .map ob2] w3 fun e w' => e = .returned (.tuple #[]) ∧ Fd c X w w.heap.size w' (fun j => (False ∨ j = i) ∨ En.Ends c.ps c.s (En.kid (c.pc k) 0) i j) ∧ w3.grownBy w' (some w.heap.size)) :=
    (HF2.out.called hM o3 o4).add HL.out hM (fun b hb => (HX.out b hb).1) o1 (fun e => o2 _ e (.inr rfl)) (fun j hj => by have := hj.le; omega)
  clear o1 o2 o3 o4 q2 hwo HF2
  go_wp2_with fail
  refine HA.out.mono ?_
  rintro e w4 ⟨rfl, hf4, -⟩
  have HP : Hid (KPost c X (En.Ends c.ps c.s k i) w (.returned (.map (some w.heap.size))) w4) := hf4.post (fun j => by rw [HE.out j]; simp)
  clear hf4 HA
  go_wp2_with fail
  go_ret
  exact HP.out
end PartIpF
end Go.Proofs.Ytlnmbahakdmkgaa
