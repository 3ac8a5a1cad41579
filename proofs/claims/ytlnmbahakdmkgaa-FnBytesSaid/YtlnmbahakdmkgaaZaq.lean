/- Where a piece may end, by the specification: 'at', walked: maybe; and of every piece. Plain facts: a pattern within another one. -/
import Derived.Test.YtlnmbahakdmkgaaZap
import Derived.Test.YtlnmbahakdmkgaaZao
import Derived.Test.YtlnmbahakdmkgaaZae
namespace Go.Proofs.Ytlnmbahakdmkgaa
section PartSpN
open Go.RowKit

set_option maxHeartbeats 4000000 in
set_option maxRecDepth 100000 in
theorem spAt_opt (c : Mm) (L : Lie c) (k : Nat) (hk : k < c.K) (X : Nat → Prop) (w : World) (i : Nat) (hX : ∀ b, X b → c.M1 ≤ b ∧ b < w.heap.size) (h : Memo c X w) (hi : i < c.s.size + 1) (hd : w.cell? ⟨c.D k, i, none⟩ = some (.bool false)) (hop : (c.ps.getD k Pi.no).op = 9) (a0 : Nat) (hks : (c.ps.getD k Pi.no).kids = [(a0 : Int)]) (e0 : En.kid (c.ps.getD k Pi.no) 0 = a0) (hC0 : AtC c a0) :
    Calls Try.prog 22 #[.pointer (some ⟨c.m, 0, none⟩), .int .i64 (k : Int), .int .i64 (i : Int)] w (AtPost c X (En.Ends c.ps c.s k i) w) := by
  obtain ⟨c0, c1, c2, c3, c4, c5, -, -, -⟩ := h.cells k i hk hi
  obtain ⟨pb, po, pc, kv, epv, hpb, p0, p1, p2, hkv⟩ := h.piece L k hk
  rw [epv] at c0
  have hs := L.hs
  have HE : Hid (∀ j, En.Ends c.ps c.s k i j ↔ (j = i ∨ En.Ends c.ps c.s a0 i j)) := fun j => (En.opt2 hop).trans (by rw [e0])
  obtain ⟨tx, htx⟩ : ∃ tx, tx = (c.ps.getD k Pi.no).text := ⟨_, rfl⟩
  rw [← htx] at p1
  rw [hop] at p0
  rw [hks] at hkv
  have HC : Hid (AtC c a0) := hC0
  have HM : Hid (Memo c X w) := h
  have HX : Hid (∀ b, X b → c.M1 ≤ b ∧ b < w.heap.size) := hX
  have HL : Hid (Lie c) := L
  have HP : Hid (pb < w.heap.size ∧ c.m < w.heap.size ∧ c.M1 ≤ w.heap.size) := ⟨World.block_lt_of_cell? w _ p0, World.block_lt_of_cell? w _ c0, h.2.2.2.2.2⟩
  have i0 : (i : Int) < ((c.s.size + 1 : Nat) : Int) := by omega
  have k0 : (k : Int) < (c.K : Int) := by omega
  have HD : Hid (∀ A B : Obj, Below w.heap.size w ((w.alloc A).alloc B)) := fun A B => (two_more w A B).1
  obtain ⟨ka, kc, rfl, hf⟩ := hkv
  obtain ⟨kb, ko, rfl, hkl, hkc⟩ := hf (by simp)
  have hbl := h.2.2.2.2.1
  rw [L.hI] at hbl
  have k00 : w.cell? ⟨kb, ko, none⟩ = some (.int .i64 (a0 : Int)) := (hbl.cell (p := ⟨kb, ko, none⟩) hkl).trans (hkc 0 (by simp))
  have hkbl : kb < w.heap.size := World.block_lt_of_cell? w _ k00
  have k01 : ∀ A B : Obj, ((w.alloc A).alloc B).cell? ⟨kb, ko, none⟩ = some (.int .i64 (a0 : Int)) := fun A B => ((HD.out A B).cell (p := ⟨kb, ko, none⟩) hkbl).trans k00
  simp only [List.length_cons, List.length_nil, Nat.zero_add] at p2 ⊢
  clear L h hX hop epv htx hks e0 hC0 hf hkc hkl hbl k00
  go_enter Try.func22, Try.ntmps22
  go_wp2_with fail
  refine (HC.out X _ i (fun b hb => ⟨(HX.out b hb).1, by have := (HX.out b hb).2; simp; omega⟩) (HM.out.up HL.out (fun b hb => (HX.out b hb).1) (HD.out _ _)) hi).mono ?_
  rintro e w1 ⟨q, cc, rfl, q1, q2, q3, q4, q5⟩
  obtain ⟨f, hf⟩ := q3.fn
  have HFM : Hid (FM c.M0 c.M1 w w1) := ((FM.refl _ _ w).up (HD.out _ _)).trans q5
  have HM1 : Hid (Memo c X w1) := q4
  have HFF : Hid (∀ j, j < c.s.size + 1 → (f j = true ↔ En.Ends c.ps c.s a0 i j)) := fun j hj => (hf j hj).2
  have HFC : Hid (∀ j, j < c.s.size + 1 → w1.cell? ⟨q, j, none⟩ = some (.bool (f j))) := fun j hj => (hf j hj).1
  clear q1 q2 q3 q4 q5 hf HM HC c0 c1 c2 c3 c4 c5 p0 p1 p2 hd HD k01 hkbl
  go_wp2_with (at_builtin; go_must (refine opt_push rfl (.tmp 53) (.tmp 60) rfl (w.heap.size + 1) q (c.s.size + 1) cc rfl rfl f HFC.out (by omega) (by omega) ?_))
  intro w2 cap hb hB
  obtain ⟨q9, hq9⟩ : ∃ q9, q9 = w1.heap.size := ⟨_, rfl⟩
  have hqM : c.M1 ≤ q9 := by rw [hq9]; exact HM1.out.2.2.2.2.2
  have hqX : ¬ X q9 := fun hx => by have := (HX.out q9 hx).2; have := HFM.out.2.1; omega
  have HB : Hid (BFst w2 q9 (c.s.size + 1) f) := by rw [hq9]; exact hB
  obtain ⟨o1, o2⟩ := HB.out.cell i hi
  have HQ : Hid (BAt (w2.setCell ⟨q9, i, none⟩ (.bool true)) q9 (c.s.size + 1) (En.Ends c.ps c.s k i)) := HB.out.set i true _ (fun j hj => by
    rw [HE.out j]
    by_cases hji : j = i
    · simp [hji]
    · rw [if_neg hji, HFF.out j hj]
      exact ⟨.inr, fun h => h.resolve_left hji⟩)
  have m1 : Memo c (fun b => X b ∨ b = q9) w1 := HM1.out.more (fun b hb => by
    rcases hb with hb | rfl
    · exact .inl hb
    · exact .inr (by omega))
  have HM2 : Hid (Memo c X (w2.setCell ⟨q9, i, none⟩ (.bool true))) := Memo.own HL.out (fun b hb => (HX.out b hb).1) q9 i _ hqM (m1.up HL.out (fun b hb => by
    rcases hb with hb | rfl
    · exact (HX.out b hb).1
    · exact hqM) hb)
  have HF : Hid (FM c.M0 c.M1 w (w2.setCell ⟨q9, i, none⟩ (.bool true))) := (HFM.out.up hb).own q9 i _ (by have := HFM.out.2.1; omega)
  obtain ⟨t1, t2, t3, ⟨tb, t4⟩, t5, t6, t7, tu, t8⟩ := tail_cells HL.out HM2.out k i hk hi
  rw [← hq9]
  clear hq9 hb hB m1 HM1 HFM HB HFF HFC HE HX HP
  go_wp2_with fail
  go_ret
  exact tail_post HL.out HM2.out k i q9 _ hk hi hqM hqX HQ.out HF.out

/-- 'at', of every piece of a right row of pieces. -/
theorem spAt (c : Mm) (L : Lie c) (hpk : ∀ k, k < c.K → Pk.piece k (c.ps.getD k Pi.no) = true) : ∀ k, k < c.K → AtC c k := by
  intro k
  induction k using Nat.strongRecOn with
  | _ k ih =>
    intro hk X w i hX h hi
    obtain ⟨-, -, -, -, -, -, -, -, b, u, hb, -⟩ := h.cells k i hk hi
    cases b with
    | true => exact spAt_known c k hk X w i h hi hb
    | false =>
      obtain ⟨h1, h2, h3, h4, h5⟩ := Pk.piece_kids (hpk k hk)
      by_cases o5 : (c.ps.getD k Pi.no).op = 5
      · have hl : (c.ps.getD k Pi.no).kids.length = 2 := by rw [h1, o5]; rfl
        obtain ⟨a0, e0, l0, f0⟩ := h2 0 (by omega)
        obtain ⟨a1, e1, l1, f1⟩ := h2 1 (by omega)
        exact spAt_Cat c L k hk X w i hX h hi hb o5 a0 a1 ((kids2 hl).trans (by rw [e0, e1])) f0 f1 (ih a0 l0 (by omega)) (ih a1 l1 (by omega))
      by_cases o6 : (c.ps.getD k Pi.no).op = 6
      · have hl : (c.ps.getD k Pi.no).kids.length = 2 := by rw [h1, o6]; rfl
        obtain ⟨a0, e0, l0, f0⟩ := h2 0 (by omega)
        obtain ⟨a1, e1, l1, f1⟩ := h2 1 (by omega)
        exact spAt_Alt c L k hk X w i hX h hi hb o6 a0 a1 ((kids2 hl).trans (by rw [e0, e1])) f0 f1 (ih a0 l0 (by omega)) (ih a1 l1 (by omega))
      by_cases o7 : (c.ps.getD k Pi.no).op = 7
      · have hl : (c.ps.getD k Pi.no).kids.length = 1 := by rw [h1, o7]; rfl
        obtain ⟨a0, e0, l0, f0⟩ := h2 0 (by omega)
        exact spAt_star c L k hk X w i hX h hi hb o7 a0 (by omega) ((kids1 hl).trans (by rw [e0])) f0 (ih a0 l0 (by omega))
      by_cases o8 : (c.ps.getD k Pi.no).op = 8
      · have hl : (c.ps.getD k Pi.no).kids.length = 1 := by rw [h1, o8]; rfl
        obtain ⟨a0, e0, l0, f0⟩ := h2 0 (by omega)
        exact spAt_plus c L k hk X w i hX h hi hb o8 a0 (by omega) ((kids1 hl).trans (by rw [e0])) f0 (ih a0 l0 (by omega))
      by_cases o9 : (c.ps.getD k Pi.no).op = 9
      · have hl : (c.ps.getD k Pi.no).kids.length = 1 := by rw [h1, o9]; rfl
        obtain ⟨a0, e0, l0, f0⟩ := h2 0 (by omega)
        exact spAt_opt c L k hk X w i hX h hi hb o9 a0 ((kids1 hl).trans (by rw [e0])) f0 (ih a0 l0 (by omega))
      exact spAt_one c L k hk X w i hX h hi hb (by omega) (by omega)
end PartSpN
section PartFnP
namespace En

theorem Reach.map {ps qs : List Pi} {s : ByteArray} {a b : Nat} (h : ∀ i j, Ends ps s a i j → Ends qs s b i j) {i j : Nat} (r : Reach ps s a i j) : Reach qs s b i j := by
  induction r with
  | here => exact .here
  | step _ h2 ih => exact .step ih (h _ _ h2)
theorem one_same {p q : Pi} (ho : p.op = q.op) (ht : p.text = q.text) (s : ByteArray) (i j : Nat) : EndsOne p s i j ↔ EndsOne q s i j := by
  have e : ∀ b, En.takes p b = En.takes q b := fun b => by unfold En.takes; rw [ho, ht]
  unfold EndsOne
  simp only [ho, e]
/-- The pieces qs lie in ps from place d on. -/
theorem emb {ps qs : List Pi} {d : Nat} (he : ∀ k, k < qs.length → (ps.getD (k + d) Pi.no).op = (qs.getD k Pi.no).op ∧ (ps.getD (k + d) Pi.no).text = (qs.getD k Pi.no).text ∧ ∀ x, x < (qs.getD k Pi.no).kids.length → kid (ps.getD (k + d) Pi.no) x = kid (qs.getD k Pi.no) x + d)
    (hw : ∀ k, k < qs.length → Pk.piece k (qs.getD k Pi.no) = true) (s : ByteArray) : ∀ k, k < qs.length → ∀ i j, Ends ps s (k + d) i j ↔ Ends qs s k i j := by
  intro k
  induction k using Nat.strongRecOn with
  | _ k ih =>
    intro hk i j
    obtain ⟨h1, h2, h3⟩ := he k hk
    obtain ⟨k1, k2, -⟩ := Pk.piece_kids (hw k hk)
    have kd : ∀ x, x < (qs.getD k Pi.no).kids.length → kid (ps.getD (k + d) Pi.no) x = kid (qs.getD k Pi.no) x + d ∧ ∀ i j, Ends ps s (kid (qs.getD k Pi.no) x + d) i j ↔ Ends qs s (kid (qs.getD k Pi.no) x) i j := by
      intro x hx
      obtain ⟨a, _, e2, e3⟩ := k2 x hx
      refine ⟨h3 x hx, ?_⟩
      rw [e3]
      exact ih a e2 (by omega)
    unfold Pk.kw at k1
    by_cases o5 : (qs.getD k Pi.no).op = 5
    · rw [if_pos (.inl o5)] at k1
      obtain ⟨a1, a2⟩ := kd 0 (by omega)
      obtain ⟨b1, b2⟩ := kd 1 (by omega)
      rw [cat2 (h1.trans o5), cat2 o5, a1, b1]
      simp only [a2, b2]
    by_cases o6 : (qs.getD k Pi.no).op = 6
    · rw [if_pos (.inr o6)] at k1
      obtain ⟨a1, a2⟩ := kd 0 (by omega)
      obtain ⟨b1, b2⟩ := kd 1 (by omega)
      rw [alt2 (h1.trans o6), alt2 o6, a1, b1]
      simp only [a2, b2]
    by_cases o7 : (qs.getD k Pi.no).op = 7
    · rw [if_neg (by omega), if_pos (.inl o7)] at k1
      obtain ⟨a1, a2⟩ := kd 0 (by omega)
      rw [star_iff (h1.trans o7), star_iff o7, a1]
      exact ⟨Reach.map fun i j => (a2 i j).1, Reach.map fun i j => (a2 i j).2⟩
    by_cases o8 : (qs.getD k Pi.no).op = 8
    · rw [if_neg (by omega), if_pos (.inr (.inl o8))] at k1
      obtain ⟨a1, a2⟩ := kd 0 (by omega)
      rw [plus_iff (h1.trans o8), plus_iff o8, a1]
      constructor
      · rintro ⟨u, h, r⟩; exact ⟨u, (a2 _ _).1 h, r.map fun i j => (a2 i j).1⟩
      · rintro ⟨u, h, r⟩; exact ⟨u, (a2 _ _).2 h, r.map fun i j => (a2 i j).2⟩
    by_cases o9 : (qs.getD k Pi.no).op = 9
    · rw [if_neg (by omega), if_pos (.inr (.inr o9))] at k1
      obtain ⟨a1, a2⟩ := kd 0 (by omega)
      rw [opt2 (h1.trans o9), opt2 o9, a1]
      simp only [a2]
    rw [ends_one ps s (k + d) i j (by rw [h1]; omega), ends_one qs s k i j (by omega)]
    exact one_same h1 h2 s i j
end En
/-- A piece as the program keeps it. -/
def tp (p : Pp.Pc) : Pi := ⟨(p.op : Int), ⟨p.text.toArray⟩, p.kids.map Int.ofNat⟩
namespace Pp
def nul : Pc := ⟨0, [], []⟩
def shift (d : Nat) (p : Pc) : Pc := ⟨p.op, p.text, p.kids.map (· + d)⟩
/-- Do the pieces qs lie in ps from place d on? -/
def within (qs ps : List Pc) (d : Nat) : Bool := (List.range qs.length).all fun k => decide (ps[k + d]? = (qs[k]?).map (shift d))
/-- Are all of them right? -/
def right (ps : List Pc) : Bool := (List.range ps.length).all fun k => Pk.piece k (tp (ps.getD k nul))
end Pp
theorem tp_get (ps : List Pp.Pc) (k : Nat) (h : k < ps.length) : (ps.map tp).getD k Pi.no = tp (ps.getD k Pp.nul) := by simp [h]
theorem within_ends {qs ps : List Pp.Pc} {d : Nat} (h : Pp.within qs ps d = true) (hr : Pp.right qs = true) (s : ByteArray) (k : Nat) (hk : k < qs.length) (i j : Nat) : En.Ends (ps.map tp) s (k + d) i j ↔ En.Ends (qs.map tp) s k i j := by
  have hw : ∀ k, k < (qs.map tp).length → Pk.piece k ((qs.map tp).getD k Pi.no) = true := by
    intro k hk
    rw [List.length_map] at hk
    rw [tp_get qs k hk]
    unfold Pp.right at hr
    rw [List.all_eq_true] at hr
    exact hr k (List.mem_range.2 hk)
  refine En.emb (fun k hk => ?_) hw s k (by simpa using hk) i j
  rw [List.length_map] at hk
  unfold Pp.within at h
  rw [List.all_eq_true] at h
  have h1 := h k (List.mem_range.2 hk)
  simp only [decide_eq_true_eq] at h1
  rw [List.getElem?_eq_getElem hk] at h1
  have h2 : k + d < ps.length := by
    rcases Nat.lt_or_ge (k + d) ps.length with h | h
    · exact h
    · rw [List.getElem?_eq_none h] at h1; cases h1
  rw [List.getElem?_eq_getElem h2] at h1
  have h3 : ps[k + d] = Pp.shift d qs[k] := by simpa using h1
  rw [tp_get ps _ h2, tp_get qs _ hk]
  have e1 : ps.getD (k + d) Pp.nul = ps[k + d] := by simp [h2]
  have e2 : qs.getD k Pp.nul = qs[k] := by simp [hk]
  rw [e1, e2, h3]
  refine ⟨rfl, rfl, fun x hx => ?_⟩
  have hx2 : x < qs[k].kids.length := by simpa [tp] using hx
  simp [En.kid, tp, Pp.shift, hx2]
  omega
/-- Where a read pattern may end. -/
def Em (ps : List Pp.Pc) (s : ByteArray) (i j : Nat) : Prop := En.Ends (ps.map tp) s (ps.length - 1) i j
end PartFnP
end Go.Proofs.Ytlnmbahakdmkgaa
