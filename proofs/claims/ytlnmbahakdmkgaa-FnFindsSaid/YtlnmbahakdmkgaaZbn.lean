/- The drawn patterns that are bent: the draw itself. What DrawFindIn answers: some pattern, and some text. -/
import Derived.Test.YtlnmbahakdmkgaaZbm
namespace Go.Proofs.Ytlnmbahakdmkgaa
section PartFnC
open Go.RowKit

set_option maxRecDepth 100000 in
/-- All cells of a row of pieces, behind an empty row. -/
theorem append_copy {ops : Array Oper} {rest : List Oper} {o : Oper} {a : Act} {Q : Exit → Act → World → Prop} {w2 : World} (M B m0 r m c : Nat) (cs : List Value) (hgd : o.guard = none) (s x : Operand)
    (ho : o.op = .call { callee := .builtin .append, args := #[s, x], argTypes := #[28, 28] })
    (hs : a.eval s = .slice (some ⟨m0, 0, none⟩) 0 0) (hx : a.eval x = .slice (some ⟨r, 0, none⟩) m c)
    (hm0 : w2.heap[m0]? = some (.cells #[] 81 (0, 0))) (hM : M ≤ m0) (hp : PR B w2 (.slice (some ⟨r, 0, none⟩) m c) m cs) (hone : ∀ u ∈ cs, u.oneCell' = true) (h0 : 0 < m) (h60 : m ≤ 60)
    (k : ∀ q qc w', PR M w' (.slice (some ⟨q, 0, none⟩) m qc) m cs → w2.grownBy w' (some m0) → M ≤ q → wpList Try.prog ops Q rest (a.put o.dst (.slice (some ⟨q, 0, none⟩) m qc)) w') :
    wpList Try.prog ops Q (o :: rest) a w2 := by
  obtain ⟨i0, hi, hy0, hy1, hy2⟩ := info_parts Try.infoP
  have hlt : m0 < w2.heap.size := blk_lt hm0
  refine wpList_append_lies _ hgd s x 28 ho M 81 i0 (.agg #[.int .i64 0, .string ByteArray.empty, .slice none 0 0]) 3 48 Try.underlying28 hi hy0 hy1 hy2 rfl (by decide) _ 0 [] hs ⟨rfl, .inr ⟨m0, 0, #[], rfl, hM, hm0, Nat.le_refl _, by decide, rfl, rfl⟩⟩ ⟨r, 0, none⟩ m c cs hx hp.1 ?_ hone h0 ?_ ?_ (by omega) _ rfl ?_
  · intro j u hu
    rw [show (⟨r, 0, none⟩ : Addr).add j = ⟨r, j, none⟩ by unfold Addr.add; split <;> simp_all]
    have hj : j < m * 3 := by
      have := (List.getElem?_eq_some_iff.1 hu).1
      have := hp.1
      omega
    rw [World.ownsRow.cellAt hp j hj]
    exact hu
  · unfold maxLen; omega
  · omega
  · intro q qc w' h2 h3 h4 h5
    rw [Nat.zero_add, List.nil_append] at h2
    rw [Nat.zero_add]
    refine k q qc w' h2 h3 ?_
    exact (World.ownsRow.lt h2 q rfl).1

/-- What lies there while a pattern is bent. -/
structure Bd (B g n cap : Nat) (ad : Option Addr) (w : World) (O q qc m : Nat) (cs : List Value) (W : World) : Prop where
  drw : Drw B W g ad n cap
  grn : w.grownBy W (some g)
  res : W.heap[w.heap.size]? = some (.cells #[.slice none 0 0] 30 (0, 0))
  out : W.heap[O]? = some (.cells #[.slice (some ⟨q, 0, none⟩) m qc] 30 (0, 0))
  pr : PR (w.heap.size + 1) W (.slice (some ⟨q, 0, none⟩) m qc) m cs
  cs : Cs (w.heap.size + 1) W q m cs
  low : B ≤ w.heap.size
  gl : g < w.heap.size
  ol : w.heap.size < O
  oq : O ≠ q
theorem Bd.sz {B g n cap : Nat} {ad : Option Addr} {w : World} {O q qc m : Nat} {cs : List Value} {W : World} (h : Bd B g n cap ad w O q qc m cs W) : O < W.heap.size ∧ q < W.heap.size ∧ w.heap.size + 1 ≤ q := ⟨blk_lt h.out, (World.ownsRow.lt h.pr q rfl).2, (World.ownsRow.lt h.pr q rfl).1⟩
theorem Bd.drawn {B g n cap : Nat} {ad : Option Addr} {w : World} {O q qc m : Nat} {cs : List Value} {W W' : World} (h : Bd B g n cap ad w O q qc m cs W) (hg : W.grownBy W' (some g)) (hd : Drw B W' g ad n cap) : Bd B g n cap ad w O q qc m cs W' := by
  obtain ⟨s1, s2, s3⟩ := h.sz
  have hgl := h.gl
  have hol := h.ol
  refine ⟨hd, grown_trans h.grn hg, (hg.block _ (by omega) (by simp; omega)).trans h.res, (hg.block _ s1 (by simp; omega)).trans h.out, h.pr.keep fun q' e => ?_, h.cs.grown hg (.inr (by omega)), h.low, h.gl, h.ol, h.oq⟩
  have e2 : q = q' := by simpa [Value.ownBlock] using e
  subst e2
  exact hg.block _ s2 (by simp; omega)
theorem Bd.up {B g n cap : Nat} {ad : Option Addr} {w : World} {O q qc m : Nat} {cs : List Value} {W W' : World} (h : Bd B g n cap ad w O q qc m cs W) (hb : Below W.heap.size W W') : Bd B g n cap ad w O q qc m cs W' :=
  h.drawn ⟨hb.os, hb.tape, hb.output, hb.size, fun k hk _ => hb.block k hk⟩ (h.drw.keep (hb.mono (by have := h.sz; have := h.low; omega)))
theorem Bd.set {B g n cap : Nat} {ad : Option Addr} {w : World} {O q qc m : Nat} {cs : List Value} {W : World} (h : Bd B g n cap ad w O q qc m cs W) (j : Nat) (u : Value) (hc : Cs (w.heap.size + 1) W q m (cs.set j u)) : Bd B g n cap ad w O q qc m (cs.set j u) (W.setCell ⟨q, j, none⟩ u) := by
  obtain ⟨s1, s2, s3⟩ := h.sz
  have hgl := h.gl
  have hol := h.ol
  have hlow := h.low
  obtain ⟨k1, k2⟩ := World.ownsRow.stored h.pr j u
  have hb : Below q W (W.setCell ⟨q, j, none⟩ u) := (Below.refl _ _).setCell (by exact Nat.le_refl _) _
  refine ⟨h.drw.keep (hb.mono (by omega)), ?_, (hb.block _ (by omega)).trans h.res, ?_, k1, hc.grown k2 (.inl rfl), h.low, h.gl, h.ol, h.oq⟩
  · exact ⟨h.grn.os, h.grn.tape, h.grn.output, Nat.le_trans h.grn.size hb.size, fun k hk hne => (hb.block k (by omega)).trans (h.grn.block k hk hne)⟩
  · rw [Below.heap_setCell _ _ _ _ (by show O ≠ q; exact h.oq)]
    exact h.out
/-- What is answered in the end. -/
theorem Bd.fin {B g n cap : Nat} {ad : Option Addr} {w : World} {O q qc m : Nat} {cs : List Value} {W : World} (h : Bd B g n cap ad w O q qc m cs W) (h60 : m ≤ 60) (u : Value) : ∃ ps : List Pi, PcsUp (w.heap.size + 1) (W.setCell ⟨w.heap.size, 0, none⟩ u) (.slice (some ⟨q, 0, none⟩) m qc) ps ∧ ps.length ≤ 60 ∧ Small ps ps.length ∧ Drw B (W.setCell ⟨w.heap.size, 0, none⟩ u) g ad n cap ∧ w.grownBy (W.setCell ⟨w.heap.size, 0, none⟩ u) (some g) := by
  obtain ⟨s1, s2, s3⟩ := h.sz
  have hlow := h.low
  have hgl := h.gl
  have hb : Below w.heap.size W (W.setCell ⟨w.heap.size, 0, none⟩ u) := (Below.refl _ _).setCell (by exact Nat.le_refl _) _
  have hg : W.grownBy (W.setCell ⟨w.heap.size, 0, none⟩ u) (some w.heap.size) := ⟨rfl, rfl, rfl, by simp, fun k _ hk => heap_setCell_other W ⟨w.heap.size, 0, none⟩ k u (fun e => hk (by simp [e]))⟩
  have hcs := h.cs.grown hg (.inr (by omega))
  have hpr : PR (w.heap.size + 1) (W.setCell ⟨w.heap.size, 0, none⟩ u) (.slice (some ⟨q, 0, none⟩) m qc) m cs := h.pr.keep fun q' e => by
    have e2 : q = q' := by simpa [Value.ownBlock] using e
    subst e2
    exact hg.block _ s2 (by simp; omega)
  obtain ⟨ps, p1, p2, p3⟩ := hcs.pcsUp hpr
  exact ⟨ps, p1, by omega, p3, h.drw.keep (hb.mono hlow), ⟨h.grn.os, h.grn.tape, h.grn.output, Nat.le_trans h.grn.size hb.size, fun k hk hne => (hb.block k hk).trans (h.grn.block k hk hne)⟩⟩

set_option maxHeartbeats 4000000 in
set_option maxRecDepth 100000 in
theorem l04Bent_any (B g n cap : Nat) (ad : Option Addr) (w : World) (hd : Drw B w g ad n cap) (hB : B ≤ w.heap.size) :
    Calls Try.prog 37 #[.pointer (some ⟨g, 0, none⟩)] w fun e w' => ∃ (v : Value) (ps : List Pi), e = .returned (.agg #[v]) ∧ PcsUp (w.heap.size + 1) w' v ps ∧ ps.length ≤ 60 ∧ Small ps ps.length ∧ Drw B w' g ad n cap ∧ w.grownBy w' (some g) := by
  have HD : Hid (Drw B w g ad n cap) := hd
  clear hd
  go_enter Try.func37, Try.ntmps37
  go_wp2_with fail
  have hb0 : Below w.heap.size w (w.alloc (.cells #[.slice none 0 0] 30)) := (Below.refl _ _).alloc (Nat.le_refl _) _
  have hc0 : (w.alloc (.cells #[.slice none 0 0] 30)).heap[w.heap.size]? = some (.cells #[.slice none 0 0] 30 (0, 0)) := heap_alloc_new w _
  have hs0 : (w.alloc (.cells #[.slice none 0 0] 30)).heap.size = w.heap.size + 1 := by simp
  have D0 : Hid (Drw B (w.alloc (.cells #[.slice none 0 0] 30)) g ad n cap) := HD.out.keep (hb0.mono hB)
  have hgl : g < w.heap.size := HD.out.lt
  refine (l04Pattern_any B g n cap ad _ D0.out (by omega)).mono ?_
  rintro e w1 ⟨v, ps, rfl, hrp, hr, h0, h60, d1, g1⟩
  have hc1 : w1.heap[w.heap.size]? = some (.cells #[.slice none 0 0] 30 (0, 0)) := (g1.block w.heap.size (by omega) (by simp; omega)).trans hc0
  replace g1 : w.grownBy w1 (some g) := grown_trans ⟨hb0.os, hb0.tape, hb0.output, hb0.size, fun k hk _ => hb0.block k hk⟩ g1
  rw [hs0] at hrp
  have s1 := g1.size
  have hs1 : w.heap.size < w1.heap.size := blk_lt hc1
  obtain ⟨r, c, cs, hv, hpr, -, hone⟩ := hrp.cs hr h0 _ (Nat.le_refl _)
  have HCS : Hid (∀ G, w1.heap.size ≤ G → Cs (w.heap.size + 1) w1 G ps.length cs) := by
    intro G hG
    obtain ⟨r', c', cs', hv', hpr', hcs', -⟩ := hrp.cs hr h0 G hG
    obtain rfl := hpr.unique hpr' (fun _ _ => rfl)
    exact hcs'
  subst hv
  have hrl : w.heap.size + 1 ≤ r ∧ r < w1.heap.size := World.ownsRow.lt hpr r rfl
  obtain ⟨m, hm⟩ : ∃ m, m = ps.length := ⟨_, rfl⟩
  rw [← hm] at HCS hpr h0 h60 ⊢
  have HPR : Hid (PR (w.heap.size + 1) w1 (.slice (some ⟨r, 0, none⟩) m c) m cs) := hpr
  have HON : Hid (∀ u ∈ cs, u.oneCell' = true) := hone
  have D1 : Hid (Drw B w1 g ad n cap) := d1
  have G1 : Hid (w.grownBy w1 (some g)) := g1
  clear hb0 hc0 D0 HD hrp hr hm hpr hone d1 g1
  have HW2 : Hid (∀ A : Obj, Below w1.heap.size w1 ((w1.alloc A).alloc (.cells #[] 81))) := fun A => ((Below.refl _ _).alloc (Nat.le_refl _) A).alloc (by simp) _
  have HPR2 : Hid (∀ A : Obj, PR (w.heap.size + 1) ((w1.alloc A).alloc (.cells #[] 81)) (.slice (some ⟨r, 0, none⟩) m c) m cs) := fun A => HPR.out.keep fun q hq => (HW2.out A).block q (World.ownsRow.lt HPR.out q hq).2
  go_wp2_with (first | (at_builtin; refine append_copy (w1.heap.size + 1) (w.heap.size + 1) (w1.heap.size + 1) r m c cs rfl (.tmp 8) (.tmp 10) rfl rfl rfl (alloc2_1 _ _ _) (Nat.le_refl _) (HPR2.out _) HON.out h0 h60 ?_; intro q qc w3 hp3 hg3 hq3) | fail)
  have hw3 : Below w1.heap.size w1 w3 := (HW2.out _).trans ((Below.refl _ _).grown hg3 (by simp; omega) (fun k hk => by cases hk; omega))
  have hs3 : w1.heap.size + 1 < w3.heap.size := by have := hg3.size; simp at this; omega
  have hql : q < w3.heap.size := (World.ownsRow.lt hp3 q rfl).2
  obtain ⟨W, hW⟩ : ∃ W, W = w3.alloc (.cells #[.slice (some ⟨q, 0, none⟩) m qc] 30) := ⟨_, rfl⟩
  have hbW : Below w3.heap.size w3 W := by rw [hW]; exact (Below.refl _ _).alloc (Nat.le_refl _) _
  have HB4 : Hid (Bd B g n cap ad w w3.heap.size q qc m cs W) := by
    have hb1W : Below w1.heap.size w1 W := hw3.trans (hbW.mono (by omega))
    refine ⟨D1.out.keep (hb1W.mono (by omega)), ?_, (hb1W.block _ hs1).trans hc1, by rw [hW]; exact heap_alloc_new w3 _, ?_, (HCS.out q (by omega)).up hb1W, hB, hgl, by omega, by omega⟩
    · exact grown_trans G1.out ⟨hb1W.os, hb1W.tape, hb1W.output, hb1W.size, fun k hk _ => hb1W.block k hk⟩
    · have k : PR (w1.heap.size + 1) W (.slice (some ⟨q, 0, none⟩) m qc) m cs := hp3.keep fun q' e => hbW.block q' (World.ownsRow.lt hp3 q' e).2
      refine ⟨k.1, ?_⟩
      rcases k.2 with ⟨e, _⟩ | ⟨g', cap', cur, e, k1, rest⟩
      · cases e
      · exact .inr ⟨g', cap', cur, e, by omega, rest⟩
  rw [← hW]
  obtain ⟨O, hO⟩ : ∃ O, O = w3.heap.size := ⟨_, rfl⟩
  rw [← hO] at HB4 ⊢
  clear hW hbW hw3 hs3 hql hp3 hg3 hq3 HW2 HPR2 HPR HCS HON D1 G1 hc1 hO
  refine (below_any B g n cap ad m W HB4.out.drw h0 (by omega)).mono ?_
  rintro e w4 ⟨k, hk, rfl, d4, g4⟩
  have HB5 : Hid (Bd B g n cap ad w O q qc m cs w4) := HB4.out.drawn g4 d4
  clear d4 g4 HB4
  go_wp2_with fail
  refine (below_any B g n cap ad 12 w4 HB5.out.drw (by decide) (by decide)).mono ?_
  rintro e w5 ⟨x, hx, rfl, d5, g5⟩
  have HB6 : Hid (Bd B g n cap ad w O q qc m cs w5) := HB5.out.drawn g5 d5
  clear d5 g5 HB5
  have o0 : w5.cell? ⟨O, 0, none⟩ = some (.slice (some ⟨q, 0, none⟩) m qc) := by rw [blk_cell HB6.out.out]; rfl
  have r0 : w5.cell? ⟨w.heap.size, 0, none⟩ = some (.slice none 0 0) := by rw [blk_cell HB6.out.res]; rfl
  have r1 : w5.frozen? ⟨w.heap.size, 0, none⟩ = false := blk_free HB6.out.res 0
  have key : x = 0 ∨ x = 1 ∨ x = 2 ∨ x = 3 ∨ (x ≠ 0 ∧ x ≠ 1 ∧ x ≠ 2 ∧ x ≠ 3) := by omega
  obtain ⟨hO, hq2, hq3⟩ := HB6.out.sz
  have hOw := HB6.out.ol
  have o1 : w5.frozen? ⟨O, 0, none⟩ = false := blk_free HB6.out.out 0
  rcases key with rfl | rfl | rfl | rfl | ⟨x0, x1, x2, x3⟩
  · have i1 : (k : Int) < (m : Int) := by omega
    have C0 : Hid (∀ W, Bd B g n cap ad w O q qc m cs W → Calls Try.prog 39 #[.pointer (some ⟨g, 0, none⟩), .int .i64 14] W fun e w' => ∃ (y : Nat) (old : Value), e = .returned (.int .i64 (y : Int)) ∧ Bd B g n cap ad w O q qc m cs w' ∧ w'.cell? ⟨O, 0, none⟩ = some (.slice (some ⟨q, 0, none⟩) m qc) ∧ w'.cell? ⟨q, k * 3, none⟩ = some old ∧ w'.frozen? ⟨q, k * 3, none⟩ = false) := by
      intro W hW
      refine (below_any B g n cap ad 14 W hW.drw (by decide) (by decide)).mono ?_
      rintro e w' ⟨y, _, rfl, d, g'⟩
      have hb := hW.drawn g' d
      obtain ⟨op, t, ks, kv, e1, e2, e3, -⟩ := hb.cs k hk
      exact ⟨y, _, rfl, hb, by rw [blk_cell hb.out]; rfl, by rw [World.ownsRow.cellAt hb.pr (k * 3) (by omega)]; exact e1, World.ownsRow.frozenAt hb.pr _⟩
    clear r0 r1 o1
    go_wp2_with fail
    go_region_with ((go_at_call 39; refine (C0.out _ (by first | exact HB6.out | exact HB6.out.up (Below.refl _ _).drew)).mono ?_; rintro e w6 ⟨y, old, rfl, hb7, o6, s6, f6⟩))
    all_goals
      obtain ⟨W, hW⟩ : ∃ W, W = w6.setCell ⟨q, k * 3, none⟩ (.int .i64 (y : Int)) := ⟨_, rfl⟩
      have HB8 : Hid (Bd B g n cap ad w O q qc m (cs.set (k * 3) (.int .i64 (y : Int))) W) := by rw [hW]; exact hb7.set _ _ (hb7.cs.setOp hb7.pr.1 k hk _)
      rw [← hW]
      clear hW hb7 o6 s6 f6 C0 HB6 o0
      have o8 : W.cell? ⟨O, 0, none⟩ = some (.slice (some ⟨q, 0, none⟩) m qc) := by rw [blk_cell HB8.out.out]; rfl
      have r8 : W.cell? ⟨w.heap.size, 0, none⟩ = some (.slice none 0 0) := by rw [blk_cell HB8.out.res]; rfl
      have f8 : W.frozen? ⟨w.heap.size, 0, none⟩ = false := blk_free HB8.out.res 0
      have HRS : Hid ((W.setCell ⟨w.heap.size, 0, none⟩ (.slice (some ⟨q, 0, none⟩) m qc)).heap[w.heap.size]? = some (.cells #[.slice (some ⟨q, 0, none⟩) m qc] 30 (0, 0))) := blk_set HB8.out.res 0 _
      go_wp2_with fail
      refine bodyPost_ret (res_one rfl _ _ w.heap.size (.slice (some ⟨q, 0, none⟩) m qc) rfl HRS.out) rfl ?_
      obtain ⟨ps', p1⟩ := HB8.out.fin h60 (.slice (some ⟨q, 0, none⟩) m qc)
      exact ⟨_, ps', rfl, p1⟩
  · have i1 : (k : Int) < (m : Int) := by omega
    have C1 : Hid (∀ W, Bd B g n cap ad w O q qc m cs W → Calls Try.prog 52 #[.pointer (some ⟨g, 0, none⟩), .slice (some ⟨W.heap.size, 0, none⟩) 3 3] (W.alloc (.cells #[.string ⟨#[]⟩, .string ⟨#[97]⟩, .string ⟨#[97, 98]⟩] 9)) fun e w' => ∃ (t : ByteArray) (old : Value), e = .returned (.string t) ∧ t.size ≤ 2 ∧ Bd B g n cap ad w O q qc m cs w' ∧ w'.cell? ⟨O, 0, none⟩ = some (.slice (some ⟨q, 0, none⟩) m qc) ∧ w'.cell? ⟨q, k * 3 + 1, none⟩ = some old ∧ w'.frozen? ⟨q, k * 3 + 1, none⟩ = false) := by
      intro W hW
      have key := pickL_any B g n cap ad [[], [97], [97, 98]] W hW.drw (by have := hW.sz; have := hW.low; have := hW.ol; omega) (by decide) (by decide)
      refine Calls.mono (R := fun e w' => ∃ t : List UInt8, t ∈ [[], [97], [97, 98]] ∧ e = .returned (.string ⟨t.toArray⟩) ∧ Drw B w' g ad n cap ∧ W.grownBy w' (some g)) key ?_
      rintro e w' ⟨t, ht, rfl, d, g'⟩
      have hb := hW.drawn g' d
      obtain ⟨op, t', ks, kv, e1, e2, e3, -⟩ := hb.cs k hk
      refine ⟨_, _, rfl, ?_, hb, by rw [blk_cell hb.out]; rfl, by rw [World.ownsRow.cellAt hb.pr (k * 3 + 1) (by omega)]; exact e2, World.ownsRow.frozenAt hb.pr _⟩
      rw [lst_size]
      revert t
      decide
    clear r0 r1 o1
    go_wp2_with fail
    go_region_with ((go_at_call 52; refine Calls.mono (C1.out w5.drew (HB6.out.up (Below.refl _ _).drew)) ?_; rintro e w6 ⟨y, old, rfl, hys, hb7, o6, s6, f6⟩))
    all_goals
      obtain ⟨W, hW⟩ : ∃ W, W = w6.setCell ⟨q, k * 3 + 1, none⟩ (.string y) := ⟨_, rfl⟩
      have HB8 : Hid (Bd B g n cap ad w O q qc m (cs.set (k * 3 + 1) (.string y)) W) := by rw [hW]; exact hb7.set _ _ (hb7.cs.setText hb7.pr.1 k hk _ (by omega))
      rw [← hW]
      clear hW hb7 o6 s6 f6 C1 HB6 o0
      have o8 : W.cell? ⟨O, 0, none⟩ = some (.slice (some ⟨q, 0, none⟩) m qc) := by rw [blk_cell HB8.out.out]; rfl
      have r8 : W.cell? ⟨w.heap.size, 0, none⟩ = some (.slice none 0 0) := by rw [blk_cell HB8.out.res]; rfl
      have f8 : W.frozen? ⟨w.heap.size, 0, none⟩ = false := blk_free HB8.out.res 0
      have HRS : Hid ((W.setCell ⟨w.heap.size, 0, none⟩ (.slice (some ⟨q, 0, none⟩) m qc)).heap[w.heap.size]? = some (.cells #[.slice (some ⟨q, 0, none⟩) m qc] 30 (0, 0))) := blk_set HB8.out.res 0 _
      go_wp2_with fail
      refine bodyPost_ret (res_one rfl _ _ w.heap.size (.slice (some ⟨q, 0, none⟩) m qc) rfl HRS.out) rfl ?_
      obtain ⟨ps', p1⟩ := HB8.out.fin h60 (.slice (some ⟨q, 0, none⟩) m qc)
      exact ⟨_, ps', rfl, p1⟩
  · have i1 : (k : Int) < (m : Int) := by omega
    have C2 : Hid (∀ W, Bd B g n cap ad w O q qc m cs W → Calls Try.prog 60 #[.pointer (some ⟨g, 0, none⟩), .slice (some ⟨W.heap.size, 0, none⟩) 3 3] (W.alloc (.cells #[.int .i64 (-1), .int .i64 0, .int .i64 (k : Int)] 3)) fun e w' => ∃ (z : Int) (old : Value), e = .returned (.int .i64 z) ∧ Bd B g n cap ad w O q qc m cs w' ∧ w'.cell? ⟨O, 0, none⟩ = some (.slice (some ⟨q, 0, none⟩) m qc) ∧ w'.cell? ⟨q, k * 3 + 2, none⟩ = some old ∧ w'.frozen? ⟨q, k * 3 + 2, none⟩ = false ∧ O < w'.heap.size ∧ q < w'.heap.size) := by
      intro W hW
      have key := pickI_any B g n cap ad [-1, 0, (k : Int)] W hW.drw (by have := hW.sz; have := hW.low; have := hW.ol; omega) (by simp) (by simp)
      refine Calls.mono (R := fun e w' => ∃ z : Int, z ∈ [-1, 0, (k : Int)] ∧ e = .returned (.int .i64 z) ∧ Drw B w' g ad n cap ∧ W.grownBy w' (some g)) key ?_
      rintro e w' ⟨t, ht, rfl, d, g'⟩
      have hb := hW.drawn g' d
      obtain ⟨op, t', ks, kv, e1, e2, e3, -⟩ := hb.cs k hk
      exact ⟨_, _, rfl, hb, by rw [blk_cell hb.out]; rfl, by rw [World.ownsRow.cellAt hb.pr (k * 3 + 2) (by omega)]; exact e3, World.ownsRow.frozenAt hb.pr _, hb.sz.1, hb.sz.2.1⟩
    clear r0 r1 o1
    go_wp2_with fail
    go_region_with ((go_at_call 60; refine Calls.mono (C2.out w5.drew (HB6.out.up (Below.refl _ _).drew)) ?_; rintro e w6 ⟨z, old, rfl, hb7, o6, s6, f6, l6, q6⟩))
    all_goals
      obtain ⟨W, hW⟩ : ∃ W, W = (w6.setCell ⟨q, k * 3 + 2, none⟩ (.slice (some ⟨w6.heap.size, 0, none⟩) 1 1)).alloc (.cells #[.int .i64 z] 3) := ⟨_, rfl⟩
      have HB8 : Hid (Bd B g n cap ad w O q qc m (cs.set (k * 3 + 2) (.slice (some ⟨w6.heap.size, 0, none⟩) 1 1)) W) := by
        rw [hW, ← World.setCell_alloc_past _ _ _ _ q6]
        have hb8 := hb7.up ((Below.refl w6.heap.size w6).alloc (Nat.le_refl _) (.cells #[.int .i64 z] 3))
        refine hb8.set _ _ (hb8.cs.setKids hb8.pr.1 k hk _ [z] ⟨_, 1, rfl, fun _ => ⟨w6.heap.size, 0, rfl, by simp, fun i hi => ?_⟩⟩ (by simp) (fun q' hq' => ?_))
        · have : i = 0 := by simpa using hi
          subst this
          rw [blk_cell (heap_alloc_new w6 _)]
          rfl
        · have e : w6.heap.size = q' := by simpa [Value.ownBlock] using hq'
          have := hb7.sz
          have := hb7.ol
          exact ⟨by omega, by omega⟩
      rw [← hW]
      clear hW hb7 o6 s6 f6 l6 q6 C2 HB6 o0
      have o8 : W.cell? ⟨O, 0, none⟩ = some (.slice (some ⟨q, 0, none⟩) m qc) := by rw [blk_cell HB8.out.out]; rfl
      have r8 : W.cell? ⟨w.heap.size, 0, none⟩ = some (.slice none 0 0) := by rw [blk_cell HB8.out.res]; rfl
      have f8 : W.frozen? ⟨w.heap.size, 0, none⟩ = false := blk_free HB8.out.res 0
      have HRS : Hid ((W.setCell ⟨w.heap.size, 0, none⟩ (.slice (some ⟨q, 0, none⟩) m qc)).heap[w.heap.size]? = some (.cells #[.slice (some ⟨q, 0, none⟩) m qc] 30 (0, 0))) := blk_set HB8.out.res 0 _
      go_wp2_with fail
      refine bodyPost_ret (res_one rfl _ _ w.heap.size (.slice (some ⟨q, 0, none⟩) m qc) rfl HRS.out) rfl ?_
      obtain ⟨ps', p1⟩ := HB8.out.fin h60 (.slice (some ⟨q, 0, none⟩) m qc)
      exact ⟨_, ps', rfl, p1⟩
  · have HR1 : Hid (∀ (A : Obj) (u : Value), ((w5.setCell ⟨O, 0, none⟩ u).alloc A).heap[w.heap.size]? = some (.cells #[.slice none 0 0] 30 (0, 0))) := by
      intro A u
      have b1 : Below O w5 (w5.setCell ⟨O, 0, none⟩ u) := (Below.refl _ _).setCell (by exact Nat.le_refl _) _
      have b2 : Below O w5 ((w5.setCell ⟨O, 0, none⟩ u).alloc A) := b1.alloc (by simp [World.setCell]; omega) _
      exact (b2.block _ hOw).trans HB6.out.res
    have HR2 : Hid (∀ (A : Obj) (u : Value), ((w5.alloc A).setCell ⟨O, 0, none⟩ u).heap[w.heap.size]? = some (.cells #[.slice none 0 0] 30 (0, 0))) := by
      intro A u
      have b1 : Below O w5 (w5.alloc A) := (Below.refl _ _).alloc (by omega) _
      have b2 : Below O w5 ((w5.alloc A).setCell ⟨O, 0, none⟩ u) := b1.setCell (by exact Nat.le_refl _) _
      exact (b2.block _ hOw).trans HB6.out.res
    have z1 : ∀ (A : Obj) (u : Value), ((w5.setCell ⟨O, 0, none⟩ u).alloc A).cell? ⟨w.heap.size, 0, none⟩ = some (.slice none 0 0) := fun A u => by rw [blk_cell (HR1.out A u)]; rfl
    have z2 : ∀ (A : Obj) (u : Value), ((w5.setCell ⟨O, 0, none⟩ u).alloc A).frozen? ⟨w.heap.size, 0, none⟩ = false := fun A u => blk_free (HR1.out A u) 0
    have z3 : ∀ (A : Obj) (u : Value), ((w5.alloc A).setCell ⟨O, 0, none⟩ u).cell? ⟨w.heap.size, 0, none⟩ = some (.slice none 0 0) := fun A u => by rw [blk_cell (HR2.out A u)]; rfl
    have z4 : ∀ (A : Obj) (u : Value), ((w5.alloc A).setCell ⟨O, 0, none⟩ u).frozen? ⟨w.heap.size, 0, none⟩ = false := fun A u => blk_free (HR2.out A u) 0
    have HBF : Hid (∀ (A : Obj) (u v : Value), Below w.heap.size w5 (((w5.setCell ⟨O, 0, none⟩ u).alloc A).setCell ⟨w.heap.size, 0, none⟩ v)) := by
      intro A u v
      have b1 : Below w.heap.size w5 (w5.setCell ⟨O, 0, none⟩ u) := (Below.refl _ _).setCell (by show w.heap.size ≤ O; omega) _
      have b2 : Below w.heap.size w5 ((w5.setCell ⟨O, 0, none⟩ u).alloc A) := b1.alloc (by simp [World.setCell]; omega) _
      exact b2.setCell (by exact Nat.le_refl _) _
    go_wp2_with fail
    refine bodyPost_ret (res_one rfl _ _ w.heap.size (.slice (some ⟨w5.heap.size, 0, none⟩) 0 0) rfl (blk_set (HR1.out _ _) 0 _)) rfl ?_
    have bf := HBF.out (.cells #[] 81) (.slice (some ⟨w5.heap.size, 0, none⟩) 0 0) (.slice (some ⟨w5.heap.size, 0, none⟩) 0 0)
    exact ⟨_, [], rfl, fun _ _ _ => ⟨_, 0, rfl, fun h => absurd h (by simp)⟩, by simp, fun i hi => absurd hi (by simp), HB6.out.drw.keep (bf.mono hB), ⟨bf.os.trans HB6.out.grn.os, bf.tape.trans HB6.out.grn.tape, bf.output.trans HB6.out.grn.output, Nat.le_trans HB6.out.grn.size bf.size, fun k hk hne => (bf.block k hk).trans (HB6.out.grn.block k hk hne)⟩⟩
  · have y0 : ((x : Int) == 0) = false := by simp; omega
    have y1 : ((x : Int) == 1) = false := by simp; omega
    have y2 : ((x : Int) == 2) = false := by simp; omega
    have y3 : ((x : Int) == 3) = false := by simp; omega
    have HRS : Hid ((w5.setCell ⟨w.heap.size, 0, none⟩ (.slice (some ⟨q, 0, none⟩) m qc)).heap[w.heap.size]? = some (.cells #[.slice (some ⟨q, 0, none⟩) m qc] 30 (0, 0))) := blk_set HB6.out.res 0 _
    go_wp2_with fail
    refine bodyPost_ret (res_one rfl _ _ w.heap.size (.slice (some ⟨q, 0, none⟩) m qc) rfl HRS.out) rfl ?_
    obtain ⟨ps', p1⟩ := HB6.out.fin h60 (.slice (some ⟨q, 0, none⟩) m qc)
    exact ⟨_, ps', rfl, p1⟩
end PartFnC
section PartFnD
open Go.RowKit

set_option maxHeartbeats 2000000 in
set_option maxRecDepth 100000 in
theorem drawFind_any (ad : Option Addr) (n cap : Nat) (w : World) (hn : n ≤ 1048576) (hc : Code w ad n) :
    Calls Try.prog 15 #[.slice ad n cap] w fun e w' => ∃ (v : Value) (ps : List Pi) (t : ByteArray), e = .returned (.tuple #[.agg #[v], .string t]) ∧ PcsAt w' v ps ∧ ps.length ≤ 60 ∧ Small ps ps.length ∧ t.size ≤ 16 ∧ Below w.heap.size w w' := by
  have HC : Hid (Code w ad n) := hc
  clear hc
  go_enter Try.func15, Try.ntmps15
  have hb0 : Below w.heap.size w (w.alloc (.cells #[.slice none 0 0] 30)) := (Below.refl _ _).alloc (Nat.le_refl _) _
  have hc0 : (w.alloc (.cells #[.slice none 0 0] 30)).heap[w.heap.size]? = some (.cells #[.slice none 0 0] 30 (0, 0)) := heap_alloc_new w _
  have hs0 : (w.alloc (.cells #[.slice none 0 0] 30)).heap.size = w.heap.size + 1 := by simp
  have HC0 : Hid (Code (w.alloc (.cells #[.slice none 0 0] 30)) ad n) := by
    intro hp
    obtain ⟨b, off, e1, e2, e3⟩ := HC.out hp
    exact ⟨b, off, e1, by omega, fun j hj => by obtain ⟨z, hz, e⟩ := e3 j hj; exact ⟨z, hz, (hb0.cell (p := ⟨b, off + j, none⟩) e2).trans e⟩⟩
  go_wp2_with fail
  refine (new_any ad n cap _ hn HC0.out).mono ?_
  rintro e w1 ⟨rfl, d1, s1, b1⟩
  rw [hs0] at d1 s1 b1 ⊢
  have D1 : Hid (Drw (w.heap.size + 2) w1 (w.heap.size + 1) ad n cap) := d1
  have B1 : Hid (Below w.heap.size w w1) := hb0.trans (b1.mono (by omega))
  have hc1 : w1.heap[w.heap.size]? = some (.cells #[.slice none 0 0] 30 (0, 0)) := (b1.block _ (by omega)).trans hc0
  clear d1 b1 hb0 hc0 HC0 HC
  go_wp2_with fail
  refine (l04Bent_any _ _ n cap ad w1 D1.out (by omega)).mono ?_
  rintro e w2 ⟨v, ps, rfl, hpu, h60, hsm, d2, g2⟩
  have D2 : Hid (Drw (w.heap.size + 2) w2 (w.heap.size + 1) ad n cap) := d2
  have B2 : Hid (Below w.heap.size w w2) := B1.out.trans ((below_of_grown g2 (Nat.le_refl _) (by omega)).mono (by omega))
  have s2 := g2.size
  have hc2 : w2.heap[w.heap.size]? = some (.cells #[.slice none 0 0] 30 (0, 0)) := (g2.block _ (by omega) (by simp)).trans hc1
  obtain ⟨va, vn, vc, rfl⟩ : ∃ va vn vc, v = .slice va vn vc := by
    obtain ⟨va, vc, rfl, -⟩ := hpu w2 (fun _ _ _ => rfl) (Nat.le_refl _)
    exact ⟨va, _, vc, rfl⟩
  have HPU : Hid (PcsUp (w1.heap.size + 1) w2 (.slice va vn vc) ps) := hpu
  have HSM : Hid (Small ps ps.length) := hsm
  clear d2 g2 D1 B1 hc1 hpu hsm
  go_wp2_with fail
  refine (l04Word_any _ _ n cap ad w2 D2.out (by omega)).mono ?_
  rintro e w3 ⟨t, ht, rfl, d3, g3⟩
  have B3 : Hid (Below w.heap.size w w3) := B2.out.trans ((below_of_grown g3 (Nat.le_refl _) (by omega)).mono (by omega))
  have s3 := g3.size
  have hc3 : w3.heap[w.heap.size]? = some (.cells #[.slice none 0 0] 30 (0, 0)) := (g3.block _ (by omega) (by simp)).trans hc2
  have r0 : w3.cell? ⟨w.heap.size, 0, none⟩ = some (.slice none 0 0) := by rw [blk_cell hc3]; rfl
  have r1 : w3.frozen? ⟨w.heap.size, 0, none⟩ = false := blk_free hc3 0
  have HRS : Hid ((w3.setCell ⟨w.heap.size, 0, none⟩ (.slice va vn vc)).heap[w.heap.size]? = some (.cells #[.slice va vn vc] 30 (0, 0))) := blk_set hc3 0 _
  have HPC : Hid (PcsAt (w3.setCell ⟨w.heap.size, 0, none⟩ (.slice va vn vc)) (.slice va vn vc) ps) := by
    refine HPU.out _ (fun k hk hk2 => ?_) (by simpa [World.setCell] using s3)
    rw [Below.heap_setCell _ _ _ _ (by show k ≠ w.heap.size; omega)]
    exact g3.block k hk2 (by simp; omega)
  have HBF : Hid (Below w.heap.size w (w3.setCell ⟨w.heap.size, 0, none⟩ (.slice va vn vc))) := B3.out.setCell (by exact Nat.le_refl _) _
  clear d3 g3 D2 B2 B3 hc2 hc3 HPU
  go_wp2_with fail
  refine bodyPost_ret (res_pat rfl _ _ w.heap.size (.slice va vn vc) rfl HRS.out) rfl ?_
  exact ⟨_, ps, t, rfl, HPC.out, h60, HSM.out, ht, HBF.out⟩
end PartFnD
end Go.Proofs.Ytlnmbahakdmkgaa
