/- A drawn store, right or not: some store of few things. -/
import Derived.Test.YtmofljfffcnlbaaMPSxZam
namespace Go.Proofs.Ytmofljfffcnlbaa
open Go.RowKit

def namesV : List (List UInt8) := [[97], [122, 122], [49]]
def namesC : List (List UInt8) := [[97], [122, 122], []]
theorem namesV_len : ∀ t ∈ namesV, t.length ≤ 3 := by decide
theorem namesC_len : ∀ t ∈ namesC, t.length ≤ 3 := by decide
/-- The length of the slice in a block's first cell. -/
def lenAt (w : World) (b : Nat) : Nat := match w.cell? ⟨b, 0, none⟩ with | some (.slice _ n _) => n | _ => 0
theorem conv8 (m : Nat) (hm : m ≤ 100) (w : World) : (convert 22 9 (.slice (some ⟨w.heap.size, 0, none⟩) 2 2)).run Try.prog (w.alloc (.cells #[.int .u8 (97 + (m : Int) / 26), .int .u8 (97 + (m : Int) % 26)] 5)) = .ok (.string ⟨#[UInt8.ofNat (97 + m / 26), UInt8.ofNat (97 + m % 26)]⟩) (w.alloc (.cells #[.int .u8 (97 + (m : Int) / 26), .int .u8 (97 + (m : Int) % 26)] 5)) := by
  have e1 : (97 + (m : Int) / 26) = ((UInt8.ofNat (97 + m / 26)).toNat : Int) := by
    simp
    omega
  have e2 : (97 + (m : Int) % 26) = ((UInt8.ofNat (97 + m % 26)).toNat : Int) := by
    simp
    omega
  rw [e1, e2]
  have hr : Row w.heap.size (w.alloc (.cells #[.int .u8 ((UInt8.ofNat (97 + m / 26)).toNat : Int), .int .u8 ((UInt8.ofNat (97 + m % 26)).toNat : Int)] 5)) (.slice (some ⟨w.heap.size, 0, none⟩) 2 2) [UInt8.ofNat (97 + m / 26), UInt8.ofNat (97 + m % 26)] := ⟨rfl, .inr ⟨w.heap.size, 2, _, rfl, Nat.le_refl _, heap_alloc_new w _, Nat.le_refl _, by unfold maxLen; omega, rfl, rfl⟩⟩
  exact hr.str
theorem VrRow.push2 {ops : Array Oper} {rest : List Oper} {o : Oper} {a : Act} {Q : Exit → Act → World → Prop} {B : Nat} {w : World} {v : Value} {xs : List Vr}
    (hown : VrRow B w v xs) (hgd : o.guard = none) (s x : Operand)
    (ho : o.op = .call { callee := .builtin .append, args := #[s, x], argTypes := #[24, 24] })
    (hs : a.eval s = v) (y : Vr) (H : Nat) (hH : w.heap.size = H) (hx : a.eval x = .slice (some ⟨H, 0, none⟩) 1 1)
    (hlen : xs.length < 2000000) (hB : B ≤ w.heap.size)
    (h : ∀ q cap w', VrRow B w' (.slice (some ⟨q, 0, none⟩) (xs.length + 1) cap) (xs ++ [y]) → (w.alloc (.cells #[.string y.name, .string y.val] 47)).grownBy w' v.ownBlock →
      wpList Try.prog ops Q rest (a.put o.dst (.slice (some ⟨q, 0, none⟩) (xs.length + 1) cap)) w') :
    wpList Try.prog ops Q (o :: rest) a (w.alloc (.cells #[.string y.name, .string y.val] 47)) := by
  subst hH
  obtain ⟨i0, hi, hz0, hz1, hz2⟩ := info_parts Try.infoVr
  refine wpList_append_lies _ hgd s x 24 ho B 47 i0 (.agg #[.string ByteArray.empty, .string ByteArray.empty]) 2 32 Try.underlying24 hi hz0 hz1 hz2 rfl (by decide) v xs.length (cellsVr xs) hs (World.ownsRow.alloc hown _) ⟨w.heap.size, 0, none⟩ 1 1 [.string y.name, .string y.val] hx rfl
    (World.news_of_block (cs := #[.string y.name, .string y.val]) (t := 47) (fr := (0, 0)) (heap_alloc_new w _)) ?_ (by omega) ?_ ?_ ?_ (w.heap.size + 1) (by simp) ?_
  · intro u hu
    simp at hu
    rcases hu with rfl | rfl <;> rfl
  · unfold maxLen; omega
  · omega
  · simp; omega
  · intro g cap w' h2 h3 _ _
    refine h g cap w' ?_ h3
    unfold VrRow cellsVr
    rw [List.flatMap_append, List.length_append]
    exact h2
theorem lenAt_is {w : World} {b n c : Nat} {a : Option Addr} (h : w.cell? ⟨b, 0, none⟩ = some (.slice a n c)) : lenAt w b = n := by
  unfold lenAt
  rw [h]
theorem hidOf8 {p : Prop} (h : p) : Hid p := h
theorem rowForm {B : Nat} {w : World} {e : TypeId} {sz : Nat} {v : Value} {n : Nat} {cs : List Value} (h : w.ownsRow B e sz v n cs) : ∃ a c, v = .slice a n c := by
  rcases h.2 with ⟨rfl, h0⟩ | ⟨g, cap, cur, rfl, _⟩
  · exact ⟨none, 0, by rw [h0]⟩
  · exact ⟨_, cap, rfl⟩
theorem LA.start {w w1 w2 : World} {B g n cap : Nat} {ad : Option Addr} {u x : Value} {vs : List Vr} {cs : List Cl} {o : ByteArray} (hB : B ≤ w.heap.size) (hg1 : (w.alloc (.cells #[.slice none 0 0, .slice none 0 0, .string ByteArray.empty] 27)).grownBy w1 (some g)) (hd : Drw B w1 g ad n cap)
    (hv : VrRow w1.heap.size w2 u vs) (hc : ClRow w1.heap.size w2 x cs) (hb : Below w1.heap.size w1 w2) (hf : Fw vs cs o) :
    LA w B g n cap w2.heap.size ad (w2.alloc (.cells #[u, x, .string o] 27)) u x vs cs o := by
  have hs1 := hg1.size
  have hs2 := hb.size
  have hgB := hd.low
  simp at hs1
  have hbw : Below w2.heap.size w2 (w2.alloc (.cells #[u, x, .string o] 27)) := (Below.refl _ _).alloc (Nat.le_refl _) _
  have e : ∀ b, b < w2.heap.size → (w2.alloc (.cells #[u, x, .string o] 27)).heap[b]? = w2.heap[b]? := fun b hb => hbw.block b hb
  have hB2 : Below w1.heap.size w1 _ := hb.trans (hbw.mono hs2)
  refine ⟨hB, ?_, by omega, heap_alloc_new w2 _, ?_, ?_, hf, hd.keep (hB2.mono (by omega)), ?_⟩
  · rw [e _ (by omega), hb.block _ (by omega), hg1.block _ (by simp) (fun h => by have : w.heap.size = g := Option.some.inj h; omega)]
    exact heap_alloc_new w _
  · exact rowLow (rowKeep hv (fun q hq => e q (World.ownsRow.lt hv q hq).2)) (by omega)
  · exact rowLow (rowKeep hc (fun q hq => e q (World.ownsRow.lt hc q hq).2)) (by omega)
  · exact grown_trans (grown_trans (World.grownBy_alloc w _ _) hg1) ⟨hB2.os, hB2.tape, hB2.output, hB2.size, fun b hb _ => hB2.block b hb⟩
theorem LA.ret {w wr : World} {B g n cap bs : Nat} {ad : Option Addr} {u x : Value} {vs : List Vr} {cs : List Cl} {o : ByteArray} (h : LA w B g n cap bs ad wr u x vs cs o) (a b c : Value) :
    VrIn B (((wr.setCell ⟨w.heap.size, 0, none⟩ a).setCell ⟨w.heap.size, 1, none⟩ b).setCell ⟨w.heap.size, 2, none⟩ c).heap.size (((wr.setCell ⟨w.heap.size, 0, none⟩ a).setCell ⟨w.heap.size, 1, none⟩ b).setCell ⟨w.heap.size, 2, none⟩ c) u vs ∧ ClIn B (((wr.setCell ⟨w.heap.size, 0, none⟩ a).setCell ⟨w.heap.size, 1, none⟩ b).setCell ⟨w.heap.size, 2, none⟩ c).heap.size (((wr.setCell ⟨w.heap.size, 0, none⟩ a).setCell ⟨w.heap.size, 1, none⟩ b).setCell ⟨w.heap.size, 2, none⟩ c) x cs ∧
      Fw vs cs o ∧ Drw B (((wr.setCell ⟨w.heap.size, 0, none⟩ a).setCell ⟨w.heap.size, 1, none⟩ b).setCell ⟨w.heap.size, 2, none⟩ c) g ad n cap ∧ w.grownBy (((wr.setCell ⟨w.heap.size, 0, none⟩ a).setCell ⟨w.heap.size, 1, none⟩ b).setCell ⟨w.heap.size, 2, none⟩ c) (some g) := by
  have hl := h.low
  have e : ∀ k, k ≠ w.heap.size → (((wr.setCell ⟨w.heap.size, 0, none⟩ a).setCell ⟨w.heap.size, 1, none⟩ b).setCell ⟨w.heap.size, 2, none⟩ c).heap[k]? = wr.heap[k]? := fun k hk => by
    rw [Below.heap_setCell _ _ _ _ (by show k ≠ w.heap.size; exact hk), Below.heap_setCell _ _ _ _ (by show k ≠ w.heap.size; exact hk), Below.heap_setCell _ _ _ _ (by show k ≠ w.heap.size; exact hk)]
  have hB : Below w.heap.size wr (((wr.setCell ⟨w.heap.size, 0, none⟩ a).setCell ⟨w.heap.size, 1, none⟩ b).setCell ⟨w.heap.size, 2, none⟩ c) := (((Below.refl _ _).setCell (by show w.heap.size ≤ w.heap.size; omega) _).setCell (by show w.heap.size ≤ w.heap.size; omega) _).setCell (by show w.heap.size ≤ w.heap.size; omega) _
  refine ⟨?_, ?_, h.fw, h.dr.keep (hB.mono hl), ⟨hB.os.trans h.gr.os, hB.tape.trans h.gr.tape, hB.output.trans h.gr.output, Nat.le_trans h.gr.size hB.size, fun b hb hne => (hB.block b hb).trans (h.gr.block b hb hne)⟩⟩
  · exact (VrRow.in (rowKeep h.vi (fun q hq => e q (fun er => own_ne h.vi h.res (by decide) (er ▸ hq))))).wide hl (Nat.le_refl _)
  · exact (ClRow.in (rowKeep h.ci (fun q hq => e q (fun er => own_ne h.ci h.res (by decide) (er ▸ hq))))).wide hl (Nat.le_refl _)

set_option maxHeartbeats 8000000 in
set_option maxRecDepth 100000 in
theorem l08Any_any (B g n cap : Nat) (ad : Option Addr) (w : World) (hd : Drw B w g ad n cap) (hB : B ≤ w.heap.size) :
    Calls Try.prog 12 #[.pointer (some ⟨g, 0, none⟩)] w fun e w' => ∃ u x vs cs o, e = .returned (.agg #[u, x, .string o]) ∧ VrIn B w'.heap.size w' u vs ∧ ClIn B w'.heap.size w' x cs ∧ Fw vs cs o ∧ Drw B w' g ad n cap ∧ w.grownBy w' (some g) := by
  have HPV : Hid (∀ W, Drw B W g ad n cap → B ≤ W.heap.size → Calls Try.prog 32 #[.pointer (some ⟨g, 0, none⟩), .slice (some ⟨W.heap.size, 0, none⟩) 3 3] (W.alloc (.cells #[.string ⟨#[97]⟩, .string ⟨#[122, 122]⟩, .string ⟨#[49]⟩] 9))
      fun e w' => ∃ t : List UInt8, t ∈ namesV ∧ e = .returned (.string ⟨t.toArray⟩) ∧ Drw B w' g ad n cap ∧ W.grownBy w' (some g)) := fun W hd hB => pickL_any B g n cap ad namesV W hd hB (by decide) (by decide)
  have HPC : Hid (∀ W, Drw B W g ad n cap → B ≤ W.heap.size → Calls Try.prog 32 #[.pointer (some ⟨g, 0, none⟩), .slice (some ⟨W.heap.size, 0, none⟩) 3 3] (W.alloc (.cells #[.string ⟨#[97]⟩, .string ⟨#[122, 122]⟩, .string ⟨#[]⟩] 9))
      fun e w' => ∃ t : List UInt8, t ∈ namesC ∧ e = .returned (.string ⟨t.toArray⟩) ∧ Drw B w' g ad n cap ∧ W.grownBy w' (some g)) := fun W hd hB => pickL_any B g n cap ad namesC W hd hB (by decide) (by decide)
  have HPL : Hid (∀ t, t ∈ namesV ∨ t ∈ namesC → t.length ≤ 3) := fun t h => h.elim (namesV_len t) (namesC_len t)
  have hb0 : Below w.heap.size w (w.alloc (.cells #[.slice none 0 0, .slice none 0 0, .string ByteArray.empty] 27)) := (Below.refl _ _).alloc (Nat.le_refl _) _
  have C1 := hidOf8 (l08Store_any B g n cap ad (w.alloc (.cells #[.slice none 0 0, .slice none 0 0, .string ByteArray.empty] 27)) (hd.keep (hb0.mono hB)) (by simp; omega))
  clear hb0 hd
  go_enter Try.func12, Try.ntmps12
  go_wp2_with fail
  refine C1.out.mono ?_
  rintro e w1 ⟨u1, x1, vs, cs, o, rfl, hv1, hc1, hdw, d1, g1⟩
  have C2 := hidOf8 (spCopyRow u1 x1 o vs cs w1 hv1.at hc1.at hdw.rt.small)
  have HF : Hid (Fw vs cs o ∧ vs.length ≤ 8 ∧ cs.length ≤ 8) := ⟨hdw.few, hdw.v, hdw.c⟩
  have H1 : Hid _ := And.intro d1 g1
  obtain ⟨va1, vc1, rfl, -⟩ := hv1
  obtain ⟨ca1, cc1, rfl, -⟩ := hc1
  clear hdw d1 g1 C1
  go_wp2_with fail
  refine C2.out.mono ?_
  rintro e w2 ⟨u, x, rfl, hv2, hc2, hb2⟩
  have L0 : Hid _ := LA.start hB H1.out.2 H1.out.1 hv2 hc2 hb2 HF.out.1
  have HSM : Hid (vs.length ≤ 8 ∧ cs.length ≤ 8) := HF.out.2
  obtain ⟨ua, uc, rfl⟩ := rowForm hv2
  obtain ⟨xa, xc, rfl⟩ := rowForm hc2
  clear hv2 hc2 hb2 C2 H1 HF
  go_wp2_with fail
  generalize w2.alloc (.cells #[.slice ua vs.length uc, .slice xa cs.length xc, .string o] 27) = W0 at *
  generalize w2.heap.size = bs at *
  obtain ⟨u, hu⟩ : ∃ u, u = Value.slice ua vs.length uc := ⟨_, rfl⟩
  obtain ⟨x, hx⟩ : ∃ x, x = Value.slice xa cs.length xc := ⟨_, rfl⟩
  rw [← hu, ← hx] at L0
  clear hu hx
  refine (below_any B g n cap ad 12 W0 L0.out.dr (by decide) (by decide)).mono ?_
  rintro e w3 ⟨y, hy, rfl, d3, g3⟩
  have L2 : Hid _ := L0.out.draw d3 g3
  clear d3 g3 L0
  rcases (by omega : y = 0 ∨ y = 1 ∨ y = 2 ∨ y = 3 ∨ 4 ≤ y) with rfl | rfl | rfl | rfl | hy4
  · go_wp2_with fail
    have HL : Hid _ := L2.out.drew
    have HS : Hid _ := HL.out.cells
    refine AnyBut.region (S := (fun W => W.cell? ⟨bs, 0, none⟩ = some u ∧ W.cell? ⟨bs, 1, none⟩ = some x ∧ W.cell? ⟨bs, 2, none⟩ = some (.string o))) (z := 9) (by kernel_rfl) ?_
    refine AnyBut.take (i := 0) (v := ?_) (by kernel_rfl) rfl (by decide) (by kernel_rfl) (by kernel_rfl) (by kernel_rfl) (fun _ _ _ h => h) (Or.inl ⟨by rfl, ?_⟩) HS.out ?_
    rotate_left
    · (intro u9 hSw; (try dsimp only at hSw); go_simp; try with_reducible rfl)
    (try simp only [Act.put]); (try simp only [List.setIfInBounds_toArray]); (try simp only [List.set_cons_succ, List.set_cons_zero])
    refine AnyBut.take (i := 1) (v := ?_) (by kernel_rfl) rfl (by decide) (by kernel_rfl) (by kernel_rfl) (by kernel_rfl) (fun _ _ _ h => h) (Or.inl ⟨by rfl, ?_⟩) HS.out ?_
    rotate_left
    · (intro u9 hSw; (try dsimp only at hSw); go_simp; try with_reducible rfl)
    (try simp only [Act.put]); (try simp only [List.setIfInBounds_toArray]); (try simp only [List.set_cons_succ, List.set_cons_zero])
    refine AnyBut.take (i := 2) (v := ?_) (by kernel_rfl) rfl (by decide) (by kernel_rfl) (by kernel_rfl) (by kernel_rfl) (fun _ _ _ h => h) (Or.inl ⟨by rfl, ?_⟩) HS.out ?_
    rotate_left
    · (intro u9 hSw; (try dsimp only at hSw); go_simp; try with_reducible rfl)
    (try simp only [Act.put]); (try simp only [List.setIfInBounds_toArray]); (try simp only [List.set_cons_succ, List.set_cons_zero])
    refine AnyBut.one (i := 3) rfl (by kernel_rfl) (fun K hK => ?_)
    go_simp
    refine hK.out _ _ (fun _ => (HL.out.alloc _).cells) ?_
    clear hK K
    (try simp only [Act.put]); (try simp only [List.setIfInBounds_toArray]); (try simp only [List.set_cons_succ, List.set_cons_zero])
    refine AnyBut.one (i := 4) rfl (by kernel_rfl) (fun K hK => ?_)
    go_simp
    go_at_call 32
    refine ((HPV.out _ HL.out.dr HL.out.le)).mono ?_
    rintro e w5 ⟨t, ht, rfl, d9, g9⟩
    have HL1 : Hid _ := HL.out.draw d9 g9
    clear HL HS d9 g9
    have HL : Hid _ := HL1.out
    have HS : Hid _ := HL.out.cells
    clear HL1
    have HTL : Hid (t.length ≤ 3) := HPL.out t (Or.inl ht)
    clear ht
    dsimp only
    refine hK.out _ _ (fun _ => HS.out) ?_
    clear hK K
    (try simp only [Act.put]); (try simp only [List.setIfInBounds_toArray]); (try simp only [List.set_cons_succ, List.set_cons_zero])
    refine AnyBut.take (i := 5) (v := ?_) (by kernel_rfl) rfl (by decide) (by kernel_rfl) (by kernel_rfl) (by kernel_rfl) (fun _ _ _ h => h) (Or.inl ⟨by rfl, ?_⟩) HS.out ?_
    rotate_left
    · (intro u9 hSw; (try dsimp only at hSw); go_simp; try with_reducible rfl)
    (try simp only [Act.put]); (try simp only [List.setIfInBounds_toArray]); (try simp only [List.set_cons_succ, List.set_cons_zero])
    refine AnyBut.one (i := 6) rfl (by kernel_rfl) (fun K hK => ?_)
    go_simp
    refine hK.out _ _ (fun _ => (HL.out.alloc _).cells) ?_
    clear hK K
    (try simp only [Act.put]); (try simp only [List.setIfInBounds_toArray]); (try simp only [List.set_cons_succ, List.set_cons_zero])
    refine AnyBut.one (i := 7) rfl (by kernel_rfl) (fun K hK => ?_)
    refine VrRow.step1 (B := w.heap.size) (W := w5.alloc (.cells #[.string ⟨t.toArray⟩, .string ⟨#[]⟩] 47)) (v := u) (xs := vs) (HL.out.alloc _).vi (by rfl) _ _ (by rfl) (by rfl) ⟨⟨t.toArray⟩, ⟨#[]⟩⟩ _ (heap_alloc_new _ _) (by rfl) (by have := HL.out.fw.nv; omega) (by have := HL.out.sz; simp; omega) ?_
    intro q9 cap9 w9 hp9 hg9
    have HN : Hid _ := (HL.out.alloc _).growV hp9 hg9 (by have := HSM.out; omega) ⟨by rw [lst8]; have := HTL.out; omega, by show (⟨#[]⟩ : ByteArray).size ≤ 100; decide⟩
    obtain ⟨q0, q1, q2, f0, f1, f2⟩ := (HL.out.alloc _).still hg9 (fun e => (HL.out.rowV _ e).2 rfl)
    clear hp9 hg9 HS HL
    refine hK.out _ _ (fun _ => ⟨q0, q1, q2⟩) ?_
    clear hK K
    have HS : Hid _ := And.intro q0 (And.intro q1 q2)
    (try simp only [Act.put]); (try simp only [List.setIfInBounds_toArray]); (try simp only [List.set_cons_succ, List.set_cons_zero])
    refine AnyBut.take (i := 8) (v := ?_) (by kernel_rfl) rfl (by decide) (by kernel_rfl) (by kernel_rfl) (by kernel_rfl) (fun _ _ _ h => h) (Or.inl ⟨by rfl, ?_⟩) HS.out ?_
    rotate_left
    · (intro u9 hSw; (try dsimp only at hSw); go_simp; try with_reducible rfl)
    (try simp only [Act.put]); (try simp only [List.setIfInBounds_toArray]); (try simp only [List.set_cons_succ, List.set_cons_zero])
    refine AnyBut.one (i := 9) rfl (by kernel_rfl) (fun K hK => ?_)
    go_simp
    refine hK.out _ _ (fun h => absurd rfl h) ?_
    clear hK K
    refine AnyBut.done (by kernel_rfl) ?_ _
    refine NoPanic.normal ?_
    clear q0 q1 q2 f0 f1 f2 HS
    generalize w9.setCell ⟨bs, 0, none⟩ (.slice (some ⟨q9, 0, none⟩) (vs.length + 1) cap9) = W9 at *
    obtain ⟨q0, q1, q2, f0, f1, f2⟩ := HN.out.over
    have HRR : Hid _ := HN.out.res
    have r0 := (blk_cell HRR.out 0).trans rfl
    have r1 := (blk_cell HRR.out 1).trans rfl
    have r2 := (blk_cell HRR.out 2).trans rfl
    have e0 := blk_free HRR.out 0
    have e1 := blk_free HRR.out 1
    have e2 := blk_free HRR.out 2
    have HRT : Hid _ := HN.out.ret
    obtain ⟨na, nc, hna⟩ := rowForm HN.out.vi
    obtain ⟨ma, mc, hma⟩ := rowForm HN.out.ci
    first | subst hna | clear hna
    first | subst hma | clear hma
    go_wp2_with fail
    refine bodyPost_ret (results_cell_row (p := 2) (ty := 27) rfl _ _ w.heap.size 27 _ (0, 0) _ rfl (blk_set (blk_set (blk_set HRR.out 0 _) 1 _) 2 _) Try.underlying27 rfl (by kernel_rfl)) rfl ?_
    exact ⟨_, _, _, _, _, rfl, HRT.out _ _ _⟩
  · go_wp2_with fail
    have HL : Hid _ := L2.out.drew
    have HS : Hid _ := HL.out.cells
    refine AnyBut.region (S := (fun W => W.cell? ⟨bs, 0, none⟩ = some u ∧ W.cell? ⟨bs, 1, none⟩ = some x ∧ W.cell? ⟨bs, 2, none⟩ = some (.string o))) (z := 9) (by kernel_rfl) ?_
    refine AnyBut.take (i := 0) (v := ?_) (by kernel_rfl) rfl (by decide) (by kernel_rfl) (by kernel_rfl) (by kernel_rfl) (fun _ _ _ h => h) (Or.inl ⟨by rfl, ?_⟩) HS.out ?_
    rotate_left
    · (intro u9 hSw; (try dsimp only at hSw); go_simp; try with_reducible rfl)
    (try simp only [Act.put]); (try simp only [List.setIfInBounds_toArray]); (try simp only [List.set_cons_succ, List.set_cons_zero])
    refine AnyBut.take (i := 1) (v := ?_) (by kernel_rfl) rfl (by decide) (by kernel_rfl) (by kernel_rfl) (by kernel_rfl) (fun _ _ _ h => h) (Or.inl ⟨by rfl, ?_⟩) HS.out ?_
    rotate_left
    · (intro u9 hSw; (try dsimp only at hSw); go_simp; try with_reducible rfl)
    (try simp only [Act.put]); (try simp only [List.setIfInBounds_toArray]); (try simp only [List.set_cons_succ, List.set_cons_zero])
    refine AnyBut.take (i := 2) (v := ?_) (by kernel_rfl) rfl (by decide) (by kernel_rfl) (by kernel_rfl) (by kernel_rfl) (fun _ _ _ h => h) (Or.inl ⟨by rfl, ?_⟩) HS.out ?_
    rotate_left
    · (intro u9 hSw; (try dsimp only at hSw); go_simp; try with_reducible rfl)
    (try simp only [Act.put]); (try simp only [List.setIfInBounds_toArray]); (try simp only [List.set_cons_succ, List.set_cons_zero])
    refine AnyBut.one (i := 3) rfl (by kernel_rfl) (fun K hK => ?_)
    go_simp
    refine hK.out _ _ (fun _ => (HL.out.alloc _).cells) ?_
    clear hK K
    (try simp only [Act.put]); (try simp only [List.setIfInBounds_toArray]); (try simp only [List.set_cons_succ, List.set_cons_zero])
    refine AnyBut.one (i := 4) rfl (by kernel_rfl) (fun K hK => ?_)
    go_simp
    go_at_call 32
    refine ((HPC.out _ HL.out.dr HL.out.le)).mono ?_
    rintro e w5 ⟨t, ht, rfl, d9, g9⟩
    have HL1 : Hid _ := HL.out.draw d9 g9
    clear HL HS d9 g9
    have HL : Hid _ := HL1.out
    have HS : Hid _ := HL.out.cells
    clear HL1
    have HTL : Hid (t.length ≤ 3) := HPL.out t (Or.inr ht)
    clear ht
    dsimp only
    refine hK.out _ _ (fun _ => HS.out) ?_
    clear hK K
    (try simp only [Act.put]); (try simp only [List.setIfInBounds_toArray]); (try simp only [List.set_cons_succ, List.set_cons_zero])
    refine AnyBut.take (i := 5) (v := ?_) (by kernel_rfl) rfl (by decide) (by kernel_rfl) (by kernel_rfl) (by kernel_rfl) (fun _ _ _ h => h) (Or.inl ⟨by rfl, ?_⟩) HS.out ?_
    rotate_left
    · (intro u9 hSw; (try dsimp only at hSw); go_simp; try with_reducible rfl)
    (try simp only [Act.put]); (try simp only [List.setIfInBounds_toArray]); (try simp only [List.set_cons_succ, List.set_cons_zero])
    refine AnyBut.one (i := 6) rfl (by kernel_rfl) (fun K hK => ?_)
    go_simp
    refine hK.out _ _ (fun _ => (HL.out.alloc _).cells) ?_
    clear hK K
    (try simp only [Act.put]); (try simp only [List.setIfInBounds_toArray]); (try simp only [List.set_cons_succ, List.set_cons_zero])
    refine AnyBut.one (i := 7) rfl (by kernel_rfl) (fun K hK => ?_)
    refine ClRow.step1 (B := w.heap.size) (W := w5.alloc (.cells #[.string ⟨t.toArray⟩, .string ⟨#[]⟩, .string ⟨#[]⟩] 50)) (v := x) (xs := cs) (HL.out.alloc _).ci (by rfl) _ _ (by rfl) (by rfl) ⟨⟨t.toArray⟩, ⟨#[]⟩, ⟨#[]⟩⟩ _ (heap_alloc_new _ _) (by rfl) (by have := HL.out.fw.nc; omega) (by have := HL.out.sz; simp; omega) ?_
    intro q9 cap9 w9 hp9 hg9
    have HN : Hid _ := (HL.out.alloc _).growC hp9 hg9 (by have := HSM.out; omega) ⟨by rw [lst8]; have := HTL.out; omega, by show (⟨#[]⟩ : ByteArray).size ≤ 100; decide, by show (⟨#[]⟩ : ByteArray).size ≤ 100; decide⟩
    obtain ⟨q0, q1, q2, f0, f1, f2⟩ := (HL.out.alloc _).still hg9 (fun e => (HL.out.rowC _ e).2 rfl)
    clear hp9 hg9 HS HL
    refine hK.out _ _ (fun _ => ⟨q0, q1, q2⟩) ?_
    clear hK K
    have HS : Hid _ := And.intro q0 (And.intro q1 q2)
    (try simp only [Act.put]); (try simp only [List.setIfInBounds_toArray]); (try simp only [List.set_cons_succ, List.set_cons_zero])
    refine AnyBut.take (i := 8) (v := ?_) (by kernel_rfl) rfl (by decide) (by kernel_rfl) (by kernel_rfl) (by kernel_rfl) (fun _ _ _ h => h) (Or.inl ⟨by rfl, ?_⟩) HS.out ?_
    rotate_left
    · (intro u9 hSw; (try dsimp only at hSw); go_simp; try with_reducible rfl)
    (try simp only [Act.put]); (try simp only [List.setIfInBounds_toArray]); (try simp only [List.set_cons_succ, List.set_cons_zero])
    refine AnyBut.one (i := 9) rfl (by kernel_rfl) (fun K hK => ?_)
    go_simp
    refine hK.out _ _ (fun h => absurd rfl h) ?_
    clear hK K
    refine AnyBut.done (by kernel_rfl) ?_ _
    refine NoPanic.normal ?_
    clear q0 q1 q2 f0 f1 f2 HS
    generalize w9.setCell ⟨bs, 1, none⟩ (.slice (some ⟨q9, 0, none⟩) (cs.length + 1) cap9) = W9 at *
    obtain ⟨q0, q1, q2, f0, f1, f2⟩ := HN.out.over
    have HRR : Hid _ := HN.out.res
    have r0 := (blk_cell HRR.out 0).trans rfl
    have r1 := (blk_cell HRR.out 1).trans rfl
    have r2 := (blk_cell HRR.out 2).trans rfl
    have e0 := blk_free HRR.out 0
    have e1 := blk_free HRR.out 1
    have e2 := blk_free HRR.out 2
    have HRT : Hid _ := HN.out.ret
    obtain ⟨na, nc, hna⟩ := rowForm HN.out.vi
    obtain ⟨ma, mc, hma⟩ := rowForm HN.out.ci
    first | subst hna | clear hna
    first | subst hma | clear hma
    go_wp2_with fail
    refine bodyPost_ret (results_cell_row (p := 2) (ty := 27) rfl _ _ w.heap.size 27 _ (0, 0) _ rfl (blk_set (blk_set (blk_set HRR.out 0 _) 1 _) 2 _) Try.underlying27 rfl (by kernel_rfl)) rfl ?_
    exact ⟨_, _, _, _, _, rfl, HRT.out _ _ _⟩
  · go_wp2_with fail
    have i30 : (3000 : Int) + ((0 : Nat) : Int) = ((3000 : Nat) : Int) := by omega
    refine (below_any B g n cap ad 2 w3 L2.out.dr (by decide) (by decide)).mono ?_
    rintro e w4 ⟨z, hz, rfl, d9, g9⟩
    have L3 : Hid _ := L2.out.draw d9 g9
    clear d9 g9 L2 i30
    have ez : IntKind.i64.wrap ((3000 : Int) + (z : Int)) = ((3000 + z : Nat) : Int) := by rw [IntWalk.i64_in _ (by omega)]; omega
    have ez2 : (3000 : Int) + (z : Int) = ((3000 + z : Nat) : Int) := by omega
    have CL := hidOf8 (long_any (3000 + z) 65 w4 (by omega) (by decide))
    rw [← ez2] at CL
    clear ez ez2
    go_wp2_with fail
    refine CL.out.mono ?_
    rintro e w5 ⟨bs9, hbl, rfl, hb5⟩
    have HN : Hid _ := L3.out.setO hb5 (o2 := ⟨bs9.toArray⟩) (by rw [lst8]; omega)
    obtain ⟨q0, q1, q2, f0, f1, f2⟩ := (L3.out.up hb5).over
    clear L3 CL hb5 hbl
    have HRR : Hid _ := HN.out.res
    have r0 := (blk_cell HRR.out 0).trans rfl
    have r1 := (blk_cell HRR.out 1).trans rfl
    have r2 := (blk_cell HRR.out 2).trans rfl
    have e0 := blk_free HRR.out 0
    have e1 := blk_free HRR.out 1
    have e2 := blk_free HRR.out 2
    have HRT : Hid _ := HN.out.ret
    obtain ⟨na, nc, hna⟩ := rowForm HN.out.vi
    obtain ⟨ma, mc, hma⟩ := rowForm HN.out.ci
    first | subst hna | clear hna
    first | subst hma | clear hma
    go_wp2_with fail
    refine bodyPost_ret (results_cell_row (p := 2) (ty := 27) rfl _ _ w.heap.size 27 _ (0, 0) _ rfl (blk_set (blk_set (blk_set HRR.out 0 _) 1 _) 2 _) Try.underlying27 rfl (by kernel_rfl)) rfl ?_
    exact ⟨_, _, _, _, _, rfl, HRT.out _ _ _⟩
  · go_wp2_with fail
    go_loopw [] (fun wr => ∃ (ua : Option Addr) (uc : Nat) (vs : List Vr), vs.length ≤ 61 ∧ Hid (LA w B g n cap bs ad wr (.slice ua vs.length uc) x vs cs o)) (fun wr => 62 - lenAt wr bs)
    case atStart => 
      obtain ⟨na, nc, hna⟩ := rowForm L2.out.vi
      subst hna
      exact ⟨na, nc, vs, by have := HSM.out; omega, L2⟩
    case round =>
      clear L2 HSM
      obtain ⟨va, vc, vs, hvl, L2⟩ := hrel
      obtain ⟨m, hm⟩ : ∃ m, m = vs.length := ⟨_, rfl⟩
      have HM := hidOf8 hm
      rw [← hm] at L2 hvl
      clear hm
      have HL : Hid _ := L2.out.drew
      have HS : Hid _ := HL.out.cells
      have hs0 := HS.out.1
      have HLW : Hid (wr.cell? ⟨bs, 0, none⟩ = some (.slice va m vc)) := L2.out.cells.1
      go_wp2_with fail
      go_region_held3 (fun W => W.cell? ⟨bs, 0, none⟩ = some (.slice va m vc)) (first | exact HL2.out.cells.1 | exact hs0 | go_keep) ((go_at_call 31; refine (below_any B g n cap ad 3 _ HL.out.dr (by decide) (by decide)).mono ?_; rintro e w4 ⟨z, hz, rfl, d4, g4⟩; have HL2 : Hid _ := HL.out.draw d4 g4))
      have ew : IntKind.i64.wrap ((59 : Int) + (z : Int)) = (59 : Int) + (z : Int) := IntWalk.i64_in _ (by omega)
      rw [ew]
      have L3 : Hid _ := HL2.out
      clear HL HL2 HS L2 d4 g4 hs0 ew
      by_cases hlt : m < 59 + z
      · have dlt : decide ((m : Int) < (59 : Int) + (z : Int)) = true := decide_eq_true (by omega)
        have hcv := conv8 m (by omega) w4
        obtain ⟨q0, q1, q2, f0, f1, f2⟩ := L3.out.over
        have HLE : Hid (lenAt wr bs = m) := lenAt_is HLW.out
        obtain ⟨bb, hbb⟩ : ∃ bb : ByteArray, bb = ⟨#[UInt8.ofNat (97 + m / 26), UInt8.ofNat (97 + m % 26)]⟩ := ⟨_, rfl⟩
        have hbz : bb.size = 2 := by rw [hbb]; rfl
        rw [← hbb] at hcv
        clear hbb
        have L4 : Hid _ := L3.out.alloc (.cells #[.int .u8 (97 + (m : Int) / 26), .int .u8 (97 + (m : Int) % 26)] 5)
        have HB : Hid (w.heap.size ≤ w4.heap.size) := by have := L3.out.sz; show _ ≤ _; omega
        clear L3
        generalize hW5 : w4.alloc (.cells #[.int .u8 (97 + (m : Int) / 26), .int .u8 (97 + (m : Int) % 26)] 5) = W5 at L4 hcv
        have HV := hidOf8 L4.out.vi
        have HL5 : Hid (w.heap.size ≤ W5.heap.size ∧ vs.length ≤ 61) := ⟨by have := L4.out.sz; omega, by have := HM.out; omega⟩
        go_wp2_with (at_builtin; go_must (refine VrRow.push2 (B := w.heap.size) (w := W5) (xs := vs) HV.out rfl _ _ rfl rfl ⟨_, _⟩ W5.heap.size rfl rfl ?hl ?hb ?_))
        case hl => have := HL5.out.2; omega
        case hb => exact HL5.out.1
        intro q9 cap9 w6 hp6 hg6
        have HN : Hid _ := (L4.out.alloc _).growV hp6 hg6 (by have := HL5.out.2; omega) ⟨by show (⟨#[122, 122]⟩ ++ bb : ByteArray).size ≤ 100; rw [ByteArray.size_append, hbz]; decide, by show (⟨#[]⟩ : ByteArray).size ≤ 100; decide⟩
        obtain ⟨y0, y1, y2, h0, h1, h2⟩ := (L4.out.alloc _).still hg6 (fun e => (L4.out.rowV _ e).2 rfl)
        have HLN : Hid _ := lenAt_is HN.out.cells.1
        clear hp6 hg6 L4 HV hcv hW5 q0 q1 q2 f0 f1 f2
        go_wp2_with fail
        go_roundw
        case rel => exact ⟨_, _, vs ++ [⟨⟨#[122, 122]⟩ ++ bb, ⟨#[]⟩⟩], by have := HM.out; rw [List.length_append]; show vs.length + 1 ≤ 61; omega, by rw [List.length_append]; exact HN⟩
        case measure => rw [HLN.out, HLE.out]; have := HM.out; omega
      · have dlt : decide ((m : Int) < (59 : Int) + (z : Int)) = false := decide_eq_false (by omega)
        have HN : Hid _ := L3.out
        clear L3 HM
        obtain ⟨q0, q1, q2, f0, f1, f2⟩ := HN.out.over
        have HRR : Hid _ := HN.out.res
        have r0 := (blk_cell HRR.out 0).trans rfl
        have r1 := (blk_cell HRR.out 1).trans rfl
        have r2 := (blk_cell HRR.out 2).trans rfl
        have e0 := blk_free HRR.out 0
        have e1 := blk_free HRR.out 1
        have e2 := blk_free HRR.out 2
        have HRT : Hid _ := HN.out.ret
        obtain ⟨ma, mc, hma⟩ := rowForm HN.out.ci
        subst hma
        go_wp2_with fail
        refine bodyPost_ret (results_cell_row (p := 2) (ty := 27) rfl _ _ w.heap.size 27 _ (0, 0) _ rfl (blk_set (blk_set (blk_set HRR.out 0 _) 1 _) 2 _) Try.underlying27 rfl (by kernel_rfl)) rfl ?_
        exact ⟨_, _, _, _, _, rfl, HRT.out _ _ _⟩
  · have y0 : ((y : Int) == 0) = false := by simp; omega
    have y1 : ((y : Int) == 1) = false := by simp; omega
    have y2 : ((y : Int) == 2) = false := by simp; omega
    have y3 : ((y : Int) == 3) = false := by simp; omega
    have HN : Hid _ := L2.out
    clear L2
    obtain ⟨q0, q1, q2, f0, f1, f2⟩ := HN.out.over
    have HRR : Hid _ := HN.out.res
    have r0 := (blk_cell HRR.out 0).trans rfl
    have r1 := (blk_cell HRR.out 1).trans rfl
    have r2 := (blk_cell HRR.out 2).trans rfl
    have e0 := blk_free HRR.out 0
    have e1 := blk_free HRR.out 1
    have e2 := blk_free HRR.out 2
    have HRT : Hid _ := HN.out.ret
    obtain ⟨na, nc, hna⟩ := rowForm HN.out.vi
    obtain ⟨ma, mc, hma⟩ := rowForm HN.out.ci
    first | subst hna | clear hna
    first | subst hma | clear hma
    go_wp2_with fail
    refine bodyPost_ret (results_cell_row (p := 2) (ty := 27) rfl _ _ w.heap.size 27 _ (0, 0) _ rfl (blk_set (blk_set (blk_set HRR.out 0 _) 1 _) 2 _) Try.underlying27 rfl (by kernel_rfl)) rfl ?_
    exact ⟨_, _, _, _, _, rfl, HRT.out _ _ _⟩
end Go.Proofs.Ytmofljfffcnlbaa
