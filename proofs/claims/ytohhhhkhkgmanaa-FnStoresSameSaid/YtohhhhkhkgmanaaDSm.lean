/- What DrawSameStore and DrawStoreOk answer: small stores. -/
import Derived.Test.YtohhhhkhkgmanaaDAn
import Derived.Test.YtohhhhkhkgmanaaZan
namespace Go.Proofs.Ytohhhhkhkgmanaa
open Go.RowKit

theorem results_cell_cell {fn : Func} {p q : Tmp} {ty tz : TypeId} (h : fn.results = #[.cell p ty, .cell q tz]) (tmps : Array Value) (P : Program) (w : World) :
    (results fn tmps).run P w =
      ((asAddr (tmps.getD p undef)).run P w).andThen fun a w₁ => ((loadVar ty a).run P w₁).andThen fun v w₂ => ((asAddr (tmps.getD q undef)).run P w₂).andThen fun b w₃ => ((loadVar tz b).run P w₃).andThen fun u w₄ => .ok (.tuple #[v, u]) w₄ := by
  simp only [results, h]
  simp [Sem.run_bind, Result.andThen]
set_option maxRecDepth 100000 in
theorem res_store2 {fn : Func} {p q : Tmp} (h : fn.results = #[.cell p 27, .cell q 27]) (tmps : Array Value) (w : World) (g k : Nat) (v0 v1 v2 u0 u1 u2 : Value) (hp : tmps.getD p undef = .pointer (some ⟨g, 0, none⟩)) (hq : tmps.getD q undef = .pointer (some ⟨k, 0, none⟩)) (hg : w.heap[g]? = some (.cells #[v0, v1, v2] 27 (0, 0))) (hk : w.heap[k]? = some (.cells #[u0, u1, u2] 27 (0, 0))) :
    (results fn tmps).run Try.prog w = .ok (.tuple #[.agg #[v0, v1, v2], .agg #[u0, u1, u2]]) w := by
  rw [results_cell_cell h, hp, hq]
  simp only [asAddr, Sem.run_pure, Result.andThen_ok, run_loadVar_row w g 27 27 #[v0, v1, v2] (0, 0) _ hg Try.underlying27 rfl (by kernel_rfl), run_loadVar_row w k 27 27 #[u0, u1, u2] (0, 0) _ hk Try.underlying27 rfl (by kernel_rfl)]
set_option maxRecDepth 100000 in
theorem res_store1 {fn : Func} {p : Tmp} (h : fn.results = #[.cell p 27]) (tmps : Array Value) (w : World) (g : Nat) (v0 v1 v2 : Value) (hp : tmps.getD p undef = .pointer (some ⟨g, 0, none⟩)) (hg : w.heap[g]? = some (.cells #[v0, v1, v2] 27 (0, 0))) :
    (results fn tmps).run Try.prog w = .ok (.agg #[v0, v1, v2]) w :=
  results_cell_row h tmps w g 27 #[v0, v1, v2] (0, 0) _ hp hg Try.underlying27 rfl (by kernel_rfl)
/-- Two small stores. -/
def DrawnS (w w' : World) (e : Ending) : Prop := ∃ (ua : Option Addr) (uc : Nat) (xa : Option Addr) (xc : Nat) (vs : List Vr) (cs : List Cl) (o : ByteArray) (ub : Option Addr) (ud : Nat) (xb : Option Addr) (xd : Nat) (us : List Vr) (ds : List Cl) (p : ByteArray), e = .returned (.tuple #[.agg #[.slice ua vs.length uc, .slice xa cs.length xc, .string o], .agg #[.slice ub us.length ud, .slice xb ds.length xd, .string p]]) ∧ (VrAt w' (.slice ua vs.length uc) vs ∧ ClAt w' (.slice xa cs.length xc) cs ∧ StSmall vs cs o) ∧ (VrAt w' (.slice ub us.length ud) us ∧ ClAt w' (.slice xb ds.length xd) ds ∧ StSmall us ds p) ∧ Below w.heap.size w w'
/-- What stands of two stores in two boxes, ahead of the end: the answers' boxes are H and H + 1. -/
structure DM (w : World) (W : World) (ga gb : Nat) (ua : Option Addr) (uc : Nat) (xa : Option Addr) (xc : Nat) (vs : List Vr) (cs : List Cl) (o : ByteArray) (ub : Option Addr) (ud : Nat) (xb : Option Addr) (xd : Nat) (us : List Vr) (ds : List Cl) (p : ByteArray) : Prop where
  lo : w.heap.size + 3 ≤ ga ∧ w.heap.size + 3 ≤ gb ∧ ga ≠ gb
  r0 : W.heap[w.heap.size]? = some (.cells #[.slice none 0 0, .slice none 0 0, .string ⟨#[]⟩] 27 (0, 0))
  r1 : W.heap[w.heap.size + 1]? = some (.cells #[.slice none 0 0, .slice none 0 0, .string ⟨#[]⟩] 27 (0, 0))
  a : W.heap[ga]? = some (.cells #[.slice ua vs.length uc, .slice xa cs.length xc, .string o] 27 (0, 0))
  b : W.heap[gb]? = some (.cells #[.slice ub us.length ud, .slice xb ds.length xd, .string p] 27 (0, 0))
  va : VrIn (w.heap.size + 3) W.heap.size W (.slice ua vs.length uc) vs
  ca : ClIn (w.heap.size + 3) W.heap.size W (.slice xa cs.length xc) cs
  sa : StSmall vs cs o
  vb : VrIn (w.heap.size + 3) W.heap.size W (.slice ub us.length ud) us
  cb : ClIn (w.heap.size + 3) W.heap.size W (.slice xb ds.length xd) ds
  sb : StSmall us ds p
  be : Below w.heap.size w W
theorem VrIn.box {lo hi gb : Nat} {w w' : World} {v : Value} {xs : List Vr} {arr : Array Value} {fr : Nat × Nat} (h : VrIn lo hi w v xs) (hg : w.heap[gb]? = some (.cells arr 27 fr)) (hk : ∀ b, b ≠ gb → w'.heap[b]? = w.heap[b]?) : VrIn lo hi w' v xs := by
  obtain ⟨ad, cap, e, f⟩ := h
  refine ⟨ad, cap, e, fun h0 => ?_⟩
  obtain ⟨g, ar, e1, e2, e3, e4, e5⟩ := f h0
  refine ⟨g, ar, e1, e2, e3, ?_, e5⟩
  rw [hk g (fun e => ?_), e4]
  subst e
  rw [hg] at e4
  simp only [Option.some.injEq, Obj.cells.injEq] at e4
  exact absurd e4.2.1 (by decide)
theorem ClIn.box {lo hi gb : Nat} {w w' : World} {v : Value} {xs : List Cl} {arr : Array Value} {fr : Nat × Nat} (h : ClIn lo hi w v xs) (hg : w.heap[gb]? = some (.cells arr 27 fr)) (hk : ∀ b, b ≠ gb → w'.heap[b]? = w.heap[b]?) : ClIn lo hi w' v xs := by
  obtain ⟨ad, cap, e, f⟩ := h
  refine ⟨ad, cap, e, fun h0 => ?_⟩
  obtain ⟨g, ar, e1, e2, e3, e4, e5⟩ := f h0
  refine ⟨g, ar, e1, e2, e3, ?_, e5⟩
  rw [hk g (fun e => ?_), e4]
  subst e
  rw [hg] at e4
  simp only [Option.some.injEq, Obj.cells.injEq] at e4
  exact absurd e4.2.1 (by decide)
theorem setVars_small {vs : List Vr} {cs : List Cl} {o name val : ByteArray} (h : StSmall vs cs o) (hn : name.size ≤ 1048576) : StSmall (St.setVars vs name val) cs o := by
  obtain ⟨h1, h2, h3⟩ := h
  unfold St.setVars
  by_cases hc : (St.newVars vs name val).length ≤ 60
  · rw [if_pos hc]
    refine ⟨by omega, fun i hi => ?_, h3⟩
    rw [show (St.newVars vs name val).getD i Vr.no = (St.newVars vs name val)[i] by simp [hi]]
    have hm := List.getElem_mem hi
    generalize (St.newVars vs name val)[i] = y at hm
    unfold St.newVars at hm
    simp only [List.mem_append, List.mem_filter, List.mem_singleton] at hm
    have key : y ∈ vs → y.name.size ≤ 1048576 ∧ y.val.size ≤ 1048576 := fun hy => by
      obtain ⟨j, hj, rfl⟩ := List.mem_iff_getElem.1 hy
      have := h2 j hj
      rwa [show vs.getD j Vr.no = vs[j] by simp [hj]] at this
    rcases hm with (hm | rfl) | hm
    · exact key hm.1
    · refine ⟨hn, ?_⟩
      show (St.cut val).size ≤ _
      have := Pv.cut_len val.data.toList
      have e : (St.cut val).size = (Pv.cut val.data.toList).length := lst8 _
      omega
    · exact key hm.1
  · rw [if_neg hc]
    exact ⟨h1, h2, h3⟩
theorem cells3s {W : World} {g : Nat} {v0 v1 v2 : Value} (h : W.heap[g]? = some (.cells #[v0, v1, v2] 27 (0, 0))) : W.cell? ⟨g, 0, none⟩ = some v0 ∧ W.cell? ⟨g, 1, none⟩ = some v1 ∧ W.cell? ⟨g, 2, none⟩ = some v2 :=
  ⟨(blk_cell h 0).trans rfl, (blk_cell h 1).trans rfl, (blk_cell h 2).trans rfl⟩
theorem DM.grow {w W W' : World} {ga gb : Nat} {ua : Option Addr} {uc : Nat} {xa : Option Addr} {xc : Nat} {vs : List Vr} {cs : List Cl} {o : ByteArray} {ub : Option Addr} {ud : Nat} {xb : Option Addr} {xd : Nat} {us : List Vr} {ds : List Cl} {p : ByteArray} (h : DM w W ga gb ua uc xa xc vs cs o ub ud xb xd us ds p) (hg : W.grownBy W' (some (w.heap.size + 2))) : DM w W' ga gb ua uc xa xc vs cs o ub ud xb xd us ds p := by
  have lo := h.lo
  have la := blk_lt h.a
  have e : ∀ b, b < W.heap.size → b ≠ w.heap.size + 2 → W'.heap[b]? = W.heap[b]? := fun b h1 h2 => hg.block b h1 (fun e => h2 (Option.some.inj e))
  have hz := hg.size
  exact ⟨lo, (e _ (by omega) (by omega)).trans h.r0, (e _ (by omega) (by omega)).trans h.r1, (e _ (by omega) (by omega)).trans h.a, (e _ (blk_lt h.b) (by omega)).trans h.b,
    (h.va.keep fun b h1 h2 => e b h2 (by omega)).wide (Nat.le_refl _) hz, (h.ca.keep fun b h1 h2 => e b h2 (by omega)).wide (Nat.le_refl _) hz, h.sa, (h.vb.keep fun b h1 h2 => e b h2 (by omega)).wide (Nat.le_refl _) hz, (h.cb.keep fun b h1 h2 => e b h2 (by omega)).wide (Nat.le_refl _) hz, h.sb,
    h.be.trans (below_of_grown hg (by omega) (by omega))⟩
theorem DM.up {w W W' : World} {ga gb : Nat} {ua : Option Addr} {uc : Nat} {xa : Option Addr} {xc : Nat} {vs : List Vr} {cs : List Cl} {o : ByteArray} {ub : Option Addr} {ud : Nat} {xb : Option Addr} {xd : Nat} {us : List Vr} {ds : List Cl} {p : ByteArray} (h : DM w W ga gb ua uc xa xc vs cs o ub ud xb xd us ds p) (hb : Below W.heap.size W W') : DM w W' ga gb ua uc xa xc vs cs o ub ud xb xd us ds p :=
  h.grow ⟨hb.os, hb.tape, hb.output, hb.size, fun b h _ => hb.block b h⟩
theorem DM.setB {w W : World} {ga gb : Nat} {ua : Option Addr} {uc : Nat} {xa : Option Addr} {xc : Nat} {vs : List Vr} {cs : List Cl} {o : ByteArray} {ub : Option Addr} {ud : Nat} {xb : Option Addr} {xd : Nat} {us : List Vr} {ds : List Cl} {p : ByteArray} {ub' : Option Addr} {ud' : Nat} {xb' : Option Addr} {xd' : Nat} {us' : List Vr} {ds' : List Cl} {p' : ByteArray} (h : DM w W ga gb ua uc xa xc vs cs o ub ud xb xd us ds p) (hv : VrIn (w.heap.size + 3) W.heap.size W (.slice ub' us'.length ud') us') (hx : ClIn (w.heap.size + 3) W.heap.size W (.slice xb' ds'.length xd') ds') (hs : StSmall us' ds' p') :
    DM w (((W.setCell ⟨gb, 0, none⟩ (.slice ub' us'.length ud')).setCell ⟨gb, 1, none⟩ (.slice xb' ds'.length xd')).setCell ⟨gb, 2, none⟩ (.string p')) ga gb ua uc xa xc vs cs o ub' ud' xb' xd' us' ds' p' := by
  have lo := h.lo
  have e : ∀ b, b ≠ gb → (((W.setCell ⟨gb, 0, none⟩ (.slice ub' us'.length ud')).setCell ⟨gb, 1, none⟩ (.slice xb' ds'.length xd')).setCell ⟨gb, 2, none⟩ (.string p')).heap[b]? = W.heap[b]? := fun b hb => by
    rw [Below.heap_setCell _ _ _ _ (by show b ≠ gb; exact hb), Below.heap_setCell _ _ _ _ (by show b ≠ gb; exact hb), Below.heap_setCell _ _ _ _ (by show b ≠ gb; exact hb)]
  have hz : (((W.setCell ⟨gb, 0, none⟩ (.slice ub' us'.length ud')).setCell ⟨gb, 1, none⟩ (.slice xb' ds'.length xd')).setCell ⟨gb, 2, none⟩ (.string p')).heap.size = W.heap.size := by simp [World.setCell]
  have hB : Below w.heap.size W (((W.setCell ⟨gb, 0, none⟩ (.slice ub' us'.length ud')).setCell ⟨gb, 1, none⟩ (.slice xb' ds'.length xd')).setCell ⟨gb, 2, none⟩ (.string p')) := (((Below.refl _ _).setCell (by show w.heap.size ≤ gb; omega) _).setCell (by show w.heap.size ≤ gb; omega) _).setCell (by show w.heap.size ≤ gb; omega) _
  refine ⟨lo, (e _ (by omega)).trans h.r0, (e _ (by omega)).trans h.r1, (e _ (by omega)).trans h.a, blk_set (blk_set (blk_set h.b 0 _) 1 _) 2 _, ?_, ?_, h.sa, ?_, ?_, hs, h.be.trans hB⟩ <;> rw [hz]
  · exact h.va.box h.b e
  · exact h.ca.box h.b e
  · exact hv.box h.b e
  · exact hx.box h.b e
theorem DM.setO {w W : World} {ga gb : Nat} {ua : Option Addr} {uc : Nat} {xa : Option Addr} {xc : Nat} {vs : List Vr} {cs : List Cl} {o : ByteArray} {ub : Option Addr} {ud : Nat} {xb : Option Addr} {xd : Nat} {us : List Vr} {ds : List Cl} {p : ByteArray} {p' : ByteArray} (h : DM w W ga gb ua uc xa xc vs cs o ub ud xb xd us ds p) (hs : StSmall us ds p') :
    DM w (W.setCell ⟨gb, 2, none⟩ (.string p')) ga gb ua uc xa xc vs cs o ub ud xb xd us ds p' := by
  have lo := h.lo
  have e : ∀ b, b ≠ gb → (W.setCell ⟨gb, 2, none⟩ (.string p')).heap[b]? = W.heap[b]? := fun b hb => by
    rw [Below.heap_setCell _ _ _ _ (by show b ≠ gb; exact hb)]
  have hz : (W.setCell ⟨gb, 2, none⟩ (.string p')).heap.size = W.heap.size := by simp [World.setCell]
  have hB : Below w.heap.size W (W.setCell ⟨gb, 2, none⟩ (.string p')) := (Below.refl _ _).setCell (by show w.heap.size ≤ gb; omega) _
  refine ⟨lo, (e _ (by omega)).trans h.r0, (e _ (by omega)).trans h.r1, (e _ (by omega)).trans h.a, blk_set h.b 2 _, ?_, ?_, h.sa, ?_, ?_, hs, h.be.trans hB⟩ <;> rw [hz]
  · exact h.va.box h.b e
  · exact h.ca.box h.b e
  · exact h.vb.box h.b e
  · exact h.cb.box h.b e
/-- Both stores are told, in whatever order they are copied. -/
theorem DM.end {w W W' : World} {ga gb : Nat} {ua : Option Addr} {uc : Nat} {xa : Option Addr} {xc : Nat} {vs : List Vr} {cs : List Cl} {o : ByteArray} {ub : Option Addr} {ud : Nat} {xb : Option Addr} {xd : Nat} {us : List Vr} {ds : List Cl} {p : ByteArray} (h : DM w W ga gb ua uc xa xc vs cs o ub ud xb xd us ds p)
    (he : ∀ b, w.heap.size + 3 ≤ b → W'.heap[b]? = W.heap[b]?) (hb : Below w.heap.size W W') :
    DrawnS w W' (.returned (.tuple #[.agg #[.slice ua vs.length uc, .slice xa cs.length xc, .string o], .agg #[.slice ub us.length ud, .slice xb ds.length xd, .string p]])) :=
  ⟨ua, uc, xa, xc, vs, cs, o, ub, ud, xb, xd, us, ds, p, rfl, ⟨(h.va.keep fun b h1 _ => he b h1).at, (h.ca.keep fun b h1 _ => he b h1).at, h.sa⟩, ⟨(h.vb.keep fun b h1 _ => he b h1).at, (h.cb.keep fun b h1 _ => he b h1).at, h.sb⟩, h.be.trans hb⟩


/-- Both boxes copied into the answers' boxes. -/
def DM.put (h W : World) (a0 a1 a2 b0 b1 b2 : Value) : World :=
  ((((((W.setCell ⟨h.heap.size, 0, none⟩ a0).setCell ⟨h.heap.size, 1, none⟩ a1).setCell ⟨h.heap.size, 2, none⟩ a2).setCell ⟨h.heap.size + 1, 0, none⟩ b0).setCell ⟨h.heap.size + 1, 1, none⟩ b1).setCell ⟨h.heap.size + 1, 2, none⟩ b2).drew
theorem set3_other (V : World) (g : Nat) (a0 a1 a2 : Value) (b : Nat) (hb : b ≠ g) : (((V.setCell ⟨g, 0, none⟩ a0).setCell ⟨g, 1, none⟩ a1).setCell ⟨g, 2, none⟩ a2).heap[b]? = V.heap[b]? := by
  rw [Below.heap_setCell _ _ _ _ (by show b ≠ g; exact hb), Below.heap_setCell _ _ _ _ (by show b ≠ g; exact hb), Below.heap_setCell _ _ _ _ (by show b ≠ g; exact hb)]
theorem set3_below (V : World) (B g : Nat) (a0 a1 a2 : Value) (hb : B ≤ g) : Below B V (((V.setCell ⟨g, 0, none⟩ a0).setCell ⟨g, 1, none⟩ a1).setCell ⟨g, 2, none⟩ a2) :=
  (((Below.refl _ _).setCell (by exact hb) _).setCell (by exact hb) _).setCell (by exact hb) _
theorem set3_here {V : World} {g : Nat} {x0 x1 x2 a0 a1 a2 : Value} (h : V.heap[g]? = some (.cells #[x0, x1, x2] 27 (0, 0))) : (((V.setCell ⟨g, 0, none⟩ a0).setCell ⟨g, 1, none⟩ a1).setCell ⟨g, 2, none⟩ a2).heap[g]? = some (.cells #[a0, a1, a2] 27 (0, 0)) :=
  blk_set (blk_set (blk_set h 0 a0) 1 a1) 2 a2
theorem DM.put_facts {w W : World} {x0 x1 x2 y0 y1 y2 : Value} (a0 a1 a2 b0 b1 b2 : Value) (h0 : W.heap[w.heap.size]? = some (.cells #[x0, x1, x2] 27 (0, 0))) (h1 : W.heap[w.heap.size + 1]? = some (.cells #[y0, y1, y2] 27 (0, 0))) :
    (DM.put w W a0 a1 a2 b0 b1 b2).heap[w.heap.size]? = some (.cells #[a0, a1, a2] 27 (0, 0)) ∧ (DM.put w W a0 a1 a2 b0 b1 b2).heap[w.heap.size + 1]? = some (.cells #[b0, b1, b2] 27 (0, 0)) ∧ (∀ b, w.heap.size + 2 ≤ b → (DM.put w W a0 a1 a2 b0 b1 b2).heap[b]? = W.heap[b]?) ∧ Below w.heap.size W (DM.put w W a0 a1 a2 b0 b1 b2) := by
  have A := set3_here (a0 := a0) (a1 := a1) (a2 := a2) h0
  have o1 := set3_other W w.heap.size a0 a1 a2
  have B1 := set3_below W w.heap.size w.heap.size a0 a1 a2 (Nat.le_refl _)
  unfold DM.put
  generalize ((W.setCell ⟨w.heap.size, 0, none⟩ a0).setCell ⟨w.heap.size, 1, none⟩ a1).setCell ⟨w.heap.size, 2, none⟩ a2 = V at *
  have C := set3_here (a0 := b0) (a1 := b1) (a2 := b2) ((o1 (w.heap.size + 1) (by omega)).trans h1)
  have o2 := set3_other V (w.heap.size + 1) b0 b1 b2
  have B2 := set3_below V w.heap.size (w.heap.size + 1) b0 b1 b2 (by omega)
  generalize ((V.setCell ⟨w.heap.size + 1, 0, none⟩ b0).setCell ⟨w.heap.size + 1, 1, none⟩ b1).setCell ⟨w.heap.size + 1, 2, none⟩ b2 = U at *
  exact ⟨(o2 _ (by omega)).trans A, C, fun b hb => (o2 b (by omega)).trans (o1 b (by omega)), (B1.trans B2).drew⟩
theorem DM.told {w W : World} {ga gb : Nat} {ua : Option Addr} {uc : Nat} {xa : Option Addr} {xc : Nat} {vs : List Vr} {cs : List Cl} {o : ByteArray} {ub : Option Addr} {ud : Nat} {xb : Option Addr} {xd : Nat} {us : List Vr} {ds : List Cl} {p : ByteArray} (h : DM w W ga gb ua uc xa xc vs cs o ub ud xb xd us ds p) :
    (DM.put w W (.slice ua vs.length uc) (.slice xa cs.length xc) (.string o) (.slice ub us.length ud) (.slice xb ds.length xd) (.string p)).heap[w.heap.size]? = some (.cells #[.slice ua vs.length uc, .slice xa cs.length xc, .string o] 27 (0, 0)) ∧
    (DM.put w W (.slice ua vs.length uc) (.slice xa cs.length xc) (.string o) (.slice ub us.length ud) (.slice xb ds.length xd) (.string p)).heap[w.heap.size + 1]? = some (.cells #[.slice ub us.length ud, .slice xb ds.length xd, .string p] 27 (0, 0)) ∧
    DrawnS w (DM.put w W (.slice ua vs.length uc) (.slice xa cs.length xc) (.string o) (.slice ub us.length ud) (.slice xb ds.length xd) (.string p)) (.returned (.tuple #[.agg #[.slice ua vs.length uc, .slice xa cs.length xc, .string o], .agg #[.slice ub us.length ud, .slice xb ds.length xd, .string p]])) := by
  obtain ⟨f1, f2, f3, f4⟩ := DM.put_facts (.slice ua vs.length uc) (.slice xa cs.length xc) (.string o) (.slice ub us.length ud) (.slice xb ds.length xd) (.string p) h.r0 h.r1
  exact ⟨f1, f2, h.end (fun b hb => f3 b (by omega)) f4⟩
set_option maxHeartbeats 4000000 in
set_option maxRecDepth 100000 in
theorem dSame_any (ad : Option Addr) (n cap : Nat) (w : World) (hn : n ≤ 1048576) (hc : Code w ad n) :
    Calls Try.prog 20 #[.slice ad n cap] w fun e w' => DrawnS w w' e := by
  have hb0 : Below w.heap.size w ((w.alloc (.cells #[.slice none 0 0, .slice none 0 0, .string ⟨#[]⟩] 27)).alloc (.cells #[.slice none 0 0, .slice none 0 0, .string ⟨#[]⟩] 27)) := ((Below.refl _ _).alloc (Nat.le_refl _) _).alloc (by simp) _
  have q0 := s2_0 w (.cells #[.slice none 0 0, .slice none 0 0, .string ⟨#[]⟩] 27) (.cells #[.slice none 0 0, .slice none 0 0, .string ⟨#[]⟩] 27)
  have q1 := s2_1 w (.cells #[.slice none 0 0, .slice none 0 0, .string ⟨#[]⟩] 27) (.cells #[.slice none 0 0, .slice none 0 0, .string ⟨#[]⟩] 27)
  have C0 := hidOf8 (new_any ad n cap ((w.alloc (.cells #[.slice none 0 0, .slice none 0 0, .string ⟨#[]⟩] 27)).alloc (.cells #[.slice none 0 0, .slice none 0 0, .string ⟨#[]⟩] 27)) hn (hc.keep hb0))
  have H0 := hidOf8 (And.intro hb0 (And.intro q0 q1))
  have hz0 : ((w.alloc (.cells #[.slice none 0 0, .slice none 0 0, .string ⟨#[]⟩] 27)).alloc (.cells #[.slice none 0 0, .slice none 0 0, .string ⟨#[]⟩] 27)).heap.size = w.heap.size + 2 := by simp
  clear hb0 q0 q1 hc
  go_enter Try.func20, Try.ntmps20
  go_wp2_with fail
  generalize (w.alloc (.cells #[.slice none 0 0, .slice none 0 0, .string ⟨#[]⟩] 27)).alloc (.cells #[.slice none 0 0, .slice none 0 0, .string ⟨#[]⟩] 27) = W0 at *
  refine C0.out.mono ?_
  rintro e w1 ⟨rfl, d1, s1, b1⟩
  rw [hz0] at d1 s1
  have H1 := hidOf8 (And.intro (H0.out.1.trans (b1.mono H0.out.1.size)) (And.intro ((b1.block _ (blk_lt H0.out.2.1)).trans H0.out.2.1) ((b1.block _ (blk_lt H0.out.2.2)).trans H0.out.2.2)))
  have C1 := hidOf8 (below_any _ _ n cap ad 4 w1 d1 (by decide) (by decide))
  clear d1 C0 b1 H0
  rw [hz0]
  go_wp2_with fail
  refine C1.out.mono ?_
  rintro e w2 ⟨k, hk, rfl, d2, g2⟩
  have hB2 : w.heap.size + 2 + 1 ≤ w2.heap.size := by have := g2.size; omega
  have C3 := hidOf8 (l08Any_any _ _ n cap ad w2 d2 hB2)
  have hb2 : Below (w.heap.size + 2) w1 w2 := below_of_grown g2 (Nat.le_refl _) (by omega)
  have H2 := hidOf8 (And.intro (H1.out.1.trans (hb2.mono (by omega))) (And.intro ((hb2.block _ (by omega)).trans H1.out.2.1) ((hb2.block _ (by omega)).trans H1.out.2.2)))
  clear d2 g2 hb2 H1 C1 s1
  go_wp2_with fail
  refine C3.out.mono ?_
  rintro e w3 ⟨u, x, vs, cs, o, rfl, hv, hx, hf, d3, g3⟩
  have hb3 : Below (w.heap.size + 2) w2 w3 := below_of_grown g3 (Nat.le_refl _) (by omega)
  have hz3 : w.heap.size + 3 ≤ w3.heap.size := by have := g3.size; omega
  have H3 := hidOf8 (And.intro (H2.out.1.trans (hb3.mono (by omega))) (And.intro ((hb3.block _ (by omega)).trans H2.out.2.1) ((hb3.block _ (by omega)).trans H2.out.2.2)))
  have HV3 := hidOf8 (And.intro hv (And.intro hx hf))
  have HD3 := hidOf8 d3
  obtain ⟨ua, uc, rfl, -⟩ := hv
  obtain ⟨xa, xc, rfl, -⟩ := hx
  clear hb3 d3 g3 H2 C3 hf
  obtain ⟨W4, hW4⟩ : ∃ W4, W4 = w3.alloc (.cells #[.slice ua vs.length uc, .slice xa cs.length xc, .string o] 27) := ⟨_, rfl⟩
  have hb4 : Below w3.heap.size w3 W4 := by rw [hW4]; exact (Below.refl _ _).alloc (Nat.le_refl _) _
  have ba4 : W4.heap[w3.heap.size]? = some (.cells #[.slice ua vs.length uc, .slice xa cs.length xc, .string o] 27 (0, 0)) := by rw [hW4]; exact heap_alloc_new _ _
  have hz4 : W4.heap.size = w3.heap.size + 1 := by rw [hW4]; simp
  have C4 := hidOf8 (spCopy (.slice ua vs.length uc) (.slice xa cs.length xc) o vs cs W4 (HV3.out.1.at.keep hb4) (HV3.out.2.1.at.keep hb4) HV3.out.2.2.small)
  have H4 := hidOf8 (And.intro hb4 (And.intro ba4 hz4))
  obtain ⟨qa0, qa1, qa2⟩ := cells3s ba4
  rw [hW4] at qa0 qa1 qa2
  clear hb4 ba4 hz4
  go_wp2_with fail
  rw [← hW4]
  clear qa0 qa1 qa2 hW4
  refine C4.out.mono ?_
  rintro e w5 ⟨u2, x2, rfl, hv2, hx2, hb5⟩
  have H5 := hidOf8 (And.intro hb5 (And.intro hv2 hx2))
  obtain ⟨ub, ud, rfl, -⟩ := hv2
  obtain ⟨xb, xd, rfl, -⟩ := hx2
  clear hb5 C4
  obtain ⟨W6, hW6⟩ : ∃ W6, W6 = w5.alloc (.cells #[.slice ub vs.length ud, .slice xb cs.length xd, .string o] 27) := ⟨_, rfl⟩
  have hb6 : Below w5.heap.size w5 W6 := by rw [hW6]; exact (Below.refl _ _).alloc (Nat.le_refl _) _
  have bb6 : W6.heap[w5.heap.size]? = some (.cells #[.slice ub vs.length ud, .slice xb cs.length xd, .string o] 27 (0, 0)) := by rw [hW6]; exact heap_alloc_new _ _
  have hz6 : W6.heap.size = w5.heap.size + 1 := by rw [hW6]; simp
  have hz5 : w3.heap.size + 1 ≤ w5.heap.size := by have h1 := H5.out.1.size; have h2 := H4.out.2.2; omega
  have HBG : Hid (Below w3.heap.size w3 W6) := by
    have h1 := H5.out.1.mono (Nat.le_trans (Nat.le_succ _) (by have := H4.out.2.2; omega) : w3.heap.size ≤ W4.heap.size)
    exact (H4.out.1.trans h1).trans (hb6.mono (by omega))
  have HDP : Hid (∀ q : ByteArray, StSmall vs cs q → DM w (w5.alloc (.cells #[.slice ub vs.length ud, .slice xb cs.length xd, .string q] 27)) w3.heap.size w5.heap.size ua uc xa xc vs cs o ub ud xb xd vs cs q) := by
    intro q hq
    have h4 := H4.out.2.2
    have h6 : Below w5.heap.size w5 (w5.alloc (.cells #[.slice ub vs.length ud, .slice xb cs.length xd, .string q] 27)) := (Below.refl _ _).alloc (Nat.le_refl _) _
    have b56 := H5.out.1.trans (h6.mono H5.out.1.size)
    have hb : Below w3.heap.size w3 (w5.alloc (.cells #[.slice ub vs.length ud, .slice xb cs.length xd, .string q] 27)) := H4.out.1.trans (b56.mono (by omega))
    refine ⟨⟨by omega, by omega, by omega⟩, (hb.block _ (by omega)).trans H3.out.2.1, (hb.block _ (by omega)).trans H3.out.2.2, (b56.block _ (by omega)).trans H4.out.2.1, heap_alloc_new _ _, ?_, ?_, HV3.out.2.2.small, ?_, ?_, hq, H3.out.1.trans (hb.mono (by omega))⟩
    · exact (HV3.out.1.keep fun b h1 h2 => hb.block b h2).wide (by omega) hb.size
    · exact (HV3.out.2.1.keep fun b h1 h2 => hb.block b h2).wide (by omega) hb.size
    · exact (H5.out.2.1.keep fun b h1 h2 => h6.block b h2).wide (by omega) h6.size
    · exact (H5.out.2.2.keep fun b h1 h2 => h6.block b h2).wide (by omega) h6.size
  have HD0 : Hid (DM w W6 w3.heap.size w5.heap.size ua uc xa xc vs cs o ub ud xb xd vs cs o) := by
    rw [hW6]
    exact HDP.out o HV3.out.2.2.small
  have HD6 : Hid (Drw (w.heap.size + 2 + 1) W6 (w.heap.size + 2) ad n cap ∧ w3.heap.size < W6.heap.size ∧ w5.heap.size < W6.heap.size ∧ w.heap.size + 3 ≤ w3.heap.size) := ⟨HD3.out.keep (HBG.out.mono (by omega)), by omega, by omega, hz3⟩
  have HF6 : Hid (Fw vs cs o) := HV3.out.2.2
  clear hb6 bb6 hz6 hz5 HBG H5 H4 H3 HV3 HD3 hz3 hB2 hz0
  rcases (by omega : k = 0 ∨ k = 1 ∨ k = 2 ∨ 3 ≤ k) with rfl | rfl | rfl | hk3
  · clear HDP
    go_wp2_with fail
    rw [← hW6]
    clear hW6
    generalize w3.heap.size = ga at *
    generalize w5.heap.size = gb at *
    have C7 := hidOf8 (l08Any_any W6.heap.size _ n cap ad W6 (HD6.out.1.low_of (by have := HD6.out.2; omega)) (Nat.le_refl _))
    refine C7.out.mono ?_
    rintro e w7 ⟨u7, x7, us, ds, p, rfl, hv7, hx7, hf7, -, g7⟩
    have HD7 := hidOf8 (HD0.out.grow g7)
    have HV7 := hidOf8 (And.intro (hv7.wide (by have := HD6.out.2; omega : w.heap.size + 3 ≤ W6.heap.size) (Nat.le_refl _)) (And.intro (hx7.wide (by have := HD6.out.2; omega : w.heap.size + 3 ≤ W6.heap.size) (Nat.le_refl _)) hf7.small))
    obtain ⟨ub7, ud7, rfl, -⟩ := hv7
    obtain ⟨xb7, xd7, rfl, -⟩ := hx7
    clear hf7 g7 C7
    obtain ⟨qb0, qb1, qb2⟩ := cells3s HD7.out.b
    have fb0 := blk_free HD7.out.b 0
    have fb1 := blk_free HD7.out.b 1
    have fb2 := blk_free HD7.out.b 2
    have HD := hidOf8 (HD7.out.setB HV7.out.1 HV7.out.2.1 HV7.out.2.2)
    clear HD6 HF6 HD0 HV7
    clear HD7
    go_wp2_with fail
    generalize ((w7.setCell ⟨gb, 0, none⟩ (.slice ub7 us.length ud7)).setCell ⟨gb, 1, none⟩ (.slice xb7 ds.length xd7)).setCell ⟨gb, 2, none⟩ (.string p) = W8 at *
    obtain ⟨qa0, qa1, qa2⟩ := cells3s HD.out.a
    obtain ⟨qb0, qb1, qb2⟩ := cells3s HD.out.b
    have hlo := HD.out.lo
    have H0 := HD.out.r0
    have H1 := HD.out.r1
    have f00 := blk_free H0 0
    have f01 := blk_free H0 1
    have f02 := blk_free H0 2
    have f10 := blk_free H1 0
    have f11 := blk_free H1 1
    have f12 := blk_free H1 2
    have s00 := (blk_cell H0 0).trans rfl
    have s01 := (blk_cell H0 1).trans rfl
    have s02 := (blk_cell H0 2).trans rfl
    have s10 := (blk_cell H1 0).trans rfl
    have s11 := (blk_cell H1 1).trans rfl
    have s12 := (blk_cell H1 2).trans rfl
    clear H0 H1
    go_wp2_with fail
    go_region
    obtain ⟨t0, t1, t2⟩ := HD.out.told
    unfold DM.put at t0 t1 t2
    clear HD qa0 qa1 qa2 qb0 qb1 qb2 f00 f01 f02 f10 f11 f12 s00 s01 s02 s10 s11 s12
    go_wp2_with fail
    refine bodyPost_ret (res_store2 rfl _ _ w.heap.size (w.heap.size + 1) _ _ _ _ _ _ rfl rfl t0 t1) rfl ?_
    exact t2
  · have HX : Hid (StSmall vs cs (o ++ ⟨#[120]⟩)) := by
      have := HF6.out.no
      refine ⟨HF6.out.small.1, HF6.out.small.2.1, HF6.out.small.2.2.1, HF6.out.small.2.2.2.1, ?_⟩
      rw [ByteArray.size_append]
      have h1 : (⟨#[120]⟩ : ByteArray).size = 1 := rfl
      omega
    have HD := hidOf8 (HDP.out _ HX.out)
    have z1 : ¬ 9223372036854775807 < o.size + 1 := by have := HF6.out.no; omega
    clear HDP HD0 HD6 HF6 HX hW6
    go_wp2_with fail
    generalize w5.alloc (.cells #[.slice ub vs.length ud, .slice xb cs.length xd, .string (o ++ ⟨#[120]⟩)] 27) = W8 at *
    generalize w3.heap.size = ga at *
    generalize w5.heap.size = gb at *
    generalize o ++ ⟨#[120]⟩ = p at *
    obtain ⟨qa0, qa1, qa2⟩ := cells3s HD.out.a
    obtain ⟨qb0, qb1, qb2⟩ := cells3s HD.out.b
    have hlo := HD.out.lo
    have H0 := HD.out.r0
    have H1 := HD.out.r1
    have f00 := blk_free H0 0
    have f01 := blk_free H0 1
    have f02 := blk_free H0 2
    have f10 := blk_free H1 0
    have f11 := blk_free H1 1
    have f12 := blk_free H1 2
    have s00 := (blk_cell H0 0).trans rfl
    have s01 := (blk_cell H0 1).trans rfl
    have s02 := (blk_cell H0 2).trans rfl
    have s10 := (blk_cell H1 0).trans rfl
    have s11 := (blk_cell H1 1).trans rfl
    have s12 := (blk_cell H1 2).trans rfl
    clear H0 H1
    go_wp2_with fail
    go_region
    obtain ⟨t0, t1, t2⟩ := HD.out.told
    unfold DM.put at t0 t1 t2
    clear HD qa0 qa1 qa2 qb0 qb1 qb2 f00 f01 f02 f10 f11 f12 s00 s01 s02 s10 s11 s12
    go_wp2_with fail
    refine bodyPost_ret (res_store2 rfl _ _ w.heap.size (w.heap.size + 1) _ _ _ _ _ _ rfl rfl t0 t1) rfl ?_
    exact t2
  · clear HDP
    go_wp2_with fail
    rw [← hW6]
    clear hW6
    generalize w3.heap.size = ga at *
    generalize w5.heap.size = gb at *
    have C7 := hidOf8 (spSetVar (.slice ub vs.length ud) (.slice xb cs.length xd) o ⟨#[110]⟩ ⟨#[111, 116, 104, 101, 114]⟩ vs cs W6 HD0.out.vb.at HD0.out.cb.at HD0.out.sb (by have := HF6.out.nv; omega))
    refine C7.out.mono ?_
    rintro e w7 ⟨u7, x7, rfl, hv7, hx7, hb7⟩
    have HD7 := hidOf8 (HD0.out.up hb7)
    have HV7 := hidOf8 (And.intro (hv7.wide (by have := HD6.out.2; omega : w.heap.size + 3 ≤ W6.heap.size) (Nat.le_refl _)) (And.intro (hx7.wide (by have := HD6.out.2; omega : w.heap.size + 3 ≤ W6.heap.size) (Nat.le_refl _)) (setVars_small (name := ⟨#[110]⟩) (val := ⟨#[111, 116, 104, 101, 114]⟩) HF6.out.small (by decide))))
    generalize St.setVars vs ⟨#[110]⟩ ⟨#[111, 116, 104, 101, 114]⟩ = us at *
    obtain ⟨ub7, ud7, rfl, -⟩ := hv7
    obtain ⟨xb7, xd7, rfl, -⟩ := hx7
    clear hb7 C7
    obtain ⟨qb0, qb1, qb2⟩ := cells3s HD7.out.b
    have fb0 := blk_free HD7.out.b 0
    have fb1 := blk_free HD7.out.b 1
    have fb2 := blk_free HD7.out.b 2
    have HD := hidOf8 (HD7.out.setB HV7.out.1 HV7.out.2.1 HV7.out.2.2)
    clear HD6 HF6 HD0 HV7
    clear HD7
    go_wp2_with fail
    generalize ((w7.setCell ⟨gb, 0, none⟩ (.slice ub7 us.length ud7)).setCell ⟨gb, 1, none⟩ (.slice xb7 cs.length xd7)).setCell ⟨gb, 2, none⟩ (.string o) = W8 at *
    obtain ⟨qa0, qa1, qa2⟩ := cells3s HD.out.a
    obtain ⟨qb0, qb1, qb2⟩ := cells3s HD.out.b
    have hlo := HD.out.lo
    have H0 := HD.out.r0
    have H1 := HD.out.r1
    have f00 := blk_free H0 0
    have f01 := blk_free H0 1
    have f02 := blk_free H0 2
    have f10 := blk_free H1 0
    have f11 := blk_free H1 1
    have f12 := blk_free H1 2
    have s00 := (blk_cell H0 0).trans rfl
    have s01 := (blk_cell H0 1).trans rfl
    have s02 := (blk_cell H0 2).trans rfl
    have s10 := (blk_cell H1 0).trans rfl
    have s11 := (blk_cell H1 1).trans rfl
    have s12 := (blk_cell H1 2).trans rfl
    clear H0 H1
    go_wp2_with fail
    go_region
    obtain ⟨t0, t1, t2⟩ := HD.out.told
    unfold DM.put at t0 t1 t2
    clear HD qa0 qa1 qa2 qb0 qb1 qb2 f00 f01 f02 f10 f11 f12 s00 s01 s02 s10 s11 s12
    go_wp2_with fail
    refine bodyPost_ret (res_store2 rfl _ _ w.heap.size (w.heap.size + 1) _ _ _ _ _ _ rfl rfl t0 t1) rfl ?_
    exact t2
  · have k0 : ((k : Int) == 0) = false := by simp; omega
    have k1 : ((k : Int) == 1) = false := by simp; omega
    have k2 : ((k : Int) == 2) = false := by simp; omega
    clear HDP
    go_wp2_with fail
    rw [← hW6]
    clear hW6
    generalize w3.heap.size = ga at *
    generalize w5.heap.size = gb at *
    have HD := hidOf8 HD0.out
    clear HD6 HF6 HD0
    obtain ⟨qa0, qa1, qa2⟩ := cells3s HD.out.a
    obtain ⟨qb0, qb1, qb2⟩ := cells3s HD.out.b
    have hlo := HD.out.lo
    have H0 := HD.out.r0
    have H1 := HD.out.r1
    have f00 := blk_free H0 0
    have f01 := blk_free H0 1
    have f02 := blk_free H0 2
    have f10 := blk_free H1 0
    have f11 := blk_free H1 1
    have f12 := blk_free H1 2
    have s00 := (blk_cell H0 0).trans rfl
    have s01 := (blk_cell H0 1).trans rfl
    have s02 := (blk_cell H0 2).trans rfl
    have s10 := (blk_cell H1 0).trans rfl
    have s11 := (blk_cell H1 1).trans rfl
    have s12 := (blk_cell H1 2).trans rfl
    clear H0 H1
    go_wp2_with fail
    go_region
    obtain ⟨t0, t1, t2⟩ := HD.out.told
    unfold DM.put at t0 t1 t2
    clear HD qa0 qa1 qa2 qb0 qb1 qb2 f00 f01 f02 f10 f11 f12 s00 s01 s02 s10 s11 s12
    go_wp2_with fail
    refine bodyPost_ret (res_store2 rfl _ _ w.heap.size (w.heap.size + 1) _ _ _ _ _ _ rfl rfl t0 t1) rfl ?_
    exact t2

set_option maxHeartbeats 1000000 in
set_option maxRecDepth 100000 in
theorem dStoreOk_any (ad : Option Addr) (n cap : Nat) (w : World) (hn : n ≤ 1048576) (hc : Code w ad n) :
    Calls Try.prog 22 #[.slice ad n cap] w fun e w' => ∃ (ua : Option Addr) (uc : Nat) (xa : Option Addr) (xc : Nat) (vs : List Vr) (cs : List Cl) (o : ByteArray), e = .returned (.agg #[.slice ua vs.length uc, .slice xa cs.length xc, .string o]) ∧ VrAt w' (.slice ua vs.length uc) vs ∧ ClAt w' (.slice xa cs.length xc) cs ∧ StSmall vs cs o ∧ Below w.heap.size w w' := by
  have hb0 : Below w.heap.size w (w.alloc (.cells #[.slice none 0 0, .slice none 0 0, .string ⟨#[]⟩] 27)) := (Below.refl _ _).alloc (Nat.le_refl _) _
  have q0 := heap_alloc_new w (.cells #[.slice none 0 0, .slice none 0 0, .string ⟨#[]⟩] 27)
  have C0 := hidOf8 (new_any ad n cap (w.alloc (.cells #[.slice none 0 0, .slice none 0 0, .string ⟨#[]⟩] 27)) hn (hc.keep hb0))
  have H0 := hidOf8 (And.intro hb0 q0)
  have hz0 : (w.alloc (.cells #[.slice none 0 0, .slice none 0 0, .string ⟨#[]⟩] 27)).heap.size = w.heap.size + 1 := by simp
  clear hb0 q0 hc
  go_enter Try.func22, Try.ntmps22
  go_wp2_with fail
  generalize w.alloc (.cells #[.slice none 0 0, .slice none 0 0, .string ⟨#[]⟩] 27) = W0 at *
  refine C0.out.mono ?_
  rintro e w1 ⟨rfl, d1, s1, b1⟩
  rw [hz0] at d1 s1
  have H1 := hidOf8 (And.intro (H0.out.1.trans (b1.mono H0.out.1.size)) ((b1.block _ (blk_lt H0.out.2)).trans H0.out.2))
  have C3 := hidOf8 (l08Any_any _ _ n cap ad w1 d1 (by omega))
  clear d1 C0 b1 H0
  rw [hz0]
  go_wp2_with fail
  refine C3.out.mono ?_
  rintro e w3 ⟨u, x, vs, cs, o, rfl, hv, hx, hf, -, g3⟩
  have hb3 : Below (w.heap.size + 1) w1 w3 := below_of_grown g3 (Nat.le_refl _) (by omega)
  have hsz : w.heap.size + 1 ≤ w3.heap.size := by have := g3.size; omega
  have H3 := hidOf8 (And.intro (H1.out.1.trans (hb3.mono (by omega))) (And.intro ((hb3.block _ (by omega)).trans H1.out.2) (And.intro hv (And.intro hx hf))))
  obtain ⟨ua, uc, rfl, -⟩ := hv
  obtain ⟨xa, xc, rfl, -⟩ := hx
  have r0 := (blk_cell H3.out.2.1 0).trans rfl
  have r1 := (blk_cell H3.out.2.1 1).trans rfl
  have r2 := (blk_cell H3.out.2.1 2).trans rfl
  have e0 := blk_free H3.out.2.1 0
  have e1 := blk_free H3.out.2.1 1
  have e2 := blk_free H3.out.2.1 2
  clear hb3 g3 H1 C3 hf
  go_wp2_with fail
  have T := set3_here (a0 := .slice ua vs.length uc) (a1 := .slice xa cs.length xc) (a2 := .string o) H3.out.2.1
  refine bodyPost_ret (res_store1 rfl _ _ w.heap.size _ _ _ rfl T) rfl ?_
  have e := set3_other w3 w.heap.size (.slice ua vs.length uc) (.slice xa cs.length xc) (.string o)
  exact ⟨ua, uc, xa, xc, vs, cs, o, rfl, (H3.out.2.2.1.keep (fun b h1 h2 => e b (by omega))).at, (H3.out.2.2.2.1.keep (fun b h1 h2 => e b (by omega))).at, H3.out.2.2.2.2.small, H3.out.1.trans (set3_below w3 w.heap.size w.heap.size _ _ _ (Nat.le_refl _))⟩
end Go.Proofs.Ytohhhhkhkgmanaa
