/- A drawn store, right or not: what stands while it is drawn. -/
import Derived.Test.YtohhhhkhkgmanaaDSt
import Derived.Test.YtohhhhkhkgmanaaZap
namespace Go.Proofs.Ytohhhhkhkgmanaa
open Go.RowKit

theorem own_ne {B : Nat} {w : World} {e : TypeId} {sz : Nat} {v : Value} {n : Nat} {cs : List Value} (h : w.ownsRow B e sz v n cs) {b : Nat} {arr : Array Value} {t : TypeId} {fr : Nat × Nat} (hb : w.heap[b]? = some (.cells arr t fr)) (ht : t ≠ e) : v.ownBlock ≠ some b := by
  intro eq
  rcases h.2 with ⟨rfl, _⟩ | ⟨g, cap, cur, rfl, h1, hg, _⟩
  · simp [Value.ownBlock] at eq
  · obtain rfl : g = b := by simpa [Value.ownBlock] using eq
    rw [hg] at hb
    simp at hb
    exact ht hb.2.1.symm
theorem own_ne2 {B B' : Nat} {w : World} {e e' : TypeId} {sz sz' : Nat} {v v' : Value} {n n' : Nat} {cs cs' : List Value} (h : w.ownsRow B e sz v n cs) (h' : w.ownsRow B' e' sz' v' n' cs') (ht : e' ≠ e) {b : Nat} (hb : v'.ownBlock = some b) : v.ownBlock ≠ some b := by
  rcases h'.2 with ⟨rfl, _⟩ | ⟨g, cap, cur, rfl, h1, hg, _⟩
  · simp [Value.ownBlock] at hb
  · obtain rfl : g = b := by simpa [Value.ownBlock] using hb
    exact own_ne h hg ht
/-- One Var more, at a step of a sentence that draws its order. -/
theorem VrRow.step1 {ops : Array Oper} {o : Oper} {a : Act} {K : Act → World → Prop} {Q : Exit → Act → World → Prop} {E : Prop} {B : Nat} {W : World} {v : Value} {xs : List Vr}
    (hown : VrRow B W v xs) (hgd : o.guard = none) (s x : Operand)
    (ho : o.op = .call { callee := .builtin .append, args := #[s, x], argTypes := #[24, 24] })
    (hs : a.eval s = v) (y : Vr) (q0 : Nat) (hq : W.heap[q0]? = some (.cells #[.string y.name, .string y.val] 35 (0, 0))) (hx : a.eval x = .slice (some ⟨q0, 0, none⟩) 1 1)
    (hlen : xs.length < 2000000) (hB : B ≤ W.heap.size)
    (h : ∀ q cap w', VrRow B w' (.slice (some ⟨q, 0, none⟩) (xs.length + 1) cap) (xs ++ [y]) → W.grownBy w' v.ownBlock → K (a.put o.dst (.slice (some ⟨q, 0, none⟩) (xs.length + 1) cap)) w') :
    if Region.wanted o (yielded ops a.tmps) = true then Oper.wp Try.prog o a W K Q else E := by
  obtain ⟨i0, hi, hy0, hy1, hy2⟩ := info_parts Try.infoVr
  refine step_append_lies _ hgd s x 24 ho B 35 i0 (.agg #[.string ByteArray.empty, .string ByteArray.empty]) 2 32 Try.underlying24 hi hy0 hy1 hy2 rfl (by decide) v xs.length (cellsVr xs) hs hown ⟨q0, 0, none⟩ 1 1 [.string y.name, .string y.val] hx rfl
    (World.news_of_block (cs := #[.string y.name, .string y.val]) hq) ?_ (by omega) ?_ ?_ hB W.heap.size rfl ?_
  · intro u hu
    simp at hu
    rcases hu with rfl | rfl <;> rfl
  · unfold maxLen; omega
  · omega
  · intro q cap w' h2 h3 _ _
    refine h q cap w' ?_ h3
    unfold VrRow cellsVr
    rw [List.flatMap_append, List.length_append]
    exact h2
/-- One Cell more, likewise. -/
theorem ClRow.step1 {ops : Array Oper} {o : Oper} {a : Act} {K : Act → World → Prop} {Q : Exit → Act → World → Prop} {E : Prop} {B : Nat} {W : World} {v : Value} {xs : List Cl}
    (hown : ClRow B W v xs) (hgd : o.guard = none) (s x : Operand)
    (ho : o.op = .call { callee := .builtin .append, args := #[s, x], argTypes := #[25, 25] })
    (hs : a.eval s = v) (y : Cl) (q0 : Nat) (hq : W.heap[q0]? = some (.cells #[.string y.name, .string y.key, .string y.val] 41 (0, 0))) (hx : a.eval x = .slice (some ⟨q0, 0, none⟩) 1 1)
    (hlen : xs.length < 2000000) (hB : B ≤ W.heap.size)
    (h : ∀ q cap w', ClRow B w' (.slice (some ⟨q, 0, none⟩) (xs.length + 1) cap) (xs ++ [y]) → W.grownBy w' v.ownBlock → K (a.put o.dst (.slice (some ⟨q, 0, none⟩) (xs.length + 1) cap)) w') :
    if Region.wanted o (yielded ops a.tmps) = true then Oper.wp Try.prog o a W K Q else E := by
  obtain ⟨i0, hi, hy0, hy1, hy2⟩ := info_parts Try.infoCl
  refine step_append_lies _ hgd s x 25 ho B 41 i0 (.agg #[.string ByteArray.empty, .string ByteArray.empty, .string ByteArray.empty]) 3 48 Try.underlying25 hi hy0 hy1 hy2 rfl (by decide) v xs.length (cellsCl xs) hs hown ⟨q0, 0, none⟩ 1 1 [.string y.name, .string y.key, .string y.val] hx rfl
    (World.news_of_block (cs := #[.string y.name, .string y.key, .string y.val]) hq) ?_ (by omega) ?_ ?_ hB W.heap.size rfl ?_
  · intro u hu
    simp at hu
    rcases hu with rfl | rfl | rfl <;> rfl
  · unfold maxLen; omega
  · omega
  · intro q cap w' h2 h3 _ _
    refine h q cap w' ?_ h3
    unfold ClRow cellsCl
    rw [List.flatMap_append, List.length_append]
    exact h2
/-- Few things, all of them short. -/
structure Fw (vs : List Vr) (cs : List Cl) (o : ByteArray) : Prop where
  nv : vs.length ≤ 80
  nc : cs.length ≤ 80
  no : o.size ≤ 4000
  sv : ∀ y ∈ vs, y.name.size ≤ 100 ∧ y.val.size ≤ 100
  sc : ∀ y ∈ cs, y.name.size ≤ 100 ∧ y.key.size ≤ 100 ∧ y.val.size ≤ 100
theorem Fw.small {vs : List Vr} {cs : List Cl} {o : ByteArray} (h : Fw vs cs o) : StSmall vs cs o := by
  refine ⟨by have := h.nv; omega, fun i hi => ?_, by have := h.nc; omega, fun i hi => ?_, by have := h.no; omega⟩
  · rw [show vs.getD i Vr.no = vs[i] by simp [hi]]
    have := h.sv vs[i] (List.getElem_mem hi)
    omega
  · rw [show cs.getD i Cl.no = cs[i] by simp [hi]]
    have := h.sc cs[i] (List.getElem_mem hi)
    omega
theorem Fw.addV {vs : List Vr} {cs : List Cl} {o : ByteArray} (h : Fw vs cs o) (y : Vr) (hn : vs.length < 80) (hy : y.name.size ≤ 100 ∧ y.val.size ≤ 100) : Fw (vs ++ [y]) cs o := by
  refine ⟨by simp; omega, h.nc, h.no, fun z hz => ?_, h.sc⟩
  simp only [List.mem_append, List.mem_singleton] at hz
  rcases hz with hz | rfl
  · exact h.sv z hz
  · exact hy
theorem Fw.addC {vs : List Vr} {cs : List Cl} {o : ByteArray} (h : Fw vs cs o) (y : Cl) (hn : cs.length < 80) (hy : y.name.size ≤ 100 ∧ y.key.size ≤ 100 ∧ y.val.size ≤ 100) : Fw vs (cs ++ [y]) o := by
  refine ⟨h.nv, by simp; omega, h.no, h.sv, fun z hz => ?_⟩
  simp only [List.mem_append, List.mem_singleton] at hz
  rcases hz with hz | rfl
  · exact h.sc z hz
  · exact hy
theorem Dw.few {vs : List Vr} {cs : List Cl} {o : ByteArray} (h : Dw 8 vs cs o) : Fw vs cs o := by
  refine ⟨by have := h.v; omega, by have := h.c; omega, by have := h.rt.out; omega, fun y hy => ?_, fun y hy => ?_⟩
  · obtain ⟨h1, h2⟩ := h.rt.goodV y hy
    have := St.nm_size h1
    omega
  · obtain ⟨h1, h2, h3⟩ := h.rt.goodC y hy
    have := St.nm_size h1
    omega
/-- What stands while a store, right or not, is drawn: its box bs, its rows, the cursor. -/
structure LA (w : World) (B g n cap bs : Nat) (ad : Option Addr) (wr : World) (u x : Value) (vs : List Vr) (cs : List Cl) (o : ByteArray) : Prop where
  low : B ≤ w.heap.size
  res : wr.heap[w.heap.size]? = some (.cells #[.slice none 0 0, .slice none 0 0, .string ByteArray.empty] 27 (0, 0))
  bsl : w.heap.size < bs
  blk : wr.heap[bs]? = some (.cells #[u, x, .string o] 27 (0, 0))
  vi : VrRow w.heap.size wr u vs
  ci : ClRow w.heap.size wr x cs
  fw : Fw vs cs o
  dr : Drw B wr g ad n cap
  gr : w.grownBy wr (some g)
section
variable {w wr : World} {B g n cap bs : Nat} {ad : Option Addr} {u x : Value} {vs : List Vr} {cs : List Cl} {o : ByteArray}
theorem LA.sz (h : LA w B g n cap bs ad wr u x vs cs o) : w.heap.size + 1 ≤ wr.heap.size := blk_lt h.res
theorem LA.le (h : LA w B g n cap bs ad wr u x vs cs o) : B ≤ wr.heap.size := by have := h.sz; have := h.low; omega
theorem LA.cells (h : LA w B g n cap bs ad wr u x vs cs o) : wr.cell? ⟨bs, 0, none⟩ = some u ∧ wr.cell? ⟨bs, 1, none⟩ = some x ∧ wr.cell? ⟨bs, 2, none⟩ = some (.string o) :=
  ⟨(blk_cell h.blk 0).trans rfl, (blk_cell h.blk 1).trans rfl, (blk_cell h.blk 2).trans rfl⟩
theorem LA.over (h : LA w B g n cap bs ad wr u x vs cs o) : wr.cell? ⟨bs, 0, none⟩ = some u ∧ wr.cell? ⟨bs, 1, none⟩ = some x ∧ wr.cell? ⟨bs, 2, none⟩ = some (.string o) ∧ wr.frozen? ⟨bs, 0, none⟩ = false ∧ wr.frozen? ⟨bs, 1, none⟩ = false ∧ wr.frozen? ⟨bs, 2, none⟩ = false :=
  ⟨h.cells.1, h.cells.2.1, h.cells.2.2, blk_free h.blk 0, blk_free h.blk 1, blk_free h.blk 2⟩
theorem LA.draw (h : LA w B g n cap bs ad wr u x vs cs o) {w1 : World} (hd : Drw B w1 g ad n cap) (hg : wr.grownBy w1 (some g)) : LA w B g n cap bs ad w1 u x vs cs o := by
  have hs := h.sz
  have hl := h.low
  have hgB := h.dr.low
  have hbl := blk_lt h.blk
  have hbs := h.bsl
  have e : ∀ b, w.heap.size ≤ b → b < wr.heap.size → w1.heap[b]? = wr.heap[b]? := fun b h1 h2 => hg.block b h2 (fun e => by have hbg : b = g := Option.some.inj e; omega)
  exact ⟨hl, (e _ (Nat.le_refl _) (by omega)).trans h.res, hbs, (e _ (by omega) hbl).trans h.blk, rowKeep h.vi (fun q hq => e q (World.ownsRow.lt h.vi q hq).1 (World.ownsRow.lt h.vi q hq).2), rowKeep h.ci (fun q hq => e q (World.ownsRow.lt h.ci q hq).1 (World.ownsRow.lt h.ci q hq).2), h.fw, hd, grown_trans h.gr hg⟩
theorem LA.drew (h : LA w B g n cap bs ad wr u x vs cs o) : LA w B g n cap bs ad wr.drew u x vs cs o := h.draw (h.dr.keep (Below.refl _ _).drew) ⟨rfl, rfl, rfl, Nat.le_refl _, fun _ _ _ => rfl⟩
theorem LA.up (h : LA w B g n cap bs ad wr u x vs cs o) {w1 : World} (hb : Below wr.heap.size wr w1) : LA w B g n cap bs ad w1 u x vs cs o := h.draw (h.dr.keep (hb.mono h.le)) ⟨hb.os, hb.tape, hb.output, hb.size, fun b hb2 _ => hb.block b hb2⟩
theorem LA.alloc (h : LA w B g n cap bs ad wr u x vs cs o) (ob : Obj) : LA w B g n cap bs ad (wr.alloc ob) u x vs cs o := h.draw (h.dr.keep ((Below.refl _ _).alloc h.le _)) (World.grownBy_alloc wr ob _)
/-- A row of its own has grown, and is set in the box. -/
theorem LA.put (h : LA w B g n cap bs ad wr u x vs cs o) {w2 : World} {r : Option Nat} {k : Nat} {z u2 x2 : Value} {vs2 : List Vr} {cs2 : List Cl} {o2 : ByteArray} (hg : wr.grownBy w2 r) (hr : ∀ b, r = some b → w.heap.size < b ∧ b ≠ bs)
    (hv : VrRow w.heap.size w2 u2 vs2) (hc : ClRow w.heap.size w2 x2 cs2) (hf : Fw vs2 cs2 o2) (hz : (#[u, x, .string o] : Array Value).setIfInBounds k z = #[u2, x2, .string o2]) :
    LA w B g n cap bs ad (w2.setCell ⟨bs, k, none⟩ z) u2 x2 vs2 cs2 o2 := by
  have hs := h.sz
  have hl := h.low
  have hgB := h.dr.low
  have hbl := blk_lt h.blk
  have hbs := h.bsl
  have e : ∀ b, b < wr.heap.size → r ≠ some b → w2.heap[b]? = wr.heap[b]? := fun b h2 h3 => hg.block b h2 (fun e => h3 e.symm)
  have e2 : ∀ b, b ≠ bs → (w2.setCell ⟨bs, k, none⟩ z).heap[b]? = w2.heap[b]? := fun b hb => Below.heap_setCell _ _ _ _ (by show b ≠ bs; exact hb)
  have hb2 : w2.heap[bs]? = some (.cells #[u, x, .string o] 27 (0, 0)) := (e bs hbl (fun er => (hr bs er).2 rfl)).trans h.blk
  have hres : w2.heap[w.heap.size]? = some (.cells #[.slice none 0 0, .slice none 0 0, .string ByteArray.empty] 27 (0, 0)) := (e _ (by omega) (fun er => by have := (hr _ er).1; omega)).trans h.res
  have hB : Below w.heap.size wr (w2.setCell ⟨bs, k, none⟩ z) := ⟨hg.os, hg.tape, hg.output, by simpa [World.setCell] using hg.size, fun b hb => (e2 b (by omega)).trans (e b (by omega) (fun er => by have := (hr _ er).1; omega))⟩
  refine ⟨hl, (e2 _ (by omega)).trans hres, hbs, ?_, rowKeep hv (fun q hq => e2 q (fun er => own_ne hv hb2 (by decide) (er ▸ hq))), rowKeep hc (fun q hq => e2 q (fun er => own_ne hc hb2 (by decide) (er ▸ hq))), hf, h.dr.keep (hB.mono hl), ?_⟩
  · have := blk_set hb2 k z
    rw [hz] at this
    exact this
  · exact ⟨hB.os.trans h.gr.os, hB.tape.trans h.gr.tape, hB.output.trans h.gr.output, Nat.le_trans h.gr.size hB.size, fun b hb hne => (hB.block b hb).trans (h.gr.block b hb hne)⟩
theorem LA.rowV (h : LA w B g n cap bs ad wr u x vs cs o) (b : Nat) (e : u.ownBlock = some b) : w.heap.size < b ∧ b ≠ bs := by
  have h1 := (World.ownsRow.lt h.vi b e).1
  have h2 : b ≠ w.heap.size := fun er => own_ne h.vi h.res (by decide) (er ▸ e)
  exact ⟨by omega, fun er => own_ne h.vi h.blk (by decide) (er ▸ e)⟩
theorem LA.rowC (h : LA w B g n cap bs ad wr u x vs cs o) (b : Nat) (e : x.ownBlock = some b) : w.heap.size < b ∧ b ≠ bs := by
  have h1 := (World.ownsRow.lt h.ci b e).1
  have h2 : b ≠ w.heap.size := fun er => own_ne h.ci h.res (by decide) (er ▸ e)
  exact ⟨by omega, fun er => own_ne h.ci h.blk (by decide) (er ▸ e)⟩
theorem LA.growV (h : LA w B g n cap bs ad wr u x vs cs o) {w2 : World} {u2 : Value} {y : Vr} (hp : VrRow w.heap.size w2 u2 (vs ++ [y])) (hg : wr.grownBy w2 u.ownBlock) (hn : vs.length < 80) (hy : y.name.size ≤ 100 ∧ y.val.size ≤ 100) :
    LA w B g n cap bs ad (w2.setCell ⟨bs, 0, none⟩ u2) u2 x (vs ++ [y]) cs o :=
  h.put hg h.rowV hp (rowKeep h.ci (fun q hq => hg.block q (World.ownsRow.lt h.ci q hq).2 (fun e => own_ne2 h.vi h.ci (by decide) hq e.symm))) (h.fw.addV y hn hy) rfl
theorem LA.growC (h : LA w B g n cap bs ad wr u x vs cs o) {w2 : World} {x2 : Value} {y : Cl} (hp : ClRow w.heap.size w2 x2 (cs ++ [y])) (hg : wr.grownBy w2 x.ownBlock) (hn : cs.length < 80) (hy : y.name.size ≤ 100 ∧ y.key.size ≤ 100 ∧ y.val.size ≤ 100) :
    LA w B g n cap bs ad (w2.setCell ⟨bs, 1, none⟩ x2) u x2 vs (cs ++ [y]) o :=
  h.put hg h.rowC (rowKeep h.vi (fun q hq => hg.block q (World.ownsRow.lt h.vi q hq).2 (fun e => own_ne2 h.ci h.vi (by decide) hq e.symm))) hp (h.fw.addC y hn hy) rfl
theorem LA.setO (h : LA w B g n cap bs ad wr u x vs cs o) {w2 : World} (hb : Below wr.heap.size wr w2) {o2 : ByteArray} (ho : o2.size ≤ 4000) : LA w B g n cap bs ad (w2.setCell ⟨bs, 2, none⟩ (.string o2)) u x vs cs o2 :=
  (h.up hb).put (r := none) ⟨rfl, rfl, rfl, Nat.le_refl _, fun _ _ _ => rfl⟩ (fun b e => by cases e) (h.up hb).vi (h.up hb).ci ⟨h.fw.nv, h.fw.nc, ho, h.fw.sv, h.fw.sc⟩ rfl
/-- The box as it is after a row has grown, before it is set. -/
theorem LA.still (h : LA w B g n cap bs ad wr u x vs cs o) {w2 : World} {r : Option Nat} (hg : wr.grownBy w2 r) (hr : r ≠ some bs) : w2.cell? ⟨bs, 0, none⟩ = some u ∧ w2.cell? ⟨bs, 1, none⟩ = some x ∧ w2.cell? ⟨bs, 2, none⟩ = some (.string o) ∧ w2.frozen? ⟨bs, 0, none⟩ = false ∧ w2.frozen? ⟨bs, 1, none⟩ = false ∧ w2.frozen? ⟨bs, 2, none⟩ = false := by
  have hb2 := (hg.block bs (blk_lt h.blk) (fun e => hr e.symm)).trans h.blk
  exact ⟨(blk_cell hb2 0).trans rfl, (blk_cell hb2 1).trans rfl, (blk_cell hb2 2).trans rfl, blk_free hb2 0, blk_free hb2 1, blk_free hb2 2⟩
end
end Go.Proofs.Ytohhhhkhkgmanaa
