/- The law's stores, each in a block of its own: what of them is as it was. Rows of tasks in blocks of their own. -/
import Derived.Test.YthnmopldpgdenaaMPTcZar
import Derived.Test.YthnmopldpgdenaaMPTcZan
namespace Go.Proofs.Ythnmopldpgdenaa
section PartRwF
open Go.RowKit

/-- A store's three cells in block b. -/
def Bx (W : World) (b : Nat) (t : TypeId) (u x : Value) (o : ByteArray) : Prop := W.heap[b]? = some (.cells #[u, x, .string o] t (0, 0))
theorem Bx.c0 {W : World} {b : Nat} {t : TypeId} {u x : Value} {o : ByteArray} (h : Bx W b t u x o) : W.cell? ⟨b, 0, none⟩ = some u := (blk_cell h 0).trans rfl
theorem Bx.c1 {W : World} {b : Nat} {t : TypeId} {u x : Value} {o : ByteArray} (h : Bx W b t u x o) : W.cell? ⟨b, 1, none⟩ = some x := (blk_cell h 1).trans rfl
theorem Bx.c2 {W : World} {b : Nat} {t : TypeId} {u x : Value} {o : ByteArray} (h : Bx W b t u x o) : W.cell? ⟨b, 2, none⟩ = some (.string o) := (blk_cell h 2).trans rfl
/-- A store: its cells in block b, its rows in blocks of lo .. hi. -/
structure Sto (lo hi b : Nat) (W : World) (u x : Value) (o : ByteArray) (vs : List Vr) (cs : List Cl) : Prop where
  bx : Bx W b 40 u x o
  vr : VrIn lo hi W u vs
  cl : ClIn lo hi W x cs
  le : hi ≤ b
theorem Sto.keep {lo hi b : Nat} {W W' : World} {u x : Value} {o : ByteArray} {vs : List Vr} {cs : List Cl} (h : Sto lo hi b W u x o vs cs) (hk : ∀ k, k < W.heap.size → lo ≤ k → k ≤ b → W'.heap[k]? = W.heap[k]?) (hlo : lo ≤ b) : Sto lo hi b W' u x o vs cs := by
  have hb : b < W.heap.size := blk_lt h.bx
  have := h.le
  exact ⟨(hk b hb hlo (Nat.le_refl _)).trans h.bx, h.vr.keep (fun k h1 h2 => hk k (by omega) h1 (by omega)), h.cl.keep (fun k h1 h2 => hk k (by omega) h1 (by omega)), h.le⟩
theorem toStoreIn (v rv : Value) (o : ByteArray) (vs : List Vr) (cs : List Cl) (w : World) (h : VrAt w v vs) (hr : ClAt w rv cs) (hk : vs.length ≤ 1048576) (hkr : cs.length ≤ 1048576) :
    Calls Try.prog 18 #[.agg #[v, rv, .string o]] w fun e w' => ∃ ua uc xa xc, e = .returned (.agg #[.slice ua vs.length uc, .slice xa cs.length xc, .string o]) ∧ StIn w.heap.size w'.heap.size w' (.slice ua vs.length uc) (.slice xa cs.length xc) vs cs ∧ Below w.heap.size w w' := by
  refine (toStore_any v rv o vs cs w h hr hk hkr).mono ?_
  rintro e w' ⟨u, rfl, hb, g, g', rfl, h1, h2, h3, hv, hc⟩
  have l2 := blk_lt hc.1.choose_spec.1
  exact ⟨_, _, _, _, rfl, ⟨g', h2, by omega, hv.in h1 h3 _, hc.in (Nat.le_refl _) l2 _⟩, hb⟩
theorem StIn.vr {lo hi : Nat} {w : World} {u x : Value} {vs : List Vr} {cs : List Cl} (h : StIn lo hi w u x vs cs) : VrIn lo hi w u vs := by
  obtain ⟨mid, h1, h2, h3, h4⟩ := h
  exact h3.wide (Nat.le_refl _) h2
theorem StIn.cl {lo hi : Nat} {w : World} {u x : Value} {vs : List Vr} {cs : List Cl} (h : StIn lo hi w u x vs cs) : ClIn lo hi w x cs := by
  obtain ⟨mid, h1, h2, h3, h4⟩ := h
  exact h4.wide h1 (Nat.le_refl _)
/-- The law's three stores: what is wanted (0), what is handed in (X), what is answered (G). -/
structure L3 (W0 W : World) (lo0 b0 loX bX loG bG : Nat) (U0 X0 UX XX UG XG : Value) (o O : ByteArray) (vs : List Vr) (cs : List Cl) (vx : List Vr) (cx : List Cl) (vg : List Vr) (cg : List Cl) : Prop where
  env : Below W0.heap.size W0 W
  s0 : Sto lo0 b0 b0 W U0 X0 O vs cs
  xb : Bx W bX 40 UX XX o
  xi : StIn loX bX W UX XX vx cx
  gb : Bx W bG 40 UG XG O
  gi : StIn loG bG W UG XG vg cg
  ord : W0.heap.size ≤ lo0 ∧ lo0 ≤ b0 ∧ b0 < loX ∧ loX ≤ bX ∧ bX < loG ∧ loG ≤ bG ∧ bG < W.heap.size
section
variable {W0 W W' : World} {lo0 b0 loX bX loG bG : Nat} {U0 X0 UX XX UG XG : Value} {o O : ByteArray} {vs : List Vr} {cs : List Cl} {vx : List Vr} {cx : List Cl} {vg : List Vr} {cg : List Cl}
end
end PartRwF
section PartKdC
open Go.RowKit

/-- A task with its rows, which lie in blocks from a on, below d. -/
structure Te where
  t : Tk
  l : Value
  u : Value
  x : Value
  a : Nat
  d : Nat
def Te.no : Te := ⟨Tk.no, .slice none 0 0, .slice none 0 0, .slice none 0 0, 0, 0⟩
instance : Inhabited Te := ⟨Te.no⟩
def Te.cells (e : Te) : List Value := [e.l, .int .i64 e.t.try_, .int .i64 e.t.till, .bool e.t.done, e.u, e.x, .string e.t.o]
def Te.Ok (w : World) (e : Te) : Prop := ∃ b, e.a ≤ b ∧ b ≤ e.d ∧ TxIn e.a b w e.l e.t.ls ∧ StIn b e.d w e.u e.x e.t.vs e.t.cs
theorem Te.Ok.keep {w w' : World} {e : Te} (h : e.Ok w) (hk : ∀ q, e.a ≤ q → q < e.d → w'.heap[q]? = w.heap[q]?) : e.Ok w' := by
  obtain ⟨b, h1, h2, h3, h4⟩ := h
  exact ⟨b, h1, h2, h3.keep (fun q g1 g2 => hk q g1 (by omega)), h4.keep (fun q g1 g2 => hk q (by omega) g2)⟩
theorem Te.Ok.le {w : World} {e : Te} (h : e.Ok w) : e.a ≤ e.d := by
  obtain ⟨b, h1, h2, -⟩ := h
  omega
theorem Te.Ok.rows {w : World} {e : Te} (h : e.Ok w) : Tk.Rows w e.l e.u e.x e.t := by
  obtain ⟨b, -, -, h3, mid, -, -, h5, h6⟩ := h
  exact ⟨h3.at, h5.at, h6.at⟩
/-- Seven cells of an array. -/
def Sev (arr : Array Value) (o : Nat) (e : Te) : Prop := arr[o]? = some e.l ∧ arr[o + 1]? = some (.int .i64 e.t.try_) ∧ arr[o + 2]? = some (.int .i64 e.t.till) ∧ arr[o + 3]? = some (.bool e.t.done) ∧ arr[o + 4]? = some e.u ∧ arr[o + 5]? = some e.x ∧ arr[o + 6]? = some (.string e.t.o)
/-- The tasks e 0 .. stand in block g, of N that may be there; their rows lie in blocks of lo .. hi, each behind that of the ones ahead of it. -/
structure KsB (lo hi : Nat) (w : World) (g n N : Nat) (e : Nat → Te) : Prop where
  blk : ∃ arr : Array Value, w.heap[g]? = some (.cells arr 76 (0, 0)) ∧ N * 7 ≤ arr.size ∧ ∀ i, i < n → Sev arr (i * 7) (e i)
  each : ∀ i, i < n → (e i).Ok w
  inn : ∀ i, i < n → lo ≤ (e i).a ∧ (e i).d ≤ hi
  ord : ∀ i j, i < j → j < n → (e i).d ≤ (e j).a
  far : ∀ i, i < n → g < (e i).a ∨ (e i).d ≤ g
theorem KsB.keepIf {lo hi : Nat} {w w' : World} {g n N : Nat} {e : Nat → Te} (h : KsB lo hi w g n N e) (hg : w'.heap[g]? = w.heap[g]?) (hk : ∀ q, lo ≤ q → q < hi → w'.heap[q]? = w.heap[q]?) : KsB lo hi w' g n N e := by
  refine ⟨?_, fun i hi => (h.each i hi).keep (fun q h1 h2 => hk q (by have := h.inn i hi; omega) (by have := h.inn i hi; omega)), h.inn, h.ord, h.far⟩
  obtain ⟨arr, ha, h2⟩ := h.blk
  exact ⟨arr, hg.trans ha, h2⟩
theorem KsB.wide {lo hi lo' hi' : Nat} {w : World} {g n N : Nat} {e : Nat → Te} (h : KsB lo hi w g n N e) (h1 : lo' ≤ lo) (h2 : hi ≤ hi') : KsB lo' hi' w g n N e :=
  ⟨h.blk, h.each, fun i hi => by have := h.inn i hi; omega, h.ord, h.far⟩
theorem KsB.tkc {lo hi : Nat} {w : World} {g n N : Nat} {e : Nat → Te} (h : KsB lo hi w g n N e) (i : Nat) (hi : i < n) : TkC w g (i * 7) (e i).l (e i).u (e i).x (e i).t := by
  obtain ⟨arr, ha, -, h2⟩ := h.blk
  obtain ⟨c0, c1, c2, c3, c4, c5, c6⟩ := h2 i hi
  exact ⟨(blk_cell ha _).trans c0, (blk_cell ha _).trans c1, (blk_cell ha _).trans c2, (blk_cell ha _).trans c3, (blk_cell ha _).trans c4, (blk_cell ha _).trans c5, (blk_cell ha _).trans c6⟩
/-- A row of n tasks in memory of lo .. hi. -/
def KsO (lo hi : Nat) (w : World) (v : Value) (n : Nat) (e : Nat → Te) : Prop := ∃ ad c, v = .slice ad n c ∧ (0 < n → ∃ g, ad = some ⟨g, 0, none⟩ ∧ lo ≤ g ∧ g < hi ∧ KsB lo hi w g n n e)
theorem KsO.keep {lo hi : Nat} {w w' : World} {v : Value} {n : Nat} {e : Nat → Te} (h : KsO lo hi w v n e) (hk : ∀ q, lo ≤ q → q < hi → w'.heap[q]? = w.heap[q]?) : KsO lo hi w' v n e := by
  obtain ⟨ad, c, rfl, f⟩ := h
  refine ⟨ad, c, rfl, fun h0 => ?_⟩
  obtain ⟨g, rfl, h1, h2, h3⟩ := f h0
  exact ⟨g, rfl, h1, h2, h3.keepIf (hk g h1 h2) hk⟩
theorem KsO.wide {lo hi lo' hi' : Nat} {w : World} {v : Value} {n : Nat} {e : Nat → Te} (h : KsO lo hi w v n e) (h1 : lo' ≤ lo) (h2 : hi ≤ hi') : KsO lo' hi' w v n e := by
  obtain ⟨ad, c, rfl, f⟩ := h
  refine ⟨ad, c, rfl, fun h0 => ?_⟩
  obtain ⟨g, rfl, e1, e2, h3⟩ := f h0
  exact ⟨g, rfl, by omega, by omega, h3.wide h1 h2⟩
/-- The tasks e 0 .. are ks. -/
def Same (ks : List Tk) (n : Nat) (e : Nat → Te) : Prop := n = ks.length ∧ ∀ i, i < n → (e i).t = ks.getD i Tk.no
theorem KsO.at {lo hi : Nat} {w : World} {v : Value} {n : Nat} {e : Nat → Te} {ks : List Tk} (h : KsO lo hi w v n e) (hs : Same ks n e) : KsAt w v ks := by
  obtain ⟨ad, c, rfl, f⟩ := h
  obtain ⟨rfl, hs⟩ := hs
  refine ⟨ad, c, rfl, fun h0 => ?_⟩
  obtain ⟨g, rfl, h1, h2, h3⟩ := f h0
  obtain ⟨arr, ha, -⟩ := h3.blk
  refine ⟨g, 0, rfl, blk_lt ha, fun i hi => ⟨(e i).l, (e i).u, (e i).x, ?_, ?_⟩⟩
  · rw [Nat.zero_add, ← hs i hi]
    exact h3.tkc i hi
  · rw [← hs i hi]
    exact (h3.each i hi).rows

theorem set1 {w : World} {g : Nat} {arr : Array Value} {t : TypeId} (h : w.heap[g]? = some (.cells arr t (0, 0))) (o : Nat) (v : Value) (ho : o < arr.size) :
    ∃ arr' : Array Value, (w.setCell ⟨g, o, none⟩ v).heap[g]? = some (.cells arr' t (0, 0)) ∧ arr'.size = arr.size ∧ arr'[o]? = some v ∧ ∀ m, m ≠ o → arr'[m]? = arr[m]? := by
  refine ⟨_, blk_set h o v, by simp, ?_, fun m hm => ?_⟩
  · rw [Array.getElem?_setIfInBounds, if_pos rfl, if_pos ho]
  · rw [Array.getElem?_setIfInBounds, if_neg (by omega)]
/-- Seven cells are stored. -/
def set7 (w : World) (g o : Nat) (e : Te) : World := ((((((w.setCell ⟨g, o, none⟩ e.l).setCell ⟨g, o + 1, none⟩ (.int .i64 e.t.try_)).setCell ⟨g, o + 2, none⟩ (.int .i64 e.t.till)).setCell ⟨g, o + 3, none⟩ (.bool e.t.done)).setCell ⟨g, o + 4, none⟩ e.u).setCell ⟨g, o + 5, none⟩ e.x).setCell ⟨g, o + 6, none⟩ (.string e.t.o)
theorem set7_far (w : World) (g o : Nat) (e : Te) (q : Nat) (hq : q ≠ g) : (set7 w g o e).heap[q]? = w.heap[q]? := by
  unfold set7
  rw [Below.heap_setCell _ _ _ _ hq, Below.heap_setCell _ _ _ _ hq, Below.heap_setCell _ _ _ _ hq, Below.heap_setCell _ _ _ _ hq, Below.heap_setCell _ _ _ _ hq, Below.heap_setCell _ _ _ _ hq, Below.heap_setCell _ _ _ _ hq]
theorem set7_size (w : World) (g o : Nat) (e : Te) : (set7 w g o e).heap.size = w.heap.size := by simp [set7, World.setCell]
theorem set7_below {B : Nat} {w W : World} {g : Nat} (h : Below B w W) (hg : B ≤ g) (o : Nat) (e : Te) : Below B w (set7 W g o e) :=
  ((((((h.setCell hg _).setCell hg _).setCell hg _).setCell hg _).setCell hg _).setCell hg _).setCell hg _
theorem set7_blk {w : World} {g : Nat} {arr : Array Value} {t : TypeId} (h : w.heap[g]? = some (.cells arr t (0, 0))) (o : Nat) (e : Te) (ho : o + 7 ≤ arr.size) :
    ∃ arr' : Array Value, (set7 w g o e).heap[g]? = some (.cells arr' t (0, 0)) ∧ arr'.size = arr.size ∧ Sev arr' o e ∧ ∀ m, (m < o ∨ o + 7 ≤ m) → arr'[m]? = arr[m]? := by
  obtain ⟨a0, h0, s0, v0, f0⟩ := set1 h o e.l (by omega)
  obtain ⟨a1, h1, s1, v1, f1⟩ := set1 h0 (o + 1) (.int .i64 e.t.try_) (by omega)
  obtain ⟨a2, h2, s2, v2, f2⟩ := set1 h1 (o + 2) (.int .i64 e.t.till) (by omega)
  obtain ⟨a3, h3, s3, v3, f3⟩ := set1 h2 (o + 3) (.bool e.t.done) (by omega)
  obtain ⟨a4, h4, s4, v4, f4⟩ := set1 h3 (o + 4) e.u (by omega)
  obtain ⟨a5, h5, s5, v5, f5⟩ := set1 h4 (o + 5) e.x (by omega)
  obtain ⟨a6, h6, s6, v6, f6⟩ := set1 h5 (o + 6) (.string e.t.o) (by omega)
  refine ⟨a6, h6, by omega, ⟨?_, ?_, ?_, ?_, ?_, ?_, v6⟩, fun m hm => ?_⟩
  · rw [f6 _ (by omega), f5 _ (by omega), f4 _ (by omega), f3 _ (by omega), f2 _ (by omega), f1 _ (by omega), v0]
  · rw [f6 _ (by omega), f5 _ (by omega), f4 _ (by omega), f3 _ (by omega), f2 _ (by omega), v1]
  · rw [f6 _ (by omega), f5 _ (by omega), f4 _ (by omega), f3 _ (by omega), v2]
  · rw [f6 _ (by omega), f5 _ (by omega), f4 _ (by omega), v3]
  · rw [f6 _ (by omega), f5 _ (by omega), v4]
  · rw [f6 _ (by omega), v5]
  · rw [f6 _ (by omega), f5 _ (by omega), f4 _ (by omega), f3 _ (by omega), f2 _ (by omega), f1 _ (by omega), f0 _ (by omega)]
theorem KsB.empty (lo hi : Nat) {w : World} {g N : Nat} {arr : Array Value} (h : w.heap[g]? = some (.cells arr 76 (0, 0))) (hs : N * 7 ≤ arr.size) (e : Nat → Te) : KsB lo hi w g 0 N e :=
  ⟨⟨arr, h, hs, fun i hi => by omega⟩, fun i hi => by omega, fun i hi => by omega, fun i j _ hj => by omega, fun i hi => by omega⟩
theorem KsB.more {lo hi : Nat} {w w1 : World} {g k N : Nat} {e : Nat → Te} (h : KsB lo hi w g k N e) (hk : k < N) (hlo : lo ≤ hi) (hgl : g < lo) (hhi : hi ≤ w.heap.size) (hb : Below w.heap.size w w1) (x : Te) (hx : x.Ok w1) (h1 : w.heap.size ≤ x.a) (h2 : x.d ≤ w1.heap.size) :
    KsB lo w1.heap.size (set7 w1 g (k * 7) x) g (k + 1) N (fun i => if i = k then x else e i) := by
  have hs := hb.size
  have hgw : g < w.heap.size := by omega
  obtain ⟨arr, ha, hz, hc⟩ := h.blk
  obtain ⟨arr', ha', hz', hv, hf⟩ := set7_blk ((hb.block g hgw).trans ha) (k * 7) x (by omega)
  refine ⟨⟨arr', ha', by omega, fun i hi => ?_⟩, fun i hi => ?_, fun i hi => ?_, fun i j hij hj => ?_, fun i hi => ?_⟩
  · by_cases e : i = k
    · subst e
      rw [if_pos rfl]
      exact hv
    · rw [if_neg e]
      obtain ⟨c0, c1, c2, c3, c4, c5, c6⟩ := hc i (by omega)
      exact ⟨(hf _ (by omega)).trans c0, (hf _ (by omega)).trans c1, (hf _ (by omega)).trans c2, (hf _ (by omega)).trans c3, (hf _ (by omega)).trans c4, (hf _ (by omega)).trans c5, (hf _ (by omega)).trans c6⟩
  · have hle := hx.le
    by_cases e : i = k
    · subst e
      rw [if_pos rfl]
      exact hx.keep (fun q q1 q2 => set7_far _ _ _ _ _ (by omega))
    · rw [if_neg e]
      have ht := h.inn i (by omega)
      exact (h.each i (by omega)).keep (fun q q1 q2 => (set7_far _ _ _ _ _ (by omega)).trans (hb.block q (by omega)))
  · by_cases e : i = k
    · subst e
      rw [if_pos rfl]
      omega
    · rw [if_neg e]
      have ht := h.inn i (by omega)
      omega
  · rw [if_neg (show ¬ i = k by omega)]
    have ht := h.inn i (by omega)
    by_cases e : j = k
    · rw [if_pos e]; omega
    · rw [if_neg e]; exact h.ord i j hij (by omega)
  · by_cases e : i = k
    · rw [if_pos e]; omega
    · rw [if_neg e]
      exact h.far i (by omega)

theorem Try.infoTk : (Try.prog.info? 76).map (fun i => (i.zero, i.size, i.bytes)) = some (some (.agg #[.slice none 0 0, .int .i64 0, .int .i64 0, .bool false, .slice none 0 0, .slice none 0 0, .string ByteArray.empty]), 7, 112) := by kernel_rfl
theorem makeTk_run (n m : Nat) (hm : m ≤ n) (h : n ≤ 10000000) : ∃ M : Array Value, M.size = n * 7 ∧ ∀ W : World, (Instr.makeSlice 41 (.int .i64 (m : Int)) (.int .i64 (n : Int))).run Try.prog W = .ok (.slice (some ⟨W.heap.size, 0, none⟩) m n) (W.alloc (.cells M 76)) := by
  obtain ⟨i0, hi, hz0, hz1, hz2⟩ := info_parts Try.infoTk
  refine ⟨madeCells (Value.agg #[.slice none 0 0, .int .i64 0, .int .i64 0, .bool false, .slice none 0 0, .slice none 0 0, .string ByteArray.empty]).cells (((n : Nat) : Int).toNat * i0.size), ?_, fun W => ?_⟩
  · rw [size_madeCells, hz1]; simp
  · have h := run_make (P := Try.prog) W 41 76 i0 _ Try.underlying41 hi hz0 .i64 .i64 (m : Int) (n : Int) (by omega) (by omega) (by rw [hz2]; omega) (by omega)
    simpa using h
end PartKdC
end Go.Proofs.Ythnmopldpgdenaa
