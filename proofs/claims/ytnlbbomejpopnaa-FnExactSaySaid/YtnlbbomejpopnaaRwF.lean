/- The law's stores, each in a block of its own: what of them is as it was. -/
import Derived.Test.YtnlbbomejpopnaaRwB
import Derived.Test.YtnlbbomejpopnaaRwD
namespace Go.Proofs.Ytnlbbomejpopnaa
open Go.RowKit

/-- A store's three cells in block b. -/
def Bx (W : World) (b : Nat) (t : TypeId) (u x : Value) (o : ByteArray) : Prop := W.heap[b]? = some (.cells #[u, x, .string o] t (0, 0))
theorem Bx.c0 {W : World} {b : Nat} {t : TypeId} {u x : Value} {o : ByteArray} (h : Bx W b t u x o) : W.cell? ⟨b, 0, none⟩ = some u := (blk_cell h 0).trans rfl
theorem Bx.c1 {W : World} {b : Nat} {t : TypeId} {u x : Value} {o : ByteArray} (h : Bx W b t u x o) : W.cell? ⟨b, 1, none⟩ = some x := (blk_cell h 1).trans rfl
theorem Bx.c2 {W : World} {b : Nat} {t : TypeId} {u x : Value} {o : ByteArray} (h : Bx W b t u x o) : W.cell? ⟨b, 2, none⟩ = some (.string o) := (blk_cell h 2).trans rfl
/-- A store: its cells in block b, its rows in blocks of lo .. hi. -/
structure Sto (lo hi b : Nat) (W : World) (u x : Value) (o : ByteArray) (vs : List Vr) (cs : List Cl) : Prop where
  bx : Bx W b 27 u x o
  vr : VrIn lo hi W u vs
  cl : ClIn lo hi W x cs
  le : hi ≤ b
theorem Sto.keep {lo hi b : Nat} {W W' : World} {u x : Value} {o : ByteArray} {vs : List Vr} {cs : List Cl} (h : Sto lo hi b W u x o vs cs) (hk : ∀ k, k < W.heap.size → lo ≤ k → k ≤ b → W'.heap[k]? = W.heap[k]?) (hlo : lo ≤ b) : Sto lo hi b W' u x o vs cs := by
  have hb : b < W.heap.size := blk_lt h.bx
  have := h.le
  exact ⟨(hk b hb hlo (Nat.le_refl _)).trans h.bx, h.vr.keep (fun k h1 h2 => hk k (by omega) h1 (by omega)), h.cl.keep (fun k h1 h2 => hk k (by omega) h1 (by omega)), h.le⟩
theorem Sto.below {lo hi b : Nat} {W W' : World} {u x : Value} {o : ByteArray} {vs : List Vr} {cs : List Cl} (h : Sto lo hi b W u x o vs cs) (hb : Below W.heap.size W W') (hlo : lo ≤ b) : Sto lo hi b W' u x o vs cs :=
  h.keep (fun k hk _ _ => hb.block k hk) hlo
theorem toStoreIn (v rv : Value) (o : ByteArray) (vs : List Vr) (cs : List Cl) (w : World) (h : VrAt w v vs) (hr : ClAt w rv cs) (hk : vs.length ≤ 1048576) (hkr : cs.length ≤ 1048576) :
    Calls Try.prog 29 #[.agg #[v, rv, .string o]] w fun e w' => ∃ ua uc xa xc, e = .returned (.agg #[.slice ua vs.length uc, .slice xa cs.length xc, .string o]) ∧ StIn w.heap.size w'.heap.size w' (.slice ua vs.length uc) (.slice xa cs.length xc) vs cs ∧ Below w.heap.size w w' := by
  refine (toStore_any v rv o vs cs w h hr hk hkr).mono ?_
  rintro e w' ⟨u, rfl, hb, g, g', rfl, h1, h2, h3, hv, hc⟩
  have l2 := blk_lt hc.1.choose_spec.1
  exact ⟨_, _, _, _, rfl, ⟨g', h2, by omega, hv.in h1 h3 _, hc.in (Nat.le_refl _) l2 _⟩, hb⟩
theorem StIn.vr {lo hi : Nat} {w : World} {u x : Value} {vs : List Vr} {cs : List Cl} (h : StIn lo hi w u x vs cs) : VrIn lo hi w u vs := by
  obtain ⟨mid, h1, h2, h3, h4⟩ := h
  exact h3.wide (Nat.le_refl _) h2
theorem StIn.cl {lo hi : Nat} {w : World} {u x : Value} {vs : List Vr} {cs : List Cl} (h : StIn lo hi w u x vs cs) : ClIn lo hi w x cs := by
  obtain ⟨mid, h1, h2, h3, h4⟩ := h
  exact h4.wide h1 (Nat.le_refl _)
/-- All that is said of a store's rows is a mark. -/
theorem markIn (lo hi : Nat) (u x : Value) (o : ByteArray) (vs : List Vr) (cs : List Cl) (w : World) (h : StIn lo hi w u x vs cs) (hhw : hi ≤ w.heap.size) (hn : vs.length ≤ 1048576) (hm : cs.length ≤ 1048576) :
    Calls Try.prog 31 #[.agg #[u, x, .string o], .int .i64 1] w fun e w' => e = .returned (.int .i64 ((1 + 2 * vs.length + 3 * cs.length : Nat) : Int)) ∧ StIn lo hi w' u x (mkVr 1 vs.length) (mkCl (1 + 2 * vs.length) cs.length) ∧ FM lo hi w w' := by
  obtain ⟨mid, h1, h2, h3, h4⟩ := h
  refine (markStore_any lo mid hi u x o vs cs 1 w h3 h4 h1 h2 hhw hn hm (by omega) (by omega)).mono ?_
  rintro e w' ⟨rfl, k1, k2, k3⟩
  exact ⟨rfl, ⟨mid, h1, h2, k1, k2⟩, k3⟩
/-- The law's three stores: what is wanted (0), what is handed in (X), what is answered (G). -/
structure L3 (W0 W : World) (lo0 b0 loX bX loG bG : Nat) (U0 X0 UX XX UG XG : Value) (o O : ByteArray) (vs : List Vr) (cs : List Cl) (vx : List Vr) (cx : List Cl) (vg : List Vr) (cg : List Cl) : Prop where
  env : Below W0.heap.size W0 W
  s0 : Sto lo0 b0 b0 W U0 X0 O vs cs
  xb : Bx W bX 27 UX XX o
  xi : StIn loX bX W UX XX vx cx
  gb : Bx W bG 27 UG XG O
  gi : StIn loG bG W UG XG vg cg
  ord : W0.heap.size ≤ lo0 ∧ lo0 ≤ b0 ∧ b0 < loX ∧ loX ≤ bX ∧ bX < loG ∧ loG ≤ bG ∧ bG < W.heap.size
section
variable {W0 W W' : World} {lo0 b0 loX bX loG bG : Nat} {U0 X0 UX XX UG XG : Value} {o O : ByteArray} {vs : List Vr} {cs : List Cl} {vx : List Vr} {cx : List Cl} {vg : List Vr} {cg : List Cl}
theorem L3.below (h : L3 W0 W lo0 b0 loX bX loG bG U0 X0 UX XX UG XG o O vs cs vx cx vg cg) (hb : Below W.heap.size W W') : L3 W0 W' lo0 b0 loX bX loG bG U0 X0 UX XX UG XG o O vs cs vx cx vg cg := by
  have ho := h.ord
  have hs := hb.size
  exact ⟨h.env.trans (hb.mono (by omega)), h.s0.below hb ho.2.1, (hb.block _ (by omega)).trans h.xb, h.xi.keep (fun k _ hk => hb.block k (by omega)), (hb.block _ (by omega)).trans h.gb, h.gi.keep (fun k _ hk => hb.block k (by omega)), by omega⟩
theorem L3.markX {vx' : List Vr} {cx' : List Cl} (h : L3 W0 W lo0 b0 loX bX loG bG U0 X0 UX XX UG XG o O vs cs vx cx vg cg) (hf : FM loX bX W W') (hi : StIn loX bX W' UX XX vx' cx') : L3 W0 W' lo0 b0 loX bX loG bG U0 X0 UX XX UG XG o O vs cs vx' cx' vg cg := by
  have ho := h.ord
  have hs := hf.2.1
  refine ⟨h.env.trans ((hf.below (by omega)).mono (by omega)), h.s0.keep (fun k hk _ h2 => hf.2.2 k hk (by omega)) ho.2.1, (hf.2.2 _ (by omega) (by omega)).trans h.xb, hi, (hf.2.2 _ (by omega) (by omega)).trans h.gb, h.gi.keep (fun k h1 hk => hf.2.2 k (by omega) (by omega)), by omega⟩
theorem L3.markG {vg' : List Vr} {cg' : List Cl} (h : L3 W0 W lo0 b0 loX bX loG bG U0 X0 UX XX UG XG o O vs cs vx cx vg cg) (hf : FM loG bG W W') (hi : StIn loG bG W' UG XG vg' cg') : L3 W0 W' lo0 b0 loX bX loG bG U0 X0 UX XX UG XG o O vs cs vx cx vg' cg' := by
  have ho := h.ord
  have hs := hf.2.1
  refine ⟨h.env.trans ((hf.below (by omega)).mono (by omega)), h.s0.keep (fun k hk _ h2 => hf.2.2 k hk (by omega)) ho.2.1, (hf.2.2 _ (by omega) (by omega)).trans h.xb, h.xi.keep (fun k h1 hk => hf.2.2 k (by omega) (by omega)), (hf.2.2 _ (by omega) (by omega)).trans h.gb, hi, by omega⟩
end
theorem lastF6 {w W : World} {p0 p1 p2 p3 p4 p5 : Addr} {u0 u1 u2 u3 u4 u5 : Value} (h : W.cell? p0 = some u0 ∧ W.cell? p1 = some u1 ∧ W.cell? p2 = some u2 ∧ W.cell? p3 = some u3 ∧ W.cell? p4 = some u4 ∧ W.cell? p5 = some u5 ∧ Hid (Below w.heap.size w W)) : Hid (Below w.heap.size w W) := h.2.2.2.2.2.2
theorem keepF6 {w W W' : World} {p0 p1 p2 p3 p4 p5 : Addr} {u0 u1 u2 u3 u4 u5 : Value} (hb : Below W.heap.size W W') (h : W.cell? p0 = some u0 ∧ W.cell? p1 = some u1 ∧ W.cell? p2 = some u2 ∧ W.cell? p3 = some u3 ∧ W.cell? p4 = some u4 ∧ W.cell? p5 = some u5 ∧ Hid (Below w.heap.size w W)) :
    W'.cell? p0 = some u0 ∧ W'.cell? p1 = some u1 ∧ W'.cell? p2 = some u2 ∧ W'.cell? p3 = some u3 ∧ W'.cell? p4 = some u4 ∧ W'.cell? p5 = some u5 ∧ Hid (Below w.heap.size w W') :=
  ⟨cell_up hb h.1, cell_up hb h.2.1, cell_up hb h.2.2.1, cell_up hb h.2.2.2.1, cell_up hb h.2.2.2.2.1, cell_up hb h.2.2.2.2.2.1, h.2.2.2.2.2.2.out.trans (hb.mono h.2.2.2.2.2.2.out.size)⟩
theorem keepE6 {W W' : World} {p0 p1 p2 p3 p4 p5 : Addr} {u0 u1 u2 u3 u4 u5 : Value} (hb : Below W.heap.size W W') (h : W.cell? p0 = some u0 ∧ W.cell? p1 = some u1 ∧ W.cell? p2 = some u2 ∧ W.cell? p3 = some u3 ∧ W.cell? p4 = some u4 ∧ W.cell? p5 = some u5) :
    W'.cell? p0 = some u0 ∧ W'.cell? p1 = some u1 ∧ W'.cell? p2 = some u2 ∧ W'.cell? p3 = some u3 ∧ W'.cell? p4 = some u4 ∧ W'.cell? p5 = some u5 :=
  ⟨cell_up hb h.1, cell_up hb h.2.1, cell_up hb h.2.2.1, cell_up hb h.2.2.2.1, cell_up hb h.2.2.2.2.1, cell_up hb h.2.2.2.2.2⟩
#print axioms toStoreIn
#print axioms markIn
end Go.Proofs.Ytnlbbomejpopnaa
