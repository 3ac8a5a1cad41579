/- The law's marks over a store. The law's stores, each in a block of its own: what of them is as it was. The law on ReadStore: at every text it answers as the specification, and its answer owns its memory. -/
import Derived.Test.YtbaoadfnmicijaaMPRsRwA
import Derived.Test.YtbaoadfnmicijaaMPRsZan
import Derived.Test.YtbaoadfnmicijaaMPRsRvI
namespace Go.Proofs.Ytbaoadfnmicijaa
section PartRwB
open Go.RowKit

theorem FM.trans {B C : Nat} {w w1 w2 : World} (h : FM B C w w1) (k : FM B C w1 w2) : FM B C w w2 :=
  ⟨h.1.trans k.1, Nat.le_trans h.2.1 k.2.1, fun q hq hh => (k.2.2 q (Nat.lt_of_lt_of_le hq h.2.1) hh).trans (h.2.2 q hq hh)⟩
theorem FM.wider {B C B' C' : Nat} {w w1 : World} (h : FM B C w w1) (h1 : B' ≤ B) (h2 : C ≤ C') : FM B' C' w w1 :=
  ⟨h.1, h.2.1, fun q hq hh => h.2.2 q hq (by omega)⟩
theorem FM.ofBelow {B C : Nat} {w w1 : World} (h : Below w.heap.size w w1) : FM B C w w1 := ⟨⟨h.os, h.tape, h.output⟩, h.size, fun q hq _ => h.block q hq⟩

set_option maxRecDepth 100000 in
set_option maxHeartbeats 2000000 in
theorem markStore_any (lo mid hi : Nat) (tv lv : Value) (o : ByteArray) (vs : List Vr) (cs : List Cl) (k : Nat) (w : World) (h1 : VrIn lo mid w tv vs) (h2 : ClIn mid hi w lv cs) (hlm : lo ≤ mid) (hmh : mid ≤ hi) (hhw : hi ≤ w.heap.size) (hn : vs.length ≤ 1048576) (hm : cs.length ≤ 1048576) (hk : k ≤ 100) (hk0 : 0 < k) :
    Calls Try.prog 13 #[.agg #[tv, lv, .string o], .int .i64 (k : Int)] w fun e w' => e = .returned (.int .i64 ((k + 2 * vs.length + 3 * cs.length : Nat) : Int)) ∧ VrIn lo mid w' tv (mkVr k vs.length) ∧ ClIn mid hi w' lv (mkCl (k + 2 * vs.length) cs.length) ∧ FM lo hi w w' := by
  have CV : Hid (∀ W : World, (∀ b, lo ≤ b → b < mid → W.heap[b]? = w.heap[b]?) → _) := fun (W : World) hW => markVrs_any lo mid tv vs k W (h1.keep hW) hn (by omega) hk0
  have CC : Hid (∀ W : World, (∀ b, mid ≤ b → b < hi → W.heap[b]? = w.heap[b]?) → _) := fun (W : World) hW => markCls_any mid hi lv cs (k + 2 * vs.length) W (h2.keep hW) hm (by omega) (by omega)
  obtain ⟨ad, c, rfl, -⟩ := h1
  obtain ⟨bd, d, rfl, -⟩ := h2
  obtain ⟨n, hN⟩ : ∃ n, n = vs.length := ⟨_, rfl⟩
  obtain ⟨m, hM⟩ : ∃ m, m = cs.length := ⟨_, rfl⟩
  rw [← hN] at CV CC ⊢
  rw [← hM] at CC ⊢
  clear hN hM hn hm
  have HB : Hid (Below w.heap.size w (w.alloc (.cells #[.slice ad n c, .slice bd m d, .string o] 32))) := (Below.refl _ _).alloc (Nat.le_refl _) _
  have q0 := heap_alloc_new w (.cells #[.slice ad n c, .slice bd m d, .string o] 32)
  have hz : w.heap.size < (w.alloc (.cells #[.slice ad n c, .slice bd m d, .string o] 32)).heap.size := by simp
  have HZ : Hid _ := And.intro q0 hz
  clear q0 hz
  go_enter Try.func13, Try.ntmps13
  go_wp2_with fail
  generalize w.alloc (.cells #[.slice ad n c, .slice bd m d, .string o] 32) = W0 at *
  refine (CV.out _ (fun b hb1 hb2 => HB.out.block b (by omega))).mono ?_
  rintro e w1 ⟨rfl, hv1, hf1⟩
  have R1 := (hf1.2.2 w.heap.size HZ.out.2 (by omega)).trans HZ.out.1
  have x1 : w1.cell? ⟨w.heap.size, 1, none⟩ = some (.slice bd m d) := (blk_cell R1 1).trans rfl
  have HF1 : Hid (FM lo mid W0 w1) := hf1
  have HV1 : Hid (VrIn lo mid w1 (.slice ad n c) (mkVr k n)) := hv1
  clear hf1 hv1 CV R1
  go_wp2_with fail
  refine (CC.out _ (fun b hb1 hb2 => (HF1.out.2.2 b (by have := HB.out.size; omega) (by omega)).trans (HB.out.block b (by omega)))).mono ?_
  rintro e w2 ⟨rfl, hc2, hf2⟩
  have HC2 : Hid (ClIn mid hi w2 (.slice bd m d) (mkCl (k + 2 * n) m)) := hc2
  have HF2 : Hid (FM mid hi w1 w2) := hf2
  clear hf2 hc2 CC x1
  go_wp2
  go_ret
  refine ⟨rfl, HV1.out.keep (fun b hb1 hb2 => HF2.out.2.2 b (by have := HF1.out.2.1; have := HB.out.size; omega) (by omega)), HC2.out, ?_⟩
  exact ((FM.ofBelow HB.out).trans (HF1.out.wider (Nat.le_refl _) hmh)).trans (HF2.out.wider hlm (Nat.le_refl _))

set_option maxRecDepth 100000 in
set_option maxHeartbeats 2000000 in
theorem heldStore_any (tv lv : Value) (o : ByteArray) (n m k : Nat) (w : World) (h1 : VrAt w tv (mkVr k n)) (h2 : ClAt w lv (mkCl (k + 2 * n) m)) (hn : n ≤ 1048576) (hm : m ≤ 1048576) (hk : k ≤ 100) (hk0 : 0 < k) :
    Calls Try.prog 14 #[.agg #[tv, lv, .string o], .int .i64 (k : Int)] w fun e w' => e = .returned (.int .i64 ((k + 2 * n + 3 * m : Nat) : Int)) ∧ Below w.heap.size w w' := by
  have CV : Hid (∀ W, Below w.heap.size w W → _) := fun W hb => heldVrs_any tv n k W (h1.keep hb) hn (by omega) hk0
  have CC : Hid (∀ W, Below w.heap.size w W → _) := fun W hb => heldCls_any lv m (k + 2 * n) W (h2.keep hb) hm (by omega) (by omega)
  obtain ⟨ad, c, rfl, -⟩ := h1
  obtain ⟨bd, d, rfl, -⟩ := h2
  rw [mkVr_len] at CV ⊢
  rw [mkCl_len] at CC ⊢
  have HB : Hid (Below w.heap.size w (w.alloc (.cells #[.slice ad n c, .slice bd m d, .string o] 32))) := (Below.refl _ _).alloc (Nat.le_refl _) _
  have q0 := heap_alloc_new w (.cells #[.slice ad n c, .slice bd m d, .string o] 32)
  have hz : w.heap.size < (w.alloc (.cells #[.slice ad n c, .slice bd m d, .string o] 32)).heap.size := by simp
  have HZ : Hid _ := And.intro q0 hz
  have d1 : decide (((k + 2 * n : Nat) : Int) < 0) = false := decide_eq_false (by omega)
  have d2 : decide (((k + 2 * n + 3 * m : Nat) : Int) < 0) = false := decide_eq_false (by omega)
  obtain ⟨K1, hK1⟩ : ∃ K1, K1 = k + 2 * n := ⟨_, rfl⟩
  obtain ⟨K2, hK2⟩ : ∃ K2, K2 = k + 2 * n + 3 * m := ⟨_, rfl⟩
  rw [← hK1] at CV CC d1
  rw [← hK2] at d2 ⊢
  rw [show K1 + 3 * m = K2 by omega] at CC
  clear q0 hz hK1 hK2
  go_enter Try.func14, Try.ntmps14
  go_wp2_with fail
  generalize w.alloc (.cells #[.slice ad n c, .slice bd m d, .string o] 32) = W0 at *
  refine (CV.out _ HB.out).mono ?_
  rintro e w1 ⟨rfl, hb1⟩
  have x1 : w1.cell? ⟨w.heap.size, 1, none⟩ = some (.slice bd m d) := (blk_cell ((hb1.block _ HZ.out.2).trans HZ.out.1) 1).trans rfl
  have HB1 : Hid (Below w.heap.size w w1) := HB.out.trans (hb1.mono HB.out.size)
  clear hb1 CV
  go_wp2_with fail
  refine (CC.out _ HB1.out).mono ?_
  rintro e w2 ⟨rfl, hb2⟩
  have HB2 : Hid (Below w.heap.size w w2) := HB1.out.trans (hb2.mono HB1.out.size)
  clear hb2 CC x1
  go_wp2
  go_ret
  exact ⟨rfl, HB2.out⟩
end PartRwB
section PartRwF
open Go.RowKit

/-- A store's three cells in block b. -/
def Bx (W : World) (b : Nat) (t : TypeId) (u x : Value) (o : ByteArray) : Prop := W.heap[b]? = some (.cells #[u, x, .string o] t (0, 0))
theorem Bx.c0 {W : World} {b : Nat} {t : TypeId} {u x : Value} {o : ByteArray} (h : Bx W b t u x o) : W.cell? ⟨b, 0, none⟩ = some u := (blk_cell h 0).trans rfl
theorem Bx.c1 {W : World} {b : Nat} {t : TypeId} {u x : Value} {o : ByteArray} (h : Bx W b t u x o) : W.cell? ⟨b, 1, none⟩ = some x := (blk_cell h 1).trans rfl
theorem Bx.c2 {W : World} {b : Nat} {t : TypeId} {u x : Value} {o : ByteArray} (h : Bx W b t u x o) : W.cell? ⟨b, 2, none⟩ = some (.string o) := (blk_cell h 2).trans rfl
/-- A store: its cells in block b, its rows in blocks of lo .. hi. -/
structure Sto (lo hi b : Nat) (W : World) (u x : Value) (o : ByteArray) (vs : List Vr) (cs : List Cl) : Prop where
  bx : Bx W b 32 u x o
  vr : VrIn lo hi W u vs
  cl : ClIn lo hi W x cs
  le : hi ≤ b
theorem Sto.keep {lo hi b : Nat} {W W' : World} {u x : Value} {o : ByteArray} {vs : List Vr} {cs : List Cl} (h : Sto lo hi b W u x o vs cs) (hk : ∀ k, k < W.heap.size → lo ≤ k → k ≤ b → W'.heap[k]? = W.heap[k]?) (hlo : lo ≤ b) : Sto lo hi b W' u x o vs cs := by
  have hb : b < W.heap.size := blk_lt h.bx
  have := h.le
  exact ⟨(hk b hb hlo (Nat.le_refl _)).trans h.bx, h.vr.keep (fun k h1 h2 => hk k (by omega) h1 (by omega)), h.cl.keep (fun k h1 h2 => hk k (by omega) h1 (by omega)), h.le⟩
theorem Sto.below {lo hi b : Nat} {W W' : World} {u x : Value} {o : ByteArray} {vs : List Vr} {cs : List Cl} (h : Sto lo hi b W u x o vs cs) (hb : Below W.heap.size W W') (hlo : lo ≤ b) : Sto lo hi b W' u x o vs cs :=
  h.keep (fun k hk _ _ => hb.block k hk) hlo
theorem StIn.vr {lo hi : Nat} {w : World} {u x : Value} {vs : List Vr} {cs : List Cl} (h : StIn lo hi w u x vs cs) : VrIn lo hi w u vs := by
  obtain ⟨mid, h1, h2, h3, h4⟩ := h
  exact h3.wide (Nat.le_refl _) h2
theorem StIn.cl {lo hi : Nat} {w : World} {u x : Value} {vs : List Vr} {cs : List Cl} (h : StIn lo hi w u x vs cs) : ClIn lo hi w x cs := by
  obtain ⟨mid, h1, h2, h3, h4⟩ := h
  exact h4.wide h1 (Nat.le_refl _)
/-- All that is said of a store's rows is a mark. -/
theorem markIn (lo hi : Nat) (u x : Value) (o : ByteArray) (vs : List Vr) (cs : List Cl) (w : World) (h : StIn lo hi w u x vs cs) (hhw : hi ≤ w.heap.size) (hn : vs.length ≤ 1048576) (hm : cs.length ≤ 1048576) :
    Calls Try.prog 13 #[.agg #[u, x, .string o], .int .i64 1] w fun e w' => e = .returned (.int .i64 ((1 + 2 * vs.length + 3 * cs.length : Nat) : Int)) ∧ StIn lo hi w' u x (mkVr 1 vs.length) (mkCl (1 + 2 * vs.length) cs.length) ∧ FM lo hi w w' := by
  obtain ⟨mid, h1, h2, h3, h4⟩ := h
  refine (markStore_any lo mid hi u x o vs cs 1 w h3 h4 h1 h2 hhw hn hm (by omega) (by omega)).mono ?_
  rintro e w' ⟨rfl, k1, k2, k3⟩
  exact ⟨rfl, ⟨mid, h1, h2, k1, k2⟩, k3⟩
/-- The law's three stores: what is wanted (0), what is handed in (X), what is answered (G). -/
structure L3 (W0 W : World) (lo0 b0 loX bX loG bG : Nat) (U0 X0 UX XX UG XG : Value) (o O : ByteArray) (vs : List Vr) (cs : List Cl) (vx : List Vr) (cx : List Cl) (vg : List Vr) (cg : List Cl) : Prop where
  env : Below W0.heap.size W0 W
  s0 : Sto lo0 b0 b0 W U0 X0 O vs cs
  xb : Bx W bX 32 UX XX o
  xi : StIn loX bX W UX XX vx cx
  gb : Bx W bG 32 UG XG O
  gi : StIn loG bG W UG XG vg cg
  ord : W0.heap.size ≤ lo0 ∧ lo0 ≤ b0 ∧ b0 < loX ∧ loX ≤ bX ∧ bX < loG ∧ loG ≤ bG ∧ bG < W.heap.size
section
variable {W0 W W' : World} {lo0 b0 loX bX loG bG : Nat} {U0 X0 UX XX UG XG : Value} {o O : ByteArray} {vs : List Vr} {cs : List Cl} {vx : List Vr} {cx : List Cl} {vg : List Vr} {cg : List Cl}
theorem L3.below (h : L3 W0 W lo0 b0 loX bX loG bG U0 X0 UX XX UG XG o O vs cs vx cx vg cg) (hb : Below W.heap.size W W') : L3 W0 W' lo0 b0 loX bX loG bG U0 X0 UX XX UG XG o O vs cs vx cx vg cg := by
  have ho := h.ord
  have hs := hb.size
  exact ⟨h.env.trans (hb.mono (by omega)), h.s0.below hb ho.2.1, (hb.block _ (by omega)).trans h.xb, h.xi.keep (fun k _ hk => hb.block k (by omega)), (hb.block _ (by omega)).trans h.gb, h.gi.keep (fun k _ hk => hb.block k (by omega)), by omega⟩
end
end PartRwF
section PartLwRs
open Go.RowKit

theorem Rs.isOf_one {L : List UInt8} {vs us : List Vr} {cs ds : List Cl} {o p : ByteArray} (h1 : Rs.isOf L vs cs o) (h2 : Rs.isOf L us ds p) : us = vs ∧ ds = cs ∧ p = o := by
  have sm : ∀ {vs : List Vr} {cs : List Cl} {o : ByteArray}, Rs.isOf L vs cs o → StSmall vs cs o := fun {vs cs o} h => by
    obtain ⟨s1, s2, s3, s4, s5⟩ := St.ok_sizes h.1
    refine ⟨by omega, fun i hi => ?_, by omega, fun i hi => ?_, by omega⟩
    · have := s4 i hi; omega
    · have := s5 i hi; omega
  obtain ⟨e1, e2, e3⟩ := St.bytes_free (sm h2) (sm h1) (h2.2.trans h1.2.symm)
  exact ⟨e1, e2, e3⟩
theorem VrRow.inTo {B M : Nat} {w : World} {v : Value} {xs : List Vr} (h : VrRow B w v xs) (hM : ∀ q, v.ownBlock = some q → q < M) : VrIn B M w v xs := by
  obtain ⟨ad, cap, rfl, f⟩ := VrRow.in h
  refine ⟨ad, cap, rfl, fun h0 => ?_⟩
  obtain ⟨g, arr, rfl, e1, e2, ha, hc⟩ := f h0
  exact ⟨g, arr, rfl, e1, hM g rfl, ha, hc⟩
/-- What is read of these bytes, in one form: the same rows, whoever reads. -/
theorem rd_form (L : List UInt8) : ∃ (P : List Vr) (R : List Cl) (O : ByteArray) (ok : Bool), P.length ≤ 60 ∧ R.length ≤ 2000 ∧ ∀ w w' e, RdO w w' L e → Below w.heap.size w w' ∧
    ∃ va vc ra rc, e = .returned (.tuple #[.agg #[.slice va P.length vc, .slice ra R.length rc, .string O], .bool ok]) ∧ StIn w.heap.size w'.heap.size w' (.slice va P.length vc) (.slice ra R.length rc) P R := by
  by_cases h : ∃ vs cs o, Rs.isOf L vs cs o
  · obtain ⟨vs, cs, o, hi⟩ := h
    obtain ⟨s1, s2, s3, s4, s5⟩ := St.ok_sizes hi.1
    refine ⟨vs, cs, o, true, s1, s2, fun w w' e hr => ?_⟩
    obtain ⟨hb, hr⟩ := hr
    refine ⟨hb, ?_⟩
    rcases hr with ⟨u, x, vs', cs', o', B2, h1, rfl, h3, h4, h5, h6⟩ | ⟨h1, -⟩
    · obtain ⟨rfl, rfl, rfl⟩ := Rs.isOf_one hi h1
      rcases h4.2 with ⟨rfl, hn2⟩ | ⟨g, cap, cur, hx, k1, k2, -⟩
      · have hl : cs'.length = 0 := by omega
        have hv := VrRow.in h3
        obtain ⟨va, vc, rfl, -⟩ := id hv
        exact ⟨va, vc, none, 0, by rw [hl], w'.heap.size, hb.size, Nat.le_refl _, hv.wide (by omega) (Nat.le_refl _), ⟨none, 0, rfl, fun h => by omega⟩⟩
      · have hv := h3.inTo h6
        have hc := ClRow.in h4
        have := blk_lt k2
        obtain ⟨va, vc, rfl, -⟩ := id hv
        obtain ⟨ra, rc, rfl, -⟩ := id hc
        exact ⟨va, vc, ra, rc, rfl, B2, by omega, by omega, hv.wide (by omega) (Nat.le_refl _), hc⟩
    · exact absurd hi (h1 _ _ _)
  · refine ⟨[], [], ⟨#[]⟩, false, by simp, by simp, fun w w' e hr => ?_⟩
    obtain ⟨hb, hr⟩ := hr
    refine ⟨hb, ?_⟩
    rcases hr with ⟨u, x, vs', cs', o', B2, h1, -⟩ | ⟨-, rfl⟩
    · exact absurd ⟨_, _, _, h1⟩ h
    · exact ⟨none, 0, none, 0, rfl, w.heap.size, Nat.le_refl _, hb.size, ⟨none, 0, rfl, fun h => by simp at h⟩, ⟨none, 0, rfl, fun h => by simp at h⟩⟩
theorem cells3s {W : World} {b : Nat} {u0 u1 u2 : Value} {t : TypeId} (h : W.heap[b]? = some (.cells #[u0, u1, u2] t (0, 0))) : W.cell? ⟨b, 0, none⟩ = some u0 ∧ W.cell? ⟨b, 1, none⟩ = some u1 ∧ W.cell? ⟨b, 2, none⟩ = some u2 :=
  ⟨(blk_cell h 0).trans rfl, (blk_cell h 1).trans rfl, (blk_cell h 2).trans rfl⟩

set_option maxRecDepth 100000 in
set_option maxHeartbeats 4000000 in
theorem lawReadStore (s : ByteArray) (w : World) :
    Calls Try.prog 4 #[.string s] w fun e w' => e = .returned (.bool true) ∧ Below w.heap.size w w' := by
  by_cases hs : 1048576 < s.size
  · have d1 : decide ((1048576 : Int) < (s.size : Int)) = true := decide_eq_true (by omega)
    go_enter Try.func4, Try.ntmps4
    go_wp2
    go_ret
    exact ⟨rfl, Below.refl _ _⟩
  · have d1 : decide ((1048576 : Int) < (s.size : Int)) = false := decide_eq_false (by omega)
    obtain ⟨P, R, O, ok, b1, b2, HF⟩ := rd_form s.data.toList
    obtain ⟨n, hn⟩ : ∃ n, n = P.length := ⟨_, rfl⟩
    obtain ⟨rn, hrn⟩ : ∃ rn, rn = R.length := ⟨_, rfl⟩
    rw [← hn, ← hrn] at HF
    have CI : Hid (∀ W : World, Calls Try.prog 12 #[.string s] W fun e w' => Below W.heap.size W w' ∧ ∃ (va : Option Addr) (vc : Nat) (ra : Option Addr) (rc : Nat), e = .returned (.tuple #[.agg #[.slice va n vc, .slice ra rn rc, .string O], .bool ok]) ∧ StIn W.heap.size w'.heap.size w' (.slice va n vc) (.slice ra rn rc) P R) :=
      fun W => (imReadStore s W (by omega)).mono (fun e w' h => HF W w' e h)
    have CS : Hid (∀ W : World, Calls Try.prog 11 #[.string s] W fun e w' => Below W.heap.size W w' ∧ ∃ (va : Option Addr) (vc : Nat) (ra : Option Addr) (rc : Nat), e = .returned (.tuple #[.agg #[.slice va n vc, .slice ra rn rc, .string O], .bool ok]) ∧ StIn W.heap.size w'.heap.size w' (.slice va n vc) (.slice ra rn rc) P R) :=
      fun W => (spReadStoreOwn s W (by omega)).mono (fun e w' h => HF W w' e h)
    have HM : Hid (n = P.length ∧ rn = R.length) := ⟨hn, hrn⟩
    have hn2 : n ≤ 1000 := by omega
    have hr2 : rn ≤ 2000 := by omega
    have HL : Hid (P.length ≤ 1048576 ∧ R.length ≤ 1048576) := ⟨by omega, by omega⟩
    clear HF hn hrn b1 b2 hs
    go_enter Try.func4, Try.ntmps4
    go_wp2_with fail
    refine (CS.out _).mono ?_
    rintro e w1 ⟨hb1, va1, vc1, ra1, rc1, rfl, p1⟩
    have HP1 := hidOf9 (And.intro p1.vr.at p1.cl.at)
    have HB1 := hidOf9 hb1
    have q1 := heap_alloc_new w1 (.cells #[.slice va1 n vc1, .slice ra1 rn rc1, .string O] 32)
    have HA1 := hidOf9 (And.intro q1 ((Below.refl w1.heap.size w1).alloc (Nat.le_refl _) (.cells #[.slice va1 n vc1, .slice ra1 rn rc1, .string O] 32)))
    have C2 := hidOf9 (CI.out (w1.alloc (.cells #[.slice va1 n vc1, .slice ra1 rn rc1, .string O] 32)))
    clear p1 CS hb1 q1
    go_wp2_with fail
    generalize w1.alloc (.cells #[.slice va1 n vc1, .slice ra1 rn rc1, .string O] 32) = W1 at *
    refine C2.out.mono ?_
    rintro e w3 ⟨hb3, va2, vc2, ra2, rc2, rfl, p3⟩
    have HZ3 := hidOf9 ((hb3.block _ (blk_lt HA1.out.1)).trans HA1.out.1)
    have HB13 := hidOf9 (HA1.out.2.trans (hb3.mono HA1.out.2.size))
    have HP3 := hidOf9 p3
    have HW1 := hidOf9 (And.intro (show w1.heap.size < W1.heap.size from blk_lt HA1.out.1) hb3.size)
    have q3 := heap_alloc_new w3 (.cells #[.slice va2 n vc2, .slice ra2 rn rc2, .string O] 32)
    have u3 : Below w3.heap.size w3 (w3.alloc (.cells #[.slice va2 n vc2, .slice ra2 rn rc2, .string O] 32)) := (Below.refl _ _).alloc (Nat.le_refl _) _
    have HA3 := hidOf9 (And.intro q3 u3)
    obtain ⟨z0, z1, z2⟩ := cells3s ((u3.block _ (blk_lt HZ3.out)).trans HZ3.out)
    clear hb3 p3 C2 q3 u3 HA1
    go_wp2_with fail
    generalize w3.alloc (.cells #[.slice va2 n vc2, .slice ra2 rn rc2, .string O] 32) = W3 at *
    have hB1 : Below w1.heap.size w1 W3 := HB13.out.trans (HA3.out.2.mono HB13.out.size)
    have HP3' := hidOf9 (HP3.out.keep (fun b _ hb => HA3.out.2.block b hb))
    have CE := hidOf9 (eqStore_any _ _ _ _ O P R W3 HP3'.out.vr.at HP3'.out.cl.at (HP1.out.1.keep hB1) (HP1.out.2.keep hB1) HL.out.1 HL.out.2)
    refine CE.out.mono ?_
    rintro e w5 ⟨rfl, hb5⟩
    have hq : (ok != ok) = false := by simp
    have HX5 := hidOf9 ((hb5.block _ (blk_lt HA3.out.1)).trans HA3.out.1)
    have HZ5 := hidOf9 ((hb5.block _ (blk_lt ((HA3.out.2.block _ (blk_lt HZ3.out)).trans HZ3.out))).trans ((HA3.out.2.block _ (blk_lt HZ3.out)).trans HZ3.out))
    have HB35 := hidOf9 (HA3.out.2.trans (hb5.mono HA3.out.2.size))
    obtain ⟨x0, x1, x2⟩ := cells3s HX5.out
    have HP5 := hidOf9 (HP3.out.keep (fun b _ hb => HB35.out.block b hb))
    clear hb5 hB1 z0 z1 z2 CE HP3'
    have C4 : Hid (Calls Try.prog 13 #[.agg #[.slice va2 n vc2, .slice ra2 rn rc2, .string O], .int .i64 1] w5 fun e w' => e = .returned (.int .i64 ((1 + 2 * P.length + 3 * R.length : Nat) : Int)) ∧ StIn W1.heap.size w3.heap.size w' (.slice va2 n vc2) (.slice ra2 rn rc2) (mkVr 1 P.length) (mkCl (1 + 2 * P.length) R.length) ∧ FM W1.heap.size w3.heap.size w5 w') :=
      markIn W1.heap.size w3.heap.size _ _ O P R w5 HP5.out HB35.out.size HL.out.1 HL.out.2
    obtain ⟨m, hm⟩ : ∃ m, m = 1 + 2 * P.length + 3 * R.length := ⟨_, rfl⟩
    have hml : m ≤ 10000000 := by have := HM.out; omega
    rw [← hm] at C4
    go_wp2_with fail
    refine C4.out.mono ?_
    rintro e w6 ⟨rfl, pw6, fs6⟩
    have HX6 := hidOf9 ((fs6.2.2 _ (blk_lt HX5.out) (by omega)).trans HX5.out)
    have HZ6 := hidOf9 ((fs6.2.2 _ (blk_lt HZ5.out) (by have := HW1.out.1; omega)).trans HZ5.out)
    have hb56 : Below w1.heap.size w1 w6 := (HB13.out.trans (HB35.out.mono HB13.out.size)).trans ((fs6.below (by have := HW1.out.2; have := HB35.out.size; omega)).mono (Nat.le_of_lt HW1.out.1))
    have HB16 := hidOf9 hb56
    have HS6 := hidOf9 (And.intro fs6.2.1 HB35.out.size)
    have CH : Hid (∀ W : World, Below w6.heap.size w6 W → Calls Try.prog 14 #[.agg #[.slice va2 n vc2, .slice ra2 rn rc2, .string O], .int .i64 1] W fun e w' => e = .returned (.int .i64 (m : Int)) ∧ Below W.heap.size W w') := fun W hW => by
      rw [hm]
      have pk := pw6.keep (w' := W) (fun b _ hb => hW.block b (by have := HS6.out.1; have := HS6.out.2; omega))
      exact heldStore_any _ _ O P.length R.length 1 W pk.vr.at pk.cl.at HL.out.1 HL.out.2 (by omega) (by omega)
    have dm : decide ((m : Int) < 0) = false := decide_eq_false (by omega)
    have hqm : ((m : Int) != (m : Int)) = false := by simp
    obtain ⟨y0, y1, y2⟩ := cells3s HX6.out
    clear pw6 fs6 hm hb56 HB35 HB13 HP3 HX5 HZ5 C4 x0 x1 x2 HA3 HZ3 HP5
    go_wp2_with fail
    refine (CH.out _ (Below.refl _ _)).mono ?_
    rintro e w7 ⟨rfl, hb7⟩
    have HX7 := hidOf9 ((hb7.block _ (blk_lt HX6.out)).trans HX6.out)
    have HZ7 := hidOf9 ((hb7.block _ (blk_lt HZ6.out)).trans HZ6.out)
    have HB7 := hidOf9 hb7
    have C5 := hidOf9 (CI.out w7)
    clear hb7 CI y0 y1 y2
    go_wp2_with fail
    refine C5.out.mono ?_
    rintro e w8 ⟨hb8, va8, vc8, ra8, rc8, rfl, p8⟩
    have HX8 := hidOf9 ((hb8.block _ (blk_lt HX7.out)).trans HX7.out)
    have HZ8 := hidOf9 ((hb8.block _ (blk_lt HZ7.out)).trans HZ7.out)
    have HB68 := hidOf9 (HB7.out.trans (hb8.mono HB7.out.size))
    have HP8 := hidOf9 (And.intro p8.vr.at p8.cl.at)
    have u8 : Below w8.heap.size w8 (w8.alloc (.cells #[.slice va8 n vc8, .slice ra8 rn rc8, .string O] 32)) := (Below.refl _ _).alloc (Nat.le_refl _) _
    have HA8 := hidOf9 u8
    obtain ⟨z0, z1, z2⟩ := cells3s ((u8.block _ (blk_lt HZ8.out)).trans HZ8.out)
    clear hb8 p8 C5 u8 HX7 HZ7
    go_wp2_with fail
    generalize w8.alloc (.cells #[.slice va8 n vc8, .slice ra8 rn rc8, .string O] 32) = W8 at *
    have hB18 : Below w1.heap.size w1 W8 := HB16.out.trans ((HB68.out.trans (HA8.out.mono HB68.out.size)).mono HB16.out.size)
    have CE := hidOf9 (eqStore_any _ _ _ _ O P R W8 (HP8.out.1.keep HA8.out) (HP8.out.2.keep HA8.out) (HP1.out.1.keep hB18) (HP1.out.2.keep hB18) HL.out.1 HL.out.2)
    refine CE.out.mono ?_
    rintro e w10 ⟨rfl, hb10⟩
    have HX9 := hidOf9 ((HA8.out.block _ (blk_lt HX8.out)).trans HX8.out)
    obtain ⟨y0, y1, y2⟩ := cells3s ((hb10.block _ (blk_lt HX9.out)).trans HX9.out)
    have HB610 := hidOf9 ((HB68.out.trans (HA8.out.mono HB68.out.size)).trans (hb10.mono (Nat.le_trans HB68.out.size HA8.out.size)))
    clear hb10 hB18 z0 z1 z2 HX8 HZ8 HX9 CE
    go_wp2_with fail
    refine (CH.out _ HB610.out).mono ?_
    rintro e w11 ⟨rfl, hb11⟩
    have hfin : Below w.heap.size w w11 := HB1.out.trans ((HB16.out.trans ((HB610.out.trans (hb11.mono HB610.out.size)).mono HB16.out.size)).mono HB1.out.size)
    go_wp2
    go_ret
    exact ⟨rfl, hfin⟩
end PartLwRs
end Go.Proofs.Ytbaoadfnmicijaa
