/- Who gives and gathers, its cells hidden: what each part of the law answers. The law on TickCoord. -/
import Derived.Test.YthnmopldpgdenaaMPTcZay
import Derived.Deep.WholeRow
namespace Go.Proofs.Ythnmopldpgdenaa
section PartKdU
open Go.RowKit

/-- Seventeen cells, each of one. -/
def Wide (L : Array Value) : Prop := L.size = 17 ∧ L.all (·.oneCell') = true
def AtL (W : World) (L : Array Value) (c : Co) : Prop := ∃ tv lv nv bu bx kv fu fx : Value, L = Co.cells tv lv nv bu bx kv fu fx c ∧ Co.At W tv lv nv bu bx kv fu fx c
def OwnL (p0 p6 : Nat) (W : World) (L : Array Value) (c : Co) (f : Nat → Te) : Prop := ∃ ta tc la lc na nc ua uc xa xc ka kc ga gc ha hc p1 p2 p3 p4 p5, L = Co.cells (.slice ta c.ts.length tc) (.slice la c.xs.length lc) (.slice na c.ns.length nc) (.slice ua c.bv.length uc) (.slice xa c.bc.length xc) (.slice ka c.ks.length kc) (.slice ga c.fv.length gc) (.slice ha c.fc.length hc) c ∧ Co.Own p0 p1 p2 p3 p4 p5 p6 W (.slice ta c.ts.length tc) (.slice la c.xs.length lc) (.slice na c.ns.length nc) (.slice ua c.bv.length uc) (.slice xa c.bc.length xc) (.slice ka c.ks.length kc) (.slice ga c.fv.length gc) (.slice ha c.fc.length hc) c f
def MkL (p0 p6 : Nat) (W : World) (L : Array Value) (c : Co) (f : Nat → Te) : Prop := ∃ ta tc la lc na nc ua uc xa xc ka kc ga gc ha hc p1 p2 p3 p4 p5, L = Co.cells (.slice ta c.ts.length tc) (.slice la c.xs.length lc) (.slice na c.ns.length nc) (.slice ua c.bv.length uc) (.slice xa c.bc.length xc) (.slice ka c.ks.length kc) (.slice ga c.fv.length gc) (.slice ha c.fc.length hc) c ∧ Co.Mkd p0 p1 p2 p3 p4 p5 p6 W (.slice ta c.ts.length tc) (.slice la c.xs.length lc) (.slice na c.ns.length nc) (.slice ua c.bv.length uc) (.slice xa c.bc.length xc) (.slice ka c.ks.length kc) (.slice ga c.fv.length gc) (.slice ha c.fc.length hc) c f ∧ (p0 ≤ p1 ∧ p1 ≤ p2 ∧ p2 ≤ p3 ∧ p3 ≤ p4 ∧ p4 ≤ p5 ∧ p5 ≤ p6) ∧ Same c.ks c.ks.length f
theorem Wide.of (ta : Option Addr) (tc : Nat) (la : Option Addr) (lc : Nat) (na : Option Addr) (nc : Nat) (ua : Option Addr) (uc : Nat) (xa : Option Addr) (xc : Nat) (ka : Option Addr) (kc : Nat) (ga : Option Addr) (gc : Nat) (ha : Option Addr) (hc : Nat) (c : Co) : Wide (Co.cells (.slice ta c.ts.length tc) (.slice la c.xs.length lc) (.slice na c.ns.length nc) (.slice ua c.bv.length uc) (.slice xa c.bc.length xc) (.slice ka c.ks.length kc) (.slice ga c.fv.length gc) (.slice ha c.fc.length hc) c) := ⟨rfl, by simp [Co.cells, Value.oneCell']⟩
theorem AtL.keep {w w' : World} {L : Array Value} {c : Co} (h : AtL w L c) (hb : Below w.heap.size w w') : AtL w' L c := by
  obtain ⟨a1, a2, a3, a4, a5, a6, a7, a8, h1, h2⟩ := h
  exact ⟨a1, a2, a3, a4, a5, a6, a7, a8, h1, h2.keep hb⟩
theorem OwnL.at {p0 p6 : Nat} {w : World} {L : Array Value} {c : Co} {f : Nat → Te} (h : OwnL p0 p6 w L c f) : AtL w L c := by
  obtain ⟨ta, tc, la, lc, na, nc, ua, uc, xa, xc, ka, kc, ga, gc, ha, hc, p1, p2, p3, p4, p5, h1, h2⟩ := h
  exact ⟨_, _, _, _, _, _, _, _, h1, h2.at⟩
theorem OwnL.keep {p0 p6 : Nat} {w w' : World} {L : Array Value} {c : Co} {f : Nat → Te} (h : OwnL p0 p6 w L c f) (hk : ∀ q, p0 ≤ q → q < p6 → w'.heap[q]? = w.heap[q]?) : OwnL p0 p6 w' L c f := by
  obtain ⟨ta, tc, la, lc, na, nc, ua, uc, xa, xc, ka, kc, ga, gc, ha, hc, p1, p2, p3, p4, p5, h1, h2⟩ := h
  exact ⟨ta, tc, la, lc, na, nc, ua, uc, xa, xc, ka, kc, ga, gc, ha, hc, p1, p2, p3, p4, p5, h1, h2.keep hk⟩
theorem OwnL.le {p0 p6 : Nat} {w : World} {L : Array Value} {c : Co} {f : Nat → Te} (h : OwnL p0 p6 w L c f) : p0 ≤ p6 := by
  obtain ⟨ta, tc, la, lc, na, nc, ua, uc, xa, xc, ka, kc, ga, gc, ha, hc, p1, p2, p3, p4, p5, h1, h2⟩ := h
  have := h2.ord
  omega
theorem MkL.keep {p0 p6 : Nat} {w w' : World} {L : Array Value} {c : Co} {f : Nat → Te} (h : MkL p0 p6 w L c f) (hk : ∀ q, p0 ≤ q → q < p6 → w'.heap[q]? = w.heap[q]?) : MkL p0 p6 w' L c f := by
  obtain ⟨ta, tc, la, lc, na, nc, ua, uc, xa, xc, ka, kc, ga, gc, ha, hc, p1, p2, p3, p4, p5, h1, h2, h3, h4⟩ := h
  exact ⟨ta, tc, la, lc, na, nc, ua, uc, xa, xc, ka, kc, ga, gc, ha, hc, p1, p2, p3, p4, p5, h1, Co.Mk.keep h2 h3 hk, h3, h4⟩
theorem szL (L : Array Value) (c : Co) (w : World) (h : AtL w L c) (hf : c.Fit) :
    Calls Try.prog 4 #[.agg L, .int .i64 1048576] w fun e w' => Below w.heap.size w w' ∧ ∃ r : Int, e = .returned (.int .i64 r) ∧ (r = -1 ∨ (0 ≤ r ∧ c.Sm)) := by
  obtain ⟨a1, a2, a3, a4, a5, a6, a7, a8, rfl, h2⟩ := h
  exact szCoord_any _ _ _ _ _ _ _ _ c 1048576 w h2 (by omega) (by omega) hf
theorem toL (L : Array Value) (c : Co) (w : World) (h : AtL w L c) (hs : c.Sm) :
    Calls Try.prog 6 #[.agg L] w fun r w' => ∃ M p0 p6 f, r = .returned (.agg M) ∧ Wide M ∧ Below w.heap.size w w' ∧ w.heap.size ≤ p0 ∧ p6 ≤ w'.heap.size ∧ OwnL p0 p6 w' M c f := by
  obtain ⟨a1, a2, a3, a4, a5, a6, a7, a8, rfl, h2⟩ := h
  refine (toCoord_any _ _ _ _ _ _ _ _ c w h2 hs).mono ?_
  rintro r w' ⟨ta, tc, la, lc, na, nc, ua, uc, xa, xc, ka, kc, ga, gc, ha, hc, p0, p1, p2, p3, p4, p5, p6, f, rfl, hb, h0, h6, ho⟩
  exact ⟨Co.cells (.slice ta c.ts.length tc) (.slice la c.xs.length lc) (.slice na c.ns.length nc) (.slice ua c.bv.length uc) (.slice xa c.bc.length xc) (.slice ka c.ks.length kc) (.slice ga c.fv.length gc) (.slice ha c.fc.length hc) c, p0, p6, f, rfl, Wide.of _ _ _ _ _ _ _ _ _ _ _ _ _ _ _ _ c, hb, h0, h6, _, _, _, _, _, _, _, _, _, _, _, _, _, _, _, _, p1, p2, p3, p4, p5, rfl, ho⟩
theorem imL (L : Array Value) (c : Co) (n : Int) (w : World) (h : AtL w L c) (hs : c.Sm) :
    Calls Try.prog 7 #[.agg L, .int .i64 n] w fun r w' => ∃ M p0 p6 f, r = .returned (.agg M) ∧ Wide M ∧ Below w.heap.size w w' ∧ w.heap.size ≤ p0 ∧ p6 ≤ w'.heap.size ∧ OwnL p0 p6 w' M (c.tick n) f := by
  obtain ⟨a1, a2, a3, a4, a5, a6, a7, a8, rfl, h2⟩ := h
  refine (imTickCoord_any _ _ _ _ _ _ _ _ c n w h2 hs).mono ?_
  rintro r w' ⟨ta, tc, la, lc, na, nc, ua, uc, xa, xc, ka, kc, ga, gc, ha, hc, p0, p1, p2, p3, p4, p5, p6, f, rfl, hb, h0, h6, ho⟩
  exact ⟨Co.cells (.slice ta c.ts.length tc) (.slice la c.xs.length lc) (.slice na c.ns.length nc) (.slice ua c.bv.length uc) (.slice xa c.bc.length xc) (.slice ka c.ks.length kc) (.slice ga c.fv.length gc) (.slice ha c.fc.length hc) (c.tick n), p0, p6, f, rfl, Wide.of _ _ _ _ _ _ _ _ _ _ _ _ _ _ _ _ (c.tick n), hb, h0, h6, _, _, _, _, _, _, _, _, _, _, _, _, _, _, _, _, p1, p2, p3, p4, p5, rfl, ho⟩
theorem spL (L : Array Value) (c : Co) (n : Int) (w : World) (h : AtL w L c) (hs : c.Sm) :
    Calls Try.prog 5 #[.agg L, .int .i64 n] w fun r w' => ∃ M, r = .returned (.agg M) ∧ Wide M ∧ Below w.heap.size w w' ∧ AtL w' M (c.tick n) := by
  obtain ⟨a1, a2, a3, a4, a5, a6, a7, a8, rfl, h2⟩ := h
  refine (spTickCoord_any _ _ _ _ _ _ _ _ c n w h2 hs).mono ?_
  rintro r w' ⟨ta, tc, la, lc, na, nc, ua, uc, xa, xc, ka, kc, ga, gc, ha, hc, rfl, hb, ho⟩
  exact ⟨Co.cells (.slice ta c.ts.length tc) (.slice la c.xs.length lc) (.slice na c.ns.length nc) (.slice ua c.bv.length uc) (.slice xa c.bc.length xc) (.slice ka c.ks.length kc) (.slice ga c.fv.length gc) (.slice ha c.fc.length hc) (c.tick n), rfl, Wide.of _ _ _ _ _ _ _ _ _ _ _ _ _ _ _ _ (c.tick n), hb, _, _, _, _, _, _, _, _, rfl, ho⟩
theorem eqL (L M : Array Value) (c : Co) (w : World) (h : AtL w L c) (h' : AtL w M c) (hs : c.Sm) :
    Calls Try.prog 8 #[.agg L, .agg M] w fun e w' => e = .returned (.bool true) ∧ Below w.heap.size w w' := by
  obtain ⟨a1, a2, a3, a4, a5, a6, a7, a8, rfl, h2⟩ := h
  obtain ⟨b1, b2, b3, b4, b5, b6, b7, b8, rfl, h3⟩ := h'
  exact eqCoord_any _ _ _ _ _ _ _ _ _ _ _ _ _ _ _ _ c w h2 h3 hs
theorem markL (p0 p6 : Nat) (L : Array Value) (c : Co) (f : Nat → Te) (w : World) (h : OwnL p0 p6 w L c f) (hs : c.Sm) (hz : p6 ≤ w.heap.size) :
    Calls Try.prog 9 #[.agg L, .int .i64 1] w fun r w' => r = .returned (.int .i64 (c.k6 f : Int)) ∧ MkL p0 p6 w' L c f ∧ FM p0 p6 w w' := by
  obtain ⟨ta, tc, la, lc, na, nc, ua, uc, xa, xc, ka, kc, ga, gc, ha, hc, p1, p2, p3, p4, p5, rfl, h2⟩ := h
  exact (markOwn p0 p1 p2 p3 p4 p5 p6 _ _ _ _ _ _ _ _ _ _ _ _ _ _ _ _ c f w h2 hs hz).mono fun _ _ hh => ⟨hh.1, ⟨_, _, _, _, _, _, _, _, _, _, _, _, _, _, _, _, p1, p2, p3, p4, p5, rfl, hh.2.1, h2.ord, h2.s⟩, hh.2.2⟩
theorem heldL (p0 p6 : Nat) (L : Array Value) (c : Co) (f : Nat → Te) (w : World) (h : MkL p0 p6 w L c f) (hs : c.Sm) (hz : p6 ≤ w.heap.size) :
    Calls Try.prog 10 #[.agg L, .int .i64 1] w fun r w' => r = .returned (.int .i64 (c.k6 f : Int)) ∧ Below w.heap.size w w' := by
  obtain ⟨ta, tc, la, lc, na, nc, ua, uc, xa, xc, ka, kc, ga, gc, ha, hc, p1, p2, p3, p4, p5, rfl, h2, h3, h4⟩ := h
  exact heldOwn p0 p1 p2 p3 p4 p5 p6 _ _ _ _ _ _ _ _ _ _ _ _ _ _ _ _ c f w h2 h3 h4 hs hz
/-- A whole coord is stored into the block that was made last. -/
theorem wpList_storeNew {ops : Array Oper} {rest : List Oper} {o : Oper} {a : Act} {w : World} {Q : Exit → Act → World → Prop} (hgd : o.guard = none) (x y : Operand) (ho : o.op = .store 43 x y)
    (cells : Array Value) (hw : Wide cells) (H : Nat) (hH : w.heap.size = H) (hx : a.eval x = .pointer (some ⟨H, 0, none⟩)) (hy : a.eval y = .agg cells) (old : Array Value) (hold : old.size = 17)
    (h : wpList Try.prog ops Q rest (a.put o.dst undef) (w.alloc (.cells cells 43))) : wpList Try.prog ops Q (o :: rest) a (w.alloc (.cells old 43)) := by
  subst hH
  refine wpList_store17 hgd 43 x y ho w.heap.size cells hx hy 43 old (heap_alloc_new _ _) ?_ (by rw [hold, hw.1]) hw.2 ?_
  · rw [hw.1]
    kernel_rfl
  · rw [World.setRow_alloc_new]
    exact h
end PartKdU
section PartLwTc
open Go.RowKit

set_option maxRecDepth 100000 in
set_option maxHeartbeats 16000000 in
theorem lwTickL (A : Array Value) (c : Co) (n : Int) (w : World) (hA : Wide A) (h : AtL w A c) (hf : c.Fit) :
    Calls Try.prog 3 #[.agg A, .int .i64 n] w fun e w' => e = .returned (.bool true) ∧ Below w.heap.size w w' := by
  have HH := hidOfT (fun (W : World) (hb : Below w.heap.size w W) => h.keep hb)
  have HFT := hidOfT hf
  have HWA := hidOfT hA
  clear h hf hA
  have HB0 : Hid (Below w.heap.size w (w.alloc (.cells A 32))) := (Below.refl _ _).alloc (Nat.le_refl _) _
  have HA0 : Hid ((w.alloc (.cells A 32)).heap[w.heap.size]? = some (.cells A 32 (0, 0))) := heap_alloc_new _ _
  go_enter Try.func3, Try.ntmps3
  go_wp2_with (first
    | (refine wpList_load_row rfl 32 _ rfl w.heap.size rfl 32 _ (0, 0) _ HA0.out Try.underlying32 rfl (by rw [HWA.out.1]; kernel_rfl) ?_))
  generalize w.alloc (.cells A 32) = W0 at *
  have HQ : Hid (∀ W, Below W0.heap.size W0 W → W.heap[w.heap.size]? = some (.cells A 32 (0, 0)) ∧ Below w.heap.size w W) := fun W hb => ⟨(hb.block _ (blk_lt HA0.out)).trans HA0.out, HB0.out.trans (hb.mono HB0.out.size)⟩
  refine (szL A c W0 (HH.out _ HB0.out) HFT.out).mono ?_
  rintro e w1 ⟨hb1, r, rfl, hr⟩
  have E1 : Hid (Below W0.heap.size W0 w1) := hb1
  clear hb1 HB0 HA0 HFT
  rcases hr with rfl | ⟨hr0, hsm⟩
  · go_wp2
    go_ret
    exact ⟨rfl, (HQ.out _ E1.out).2⟩
  have d1 : decide (r < 0) = false := decide_eq_false (by omega)
  have HS := hidOfT hsm
  clear hsm hr0
  have CT := hidOfT (fun (W : World) (hb : Below W0.heap.size W0 W) => toL A c W (HH.out _ (HQ.out _ hb).2) HS.out)
  have HA1 := hidOfT (HQ.out _ E1.out).1
  clear HH
  go_wp2_with (first
    | (refine wpList_load_row rfl 32 _ rfl w.heap.size rfl 32 _ (0, 0) _ HA1.out Try.underlying32 rfl (by rw [HWA.out.1]; kernel_rfl) ?_))
  refine (CT.out _ E1.out).mono ?_
  rintro e w2 ⟨T, pT0, pT6, fT, rfl, -, hb2, -, -, how2⟩
  have E2 : Hid (Below W0.heap.size W0 w2) := E1.out.trans (hb2.mono E1.out.size)
  have AT2 := hidOfT how2.at
  clear hb2 how2 E1 HA1
  go_wp2_with fail
  refine (spL T c n w2 AT2.out HS.out).mono ?_
  rintro e w3 ⟨L0, rfl, hw0, hb3, hat3⟩
  have HW0 := hidOfT hw0
  have E3 : Hid (Below W0.heap.size W0 w3) := E2.out.trans (hb3.mono E2.out.size)
  have hal : Below w3.heap.size w3 (w3.alloc (.cells L0 43)) := (Below.refl _ _).alloc (Nat.le_refl _) _
  have E4 : Hid (Below W0.heap.size W0 (w3.alloc (.cells L0 43))) := E3.out.trans (hal.mono E3.out.size)
  have HA4 := hidOfT (HQ.out _ E4.out).1
  have H04 : Hid ((w3.alloc (.cells L0 43)).heap[w3.heap.size]? = some (.cells L0 43 (0, 0))) := heap_alloc_new _ _
  have AT4 := hidOfT (hat3.keep hal)
  clear hw0 hb3 hat3 hal E3 E2 AT2
  go_wp2_with (first
    | (refine wpList_storeNew rfl _ _ rfl L0 HW0.out w3.heap.size (by first | rfl | simp) rfl rfl _ rfl ?_)
    | (refine wpList_load_row rfl 32 _ rfl w.heap.size rfl 32 _ (0, 0) _ HA4.out Try.underlying32 rfl (by rw [HWA.out.1]; kernel_rfl) ?_))
  generalize w3.alloc (.cells L0 43) = W4 at *
  generalize w3.heap.size = b0 at *
  have HK4 : Hid (∀ W, Below W4.heap.size W4 W → W.heap[w.heap.size]? = some (.cells A 32 (0, 0)) ∧ W.heap[b0]? = some (.cells L0 43 (0, 0)) ∧ Below W0.heap.size W0 W ∧ AtL W L0 (c.tick n)) := fun W hb => ⟨(hb.block _ (blk_lt HA4.out)).trans HA4.out, (hb.block _ (blk_lt H04.out)).trans H04.out, E4.out.trans (hb.mono E4.out.size), AT4.out.keep hb⟩
  refine (CT.out _ E4.out).mono ?_
  rintro e w5 ⟨X, x0, x6, fX, rfl, hwX, hb5, hx0, hx6, how5⟩
  have HWX := hidOfT hwX
  have hal : Below w5.heap.size w5 (w5.alloc (.cells X 43)) := (Below.refl _ _).alloc (Nat.le_refl _) _
  have E6 : Hid (Below W4.heap.size W4 (w5.alloc (.cells X 43))) := hb5.trans (hal.mono hb5.size)
  have HX6 : Hid ((w5.alloc (.cells X 43)).heap[w5.heap.size]? = some (.cells X 43 (0, 0))) := heap_alloc_new _ _
  have OW6 := hidOfT (how5.keep (fun q q1 q2 => hal.block q (by omega)))
  have ORX : Hid (W4.heap.size ≤ x0 ∧ x0 ≤ x6 ∧ x6 ≤ w5.heap.size) := ⟨hx0, how5.le, hx6⟩
  clear hwX hb5 hx0 hx6 how5 hal E4 HA4 H04 AT4
  go_wp2_with (first
    | (refine wpList_storeNew rfl _ _ rfl X HWX.out w5.heap.size (by first | rfl | simp) rfl rfl _ rfl ?_)
    | (refine wpList_load_row rfl 43 _ rfl w5.heap.size rfl 43 _ (0, 0) _ HX6.out Try.underlying43 rfl (by rw [HWX.out.1]; kernel_rfl) ?_))
  generalize w5.alloc (.cells X 43) = W6 at *
  have ORX2 : Hid (w5.heap.size < W6.heap.size) := blk_lt HX6.out
  generalize w5.heap.size = bX at *
  have HK6 : Hid (∀ W, Below W6.heap.size W6 W → W.heap[bX]? = some (.cells X 43 (0, 0)) ∧ OwnL x0 x6 W X c fX ∧ Below W4.heap.size W4 W) := fun W hb => ⟨(hb.block _ (blk_lt HX6.out)).trans HX6.out, OW6.out.keep (fun q q1 q2 => hb.block q (by have := ORX.out; have := ORX2.out; omega)), E6.out.trans (hb.mono E6.out.size)⟩
  refine (imL X c n W6 OW6.out.at HS.out).mono ?_
  rintro e w7 ⟨G, g0, g6, fG, rfl, hwG, hb7, hg0, hg6, how7⟩
  have HWG := hidOfT hwG
  have hal : Below w7.heap.size w7 (w7.alloc (.cells G 43)) := (Below.refl _ _).alloc (Nat.le_refl _) _
  have E8 : Hid (Below W6.heap.size W6 (w7.alloc (.cells G 43))) := hb7.trans (hal.mono hb7.size)
  have HG8 : Hid ((w7.alloc (.cells G 43)).heap[w7.heap.size]? = some (.cells G 43 (0, 0))) := heap_alloc_new _ _
  have OW8 := hidOfT (how7.keep (fun q q1 q2 => hal.block q (by omega)))
  have ORG : Hid (W6.heap.size ≤ g0 ∧ g0 ≤ g6 ∧ g6 ≤ w7.heap.size) := ⟨hg0, how7.le, hg6⟩
  have H08 := hidOfT (HK4.out _ (HK6.out _ E8.out).2.2).2.1
  clear hwG hb7 hg0 hg6 how7 hal OW6 E6 HX6
  go_wp2_with (first
    | (refine wpList_storeNew rfl _ _ rfl G HWG.out w7.heap.size (by first | rfl | simp) rfl rfl _ rfl ?_)
    | (refine wpList_load_row rfl 43 _ rfl w7.heap.size rfl 43 _ (0, 0) _ HG8.out Try.underlying43 rfl (by rw [HWG.out.1]; kernel_rfl) ?_)
    | (refine wpList_load_row rfl 43 _ rfl b0 rfl 43 _ (0, 0) _ H08.out Try.underlying43 rfl (by rw [HW0.out.1]; kernel_rfl) ?_))
  generalize w7.alloc (.cells G 43) = W8 at *
  have ORG2 : Hid (w7.heap.size < W8.heap.size) := blk_lt HG8.out
  generalize w7.heap.size = bG at *
  have HK8 : Hid (∀ W, Below W8.heap.size W8 W → W.heap[bG]? = some (.cells G 43 (0, 0)) ∧ OwnL g0 g6 W G (c.tick n) fG ∧ Below W6.heap.size W6 W) := fun W hb => ⟨(hb.block _ (blk_lt HG8.out)).trans HG8.out, OW8.out.keep (fun q q1 q2 => hb.block q (by have := ORG.out; have := ORG2.out; omega)), E8.out.trans (hb.mono E8.out.size)⟩
  refine (eqL G L0 (c.tick n) W8 OW8.out.at (HK4.out _ (HK6.out _ E8.out).2.2).2.2.2 (Co.tickSm HS.out n)).mono ?_
  rintro e w9 ⟨rfl, hb9⟩
  have E9 : Hid (Below W8.heap.size W8 w9) := hb9
  clear hb9 OW8 E8 HG8 H08
  have HR9 : Hid (∀ W, Below w9.heap.size w9 W → W.heap[bX]? = some (.cells X 43 (0, 0)) ∧ W.heap[w.heap.size]? = some (.cells A 32 (0, 0)) ∧ Below W0.heap.size W0 W ∧ AtL W X c) := fun W hb => by
    have e8 := HK8.out _ (E9.out.trans (hb.mono E9.out.size))
    have e6 := HK6.out _ e8.2.2
    have e4 := HK4.out _ e6.2.2
    exact ⟨e6.1, e4.1, e4.2.2.1, e6.2.1.at⟩
  have HQB := hidOfT (fun (W : World) (hb : Below W0.heap.size W0 W) => (HQ.out W hb).2)
  clear HQ

  go_wp2_with fail
  refine wp_region_noPanic ?_
  have HSS : Hid (w9.drew.heap[bX]? = some (.cells X 43 (0, 0)) ∧ w9.drew.heap[w.heap.size]? = some (.cells A 32 (0, 0)) ∧ Hid (Below w9.heap.size w9 w9.drew)) := ⟨(HR9.out w9 (Below.refl _ _)).1, (HR9.out w9 (Below.refl _ _)).2.1, (Below.refl _ _).drew⟩
  refine wp_region_held_drew (S := (fun W' => W'.heap[bX]? = some (.cells X 43 (0, 0)) ∧ W'.heap[w.heap.size]? = some (.cells A 32 (0, 0)) ∧ Hid (Below w9.heap.size w9 W'))) (by kernel_rfl) HSS.out (fun _ => ?_)
  refine wpAnyH_take (i := 0) (v := .agg X) rfl (by kernel_rfl) (by kernel_rfl) (by kernel_rfl) (fun _ _ _ h => h) (yields17 (by kernel_rfl) 43 _ rfl bX rfl 43 _ (0, 0) (fun W h => h.1) Try.underlying43 (by rw [HWX.out.1]; kernel_rfl)) HSS.out ?_
  show wpAnyH _ _ _ _ _ _ _ (Act.put _ (some 31) _) _
  (try simp only [Act.put]); (try simp only [List.setIfInBounds_toArray]); (try simp only [List.set_cons_succ, List.set_cons_zero])
  refine wpAnyH_take (i := 1) (v := .agg A) rfl (by kernel_rfl) (by kernel_rfl) (by kernel_rfl) (fun _ _ _ h => h) (yields17 (by kernel_rfl) 32 _ rfl w.heap.size rfl 32 _ (0, 0) (fun W h => h.2.1) Try.underlying32 (by rw [HWA.out.1]; kernel_rfl)) HSS.out ?_
  show wpAnyH _ _ _ _ _ _ _ (Act.put _ (some 32) _) _
  (try simp only [Act.put]); (try simp only [List.setIfInBounds_toArray]); (try simp only [List.set_cons_succ, List.set_cons_zero])
  refine wpAnyH_ready (rs := [2]) (by kernel_rfl) (by simp) ?_
  refine AllReadyH.cons rfl (fun K hK => ?_) AllReadyH.nil
  go_simp
  go_at_call 6
  refine (CT.out _ (HR9.out _ HSS.out.2.2.out).2.2.1).mono ?_
  rintro e w10 ⟨P, y0, y6, fP, rfl, -, hb10, -, -, how10⟩
  have AT10 := hidOfT how10.at
  have HS2 : Hid (w10.heap[bX]? = some (.cells X 43 (0, 0)) ∧ w10.heap[w.heap.size]? = some (.cells A 32 (0, 0)) ∧ Hid (Below w9.heap.size w9 w10)) := ⟨(hb10.block _ (blk_lt HSS.out.1)).trans HSS.out.1, (hb10.block _ (blk_lt HSS.out.2.1)).trans HSS.out.2.1, HSS.out.2.2.out.trans (hb10.mono HSS.out.2.2.out.size)⟩
  try dsimp only
  refine hK.out _ _ HS2.out (fun _ => ?_)
  clear hK K HSS hb10 how10
  have HSS := hidOfT HS2.out
  clear HS2
  try show wpAnyH _ _ _ _ _ _ _ (Act.put _ (some 33) _) _
  (try simp only [Act.put]); (try simp only [List.setIfInBounds_toArray]); (try simp only [List.set_cons_succ, List.set_cons_zero])
  refine wpAnyH_ready (rs := [3]) (by kernel_rfl) (by simp) ?_
  refine AllReadyH.cons rfl (fun K hK => ?_) AllReadyH.nil
  go_simp
  go_at_call 8
  refine (eqL X P c w10 (HR9.out _ HSS.out.2.2.out).2.2.2 AT10.out HS.out).mono ?_
  rintro e w11 ⟨rfl, hb11⟩
  have HS2 : Hid (w11.heap[bX]? = some (.cells X 43 (0, 0)) ∧ w11.heap[w.heap.size]? = some (.cells A 32 (0, 0)) ∧ Hid (Below w9.heap.size w9 w11)) := ⟨(hb11.block _ (blk_lt HSS.out.1)).trans HSS.out.1, (hb11.block _ (blk_lt HSS.out.2.1)).trans HSS.out.2.1, HSS.out.2.2.out.trans (hb11.mono HSS.out.2.2.out.size)⟩
  try dsimp only
  refine hK.out _ _ HS2.out (fun _ => ?_)
  clear hK K HSS hb11 AT10
  have HSS := hidOfT HS2.out
  clear HS2
  try show wpAnyH _ _ _ _ _ _ _ (Act.put _ (some 34) _) _
  (try simp only [Act.put]); (try simp only [List.setIfInBounds_toArray]); (try simp only [List.set_cons_succ, List.set_cons_zero])
  refine wpAnyH_take (i := 4) (v := ?_) rfl (by kernel_rfl) (by kernel_rfl) (by kernel_rfl) (fun _ _ _ h => h) (Or.inl ⟨by kernel_rfl, ?_⟩) HSS.out ?_
  rotate_left
  · (intro u9 hSw; (try dsimp only at hSw); go_simp; try with_reducible rfl)
  show wpAnyH _ _ _ _ _ _ _ (Act.put _ (some 35) _) _
  (try simp only [Act.put]); (try simp only [List.setIfInBounds_toArray]); (try simp only [List.set_cons_succ, List.set_cons_zero])
  refine wpAnyH_done (by kernel_rfl) ?_ _
  refine NoPanic.normal ?_
  have E11 : Hid (Below W8.heap.size W8 w11) := E9.out.trans (HSS.out.2.2.out.mono E9.out.size)
  clear HSS E9 HR9
  have XO11 := hidOfT (HK6.out _ (HK8.out _ E11.out).2.2)
  have dK : decide ((c.k6 fX : Int) < 0) = false := decide_eq_false (by omega)
  go_wp2_with (first
    | (refine wpList_load_row rfl 43 _ rfl bX rfl 43 _ (0, 0) _ XO11.out.1 Try.underlying43 rfl (by rw [HWX.out.1]; kernel_rfl) ?_))
  refine (markL x0 x6 X c fX w11 XO11.out.2.1 HS.out (by have := ORX.out; have := ORX2.out; have := E11.out.size; have := ORG.out; have := ORG2.out; omega)).mono ?_
  rintro e w12 ⟨rfl, -, hm12⟩
  have hfm : Below W4.heap.size w11 w12 := ⟨hm12.1.1, hm12.1.2.1, hm12.1.2.2, hm12.2.1, fun k hk => hm12.2.2 k (by have := XO11.out.2.2.size; omega) (.inl (by have := ORX.out; omega))⟩
  have E12 : Hid (Below W4.heap.size W4 w12) := XO11.out.2.2.trans hfm
  have GO11 := hidOfT (HK8.out _ E11.out)
  have hge : ∀ q, W6.heap.size ≤ q → q < W8.heap.size → w12.heap[q]? = w11.heap[q]? := fun q q1 q2 => hm12.2.2 q (by have := E11.out.size; omega) (.inr (by have := ORX.out; have := ORX2.out; omega))
  have GB12 : Hid (w12.heap[bG]? = some (.cells G 43 (0, 0))) := (hge bG (by have := ORG.out; omega) ORG2.out).trans GO11.out.1
  have GO12 : Hid (OwnL g0 g6 w12 G (c.tick n) fG) := GO11.out.2.1.keep (fun q q1 q2 => hge q (by have := ORG.out; omega) (by have := ORG.out; have := ORG2.out; omega))
  have SZ12 : Hid (W8.heap.size ≤ w12.heap.size ∧ W4.heap.size ≤ W6.heap.size) := ⟨Nat.le_trans E11.out.size hm12.2.1, by have := ORX.out; have := ORX2.out; omega⟩
  have K12 := hidOfT (HK4.out _ E12.out)
  clear hm12 hfm hge XO11 GO11 E11 HK6 HK8
  go_wp2_with (first
    | (refine wpList_load17w (by rfl) 43 _ rfl bG rfl 43 _ (0, 0) GB12.out Try.underlying43 (by rw [HWG.out.1]; kernel_rfl) ?_)
    | (refine wpList_load17w (by rfl) 43 _ rfl b0 rfl 43 _ (0, 0) K12.out.2.1 Try.underlying43 (by rw [HW0.out.1]; kernel_rfl) ?_))
  refine (eqL G L0 (c.tick n) w12 GO12.out.at K12.out.2.2.2 (Co.tickSm HS.out n)).mono ?_
  rintro e w13 ⟨rfl, hb13⟩
  have E13 : Hid (Below W4.heap.size W4 w13) := E12.out.trans (hb13.mono E12.out.size)
  have GB13 := hidOfT ((hb13.block _ (blk_lt GB12.out)).trans GB12.out)
  have GO13 := hidOfT (GO12.out.keep (fun q q1 q2 => hb13.block q (by have := SZ12.out; have := ORG.out; have := ORG2.out; omega)))
  have SZ13 : Hid (W8.heap.size ≤ w13.heap.size) := Nat.le_trans SZ12.out.1 hb13.size
  clear hb13 E12 GB12 GO12 K12 dK
  have dG : decide (((c.tick n).k6 fG : Int) < 0) = false := decide_eq_false (by omega)
  have qG : (((c.tick n).k6 fG : Int) != ((c.tick n).k6 fG : Int)) = false := by simp
  go_wp2_with (first
    | (refine wpList_load_row rfl 43 _ rfl bG rfl 43 _ (0, 0) _ GB13.out Try.underlying43 rfl (by rw [HWG.out.1]; kernel_rfl) ?_))
  refine (markL g0 g6 G (c.tick n) fG w13 GO13.out (Co.tickSm HS.out n) (by have := SZ13.out; have := ORG.out; have := ORG2.out; omega)).mono ?_
  rintro e w14 ⟨rfl, hmk14, hm14⟩
  have E14 : Hid (Below W4.heap.size W4 w14) := E13.out.trans ⟨hm14.1.1, hm14.1.2.1, hm14.1.2.2, hm14.2.1, fun k hk => hm14.2.2 k (by have := E13.out.size; omega) (.inl (by have := SZ12.out; have := ORG.out; omega))⟩
  have GB14 : Hid (w14.heap[bG]? = some (.cells G 43 (0, 0))) := (hm14.2.2 bG (blk_lt GB13.out) (.inr (by have := ORG.out; omega))).trans GB13.out
  have GM14 := hidOfT hmk14
  have SZ14 : Hid (W8.heap.size ≤ w14.heap.size) := Nat.le_trans SZ13.out hm14.2.1
  clear hmk14 hm14 E13 GB13 GO13 SZ13
  go_wp2_with (first
    | (refine wpList_load_row rfl 43 _ rfl bG rfl 43 _ (0, 0) _ GB14.out Try.underlying43 rfl (by rw [HWG.out.1]; kernel_rfl) ?_))
  refine (heldL g0 g6 G (c.tick n) fG w14 GM14.out (Co.tickSm HS.out n) (by have := SZ14.out; have := ORG.out; have := ORG2.out; omega)).mono ?_
  rintro e w15 ⟨rfl, hb15⟩
  have E15 : Hid (Below W4.heap.size W4 w15) := E14.out.trans (hb15.mono E14.out.size)
  have GB15 := hidOfT ((hb15.block _ (blk_lt GB14.out)).trans GB14.out)
  have GM15 : Hid (MkL g0 g6 w15 G (c.tick n) fG) := GM14.out.keep (fun q q1 q2 => hb15.block q (by have := SZ14.out; have := ORG.out; have := ORG2.out; omega))
  have SZ15 : Hid (W8.heap.size ≤ w15.heap.size) := Nat.le_trans SZ14.out hb15.size
  have K15 := hidOfT (HK4.out _ E15.out)
  clear hb15 E14 GB14 GM14 SZ14
  go_wp2_with (first
    | (refine wpList_load_row rfl 32 _ rfl w.heap.size rfl 32 _ (0, 0) _ K15.out.1 Try.underlying32 rfl (by rw [HWA.out.1]; kernel_rfl) ?_))
  refine (CT.out _ K15.out.2.2.1).mono ?_
  rintro e w16 ⟨R, y0, y6, fR, rfl, -, hb16, -, -, how16⟩
  have E16 : Hid (Below w15.heap.size w15 w16) := hb16
  have AT16 := hidOfT how16.at
  clear hb16 how16 K15
  go_wp2_with fail
  refine (imL R c n w16 AT16.out HS.out).mono ?_
  rintro e w17 ⟨HL, z0, z6, fH, rfl, hwH, hb17, -, -, how17⟩
  have HWH := hidOfT hwH
  have hal : Below w17.heap.size w17 (w17.alloc (.cells HL 43)) := (Below.refl _ _).alloc (Nat.le_refl _) _
  have E18 : Hid (Below w15.heap.size w15 (w17.alloc (.cells HL 43))) := (E16.out.trans (hb17.mono E16.out.size)).trans (hal.mono (by have := E16.out.size; have := hb17.size; omega))
  have HH18 : Hid ((w17.alloc (.cells HL 43)).heap[w17.heap.size]? = some (.cells HL 43 (0, 0))) := heap_alloc_new _ _
  have AT18 := hidOfT (how17.at.keep hal)
  have K18 := hidOfT (HK4.out _ (E15.out.trans (E18.out.mono E15.out.size)))
  clear hwH hb17 how17 hal E16 AT16
  go_wp2_with (first
    | (refine wpList_storeNew rfl _ _ rfl HL HWH.out w17.heap.size (by first | rfl | simp) rfl rfl _ rfl ?_)
    | (refine wpList_load_row rfl 43 _ rfl w17.heap.size rfl 43 _ (0, 0) _ HH18.out Try.underlying43 rfl (by rw [HWH.out.1]; kernel_rfl) ?_)
    | (refine wpList_load_row rfl 43 _ rfl b0 rfl 43 _ (0, 0) _ K18.out.2.1 Try.underlying43 rfl (by rw [HW0.out.1]; kernel_rfl) ?_))
  generalize w17.alloc (.cells HL 43) = W18 at *
  refine (eqL HL L0 (c.tick n) W18 AT18.out K18.out.2.2.2 (Co.tickSm HS.out n)).mono ?_
  rintro e w19 ⟨rfl, hb19⟩
  have E19 : Hid (Below w15.heap.size w15 w19) := E18.out.trans (hb19.mono E18.out.size)
  have GB19 := hidOfT ((E19.out.block _ (blk_lt GB15.out)).trans GB15.out)
  have GM19 : Hid (MkL g0 g6 w19 G (c.tick n) fG) := GM15.out.keep (fun q q1 q2 => E19.out.block q (by have := SZ15.out; have := ORG.out; have := ORG2.out; omega))
  have K19 := hidOfT (HK4.out _ (E15.out.trans (E19.out.mono E15.out.size)))
  clear hb19 K18 AT18 E18 HH18
  go_wp2_with (first
    | (refine wpList_load_row rfl 43 _ rfl bG rfl 43 _ (0, 0) _ GB19.out Try.underlying43 rfl (by rw [HWG.out.1]; kernel_rfl) ?_))
  refine (heldL g0 g6 G (c.tick n) fG w19 GM19.out (Co.tickSm HS.out n) (by have := SZ15.out; have := E19.out.size; have := ORG.out; have := ORG2.out; omega)).mono ?_
  rintro e w20 ⟨rfl, hb20⟩
  have HEND := hidOfT (HQB.out _ (K19.out.2.2.1.trans (hb20.mono K19.out.2.2.1.size)))
  clear hb20 K19 E19 GB19 GM19
  go_wp2_with fail
  go_ret
  exact ⟨rfl, HEND.out⟩

theorem lwTick_any (tv lv nv bu bx kv fu fx : Value) (c : Co) (n : Int) (w : World) (h : Co.At w tv lv nv bu bx kv fu fx c) (hf : c.Fit) :
    Calls Try.prog 3 #[.agg (Co.cells tv lv nv bu bx kv fu fx c), .int .i64 n] w fun e w' => e = .returned (.bool true) ∧ Below w.heap.size w w' := by
  refine lwTickL _ c n w ?_ ⟨_, _, _, _, _, _, _, _, rfl, h⟩ hf
  obtain ⟨ta, tc, rfl, -⟩ := h.t
  obtain ⟨la, lc, rfl, -⟩ := h.l
  obtain ⟨na, nc, rfl, -⟩ := h.n
  obtain ⟨ua, uc, rfl, -⟩ := h.u
  obtain ⟨xa, xc, rfl, -⟩ := h.x
  obtain ⟨ka, kc, rfl, -⟩ := h.k
  obtain ⟨ga, gc, rfl, -⟩ := h.fu
  obtain ⟨ha, hc, rfl, -⟩ := h.fx
  exact Wide.of _ _ _ _ _ _ _ _ _ _ _ _ _ _ _ _ c
end PartLwTc
end Go.Proofs.Ythnmopldpgdenaa
