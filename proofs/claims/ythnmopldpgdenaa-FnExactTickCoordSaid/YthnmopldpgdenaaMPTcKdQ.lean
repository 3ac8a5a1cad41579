/- The specification's copy of who gives and gathers. -/
import Derived.Test.YthnmopldpgdenaaMPTcKdP
namespace Go.Proofs.Ythnmopldpgdenaa
open Go.RowKit

theorem spCopyIn (tv lv : Value) (o : ByteArray) (vs : List Vr) (cs : List Cl) (w : World) (h1 : VrAt w tv vs) (h2 : ClAt w lv cs) (hs : StSmall vs cs o) :
    Calls Try.prog 38 #[.agg #[tv, lv, .string o]] w fun e w' => ∃ ua uc xa xc, e = .returned (.agg #[.slice ua vs.length uc, .slice xa cs.length xc, .string o]) ∧ Below w.heap.size w w' ∧ VrIn w.heap.size w'.heap.size w' (.slice ua vs.length uc) vs ∧ ClIn w.heap.size w'.heap.size w' (.slice xa cs.length xc) cs :=
  (spCopy tv lv o vs cs w h1 h2 hs).mono fun _ _ ⟨u, x, he, h3, h4, hb⟩ => by
    obtain ⟨ua, uc, hu, -⟩ := id h3
    obtain ⟨xa, xc, hx, -⟩ := id h4
    rw [hu] at h3
    rw [hx] at h4
    rw [hu, hx] at he
    exact ⟨ua, uc, xa, xc, he, hb, h3, h4⟩
set_option maxHeartbeats 16000000 in
set_option maxRecDepth 100000 in
theorem spCopyCoord_any (tv lv nv bu bx kv fu fx : Value) (c : Co) (w : World) (h : Co.At w tv lv nv bu bx kv fu fx c) (hs : c.Sm) :
    Calls Try.prog 15 #[.agg (Co.cells tv lv nv bu bx kv fu fx c)] w fun r w' => ∃ ta tc la lc na nc ua uc xa xc ka kc ga gc ha hc, r = .returned (.agg #[.slice ta c.ts.length tc, .slice la c.xs.length lc, .int .i64 c.bg, .int .i64 c.li, .int .i64 c.en, .slice na c.ns.length nc, .slice ua c.bv.length uc, .slice xa c.bc.length xc, .string c.bo, .int .i64 c.cnt, .slice ka c.ks.length kc, .int .i64 c.now, .int .i64 c.tries, .bool c.over, .slice ga c.fv.length gc, .slice ha c.fc.length hc, .string c.fo]) ∧ Below w.heap.size w w' ∧ ∀ W, w'.heap.size ≤ W.heap.size → (∀ q, w.heap.size ≤ q → q < w'.heap.size → W.heap[q]? = w'.heap[q]?) → Co.At W (.slice ta c.ts.length tc) (.slice la c.xs.length lc) (.slice na c.ns.length nc) (.slice ua c.bv.length uc) (.slice xa c.bc.length xc) (.slice ka c.ks.length kc) (.slice ga c.fv.length gc) (.slice ha c.fc.length hc) c := by
  have HH : Hid (∀ W, Below w.heap.size w W → KsAt W kv c.ks) := fun W hb => h.k.keep hb
  have HSM : Hid (KsSm c.ks c.ks.length) := hs.kk
  have hkl := hs.kl
  have hfew : c.ts.length ≤ 1048576 ∧ c.xs.length ≤ 1048576 ∧ c.ns.length ≤ 1048576 := ⟨hs.tl, hs.xl, hs.nl⟩
  have HFW := hidOfT hfew
  have C1 := hidOfT (fun (W : World) (hb : Below w.heap.size w W) => h.t.keep hb)
  have C2 := hidOfT (fun (W : World) (hb : Below w.heap.size w W) => h.l.keep hb)
  have C3 := hidOfT (fun (W : World) (hb : Below w.heap.size w W) => h.n.keep hb)
  have C4 := hidOfT (fun (W : World) (hb : Below w.heap.size w W) => spCopyIn bu bx c.bo c.bv c.bc W (h.u.keep hb) (h.x.keep hb) hs.b)
  have C5 := hidOfT (fun (W : World) (hb : Below w.heap.size w W) => spCopyIn fu fx c.fo c.fv c.fc W (h.fu.keep hb) (h.fx.keep hb) hs.f)
  obtain ⟨ta, tc, rfl, -⟩ := h.t
  obtain ⟨la, lc, rfl, -⟩ := h.l
  obtain ⟨na, nc, rfl, -⟩ := h.n
  obtain ⟨ua, uc, rfl, -⟩ := h.u
  obtain ⟨xa, xc, rfl, -⟩ := h.x
  obtain ⟨ka, kc, rfl, -⟩ := h.k
  obtain ⟨ga, gc, rfl, -⟩ := h.fu
  obtain ⟨ha, hc, rfl, -⟩ := h.fx
  unfold Co.cells
  obtain ⟨N, hN⟩ : ∃ N, N = c.ks.length := ⟨_, rfl⟩
  have HNK : Hid (N = c.ks.length) := hN
  rw [← hN] at hkl HH
  clear h hs hfew
  simp only [← hN]
  clear hN
  have HB : Hid (Below w.heap.size w (((w.alloc (.cells #[.slice ta c.ts.length tc, .slice la c.xs.length lc, .int .i64 c.bg, .int .i64 c.li, .int .i64 c.en, .slice na c.ns.length nc, .slice ua c.bv.length uc, .slice xa c.bc.length xc, .string c.bo, .int .i64 c.cnt, .slice ka N kc, .int .i64 c.now, .int .i64 c.tries, .bool c.over, .slice ga c.fv.length gc, .slice ha c.fc.length hc, .string c.fo] 43)).alloc (.cells #[.slice none 0 0, .slice none 0 0, .int .i64 0, .int .i64 0, .int .i64 0, .slice none 0 0, .slice none 0 0, .slice none 0 0, .string ⟨#[]⟩, .int .i64 0, .slice none 0 0, .int .i64 0, .int .i64 0, .bool false, .slice none 0 0, .slice none 0 0, .string ⟨#[]⟩] 43)).alloc (.cells #[.slice ta c.ts.length tc, .slice la c.xs.length lc, .int .i64 c.bg, .int .i64 c.li, .int .i64 c.en, .slice na c.ns.length nc, .slice ua c.bv.length uc, .slice xa c.bc.length xc, .string c.bo, .int .i64 c.cnt, .slice ka N kc, .int .i64 c.now, .int .i64 c.tries, .bool c.over, .slice ga c.fv.length gc, .slice ha c.fc.length hc, .string c.fo] 43))) := ((((Below.refl _ _).alloc (Nat.le_refl _) _).alloc (by simp) _).alloc (by simp; omega) _)
  have HA : Hid ((((w.alloc (.cells #[.slice ta c.ts.length tc, .slice la c.xs.length lc, .int .i64 c.bg, .int .i64 c.li, .int .i64 c.en, .slice na c.ns.length nc, .slice ua c.bv.length uc, .slice xa c.bc.length xc, .string c.bo, .int .i64 c.cnt, .slice ka N kc, .int .i64 c.now, .int .i64 c.tries, .bool c.over, .slice ga c.fv.length gc, .slice ha c.fc.length hc, .string c.fo] 43)).alloc (.cells #[.slice none 0 0, .slice none 0 0, .int .i64 0, .int .i64 0, .int .i64 0, .slice none 0 0, .slice none 0 0, .slice none 0 0, .string ⟨#[]⟩, .int .i64 0, .slice none 0 0, .int .i64 0, .int .i64 0, .bool false, .slice none 0 0, .slice none 0 0, .string ⟨#[]⟩] 43)).alloc (.cells #[.slice ta c.ts.length tc, .slice la c.xs.length lc, .int .i64 c.bg, .int .i64 c.li, .int .i64 c.en, .slice na c.ns.length nc, .slice ua c.bv.length uc, .slice xa c.bc.length xc, .string c.bo, .int .i64 c.cnt, .slice ka N kc, .int .i64 c.now, .int .i64 c.tries, .bool c.over, .slice ga c.fv.length gc, .slice ha c.fc.length hc, .string c.fo] 43)).heap[w.heap.size]? = some (.cells #[.slice ta c.ts.length tc, .slice la c.xs.length lc, .int .i64 c.bg, .int .i64 c.li, .int .i64 c.en, .slice na c.ns.length nc, .slice ua c.bv.length uc, .slice xa c.bc.length xc, .string c.bo, .int .i64 c.cnt, .slice ka N kc, .int .i64 c.now, .int .i64 c.tries, .bool c.over, .slice ga c.fv.length gc, .slice ha c.fc.length hc, .string c.fo] 43 (0, 0))) := alloc3_0c _ _ _ _
  have HZ : Hid ((((w.alloc (.cells #[.slice ta c.ts.length tc, .slice la c.xs.length lc, .int .i64 c.bg, .int .i64 c.li, .int .i64 c.en, .slice na c.ns.length nc, .slice ua c.bv.length uc, .slice xa c.bc.length xc, .string c.bo, .int .i64 c.cnt, .slice ka N kc, .int .i64 c.now, .int .i64 c.tries, .bool c.over, .slice ga c.fv.length gc, .slice ha c.fc.length hc, .string c.fo] 43)).alloc (.cells #[.slice none 0 0, .slice none 0 0, .int .i64 0, .int .i64 0, .int .i64 0, .slice none 0 0, .slice none 0 0, .slice none 0 0, .string ⟨#[]⟩, .int .i64 0, .slice none 0 0, .int .i64 0, .int .i64 0, .bool false, .slice none 0 0, .slice none 0 0, .string ⟨#[]⟩] 43)).alloc (.cells #[.slice ta c.ts.length tc, .slice la c.xs.length lc, .int .i64 c.bg, .int .i64 c.li, .int .i64 c.en, .slice na c.ns.length nc, .slice ua c.bv.length uc, .slice xa c.bc.length xc, .string c.bo, .int .i64 c.cnt, .slice ka N kc, .int .i64 c.now, .int .i64 c.tries, .bool c.over, .slice ga c.fv.length gc, .slice ha c.fc.length hc, .string c.fo] 43)).heap[w.heap.size + 1]? = some (.cells #[.slice none 0 0, .slice none 0 0, .int .i64 0, .int .i64 0, .int .i64 0, .slice none 0 0, .slice none 0 0, .slice none 0 0, .string ⟨#[]⟩, .int .i64 0, .slice none 0 0, .int .i64 0, .int .i64 0, .bool false, .slice none 0 0, .slice none 0 0, .string ⟨#[]⟩] 43 (0, 0))) := alloc3_1 _ _ _ _
  have HO : Hid ((((w.alloc (.cells #[.slice ta c.ts.length tc, .slice la c.xs.length lc, .int .i64 c.bg, .int .i64 c.li, .int .i64 c.en, .slice na c.ns.length nc, .slice ua c.bv.length uc, .slice xa c.bc.length xc, .string c.bo, .int .i64 c.cnt, .slice ka N kc, .int .i64 c.now, .int .i64 c.tries, .bool c.over, .slice ga c.fv.length gc, .slice ha c.fc.length hc, .string c.fo] 43)).alloc (.cells #[.slice none 0 0, .slice none 0 0, .int .i64 0, .int .i64 0, .int .i64 0, .slice none 0 0, .slice none 0 0, .slice none 0 0, .string ⟨#[]⟩, .int .i64 0, .slice none 0 0, .int .i64 0, .int .i64 0, .bool false, .slice none 0 0, .slice none 0 0, .string ⟨#[]⟩] 43)).alloc (.cells #[.slice ta c.ts.length tc, .slice la c.xs.length lc, .int .i64 c.bg, .int .i64 c.li, .int .i64 c.en, .slice na c.ns.length nc, .slice ua c.bv.length uc, .slice xa c.bc.length xc, .string c.bo, .int .i64 c.cnt, .slice ka N kc, .int .i64 c.now, .int .i64 c.tries, .bool c.over, .slice ga c.fv.length gc, .slice ha c.fc.length hc, .string c.fo] 43)).heap[w.heap.size + 1 + 1]? = some (.cells #[.slice ta c.ts.length tc, .slice la c.xs.length lc, .int .i64 c.bg, .int .i64 c.li, .int .i64 c.en, .slice na c.ns.length nc, .slice ua c.bv.length uc, .slice xa c.bc.length xc, .string c.bo, .int .i64 c.cnt, .slice ka N kc, .int .i64 c.now, .int .i64 c.tries, .bool c.over, .slice ga c.fv.length gc, .slice ha c.fc.length hc, .string c.fo] 43 (0, 0))) := alloc3_2 _ _ _ _
  obtain ⟨n0, hn0⟩ : ∃ n, n = (((w.alloc (.cells #[.slice ta c.ts.length tc, .slice la c.xs.length lc, .int .i64 c.bg, .int .i64 c.li, .int .i64 c.en, .slice na c.ns.length nc, .slice ua c.bv.length uc, .slice xa c.bc.length xc, .string c.bo, .int .i64 c.cnt, .slice ka N kc, .int .i64 c.now, .int .i64 c.tries, .bool c.over, .slice ga c.fv.length gc, .slice ha c.fc.length hc, .string c.fo] 43)).alloc (.cells #[.slice none 0 0, .slice none 0 0, .int .i64 0, .int .i64 0, .int .i64 0, .slice none 0 0, .slice none 0 0, .slice none 0 0, .string ⟨#[]⟩, .int .i64 0, .slice none 0 0, .int .i64 0, .int .i64 0, .bool false, .slice none 0 0, .slice none 0 0, .string ⟨#[]⟩] 43)).alloc (.cells #[.slice ta c.ts.length tc, .slice la c.xs.length lc, .int .i64 c.bg, .int .i64 c.li, .int .i64 c.en, .slice na c.ns.length nc, .slice ua c.bv.length uc, .slice xa c.bc.length xc, .string c.bo, .int .i64 c.cnt, .slice ka N kc, .int .i64 c.now, .int .i64 c.tries, .bool c.over, .slice ga c.fv.length gc, .slice ha c.fc.length hc, .string c.fo] 43)).heap.size := ⟨_, rfl⟩
  have HN0 : Hid ((((w.alloc (.cells #[.slice ta c.ts.length tc, .slice la c.xs.length lc, .int .i64 c.bg, .int .i64 c.li, .int .i64 c.en, .slice na c.ns.length nc, .slice ua c.bv.length uc, .slice xa c.bc.length xc, .string c.bo, .int .i64 c.cnt, .slice ka N kc, .int .i64 c.now, .int .i64 c.tries, .bool c.over, .slice ga c.fv.length gc, .slice ha c.fc.length hc, .string c.fo] 43)).alloc (.cells #[.slice none 0 0, .slice none 0 0, .int .i64 0, .int .i64 0, .int .i64 0, .slice none 0 0, .slice none 0 0, .slice none 0 0, .string ⟨#[]⟩, .int .i64 0, .slice none 0 0, .int .i64 0, .int .i64 0, .bool false, .slice none 0 0, .slice none 0 0, .string ⟨#[]⟩] 43)).alloc (.cells #[.slice ta c.ts.length tc, .slice la c.xs.length lc, .int .i64 c.bg, .int .i64 c.li, .int .i64 c.en, .slice na c.ns.length nc, .slice ua c.bv.length uc, .slice xa c.bc.length xc, .string c.bo, .int .i64 c.cnt, .slice ka N kc, .int .i64 c.now, .int .i64 c.tries, .bool c.over, .slice ga c.fv.length gc, .slice ha c.fc.length hc, .string c.fo] 43)).heap.size = n0 ∧ n0 = w.heap.size + 3) := ⟨hn0.symm, by rw [hn0]; simp⟩
  clear hn0
  have HA2 : Hid (((w.alloc (.cells #[.slice ta c.ts.length tc, .slice la c.xs.length lc, .int .i64 c.bg, .int .i64 c.li, .int .i64 c.en, .slice na c.ns.length nc, .slice ua c.bv.length uc, .slice xa c.bc.length xc, .string c.bo, .int .i64 c.cnt, .slice ka N kc, .int .i64 c.now, .int .i64 c.tries, .bool c.over, .slice ga c.fv.length gc, .slice ha c.fc.length hc, .string c.fo] 43)).alloc (.cells #[.slice none 0 0, .slice none 0 0, .int .i64 0, .int .i64 0, .int .i64 0, .slice none 0 0, .slice none 0 0, .slice none 0 0, .string ⟨#[]⟩, .int .i64 0, .slice none 0 0, .int .i64 0, .int .i64 0, .bool false, .slice none 0 0, .slice none 0 0, .string ⟨#[]⟩] 43)).heap[w.heap.size]? = some (.cells #[.slice ta c.ts.length tc, .slice la c.xs.length lc, .int .i64 c.bg, .int .i64 c.li, .int .i64 c.en, .slice na c.ns.length nc, .slice ua c.bv.length uc, .slice xa c.bc.length xc, .string c.bo, .int .i64 c.cnt, .slice ka N kc, .int .i64 c.now, .int .i64 c.tries, .bool c.over, .slice ga c.fv.length gc, .slice ha c.fc.length hc, .string c.fo] 43 (0, 0))) := s2_0 _ _ _
  have cA0 := (blk_cell HA.out 0).trans rfl
  go_enter Try.func15, Try.ntmps15
  go_wp2_with (first | (refine wpList_load_row rfl 43 _ rfl w.heap.size rfl 43 _ (0, 0) _ HA2.out Try.underlying43 rfl (by kernel_rfl) ?_) | (at_builtin; go_must (refine TxRow.appAll (B := n0) rfl (.tmp 7) (.tmp 10) rfl (Nat.le_of_eq HN0.out.1.symm) _ (by first | rfl | simp | simp [World.setCell]) rfl rfl (C1.out _ HB.out) HFW.out.1 ?_)))
  intro tb td w1 hr hb
  generalize (((w.alloc (.cells #[.slice ta c.ts.length tc, .slice la c.xs.length lc, .int .i64 c.bg, .int .i64 c.li, .int .i64 c.en, .slice na c.ns.length nc, .slice ua c.bv.length uc, .slice xa c.bc.length xc, .string c.bo, .int .i64 c.cnt, .slice ka N kc, .int .i64 c.now, .int .i64 c.tries, .bool c.over, .slice ga c.fv.length gc, .slice ha c.fc.length hc, .string c.fo] 43)).alloc (.cells #[.slice none 0 0, .slice none 0 0, .int .i64 0, .int .i64 0, .int .i64 0, .slice none 0 0, .slice none 0 0, .slice none 0 0, .string ⟨#[]⟩, .int .i64 0, .slice none 0 0, .int .i64 0, .int .i64 0, .bool false, .slice none 0 0, .slice none 0 0, .string ⟨#[]⟩] 43)).alloc (.cells #[.slice ta c.ts.length tc, .slice la c.xs.length lc, .int .i64 c.bg, .int .i64 c.li, .int .i64 c.en, .slice na c.ns.length nc, .slice ua c.bv.length uc, .slice xa c.bc.length xc, .string c.bo, .int .i64 c.cnt, .slice ka N kc, .int .i64 c.now, .int .i64 c.tries, .bool c.over, .slice ga c.fv.length gc, .slice ha c.fc.length hc, .string c.fo] 43)) = X0 at *
  clear HA2 cA0
  have hb := Below.mono hb (show X0.heap.size ≤ _ by have := HN0.out; omega)
  have HAy := hidOfT ((hb.block _ (blk_lt HA.out)).trans HA.out)
  have HZy := hidOfT ((hb.block _ (blk_lt HZ.out)).trans HZ.out)
  have HOy := hidOfT ((hb.block _ (blk_lt HO.out)).trans HO.out)
  have HBy := hidOfT (HB.out.trans (hb.mono HB.out.size))
  obtain ⟨n1, hn1⟩ : ∃ n, n = w1.heap.size := ⟨_, rfl⟩
  have HN1 : Hid (w1.heap.size = n1 ∧ n0 ≤ n1) := ⟨hn1.symm, by have := hb.size; have := HN0.out; omega⟩
  have PTy : Hid (TxIn n0 n1 w1 (.slice tb c.ts.length td) c.ts) := by rw [hn1]; exact hr.in
  clear hn1 hb HB HA HZ HO  hr
  have cA1 := (blk_cell HAy.out 1).trans rfl
  have cO0 := (blk_cell HOy.out 0).trans rfl
  have fO0 := blk_free HOy.out 0
  have gA0 : ((w1).setCell ⟨w.heap.size + 1 + 1, 0, none⟩ (.slice tb c.ts.length td)).heap[w.heap.size]? = some (.cells #[.slice ta c.ts.length tc, .slice la c.xs.length lc, .int .i64 c.bg, .int .i64 c.li, .int .i64 c.en, .slice na c.ns.length nc, .slice ua c.bv.length uc, .slice xa c.bc.length xc, .string c.bo, .int .i64 c.cnt, .slice ka N kc, .int .i64 c.now, .int .i64 c.tries, .bool c.over, .slice ga c.fv.length gc, .slice ha c.fc.length hc, .string c.fo] 43 (0, 0)) := (Below.heap_setCell _ _ _ _ (by show w.heap.size ≠ w.heap.size + 1 + 1; omega)).trans HAy.out
  have gZ0 : ((w1).setCell ⟨w.heap.size + 1 + 1, 0, none⟩ (.slice tb c.ts.length td)).heap[w.heap.size + 1]? = some (.cells #[.slice none 0 0, .slice none 0 0, .int .i64 0, .int .i64 0, .int .i64 0, .slice none 0 0, .slice none 0 0, .slice none 0 0, .string ⟨#[]⟩, .int .i64 0, .slice none 0 0, .int .i64 0, .int .i64 0, .bool false, .slice none 0 0, .slice none 0 0, .string ⟨#[]⟩] 43 (0, 0)) := (Below.heap_setCell _ _ _ _ (by show w.heap.size + 1 ≠ w.heap.size + 1 + 1; omega)).trans HZy.out
  have gO0 : ((w1).setCell ⟨w.heap.size + 1 + 1, 0, none⟩ (.slice tb c.ts.length td)).heap[w.heap.size + 1 + 1]? = some (.cells #[(.slice tb c.ts.length td), .slice la c.xs.length lc, .int .i64 c.bg, .int .i64 c.li, .int .i64 c.en, .slice na c.ns.length nc, .slice ua c.bv.length uc, .slice xa c.bc.length xc, .string c.bo, .int .i64 c.cnt, .slice ka N kc, .int .i64 c.now, .int .i64 c.tries, .bool c.over, .slice ga c.fv.length gc, .slice ha c.fc.length hc, .string c.fo] 43 (0, 0)) := blk_set HOy.out 0 _
  have OT : ∀ q, n0 ≤ q → (w1.setCell ⟨w.heap.size + 1 + 1, 0, none⟩ (.slice tb c.ts.length td)).heap[q]? = w1.heap[q]? := by
    intro q hq
    have := HN0.out.2
    rw [Below.heap_setCell _ _ _ _ (by show q ≠ w.heap.size + 1 + 1; omega)]
  have HAx := hidOfT gA0
  have HZx := hidOfT gZ0
  have HOx := hidOfT gO0
  have HBx : Hid (Below w.heap.size w (w1.setCell ⟨w.heap.size + 1 + 1, 0, none⟩ (.slice tb c.ts.length td))) := (HBy.out.setCell (by show w.heap.size ≤ w.heap.size + 1 + 1; omega) (.slice tb c.ts.length td))
  have HN1x : Hid ((w1.setCell ⟨w.heap.size + 1 + 1, 0, none⟩ (.slice tb c.ts.length td)).heap.size = n1 ∧ n0 ≤ n1) := ⟨by have := HN1.out.1; simpa [World.setCell] using this, HN1.out.2⟩
  have PTx : Hid (TxIn n0 n1 (w1.setCell ⟨w.heap.size + 1 + 1, 0, none⟩ (.slice tb c.ts.length td)) (.slice tb c.ts.length td) c.ts) := PTy.out.keep (fun q q1 q2 => OT q (by have := HN0.out; have := HN1.out; omega))
  have HW1 := hidOfT HN1.out.1
  have hla1 : w.heap.size < w1.heap.size := by have := HN0.out; have := HN1.out; omega
  have hlt1 : w.heap.size + 1 + 1 < w1.heap.size := by have := HN0.out; have := HN1.out; omega
  clear OT gA0 gZ0 gO0 HN1 HBy HAy HZy HOy PTy
  go_wp2_with (first | (at_builtin; go_must (refine InRow.appAll (B := n1) rfl (.tmp 14) (.tmp 17) rfl (Nat.le_of_eq HN1x.out.1.symm) _ (by first | rfl | simp | simp [World.setCell]) rfl rfl (C2.out _ HBx.out) HFW.out.2.1 ?_)))
  intro lb ld w2 hr hb
  generalize (w1.setCell ⟨w.heap.size + 1 + 1, 0, none⟩ (.slice tb c.ts.length td)) = X1 at *
  clear cA1 cO0 fO0 hlt1 hla1
  have HA := hidOfT HAx.out
  have HZ := hidOfT HZx.out
  have HO := hidOfT HOx.out
  have HB := hidOfT HBx.out
  have HN1 := hidOfT HN1x.out
  have PT := hidOfT PTx.out
  clear HAx HZx HOx HBx HN1x PTx
  have hb := Below.mono hb (show X1.heap.size ≤ _ by have := HN1.out; have := HW1.out; omega)
  have HAy := hidOfT ((hb.block _ (blk_lt HA.out)).trans HA.out)
  have HZy := hidOfT ((hb.block _ (blk_lt HZ.out)).trans HZ.out)
  have HOy := hidOfT ((hb.block _ (blk_lt HO.out)).trans HO.out)
  have HBy := hidOfT (HB.out.trans (hb.mono HB.out.size))
  obtain ⟨n2, hn2⟩ : ∃ n, n = w2.heap.size := ⟨_, rfl⟩
  have HN2 : Hid (w2.heap.size = n2 ∧ n1 ≤ n2) := ⟨hn2.symm, by have := hb.size; have := HN1.out; omega⟩
  have PTy : Hid (TxIn n0 n1 w2 (.slice tb c.ts.length td) c.ts) := PT.out.keep (fun q q1 q2 => hb.block q (by have := HN0.out; have := HN1.out; omega))
  have PIy : Hid (InIn n1 n2 w2 (.slice lb c.xs.length ld) c.xs) := by rw [hn2]; exact hr.in
  clear hn2 hb HB HA HZ HO PT hr
  have cA5 := (blk_cell HAy.out 5).trans rfl
  have cO1 := (blk_cell HOy.out 1).trans rfl
  have fO1 := blk_free HOy.out 1
  have gA0 : ((w2).setCell ⟨w.heap.size + 1 + 1, 1, none⟩ (.slice lb c.xs.length ld)).heap[w.heap.size]? = some (.cells #[.slice ta c.ts.length tc, .slice la c.xs.length lc, .int .i64 c.bg, .int .i64 c.li, .int .i64 c.en, .slice na c.ns.length nc, .slice ua c.bv.length uc, .slice xa c.bc.length xc, .string c.bo, .int .i64 c.cnt, .slice ka N kc, .int .i64 c.now, .int .i64 c.tries, .bool c.over, .slice ga c.fv.length gc, .slice ha c.fc.length hc, .string c.fo] 43 (0, 0)) := (Below.heap_setCell _ _ _ _ (by show w.heap.size ≠ w.heap.size + 1 + 1; omega)).trans HAy.out
  have gZ0 : ((w2).setCell ⟨w.heap.size + 1 + 1, 1, none⟩ (.slice lb c.xs.length ld)).heap[w.heap.size + 1]? = some (.cells #[.slice none 0 0, .slice none 0 0, .int .i64 0, .int .i64 0, .int .i64 0, .slice none 0 0, .slice none 0 0, .slice none 0 0, .string ⟨#[]⟩, .int .i64 0, .slice none 0 0, .int .i64 0, .int .i64 0, .bool false, .slice none 0 0, .slice none 0 0, .string ⟨#[]⟩] 43 (0, 0)) := (Below.heap_setCell _ _ _ _ (by show w.heap.size + 1 ≠ w.heap.size + 1 + 1; omega)).trans HZy.out
  have gO0 : ((w2).setCell ⟨w.heap.size + 1 + 1, 1, none⟩ (.slice lb c.xs.length ld)).heap[w.heap.size + 1 + 1]? = some (.cells #[(.slice tb c.ts.length td), (.slice lb c.xs.length ld), .int .i64 c.bg, .int .i64 c.li, .int .i64 c.en, .slice na c.ns.length nc, .slice ua c.bv.length uc, .slice xa c.bc.length xc, .string c.bo, .int .i64 c.cnt, .slice ka N kc, .int .i64 c.now, .int .i64 c.tries, .bool c.over, .slice ga c.fv.length gc, .slice ha c.fc.length hc, .string c.fo] 43 (0, 0)) := blk_set HOy.out 1 _
  have OT : ∀ q, n0 ≤ q → (w2.setCell ⟨w.heap.size + 1 + 1, 1, none⟩ (.slice lb c.xs.length ld)).heap[q]? = w2.heap[q]? := by
    intro q hq
    have := HN0.out.2
    rw [Below.heap_setCell _ _ _ _ (by show q ≠ w.heap.size + 1 + 1; omega)]
  have HAx := hidOfT gA0
  have HZx := hidOfT gZ0
  have HOx := hidOfT gO0
  have HBx : Hid (Below w.heap.size w (w2.setCell ⟨w.heap.size + 1 + 1, 1, none⟩ (.slice lb c.xs.length ld))) := (HBy.out.setCell (by show w.heap.size ≤ w.heap.size + 1 + 1; omega) (.slice lb c.xs.length ld))
  have HN2x : Hid ((w2.setCell ⟨w.heap.size + 1 + 1, 1, none⟩ (.slice lb c.xs.length ld)).heap.size = n2 ∧ n1 ≤ n2) := ⟨by have := HN2.out.1; simpa [World.setCell] using this, HN2.out.2⟩
  have PTx : Hid (TxIn n0 n1 (w2.setCell ⟨w.heap.size + 1 + 1, 1, none⟩ (.slice lb c.xs.length ld)) (.slice tb c.ts.length td) c.ts) := PTy.out.keep (fun q q1 q2 => OT q (by have := HN0.out; have := HN1.out; have := HN2.out; omega))
  have PIx : Hid (InIn n1 n2 (w2.setCell ⟨w.heap.size + 1 + 1, 1, none⟩ (.slice lb c.xs.length ld)) (.slice lb c.xs.length ld) c.xs) := PIy.out.keep (fun q q1 q2 => OT q (by have := HN0.out; have := HN1.out; have := HN2.out; omega))
  have HW2 := hidOfT HN2.out.1
  have hla2 : w.heap.size < w2.heap.size := by have := HN0.out; have := HN1.out; have := HN2.out; omega
  have hlt2 : w.heap.size + 1 + 1 < w2.heap.size := by have := HN0.out; have := HN1.out; have := HN2.out; omega
  clear OT gA0 gZ0 gO0 HN2 HBy HAy HZy HOy PTy PIy
  go_wp2_with (first | (at_builtin; go_must (refine TxRow.appAll (B := n2) rfl (.tmp 21) (.tmp 23) rfl (Nat.le_of_eq HN2x.out.1.symm) _ (by first | rfl | simp | simp [World.setCell]) rfl rfl (C3.out _ HBx.out) HFW.out.2.2 ?_)))
  intro nb nd w3 hr hb
  generalize (w2.setCell ⟨w.heap.size + 1 + 1, 1, none⟩ (.slice lb c.xs.length ld)) = X2 at *
  clear cA5 cO1 fO1 hlt2 hla2
  have HA := hidOfT HAx.out
  have HZ := hidOfT HZx.out
  have HO := hidOfT HOx.out
  have HB := hidOfT HBx.out
  have HN2 := hidOfT HN2x.out
  have PT := hidOfT PTx.out
  have PI := hidOfT PIx.out
  clear HAx HZx HOx HBx HN2x PTx PIx
  have hb := Below.mono hb (show X2.heap.size ≤ _ by have := HN2.out; have := HW2.out; omega)
  have HAy := hidOfT ((hb.block _ (blk_lt HA.out)).trans HA.out)
  have HZy := hidOfT ((hb.block _ (blk_lt HZ.out)).trans HZ.out)
  have HOy := hidOfT ((hb.block _ (blk_lt HO.out)).trans HO.out)
  have HBy := hidOfT (HB.out.trans (hb.mono HB.out.size))
  obtain ⟨n3, hn3⟩ : ∃ n, n = w3.heap.size := ⟨_, rfl⟩
  have HN3 : Hid (w3.heap.size = n3 ∧ n2 ≤ n3) := ⟨hn3.symm, by have := hb.size; have := HN2.out; omega⟩
  have PTy : Hid (TxIn n0 n1 w3 (.slice tb c.ts.length td) c.ts) := PT.out.keep (fun q q1 q2 => hb.block q (by have := HN0.out; have := HN1.out; have := HN2.out; omega))
  have PIy : Hid (InIn n1 n2 w3 (.slice lb c.xs.length ld) c.xs) := PI.out.keep (fun q q1 q2 => hb.block q (by have := HN0.out; have := HN1.out; have := HN2.out; omega))
  have PNy : Hid (TxIn n2 n3 w3 (.slice nb c.ns.length nd) c.ns) := by rw [hn3]; exact hr.in
  clear hn3 hb HB HA HZ HO PT PI hr
  have cA6 := (blk_cell HAy.out 6).trans rfl
  have cA7 := (blk_cell HAy.out 7).trans rfl
  have cA8 := (blk_cell HAy.out 8).trans rfl
  have cO5 := (blk_cell HOy.out 5).trans rfl
  have fO5 := blk_free HOy.out 5
  have gA0 : ((w3).setCell ⟨w.heap.size + 1 + 1, 5, none⟩ (.slice nb c.ns.length nd)).heap[w.heap.size]? = some (.cells #[.slice ta c.ts.length tc, .slice la c.xs.length lc, .int .i64 c.bg, .int .i64 c.li, .int .i64 c.en, .slice na c.ns.length nc, .slice ua c.bv.length uc, .slice xa c.bc.length xc, .string c.bo, .int .i64 c.cnt, .slice ka N kc, .int .i64 c.now, .int .i64 c.tries, .bool c.over, .slice ga c.fv.length gc, .slice ha c.fc.length hc, .string c.fo] 43 (0, 0)) := (Below.heap_setCell _ _ _ _ (by show w.heap.size ≠ w.heap.size + 1 + 1; omega)).trans HAy.out
  have gZ0 : ((w3).setCell ⟨w.heap.size + 1 + 1, 5, none⟩ (.slice nb c.ns.length nd)).heap[w.heap.size + 1]? = some (.cells #[.slice none 0 0, .slice none 0 0, .int .i64 0, .int .i64 0, .int .i64 0, .slice none 0 0, .slice none 0 0, .slice none 0 0, .string ⟨#[]⟩, .int .i64 0, .slice none 0 0, .int .i64 0, .int .i64 0, .bool false, .slice none 0 0, .slice none 0 0, .string ⟨#[]⟩] 43 (0, 0)) := (Below.heap_setCell _ _ _ _ (by show w.heap.size + 1 ≠ w.heap.size + 1 + 1; omega)).trans HZy.out
  have gO0 : ((w3).setCell ⟨w.heap.size + 1 + 1, 5, none⟩ (.slice nb c.ns.length nd)).heap[w.heap.size + 1 + 1]? = some (.cells #[(.slice tb c.ts.length td), (.slice lb c.xs.length ld), .int .i64 c.bg, .int .i64 c.li, .int .i64 c.en, (.slice nb c.ns.length nd), .slice ua c.bv.length uc, .slice xa c.bc.length xc, .string c.bo, .int .i64 c.cnt, .slice ka N kc, .int .i64 c.now, .int .i64 c.tries, .bool c.over, .slice ga c.fv.length gc, .slice ha c.fc.length hc, .string c.fo] 43 (0, 0)) := blk_set HOy.out 5 _
  have OT : ∀ q, n0 ≤ q → (w3.setCell ⟨w.heap.size + 1 + 1, 5, none⟩ (.slice nb c.ns.length nd)).heap[q]? = w3.heap[q]? := by
    intro q hq
    have := HN0.out.2
    rw [Below.heap_setCell _ _ _ _ (by show q ≠ w.heap.size + 1 + 1; omega)]
  have HAx := hidOfT gA0
  have HZx := hidOfT gZ0
  have HOx := hidOfT gO0
  have HBx : Hid (Below w.heap.size w (w3.setCell ⟨w.heap.size + 1 + 1, 5, none⟩ (.slice nb c.ns.length nd))) := (HBy.out.setCell (by show w.heap.size ≤ w.heap.size + 1 + 1; omega) (.slice nb c.ns.length nd))
  have HN3x : Hid ((w3.setCell ⟨w.heap.size + 1 + 1, 5, none⟩ (.slice nb c.ns.length nd)).heap.size = n3 ∧ n2 ≤ n3) := ⟨by have := HN3.out.1; simpa [World.setCell] using this, HN3.out.2⟩
  have PTx : Hid (TxIn n0 n1 (w3.setCell ⟨w.heap.size + 1 + 1, 5, none⟩ (.slice nb c.ns.length nd)) (.slice tb c.ts.length td) c.ts) := PTy.out.keep (fun q q1 q2 => OT q (by have := HN0.out; have := HN1.out; have := HN2.out; have := HN3.out; omega))
  have PIx : Hid (InIn n1 n2 (w3.setCell ⟨w.heap.size + 1 + 1, 5, none⟩ (.slice nb c.ns.length nd)) (.slice lb c.xs.length ld) c.xs) := PIy.out.keep (fun q q1 q2 => OT q (by have := HN0.out; have := HN1.out; have := HN2.out; have := HN3.out; omega))
  have PNx : Hid (TxIn n2 n3 (w3.setCell ⟨w.heap.size + 1 + 1, 5, none⟩ (.slice nb c.ns.length nd)) (.slice nb c.ns.length nd) c.ns) := PNy.out.keep (fun q q1 q2 => OT q (by have := HN0.out; have := HN1.out; have := HN2.out; have := HN3.out; omega))
  clear OT gA0 gZ0 gO0 HN3 HBy HAy HZy HOy PTy PIy PNy
  go_wp2_with fail
  generalize (w3.setCell ⟨w.heap.size + 1 + 1, 5, none⟩ (.slice nb c.ns.length nd)) = X3 at *
  clear cA6 cA7 cA8 cO5 fO5
  have HA := hidOfT HAx.out
  have HZ := hidOfT HZx.out
  have HO := hidOfT HOx.out
  have HB := hidOfT HBx.out
  have HN3 := hidOfT HN3x.out
  have PT := hidOfT PTx.out
  have PI := hidOfT PIx.out
  have PN := hidOfT PNx.out
  clear HAx HZx HOx HBx HN3x PTx PIx PNx
  refine (C4.out _ HB.out).mono ?_
  rintro e w4 ⟨ub, ud, xb, xd, rfl, hb, hr1, hr2⟩
  have HAy := hidOfT ((hb.block _ (blk_lt HA.out)).trans HA.out)
  have HZy := hidOfT ((hb.block _ (blk_lt HZ.out)).trans HZ.out)
  have HOy := hidOfT ((hb.block _ (blk_lt HO.out)).trans HO.out)
  have HBy := hidOfT (HB.out.trans (hb.mono HB.out.size))
  obtain ⟨n4, hn4⟩ : ∃ n, n = w4.heap.size := ⟨_, rfl⟩
  have HN4 : Hid (w4.heap.size = n4 ∧ n3 ≤ n4) := ⟨hn4.symm, by have := hb.size; have := HN3.out; omega⟩
  have PTy : Hid (TxIn n0 n1 w4 (.slice tb c.ts.length td) c.ts) := PT.out.keep (fun q q1 q2 => hb.block q (by have := HN0.out; have := HN1.out; have := HN2.out; have := HN3.out; omega))
  have PIy : Hid (InIn n1 n2 w4 (.slice lb c.xs.length ld) c.xs) := PI.out.keep (fun q q1 q2 => hb.block q (by have := HN0.out; have := HN1.out; have := HN2.out; have := HN3.out; omega))
  have PNy : Hid (TxIn n2 n3 w4 (.slice nb c.ns.length nd) c.ns) := PN.out.keep (fun q q1 q2 => hb.block q (by have := HN0.out; have := HN1.out; have := HN2.out; have := HN3.out; omega))
  have PUy : Hid (VrIn n3 n4 w4 (.slice ub c.bv.length ud) c.bv) := by rw [HN3.out.1, ← hn4] at hr1; exact hr1
  have PXy : Hid (ClIn n3 n4 w4 (.slice xb c.bc.length xd) c.bc) := by rw [HN3.out.1, ← hn4] at hr2; exact hr2
  clear hn4 hb HB HA HZ HO PT PI PN hr1 hr2 C4
  have cA14 := (blk_cell HAy.out 14).trans rfl
  have cA15 := (blk_cell HAy.out 15).trans rfl
  have cA16 := (blk_cell HAy.out 16).trans rfl
  have cO6 := (blk_cell HOy.out 6).trans rfl
  have cO7 := (blk_cell HOy.out 7).trans rfl
  have cO8 := (blk_cell HOy.out 8).trans rfl
  have fO6 := blk_free HOy.out 6
  have fO7 := blk_free HOy.out 7
  have fO8 := blk_free HOy.out 8
  have gA0 : ((w4).setCell ⟨w.heap.size + 1 + 1, 6, none⟩ (.slice ub c.bv.length ud)).heap[w.heap.size]? = some (.cells #[.slice ta c.ts.length tc, .slice la c.xs.length lc, .int .i64 c.bg, .int .i64 c.li, .int .i64 c.en, .slice na c.ns.length nc, .slice ua c.bv.length uc, .slice xa c.bc.length xc, .string c.bo, .int .i64 c.cnt, .slice ka N kc, .int .i64 c.now, .int .i64 c.tries, .bool c.over, .slice ga c.fv.length gc, .slice ha c.fc.length hc, .string c.fo] 43 (0, 0)) := (Below.heap_setCell _ _ _ _ (by show w.heap.size ≠ w.heap.size + 1 + 1; omega)).trans HAy.out
  have gZ0 : ((w4).setCell ⟨w.heap.size + 1 + 1, 6, none⟩ (.slice ub c.bv.length ud)).heap[w.heap.size + 1]? = some (.cells #[.slice none 0 0, .slice none 0 0, .int .i64 0, .int .i64 0, .int .i64 0, .slice none 0 0, .slice none 0 0, .slice none 0 0, .string ⟨#[]⟩, .int .i64 0, .slice none 0 0, .int .i64 0, .int .i64 0, .bool false, .slice none 0 0, .slice none 0 0, .string ⟨#[]⟩] 43 (0, 0)) := (Below.heap_setCell _ _ _ _ (by show w.heap.size + 1 ≠ w.heap.size + 1 + 1; omega)).trans HZy.out
  have gO0 : ((w4).setCell ⟨w.heap.size + 1 + 1, 6, none⟩ (.slice ub c.bv.length ud)).heap[w.heap.size + 1 + 1]? = some (.cells #[(.slice tb c.ts.length td), (.slice lb c.xs.length ld), .int .i64 c.bg, .int .i64 c.li, .int .i64 c.en, (.slice nb c.ns.length nd), (.slice ub c.bv.length ud), .slice xa c.bc.length xc, .string c.bo, .int .i64 c.cnt, .slice ka N kc, .int .i64 c.now, .int .i64 c.tries, .bool c.over, .slice ga c.fv.length gc, .slice ha c.fc.length hc, .string c.fo] 43 (0, 0)) := blk_set HOy.out 6 _
  have gA1 : (((w4.setCell ⟨w.heap.size + 1 + 1, 6, none⟩ (.slice ub c.bv.length ud))).setCell ⟨w.heap.size + 1 + 1, 7, none⟩ (.slice xb c.bc.length xd)).heap[w.heap.size]? = some (.cells #[.slice ta c.ts.length tc, .slice la c.xs.length lc, .int .i64 c.bg, .int .i64 c.li, .int .i64 c.en, .slice na c.ns.length nc, .slice ua c.bv.length uc, .slice xa c.bc.length xc, .string c.bo, .int .i64 c.cnt, .slice ka N kc, .int .i64 c.now, .int .i64 c.tries, .bool c.over, .slice ga c.fv.length gc, .slice ha c.fc.length hc, .string c.fo] 43 (0, 0)) := (Below.heap_setCell _ _ _ _ (by show w.heap.size ≠ w.heap.size + 1 + 1; omega)).trans gA0
  have gZ1 : (((w4.setCell ⟨w.heap.size + 1 + 1, 6, none⟩ (.slice ub c.bv.length ud))).setCell ⟨w.heap.size + 1 + 1, 7, none⟩ (.slice xb c.bc.length xd)).heap[w.heap.size + 1]? = some (.cells #[.slice none 0 0, .slice none 0 0, .int .i64 0, .int .i64 0, .int .i64 0, .slice none 0 0, .slice none 0 0, .slice none 0 0, .string ⟨#[]⟩, .int .i64 0, .slice none 0 0, .int .i64 0, .int .i64 0, .bool false, .slice none 0 0, .slice none 0 0, .string ⟨#[]⟩] 43 (0, 0)) := (Below.heap_setCell _ _ _ _ (by show w.heap.size + 1 ≠ w.heap.size + 1 + 1; omega)).trans gZ0
  have gO1 : (((w4.setCell ⟨w.heap.size + 1 + 1, 6, none⟩ (.slice ub c.bv.length ud))).setCell ⟨w.heap.size + 1 + 1, 7, none⟩ (.slice xb c.bc.length xd)).heap[w.heap.size + 1 + 1]? = some (.cells #[(.slice tb c.ts.length td), (.slice lb c.xs.length ld), .int .i64 c.bg, .int .i64 c.li, .int .i64 c.en, (.slice nb c.ns.length nd), (.slice ub c.bv.length ud), (.slice xb c.bc.length xd), .string c.bo, .int .i64 c.cnt, .slice ka N kc, .int .i64 c.now, .int .i64 c.tries, .bool c.over, .slice ga c.fv.length gc, .slice ha c.fc.length hc, .string c.fo] 43 (0, 0)) := blk_set gO0 7 _
  have gA2 : ((((w4.setCell ⟨w.heap.size + 1 + 1, 6, none⟩ (.slice ub c.bv.length ud)).setCell ⟨w.heap.size + 1 + 1, 7, none⟩ (.slice xb c.bc.length xd))).setCell ⟨w.heap.size + 1 + 1, 8, none⟩ (.string c.bo)).heap[w.heap.size]? = some (.cells #[.slice ta c.ts.length tc, .slice la c.xs.length lc, .int .i64 c.bg, .int .i64 c.li, .int .i64 c.en, .slice na c.ns.length nc, .slice ua c.bv.length uc, .slice xa c.bc.length xc, .string c.bo, .int .i64 c.cnt, .slice ka N kc, .int .i64 c.now, .int .i64 c.tries, .bool c.over, .slice ga c.fv.length gc, .slice ha c.fc.length hc, .string c.fo] 43 (0, 0)) := (Below.heap_setCell _ _ _ _ (by show w.heap.size ≠ w.heap.size + 1 + 1; omega)).trans gA1
  have gZ2 : ((((w4.setCell ⟨w.heap.size + 1 + 1, 6, none⟩ (.slice ub c.bv.length ud)).setCell ⟨w.heap.size + 1 + 1, 7, none⟩ (.slice xb c.bc.length xd))).setCell ⟨w.heap.size + 1 + 1, 8, none⟩ (.string c.bo)).heap[w.heap.size + 1]? = some (.cells #[.slice none 0 0, .slice none 0 0, .int .i64 0, .int .i64 0, .int .i64 0, .slice none 0 0, .slice none 0 0, .slice none 0 0, .string ⟨#[]⟩, .int .i64 0, .slice none 0 0, .int .i64 0, .int .i64 0, .bool false, .slice none 0 0, .slice none 0 0, .string ⟨#[]⟩] 43 (0, 0)) := (Below.heap_setCell _ _ _ _ (by show w.heap.size + 1 ≠ w.heap.size + 1 + 1; omega)).trans gZ1
  have gO2 : ((((w4.setCell ⟨w.heap.size + 1 + 1, 6, none⟩ (.slice ub c.bv.length ud)).setCell ⟨w.heap.size + 1 + 1, 7, none⟩ (.slice xb c.bc.length xd))).setCell ⟨w.heap.size + 1 + 1, 8, none⟩ (.string c.bo)).heap[w.heap.size + 1 + 1]? = some (.cells #[(.slice tb c.ts.length td), (.slice lb c.xs.length ld), .int .i64 c.bg, .int .i64 c.li, .int .i64 c.en, (.slice nb c.ns.length nd), (.slice ub c.bv.length ud), (.slice xb c.bc.length xd), (.string c.bo), .int .i64 c.cnt, .slice ka N kc, .int .i64 c.now, .int .i64 c.tries, .bool c.over, .slice ga c.fv.length gc, .slice ha c.fc.length hc, .string c.fo] 43 (0, 0)) := blk_set gO1 8 _
  have OT : ∀ q, n0 ≤ q → (((w4.setCell ⟨w.heap.size + 1 + 1, 6, none⟩ (.slice ub c.bv.length ud)).setCell ⟨w.heap.size + 1 + 1, 7, none⟩ (.slice xb c.bc.length xd)).setCell ⟨w.heap.size + 1 + 1, 8, none⟩ (.string c.bo)).heap[q]? = w4.heap[q]? := by
    intro q hq
    have := HN0.out.2
    rw [Below.heap_setCell _ _ _ _ (by show q ≠ w.heap.size + 1 + 1; omega), Below.heap_setCell _ _ _ _ (by show q ≠ w.heap.size + 1 + 1; omega), Below.heap_setCell _ _ _ _ (by show q ≠ w.heap.size + 1 + 1; omega)]
  have HAx := hidOfT gA2
  have HZx := hidOfT gZ2
  have HOx := hidOfT gO2
  have HBx : Hid (Below w.heap.size w (((w4.setCell ⟨w.heap.size + 1 + 1, 6, none⟩ (.slice ub c.bv.length ud)).setCell ⟨w.heap.size + 1 + 1, 7, none⟩ (.slice xb c.bc.length xd)).setCell ⟨w.heap.size + 1 + 1, 8, none⟩ (.string c.bo))) := (((HBy.out.setCell (by show w.heap.size ≤ w.heap.size + 1 + 1; omega) (.slice ub c.bv.length ud)).setCell (by show w.heap.size ≤ w.heap.size + 1 + 1; omega) (.slice xb c.bc.length xd)).setCell (by show w.heap.size ≤ w.heap.size + 1 + 1; omega) (.string c.bo))
  have HN4x : Hid ((((w4.setCell ⟨w.heap.size + 1 + 1, 6, none⟩ (.slice ub c.bv.length ud)).setCell ⟨w.heap.size + 1 + 1, 7, none⟩ (.slice xb c.bc.length xd)).setCell ⟨w.heap.size + 1 + 1, 8, none⟩ (.string c.bo)).heap.size = n4 ∧ n3 ≤ n4) := ⟨by have := HN4.out.1; simpa [World.setCell] using this, HN4.out.2⟩
  have PTx : Hid (TxIn n0 n1 (((w4.setCell ⟨w.heap.size + 1 + 1, 6, none⟩ (.slice ub c.bv.length ud)).setCell ⟨w.heap.size + 1 + 1, 7, none⟩ (.slice xb c.bc.length xd)).setCell ⟨w.heap.size + 1 + 1, 8, none⟩ (.string c.bo)) (.slice tb c.ts.length td) c.ts) := PTy.out.keep (fun q q1 q2 => OT q (by have := HN0.out; have := HN1.out; have := HN2.out; have := HN3.out; have := HN4.out; omega))
  have PIx : Hid (InIn n1 n2 (((w4.setCell ⟨w.heap.size + 1 + 1, 6, none⟩ (.slice ub c.bv.length ud)).setCell ⟨w.heap.size + 1 + 1, 7, none⟩ (.slice xb c.bc.length xd)).setCell ⟨w.heap.size + 1 + 1, 8, none⟩ (.string c.bo)) (.slice lb c.xs.length ld) c.xs) := PIy.out.keep (fun q q1 q2 => OT q (by have := HN0.out; have := HN1.out; have := HN2.out; have := HN3.out; have := HN4.out; omega))
  have PNx : Hid (TxIn n2 n3 (((w4.setCell ⟨w.heap.size + 1 + 1, 6, none⟩ (.slice ub c.bv.length ud)).setCell ⟨w.heap.size + 1 + 1, 7, none⟩ (.slice xb c.bc.length xd)).setCell ⟨w.heap.size + 1 + 1, 8, none⟩ (.string c.bo)) (.slice nb c.ns.length nd) c.ns) := PNy.out.keep (fun q q1 q2 => OT q (by have := HN0.out; have := HN1.out; have := HN2.out; have := HN3.out; have := HN4.out; omega))
  have PUx : Hid (VrIn n3 n4 (((w4.setCell ⟨w.heap.size + 1 + 1, 6, none⟩ (.slice ub c.bv.length ud)).setCell ⟨w.heap.size + 1 + 1, 7, none⟩ (.slice xb c.bc.length xd)).setCell ⟨w.heap.size + 1 + 1, 8, none⟩ (.string c.bo)) (.slice ub c.bv.length ud) c.bv) := PUy.out.keep (fun q q1 q2 => OT q (by have := HN0.out; have := HN1.out; have := HN2.out; have := HN3.out; have := HN4.out; omega))
  have PXx : Hid (ClIn n3 n4 (((w4.setCell ⟨w.heap.size + 1 + 1, 6, none⟩ (.slice ub c.bv.length ud)).setCell ⟨w.heap.size + 1 + 1, 7, none⟩ (.slice xb c.bc.length xd)).setCell ⟨w.heap.size + 1 + 1, 8, none⟩ (.string c.bo)) (.slice xb c.bc.length xd) c.bc) := PXy.out.keep (fun q q1 q2 => OT q (by have := HN0.out; have := HN1.out; have := HN2.out; have := HN3.out; have := HN4.out; omega))
  clear OT gA0 gZ0 gO0 gA1 gZ1 gO1 gA2 gZ2 gO2 HN4 HBy HAy HZy HOy PTy PIy PNy PUy PXy
  go_wp2_with fail
  generalize (((w4.setCell ⟨w.heap.size + 1 + 1, 6, none⟩ (.slice ub c.bv.length ud)).setCell ⟨w.heap.size + 1 + 1, 7, none⟩ (.slice xb c.bc.length xd)).setCell ⟨w.heap.size + 1 + 1, 8, none⟩ (.string c.bo)) = X4 at *
  clear cA14 cA15 cA16 cO6 cO7 cO8 fO6 fO7 fO8
  have HA := hidOfT HAx.out
  have HZ := hidOfT HZx.out
  have HO := hidOfT HOx.out
  have HB := hidOfT HBx.out
  have HN4 := hidOfT HN4x.out
  have PT := hidOfT PTx.out
  have PI := hidOfT PIx.out
  have PN := hidOfT PNx.out
  have PU := hidOfT PUx.out
  have PX := hidOfT PXx.out
  clear HAx HZx HOx HBx HN4x PTx PIx PNx PUx PXx
  refine (C5.out _ HB.out).mono ?_
  rintro e w5 ⟨gb, gd, hbb, hd, rfl, hb, hr1, hr2⟩
  have HAy := hidOfT ((hb.block _ (blk_lt HA.out)).trans HA.out)
  have HZy := hidOfT ((hb.block _ (blk_lt HZ.out)).trans HZ.out)
  have HOy := hidOfT ((hb.block _ (blk_lt HO.out)).trans HO.out)
  have HBy := hidOfT (HB.out.trans (hb.mono HB.out.size))
  obtain ⟨n5, hn5⟩ : ∃ n, n = w5.heap.size := ⟨_, rfl⟩
  have HN5 : Hid (w5.heap.size = n5 ∧ n4 ≤ n5) := ⟨hn5.symm, by have := hb.size; have := HN4.out; omega⟩
  have PTy : Hid (TxIn n0 n1 w5 (.slice tb c.ts.length td) c.ts) := PT.out.keep (fun q q1 q2 => hb.block q (by have := HN0.out; have := HN1.out; have := HN2.out; have := HN3.out; have := HN4.out; omega))
  have PIy : Hid (InIn n1 n2 w5 (.slice lb c.xs.length ld) c.xs) := PI.out.keep (fun q q1 q2 => hb.block q (by have := HN0.out; have := HN1.out; have := HN2.out; have := HN3.out; have := HN4.out; omega))
  have PNy : Hid (TxIn n2 n3 w5 (.slice nb c.ns.length nd) c.ns) := PN.out.keep (fun q q1 q2 => hb.block q (by have := HN0.out; have := HN1.out; have := HN2.out; have := HN3.out; have := HN4.out; omega))
  have PUy : Hid (VrIn n3 n4 w5 (.slice ub c.bv.length ud) c.bv) := PU.out.keep (fun q q1 q2 => hb.block q (by have := HN0.out; have := HN1.out; have := HN2.out; have := HN3.out; have := HN4.out; omega))
  have PXy : Hid (ClIn n3 n4 w5 (.slice xb c.bc.length xd) c.bc) := PX.out.keep (fun q q1 q2 => hb.block q (by have := HN0.out; have := HN1.out; have := HN2.out; have := HN3.out; have := HN4.out; omega))
  have PGy : Hid (VrIn n4 n5 w5 (.slice gb c.fv.length gd) c.fv) := by rw [HN4.out.1, ← hn5] at hr1; exact hr1
  have PHy : Hid (ClIn n4 n5 w5 (.slice hbb c.fc.length hd) c.fc) := by rw [HN4.out.1, ← hn5] at hr2; exact hr2
  clear hn5 hb HB HA HZ HO PT PI PN PU PX hr1 hr2 C5
  have cO10 := (blk_cell HOy.out 10).trans rfl
  have cO14 := (blk_cell HOy.out 14).trans rfl
  have cO15 := (blk_cell HOy.out 15).trans rfl
  have cO16 := (blk_cell HOy.out 16).trans rfl
  have fO14 := blk_free HOy.out 14
  have fO15 := blk_free HOy.out 15
  have fO16 := blk_free HOy.out 16
  have gA0 : ((w5).setCell ⟨w.heap.size + 1 + 1, 14, none⟩ (.slice gb c.fv.length gd)).heap[w.heap.size]? = some (.cells #[.slice ta c.ts.length tc, .slice la c.xs.length lc, .int .i64 c.bg, .int .i64 c.li, .int .i64 c.en, .slice na c.ns.length nc, .slice ua c.bv.length uc, .slice xa c.bc.length xc, .string c.bo, .int .i64 c.cnt, .slice ka N kc, .int .i64 c.now, .int .i64 c.tries, .bool c.over, .slice ga c.fv.length gc, .slice ha c.fc.length hc, .string c.fo] 43 (0, 0)) := (Below.heap_setCell _ _ _ _ (by show w.heap.size ≠ w.heap.size + 1 + 1; omega)).trans HAy.out
  have gZ0 : ((w5).setCell ⟨w.heap.size + 1 + 1, 14, none⟩ (.slice gb c.fv.length gd)).heap[w.heap.size + 1]? = some (.cells #[.slice none 0 0, .slice none 0 0, .int .i64 0, .int .i64 0, .int .i64 0, .slice none 0 0, .slice none 0 0, .slice none 0 0, .string ⟨#[]⟩, .int .i64 0, .slice none 0 0, .int .i64 0, .int .i64 0, .bool false, .slice none 0 0, .slice none 0 0, .string ⟨#[]⟩] 43 (0, 0)) := (Below.heap_setCell _ _ _ _ (by show w.heap.size + 1 ≠ w.heap.size + 1 + 1; omega)).trans HZy.out
  have gO0 : ((w5).setCell ⟨w.heap.size + 1 + 1, 14, none⟩ (.slice gb c.fv.length gd)).heap[w.heap.size + 1 + 1]? = some (.cells #[(.slice tb c.ts.length td), (.slice lb c.xs.length ld), .int .i64 c.bg, .int .i64 c.li, .int .i64 c.en, (.slice nb c.ns.length nd), (.slice ub c.bv.length ud), (.slice xb c.bc.length xd), (.string c.bo), .int .i64 c.cnt, .slice ka N kc, .int .i64 c.now, .int .i64 c.tries, .bool c.over, (.slice gb c.fv.length gd), .slice ha c.fc.length hc, .string c.fo] 43 (0, 0)) := blk_set HOy.out 14 _
  have gA1 : (((w5.setCell ⟨w.heap.size + 1 + 1, 14, none⟩ (.slice gb c.fv.length gd))).setCell ⟨w.heap.size + 1 + 1, 15, none⟩ (.slice hbb c.fc.length hd)).heap[w.heap.size]? = some (.cells #[.slice ta c.ts.length tc, .slice la c.xs.length lc, .int .i64 c.bg, .int .i64 c.li, .int .i64 c.en, .slice na c.ns.length nc, .slice ua c.bv.length uc, .slice xa c.bc.length xc, .string c.bo, .int .i64 c.cnt, .slice ka N kc, .int .i64 c.now, .int .i64 c.tries, .bool c.over, .slice ga c.fv.length gc, .slice ha c.fc.length hc, .string c.fo] 43 (0, 0)) := (Below.heap_setCell _ _ _ _ (by show w.heap.size ≠ w.heap.size + 1 + 1; omega)).trans gA0
  have gZ1 : (((w5.setCell ⟨w.heap.size + 1 + 1, 14, none⟩ (.slice gb c.fv.length gd))).setCell ⟨w.heap.size + 1 + 1, 15, none⟩ (.slice hbb c.fc.length hd)).heap[w.heap.size + 1]? = some (.cells #[.slice none 0 0, .slice none 0 0, .int .i64 0, .int .i64 0, .int .i64 0, .slice none 0 0, .slice none 0 0, .slice none 0 0, .string ⟨#[]⟩, .int .i64 0, .slice none 0 0, .int .i64 0, .int .i64 0, .bool false, .slice none 0 0, .slice none 0 0, .string ⟨#[]⟩] 43 (0, 0)) := (Below.heap_setCell _ _ _ _ (by show w.heap.size + 1 ≠ w.heap.size + 1 + 1; omega)).trans gZ0
  have gO1 : (((w5.setCell ⟨w.heap.size + 1 + 1, 14, none⟩ (.slice gb c.fv.length gd))).setCell ⟨w.heap.size + 1 + 1, 15, none⟩ (.slice hbb c.fc.length hd)).heap[w.heap.size + 1 + 1]? = some (.cells #[(.slice tb c.ts.length td), (.slice lb c.xs.length ld), .int .i64 c.bg, .int .i64 c.li, .int .i64 c.en, (.slice nb c.ns.length nd), (.slice ub c.bv.length ud), (.slice xb c.bc.length xd), (.string c.bo), .int .i64 c.cnt, .slice ka N kc, .int .i64 c.now, .int .i64 c.tries, .bool c.over, (.slice gb c.fv.length gd), (.slice hbb c.fc.length hd), .string c.fo] 43 (0, 0)) := blk_set gO0 15 _
  have gA2 : ((((w5.setCell ⟨w.heap.size + 1 + 1, 14, none⟩ (.slice gb c.fv.length gd)).setCell ⟨w.heap.size + 1 + 1, 15, none⟩ (.slice hbb c.fc.length hd))).setCell ⟨w.heap.size + 1 + 1, 16, none⟩ (.string c.fo)).heap[w.heap.size]? = some (.cells #[.slice ta c.ts.length tc, .slice la c.xs.length lc, .int .i64 c.bg, .int .i64 c.li, .int .i64 c.en, .slice na c.ns.length nc, .slice ua c.bv.length uc, .slice xa c.bc.length xc, .string c.bo, .int .i64 c.cnt, .slice ka N kc, .int .i64 c.now, .int .i64 c.tries, .bool c.over, .slice ga c.fv.length gc, .slice ha c.fc.length hc, .string c.fo] 43 (0, 0)) := (Below.heap_setCell _ _ _ _ (by show w.heap.size ≠ w.heap.size + 1 + 1; omega)).trans gA1
  have gZ2 : ((((w5.setCell ⟨w.heap.size + 1 + 1, 14, none⟩ (.slice gb c.fv.length gd)).setCell ⟨w.heap.size + 1 + 1, 15, none⟩ (.slice hbb c.fc.length hd))).setCell ⟨w.heap.size + 1 + 1, 16, none⟩ (.string c.fo)).heap[w.heap.size + 1]? = some (.cells #[.slice none 0 0, .slice none 0 0, .int .i64 0, .int .i64 0, .int .i64 0, .slice none 0 0, .slice none 0 0, .slice none 0 0, .string ⟨#[]⟩, .int .i64 0, .slice none 0 0, .int .i64 0, .int .i64 0, .bool false, .slice none 0 0, .slice none 0 0, .string ⟨#[]⟩] 43 (0, 0)) := (Below.heap_setCell _ _ _ _ (by show w.heap.size + 1 ≠ w.heap.size + 1 + 1; omega)).trans gZ1
  have gO2 : ((((w5.setCell ⟨w.heap.size + 1 + 1, 14, none⟩ (.slice gb c.fv.length gd)).setCell ⟨w.heap.size + 1 + 1, 15, none⟩ (.slice hbb c.fc.length hd))).setCell ⟨w.heap.size + 1 + 1, 16, none⟩ (.string c.fo)).heap[w.heap.size + 1 + 1]? = some (.cells #[(.slice tb c.ts.length td), (.slice lb c.xs.length ld), .int .i64 c.bg, .int .i64 c.li, .int .i64 c.en, (.slice nb c.ns.length nd), (.slice ub c.bv.length ud), (.slice xb c.bc.length xd), (.string c.bo), .int .i64 c.cnt, .slice ka N kc, .int .i64 c.now, .int .i64 c.tries, .bool c.over, (.slice gb c.fv.length gd), (.slice hbb c.fc.length hd), (.string c.fo)] 43 (0, 0)) := blk_set gO1 16 _
  have OT : ∀ q, n0 ≤ q → (((w5.setCell ⟨w.heap.size + 1 + 1, 14, none⟩ (.slice gb c.fv.length gd)).setCell ⟨w.heap.size + 1 + 1, 15, none⟩ (.slice hbb c.fc.length hd)).setCell ⟨w.heap.size + 1 + 1, 16, none⟩ (.string c.fo)).heap[q]? = w5.heap[q]? := by
    intro q hq
    have := HN0.out.2
    rw [Below.heap_setCell _ _ _ _ (by show q ≠ w.heap.size + 1 + 1; omega), Below.heap_setCell _ _ _ _ (by show q ≠ w.heap.size + 1 + 1; omega), Below.heap_setCell _ _ _ _ (by show q ≠ w.heap.size + 1 + 1; omega)]
  have HAx := hidOfT gA2
  have HZx := hidOfT gZ2
  have HOx := hidOfT gO2
  have HBx : Hid (Below w.heap.size w (((w5.setCell ⟨w.heap.size + 1 + 1, 14, none⟩ (.slice gb c.fv.length gd)).setCell ⟨w.heap.size + 1 + 1, 15, none⟩ (.slice hbb c.fc.length hd)).setCell ⟨w.heap.size + 1 + 1, 16, none⟩ (.string c.fo))) := (((HBy.out.setCell (by show w.heap.size ≤ w.heap.size + 1 + 1; omega) (.slice gb c.fv.length gd)).setCell (by show w.heap.size ≤ w.heap.size + 1 + 1; omega) (.slice hbb c.fc.length hd)).setCell (by show w.heap.size ≤ w.heap.size + 1 + 1; omega) (.string c.fo))
  have HN5x : Hid ((((w5.setCell ⟨w.heap.size + 1 + 1, 14, none⟩ (.slice gb c.fv.length gd)).setCell ⟨w.heap.size + 1 + 1, 15, none⟩ (.slice hbb c.fc.length hd)).setCell ⟨w.heap.size + 1 + 1, 16, none⟩ (.string c.fo)).heap.size = n5 ∧ n4 ≤ n5) := ⟨by have := HN5.out.1; simpa [World.setCell] using this, HN5.out.2⟩
  have PTx : Hid (TxIn n0 n1 (((w5.setCell ⟨w.heap.size + 1 + 1, 14, none⟩ (.slice gb c.fv.length gd)).setCell ⟨w.heap.size + 1 + 1, 15, none⟩ (.slice hbb c.fc.length hd)).setCell ⟨w.heap.size + 1 + 1, 16, none⟩ (.string c.fo)) (.slice tb c.ts.length td) c.ts) := PTy.out.keep (fun q q1 q2 => OT q (by have := HN0.out; have := HN1.out; have := HN2.out; have := HN3.out; have := HN4.out; have := HN5.out; omega))
  have PIx : Hid (InIn n1 n2 (((w5.setCell ⟨w.heap.size + 1 + 1, 14, none⟩ (.slice gb c.fv.length gd)).setCell ⟨w.heap.size + 1 + 1, 15, none⟩ (.slice hbb c.fc.length hd)).setCell ⟨w.heap.size + 1 + 1, 16, none⟩ (.string c.fo)) (.slice lb c.xs.length ld) c.xs) := PIy.out.keep (fun q q1 q2 => OT q (by have := HN0.out; have := HN1.out; have := HN2.out; have := HN3.out; have := HN4.out; have := HN5.out; omega))
  have PNx : Hid (TxIn n2 n3 (((w5.setCell ⟨w.heap.size + 1 + 1, 14, none⟩ (.slice gb c.fv.length gd)).setCell ⟨w.heap.size + 1 + 1, 15, none⟩ (.slice hbb c.fc.length hd)).setCell ⟨w.heap.size + 1 + 1, 16, none⟩ (.string c.fo)) (.slice nb c.ns.length nd) c.ns) := PNy.out.keep (fun q q1 q2 => OT q (by have := HN0.out; have := HN1.out; have := HN2.out; have := HN3.out; have := HN4.out; have := HN5.out; omega))
  have PUx : Hid (VrIn n3 n4 (((w5.setCell ⟨w.heap.size + 1 + 1, 14, none⟩ (.slice gb c.fv.length gd)).setCell ⟨w.heap.size + 1 + 1, 15, none⟩ (.slice hbb c.fc.length hd)).setCell ⟨w.heap.size + 1 + 1, 16, none⟩ (.string c.fo)) (.slice ub c.bv.length ud) c.bv) := PUy.out.keep (fun q q1 q2 => OT q (by have := HN0.out; have := HN1.out; have := HN2.out; have := HN3.out; have := HN4.out; have := HN5.out; omega))
  have PXx : Hid (ClIn n3 n4 (((w5.setCell ⟨w.heap.size + 1 + 1, 14, none⟩ (.slice gb c.fv.length gd)).setCell ⟨w.heap.size + 1 + 1, 15, none⟩ (.slice hbb c.fc.length hd)).setCell ⟨w.heap.size + 1 + 1, 16, none⟩ (.string c.fo)) (.slice xb c.bc.length xd) c.bc) := PXy.out.keep (fun q q1 q2 => OT q (by have := HN0.out; have := HN1.out; have := HN2.out; have := HN3.out; have := HN4.out; have := HN5.out; omega))
  have PGx : Hid (VrIn n4 n5 (((w5.setCell ⟨w.heap.size + 1 + 1, 14, none⟩ (.slice gb c.fv.length gd)).setCell ⟨w.heap.size + 1 + 1, 15, none⟩ (.slice hbb c.fc.length hd)).setCell ⟨w.heap.size + 1 + 1, 16, none⟩ (.string c.fo)) (.slice gb c.fv.length gd) c.fv) := PGy.out.keep (fun q q1 q2 => OT q (by have := HN0.out; have := HN1.out; have := HN2.out; have := HN3.out; have := HN4.out; have := HN5.out; omega))
  have PHx : Hid (ClIn n4 n5 (((w5.setCell ⟨w.heap.size + 1 + 1, 14, none⟩ (.slice gb c.fv.length gd)).setCell ⟨w.heap.size + 1 + 1, 15, none⟩ (.slice hbb c.fc.length hd)).setCell ⟨w.heap.size + 1 + 1, 16, none⟩ (.string c.fo)) (.slice hbb c.fc.length hd) c.fc) := PHy.out.keep (fun q q1 q2 => OT q (by have := HN0.out; have := HN1.out; have := HN2.out; have := HN3.out; have := HN4.out; have := HN5.out; omega))
  have HW5 := hidOfT HN5.out.1
  have hla5 : w.heap.size < w5.heap.size := by have := HN0.out; have := HN1.out; have := HN2.out; have := HN3.out; have := HN4.out; have := HN5.out; omega
  have hlt5 : w.heap.size + 1 + 1 < w5.heap.size := by have := HN0.out; have := HN1.out; have := HN2.out; have := HN3.out; have := HN4.out; have := HN5.out; omega
  clear OT gA0 gZ0 gO0 gA1 gZ1 gO1 gA2 gZ2 gO2 HN5 HBy HAy HZy HOy PTy PIy PNy PUy PXy PGy PHy
  have fO10 := blk_free HOx.out 10
  have eO10 := (blk_cell HOx.out 10).trans rfl
  have hz5 : ((((w5.setCell ⟨w.heap.size + 1 + 1, 14, none⟩ (.slice gb c.fv.length gd)).setCell ⟨w.heap.size + 1 + 1, 15, none⟩ (.slice hbb c.fc.length hd)).setCell ⟨w.heap.size + 1 + 1, 16, none⟩ (.string c.fo)).setCell ⟨w.heap.size + 1 + 1, 10, none⟩ (.slice (some ⟨w5.heap.size, 0, none⟩) 0 0)).heap.size = n5 := by have := HN5x.out.1; simpa [World.setCell] using this
  have hl5 : w.heap.size + 1 + 1 < ((((w5.setCell ⟨w.heap.size + 1 + 1, 14, none⟩ (.slice gb c.fv.length gd)).setCell ⟨w.heap.size + 1 + 1, 15, none⟩ (.slice hbb c.fc.length hd)).setCell ⟨w.heap.size + 1 + 1, 16, none⟩ (.string c.fo)).setCell ⟨w.heap.size + 1 + 1, 10, none⟩ (.slice (some ⟨w5.heap.size, 0, none⟩) 0 0)).heap.size := by rw [hz5]; have := HN0.out; have := HN1.out; have := HN2.out; have := HN3.out; have := HN4.out; have := HN5x.out; omega
  have hal : ∀ q, q < ((((w5.setCell ⟨w.heap.size + 1 + 1, 14, none⟩ (.slice gb c.fv.length gd)).setCell ⟨w.heap.size + 1 + 1, 15, none⟩ (.slice hbb c.fc.length hd)).setCell ⟨w.heap.size + 1 + 1, 16, none⟩ (.string c.fo)).setCell ⟨w.heap.size + 1 + 1, 10, none⟩ (.slice (some ⟨w5.heap.size, 0, none⟩) 0 0)).heap.size → (((((w5.setCell ⟨w.heap.size + 1 + 1, 14, none⟩ (.slice gb c.fv.length gd)).setCell ⟨w.heap.size + 1 + 1, 15, none⟩ (.slice hbb c.fc.length hd)).setCell ⟨w.heap.size + 1 + 1, 16, none⟩ (.string c.fo)).setCell ⟨w.heap.size + 1 + 1, 10, none⟩ (.slice (some ⟨w5.heap.size, 0, none⟩) 0 0)).alloc (.cells #[] 76)).heap[q]? = ((((w5.setCell ⟨w.heap.size + 1 + 1, 14, none⟩ (.slice gb c.fv.length gd)).setCell ⟨w.heap.size + 1 + 1, 15, none⟩ (.slice hbb c.fc.length hd)).setCell ⟨w.heap.size + 1 + 1, 16, none⟩ (.string c.fo)).setCell ⟨w.heap.size + 1 + 1, 10, none⟩ (.slice (some ⟨w5.heap.size, 0, none⟩) 0 0)).heap[q]? := fun q hq => ((Below.refl ((((w5.setCell ⟨w.heap.size + 1 + 1, 14, none⟩ (.slice gb c.fv.length gd)).setCell ⟨w.heap.size + 1 + 1, 15, none⟩ (.slice hbb c.fc.length hd)).setCell ⟨w.heap.size + 1 + 1, 16, none⟩ (.string c.fo)).setCell ⟨w.heap.size + 1 + 1, 10, none⟩ (.slice (some ⟨w5.heap.size, 0, none⟩) 0 0)).heap.size ((((w5.setCell ⟨w.heap.size + 1 + 1, 14, none⟩ (.slice gb c.fv.length gd)).setCell ⟨w.heap.size + 1 + 1, 15, none⟩ (.slice hbb c.fc.length hd)).setCell ⟨w.heap.size + 1 + 1, 16, none⟩ (.string c.fo)).setCell ⟨w.heap.size + 1 + 1, 10, none⟩ (.slice (some ⟨w5.heap.size, 0, none⟩) 0 0))).alloc (Nat.le_refl _) (.cells #[] 76)).block q hq
  have a4 := heap_alloc_new ((((w5.setCell ⟨w.heap.size + 1 + 1, 14, none⟩ (.slice gb c.fv.length gd)).setCell ⟨w.heap.size + 1 + 1, 15, none⟩ (.slice hbb c.fc.length hd)).setCell ⟨w.heap.size + 1 + 1, 16, none⟩ (.string c.fo)).setCell ⟨w.heap.size + 1 + 1, 10, none⟩ (.slice (some ⟨w5.heap.size, 0, none⟩) 0 0)) (.cells #[] 76)
  rw [hz5] at a4
  have HA6 := hidOfT (show (((((w5.setCell ⟨w.heap.size + 1 + 1, 14, none⟩ (.slice gb c.fv.length gd)).setCell ⟨w.heap.size + 1 + 1, 15, none⟩ (.slice hbb c.fc.length hd)).setCell ⟨w.heap.size + 1 + 1, 16, none⟩ (.string c.fo)).setCell ⟨w.heap.size + 1 + 1, 10, none⟩ (.slice (some ⟨w5.heap.size, 0, none⟩) 0 0)).alloc (.cells #[] 76)).heap[w.heap.size]? = some (.cells #[.slice ta c.ts.length tc, .slice la c.xs.length lc, .int .i64 c.bg, .int .i64 c.li, .int .i64 c.en, .slice na c.ns.length nc, .slice ua c.bv.length uc, .slice xa c.bc.length xc, .string c.bo, .int .i64 c.cnt, .slice ka N kc, .int .i64 c.now, .int .i64 c.tries, .bool c.over, .slice ga c.fv.length gc, .slice ha c.fc.length hc, .string c.fo] 43 (0, 0)) from (hal _ (by omega)).trans ((Below.heap_setCell _ _ _ _ (by show w.heap.size ≠ w.heap.size + 1 + 1; omega)).trans HAx.out))
  have HZ6 := hidOfT (show (((((w5.setCell ⟨w.heap.size + 1 + 1, 14, none⟩ (.slice gb c.fv.length gd)).setCell ⟨w.heap.size + 1 + 1, 15, none⟩ (.slice hbb c.fc.length hd)).setCell ⟨w.heap.size + 1 + 1, 16, none⟩ (.string c.fo)).setCell ⟨w.heap.size + 1 + 1, 10, none⟩ (.slice (some ⟨w5.heap.size, 0, none⟩) 0 0)).alloc (.cells #[] 76)).heap[w.heap.size + 1]? = some (.cells #[.slice none 0 0, .slice none 0 0, .int .i64 0, .int .i64 0, .int .i64 0, .slice none 0 0, .slice none 0 0, .slice none 0 0, .string ⟨#[]⟩, .int .i64 0, .slice none 0 0, .int .i64 0, .int .i64 0, .bool false, .slice none 0 0, .slice none 0 0, .string ⟨#[]⟩] 43 (0, 0)) from (hal _ (by omega)).trans ((Below.heap_setCell _ _ _ _ (by show w.heap.size + 1 ≠ w.heap.size + 1 + 1; omega)).trans HZx.out))
  have HO6 := hidOfT (show (((((w5.setCell ⟨w.heap.size + 1 + 1, 14, none⟩ (.slice gb c.fv.length gd)).setCell ⟨w.heap.size + 1 + 1, 15, none⟩ (.slice hbb c.fc.length hd)).setCell ⟨w.heap.size + 1 + 1, 16, none⟩ (.string c.fo)).setCell ⟨w.heap.size + 1 + 1, 10, none⟩ (.slice (some ⟨w5.heap.size, 0, none⟩) 0 0)).alloc (.cells #[] 76)).heap[w.heap.size + 1 + 1]? = some (.cells #[(.slice tb c.ts.length td), (.slice lb c.xs.length ld), .int .i64 c.bg, .int .i64 c.li, .int .i64 c.en, (.slice nb c.ns.length nd), (.slice ub c.bv.length ud), (.slice xb c.bc.length xd), (.string c.bo), .int .i64 c.cnt, .slice (some ⟨w5.heap.size, 0, none⟩) 0 0, .int .i64 c.now, .int .i64 c.tries, .bool c.over, (.slice gb c.fv.length gd), (.slice hbb c.fc.length hd), (.string c.fo)] 43 (0, 0)) from (hal _ hl5).trans (blk_set HOx.out 10 _))
  have HE6 := hidOfT (show (((((w5.setCell ⟨w.heap.size + 1 + 1, 14, none⟩ (.slice gb c.fv.length gd)).setCell ⟨w.heap.size + 1 + 1, 15, none⟩ (.slice hbb c.fc.length hd)).setCell ⟨w.heap.size + 1 + 1, 16, none⟩ (.string c.fo)).setCell ⟨w.heap.size + 1 + 1, 10, none⟩ (.slice (some ⟨w5.heap.size, 0, none⟩) 0 0)).alloc (.cells #[] 76)).heap[n5]? = some (.cells #[] 76 (0, 0)) from a4)
  have HB6 : Hid (Below w.heap.size w (((((w5.setCell ⟨w.heap.size + 1 + 1, 14, none⟩ (.slice gb c.fv.length gd)).setCell ⟨w.heap.size + 1 + 1, 15, none⟩ (.slice hbb c.fc.length hd)).setCell ⟨w.heap.size + 1 + 1, 16, none⟩ (.string c.fo)).setCell ⟨w.heap.size + 1 + 1, 10, none⟩ (.slice (some ⟨w5.heap.size, 0, none⟩) 0 0)).alloc (.cells #[] 76))) := (HBx.out.setCell (by show w.heap.size ≤ w.heap.size + 1 + 1; omega) _).alloc (by omega) _
  have HN6 : Hid ((((((w5.setCell ⟨w.heap.size + 1 + 1, 14, none⟩ (.slice gb c.fv.length gd)).setCell ⟨w.heap.size + 1 + 1, 15, none⟩ (.slice hbb c.fc.length hd)).setCell ⟨w.heap.size + 1 + 1, 16, none⟩ (.string c.fo)).setCell ⟨w.heap.size + 1 + 1, 10, none⟩ (.slice (some ⟨w5.heap.size, 0, none⟩) 0 0)).alloc (.cells #[] 76)).heap.size = n5 + 1) := by show _ = _; rw [World.size_alloc, hz5]
  have HQ6 : Hid (∀ q, n0 ≤ q → q < n5 → (((((w5.setCell ⟨w.heap.size + 1 + 1, 14, none⟩ (.slice gb c.fv.length gd)).setCell ⟨w.heap.size + 1 + 1, 15, none⟩ (.slice hbb c.fc.length hd)).setCell ⟨w.heap.size + 1 + 1, 16, none⟩ (.string c.fo)).setCell ⟨w.heap.size + 1 + 1, 10, none⟩ (.slice (some ⟨w5.heap.size, 0, none⟩) 0 0)).alloc (.cells #[] 76)).heap[q]? = (((w5.setCell ⟨w.heap.size + 1 + 1, 14, none⟩ (.slice gb c.fv.length gd)).setCell ⟨w.heap.size + 1 + 1, 15, none⟩ (.slice hbb c.fc.length hd)).setCell ⟨w.heap.size + 1 + 1, 16, none⟩ (.string c.fo)).heap[q]?) := fun q q1 q2 => (hal q (by omega)).trans (Below.heap_setCell _ _ _ _ (by show q ≠ w.heap.size + 1 + 1; have := HN0.out; omega))
  have PTz : Hid (TxIn n0 n1 (((((w5.setCell ⟨w.heap.size + 1 + 1, 14, none⟩ (.slice gb c.fv.length gd)).setCell ⟨w.heap.size + 1 + 1, 15, none⟩ (.slice hbb c.fc.length hd)).setCell ⟨w.heap.size + 1 + 1, 16, none⟩ (.string c.fo)).setCell ⟨w.heap.size + 1 + 1, 10, none⟩ (.slice (some ⟨w5.heap.size, 0, none⟩) 0 0)).alloc (.cells #[] 76)) (.slice tb c.ts.length td) c.ts) := PTx.out.keep (fun q q1 q2 => HQ6.out q (by have := HN0.out; have := HN1.out; have := HN2.out; have := HN3.out; have := HN4.out; have := HN5x.out; omega) (by have := HN0.out; have := HN1.out; have := HN2.out; have := HN3.out; have := HN4.out; have := HN5x.out; omega))
  have PIz : Hid (InIn n1 n2 (((((w5.setCell ⟨w.heap.size + 1 + 1, 14, none⟩ (.slice gb c.fv.length gd)).setCell ⟨w.heap.size + 1 + 1, 15, none⟩ (.slice hbb c.fc.length hd)).setCell ⟨w.heap.size + 1 + 1, 16, none⟩ (.string c.fo)).setCell ⟨w.heap.size + 1 + 1, 10, none⟩ (.slice (some ⟨w5.heap.size, 0, none⟩) 0 0)).alloc (.cells #[] 76)) (.slice lb c.xs.length ld) c.xs) := PIx.out.keep (fun q q1 q2 => HQ6.out q (by have := HN0.out; have := HN1.out; have := HN2.out; have := HN3.out; have := HN4.out; have := HN5x.out; omega) (by have := HN0.out; have := HN1.out; have := HN2.out; have := HN3.out; have := HN4.out; have := HN5x.out; omega))
  have PNz : Hid (TxIn n2 n3 (((((w5.setCell ⟨w.heap.size + 1 + 1, 14, none⟩ (.slice gb c.fv.length gd)).setCell ⟨w.heap.size + 1 + 1, 15, none⟩ (.slice hbb c.fc.length hd)).setCell ⟨w.heap.size + 1 + 1, 16, none⟩ (.string c.fo)).setCell ⟨w.heap.size + 1 + 1, 10, none⟩ (.slice (some ⟨w5.heap.size, 0, none⟩) 0 0)).alloc (.cells #[] 76)) (.slice nb c.ns.length nd) c.ns) := PNx.out.keep (fun q q1 q2 => HQ6.out q (by have := HN0.out; have := HN1.out; have := HN2.out; have := HN3.out; have := HN4.out; have := HN5x.out; omega) (by have := HN0.out; have := HN1.out; have := HN2.out; have := HN3.out; have := HN4.out; have := HN5x.out; omega))
  have PUz : Hid (VrIn n3 n4 (((((w5.setCell ⟨w.heap.size + 1 + 1, 14, none⟩ (.slice gb c.fv.length gd)).setCell ⟨w.heap.size + 1 + 1, 15, none⟩ (.slice hbb c.fc.length hd)).setCell ⟨w.heap.size + 1 + 1, 16, none⟩ (.string c.fo)).setCell ⟨w.heap.size + 1 + 1, 10, none⟩ (.slice (some ⟨w5.heap.size, 0, none⟩) 0 0)).alloc (.cells #[] 76)) (.slice ub c.bv.length ud) c.bv) := PUx.out.keep (fun q q1 q2 => HQ6.out q (by have := HN0.out; have := HN1.out; have := HN2.out; have := HN3.out; have := HN4.out; have := HN5x.out; omega) (by have := HN0.out; have := HN1.out; have := HN2.out; have := HN3.out; have := HN4.out; have := HN5x.out; omega))
  have PXz : Hid (ClIn n3 n4 (((((w5.setCell ⟨w.heap.size + 1 + 1, 14, none⟩ (.slice gb c.fv.length gd)).setCell ⟨w.heap.size + 1 + 1, 15, none⟩ (.slice hbb c.fc.length hd)).setCell ⟨w.heap.size + 1 + 1, 16, none⟩ (.string c.fo)).setCell ⟨w.heap.size + 1 + 1, 10, none⟩ (.slice (some ⟨w5.heap.size, 0, none⟩) 0 0)).alloc (.cells #[] 76)) (.slice xb c.bc.length xd) c.bc) := PXx.out.keep (fun q q1 q2 => HQ6.out q (by have := HN0.out; have := HN1.out; have := HN2.out; have := HN3.out; have := HN4.out; have := HN5x.out; omega) (by have := HN0.out; have := HN1.out; have := HN2.out; have := HN3.out; have := HN4.out; have := HN5x.out; omega))
  have PGz : Hid (VrIn n4 n5 (((((w5.setCell ⟨w.heap.size + 1 + 1, 14, none⟩ (.slice gb c.fv.length gd)).setCell ⟨w.heap.size + 1 + 1, 15, none⟩ (.slice hbb c.fc.length hd)).setCell ⟨w.heap.size + 1 + 1, 16, none⟩ (.string c.fo)).setCell ⟨w.heap.size + 1 + 1, 10, none⟩ (.slice (some ⟨w5.heap.size, 0, none⟩) 0 0)).alloc (.cells #[] 76)) (.slice gb c.fv.length gd) c.fv) := PGx.out.keep (fun q q1 q2 => HQ6.out q (by have := HN0.out; have := HN1.out; have := HN2.out; have := HN3.out; have := HN4.out; have := HN5x.out; omega) (by have := HN0.out; have := HN1.out; have := HN2.out; have := HN3.out; have := HN4.out; have := HN5x.out; omega))
  have PHz : Hid (ClIn n4 n5 (((((w5.setCell ⟨w.heap.size + 1 + 1, 14, none⟩ (.slice gb c.fv.length gd)).setCell ⟨w.heap.size + 1 + 1, 15, none⟩ (.slice hbb c.fc.length hd)).setCell ⟨w.heap.size + 1 + 1, 16, none⟩ (.string c.fo)).setCell ⟨w.heap.size + 1 + 1, 10, none⟩ (.slice (some ⟨w5.heap.size, 0, none⟩) 0 0)).alloc (.cells #[] 76)) (.slice hbb c.fc.length hd) c.fc) := PHx.out.keep (fun q q1 q2 => HQ6.out q (by have := HN0.out; have := HN1.out; have := HN2.out; have := HN3.out; have := HN4.out; have := HN5x.out; omega) (by have := HN0.out; have := HN1.out; have := HN2.out; have := HN3.out; have := HN4.out; have := HN5x.out; omega))
  clear a4 hal hl5 hz5 HQ6 HBx HAx HZx HOx PTx PIx PNx PUx PXx PGx PHx
  go_wp2
  generalize (((((w5.setCell ⟨w.heap.size + 1 + 1, 14, none⟩ (.slice gb c.fv.length gd)).setCell ⟨w.heap.size + 1 + 1, 15, none⟩ (.slice hbb c.fc.length hd)).setCell ⟨w.heap.size + 1 + 1, 16, none⟩ (.string c.fo)).setCell ⟨w.heap.size + 1 + 1, 10, none⟩ (.slice (some ⟨w5.heap.size, 0, none⟩) 0 0)).alloc (.cells #[] 76)) = X6 at *
  clear cO14 cO15 cO16 cO10 fO14 fO15 fO16 fO10 eO10 hlt5 hla5
  have HN5 := hidOfT HN5x.out
  clear HN5x
  rw [HW5.out] at HO6
  have HR0 : Hid (KRow (fun w e => e.Ok2 w) n5 X6 (.slice (some ⟨n5, 0, none⟩) 0 0) []) := KRow.new ⟨rfl, .inr ⟨n5, 0, #[], rfl, Nat.le_refl _, HE6.out, Nat.le_refl _, by decide, rfl, rfl⟩⟩
  clear HE6 HW5
  go_loopw [4] (fun i wr => ∃ (j : Nat) (es : List Te) (va : Option Addr) (vc : Nat), i = .int .i64 (j : Int) ∧ j ≤ N ∧ Hid (Below w.heap.size w wr) ∧ Hid (n5 ≤ wr.heap.size) ∧ Hid (∀ q, n0 ≤ q → q < n5 → wr.heap[q]? = X6.heap[q]?) ∧ Hid (wr.heap[w.heap.size]? = some (.cells #[.slice ta c.ts.length tc, .slice la c.xs.length lc, .int .i64 c.bg, .int .i64 c.li, .int .i64 c.en, .slice na c.ns.length nc, .slice ua c.bv.length uc, .slice xa c.bc.length xc, .string c.bo, .int .i64 c.cnt, .slice ka N kc, .int .i64 c.now, .int .i64 c.tries, .bool c.over, .slice ga c.fv.length gc, .slice ha c.fc.length hc, .string c.fo] 43 (0, 0))) ∧ Hid (wr.heap[w.heap.size + 1]? = some (.cells #[.slice none 0 0, .slice none 0 0, .int .i64 0, .int .i64 0, .int .i64 0, .slice none 0 0, .slice none 0 0, .slice none 0 0, .string ⟨#[]⟩, .int .i64 0, .slice none 0 0, .int .i64 0, .int .i64 0, .bool false, .slice none 0 0, .slice none 0 0, .string ⟨#[]⟩] 43 (0, 0))) ∧ Hid (wr.heap[w.heap.size + 1 + 1]? = some (.cells #[(.slice tb c.ts.length td), (.slice lb c.xs.length ld), .int .i64 c.bg, .int .i64 c.li, .int .i64 c.en, (.slice nb c.ns.length nd), (.slice ub c.bv.length ud), (.slice xb c.bc.length xd), (.string c.bo), .int .i64 c.cnt, .slice va j vc, .int .i64 c.now, .int .i64 c.tries, .bool c.over, (.slice gb c.fv.length gd), (.slice hbb c.fc.length hd), (.string c.fo)] 43 (0, 0))) ∧ Hid (KRow (fun w e => e.Ok2 w) n5 wr (.slice va j vc) es) ∧ Hid (es.length = j ∧ ∀ i, i < j → (es.getD i Te.no).t = c.ks.getD i Tk.no)) (fun i _ => N - (intOf i).toNat)
  case atStart => exact ⟨0, [], _, _, rfl, by omega, HB6.out, by have := HN6.out; show _ ≤ _; omega, fun _ _ _ => rfl, HA6.out, HZ6.out, HO6.out, HR0.out, rfl, fun i hi => by omega⟩
  case round =>
    clear HR0 HA6 HZ6 HO6 HB6
    obtain ⟨j, es, va, vc, rfl, hj, HBW, HNW, HQW, HA, HZ, HO, HR, HE⟩ := hrel
    have hlw : w.heap.size + 1 + 1 < wr.heap.size := blk_lt HO.out
    by_cases hlt : j < N
    · obtain ⟨ka', kc', e', fk⟩ := HH.out _ HBW.out
      obtain ⟨rfl, -, rfl⟩ : ka = ka' ∧ N = c.ks.length ∧ kc = kc' := by simpa using e'
      obtain ⟨bb, oo, rfl, hbl, hcc⟩ := fk (by have := HNK.out; omega)
      obtain ⟨lv0, u0, x0, ⟨d0, d1, d2, d3, d4, d5, d6⟩, hrow⟩ := hcc j (by have := HNK.out; omega)
      have hsm := HSM.out j (by have := HNK.out; omega)
      obtain ⟨p, hp⟩ : ∃ p, p = c.ks.getD j Tk.no := ⟨_, rfl⟩
      rw [← hp] at d1 d2 d3 d6 hrow hsm
      have HP : Hid (p = c.ks.getD j Tk.no) := hp
      obtain ⟨la0, lc0, rfl, -⟩ := id hrow.ls
      obtain ⟨ua0, uc0, rfl, -⟩ := id hrow.vr
      obtain ⟨xa0, xc0, rfl, -⟩ := id hrow.cl
      have D1 := hidOfT (fun (W : World) (hb : Below wr.heap.size wr W) => hrow.ls.keep hb)
      have D2 := hidOfT (fun (W : World) (hb : Below wr.heap.size wr W) => spCopyIn _ _ p.o p.vs p.cs W (hrow.vr.keep hb) (hrow.cl.keep hb) hsm.s)
      have hll := hsm.ll
      have HLL := hidOfT hll
      clear hp hcc fk e' hrow hsm hll
      have HT1 : (wr.alloc (.cells #[.slice la0 p.ls.length lc0, .int .i64 p.try_, .int .i64 p.till, .bool p.done, .slice ua0 p.vs.length uc0, .slice xa0 p.cs.length xc0, .string p.o] 76)).heap[wr.heap.size]? = some (.cells #[.slice la0 p.ls.length lc0, .int .i64 p.try_, .int .i64 p.till, .bool p.done, .slice ua0 p.vs.length uc0, .slice xa0 p.cs.length xc0, .string p.o] 76 (0, 0)) := heap_alloc_new _ _
      have HBT : Hid (Below wr.heap.size wr (wr.alloc (.cells #[.slice la0 p.ls.length lc0, .int .i64 p.try_, .int .i64 p.till, .bool p.done, .slice ua0 p.vs.length uc0, .slice xa0 p.cs.length xc0, .string p.o] 76))) := (Below.refl _ _).alloc (Nat.le_refl _) _
      have HST : Hid ((wr.alloc (.cells #[.slice la0 p.ls.length lc0, .int .i64 p.try_, .int .i64 p.till, .bool p.done, .slice ua0 p.vs.length uc0, .slice xa0 p.cs.length xc0, .string p.o] 76)).heap.size = wr.heap.size + 1) := by show _ = _; simp
      have HTB := hidOfT HT1
      have t0 := (blk_cell HT1 0).trans rfl
      have o10 := (blk_cell HA.out 10).trans rfl
      clear HT1
      have i1 : (j : Int) < (N : Int) := by omega
      have i0 : (0 : Int) ≤ (j : Int) := by omega
      go_wp2_with (at_builtin; go_must (refine TxRow.appAll (B := wr.heap.size + 1) rfl (.tmp 48) (.tmp 50) rfl (Nat.le_of_eq HST.out.symm) _ (by first | rfl | simp) rfl rfl (D1.out _ HBT.out) HLL.out ?_))
      intro lb1 ld1 w1 hr1 hb1
      have hb1 := Below.mono hb1 (show (wr.alloc (.cells #[.slice la0 p.ls.length lc0, .int .i64 p.try_, .int .i64 p.till, .bool p.done, .slice ua0 p.vs.length uc0, .slice xa0 p.cs.length xc0, .string p.o] 76)).heap.size ≤ _ by have := HST.out; omega)
      have hr1i := hr1.in
      have ht1 := (hb1.block _ (blk_lt HTB.out)).trans HTB.out
      have hs1 : wr.heap.size + 1 ≤ w1.heap.size := by have := hb1.size; have := HST.out; omega
      have HB1 : Hid (Below wr.heap.size wr (w1.setCell ⟨wr.heap.size, 0, none⟩ (.slice lb1 p.ls.length ld1))) := (HBT.out.trans (hb1.mono HBT.out.size)).setCell (Nat.le_refl _) _
      have HT2 := hidOfT (show (w1.setCell ⟨wr.heap.size, 0, none⟩ (.slice lb1 p.ls.length ld1)).heap[wr.heap.size]? = some (.cells #[.slice lb1 p.ls.length ld1, .int .i64 p.try_, .int .i64 p.till, .bool p.done, .slice ua0 p.vs.length uc0, .slice xa0 p.cs.length xc0, .string p.o] 76 (0, 0)) from blk_set ht1 0 _)
      have HS1 : Hid ((w1.setCell ⟨wr.heap.size, 0, none⟩ (.slice lb1 p.ls.length ld1)).heap.size = w1.heap.size ∧ wr.heap.size + 1 ≤ w1.heap.size) := ⟨by simp [World.setCell], hs1⟩
      have HL1 : Hid (TxIn (wr.heap.size + 1) w1.heap.size (w1.setCell ⟨wr.heap.size, 0, none⟩ (.slice lb1 p.ls.length ld1)) (.slice lb1 p.ls.length ld1) p.ls) := hr1i.keep (fun q q1 q2 => Below.heap_setCell _ _ _ _ (by show q ≠ wr.heap.size; omega))
      have p0 := (blk_cell ht1 0).trans rfl
      have f0 := blk_free ht1 0
      have p4 := (blk_cell ht1 4).trans rfl
      have p5 := (blk_cell ht1 5).trans rfl
      have p6 := (blk_cell ht1 6).trans rfl
      clear hr1 hb1 hr1i ht1 hs1 HBT HTB HST t0 D1 o10 d0 d1 d2 d3 d4 d5 d6
      go_wp2_with fail
      generalize (w1.setCell ⟨wr.heap.size, 0, none⟩ (.slice lb1 p.ls.length ld1)) = Y1 at *
      refine (D2.out _ HB1.out).mono ?_
      rintro r w2 ⟨ub1, ud1, xb1, xd1, rfl, hb2, hv2, hc2⟩
      have ht2 := (hb2.block _ (blk_lt HT2.out)).trans HT2.out
      obtain ⟨m2, hm2⟩ : ∃ m, m = w2.heap.size := ⟨_, rfl⟩
      have HM2 := hidOfT hm2
      have hs2 : w1.heap.size ≤ m2 := by have := hb2.size; have := HS1.out; omega
      rw [HS1.out.1, ← hm2] at hv2 hc2
      have hOy : ∀ q, q ≠ wr.heap.size → (((w2.setCell ⟨wr.heap.size, 4, none⟩ (.slice ub1 p.vs.length ud1)).setCell ⟨wr.heap.size, 5, none⟩ (.slice xb1 p.cs.length xd1)).setCell ⟨wr.heap.size, 6, none⟩ (.string p.o)).heap[q]? = w2.heap[q]? := fun q hq => by rw [Below.heap_setCell _ _ _ _ hq, Below.heap_setCell _ _ _ _ hq, Below.heap_setCell _ _ _ _ hq]
      have HB2 : Hid (Below wr.heap.size wr (((w2.setCell ⟨wr.heap.size, 4, none⟩ (.slice ub1 p.vs.length ud1)).setCell ⟨wr.heap.size, 5, none⟩ (.slice xb1 p.cs.length xd1)).setCell ⟨wr.heap.size, 6, none⟩ (.string p.o))) := (((HB1.out.trans (hb2.mono HB1.out.size)).setCell (Nat.le_refl _) _).setCell (Nat.le_refl _) _).setCell (Nat.le_refl _) _
      have HT3 := hidOfT (show (((w2.setCell ⟨wr.heap.size, 4, none⟩ (.slice ub1 p.vs.length ud1)).setCell ⟨wr.heap.size, 5, none⟩ (.slice xb1 p.cs.length xd1)).setCell ⟨wr.heap.size, 6, none⟩ (.string p.o)).heap[wr.heap.size]? = some (.cells #[.slice lb1 p.ls.length ld1, .int .i64 p.try_, .int .i64 p.till, .bool p.done, .slice ub1 p.vs.length ud1, .slice xb1 p.cs.length xd1, .string p.o] 76 (0, 0)) from blk_set (blk_set (blk_set ht2 4 _) 5 _) 6 _)
      have HS2 : Hid ((((w2.setCell ⟨wr.heap.size, 4, none⟩ (.slice ub1 p.vs.length ud1)).setCell ⟨wr.heap.size, 5, none⟩ (.slice xb1 p.cs.length xd1)).setCell ⟨wr.heap.size, 6, none⟩ (.string p.o)).heap.size = m2 ∧ wr.heap.size + 1 ≤ m2) := ⟨by rw [hm2]; simp [World.setCell], by have := HS1.out; omega⟩
      have HOK : Hid (((⟨p, .slice lb1 p.ls.length ld1, .slice ub1 p.vs.length ud1, .slice xb1 p.cs.length xd1, wr.heap.size + 1, m2⟩ : Te)).Ok2 (((w2.setCell ⟨wr.heap.size, 4, none⟩ (.slice ub1 p.vs.length ud1)).setCell ⟨wr.heap.size, 5, none⟩ (.slice xb1 p.cs.length xd1)).setCell ⟨wr.heap.size, 6, none⟩ (.string p.o))) := ⟨(HL1.out.keep (fun q q1 q2 => (hOy q (by omega)).trans (hb2.block q (by have := HS1.out; omega)))).wide (Nat.le_refl _) hs2, (hv2.keep (fun q q1 q2 => hOy q (by have := HS1.out; omega))).wide (by have := HS1.out; show wr.heap.size + 1 ≤ _; omega) (Nat.le_refl _), (hc2.keep (fun q q1 q2 => hOy q (by have := HS1.out; omega))).wide (by have := HS1.out; show wr.heap.size + 1 ≤ _; omega) (Nat.le_refl _)⟩
      have HR2 : Hid (KRow (fun w e => e.Ok2 w) n5 (((w2.setCell ⟨wr.heap.size, 4, none⟩ (.slice ub1 p.vs.length ud1)).setCell ⟨wr.heap.size, 5, none⟩ (.slice xb1 p.cs.length xd1)).setCell ⟨wr.heap.size, 6, none⟩ (.string p.o)) (.slice va j vc) es) := HR.out.keep stays_ok2 (by have := HS2.out; omega) (fun q q1 q2 => HB2.out.block q q2)
      have HO2 := hidOfT (show (((w2.setCell ⟨wr.heap.size, 4, none⟩ (.slice ub1 p.vs.length ud1)).setCell ⟨wr.heap.size, 5, none⟩ (.slice xb1 p.cs.length xd1)).setCell ⟨wr.heap.size, 6, none⟩ (.string p.o)).heap[w.heap.size + 1 + 1]? = some (.cells #[(.slice tb c.ts.length td), (.slice lb c.xs.length ld), .int .i64 c.bg, .int .i64 c.li, .int .i64 c.en, (.slice nb c.ns.length nd), (.slice ub c.bv.length ud), (.slice xb c.bc.length xd), (.string c.bo), .int .i64 c.cnt, .slice va j vc, .int .i64 c.now, .int .i64 c.tries, .bool c.over, (.slice gb c.fv.length gd), (.slice hbb c.fc.length hd), (.string c.fo)] 43 (0, 0)) from (HB2.out.block _ hlw).trans HO.out)
      have HL2 : Hid (es.length < 2000000 ∧ n5 ≤ (((w2.setCell ⟨wr.heap.size, 4, none⟩ (.slice ub1 p.vs.length ud1)).setCell ⟨wr.heap.size, 5, none⟩ (.slice xb1 p.cs.length xd1)).setCell ⟨wr.heap.size, 6, none⟩ (.string p.o)).heap.size ∧ n5 ≤ wr.heap.size + 1 ∧ m2 ≤ (((w2.setCell ⟨wr.heap.size, 4, none⟩ (.slice ub1 p.vs.length ud1)).setCell ⟨wr.heap.size, 5, none⟩ (.slice xb1 p.cs.length xd1)).setCell ⟨wr.heap.size, 6, none⟩ (.string p.o)).heap.size) := ⟨by have := HE.out.1; omega, by have := HS2.out; have := HNW.out; omega, by have := HNW.out; omega, by have := HS2.out; omega⟩
      have HORD : Hid ((∀ i, i < es.length → (es.getD i Te.no).d ≤ wr.heap.size + 1) ∧ ∀ q, (Value.slice va j vc).ownBlock = some q → q < wr.heap.size + 1 ∨ m2 ≤ q) := ⟨fun i hi => by have := (HR.out.inn i hi).2; omega, fun q hq => .inl (by have := (World.ownsRow.lt HR.out.row q hq).2; omega)⟩
      have v4 := (blk_cell ht2 4).trans rfl
      have v5 := (blk_cell ht2 5).trans rfl
      have v6 := (blk_cell ht2 6).trans rfl
      have f4 := blk_free ht2 4
      have f5 := blk_free ht2 5
      have f6 := blk_free ht2 6
      have o10 := (blk_cell HO2.out 10).trans rfl
      have s0 := (blk_cell HT3.out 0).trans rfl
      have s1 := (blk_cell HT3.out 1).trans rfl
      have s2 := (blk_cell HT3.out 2).trans rfl
      have s3 := (blk_cell HT3.out 3).trans rfl
      have s4 := (blk_cell HT3.out 4).trans rfl
      have s5 := (blk_cell HT3.out 5).trans rfl
      have s6 := (blk_cell HT3.out 6).trans rfl
      clear hb2 hv2 hc2 ht2 hs2 hm2 hOy HB1 HT2 HS1 HL1 p0 f0 p4 p5 p6 D2 HT3
      go_wp2_with (at_builtin; go_must (refine KRow.push stays_ok2 HR2.out rfl (.tmp 58) (.tmp 60) rfl rfl ⟨p, .slice lb1 p.ls.length ld1, .slice ub1 p.vs.length ud1, .slice xb1 p.cs.length xd1, wr.heap.size + 1, m2⟩ HOK.out HL2.out.2.2.1 HL2.out.2.2.2 HORD.out.1 HORD.out.2 ⟨rfl, rfl, rfl⟩ _ (by first | rfl | simp [World.setCell]) rfl HL2.out.1 HL2.out.2.1 ?_))
      intro q cap w3 hr3 hs3 hb3
      rw [HE.out.1] at hr3 ⊢
      generalize (((w2.setCell ⟨wr.heap.size, 4, none⟩ (.slice ub1 p.vs.length ud1)).setCell ⟨wr.heap.size, 5, none⟩ (.slice xb1 p.cs.length xd1)).setCell ⟨wr.heap.size, 6, none⟩ (.string p.o)) = Y2 at *
      clear v4 v5 v6 f4 f5 f6 o10 s0 s1 s2 s3 s4 s5 s6
      have ho3 := (hb3.block (w.heap.size + 1 + 1) (by have := HN0.out; have := HN1.out; have := HN2.out; have := HN3.out; have := HN4.out; have := HN5.out; have := HN6.out; omega)).trans HO2.out
      have ha3 := (hb3.block w.heap.size (by have := HN0.out; have := HN1.out; have := HN2.out; have := HN3.out; have := HN4.out; have := HN5.out; have := HN6.out; omega)).trans ((HB2.out.block _ (by omega)).trans HA.out)
      have hz3 := (hb3.block (w.heap.size + 1) (by have := HN0.out; have := HN1.out; have := HN2.out; have := HN3.out; have := HN4.out; have := HN5.out; have := HN6.out; omega)).trans ((HB2.out.block _ (by omega)).trans HZ.out)
      have c10 := (blk_cell ho3 10).trans rfl
      have f10 := blk_free ho3 10
      have HO3 := hidOfT (show (w3.setCell ⟨w.heap.size + 1 + 1, 10, none⟩ (.slice (some ⟨q, 0, none⟩) (j + 1) cap)).heap[w.heap.size + 1 + 1]? = some (.cells #[(.slice tb c.ts.length td), (.slice lb c.xs.length ld), .int .i64 c.bg, .int .i64 c.li, .int .i64 c.en, (.slice nb c.ns.length nd), (.slice ub c.bv.length ud), (.slice xb c.bc.length xd), (.string c.bo), .int .i64 c.cnt, .slice (some ⟨q, 0, none⟩) (j + 1) cap, .int .i64 c.now, .int .i64 c.tries, .bool c.over, (.slice gb c.fv.length gd), (.slice hbb c.fc.length hd), (.string c.fo)] 43 (0, 0)) from blk_set ho3 10 _)
      have HA3 := hidOfT (show (w3.setCell ⟨w.heap.size + 1 + 1, 10, none⟩ (.slice (some ⟨q, 0, none⟩) (j + 1) cap)).heap[w.heap.size]? = some (.cells #[.slice ta c.ts.length tc, .slice la c.xs.length lc, .int .i64 c.bg, .int .i64 c.li, .int .i64 c.en, .slice na c.ns.length nc, .slice ua c.bv.length uc, .slice xa c.bc.length xc, .string c.bo, .int .i64 c.cnt, .slice (some ⟨bb, oo, none⟩) N kc, .int .i64 c.now, .int .i64 c.tries, .bool c.over, .slice ga c.fv.length gc, .slice ha c.fc.length hc, .string c.fo] 43 (0, 0)) from (Below.heap_setCell _ _ _ _ (by show w.heap.size ≠ w.heap.size + 1 + 1; omega)).trans ha3)
      have HZ3 := hidOfT (show (w3.setCell ⟨w.heap.size + 1 + 1, 10, none⟩ (.slice (some ⟨q, 0, none⟩) (j + 1) cap)).heap[w.heap.size + 1]? = some (.cells #[.slice none 0 0, .slice none 0 0, .int .i64 0, .int .i64 0, .int .i64 0, .slice none 0 0, .slice none 0 0, .slice none 0 0, .string ⟨#[]⟩, .int .i64 0, .slice none 0 0, .int .i64 0, .int .i64 0, .bool false, .slice none 0 0, .slice none 0 0, .string ⟨#[]⟩] 43 (0, 0)) from (Below.heap_setCell _ _ _ _ (by show w.heap.size + 1 ≠ w.heap.size + 1 + 1; omega)).trans hz3)
      have HBB : Hid (Below w.heap.size w (w3.setCell ⟨w.heap.size + 1 + 1, 10, none⟩ (.slice (some ⟨q, 0, none⟩) (j + 1) cap))) := ((HBW.out.trans (HB2.out.mono (by omega))).trans (hb3.mono (by have := HN0.out; have := HN1.out; have := HN2.out; have := HN3.out; have := HN4.out; have := HN5.out; have := HN6.out; omega))).setCell (by show w.heap.size ≤ w.heap.size + 1 + 1; omega) _
      have HNB : Hid (n5 ≤ (w3.setCell ⟨w.heap.size + 1 + 1, 10, none⟩ (.slice (some ⟨q, 0, none⟩) (j + 1) cap)).heap.size) := by
        show _ ≤ _
        have := HL2.out
        have := HS2.out
        have := HM2.out
        simp [World.setCell]
        omega
      have HQB : Hid (∀ k, n0 ≤ k → k < n5 → (w3.setCell ⟨w.heap.size + 1 + 1, 10, none⟩ (.slice (some ⟨q, 0, none⟩) (j + 1) cap)).heap[k]? = X6.heap[k]?) := fun k k1 k2 => ((Below.heap_setCell _ _ _ _ (by show k ≠ w.heap.size + 1 + 1; have := HN0.out; omega)).trans (hb3.block k k2)).trans ((HB2.out.block k (by have := HNW.out; omega)).trans (HQW.out k k1 k2))
      have HRB : Hid (KRow (fun w e => e.Ok2 w) n5 (w3.setCell ⟨w.heap.size + 1 + 1, 10, none⟩ (.slice (some ⟨q, 0, none⟩) (j + 1) cap)) (.slice (some ⟨q, 0, none⟩) (j + 1) cap) (es ++ [(⟨p, .slice lb1 p.ls.length ld1, .slice ub1 p.vs.length ud1, .slice xb1 p.cs.length xd1, wr.heap.size + 1, m2⟩ : Te)])) := hr3.keep stays_ok2 (by simp [World.setCell]) (fun k k1 k2 => Below.heap_setCell _ _ _ _ (by show k ≠ w.heap.size + 1 + 1; have := HN0.out; have := HN1.out; have := HN2.out; have := HN3.out; have := HN4.out; have := HN5.out; have := HN6.out; omega))
      have HE2 : Hid ((es ++ [(⟨p, .slice lb1 p.ls.length ld1, .slice ub1 p.vs.length ud1, .slice xb1 p.cs.length xd1, wr.heap.size + 1, m2⟩ : Te)]).length = j + 1 ∧ ∀ i, i < j + 1 → ((es ++ [(⟨p, .slice lb1 p.ls.length ld1, .slice ub1 p.vs.length ud1, .slice xb1 p.cs.length xd1, wr.heap.size + 1, m2⟩ : Te)]).getD i Te.no).t = c.ks.getD i Tk.no) := by
        refine ⟨by simp [HE.out.1], fun i hi => ?_⟩
        by_cases e : i < j
        · rw [getD_app_lt _ _ _ _ (by rw [HE.out.1]; exact e)]
          exact HE.out.2 i e
        · rw [getD_app_eq _ _ _ _ (by rw [HE.out.1]; omega)]
          show p = _
          rw [show i = j by omega]
          exact HP.out
      clear hr3 hs3 hb3 HR2 HR HE ho3 ha3 hz3 HO2 HB2
      go_wp2
      go_roundw
      case rel => exact ⟨j + 1, _, _, _, by go_num, by omega, HBB.out, HNB.out, HQB.out, HA3.out, HZ3.out, HO3.out, HRB.out, HE2.out⟩
      case measure => simp [intOf]; omega
    · obtain rfl : j = N := by omega
      have o10 := (blk_cell HA.out 10).trans rfl
      go_wp2_with (first
        | (refine wpList_load_row rfl 43 _ rfl (w.heap.size + 1 + 1) rfl 43 _ (0, 0) _ HO.out Try.underlying43 rfl (by kernel_rfl) ?_)
        | (refine wpList_store17 rfl 43 _ _ rfl (w.heap.size + 1) #[(.slice tb c.ts.length td), (.slice lb c.xs.length ld), .int .i64 c.bg, .int .i64 c.li, .int .i64 c.en, (.slice nb c.ns.length nd), (.slice ub c.bv.length ud), (.slice xb c.bc.length xd), (.string c.bo), .int .i64 c.cnt, .slice va j vc, .int .i64 c.now, .int .i64 c.tries, .bool c.over, (.slice gb c.fv.length gd), (.slice hbb c.fc.length hd), (.string c.fo)] rfl rfl 43 _ HZ.out (by kernel_rfl) rfl (by simp [Value.oneCell']) ?_))
      refine bodyPost_ret (results_cell_row (p := 2) (ty := 43) rfl _ _ (w.heap.size + 1) 43 _ (0, 0) _ rfl (setRow_heap wr _ _ _ _ _ HZ.out) Try.underlying43 rfl (by kernel_rfl)) rfl ?_
      have hj2 := HNK.out
      have hkq : ∀ q, n0 ≤ q → q < n5 → (wr.setRow (w.heap.size + 1) #[(.slice tb c.ts.length td), (.slice lb c.xs.length ld), .int .i64 c.bg, .int .i64 c.li, .int .i64 c.en, (.slice nb c.ns.length nd), (.slice ub c.bv.length ud), (.slice xb c.bc.length xd), (.string c.bo), .int .i64 c.cnt, .slice va j vc, .int .i64 c.now, .int .i64 c.tries, .bool c.over, (.slice gb c.fv.length gd), (.slice hbb c.fc.length hd), (.string c.fo)]).heap[q]? = X6.heap[q]? := fun q q1 q2 => (setRow_other _ _ _ _ (by have := HN0.out; omega)).trans (HQW.out q q1 q2)
      have hnw := HNW.out
      refine ⟨_, _, _, _, _, _, _, _, _, _, _, _, _, _, _, _, rfl, rowSetB HBW.out _ _ (by omega), fun W hsz hW => ?_⟩
      rw [setRow_size] at hsz hW
      have hkw : ∀ q, n0 ≤ q → q < n5 → W.heap[q]? = X6.heap[q]? := fun q q1 q2 => (hW q (by have := HN0.out; omega) (by omega)).trans (hkq q q1 q2)
      have hks : KsAt W (.slice va j vc) c.ks := (HR.out.keep stays_ok2 hsz (fun q q1 q2 => (hW q (by have := HN0.out; have := HN1.out; have := HN2.out; have := HN3.out; have := HN4.out; have := HN5.out; have := HN6.out; omega) q2).trans (setRow_other _ _ _ _ (by have := HN0.out; have := HN1.out; have := HN2.out; have := HN3.out; have := HN4.out; have := HN5.out; have := HN6.out; omega)))).at ⟨by rw [HE.out.1]; exact hj2, fun i hi => HE.out.2 i (by rw [hj2]; exact hi)⟩
      exact ⟨(PTz.out.keep (fun q q1 q2 => hkw q (by have := HN0.out; have := HN1.out; have := HN2.out; have := HN3.out; have := HN4.out; have := HN5.out; have := HN6.out; omega) (by have := HN0.out; have := HN1.out; have := HN2.out; have := HN3.out; have := HN4.out; have := HN5.out; have := HN6.out; omega))).at, (PIz.out.keep (fun q q1 q2 => hkw q (by have := HN0.out; have := HN1.out; have := HN2.out; have := HN3.out; have := HN4.out; have := HN5.out; have := HN6.out; omega) (by have := HN0.out; have := HN1.out; have := HN2.out; have := HN3.out; have := HN4.out; have := HN5.out; have := HN6.out; omega))).at, (PNz.out.keep (fun q q1 q2 => hkw q (by have := HN0.out; have := HN1.out; have := HN2.out; have := HN3.out; have := HN4.out; have := HN5.out; have := HN6.out; omega) (by have := HN0.out; have := HN1.out; have := HN2.out; have := HN3.out; have := HN4.out; have := HN5.out; have := HN6.out; omega))).at, (PUz.out.keep (fun q q1 q2 => hkw q (by have := HN0.out; have := HN1.out; have := HN2.out; have := HN3.out; have := HN4.out; have := HN5.out; have := HN6.out; omega) (by have := HN0.out; have := HN1.out; have := HN2.out; have := HN3.out; have := HN4.out; have := HN5.out; have := HN6.out; omega))).at, (PXz.out.keep (fun q q1 q2 => hkw q (by have := HN0.out; have := HN1.out; have := HN2.out; have := HN3.out; have := HN4.out; have := HN5.out; have := HN6.out; omega) (by have := HN0.out; have := HN1.out; have := HN2.out; have := HN3.out; have := HN4.out; have := HN5.out; have := HN6.out; omega))).at, hks, (PGz.out.keep (fun q q1 q2 => hkw q (by have := HN0.out; have := HN1.out; have := HN2.out; have := HN3.out; have := HN4.out; have := HN5.out; have := HN6.out; omega) (by have := HN0.out; have := HN1.out; have := HN2.out; have := HN3.out; have := HN4.out; have := HN5.out; have := HN6.out; omega))).at, (PHz.out.keep (fun q q1 q2 => hkw q (by have := HN0.out; have := HN1.out; have := HN2.out; have := HN3.out; have := HN4.out; have := HN5.out; have := HN6.out; omega) (by have := HN0.out; have := HN1.out; have := HN2.out; have := HN3.out; have := HN4.out; have := HN5.out; have := HN6.out; omega))).at⟩
end Go.Proofs.Ythnmopldpgdenaa
