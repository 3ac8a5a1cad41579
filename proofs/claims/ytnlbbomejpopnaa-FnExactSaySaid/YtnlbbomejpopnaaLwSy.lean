/- The law on Say. -/
import Derived.Test.YtnlbbomejpopnaaRwF
import Derived.Test.YtnlbbomejpopnaaSyB
import Derived.Deep.RegionWith
namespace Go.Proofs.Ytnlbbomejpopnaa
open Go.RowKit

set_option maxRecDepth 100000 in
set_option maxHeartbeats 8000000 in
theorem lwSay_any (v rv : Value) (o l : ByteArray) (vs : List Vr) (cs : List Cl) (w : World) (h : VrAt w v vs) (hr : ClAt w rv cs) (hf : StFit vs cs o) :
    Calls Try.prog 7 #[.agg #[v, rv, .string o], .string l] w fun e w' => e = .returned (.bool true) ∧ Below w.heap.size w w' := by
  have HH : Hid (∀ W, Below w.heap.size w W → VrAt W v vs ∧ ClAt W rv cs) := fun W hb => ⟨h.keep hb, hr.keep hb⟩
  have HFT : Hid (StFit vs cs o) := hf
  obtain ⟨ad, c, rfl, -⟩ := h
  obtain ⟨bd, d, rfl, -⟩ := hr
  obtain ⟨n, hn⟩ : ∃ n, n = vs.length := ⟨_, rfl⟩
  obtain ⟨m, hm⟩ : ∃ m, m = cs.length := ⟨_, rfl⟩
  have HN : Hid (n = vs.length ∧ m = cs.length) := ⟨hn, hm⟩
  rw [← hn, ← hm] at HH
  rw [← hn, ← hm]
  clear hf hn hm
  have HB0 : Hid (Below w.heap.size w (w.alloc (.cells #[.slice ad n c, .slice bd m d, .string o] 50))) := (Below.refl _ _).alloc (Nat.le_refl _) _
  have q0 : Bx (w.alloc (.cells #[.slice ad n c, .slice bd m d, .string o] 50)) w.heap.size 50 (.slice ad n c) (.slice bd m d) o := heap_alloc_new w (.cells #[.slice ad n c, .slice bd m d, .string o] 50)
  have hz : w.heap.size < (w.alloc (.cells #[.slice ad n c, .slice bd m d, .string o] 50)).heap.size := by simp
  by_cases hg_l : (1048576 : Int) < (l.size : Int)
  · have dg : decide ((1048576 : Int) < (l.size : Int)) = true := by simpa using hg_l
    clear q0 hz
    go_enter Try.func7, Try.ntmps7
    go_wp2
    go_ret
    exact ⟨rfl, HB0.out⟩
  have dg_l : decide ((1048576 : Int) < (l.size : Int)) = false := by simpa using hg_l
  have HZ : Hid (Bx (w.alloc (.cells #[.slice ad n c, .slice bd m d, .string o] 50)) w.heap.size 50 (.slice ad n c) (.slice bd m d) o ∧ w.heap.size < (w.alloc (.cells #[.slice ad n c, .slice bd m d, .string o] 50)).heap.size) := ⟨q0, hz⟩
  clear q0 hz
  go_enter Try.func7, Try.ntmps7
  go_wp2_with fail
  generalize w.alloc (.cells #[.slice ad n c, .slice bd m d, .string o] 50) = W0 at *
  have HQ : Hid (∀ wr, Below W0.heap.size W0 wr → Bx wr w.heap.size 50 (.slice ad n c) (.slice bd m d) o) := fun wr hb => (hb.block _ HZ.out.2).trans HZ.out.1
  have HW : Hid (∀ W, Below W0.heap.size W0 W → Below w.heap.size w W) := fun W hb => HB0.out.trans (hb.mono HB0.out.size)
  refine (szStore_any _ _ o vs cs _ _ (HH.out _ HB0.out).1 (HH.out _ HB0.out).2 (by omega) (by omega) HFT.out).mono ?_
  rintro e w1 ⟨hb1, r, rfl, hr⟩
  have B1 : Hid (Below W0.heap.size W0 w1) := hb1
  clear hb1
  have z0 := (HQ.out _ B1.out).c0
  have z1 := (HQ.out _ B1.out).c1
  have z2 := (HQ.out _ B1.out).c2
  rcases hr with rfl | ⟨hr0, hr1, hsm⟩
  · go_wp2
    go_ret
    exact ⟨rfl, HW.out _ B1.out⟩
  have d1 : decide (r < 0) = false := decide_eq_false (by omega)
  have HL : Hid (StSmall vs cs o ∧ l.size ≤ 1048576) := ⟨hsm, by omega⟩
  have HLN : Hid (n ≤ 1048576 ∧ m ≤ 1048576) := by rw [HN.out.1, HN.out.2]; exact ⟨hsm.1, hsm.2.2.1⟩
  clear hsm hr0 hr1
  obtain ⟨O, hO⟩ : ∃ O, O = St.said o l := ⟨_, rfl⟩
  have CT : Hid (∀ W, Below W0.heap.size W0 W → Calls Try.prog 29 #[.agg #[.slice ad n c, .slice bd m d, .string o]] W fun e w' => ∃ ua uc xa xc, e = .returned (.agg #[.slice ua n uc, .slice xa m xc, .string o]) ∧ StIn W.heap.size w'.heap.size w' (.slice ua n uc) (.slice xa m xc) vs cs ∧ Below W.heap.size W w') := fun W hb => by
    have := toStoreIn _ _ o vs cs W (HH.out _ (HW.out _ hb)).1 (HH.out _ (HW.out _ hb)).2 HL.out.1.1 HL.out.1.2.2.1
    rw [← HN.out.1, ← HN.out.2] at this
    exact this
  have CS : Hid (∀ W ua uc xa xc, VrAt W (.slice ua n uc) vs → ClAt W (.slice xa m xc) cs → Calls Try.prog 28 #[.agg #[.slice ua n uc, .slice xa m xc, .string o], .string l] W fun e w' => ∃ ya yc ta tc, e = .returned (.agg #[.slice ya n yc, .slice ta m tc, .string O]) ∧ VrIn W.heap.size w'.heap.size w' (.slice ya n yc) vs ∧ ClIn W.heap.size w'.heap.size w' (.slice ta m tc) cs ∧ Below W.heap.size W w') := fun W ua uc xa xc k1 k2 => by
    refine (spSay _ _ o l vs cs W k1 k2 HL.out.1 HL.out.2).mono ?_
    rintro e w' ⟨u, x, rfl, hu, hx, hb⟩
    have hu' := hu
    have hx' := hx
    obtain ⟨ya, yc, rfl, -⟩ := hu
    obtain ⟨ta, tc, rfl, -⟩ := hx
    rw [← HN.out.1] at hu' ⊢
    rw [← HN.out.2] at hx' ⊢
    exact ⟨ya, yc, ta, tc, by rw [hO], hu', hx', hb⟩
  have CI : Hid (∀ W ua uc xa xc, VrAt W (.slice ua n uc) vs → ClAt W (.slice xa m xc) cs → Calls Try.prog 22 #[.agg #[.slice ua n uc, .slice xa m xc, .string o], .string l] W fun e w' => ∃ ya yc ta tc, e = .returned (.agg #[.slice ya n yc, .slice ta m tc, .string O]) ∧ StIn W.heap.size w'.heap.size w' (.slice ya n yc) (.slice ta m tc) vs cs ∧ Below W.heap.size W w') := fun W ua uc xa xc k1 k2 => by
    refine (imSay _ _ o l vs cs W k1 k2 HL.out.1 HL.out.2).mono ?_
    rintro e w' ⟨u, x, rfl, hi, hb⟩
    have hi' := hi
    obtain ⟨mid, -, -, ⟨ya, yc, rfl, -⟩, ⟨ta, tc, rfl, -⟩⟩ := hi
    rw [← HN.out.1, ← HN.out.2] at hi' ⊢
    exact ⟨ya, yc, ta, tc, by rw [hO], hi', hb⟩
  have CE : Hid (∀ W ua uc xa xc ya yc ta tc oo, VrAt W (.slice ua n uc) vs → ClAt W (.slice xa m xc) cs → VrAt W (.slice ya n yc) vs → ClAt W (.slice ta m tc) cs → Calls Try.prog 30 #[.agg #[.slice ua n uc, .slice xa m xc, .string oo], .agg #[.slice ya n yc, .slice ta m tc, .string oo]] W fun e w' => e = .returned (.bool true) ∧ Below W.heap.size W w') :=
    fun W ua uc xa xc ya yc ta tc oo k1 k2 k3 k4 => eqStore_any _ _ _ _ oo vs cs W k1 k2 k3 k4 HL.out.1.1 HL.out.1.2.2.1
  obtain ⟨M, hM⟩ : ∃ M, M = 1 + 2 * n + 3 * m := ⟨_, rfl⟩
  have CM : Hid (∀ lo hi W ua uc xa xc oo, StIn lo hi W (.slice ua n uc) (.slice xa m xc) vs cs → hi ≤ W.heap.size → Calls Try.prog 31 #[.agg #[.slice ua n uc, .slice xa m xc, .string oo], .int .i64 1] W fun e w' => e = .returned (.int .i64 (M : Int)) ∧ StIn lo hi w' (.slice ua n uc) (.slice xa m xc) (mkVr 1 n) (mkCl (1 + 2 * n) m) ∧ FM lo hi W w') := fun lo hi W ua uc xa xc oo k1 k2 => by
    have := markIn lo hi _ _ oo vs cs W k1 k2 HL.out.1.1 HL.out.1.2.2.1
    rw [← HN.out.1, ← HN.out.2, ← hM] at this
    exact this
  have CH : Hid (∀ W ua uc xa xc oo, VrAt W (.slice ua n uc) (mkVr 1 n) → ClAt W (.slice xa m xc) (mkCl (1 + 2 * n) m) → Calls Try.prog 32 #[.agg #[.slice ua n uc, .slice xa m xc, .string oo], .int .i64 1] W fun e w' => e = .returned (.int .i64 (M : Int)) ∧ Below W.heap.size W w') := fun W ua uc xa xc oo k1 k2 => by
    rw [hM]
    exact heldStore_any _ _ oo n m 1 W k1 k2 HLN.out.1 HLN.out.2 (by omega) (by omega)
  have dM : decide ((M : Int) < 0) = false := decide_eq_false (by omega)
  have qM : ((M : Int) != (M : Int)) = false := by simp
  clear hO hM HL HLN HN HFT HH HZ
  go_wp2_with fail
  refine (CT.out _ B1.out).mono ?_
  rintro e w2 ⟨fa, fc, ja, jc, rfl, hi2, hb2⟩
  have B2 : Hid (Below W0.heap.size W0 w2) := B1.out.trans (hb2.mono B1.out.size)
  have P2 : Hid (VrAt w2 (.slice fa n fc) vs ∧ ClAt w2 (.slice ja m jc) cs) := ⟨hi2.vr.at, hi2.cl.at⟩
  clear hb2 hi2 B1 z0 z1 z2
  go_wp2_with fail
  refine (CS.out _ _ _ _ _ P2.out.1 P2.out.2).mono ?_
  rintro e w3 ⟨ya, yc, ta, tc, rfl, hu3, hx3, hb3⟩
  have B3 : Hid (Below W0.heap.size W0 w3) := B2.out.trans (hb3.mono B2.out.size)
  have S0 : Hid (Sto w2.heap.size w3.heap.size w3.heap.size (w3.alloc (.cells #[.slice ya n yc, .slice ta m tc, .string O] 27)) (.slice ya n yc) (.slice ta m tc) O vs cs) := by
    have hal : Below w3.heap.size w3 (w3.alloc (.cells #[.slice ya n yc, .slice ta m tc, .string O] 27)) := (Below.refl _ _).alloc (Nat.le_refl _) _
    exact ⟨heap_alloc_new w3 _, hu3.keep (fun b _ hb => hal.block b hb), hx3.keep (fun b _ hb => hal.block b hb), Nat.le_refl _⟩
  have B4 : Hid (Below W0.heap.size W0 (w3.alloc (.cells #[.slice ya n yc, .slice ta m tc, .string O] 27))) := B3.out.alloc B3.out.size _
  have hs3 : w2.heap.size ≤ w3.heap.size := hb3.size
  have HS2 : Hid (W0.heap.size ≤ w2.heap.size) := B2.out.size
  clear hb3 hu3 hx3 P2 B3 B2 CS
  have z0 := (HQ.out _ B4.out).c0
  have z1 := (HQ.out _ B4.out).c1
  have z2 := (HQ.out _ B4.out).c2
  have HO4 : Hid (w3.heap.size < (w3.alloc (.cells #[.slice ya n yc, .slice ta m tc, .string O] 27)).heap.size ∧ W0.heap.size ≤ w2.heap.size ∧ w2.heap.size ≤ w3.heap.size) := ⟨by simp, HS2.out, hs3⟩
  clear hs3 HS2
  go_wp2_with fail
  generalize w3.alloc (.cells #[.slice ya n yc, .slice ta m tc, .string O] 27) = W4 at *
  generalize w3.heap.size = b0 at *
  generalize w2.heap.size = lo0 at *
  refine (CT.out _ B4.out).mono ?_
  rintro e w5 ⟨ua, uc, xa, xc, rfl, hi5, hb5⟩
  have B5 : Hid (Below W0.heap.size W0 w5) := B4.out.trans (hb5.mono B4.out.size)
  have S5 : Hid (Sto lo0 b0 b0 w5 (.slice ya n yc) (.slice ta m tc) O vs cs) := S0.out.below hb5 HO4.out.2.2
  have hal5 : Below w5.heap.size w5 (w5.alloc (.cells #[.slice ua n uc, .slice xa m xc, .string o] 27)) := (Below.refl _ _).alloc (Nat.le_refl _) _
  have I6 : Hid (StIn W4.heap.size w5.heap.size (w5.alloc (.cells #[.slice ua n uc, .slice xa m xc, .string o] 27)) (.slice ua n uc) (.slice xa m xc) vs cs) := hi5.keep (fun k _ hk => hal5.block k hk)
  have X6 : Hid (Bx (w5.alloc (.cells #[.slice ua n uc, .slice xa m xc, .string o] 27)) w5.heap.size 27 (.slice ua n uc) (.slice xa m xc) o) := heap_alloc_new w5 _
  have S6 : Hid (Sto lo0 b0 b0 (w5.alloc (.cells #[.slice ua n uc, .slice xa m xc, .string o] 27)) (.slice ya n yc) (.slice ta m tc) O vs cs) := S5.out.below hal5 HO4.out.2.2
  have B6 : Hid (Below W0.heap.size W0 (w5.alloc (.cells #[.slice ua n uc, .slice xa m xc, .string o] 27))) := B5.out.alloc B5.out.size _
  have HO6 : Hid (b0 < W4.heap.size ∧ W4.heap.size ≤ w5.heap.size ∧ w5.heap.size < (w5.alloc (.cells #[.slice ua n uc, .slice xa m xc, .string o] 27)).heap.size ∧ W0.heap.size ≤ lo0 ∧ lo0 ≤ b0) := ⟨HO4.out.1, hb5.size, by simp, HO4.out.2.1, HO4.out.2.2⟩
  clear hb5 hi5 hal5 S0 S5 B4 B5 HO4 z0 z1 z2
  go_wp2_with fail
  generalize w5.alloc (.cells #[.slice ua n uc, .slice xa m xc, .string o] 27) = W6 at *
  generalize w5.heap.size = bX at *
  generalize W4.heap.size = loX at *
  refine (CI.out _ _ _ _ _ I6.out.vr.at I6.out.cl.at).mono ?_
  rintro e w7 ⟨ga, gc, ha, hc, rfl, hi7, hb7⟩
  have hal7 : Below w7.heap.size w7 (w7.alloc (.cells #[.slice ga n gc, .slice ha m hc, .string O] 27)) := (Below.refl _ _).alloc (Nat.le_refl _) _
  have hb8 : Below W6.heap.size W6 (w7.alloc (.cells #[.slice ga n gc, .slice ha m hc, .string O] 27)) := hb7.trans (hal7.mono hb7.size)
  have L8 : Hid (L3 W0 (w7.alloc (.cells #[.slice ga n gc, .slice ha m hc, .string O] 27)) lo0 b0 loX bX W6.heap.size w7.heap.size (.slice ya n yc) (.slice ta m tc) (.slice ua n uc) (.slice xa m xc) (.slice ga n gc) (.slice ha m hc) o O vs cs vs cs vs cs) := by
    have ho := HO6.out
    have h7 := hb7.size
    exact ⟨B6.out.trans (hb8.mono B6.out.size), S6.out.below hb8 ho.2.2.2.2, (hb8.block _ (by omega)).trans X6.out, I6.out.keep (fun k _ hk => hb8.block k (by omega)), heap_alloc_new w7 _, hi7.keep (fun k _ hk => hal7.block k hk), by simp; omega⟩
  clear hb7 hi7 hal7 hb8 S6 X6 I6 B6 HO6
  have z0 := L8.out.gb.c0
  have z1 := L8.out.gb.c1
  have z2 := L8.out.gb.c2
  have z3 := L8.out.s0.bx.c0
  have z4 := L8.out.s0.bx.c1
  have z5 := L8.out.s0.bx.c2
  go_wp2_with fail
  generalize w7.alloc (.cells #[.slice ga n gc, .slice ha m hc, .string O] 27) = W8 at *
  generalize w7.heap.size = bG at *
  generalize W6.heap.size = loG at *
  refine (CE.out _ _ _ _ _ _ _ _ _ _ L8.out.gi.vr.at L8.out.gi.cl.at L8.out.s0.vr.at L8.out.s0.cl.at).mono ?_
  rintro e w9 ⟨rfl, hb9⟩
  have L9 : Hid (L3 W0 w9 lo0 b0 loX bX loG bG (.slice ya n yc) (.slice ta m tc) (.slice ua n uc) (.slice xa m xc) (.slice ga n gc) (.slice ha m hc) o O vs cs vs cs vs cs) := L8.out.below hb9
  clear hb9 L8 z0 z1 z2 z3 z4 z5
  have z0 := L9.out.xb.c0
  have z1 := L9.out.xb.c1
  have z2 := L9.out.xb.c2
  have z3 := (HQ.out _ L9.out.env).c0
  have z4 := (HQ.out _ L9.out.env).c1
  have z5 := (HQ.out _ L9.out.env).c2
  have HE9 : Hid (∀ W, Below w9.heap.size w9 W → Below W0.heap.size W0 W ∧ VrAt W (.slice ua n uc) vs ∧ ClAt W (.slice xa m xc) cs) := fun W hb => by
    have := L9.out.below hb
    exact ⟨this.env, this.xi.vr.at, this.xi.cl.at⟩
  go_wp2_with fail
  go_region_held3 (fun W => W.cell? ⟨bX, 0, none⟩ = some (.slice ua n uc) ∧ W.cell? ⟨bX, 1, none⟩ = some (.slice xa m xc) ∧ W.cell? ⟨bX, 2, none⟩ = some (.string o) ∧ W.cell? ⟨w.heap.size, 0, none⟩ = some (.slice ad n c) ∧ W.cell? ⟨w.heap.size, 1, none⟩ = some (.slice bd m d) ∧ W.cell? ⟨w.heap.size, 2, none⟩ = some (.string o) ∧ Hid (Below w9.heap.size w9 W)) (first | exact keepF6 hb11 (by assumption) | exact keepF6 hb10 (by assumption) | exact ⟨z0, z1, z2, z3, z4, z5, (Below.refl _ _).drew⟩ | assumption)
    ((first
      | (go_at_call 29; refine (CT.out _ (HE9.out _ (lastF6 (by assumption)).out).1).mono ?_; rintro e w10 ⟨pa, pc, qa, qc, rfl, hi10, hb10⟩)
      | (go_at_call 30; refine (CE.out _ _ _ _ _ _ _ _ _ _ (HE9.out _ (lastF6 (by assumption)).out).2.1 (HE9.out _ (lastF6 (by assumption)).out).2.2 hi10.vr.at hi10.cl.at).mono ?_; rintro e w11 ⟨rfl, hb11⟩)))
  all_goals
    have L11 : Hid (L3 W0 w11 lo0 b0 loX bX loG bG (.slice ya n yc) (.slice ta m tc) (.slice ua n uc) (.slice xa m xc) (.slice ga n gc) (.slice ha m hc) o O vs cs vs cs vs cs) := L9.out.below (lastF6 (by assumption)).out
    clear hb10 hb11 hi10 HE9 L9 z0 z1 z2 z3 z4 z5
    have z0 := L11.out.xb.c0
    have z1 := L11.out.xb.c1
    have z2 := L11.out.xb.c2
    go_wp2_with fail
    refine (CM.out loX bX _ _ _ _ _ _ L11.out.xi (by have := L11.out.ord; omega)).mono ?_
    rintro e w12 ⟨rfl, hi12, hf12⟩
    have L12 : Hid (L3 W0 w12 lo0 b0 loX bX loG bG (.slice ya n yc) (.slice ta m tc) (.slice ua n uc) (.slice xa m xc) (.slice ga n gc) (.slice ha m hc) o O vs cs (mkVr 1 n) (mkCl (1 + 2 * n) m) vs cs) := L11.out.markX hf12 hi12
    clear hi12 hf12 L11 z0 z1 z2
    have z0 := L12.out.gb.c0
    have z1 := L12.out.gb.c1
    have z2 := L12.out.gb.c2
    have z3 := L12.out.s0.bx.c0
    have z4 := L12.out.s0.bx.c1
    have z5 := L12.out.s0.bx.c2
    go_wp2_with fail
    refine (CE.out _ _ _ _ _ _ _ _ _ _ L12.out.gi.vr.at L12.out.gi.cl.at L12.out.s0.vr.at L12.out.s0.cl.at).mono ?_
    rintro e w13 ⟨rfl, hb13⟩
    have L13 : Hid (L3 W0 w13 lo0 b0 loX bX loG bG (.slice ya n yc) (.slice ta m tc) (.slice ua n uc) (.slice xa m xc) (.slice ga n gc) (.slice ha m hc) o O vs cs (mkVr 1 n) (mkCl (1 + 2 * n) m) vs cs) := L12.out.below hb13
    clear hb13 L12 z0 z1 z2 z3 z4 z5
    have z0 := L13.out.gb.c0
    have z1 := L13.out.gb.c1
    have z2 := L13.out.gb.c2
    go_wp2_with fail
    refine (CM.out loG bG _ _ _ _ _ _ L13.out.gi (by have := L13.out.ord; omega)).mono ?_
    rintro e w14 ⟨rfl, hi14, hf14⟩
    have L14 : Hid (L3 W0 w14 lo0 b0 loX bX loG bG (.slice ya n yc) (.slice ta m tc) (.slice ua n uc) (.slice xa m xc) (.slice ga n gc) (.slice ha m hc) o O vs cs (mkVr 1 n) (mkCl (1 + 2 * n) m) (mkVr 1 n) (mkCl (1 + 2 * n) m)) := L13.out.markG hf14 hi14
    clear hi14 hf14 L13 z0 z1 z2
    have z0 := L14.out.gb.c0
    have z1 := L14.out.gb.c1
    have z2 := L14.out.gb.c2
    go_wp2_with fail
    refine (CH.out _ _ _ _ _ _ L14.out.gi.vr.at L14.out.gi.cl.at).mono ?_
    rintro e w15 ⟨rfl, hb15⟩
    have L15 : Hid (L3 W0 w15 lo0 b0 loX bX loG bG (.slice ya n yc) (.slice ta m tc) (.slice ua n uc) (.slice xa m xc) (.slice ga n gc) (.slice ha m hc) o O vs cs (mkVr 1 n) (mkCl (1 + 2 * n) m) (mkVr 1 n) (mkCl (1 + 2 * n) m)) := L14.out.below hb15
    clear hb15 L14 z0 z1 z2
    have z0 := (HQ.out _ L15.out.env).c0
    have z1 := (HQ.out _ L15.out.env).c1
    have z2 := (HQ.out _ L15.out.env).c2
    go_wp2_with fail
    refine (CT.out _ L15.out.env).mono ?_
    rintro e w16 ⟨ea, ec, sa, sc, rfl, hi16, hb16⟩
    have L16 : Hid (L3 W0 w16 lo0 b0 loX bX loG bG (.slice ya n yc) (.slice ta m tc) (.slice ua n uc) (.slice xa m xc) (.slice ga n gc) (.slice ha m hc) o O vs cs (mkVr 1 n) (mkCl (1 + 2 * n) m) (mkVr 1 n) (mkCl (1 + 2 * n) m)) := L15.out.below hb16
    have P16 : Hid (VrAt w16 (.slice ea n ec) vs ∧ ClAt w16 (.slice sa m sc) cs) := ⟨hi16.vr.at, hi16.cl.at⟩
    clear hb16 hi16 L15 z0 z1 z2
    go_wp2_with fail
    refine (CI.out _ _ _ _ _ P16.out.1 P16.out.2).mono ?_
    rintro e w17 ⟨ka, kc, la, lc, rfl, hi17, hb17⟩
    have L17 : Hid (L3 W0 w17 lo0 b0 loX bX loG bG (.slice ya n yc) (.slice ta m tc) (.slice ua n uc) (.slice xa m xc) (.slice ga n gc) (.slice ha m hc) o O vs cs (mkVr 1 n) (mkCl (1 + 2 * n) m) (mkVr 1 n) (mkCl (1 + 2 * n) m)) := L16.out.below hb17
    have hal : Below w17.heap.size w17 (w17.alloc (.cells #[.slice ka n kc, .slice la m lc, .string O] 27)) := (Below.refl _ _).alloc (Nat.le_refl _) _
    have L18 : Hid (L3 W0 (w17.alloc (.cells #[.slice ka n kc, .slice la m lc, .string O] 27)) lo0 b0 loX bX loG bG (.slice ya n yc) (.slice ta m tc) (.slice ua n uc) (.slice xa m xc) (.slice ga n gc) (.slice ha m hc) o O vs cs (mkVr 1 n) (mkCl (1 + 2 * n) m) (mkVr 1 n) (mkCl (1 + 2 * n) m)) := L17.out.below hal
    have P18 : Hid (VrAt (w17.alloc (.cells #[.slice ka n kc, .slice la m lc, .string O] 27)) (.slice ka n kc) vs ∧ ClAt (w17.alloc (.cells #[.slice ka n kc, .slice la m lc, .string O] 27)) (.slice la m lc) cs) := ⟨hi17.vr.at.keep hal, hi17.cl.at.keep hal⟩
    have H18 : Hid (Bx (w17.alloc (.cells #[.slice ka n kc, .slice la m lc, .string O] 27)) w17.heap.size 27 (.slice ka n kc) (.slice la m lc) O) := heap_alloc_new w17 _
    clear hb17 hi17 hal L16 L17 P16
    have z3 := L18.out.s0.bx.c0
    have z4 := L18.out.s0.bx.c1
    have z5 := L18.out.s0.bx.c2
    have z0 := H18.out.c0
    have z1 := H18.out.c1
    have z2 := H18.out.c2
    go_wp2_with fail
    refine (CE.out _ _ _ _ _ _ _ _ _ _ P18.out.1 P18.out.2 L18.out.s0.vr.at L18.out.s0.cl.at).mono ?_
    rintro e w19 ⟨rfl, hb19⟩
    have L19 : Hid (L3 W0 w19 lo0 b0 loX bX loG bG (.slice ya n yc) (.slice ta m tc) (.slice ua n uc) (.slice xa m xc) (.slice ga n gc) (.slice ha m hc) o O vs cs (mkVr 1 n) (mkCl (1 + 2 * n) m) (mkVr 1 n) (mkCl (1 + 2 * n) m)) := L18.out.below hb19
    clear hb19 L18 P18 H18 z0 z1 z2 z3 z4 z5
    have z0 := L19.out.gb.c0
    have z1 := L19.out.gb.c1
    have z2 := L19.out.gb.c2
    go_wp2_with fail
    refine (CH.out _ _ _ _ _ _ L19.out.gi.vr.at L19.out.gi.cl.at).mono ?_
    rintro e w20 ⟨rfl, hb20⟩
    have L20 : Hid (L3 W0 w20 lo0 b0 loX bX loG bG (.slice ya n yc) (.slice ta m tc) (.slice ua n uc) (.slice xa m xc) (.slice ga n gc) (.slice ha m hc) o O vs cs (mkVr 1 n) (mkCl (1 + 2 * n) m) (mkVr 1 n) (mkCl (1 + 2 * n) m)) := L19.out.below hb20
    clear hb20 L19 z0 z1 z2
    go_wp2
    go_ret
    exact ⟨rfl, HW.out _ L20.out.env⟩
#print axioms lwSay_any
end Go.Proofs.Ytnlbbomejpopnaa
