/- The law's own marks over a row of tasks, held. Who gives and gathers, in memory: how great, two of the same. -/
import Derived.Test.YthnmopldpgdenaaMPTcZau
import Derived.Test.YthnmopldpgdenaaMPTcZat
namespace Go.Proofs.Ythnmopldpgdenaa
section PartKdH
open Go.RowKit

set_option maxRecDepth 100000 in
set_option maxHeartbeats 4000000 in
theorem heldTasks_any (lo hi g n c k : Nat) (e : Nat → Te) (w : World) (h : KsB lo hi w g n n (stJ e k n)) (hg : lo ≤ g ∧ g < hi) (hh : hi ≤ w.heap.size) (hn : n ≤ 1048576) (hf : ∀ i, i < n → Few (e i).t) (hk : k ≤ 100000000) (hk0 : 0 < k) :
    Calls Try.prog 33 #[.slice (some ⟨g, 0, none⟩) n c, .int .i64 (k : Int)] w fun r w' => r = .returned (.int .i64 (kT e k n : Int)) ∧ Below w.heap.size w w' := by
  have HW : Hid (∀ W, Below w.heap.size w W → KsB lo hi W g n n (stJ e k n)) := fun W hb => h.keepIf (hb.block g (by omega)) (fun q q1 q2 => hb.block q (by omega))
  have HF : Hid (∀ i, i < n → Few (e i).t) := hf
  have HK : Hid (∀ i, i ≤ n → 0 < kT e k i ∧ kT e k i ≤ 20000000000000) := fun i hi => by have := kT_le e k n hf i hi; omega
  have HG : Hid (g < w.heap.size) := Nat.lt_of_lt_of_le hg.2 hh
  clear h hf hg hh
  go_enter Try.func33, Try.ntmps33
  go_wp2
  go_loopw [1, 5] (fun q i wr => ∃ j x : Nat, i = .int .i64 (j : Int) ∧ q = .int .i64 (x : Int) ∧ Hid (x = kT e k j) ∧ j ≤ n ∧ Hid (Below w.heap.size w wr)) (fun _ i _ => n - (intOf i).toNat)
  case atStart => exact ⟨0, k, rfl, rfl, rfl, by omega, Below.refl _ _⟩
  case round =>
    obtain ⟨j, x, rfl, rfl, HX, hj, HB⟩ := hrel
    by_cases hlt : j < n
    · obtain ⟨t, ht⟩ : ∃ t, t = (e j).t := ⟨_, rfl⟩
      have HTE : Hid (t = (e j).t) := ht
      have hfew : Few t := by rw [ht]; exact HF.out j hlt
      have hxx : 0 < x ∧ x ≤ 20000000000000 := by have := HK.out j hj; rw [← HX.out] at this; exact this
      have HKS := HW.out _ HB.out
      obtain ⟨arr, ha, hsa, hcs⟩ := HKS.blk
      have hmk : stJ e k n j = ⟨mkTk x t, (e j).l, (e j).u, (e j).x, (e j).a, (e j).d⟩ := by unfold stJ mkE; rw [if_pos hlt, ← HX.out, ← HTE.out]
      have hev := hcs j hlt
      have hok := HKS.each j hlt
      rw [hmk] at hev hok
      obtain ⟨b, q1, q2, htx, m, q3, q4, hvr, hcl⟩ := hok
      obtain ⟨y0, y1, y2, y3, y4, y5, y6⟩ := hev
      have htx : TxIn (e j).a b wr (e j).l (mkTx x t.ls.length) := htx
      have hvr : VrAt wr (e j).u (mkVr (x + t.ls.length + 1 + 1 + 1) t.vs.length) := hvr.at
      have hcl : ClAt wr (e j).x (mkCl (x + t.ls.length + 1 + 1 + 1 + 2 * t.vs.length) t.cs.length) := hcl.at
      have y0 : arr[j * 7]? = some (e j).l := y0
      have y1 : arr[j * 7 + 1]? = some (.int .i64 ((x + t.ls.length : Nat) : Int)) := y1
      have y2 : arr[j * 7 + 2]? = some (.int .i64 ((x + t.ls.length + 1 : Nat) : Int)) := y2
      have y3 : arr[j * 7 + 3]? = some (.bool (((x + t.ls.length + 1 + 1 : Nat) : Int) % 3 == 0)) := y3
      have y4 : arr[j * 7 + 4]? = some (e j).u := y4
      have y5 : arr[j * 7 + 5]? = some (e j).x := y5
      have y6 : arr[j * 7 + 6]? = some (.string ⟨(mk (x + t.ls.length + 1 + 1 + 1 + 2 * t.vs.length + 3 * t.cs.length)).toArray⟩) := y6
      obtain ⟨la, lc, hlv, -⟩ := id htx
      obtain ⟨ua, uc, huv, -⟩ := id hvr
      obtain ⟨xa, xc, hxv, -⟩ := id hcl
      obtain ⟨L, hL⟩ : ∃ L, L = t.ls.length := ⟨_, rfl⟩
      obtain ⟨P, hP⟩ : ∃ P, P = t.vs.length := ⟨_, rfl⟩
      obtain ⟨R, hR⟩ : ∃ R, R = t.cs.length := ⟨_, rfl⟩
      have HLN : Hid (L = t.ls.length ∧ P = t.vs.length ∧ R = t.cs.length) := ⟨hL, hP, hR⟩
      have hLL : L ≤ 1048576 ∧ P ≤ 1048576 ∧ R ≤ 1048576 := by rw [hL, hP, hR]; exact hfew
      rw [mkTx_len] at hlv
      rw [mkVr_len] at huv
      rw [mkCl_len] at hxv
      rw [← hL] at hlv htx hvr hcl y1 y2 y3 y6
      rw [← hP] at huv hvr hcl y6
      rw [← hR] at hxv hcl y6
      obtain ⟨y, hy⟩ : ∃ y, y = x + L := ⟨_, rfl⟩
      rw [← hy] at hvr hcl y1 y2 y3 y6
      obtain ⟨z, hz⟩ : ∃ z, z = y + 1 + 1 + 1 + 2 * P := ⟨_, rfl⟩
      rw [← hz] at hcl y6
      obtain ⟨s, hs⟩ : ∃ s, s = z + 3 * R := ⟨_, rfl⟩
      rw [← hs] at y6
      rw [hlv] at y0 htx
      rw [huv] at y4 hvr
      rw [hxv] at y5 hcl
      obtain ⟨tx, htxx⟩ : ∃ tx : ByteArray, tx = ⟨(mk s).toArray⟩ := ⟨_, rfl⟩
      rw [← htxx] at y6
      have HYZ : Hid (y = x + L ∧ z = y + 1 + 1 + 1 + 2 * P ∧ s = z + 3 * R) := ⟨hy, hz, hs⟩
      have hyy : 0 < y ∧ y ≤ 30000000000000 := by omega
      have hzz : 0 < z ∧ z ≤ 40000000000000 := by omega
      have hss : 0 < s ∧ s ≤ 50000000000000 := by omega
      have C1 : Hid (Calls Try.prog 31 #[.slice la L lc, .int .i64 (x : Int)] wr fun r w' => r = .returned (.int .i64 (y : Int)) ∧ Below wr.heap.size wr w') := by
        rw [hy]
        exact heldTxIn (e j).a b _ L x wr htx (by omega) (by omega) hxx.1
      have C2 : Hid (∀ W, Below wr.heap.size wr W → Calls Try.prog 56 #[.slice ua P uc, .int .i64 ((y : Int) + 1 + 1 + 1)] W fun r w' => r = .returned (.int .i64 (z : Int)) ∧ Below W.heap.size W w') := fun W hb => by
        rw [hz]
        exact heldVrs_any _ P (y + 1 + 1 + 1) W (hvr.keep hb) (by omega) (by omega) (by omega)
      have C3 : Hid (∀ W, Below wr.heap.size wr W → Calls Try.prog 57 #[.slice xa R xc, .int .i64 (z : Int)] W fun r w' => r = .returned (.int .i64 (s : Int)) ∧ Below W.heap.size W w') := fun W hb => by
        rw [hs]
        exact heldCls_any _ R z W (hcl.keep hb) (by omega) (by omega) (by omega)
      have CT : Hid (∀ W : World, Calls Try.prog 52 #[.int .i64 (s : Int)] W fun e w' => e = .returned (.string tx) ∧ Below W.heap.size W w') := fun W => by rw [htxx]; exact markText_int _ s W rfl (by omega) (by omega)
      have CE : Hid (∀ W, Below wr.heap.size wr W → W.cell? ⟨g, j * 7 + 1, none⟩ = some (.int .i64 (y : Int)) ∧ W.cell? ⟨g, j * 7 + 2, none⟩ = some (.int .i64 ((y : Int) + 1)) ∧ W.cell? ⟨g, j * 7 + 3, none⟩ = some (.bool (((y : Int) + 1 + 1) % 3 == 0)) ∧ W.cell? ⟨g, j * 7 + 4, none⟩ = some (.slice ua P uc) ∧ W.cell? ⟨g, j * 7 + 5, none⟩ = some (.slice xa R xc) ∧ W.cell? ⟨g, j * 7 + 6, none⟩ = some (.string tx)) := fun W hb => by
        have h2 := (hb.block g (blk_lt ha)).trans ha
        exact ⟨(blk_cell h2 _).trans y1, (blk_cell h2 _).trans y2, (blk_cell h2 _).trans y3, (blk_cell h2 _).trans y4, (blk_cell h2 _).trans y5, (blk_cell h2 _).trans y6⟩
      have x0 := (blk_cell ha (j * 7)).trans y0
      have HX2 : Hid (s + 1 = kT e k (j + 1)) := by
        show _ = _
        unfold kT Tk.num
        rw [← HX.out, ← HTE.out, ← HLN.out.1, ← HLN.out.2.1, ← HLN.out.2.2]
        omega
      have hgl : g < wr.heap.size := blk_lt ha
      clear HKS hL hP hR hlv huv hxv htx hvr hcl y0 y1 y2 y3 y4 y5 y6 hcs q1 q2 q3 q4 ht hfew hy hz hs hsa hmk ha htxx
      have i1 : (j : Int) < (n : Int) := by omega
      have i0 : (0 : Int) ≤ (j : Int) := by omega
      have nn : ∀ z : Int, (z != z) = false := by simp
      have nb : ∀ b : Bool, (b != b) = false := by simp
      have dy : decide ((y : Int) < 0) = false := decide_eq_false (by omega)
      have dz : decide ((z : Int) < 0) = false := decide_eq_false (by omega)
      have ds : decide ((s : Int) < 0) = false := decide_eq_false (by omega)
      go_wp2_with fail
      refine C1.out.mono ?_
      rintro r w1 ⟨rfl, hb1⟩
      have HB1 := hidOfT hb1
      obtain ⟨x1, x2, x3, x4, -, -⟩ := CE.out _ hb1
      clear hb1 C1 x0
      go_wp2_with fail
      refine (C2.out _ HB1.out).mono ?_
      rintro r w2 ⟨rfl, hb2⟩
      have HB2 := hidOfT (HB1.out.trans (hb2.mono HB1.out.size))
      obtain ⟨-, -, -, -, x5, -⟩ := CE.out _ HB2.out
      clear hb2 C2 x1 x2 x3 x4
      go_wp2_with fail
      refine (C3.out _ HB2.out).mono ?_
      rintro r w3 ⟨rfl, hb3⟩
      have HB3 := hidOfT (HB2.out.trans (hb3.mono HB2.out.size))
      obtain ⟨-, -, -, -, -, x6⟩ := CE.out _ HB3.out
      have hg3 : g < w3.heap.size := Nat.lt_of_lt_of_le hgl HB3.out.size
      clear hb3 C3 x5
      go_wp2_with fail
      go_region_held3 (fun w' => w'.cell? ⟨g, j * 7 + 6, none⟩ = some (.string tx)) (first | go_keep | (rw [hb2.cell (by exact hg3)]; exact x6)) ((go_at_call 52; refine (CT.out _).mono ?_; rintro e a2 ⟨rfl, hb2⟩))
      have hb4 := hidOfT (HB.out.trans ((HB3.out.trans (((Below.refl w3.heap.size w3).drew.trans hb2).mono HB3.out.size)).mono HB.out.size))
      clear hb2 CT
      go_wp2_with fail
      go_roundw
      case rel => exact ⟨j + 1, s + 1, by go_num, by go_num, HX2, by omega, hb4⟩
      case measure => simp [intOf]; omega
    · obtain rfl : j = n := by omega
      go_wp2
      go_ret
      rw [HX.out]
      exact ⟨rfl, HB.out⟩
end PartKdH
section PartKdI
open Go.RowKit

/-- Who gives and gathers, plain. -/
structure Co where
  ts : List ByteArray
  xs : List Ins
  bg : Int
  li : Int
  en : Int
  ns : List ByteArray
  bv : List Vr
  bc : List Cl
  bo : ByteArray
  cnt : Int
  ks : List Tk
  now : Int
  tries : Int
  over : Bool
  fv : List Vr
  fc : List Cl
  fo : ByteArray
def Co.cells (tv lv nv bu bx kv fu fx : Value) (c : Co) : Array Value := #[tv, lv, .int .i64 c.bg, .int .i64 c.li, .int .i64 c.en, nv, bu, bx, .string c.bo, .int .i64 c.cnt, kv, .int .i64 c.now, .int .i64 c.tries, .bool c.over, fu, fx, .string c.fo]
structure Co.At (w : World) (tv lv nv bu bx kv fu fx : Value) (c : Co) : Prop where
  t : TsAt w tv c.ts
  l : InsAt w lv c.xs
  n : TsAt w nv c.ns
  u : VrAt w bu c.bv
  x : ClAt w bx c.bc
  k : KsAt w kv c.ks
  fu : VrAt w fu c.fv
  fx : ClAt w fx c.fc
theorem Co.At.keep {w w' : World} {tv lv nv bu bx kv fu fx : Value} {c : Co} (h : Co.At w tv lv nv bu bx kv fu fx c) (hb : Below w.heap.size w w') : Co.At w' tv lv nv bu bx kv fu fx c :=
  ⟨h.t.keep hb, h.l.keep hb, h.n.keep hb, h.u.keep hb, h.x.keep hb, h.k.keep hb, h.fu.keep hb, h.fx.keep hb⟩
/-- What can be handed in. -/
structure Co.Fit (c : Co) : Prop where
  t : c.ts.length ≤ maxLen ∧ ∀ i, i < c.ts.length → (c.ts.getD i ByteArray.empty).size ≤ maxLen
  x : c.xs.length ≤ maxLen
  n : c.ns.length ≤ maxLen ∧ ∀ i, i < c.ns.length → (c.ns.getD i ByteArray.empty).size ≤ maxLen
  b : StFit c.bv c.bc c.bo
  k : KsFit c.ks
  f : StFit c.fv c.fc c.fo
/-- No part is too great. -/
structure Co.Sm (c : Co) : Prop where
  tl : c.ts.length ≤ 1048576
  tt : TsSmall c.ts c.ts.length
  xl : c.xs.length ≤ 1048576
  nl : c.ns.length ≤ 1048576
  nt : TsSmall c.ns c.ns.length
  b : StSmall c.bv c.bc c.bo
  kl : c.ks.length ≤ 1048576
  kk : KsSm c.ks c.ks.length
  f : StSmall c.fv c.fc c.fo

set_option maxHeartbeats 4000000 in
set_option maxRecDepth 100000 in
theorem szCoord_any (tv lv nv bu bx kv fu fx : Value) (c : Co) (l : Int) (w : World) (h : Co.At w tv lv nv bu bx kv fu fx c) (hl0 : 0 ≤ l) (hl : l ≤ 1048576) (hf : c.Fit) :
    Calls Try.prog 4 #[.agg (Co.cells tv lv nv bu bx kv fu fx c), .int .i64 l] w fun e w' => Below w.heap.size w w' ∧ ∃ r : Int, e = .returned (.int .i64 r) ∧ (r = -1 ∨ (0 ≤ r ∧ c.Sm)) := by
  have HH : Hid (∀ W, Below w.heap.size w W → Co.At W tv lv nv bu bx kv fu fx c) := fun W hb => h.keep hb
  have HF := hidOfT hf
  obtain ⟨ta, tc, rfl, -⟩ := h.t
  obtain ⟨la, lc, rfl, -⟩ := h.l
  obtain ⟨na, nc, rfl, -⟩ := h.n
  obtain ⟨ua, uc, rfl, -⟩ := h.u
  obtain ⟨xa, xc, rfl, -⟩ := h.x
  obtain ⟨ka, kc, rfl, -⟩ := h.k
  obtain ⟨ga, gc, rfl, -⟩ := h.fu
  obtain ⟨ha, hc, rfl, -⟩ := h.fx
  unfold Co.cells
  have C0 : Hid (∀ W (r : Int), Below w.heap.size w W → 0 ≤ r → r ≤ l → Calls Try.prog 11 #[.agg #[.slice ta c.ts.length tc, .slice la c.xs.length lc, .int .i64 c.bg, .int .i64 c.li, .int .i64 c.en], .int .i64 r] W fun e w' => Below W.heap.size W w' ∧ ∃ r' : Int, e = .returned (.int .i64 r') ∧ (r' = -1 ∨ 0 ≤ r' ∧ r' ≤ r ∧ c.ts.length ≤ 1048576 ∧ TsSmall c.ts c.ts.length ∧ c.xs.length ≤ 1048576)) :=
    fun W r hb h0 h1 => szCode_any _ _ _ _ _ _ _ r W (HH.out _ hb).t (HH.out _ hb).l h0 (by omega) HF.out.t.1 HF.out.t.2 HF.out.x
  have C1 : Hid (∀ W (r : Int), Below w.heap.size w W → 0 ≤ r → r ≤ l → Calls Try.prog 12 #[.slice na c.ns.length nc, .int .i64 r] W fun e w' => Below W.heap.size W w' ∧ ∃ r' : Int, e = .returned (.int .i64 r') ∧ (r' = -1 ∨ 0 ≤ r' ∧ r' ≤ r ∧ c.ns.length ≤ 1048576 ∧ TsSmall c.ns c.ns.length)) :=
    fun W r hb h0 h1 => szTs_any _ _ r W (HH.out _ hb).n h0 (by omega) HF.out.n.1 HF.out.n.2
  have C2 : Hid (∀ W (r : Int), Below w.heap.size w W → 0 ≤ r → r ≤ l → Calls Try.prog 13 #[.agg #[.slice ua c.bv.length uc, .slice xa c.bc.length xc, .string c.bo], .int .i64 r] W fun e w' => Below W.heap.size W w' ∧ ∃ r' : Int, e = .returned (.int .i64 r') ∧ (r' = -1 ∨ 0 ≤ r' ∧ r' ≤ r ∧ StSmall c.bv c.bc c.bo)) :=
    fun W r hb h0 h1 => szStore_any _ _ _ _ _ r W (HH.out _ hb).u (HH.out _ hb).x h0 (by omega) HF.out.b
  have C3 : Hid (∀ W (r : Int), Below w.heap.size w W → 0 ≤ r → r ≤ l → Calls Try.prog 14 #[.slice ka c.ks.length kc, .int .i64 r] W fun e w' => Below W.heap.size W w' ∧ ∃ r' : Int, e = .returned (.int .i64 r') ∧ (r' = -1 ∨ 0 ≤ r' ∧ r' ≤ r ∧ c.ks.length ≤ 1048576 ∧ KsSm c.ks c.ks.length)) :=
    fun W r hb h0 h1 => szTasks_any _ _ r W (HH.out _ hb).k h0 (by omega) HF.out.k
  have C4 : Hid (∀ W (r : Int), Below w.heap.size w W → 0 ≤ r → r ≤ l → Calls Try.prog 13 #[.agg #[.slice ga c.fv.length gc, .slice ha c.fc.length hc, .string c.fo], .int .i64 r] W fun e w' => Below W.heap.size W w' ∧ ∃ r' : Int, e = .returned (.int .i64 r') ∧ (r' = -1 ∨ 0 ≤ r' ∧ r' ≤ r ∧ StSmall c.fv c.fc c.fo)) :=
    fun W r hb h0 h1 => szStore_any _ _ _ _ _ r W (HH.out _ hb).fu (HH.out _ hb).fx h0 (by omega) HF.out.f
  have HB0 : Hid (Below w.heap.size w (w.alloc (.cells #[.slice ta c.ts.length tc, .slice la c.xs.length lc, .int .i64 c.bg, .int .i64 c.li, .int .i64 c.en, .slice na c.ns.length nc, .slice ua c.bv.length uc, .slice xa c.bc.length xc, .string c.bo, .int .i64 c.cnt, .slice ka c.ks.length kc, .int .i64 c.now, .int .i64 c.tries, .bool c.over, .slice ga c.fv.length gc, .slice ha c.fc.length hc, .string c.fo] 32))) := (Below.refl _ _).alloc (Nat.le_refl _) _
  have HR0 : Hid ((w.alloc (.cells #[.slice ta c.ts.length tc, .slice la c.xs.length lc, .int .i64 c.bg, .int .i64 c.li, .int .i64 c.en, .slice na c.ns.length nc, .slice ua c.bv.length uc, .slice xa c.bc.length xc, .string c.bo, .int .i64 c.cnt, .slice ka c.ks.length kc, .int .i64 c.now, .int .i64 c.tries, .bool c.over, .slice ga c.fv.length gc, .slice ha c.fc.length hc, .string c.fo] 32)).heap[w.heap.size]? = some (.cells #[.slice ta c.ts.length tc, .slice la c.xs.length lc, .int .i64 c.bg, .int .i64 c.li, .int .i64 c.en, .slice na c.ns.length nc, .slice ua c.bv.length uc, .slice xa c.bc.length xc, .string c.bo, .int .i64 c.cnt, .slice ka c.ks.length kc, .int .i64 c.now, .int .i64 c.tries, .bool c.over, .slice ga c.fv.length gc, .slice ha c.fc.length hc, .string c.fo] 32 (0, 0))) := heap_alloc_new _ _
  clear HH HF h hf
  go_enter Try.func4, Try.ntmps4
  go_wp2_with fail
  generalize w.alloc (.cells #[.slice ta c.ts.length tc, .slice la c.xs.length lc, .int .i64 c.bg, .int .i64 c.li, .int .i64 c.en, .slice na c.ns.length nc, .slice ua c.bv.length uc, .slice xa c.bc.length xc, .string c.bo, .int .i64 c.cnt, .slice ka c.ks.length kc, .int .i64 c.now, .int .i64 c.tries, .bool c.over, .slice ga c.fv.length gc, .slice ha c.fc.length hc, .string c.fo] 32) = W0 at *
  have HQ : Hid (∀ W, Below W0.heap.size W0 W → W.heap[w.heap.size]? = some (.cells #[.slice ta c.ts.length tc, .slice la c.xs.length lc, .int .i64 c.bg, .int .i64 c.li, .int .i64 c.en, .slice na c.ns.length nc, .slice ua c.bv.length uc, .slice xa c.bc.length xc, .string c.bo, .int .i64 c.cnt, .slice ka c.ks.length kc, .int .i64 c.now, .int .i64 c.tries, .bool c.over, .slice ga c.fv.length gc, .slice ha c.fc.length hc, .string c.fo] 32 (0, 0)) ∧ Below w.heap.size w W) := fun W hb => ⟨(hb.block _ (blk_lt HR0.out)).trans HR0.out, HB0.out.trans (hb.mono HB0.out.size)⟩
  have H0 : Hid (Below W0.heap.size W0 W0) := Below.refl _ _
  have k0 : 0 ≤ l ∧ l ≤ l := ⟨hl0, Int.le_refl _⟩
  clear HB0 HR0
  refine (C0.out _ l (HQ.out _ H0.out).2 (by omega) (by omega)).mono ?_
  rintro e w1 ⟨hb, r1, rfl, hr⟩
  have H1 : Hid (Below W0.heap.size W0 w1) := H0.out.trans (hb.mono H0.out.size)
  clear hb C0 H0 
  rcases hr with rfl | ⟨p1, o1, s1⟩
  · go_wp2_with fail
    go_ret
    exact ⟨(HQ.out _ H1.out).2, -1, rfl, .inl rfl⟩
  have S1 := hidOfT s1
  have d1 : decide (r1 < 0) = false := decide_eq_false (by omega)
  clear s1
  have q5 := (blk_cell (HQ.out _ H1.out).1 5).trans rfl
  go_wp2_with fail
  refine (C1.out _ r1 (HQ.out _ H1.out).2 (by omega) (by omega)).mono ?_
  rintro e w2 ⟨hb, r2, rfl, hr⟩
  have H2 : Hid (Below W0.heap.size W0 w2) := H1.out.trans (hb.mono H1.out.size)
  clear hb C1 H1 q5
  rcases hr with rfl | ⟨p2, o2, s2⟩
  · go_wp2_with fail
    go_ret
    exact ⟨(HQ.out _ H2.out).2, -1, rfl, .inl rfl⟩
  have S2 := hidOfT s2
  have d2 : decide (r2 < 0) = false := decide_eq_false (by omega)
  clear s2
  have q6 := (blk_cell (HQ.out _ H2.out).1 6).trans rfl
  have q7 := (blk_cell (HQ.out _ H2.out).1 7).trans rfl
  have q8 := (blk_cell (HQ.out _ H2.out).1 8).trans rfl
  go_wp2_with fail
  refine (C2.out _ r2 (HQ.out _ H2.out).2 (by omega) (by omega)).mono ?_
  rintro e w3 ⟨hb, r3, rfl, hr⟩
  have H3 : Hid (Below W0.heap.size W0 w3) := H2.out.trans (hb.mono H2.out.size)
  clear hb C2 H2 q6 q7 q8
  rcases hr with rfl | ⟨p3, o3, s3⟩
  · go_wp2_with fail
    go_ret
    exact ⟨(HQ.out _ H3.out).2, -1, rfl, .inl rfl⟩
  have S3 := hidOfT s3
  have d3 : decide (r3 < 0) = false := decide_eq_false (by omega)
  clear s3
  have q10 := (blk_cell (HQ.out _ H3.out).1 10).trans rfl
  go_wp2_with fail
  refine (C3.out _ r3 (HQ.out _ H3.out).2 (by omega) (by omega)).mono ?_
  rintro e w4 ⟨hb, r4, rfl, hr⟩
  have H4 : Hid (Below W0.heap.size W0 w4) := H3.out.trans (hb.mono H3.out.size)
  clear hb C3 H3 q10
  rcases hr with rfl | ⟨p4, o4, s4⟩
  · go_wp2_with fail
    go_ret
    exact ⟨(HQ.out _ H4.out).2, -1, rfl, .inl rfl⟩
  have S4 := hidOfT s4
  have d4 : decide (r4 < 0) = false := decide_eq_false (by omega)
  clear s4
  have q14 := (blk_cell (HQ.out _ H4.out).1 14).trans rfl
  have q15 := (blk_cell (HQ.out _ H4.out).1 15).trans rfl
  have q16 := (blk_cell (HQ.out _ H4.out).1 16).trans rfl
  go_wp2_with fail
  refine (C4.out _ r4 (HQ.out _ H4.out).2 (by omega) (by omega)).mono ?_
  rintro e w5 ⟨hb, r5, rfl, hr⟩
  have H5 : Hid (Below W0.heap.size W0 w5) := H4.out.trans (hb.mono H4.out.size)
  clear hb C4 H4 q14 q15 q16
  rcases hr with rfl | ⟨p5, o5, s5⟩
  · go_wp2_with fail
    go_ret
    exact ⟨(HQ.out _ H5.out).2, -1, rfl, .inl rfl⟩
  have S5 := hidOfT s5
  have d5 : decide (r5 < 0) = false := decide_eq_false (by omega)
  clear s5
  go_wp2_with fail
  go_ret
  exact ⟨(HQ.out _ H5.out).2, _, rfl, .inr ⟨p5, ⟨S1.out.1, S1.out.2.1, S1.out.2.2, S2.out.1, S2.out.2, S3.out, S4.out.1, S4.out.2, S5.out⟩⟩⟩

set_option maxHeartbeats 8000000 in
set_option maxRecDepth 100000 in
theorem eqCoord_any (tv lv nv bu bx kv fu fx tv' lv' nv' bu' bx' kv' fu' fx' : Value) (c : Co) (w : World) (h : Co.At w tv lv nv bu bx kv fu fx c) (h' : Co.At w tv' lv' nv' bu' bx' kv' fu' fx' c) (hs : c.Sm) :
    Calls Try.prog 8 #[.agg (Co.cells tv lv nv bu bx kv fu fx c), .agg (Co.cells tv' lv' nv' bu' bx' kv' fu' fx' c)] w fun e w' => e = .returned (.bool true) ∧ Below w.heap.size w w' := by
  have C0 : Hid (∀ W, Below w.heap.size w W → Calls Try.prog 22 #[.agg #[tv, lv, .int .i64 c.bg, .int .i64 c.li, .int .i64 c.en], .agg #[tv', lv', .int .i64 c.bg, .int .i64 c.li, .int .i64 c.en]] W fun e w' => e = .returned (.bool true) ∧ Below W.heap.size W w') := fun W hb => eqCode_any _ _ _ _ _ _ _ _ _ W (h.t.keep hb) (h.l.keep hb) (h'.t.keep hb) (h'.l.keep hb) hs.tl hs.xl
  have C1 : Hid (∀ W, Below w.heap.size w W → Calls Try.prog 23 #[nv, nv'] W fun e w' => e = .returned (.bool true) ∧ Below W.heap.size W w') := fun W hb => eqTs_any _ _ _ W (h.n.keep hb) (h'.n.keep hb) hs.nl
  have C2 : Hid (∀ W, Below w.heap.size w W → Calls Try.prog 24 #[.agg #[bu, bx, .string c.bo], .agg #[bu', bx', .string c.bo]] W fun e w' => e = .returned (.bool true) ∧ Below W.heap.size W w') := fun W hb => eqStore_any _ _ _ _ _ _ _ W (h.u.keep hb) (h.x.keep hb) (h'.u.keep hb) (h'.x.keep hb) hs.b.1 hs.b.2.2.1
  have C3 : Hid (∀ W, Below w.heap.size w W → Calls Try.prog 25 #[kv, kv'] W fun e w' => e = .returned (.bool true) ∧ Below W.heap.size W w') := fun W hb => eqTasks_any _ _ _ W (h.k.keep hb) (h'.k.keep hb) hs.kl hs.kk
  have C4 : Hid (∀ W, Below w.heap.size w W → Calls Try.prog 24 #[.agg #[fu, fx, .string c.fo], .agg #[fu', fx', .string c.fo]] W fun e w' => e = .returned (.bool true) ∧ Below W.heap.size W w') := fun W hb => eqStore_any _ _ _ _ _ _ _ W (h.fu.keep hb) (h.fx.keep hb) (h'.fu.keep hb) (h'.fx.keep hb) hs.f.1 hs.f.2.2.1
  obtain ⟨ta, tc, rfl, -⟩ := h.t
  obtain ⟨la, lc, rfl, -⟩ := h.l
  obtain ⟨na, nc, rfl, -⟩ := h.n
  obtain ⟨ua, uc, rfl, -⟩ := h.u
  obtain ⟨xa, xc, rfl, -⟩ := h.x
  obtain ⟨ka, kc, rfl, -⟩ := h.k
  obtain ⟨ga, gc, rfl, -⟩ := h.fu
  obtain ⟨ha, hc, rfl, -⟩ := h.fx
  obtain ⟨t1a, t1c, rfl, -⟩ := h'.t
  obtain ⟨l1a, l1c, rfl, -⟩ := h'.l
  obtain ⟨n1a, n1c, rfl, -⟩ := h'.n
  obtain ⟨u1a, u1c, rfl, -⟩ := h'.u
  obtain ⟨x1a, x1c, rfl, -⟩ := h'.x
  obtain ⟨k1a, k1c, rfl, -⟩ := h'.k
  obtain ⟨g1a, g1c, rfl, -⟩ := h'.fu
  obtain ⟨h1a, h1c, rfl, -⟩ := h'.fx
  unfold Co.cells
  have n1 : (c.cnt != c.cnt) = false := by simp
  have n2 : (c.now != c.now) = false := by simp
  have n3 : (c.tries != c.tries) = false := by simp
  have n4 : (c.over != c.over) = false := by simp
  have HB0 : Hid (Below w.heap.size w ((w.alloc (.cells #[.slice ta c.ts.length tc, .slice la c.xs.length lc, .int .i64 c.bg, .int .i64 c.li, .int .i64 c.en, .slice na c.ns.length nc, .slice ua c.bv.length uc, .slice xa c.bc.length xc, .string c.bo, .int .i64 c.cnt, .slice ka c.ks.length kc, .int .i64 c.now, .int .i64 c.tries, .bool c.over, .slice ga c.fv.length gc, .slice ha c.fc.length hc, .string c.fo] 43)).alloc (.cells #[.slice t1a c.ts.length t1c, .slice l1a c.xs.length l1c, .int .i64 c.bg, .int .i64 c.li, .int .i64 c.en, .slice n1a c.ns.length n1c, .slice u1a c.bv.length u1c, .slice x1a c.bc.length x1c, .string c.bo, .int .i64 c.cnt, .slice k1a c.ks.length k1c, .int .i64 c.now, .int .i64 c.tries, .bool c.over, .slice g1a c.fv.length g1c, .slice h1a c.fc.length h1c, .string c.fo] 43))) := ((Below.refl _ _).alloc (Nat.le_refl _) _).alloc (by simp) _
  have HR0 : Hid (((w.alloc (.cells #[.slice ta c.ts.length tc, .slice la c.xs.length lc, .int .i64 c.bg, .int .i64 c.li, .int .i64 c.en, .slice na c.ns.length nc, .slice ua c.bv.length uc, .slice xa c.bc.length xc, .string c.bo, .int .i64 c.cnt, .slice ka c.ks.length kc, .int .i64 c.now, .int .i64 c.tries, .bool c.over, .slice ga c.fv.length gc, .slice ha c.fc.length hc, .string c.fo] 43)).alloc (.cells #[.slice t1a c.ts.length t1c, .slice l1a c.xs.length l1c, .int .i64 c.bg, .int .i64 c.li, .int .i64 c.en, .slice n1a c.ns.length n1c, .slice u1a c.bv.length u1c, .slice x1a c.bc.length x1c, .string c.bo, .int .i64 c.cnt, .slice k1a c.ks.length k1c, .int .i64 c.now, .int .i64 c.tries, .bool c.over, .slice g1a c.fv.length g1c, .slice h1a c.fc.length h1c, .string c.fo] 43)).heap[w.heap.size]? = some (.cells #[.slice ta c.ts.length tc, .slice la c.xs.length lc, .int .i64 c.bg, .int .i64 c.li, .int .i64 c.en, .slice na c.ns.length nc, .slice ua c.bv.length uc, .slice xa c.bc.length xc, .string c.bo, .int .i64 c.cnt, .slice ka c.ks.length kc, .int .i64 c.now, .int .i64 c.tries, .bool c.over, .slice ga c.fv.length gc, .slice ha c.fc.length hc, .string c.fo] 43 (0, 0))) := s2_0 _ _ _
  have HR1 : Hid (((w.alloc (.cells #[.slice ta c.ts.length tc, .slice la c.xs.length lc, .int .i64 c.bg, .int .i64 c.li, .int .i64 c.en, .slice na c.ns.length nc, .slice ua c.bv.length uc, .slice xa c.bc.length xc, .string c.bo, .int .i64 c.cnt, .slice ka c.ks.length kc, .int .i64 c.now, .int .i64 c.tries, .bool c.over, .slice ga c.fv.length gc, .slice ha c.fc.length hc, .string c.fo] 43)).alloc (.cells #[.slice t1a c.ts.length t1c, .slice l1a c.xs.length l1c, .int .i64 c.bg, .int .i64 c.li, .int .i64 c.en, .slice n1a c.ns.length n1c, .slice u1a c.bv.length u1c, .slice x1a c.bc.length x1c, .string c.bo, .int .i64 c.cnt, .slice k1a c.ks.length k1c, .int .i64 c.now, .int .i64 c.tries, .bool c.over, .slice g1a c.fv.length g1c, .slice h1a c.fc.length h1c, .string c.fo] 43)).heap[w.heap.size + 1]? = some (.cells #[.slice t1a c.ts.length t1c, .slice l1a c.xs.length l1c, .int .i64 c.bg, .int .i64 c.li, .int .i64 c.en, .slice n1a c.ns.length n1c, .slice u1a c.bv.length u1c, .slice x1a c.bc.length x1c, .string c.bo, .int .i64 c.cnt, .slice k1a c.ks.length k1c, .int .i64 c.now, .int .i64 c.tries, .bool c.over, .slice g1a c.fv.length g1c, .slice h1a c.fc.length h1c, .string c.fo] 43 (0, 0))) := s2_1 _ _ _
  clear h h' hs
  go_enter Try.func8, Try.ntmps8
  go_wp2_with fail
  generalize ((w.alloc (.cells #[.slice ta c.ts.length tc, .slice la c.xs.length lc, .int .i64 c.bg, .int .i64 c.li, .int .i64 c.en, .slice na c.ns.length nc, .slice ua c.bv.length uc, .slice xa c.bc.length xc, .string c.bo, .int .i64 c.cnt, .slice ka c.ks.length kc, .int .i64 c.now, .int .i64 c.tries, .bool c.over, .slice ga c.fv.length gc, .slice ha c.fc.length hc, .string c.fo] 43)).alloc (.cells #[.slice t1a c.ts.length t1c, .slice l1a c.xs.length l1c, .int .i64 c.bg, .int .i64 c.li, .int .i64 c.en, .slice n1a c.ns.length n1c, .slice u1a c.bv.length u1c, .slice x1a c.bc.length x1c, .string c.bo, .int .i64 c.cnt, .slice k1a c.ks.length k1c, .int .i64 c.now, .int .i64 c.tries, .bool c.over, .slice g1a c.fv.length g1c, .slice h1a c.fc.length h1c, .string c.fo] 43)) = W0 at *
  have HQ : Hid (∀ W, Below W0.heap.size W0 W → (W.heap[w.heap.size]? = some (.cells #[.slice ta c.ts.length tc, .slice la c.xs.length lc, .int .i64 c.bg, .int .i64 c.li, .int .i64 c.en, .slice na c.ns.length nc, .slice ua c.bv.length uc, .slice xa c.bc.length xc, .string c.bo, .int .i64 c.cnt, .slice ka c.ks.length kc, .int .i64 c.now, .int .i64 c.tries, .bool c.over, .slice ga c.fv.length gc, .slice ha c.fc.length hc, .string c.fo] 43 (0, 0)) ∧ W.heap[w.heap.size + 1]? = some (.cells #[.slice t1a c.ts.length t1c, .slice l1a c.xs.length l1c, .int .i64 c.bg, .int .i64 c.li, .int .i64 c.en, .slice n1a c.ns.length n1c, .slice u1a c.bv.length u1c, .slice x1a c.bc.length x1c, .string c.bo, .int .i64 c.cnt, .slice k1a c.ks.length k1c, .int .i64 c.now, .int .i64 c.tries, .bool c.over, .slice g1a c.fv.length g1c, .slice h1a c.fc.length h1c, .string c.fo] 43 (0, 0))) ∧ Below w.heap.size w W) := fun W hb => ⟨⟨(hb.block _ (blk_lt HR0.out)).trans HR0.out, (hb.block _ (blk_lt HR1.out)).trans HR1.out⟩, HB0.out.trans (hb.mono HB0.out.size)⟩
  have H0 : Hid (Below W0.heap.size W0 W0) := Below.refl _ _
  clear HB0 HR0 HR1
  refine (C0.out _ (HQ.out _ H0.out).2).mono ?_
  rintro e w1 ⟨rfl, hb⟩
  have H1 : Hid (Below W0.heap.size W0 w1) := H0.out.trans (hb.mono H0.out.size)
  clear hb C0 H0 
  have q5 := (blk_cell (HQ.out _ H1.out).1.1 5).trans rfl
  have p5 := (blk_cell (HQ.out _ H1.out).1.2 5).trans rfl
  go_wp2_with fail
  refine (C1.out _ (HQ.out _ H1.out).2).mono ?_
  rintro e w2 ⟨rfl, hb⟩
  have H2 : Hid (Below W0.heap.size W0 w2) := H1.out.trans (hb.mono H1.out.size)
  clear hb C1 H1 q5 p5
  have q6 := (blk_cell (HQ.out _ H2.out).1.1 6).trans rfl
  have p6 := (blk_cell (HQ.out _ H2.out).1.2 6).trans rfl
  have q7 := (blk_cell (HQ.out _ H2.out).1.1 7).trans rfl
  have p7 := (blk_cell (HQ.out _ H2.out).1.2 7).trans rfl
  have q8 := (blk_cell (HQ.out _ H2.out).1.1 8).trans rfl
  have p8 := (blk_cell (HQ.out _ H2.out).1.2 8).trans rfl
  go_wp2_with fail
  refine (C2.out _ (HQ.out _ H2.out).2).mono ?_
  rintro e w3 ⟨rfl, hb⟩
  have H3 : Hid (Below W0.heap.size W0 w3) := H2.out.trans (hb.mono H2.out.size)
  clear hb C2 H2 q6 p6 q7 p7 q8 p8
  have q9 := (blk_cell (HQ.out _ H3.out).1.1 9).trans rfl
  have p9 := (blk_cell (HQ.out _ H3.out).1.2 9).trans rfl
  have q10 := (blk_cell (HQ.out _ H3.out).1.1 10).trans rfl
  have p10 := (blk_cell (HQ.out _ H3.out).1.2 10).trans rfl
  go_wp2_with fail
  refine (C3.out _ (HQ.out _ H3.out).2).mono ?_
  rintro e w4 ⟨rfl, hb⟩
  have H4 : Hid (Below W0.heap.size W0 w4) := H3.out.trans (hb.mono H3.out.size)
  clear hb C3 H3 q9 p9 q10 p10
  have q11 := (blk_cell (HQ.out _ H4.out).1.1 11).trans rfl
  have p11 := (blk_cell (HQ.out _ H4.out).1.2 11).trans rfl
  have q12 := (blk_cell (HQ.out _ H4.out).1.1 12).trans rfl
  have p12 := (blk_cell (HQ.out _ H4.out).1.2 12).trans rfl
  have q13 := (blk_cell (HQ.out _ H4.out).1.1 13).trans rfl
  have p13 := (blk_cell (HQ.out _ H4.out).1.2 13).trans rfl
  have q14 := (blk_cell (HQ.out _ H4.out).1.1 14).trans rfl
  have p14 := (blk_cell (HQ.out _ H4.out).1.2 14).trans rfl
  have q15 := (blk_cell (HQ.out _ H4.out).1.1 15).trans rfl
  have p15 := (blk_cell (HQ.out _ H4.out).1.2 15).trans rfl
  have q16 := (blk_cell (HQ.out _ H4.out).1.1 16).trans rfl
  have p16 := (blk_cell (HQ.out _ H4.out).1.2 16).trans rfl
  go_wp2_with fail
  refine (C4.out _ (HQ.out _ H4.out).2).mono ?_
  rintro e w5 ⟨rfl, hb⟩
  have H5 : Hid (Below W0.heap.size W0 w5) := H4.out.trans (hb.mono H4.out.size)
  clear hb C4 H4 q11 p11 q12 p12 q13 p13 q14 p14 q15 p15 q16 p16
  go_wp2_with fail
  go_ret
  exact ⟨rfl, (HQ.out _ H5.out).2⟩
end PartKdI
end Go.Proofs.Ythnmopldpgdenaa
