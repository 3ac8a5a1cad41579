/- The specification's reader of a program: statements. -/
import Derived.Test.YtkfkbdgfnopokaaGreatDoorZas
import Derived.Laws.Runes
import Derived.Deep.RegionWith
namespace Go.Proofs.YtkfkbdgfnopokaaGreatDoor
open Go.RowKit
section
variable {ts : List Tk.Tok} {B g : Nat} {L : Value} {Xs : Nat → Prop} {d : Int} {st : Pr.PS}
theorem At.drew1 {w0 w : World} {v0 v : Value} (h : At ts B g L Xs w0 v0 w d st v) : At ts B g L Xs w0 v0 w.drew d st v := h.below ((Below.refl _ _).drew)
theorem keepD {w a2 : World} {p1 p2 p3 p4 : Addr} {x1 x2 x3 x4 v0 v : Value} {w0 : World} (hb : Below w.heap.size w a2) (h : w.cell? p1 = some x1 ∧ w.cell? p2 = some x2 ∧ w.cell? p3 = some x3 ∧ w.cell? p4 = some x4 ∧ Hid (At ts B g L Xs w0 v0 w d st v)) : a2.cell? p1 = some x1 ∧ a2.cell? p2 = some x2 ∧ a2.cell? p3 = some x3 ∧ a2.cell? p4 = some x4 ∧ Hid (At ts B g L Xs w0 v0 a2 d st v) := by
 obtain ⟨h1, h2, h3, h4, h5⟩ := h
 exact ⟨(hb.cell (World.block_lt_of_cell? w _ h1)).trans h1, (hb.cell (World.block_lt_of_cell? w _ h2)).trans h2, (hb.cell (World.block_lt_of_cell? w _ h3)).trans h3, (hb.cell (World.block_lt_of_cell? w _ h4)).trans h4, h5.out.below hb⟩
set_option maxRecDepth 100000 in
set_option maxHeartbeats 16000000 in
theorem conStatementOne {m : Nat} {E T : Pr.Rf} (hE : Con ts B g L 18 d E) (hT : Con ts B g L 48 d T) (hFE : Pr.Fn ts m E) (hFT : Pr.Fn ts m T) (hP : ∀ st, (T st).1.bad = false → st.a < (T st).1.a) (hm : m ≤ 240) (hl : ts.length ≤ 200) (hts : Pr.Tsm ts) : Con ts B g L 83 d (Pr.statementOne ts E T) := by
 intro st hlm hd Xs w0 v0 w v h
 have HA : Hid (At ts B g L Xs w0 v0 w d st v) := h
 obtain ⟨c0, c1, c2, c3, c4, f1, f2, f3, f4⟩ := cells5 h.rs.rg
 obtain ⟨R, hR⟩ : ∃ R, R = Pr.statementOne ts E T st := ⟨_, rfl⟩
 rw [← hR]
 by_cases hov : st.over ts = true
 ·have HE : Hid (R = (st.fail, 0)) := by show _ = _; rw [hR, Pr.statementOne, if_pos hov]
  obtain ⟨ad, cap, rfl, -⟩ := h.rs.tk
  clear hR hE hT hFE hFT hP h
  cases hb : st.bad with
  | true =>
   rw [hb] at c3
   clear hov hlm hd
   unfold me at *
   go_enter Tryz.func83, Tryz.ntmps83
   go_wp2_with fail
   go_quiet (fail)
   go_wp2
   go_ret
   rw [HE.out]
   exact ⟨v, rfl, (HA.out.drew _).fail⟩
  | false =>
   rw [hb] at c3
   have d1 : decide ((ts.length : Int) ≤ (st.a : Int)) = true := by
    unfold Pr.PS.over at hov
    rw [hb] at hov
    simp at hov
    exact decide_eq_true (by omega)
   have d1n : decide (ts.length ≤ st.a) = true := by
    unfold Pr.PS.over at hov
    rw [hb] at hov
    simpa using hov
   clear hov hlm hd
   unfold me at *
   go_enter Tryz.func83, Tryz.ntmps83
   go_wp2_with fail
   go_quiet (fail)
   go_wp2
   go_ret
   rw [HE.out]
   exact ⟨v, rfl, (HA.out.drew _).fail⟩
 ·obtain ⟨hb, hlt⟩ := Pr.over_no hov
  rw [hb] at c3
  obtain ⟨b, cap, hLe, t0, t1, hbg⟩ := h.rs.tokAt hlt
  rw [hLe] at c0
  have d1 : decide ((ts.length : Int) ≤ (st.a : Int)) = false := decide_eq_false (by omega)
  have d1n : decide (ts.length ≤ st.a) = false := decide_eq_false (by omega)
  have i1 : (st.a : Int) < (ts.length : Int) := by omega
  have i0 : (0 : Int) ≤ (st.a : Int) := by omega
  have k0 : ∀ (n : Nat) (o : Obj), ((w.drewN n).alloc o).cell? ⟨g, 0, none⟩ = _ := fun n o => cell_alloc (w := w.drewN n) o c0
  have k1 : ∀ (n : Nat) (o : Obj), ((w.drewN n).alloc o).cell? ⟨g, 1, none⟩ = _ := fun n o => cell_alloc (w := w.drewN n) o c1
  have k2 : ∀ (n : Nat) (o : Obj), ((w.drewN n).alloc o).cell? ⟨b, st.a * 2, none⟩ = _ := fun n o => cell_alloc (w := w.drewN n) o t0
  have k3 : ∀ (n : Nat) (o : Obj), ((w.drewN n).alloc o).cell? ⟨b, st.a * 2 + 1, none⟩ = _ := fun n o => cell_alloc (w := w.drewN n) o t1
  have q : ∀ n : Nat, ((w.drewN n).alloc (.cells #[.int .i64 0, .string ⟨#[]⟩] 80)).heap[w.heap.size]? = some (.cells #[.int .i64 0, .string ⟨#[]⟩] 80 (0, 0)) := fun n => heap_alloc_new (w.drewN n) _
  have q0 := fun n => (tok_cells (q n)).1
  have q1 := fun n => (tok_cells (q n)).2.1
  have q2 := fun n => (tok_cells (q n)).2.2.1
  have q3 := fun n => (tok_cells (q n)).2.2.2
  clear q
  unfold me at *
  go_enter Tryz.func83, Tryz.ntmps83
  go_wp2_with fail
  go_quiet (fail)
  go_wp2_with fail
  go_region
  go_wp2_with fail
  obtain ⟨K, hK⟩ : ∃ K, K = (st.tok ts).kind := ⟨_, rfl⟩
  obtain ⟨X, hX⟩ : ∃ X : ByteArray, X = ⟨(st.tok ts).text.toArray⟩ := ⟨_, rfl⟩
  have hbW := tokW_below w (nq + 1) (K : Int) X
  have hqW := tokW_blk w (nq + 1) (K : Int) X
  rw [← hK, ← hX]
  change Calls Tryz.prog 17 _ (tokW w (nq + 1) (K : Int) X) _
  generalize tokW w (nq + 1) (K : Int) X = W at *
  have HW : Hid (At ts B g L Xs w0 v0 W d st v) := h.below hbW
  have HKB : Hid (KB g v0 w0 W v) := HW.out.kb
  have HA0 : Hid (At ts B g L Xs W v W d st v) := ⟨HW.out.rs, KB.refl g v W⟩
  have hQg : w.heap.size ≠ g := by have := h.rs.sz; have := h.rs.low; omega
  have HQv : Hid (v.ownBlock ≠ some w.heap.size) := fun e => by have := (h.rs.np.own _ e).2; omega
  have HQ : Hid (W.heap[w.heap.size]? = some (.cells #[.int .i64 (K : Int), .string X] 80 (0, 0))) := hqW
  have HX : Hid (X = ⟨(st.tok ts).text.toArray⟩) := hX
  have HTl : Hid ((st.tok ts).text.length ≤ 600) := hts.tok st
  have HTS : Hid (Pr.Tsm ts) := hts
  have hlm0 := hlm.zero hb
  have hg0 := hlm0.go hlt
  have hd30 : ¬ 30 < d := fun h => by rw [hd h] at hb; cases hb
  have HTOP : Hid (st.a ≤ ts.length) := hlm.top
  have hta : st.a ≤ 200 := by have := hlm.top; omega
  have HG0 : Hid (Pr.Lm ts 0 st.go) := hg0
  have HL0 : Hid (Pr.Lm ts 0 st) := hlm0
  have HFE : Hid (Pr.Fn ts 240 E) := hFE.up hm
  have HFT : Hid (Pr.Fn ts 240 T) := hFT.up hm
  have HP : Hid (∀ st, (T st).1.bad = false → st.a < (T st).1.a) := hP
  have CEx : Hid (∀ s, Pr.Lm ts 300 s → Step ts B g L 18 #[.pointer (some ⟨g, 0, none⟩)] d s (.int .i64 (E s).2) d (E s).1) := fun s hs => hE s hs (fun h => absurd h hd30)
  have CB : Hid (Step ts B g L 19 #[.pointer (some ⟨g, 0, none⟩)] d st (.int .i64 (Pr.block ts T st).2) d (Pr.block ts T st).1) := stBlock hT (hFT.up hm) hP (by omega) hl (hlm0.up (by omega)) hd30
  have CC : Hid (Step ts B g L 107 #[.pointer (some ⟨g, 0, none⟩)] d st.go (.int .i64 (Pr.choice ts E T st.go).2) d (Pr.choice ts E T st.go).1) := stChoice hE hT (hFE.up hm) (hFT.up hm) (by omega) hl (hg0.up (by omega)) hd30
  have CSET : Hid (Step ts B g L 109 #[.pointer (some ⟨g, 0, none⟩), .string ⟨(st.tok ts).text.toArray⟩] d st.go (.int .i64 (Pr.setOne ts E (st.tok ts).text st.go).2) d (Pr.setOne ts E (st.tok ts).text st.go).1) := stSet hE (hFE.up hm) (by omega) hl _ (hg0.up (by omega)) hd30
  have hgl : st.go.out.length ≤ 1000 := by have := hg0.len; omega
  have HR : Hid (R = Pr.statementOne ts E T st) := hR
  have hov2 : ¬ st.over ts = true := hov
  have hbad : st.bad = false := hb
  clear h hR hov hbW hqW hX hlm hd hb hlt t0 t1 k0 k1 k2 k3 q0 q1 q2 q3 c0 c1 c2 c3 c4 f1 f2 f3 f4 d1 d1n i1 i0 hg0 hlm0 hd30 HW hE hT hFE hFT hP HA hbg hts
  clear hLe
  have CIS : Hid (Step ts B g L 17 #[.pointer (some ⟨g, 0, none⟩), .int .i64 5, .string ⟨#[123]⟩] d st (.bool (st.is ts 5 [123])) d st) := stIs 5 [123] hl HTOP.out
  have WPR : Hid (Step ts B g L 16 #[.pointer (some ⟨g, 0, none⟩), .string ⟨#[112, 114, 105, 110, 116]⟩] d st (.bool (st.is ts 1 [112, 114, 105, 110, 116])) d (if st.is ts 1 [112, 114, 105, 110, 116] = true then st.go else st)) := stWord [112, 114, 105, 110, 116] hl (by first | exact hlm.top | exact HTOP.out)
  have WNX : Hid (Step ts B g L 16 #[.pointer (some ⟨g, 0, none⟩), .string ⟨#[110, 101, 120, 116]⟩] d st (.bool (st.is ts 1 [110, 101, 120, 116])) d (if st.is ts 1 [110, 101, 120, 116] = true then st.go else st)) := stWord [110, 101, 120, 116] hl (by first | exact hlm.top | exact HTOP.out)
  have WIF : Hid (Step ts B g L 16 #[.pointer (some ⟨g, 0, none⟩), .string ⟨#[105, 102]⟩] d st (.bool (st.is ts 1 [105, 102])) d (if st.is ts 1 [105, 102] = true then st.go else st)) := stWord [105, 102] hl (by first | exact hlm.top | exact HTOP.out)
  have WDU : Hid (Step ts B g L 16 #[.pointer (some ⟨g, 0, none⟩), .string ⟨#[100, 117, 109, 112]⟩] d st (.bool (st.is ts 1 [100, 117, 109, 112])) d (if st.is ts 1 [100, 117, 109, 112] = true then st.go else st)) := stWord [100, 117, 109, 112] hl (by first | exact hlm.top | exact HTOP.out)
  cases hV : st.is ts 5 [123] with
  | true =>
   have HE : Hid (R = Pr.block ts T st) := by show _ = _; rw [HR.out, Pr.statementOne, if_neg hov2, if_pos hV]
   rw [hV] at CIS
   rw [← HE.out] at CB
   clear HE HR CEx CC CSET WPR WNX WIF WDU hV HFE HFT HP HG0 HL0
   go_wp2_with fail
   refine (CIS.out _ _ _ _ _ HA0.out).mono ?_
   rintro e w1 ⟨v1, rfl, a1⟩
   have HA1 : Hid _ := a1
   clear a1
   go_wp2_with fail
   refine (CB.out _ _ _ _ _ HA1.out).mono ?_
   rintro e w2 ⟨v2, rfl, a2⟩
   have HA2 : Hid _ := a2
   clear a2
   go_wp2
   go_ret
   exact ⟨_, rfl, HA2.out.rs, HKB.out.trans HA2.out.kb⟩
  | false =>
  rw [hV] at CIS
  have hn0 : ¬ st.is ts 5 [123] = true := by simp [hV]
  clear hV CB
  cases hV : st.is ts 1 [112, 114, 105, 110, 116] with
  | true =>
   have HE : Hid (R = Pr.print ts E st.go) := by show _ = _; rw [HR.out, Pr.statementOne, if_neg hov2, if_neg hn0, if_pos hV]
   rw [hV] at WPR
   have C3 : Hid (Step ts B g L 18 #[.pointer (some ⟨g, 0, none⟩)] d st.go (.int .i64 (E st.go).2) d (E st.go).1) := CEx.out st.go (HG0.out.up (by omega))
   have HL3 : Hid (Pr.Lm ts 240 (E st.go).1) := (HG0.out.fn HFE.out).up (by omega)
   obtain ⟨q0, hq0⟩ : ∃ q, q = Pr.printL ts E (ts.length + 1) (E st.go).1 [(E st.go).2] := ⟨_, rfl⟩
   have HR2 : Hid (R = Pr.printEnd q0) := by show _ = _; rw [HE.out, hq0]; rfl
   have HB0 : Hid (Pr.printL ts E (ts.length + 1) (E st.go).1 [(E st.go).2] = q0) := hq0.symm
   generalize (E st.go).1 = s3 at *
   generalize (E st.go).2 = k3 at *
   clear hq0 HE HR CC CSET WNX WIF WDU hV HFT HP HG0 HL0
   go_wp2_with fail
   refine (CIS.out _ _ _ _ _ HA0.out).mono ?_
   rintro e w1 ⟨v1, rfl, a1⟩
   have HA1 : Hid (At ts B g L Xs W v w1 d st v1) := a1
   clear a1 CIS
   go_wp2_with fail
   refine (WPR.out _ _ _ _ _ HA1.out).mono ?_
   rintro e w2 ⟨v2, rfl, a2⟩
   have HA2 : Hid (At ts B g L Xs W v w2 d st.go v2) := a2
   clear a2 WPR HA1
   go_wp2_with fail
   refine (C3.out _ _ _ _ _ HA2.out).mono ?_
   rintro e w3 ⟨v3, rfl, a3⟩
   have HK4 : Hid (IRow B (w3.alloc (.cells #[.int .i64 k3] 3)) (.slice (some ⟨w3.heap.size, 0, none⟩) 1 1) [k3]) := IRow.new1 w3 a3.rs.sz k3
   have HA4 : Hid (At ts B g L (plus Xs w3.heap.size) W v (w3.alloc (.cells #[.int .i64 k3] 3)) d s3 v3) := a3.add _
   have HQ4 : Hid (W.heap.size ≤ w3.heap.size) := a3.kb.2.1
   have HX4 : Hid (¬ Xs w3.heap.size) := fun e => by have := (a3.rs.xb _ e).2.1; omega
   clear a3 C3 HA2 HQ HQv HX HTl HTS HTOP
   go_wp2_with fail
   go_loopw [4] (fun u wr => ∃ (st : Pr.PS) (v' : Value) (ks : List Int) (f q cap : Nat), u = .slice (some ⟨q, 0, none⟩) ks.length cap ∧ Hid (At ts B g L (plus Xs q) W v wr d st v') ∧ Hid (IRow B wr (.slice (some ⟨q, 0, none⟩) ks.length cap) ks) ∧ Hid (W.heap.size ≤ q) ∧ Hid (¬ Xs q) ∧ Hid (Pr.printL ts E f st ks = q0) ∧ Hid (Pr.Lm ts 240 st) ∧ ts.length < st.a + f ∧ ks.length + f ≤ ts.length + 2) (fun _ wr => leftG g ts.length wr)
   case atStart => exact ⟨s3, v3, [k3], ts.length + 1, w3.heap.size, 1, rfl, HA4.out, HK4.out, HQ4.out, HX4.out, HB0.out, HL3.out, by omega, by simp; omega⟩
   case round =>
    clear HQ4 HX4 HB0 HL3 HA4 HK4
    obtain ⟨st, v', ks, f, q, cap, rfl, HAr, HKr, HQr, HXr, HB, HLM, hf, hkf⟩ := hrel
    have htop := HLM.out.top
    have C4 : Hid (Step ts B g L 81 #[.pointer (some ⟨g, 0, none⟩), .string ⟨#[44]⟩] d st (.bool (st.is ts 5 [44])) d (if st.is ts 5 [44] = true then st.go else st)) := stSign [44] hl htop
    cases hV : st.is ts 5 [44] with
    | false =>
     rw [hV] at C4
     have HE0 : Hid (R = (if 4 < ks.length then st.fail else st).put (Pr.nd 17 [] ks)) := by
      show _ = _
      rw [HR2.out, ← HB.out]
      cases f with
      | zero => rfl
      | succ f => rw [Pr.printL, if_neg (by simp [hV])]; rfl
     have hlen := HLM.out.len
     clear HR2 HB HLM CEx HFE hV
     go_wp2_with fail
     refine (C4.out _ _ _ _ _ HAr.out.here).mono ?_
     rintro e w7 ⟨v7, rfl, a7⟩
     have HK7 : Hid (IRow B w7 (.slice (some ⟨q, 0, none⟩) ks.length cap) ks) := IRow.at HKr.out HAr.out.rs rfl a7
     have HA7 : Hid (At ts B g L (plus Xs q) W v w7 d st v7) := HAr.out.then a7
     clear a7 C4 HKr HAr
     by_cases h4 : 4 < ks.length
     ·have d4 : decide ((4 : Int) < (ks.length : Int)) = true := decide_eq_true (by omega)
      have HE : Hid (R = st.fail.put (Pr.nd 17 [] ks)) := by show _ = _; rw [HE0.out, if_pos h4]
      have hlf : st.fail.out.length = st.out.length := rfl
      obtain ⟨-, -, -, g3, -, -, -, h3, -⟩ := cells5 HA7.out.rs.rg
      have HK8 : Hid (IRow B (w7.setCell ⟨g, 3, none⟩ (.bool true)) (.slice (some ⟨q, 0, none⟩) ks.length cap) ks) := IRow.at HK7.out HA7.out.rs rfl HA7.out.here.fail
      clear HE0
      have CP := stPut (ts := ts) (B := B) (g := g) (L := L) (d := d) 17 [] ks _ _ _ W v _ v7 (HA7.out.fail).sub (by omega) (IRow.kf HK8.out (HA7.out.fail).rs rfl HXr.out)
      have HCP : Hid (Calls Tryz.prog 49 #[.pointer (some ⟨g, 0, none⟩), .agg #[.int .i64 17, .string ⟨#[]⟩, .slice (some ⟨q, 0, none⟩) ks.length cap]] (w7.setCell ⟨g, 3, none⟩ (.bool true)) _) := CP
      clear CP
      go_wp2_with fail
      refine HCP.out.mono ?_
      rintro e w9 ⟨v9, rfl, a9⟩
      have HA9 : Hid _ := a9
      clear a9 HCP
      go_wp2
      go_ret
      rw [HE.out]
      exact ⟨v9, rfl, HA9.out.rs, HKB.out.trans HA9.out.kb⟩
     ·have d4 : decide ((4 : Int) < (ks.length : Int)) = false := decide_eq_false (by omega)
      have HE : Hid (R = st.put (Pr.nd 17 [] ks)) := by show _ = _; rw [HE0.out, if_neg h4]
      clear HE0
      have CP := stPut (ts := ts) (B := B) (g := g) (L := L) (d := d) 17 [] ks _ _ _ W v _ v7 (HA7.out).sub (by omega) (IRow.kf HK7.out (HA7.out).rs rfl HXr.out)
      have HCP : Hid (Calls Tryz.prog 49 #[.pointer (some ⟨g, 0, none⟩), .agg #[.int .i64 17, .string ⟨#[]⟩, .slice (some ⟨q, 0, none⟩) ks.length cap]] w7 _) := CP
      clear CP
      go_wp2_with fail
      refine HCP.out.mono ?_
      rintro e w9 ⟨v9, rfl, a9⟩
      have HA9 : Hid _ := a9
      clear a9 HCP
      go_wp2
      go_ret
      rw [HE.out]
      exact ⟨v9, rfl, HA9.out.rs, HKB.out.trans HA9.out.kb⟩
    | true =>
     have hlt := (Pr.is_lt hV).1
     have hbd := (Pr.is_lt hV).2
     have HLE : Hid (leftG g ts.length wr = ts.length + 1 - st.a) := by
      show _ = _
      rw [HAr.out.rs.left, hbd]
      rfl
     obtain ⟨f, rfl⟩ : ∃ f', f = f' + 1 := ⟨f - 1, by omega⟩
     have hg := HLM.out.go hlt
     have C5 : Hid (Step ts B g L 18 #[.pointer (some ⟨g, 0, none⟩)] d st.go (.int .i64 (E st.go).2) d (E st.go).1) := CEx.out st.go (hg.up (by omega))
     have HL5 : Hid (Pr.Lm ts 240 (E st.go).1) := (hg.fn HFE.out).up (by omega)
     have hmono : st.a + 1 ≤ (E st.go).1.a := HFE.out.mono st.go
     have HB2 : Hid (Pr.printL ts E f (E st.go).1 (ks ++ [(E st.go).2]) = q0) := by show _ = _; rw [← HB.out, Pr.printL, if_pos hV]
     rw [hV] at C4
     generalize (E st.go).1 = s5 at *
     generalize (E st.go).2 = k5 at *
     clear HB HLM hg hbd hV
     go_wp2_with fail
     refine (C4.out _ _ _ _ _ HAr.out.here).mono ?_
     rintro e w4 ⟨v4, rfl, a4⟩
     have HK4 : Hid (IRow B w4 (.slice (some ⟨q, 0, none⟩) ks.length cap) ks) := IRow.at HKr.out HAr.out.rs rfl a4
     have HA4 : Hid (At ts B g L (plus Xs q) W v w4 d st.go v4) := HAr.out.then a4
     clear a4 C4 HKr HAr
     go_wp2_with fail
     refine (C5.out _ _ _ _ _ HA4.out.here).mono ?_
     rintro e w5 ⟨v5, rfl, a5⟩
     have HK5 : Hid (IRow B w5 (.slice (some ⟨q, 0, none⟩) ks.length cap) ks) := IRow.at HK4.out HA4.out.rs rfl a5
     have HA5 : Hid (At ts B g L (plus Xs q) W v w5 d s5 v5) := HA4.out.then a5
     clear a5 C5 HK4 HA4
     have hs5 := HA5.out.rs.sz
     go_wp2_with (at_builtin; go_must (refine HK5.out.push rfl _ _ rfl rfl k5 w5.heap.size rfl rfl ?hl ?hb ?_))
     case hl => omega
     case hb => exact hs5
     intro q6 cap6 w6 hrow hq hq2 hsz2 hen hblk
     have hq' : q6 = q ∨ w5.heap.size ≤ q6 := hq.imp (fun e => (Option.some.inj e).symm) id
     have HA6 : Hid (At ts B g L (plus Xs q6) W v w6 d s5 v5) := HA5.out.poke HQr.out hsz2 hen (fun k hk hne => hblk k hk (fun e => hne (Option.some.inj e).symm)) hq' hq2
     have HK6 : Hid (IRow B w6 (.slice (some ⟨q6, 0, none⟩) (ks.length + 1) cap6) (ks ++ [k5])) := hrow
     have HQ6 : Hid (W.heap.size ≤ q6) := by
      show _ ≤ _
      have := HQr.out
      have := HA5.out.kb.2.1
      rcases hq' with e | e <;> omega
     have HX6 : Hid (¬ Xs q6) := fun e => by
      rcases hq' with e2 | e2
      ·rw [e2] at e; exact HXr.out e
      ·have := (HA5.out.sub.rs.xb _ e).2.1; omega
     clear hrow hq hq2 hsz2 hen hblk hq' hs5 HK5 HA5 HQr HXr
     go_wp2
     go_roundw
     case rel => exact ⟨s5, v5, ks ++ [k5], f, q6, cap6, by simp, HA6.out, by simpa using HK6, HQ6.out, HX6.out, HB2.out, HL5.out, by omega, by simp; omega⟩
     case measure =>
      rw [HLE.out, HA6.out.rs.left]
      split <;> omega
  | false =>
  rw [hV] at WPR
  have hn1 : ¬ st.is ts 1 [112, 114, 105, 110, 116] = true := by simp [hV]
  clear hV
  cases hV : st.is ts 1 [110, 101, 120, 116] with
  | true =>
   have HE : Hid (R = st.go.put (Pr.nd 23 [] [])) := by show _ = _; rw [HR.out, Pr.statementOne, if_neg hov2, if_neg hn0, if_neg hn1, if_pos hV]
   have CP0 : Hid (∀ (W' : World) (v' : Value), At ts B g L Xs W v W' d st.go v' → Calls Tryz.prog 49 #[.pointer (some ⟨g, 0, none⟩), .agg #[.int .i64 23, .string ⟨#[]⟩, .slice none 0 0]] W' fun e w' => ∃ v'', e = .returned (.int .i64 R.2) ∧ At ts B g L Xs W v w' d R.1 v'') := by
    intro W' v' h
    rw [HE.out]
    exact stPut 23 [] [] none 0 0 W v _ v' h (hgl) (kf0 _ _)
   rw [hV] at WNX
   clear HE HR CEx CC CSET WIF WDU hV HFE HFT HP HG0 HL0
   go_wp2_with fail
   refine (CIS.out _ _ _ _ _ HA0.out).mono ?_
   rintro e w1 ⟨v1, rfl, a1⟩
   have HA1 : Hid _ := a1
   clear a1
   go_wp2_with fail
   refine (WPR.out _ _ _ _ _ HA1.out).mono ?_
   rintro e w2 ⟨v2, rfl, a2⟩
   have HA2 : Hid _ := a2
   clear a2
   go_wp2_with fail
   refine (WNX.out _ _ _ _ _ HA2.out).mono ?_
   rintro e w3 ⟨v3, rfl, a3⟩
   have HA3 : Hid _ := a3
   clear a3
   go_wp2_with fail
   refine (CP0.out _ _ HA3.out).mono ?_
   rintro e w4 ⟨v4, rfl, a4⟩
   have HA4 : Hid _ := a4
   clear a4
   go_wp2
   go_ret
   exact ⟨_, rfl, HA4.out.rs, HKB.out.trans HA4.out.kb⟩
  | false =>
  rw [hV] at WNX
  have hn2 : ¬ st.is ts 1 [110, 101, 120, 116] = true := by simp [hV]
  clear hV
  cases hV : st.is ts 1 [105, 102] with
  | true =>
   have HE : Hid (R = Pr.choice ts E T st.go) := by show _ = _; rw [HR.out, Pr.statementOne, if_neg hov2, if_neg hn0, if_neg hn1, if_neg hn2, if_pos hV]
   rw [hV] at WIF
   rw [← HE.out] at CC
   clear HE HR CEx CSET WDU hV HFE HFT HP HG0 HL0
   go_wp2_with fail
   refine (CIS.out _ _ _ _ _ HA0.out).mono ?_
   rintro e w1 ⟨v1, rfl, a1⟩
   have HA1 : Hid _ := a1
   clear a1
   go_wp2_with fail
   refine (WPR.out _ _ _ _ _ HA1.out).mono ?_
   rintro e w2 ⟨v2, rfl, a2⟩
   have HA2 : Hid _ := a2
   clear a2
   go_wp2_with fail
   refine (WNX.out _ _ _ _ _ HA2.out).mono ?_
   rintro e w3 ⟨v3, rfl, a3⟩
   have HA3 : Hid _ := a3
   clear a3
   go_wp2_with fail
   refine (WIF.out _ _ _ _ _ HA3.out).mono ?_
   rintro e w4 ⟨v4, rfl, a4⟩
   have HA4 : Hid _ := a4
   clear a4
   go_wp2_with fail
   refine (CC.out _ _ _ _ _ HA4.out).mono ?_
   rintro e w5 ⟨v5, rfl, a5⟩
   have HA5 : Hid _ := a5
   clear a5
   go_wp2
   go_ret
   exact ⟨_, rfl, HA5.out.rs, HKB.out.trans HA5.out.kb⟩
  | false =>
  rw [hV] at WIF
  have hn3 : ¬ st.is ts 1 [105, 102] = true := by simp [hV]
  clear hV CC
  cases hV : st.is ts 1 [100, 117, 109, 112] with
  | true =>
   have HE : Hid (R = if ts.length ≤ st.go.a ∨ (st.go.tok ts).kind ≠ 1 ∨ Pg.name (st.go.tok ts).text = false then (st.go.fail, 0) else st.go.go.put (Pr.nd 25 (st.go.tok ts).text [])) := by show _ = _; rw [HR.out, Pr.statementOne, if_neg hov2, if_neg hn0, if_neg hn1, if_neg hn2, if_neg hn3, if_pos hV]
   rw [hV] at WDU
   have hto := HG0.out.top
   have hlen := HG0.out.len
   have HTK : Hid ((st.go.tok ts).text.length ≤ 600) := HTS.out.tok st.go
   clear HR CEx CSET hV HFE HFT HP HL0 HQ HQv HX HTl HTS
   go_wp2_with fail
   refine (CIS.out _ _ _ _ _ HA0.out).mono ?_
   rintro e w1 ⟨v1, rfl, a1⟩
   have HA1 : Hid (At ts B g L Xs W v w1 d st v1) := a1
   clear a1 CIS
   go_wp2_with fail
   refine (WPR.out _ _ _ _ _ HA1.out).mono ?_
   rintro e w2 ⟨v2, rfl, a2⟩
   have HA2 : Hid (At ts B g L Xs W v w2 d st v2) := a2
   clear a2 WPR HA1
   go_wp2_with fail
   refine (WNX.out _ _ _ _ _ HA2.out).mono ?_
   rintro e w3 ⟨v3, rfl, a3⟩
   have HA3 : Hid (At ts B g L Xs W v w3 d st v3) := a3
   clear a3 WNX HA2
   go_wp2_with fail
   refine (WIF.out _ _ _ _ _ HA3.out).mono ?_
   rintro e w4 ⟨v4, rfl, a4⟩
   have HA4 : Hid (At ts B g L Xs W v w4 d st v4) := a4
   clear a4 WIF HA3
   go_wp2_with fail
   refine (WDU.out _ _ _ _ _ HA4.out).mono ?_
   rintro e w5 ⟨v5, rfl, a5⟩
   have HA5 : Hid (At ts B g L Xs W v w5 d st.go v5) := a5
   clear a5 WDU HA4
   obtain ⟨c0, c1, c2, c3, c4, f1, f2, f3, f4⟩ := cells5 HA5.out.rs.rg
   clear c2 c4 f2 f4
   by_cases hov : ts.length ≤ st.go.a
   ·have HE2 : Hid (R = (st.go.fail, 0)) := by show _ = _; rw [HE.out, if_pos (.inl hov)]
    have d1 : decide ((ts.length : Int) ≤ ((st.go.a : Nat) : Int)) = true := decide_eq_true (by omega)
    have d1n : decide (ts.length ≤ st.go.a) = true := decide_eq_true hov
    obtain ⟨ad, cap, rfl, -⟩ := HA5.out.rs.tk
    clear HE HG0
    generalize st.go = s1 at *
    go_wp2_with fail
    go_quiet (fail)
    go_wp2
    go_ret
    rw [HE2.out]
    exact ⟨_, rfl, ((HA5.out.drew _).fail).rs, HKB.out.trans ((HA5.out.drew _).fail).kb⟩
   ·obtain ⟨b, cap, hLe, t0, t1, hbg⟩ := HA5.out.rs.tokAt (by omega)
    have d1 : decide ((ts.length : Int) ≤ ((st.go.a : Nat) : Int)) = false := decide_eq_false (by omega)
    have d1n : decide (ts.length ≤ st.go.a) = false := decide_eq_false hov
    have i1 : ((st.go.a : Nat) : Int) < (ts.length : Int) := by omega
    have i0 : (0 : Int) ≤ ((st.go.a : Nat) : Int) := by omega
    rw [hLe] at c0
    by_cases hk : (st.go.tok ts).kind = 1
    ·have dk : (((st.go.tok ts).kind : Int) != 1) = false := by rw [hk]; rfl
     have dk2 : ((st.go.tok ts).kind != 1) = false := by rw [hk]; rfl
     have CNM : Hid (∀ w, Calls Tryz.prog 108 #[.string ⟨(st.go.tok ts).text.toArray⟩] w fun e w' => e = .returned (.bool (Pg.name (st.go.tok ts).text)) ∧ Below w.heap.size w w') := fun w => spName ⟨(st.go.tok ts).text.toArray⟩ w (by show (st.go.tok ts).text.length ≤ _; have := HTK.out; omega)
     have hlt5 : st.go.a < ts.length := by omega
     cases hNM : Pg.name (st.go.tok ts).text with
     | false =>
      have HE2 : Hid (R = (st.go.fail, 0)) := by show _ = _; rw [HE.out, if_pos (.inr (.inr hNM))]
      rw [hNM] at CNM
      generalize (⟨(st.go.tok ts).text.toArray⟩ : ByteArray) = Y at *
      generalize (st.go.tok ts).kind = KK at *
      clear HE HG0 hk hNM HTK
      generalize st.go = s1 at *
      go_wp2_with fail
      go_region_held3 (fun w' => w'.cell? ⟨g, 0, none⟩ = some (.slice (some ⟨b, 0, none⟩) ts.length cap) ∧ w'.cell? ⟨g, 1, none⟩ = some (.int .i64 (s1.a : Int)) ∧ w'.cell? ⟨b, s1.a * 2, none⟩ = some (.int .i64 (KK : Int)) ∧ w'.cell? ⟨b, s1.a * 2 + 1, none⟩ = some (.string Y) ∧ Hid (At ts B g L Xs W v w' d s1 v5)) (first | exact keepD hb2 (by assumption) | exact ⟨c0, c1, t0, t1, HA5.out.drew1⟩ | assumption) ((go_at_call 108; refine (CNM.out _).mono ?_; rintro e a2 ⟨rfl, hb2⟩))
      have HA6 : Hid (At ts B g L Xs W v a2 d s1 v5) := (HA5.out.drew1).below hb2
      obtain ⟨-, -, -, g3, -, -, -, h3, -⟩ := cells5 HA6.out.rs.rg
      go_wp2
      go_ret
      rw [HE2.out]
      exact ⟨_, rfl, (HA6.out.fail).rs, HKB.out.trans (HA6.out.fail).kb⟩
     | true =>
      have HE2 : Hid (R = st.go.go.put (Pr.nd 25 (st.go.tok ts).text [])) := by show _ = _; rw [HE.out, if_neg (by simp [hk, hNM]; omega)]
      have CP0 : Hid (∀ (W' : World) (v' : Value), At ts B g L Xs W v W' d st.go.go v' → Calls Tryz.prog 49 #[.pointer (some ⟨g, 0, none⟩), .agg #[.int .i64 25, .string ⟨(st.go.tok ts).text.toArray⟩, .slice none 0 0]] W' fun e w' => ∃ v'', e = .returned (.int .i64 R.2) ∧ At ts B g L Xs W v w' d R.1 v'') := by
       intro W' v' h
       rw [HE2.out]
       exact stPut 25 (st.go.tok ts).text [] none 0 0 W v _ v' h (by have : st.go.go.out.length = st.go.out.length := rfl; omega) (kf0 _ _)
      rw [hNM] at CNM
      have hta2 : st.go.a ≤ 200 := by omega
      have HHt : Hid (∀ w', At ts B g L Xs W v w' d st.go v5 → w'.cell? ⟨b, st.go.a * 2 + 1, none⟩ = some (.string ⟨(st.go.tok ts).text.toArray⟩) → (w'.setCell ⟨g, 1, none⟩ (.int .i64 ((st.go.a : Int) + 1))).cell? ⟨b, st.go.a * 2 + 1, none⟩ = some (.string ⟨(st.go.tok ts).text.toArray⟩)) := fun w' _ h => by
       rw [cell_blk (Below.heap_setCell _ _ _ _ (by show b ≠ g; exact hbg))]
       exact h
      generalize (⟨(st.go.tok ts).text.toArray⟩ : ByteArray) = Y at *
      generalize (st.go.tok ts).kind = KK at *
      clear HE HE2 HG0 hk hNM HTK
      generalize st.go = s1 at *
      go_wp2_with fail
      go_region_held3 (fun w' => w'.cell? ⟨g, 0, none⟩ = some (.slice (some ⟨b, 0, none⟩) ts.length cap) ∧ w'.cell? ⟨g, 1, none⟩ = some (.int .i64 (s1.a : Int)) ∧ w'.cell? ⟨b, s1.a * 2, none⟩ = some (.int .i64 (KK : Int)) ∧ w'.cell? ⟨b, s1.a * 2 + 1, none⟩ = some (.string Y) ∧ Hid (At ts B g L Xs W v w' d s1 v5)) (first | exact keepD hb2 (by assumption) | exact ⟨c0, c1, t0, t1, HA5.out.drew1⟩ | assumption) ((go_at_call 108; refine (CNM.out _).mono ?_; rintro e a2 ⟨rfl, hb2⟩))
      have HA6 : Hid (At ts B g L Xs W v a2 d s1 v5) := (HA5.out.drew1).below hb2
      have hy : a2.cell? ⟨b, s1.a * 2 + 1, none⟩ = some (.string Y) := (hb2.cell (World.block_lt_of_cell? w5 _ t1)).trans t1
      have HA7 : Hid (At ts B g L Xs W v (a2.setCell ⟨g, 1, none⟩ (.int .i64 ((s1.a : Int) + 1))) d s1.go v5) := HA6.out.next2
      have u1 := HHt.out a2 HA6.out hy
      obtain ⟨u0, u2, -, -, -, -, -, -, -⟩ := cells5 HA7.out.rs.rg
      rw [hLe] at u0
      obtain ⟨g0, g1, -, g3, -, h1, -, -, -⟩ := cells5 HA6.out.rs.rg
      have e1 : ((s1.go.a : Nat) : Int) = (s1.a : Int) + 1 := by show ((s1.a + 1 : Nat) : Int) = _; omega
      rw [e1] at u2
      clear c0 c1 t0 t1 hy g0 g3
      have i4 : IntKind.i64.wrap (s1.a : Int) = (s1.a : Int) := wrap_small _ (by omega) (by omega)
      go_wp2_with fail
      go_region_with (go_at_call 49; refine (CP0.out _ v5 HA7.out.drew1).mono ?_; rintro e w9 ⟨v9, rfl, a9⟩)
      all_goals
       have HA9 : Hid _ := a9
       clear a9
       go_wp2
       go_ret
       exact ⟨_, rfl, HA9.out.rs, HKB.out.trans HA9.out.kb⟩
    ·have HE2 : Hid (R = (st.go.fail, 0)) := by show _ = _; rw [HE.out, if_pos (.inr (.inl hk))]
     have dk : (((st.go.tok ts).kind : Int) != 1) = true := by simp; omega
     have dk2 : ((st.go.tok ts).kind != 1) = true := by simp [hk]
     generalize (⟨(st.go.tok ts).text.toArray⟩ : ByteArray) = Y at *
     generalize (st.go.tok ts).kind = KK at *
     clear HE HG0 hk
     generalize st.go = s1 at *
     go_wp2_with fail
     go_quiet (fail)
     go_wp2
     go_ret
     rw [HE2.out]
     exact ⟨_, rfl, ((HA5.out.drew _).fail).rs, HKB.out.trans ((HA5.out.drew _).fail).kb⟩
  | false =>
  rw [hV] at WDU
  have hn4 : ¬ st.is ts 1 [100, 117, 109, 112] = true := by simp [hV]
  clear hV
  have CNM : Hid (∀ w, Calls Tryz.prog 108 #[.string X] w fun e w' => e = .returned (.bool (Pg.name (st.tok ts).text)) ∧ Below w.heap.size w w') := fun w => by
   have := spName X w (by rw [HX.out]; show (st.tok ts).text.length ≤ _; have := HTl.out; omega)
   rw [HX.out] at this ⊢
   exact this
  by_cases hk1 : K = 1
  ·have e1 : ((K : Int) == 1) = true := beq_iff_eq.2 (by omega)
   cases hNM : Pg.name (st.tok ts).text with
   | false =>
    rw [hNM] at CNM
    have HE : Hid (R = (st.fail, 0)) := by show _ = _; rw [HR.out, Pr.statementOne, if_neg hov2, if_neg hn0, if_neg hn1, if_neg hn2, if_neg hn3, if_neg hn4, if_neg (by simp [hNM])]
    clear HR CEx CSET HFE HFT HP HG0 HL0 hK hk1 hNM
    go_wp2_with fail
    refine (CIS.out _ _ _ _ _ HA0.out).mono ?_
    rintro e w1 ⟨v1, rfl, a1⟩
    have HA1 : Hid _ := a1
    clear a1
    go_wp2_with fail
    refine (WPR.out _ _ _ _ _ HA1.out).mono ?_
    rintro e w2 ⟨v2, rfl, a2⟩
    have HA2 : Hid _ := a2
    clear a2
    go_wp2_with fail
    refine (WNX.out _ _ _ _ _ HA2.out).mono ?_
    rintro e w3 ⟨v3, rfl, a3⟩
    have HA3 : Hid _ := a3
    clear a3
    go_wp2_with fail
    refine (WIF.out _ _ _ _ _ HA3.out).mono ?_
    rintro e w4 ⟨v4, rfl, a4⟩
    have HA4 : Hid _ := a4
    clear a4
    go_wp2_with fail
    refine (WDU.out _ _ _ _ _ HA4.out).mono ?_
    rintro e w5 ⟨v5, rfl, a5⟩
    have HA5 : Hid _ := a5
    clear a5
    have HB5 : Hid (At ts B g L Xs W v w5 d st v5) := HA5.out
    obtain ⟨y0, y1⟩ := HB5.out.tokKept HQ.out hQg HQv.out
    go_wp2_with fail
    refine (CNM.out _).mono ?_
    rintro e w6 ⟨rfl, b6⟩
    have HA6 : Hid _ := HB5.out.below b6
    clear b6
    obtain ⟨-, -, -, g3, -, -, -, h3, -⟩ := cells5 HA6.out.rs.rg
    go_wp2
    go_ret
    rw [HE.out]
    exact ⟨_, rfl, (HA6.out.fail).rs, HKB.out.trans (HA6.out.fail).kb⟩
   | true =>
    rw [hNM] at CNM
    have HE : Hid (R = Pr.setOne ts E (st.tok ts).text st.go) := by show _ = _; rw [HR.out, Pr.statementOne, if_neg hov2, if_neg hn0, if_neg hn1, if_neg hn2, if_neg hn3, if_neg hn4, if_pos ⟨by rw [← hK]; exact hk1, hNM⟩]
    rw [← HX.out, ← HE.out] at CSET
    clear HE HR CEx HFE HFT HP HG0 HL0 hK hk1 hNM
    go_wp2_with fail
    refine (CIS.out _ _ _ _ _ HA0.out).mono ?_
    rintro e w1 ⟨v1, rfl, a1⟩
    have HA1 : Hid _ := a1
    clear a1
    go_wp2_with fail
    refine (WPR.out _ _ _ _ _ HA1.out).mono ?_
    rintro e w2 ⟨v2, rfl, a2⟩
    have HA2 : Hid _ := a2
    clear a2
    go_wp2_with fail
    refine (WNX.out _ _ _ _ _ HA2.out).mono ?_
    rintro e w3 ⟨v3, rfl, a3⟩
    have HA3 : Hid _ := a3
    clear a3
    go_wp2_with fail
    refine (WIF.out _ _ _ _ _ HA3.out).mono ?_
    rintro e w4 ⟨v4, rfl, a4⟩
    have HA4 : Hid _ := a4
    clear a4
    go_wp2_with fail
    refine (WDU.out _ _ _ _ _ HA4.out).mono ?_
    rintro e w5 ⟨v5, rfl, a5⟩
    have HA5 : Hid _ := a5
    clear a5
    have HB5 : Hid (At ts B g L Xs W v w5 d st v5) := HA5.out
    obtain ⟨y0, y1⟩ := HB5.out.tokKept HQ.out hQg HQv.out
    go_wp2_with fail
    refine (CNM.out _).mono ?_
    rintro e w6 ⟨rfl, b6⟩
    have HA6 : Hid _ := HB5.out.below b6
    clear b6
    obtain ⟨c0, c1, c2, c3, c4, f1, f2, f3, f4⟩ := cells5 HA6.out.rs.rg
    clear c0 c2 c3 c4 f2 f3 f4
    have HN6 : Hid _ := HA6.out.next2
    clear y0 y1
    obtain ⟨y0, y1⟩ := HA6.out.tokKept HQ.out hQg HQv.out
    go_wp2_with fail
    refine (CSET.out _ _ _ _ _ HN6.out).mono ?_
    rintro e w7 ⟨v7, rfl, a7⟩
    have HA7 : Hid _ := a7
    clear a7
    go_wp2
    go_ret
    exact ⟨_, rfl, HA7.out.rs, HKB.out.trans HA7.out.kb⟩
  ·have e1 : ((K : Int) == 1) = false := beq_eq_false_iff_ne.2 (by omega)
   have HE : Hid (R = (st.fail, 0)) := by show _ = _; rw [HR.out, Pr.statementOne, if_neg hov2, if_neg hn0, if_neg hn1, if_neg hn2, if_neg hn3, if_neg hn4, if_neg (by rw [← hK]; simp [hk1])]
   clear HR CEx CSET HFE HFT HP HG0 HL0 hK hk1 CNM
   go_wp2_with fail
   refine (CIS.out _ _ _ _ _ HA0.out).mono ?_
   rintro e w1 ⟨v1, rfl, a1⟩
   have HA1 : Hid _ := a1
   clear a1
   go_wp2_with fail
   refine (WPR.out _ _ _ _ _ HA1.out).mono ?_
   rintro e w2 ⟨v2, rfl, a2⟩
   have HA2 : Hid _ := a2
   clear a2
   go_wp2_with fail
   refine (WNX.out _ _ _ _ _ HA2.out).mono ?_
   rintro e w3 ⟨v3, rfl, a3⟩
   have HA3 : Hid _ := a3
   clear a3
   go_wp2_with fail
   refine (WIF.out _ _ _ _ _ HA3.out).mono ?_
   rintro e w4 ⟨v4, rfl, a4⟩
   have HA4 : Hid _ := a4
   clear a4
   go_wp2_with fail
   refine (WDU.out _ _ _ _ _ HA4.out).mono ?_
   rintro e w5 ⟨v5, rfl, a5⟩
   have HA5 : Hid _ := a5
   clear a5
   have HB5 : Hid (At ts B g L Xs W v w5 d st v5) := HA5.out
   obtain ⟨y0, y1⟩ := HB5.out.tokKept HQ.out hQg HQv.out
   obtain ⟨-, -, -, g3, -, -, -, h3, -⟩ := cells5 HB5.out.rs.rg
   go_wp2
   go_ret
   rw [HE.out]
   exact ⟨_, rfl, (HB5.out.fail).rs, HKB.out.trans (HB5.out.fail).kb⟩
end
end Go.Proofs.YtkfkbdgfnopokaaGreatDoor
