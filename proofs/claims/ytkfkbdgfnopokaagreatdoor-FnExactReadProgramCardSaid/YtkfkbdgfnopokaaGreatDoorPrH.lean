/- The specification's reader of a program: simple ones. -/
import Derived.Test.YtkfkbdgfnopokaaGreatDoorZal
import Derived.Test.YtkfkbdgfnopokaaGreatDoorZai
namespace Go.Proofs.YtkfkbdgfnopokaaGreatDoor
open Go.RowKit
theorem cell_alloc {w : World} {a : Addr} {u : Value} (o : Obj) (h : w.cell? a = some u) : (w.alloc o).cell? a = some u := (World.cell?_alloc_some w a o (by rw [h]; rfl)).trans h
def tokW (w : World) (n : Nat) (K : Int) (X : ByteArray) : World := (((w.drewN n).alloc (.cells #[.int .i64 0, .string ⟨#[]⟩] 80)).setCell ⟨w.heap.size, 0, none⟩ (.int .i64 K)).setCell ⟨w.heap.size, 1, none⟩ (.string X)
theorem tokW_below (w : World) (n : Nat) (K : Int) (X : ByteArray) : Below w.heap.size w (tokW w n K X) := tok_below ((below_drewN (Below.refl _ _) n).alloc (Nat.le_refl _) _) (Nat.le_refl _) _ _
theorem tokW_blk (w : World) (n : Nat) (K : Int) (X : ByteArray) : (tokW w n K X).heap[w.heap.size]? = some (.cells #[.int .i64 K, .string X] 80 (0, 0)) := tok_stored (heap_alloc_new (w.drewN n) _) _ _
section
variable {ts : List Tk.Tok} {B g : Nat} {L : Value} {Xs : Nat → Prop} {d : Int} {st : Pr.PS}
theorem At.next2 {w0 w : World} {v0 v : Value} (h : At ts B g L Xs w0 v0 w d st v) : At ts B g L Xs w0 v0 (w.setCell ⟨g, 1, none⟩ (.int .i64 ((st.a : Int) + 1))) d st.go v := by
 have := h.next
 have e1 : ((st.a + 1 : Nat) : Int) = (st.a : Int) + 1 := by omega
 rw [e1] at this
 exact this
theorem At.tokKept {W w : World} {v v' x y : Value} {Q : Nat} (h : At ts B g L Xs W v w d st v') (hq : W.heap[Q]? = some (.cells #[x, y] 80 (0, 0))) (hg : Q ≠ g) (hv : v.ownBlock ≠ some Q) : w.cell? ⟨Q, 0, none⟩ = some x ∧ w.cell? ⟨Q, 1, none⟩ = some y := by
 have := tok_cells ((h.kb.2.2.1 Q (blk_lt hq) hg hv).trans hq)
 exact ⟨this.1, this.2.1⟩
set_option maxRecDepth 100000 in
set_option maxHeartbeats 4000000 in
theorem conSimpleOne {m : Nat} {S E : Pr.Rf} (hS : Con ts B g L 146 d S) (hE : Con ts B g L 18 d E) (hFS : Pr.Fn ts m S) (hFE : Pr.Fn ts m E) (hm : m ≤ 250) (hl : ts.length ≤ 200) (hts : Pr.Tsm ts) : Con ts B g L 165 d (Pr.simpleOne ts S E) := by
 intro st hlm hd Xs w0 v0 w v h
 have HA : Hid (At ts B g L Xs w0 v0 w d st v) := h
 obtain ⟨c0, c1, c2, c3, c4, f1, f2, f3, f4⟩ := cells5 h.rs.rg
 obtain ⟨R, hR⟩ : ∃ R, R = Pr.simpleOne ts S E st := ⟨_, rfl⟩
 rw [← hR]
 by_cases hov : st.over ts = true
 ·have HE : Hid (R = (st.fail, 0)) := by show _ = _; rw [hR, Pr.simpleOne, if_pos hov]
  obtain ⟨ad, cap, rfl, -⟩ := h.rs.tk
  clear hR hS hE hFS hFE h
  cases hb : st.bad with
  | true =>
   rw [hb] at c3
   clear hov hlm hd
   unfold me at *
   go_enter Tryz.func165, Tryz.ntmps165
   go_wp2_with fail
   go_quiet (fail)
   go_wp2
   go_ret
   rw [HE.out]
   exact ⟨v, rfl, (HA.out.drew _).fail⟩
  | false =>
   rw [hb] at c3
   have d1 : decide ((ts.length : Int) ≤ (st.a : Int)) = true := by
    unfold Pr.PS.over at hov
    rw [hb] at hov
    simp at hov
    exact decide_eq_true (by omega)
   have d1n : decide (ts.length ≤ st.a) = true := by
    unfold Pr.PS.over at hov
    rw [hb] at hov
    simpa using hov
   clear hov hlm hd
   unfold me at *
   go_enter Tryz.func165, Tryz.ntmps165
   go_wp2_with fail
   go_quiet (fail)
   go_wp2
   go_ret
   rw [HE.out]
   exact ⟨v, rfl, (HA.out.drew _).fail⟩
 ·obtain ⟨hb, hlt⟩ := Pr.over_no hov
  rw [hb] at c3
  obtain ⟨b, cap, hLe, t0, t1, hbg⟩ := h.rs.tokAt hlt
  rw [hLe] at c0
  have d1 : decide ((ts.length : Int) ≤ (st.a : Int)) = false := decide_eq_false (by omega)
  have d1n : decide (ts.length ≤ st.a) = false := decide_eq_false (by omega)
  have i1 : (st.a : Int) < (ts.length : Int) := by omega
  have i0 : (0 : Int) ≤ (st.a : Int) := by omega
  have k0 : ∀ (n : Nat) (o : Obj), ((w.drewN n).alloc o).cell? ⟨g, 0, none⟩ = _ := fun n o => cell_alloc (w := w.drewN n) o c0
  have k1 : ∀ (n : Nat) (o : Obj), ((w.drewN n).alloc o).cell? ⟨g, 1, none⟩ = _ := fun n o => cell_alloc (w := w.drewN n) o c1
  have k2 : ∀ (n : Nat) (o : Obj), ((w.drewN n).alloc o).cell? ⟨b, st.a * 2, none⟩ = _ := fun n o => cell_alloc (w := w.drewN n) o t0
  have k3 : ∀ (n : Nat) (o : Obj), ((w.drewN n).alloc o).cell? ⟨b, st.a * 2 + 1, none⟩ = _ := fun n o => cell_alloc (w := w.drewN n) o t1
  have q : ∀ n : Nat, ((w.drewN n).alloc (.cells #[.int .i64 0, .string ⟨#[]⟩] 80)).heap[w.heap.size]? = some (.cells #[.int .i64 0, .string ⟨#[]⟩] 80 (0, 0)) := fun n => heap_alloc_new (w.drewN n) _
  have q0 := fun n => (tok_cells (q n)).1
  have q1 := fun n => (tok_cells (q n)).2.1
  have q2 := fun n => (tok_cells (q n)).2.2.1
  have q3 := fun n => (tok_cells (q n)).2.2.2
  clear q
  unfold me at *
  go_enter Tryz.func165, Tryz.ntmps165
  go_wp2_with fail
  go_quiet (fail)
  go_wp2_with fail
  go_region
  go_wp2_with fail
  obtain ⟨K, hK⟩ : ∃ K, K = (st.tok ts).kind := ⟨_, rfl⟩
  obtain ⟨X, hX⟩ : ∃ X : ByteArray, X = ⟨(st.tok ts).text.toArray⟩ := ⟨_, rfl⟩
  have hbW := tokW_below w (nq + 1) (K : Int) X
  have hqW := tokW_blk w (nq + 1) (K : Int) X
  rw [← hK, ← hX]
  change Calls Tryz.prog 81 _ (tokW w (nq + 1) (K : Int) X) _
  generalize tokW w (nq + 1) (K : Int) X = W at *
  have HW : Hid (At ts B g L Xs w0 v0 W d st v) := h.below hbW
  have HKB : Hid (KB g v0 w0 W v) := HW.out.kb
  have HA0 : Hid (At ts B g L Xs W v W d st v) := ⟨HW.out.rs, KB.refl g v W⟩
  have hQg : w.heap.size ≠ g := by have := h.rs.sz; have := h.rs.low; omega
  have HQv : Hid (v.ownBlock ≠ some w.heap.size) := fun e => by have := (h.rs.np.own _ e).2; omega
  have HQ : Hid (W.heap[w.heap.size]? = some (.cells #[.int .i64 (K : Int), .string X] 80 (0, 0))) := hqW
  have HX : Hid (X = ⟨(st.tok ts).text.toArray⟩) := hX
  have HTl : Hid ((st.tok ts).text.length ≤ 600) := hts.tok st
  have hlm0 := hlm.zero hb
  have hg0 := hlm0.go hlt
  have hd30 : ¬ 30 < d := fun h => by rw [hd h] at hb; cases hb
  have HTOP : Hid (st.a ≤ ts.length) := hlm.top
  have hta : st.a ≤ 200 := by have := hlm.top; omega
  have HG0 : Hid (Pr.Lm ts 0 st.go) := hg0
  have HFS : Hid (Pr.Fn ts m S) := hFS
  have HFE : Hid (Pr.Fn ts m E) := hFE
  have CS : Hid (Step ts B g L 146 #[.pointer (some ⟨g, 0, none⟩)] d st.go (.int .i64 (S st.go).2) d (S st.go).1) := hS st.go (hg0.up (by omega)) (fun h => absurd h hd30)
  have CEx : Hid (∀ s, Pr.Lm ts 300 s → Step ts B g L 18 #[.pointer (some ⟨g, 0, none⟩)] d s (.int .i64 (E s).2) d (E s).1) := fun s hs => hE s hs (fun h => absurd h hd30)
  have hgl : st.go.out.length ≤ 1000 := by have := hg0.len; omega
  have HR : Hid (R = Pr.simpleOne ts S E st) := hR
  have hov2 : ¬ st.over ts = true := hov
  have HD : Hid (¬ 30 < d) := hd30
  clear h hR hov hbW hqW hX hlm hd hb hlt t0 t1 k0 k1 k2 k3 q0 q1 q2 q3 c0 c1 c2 c3 c4 f1 f2 f3 f4 d1 d1n i1 i0 hg0 hlm0 hd30 HW hS hE hFS hFE HA hbg
  clear hLe
  have S36 : Hid (Step ts B g L 81 #[.pointer (some ⟨g, 0, none⟩), .string ⟨#[36]⟩] d st (.bool (st.is ts 5 [36])) d (if st.is ts 5 [36] = true then st.go else st)) := stSign [36] hl (by first | exact hlm.top | exact HTOP.out)
  have S40 : Hid (Step ts B g L 81 #[.pointer (some ⟨g, 0, none⟩), .string ⟨#[40]⟩] d st (.bool (st.is ts 5 [40])) d (if st.is ts 5 [40] = true then st.go else st)) := stSign [40] hl (by first | exact hlm.top | exact HTOP.out)
  have WNF : Hid (Step ts B g L 16 #[.pointer (some ⟨g, 0, none⟩), .string ⟨#[78, 70]⟩] d st (.bool (st.is ts 1 [78, 70])) d (if st.is ts 1 [78, 70] = true then st.go else st)) := stWord [78, 70] hl (by first | exact hlm.top | exact HTOP.out)
  have WNR : Hid (Step ts B g L 16 #[.pointer (some ⟨g, 0, none⟩), .string ⟨#[78, 82]⟩] d st (.bool (st.is ts 1 [78, 82])) d (if st.is ts 1 [78, 82] = true then st.go else st)) := stWord [78, 82] hl (by first | exact hlm.top | exact HTOP.out)
  have WLEN : Hid (Step ts B g L 16 #[.pointer (some ⟨g, 0, none⟩), .string ⟨#[108, 101, 110, 103, 116, 104]⟩] d st (.bool (st.is ts 1 [108, 101, 110, 103, 116, 104])) d (if st.is ts 1 [108, 101, 110, 103, 116, 104] = true then st.go else st)) := stWord [108, 101, 110, 103, 116, 104] hl (by first | exact hlm.top | exact HTOP.out)
  cases hV36 : st.is ts 5 [36] with
  | true =>
   have HE : Hid (R = (S st.go).1.put (Pr.nd 5 [] [(S st.go).2])) := by show _ = _; rw [HR.out, Pr.simpleOne, if_neg hov2, if_pos hV36]
   have hln := ((HG0.out.fn HFS.out).len)
   rw [hV36] at S36
   generalize (S st.go).1 = s1 at *
   generalize (S st.go).2 = k1 at *
   have CP : Hid (∀ (W' : World) (v' : Value) (q : Nat), At ts B g L Xs W v W' d s1 v' → q = W'.heap.size → Calls Tryz.prog 49 #[.pointer (some ⟨g, 0, none⟩), .agg #[.int .i64 5, .string ⟨#[]⟩, .slice (some ⟨q, 0, none⟩) 1 1]] (W'.alloc (.cells #[.int .i64 k1] 3)) fun e w' => ∃ v'', e = .returned (.int .i64 R.2) ∧ At ts B g L Xs W v w' d R.1 v'') := by
    intro W' v' q h e
    subst e
    rw [HE.out]
    exact stPut 5 [] [k1] _ 1 1 W v _ v' (h.alloc _) (by omega) (kf1 h.rs k1)
   clear HE HR CEx S40 WNF WNR WLEN hV36 HFS HFE HG0
   go_wp2_with fail
   refine (S36.out _ _ _ _ _ HA0.out).mono ?_
   rintro e w1 ⟨v1, rfl, a1⟩
   have HA1 : Hid _ := a1
   clear a1
   go_wp2_with fail
   refine (CS.out _ _ _ _ _ HA1.out).mono ?_
   rintro e w2 ⟨v2, rfl, a2⟩
   have HA2 : Hid _ := a2
   clear a2
   go_wp2_with fail
   refine (CP.out _ _ _ HA2.out (by first | rfl | simp [World.setCell])).mono ?_
   rintro e w3 ⟨v3, rfl, a3⟩
   have HA3 : Hid _ := a3
   clear a3
   go_wp2
   go_ret
   exact ⟨_, rfl, HA3.out.rs, HKB.out.trans HA3.out.kb⟩
  | false =>
  rw [hV36] at S36
  cases hV40 : st.is ts 5 [40] with
  | true =>
   have HE : Hid (R = ((E st.go).1.want ts [41], (E st.go).2)) := by show _ = _; rw [HR.out, Pr.simpleOne, if_neg hov2, if_neg (by simp [hV36]), if_pos hV40]
   have CE := CEx.out st.go (HG0.out.up (by omega))
   have HCE : Hid (Step ts B g L 18 #[.pointer (some ⟨g, 0, none⟩)] d st.go (.int .i64 (E st.go).2) d (E st.go).1) := CE
   have hto := ((HG0.out.fn HFE.out).top)
   rw [hV40] at S40
   generalize (E st.go).1 = s1 at *
   generalize (E st.go).2 = k1 at *
   have CW : Hid (Step ts B g L 47 #[.pointer (some ⟨g, 0, none⟩), .string ⟨#[41]⟩] d s1 (.tuple #[]) d (s1.want ts [41])) := stWant [41] hl hto
   clear HR CEx WNF WNR WLEN hV36 hV40 HFS HFE HG0 CS CE
   go_wp2_with fail
   refine (S36.out _ _ _ _ _ HA0.out).mono ?_
   rintro e w1 ⟨v1, rfl, a1⟩
   have HA1 : Hid _ := a1
   clear a1
   go_wp2_with fail
   refine (S40.out _ _ _ _ _ HA1.out).mono ?_
   rintro e w2 ⟨v2, rfl, a2⟩
   have HA2 : Hid _ := a2
   clear a2
   go_wp2_with fail
   refine (HCE.out _ _ _ _ _ HA2.out).mono ?_
   rintro e w3 ⟨v3, rfl, a3⟩
   have HA3 : Hid _ := a3
   clear a3
   go_wp2_with fail
   refine (CW.out _ _ _ _ _ HA3.out).mono ?_
   rintro e w4 ⟨v4, rfl, a4⟩
   have HA4 : Hid _ := a4
   clear a4
   go_wp2
   go_ret
   rw [HE.out]
   exact ⟨_, rfl, HA4.out.rs, HKB.out.trans HA4.out.kb⟩
  | false =>
  rw [hV40] at S40
  have hn36 : ¬ st.is ts 5 [36] = true := by simp [hV36]
  have hn40 : ¬ st.is ts 5 [40] = true := by simp [hV40]
  clear hV36 hV40 CS HFS
  by_cases hk2 : K = 2
  ·have HE : Hid (R = st.go.put (Pr.nd 1 (st.tok ts).text [])) := by show _ = _; rw [HR.out, Pr.simpleOne, if_neg hov2, if_neg hn36, if_neg hn40, if_pos (by rw [← hK]; exact hk2)]
   have CP0 : Hid (∀ (W' : World) (v' : Value), At ts B g L Xs W v W' d st.go v' → Calls Tryz.prog 49 #[.pointer (some ⟨g, 0, none⟩), .agg #[.int .i64 1, .string ⟨((st.tok ts).text).toArray⟩, .slice none 0 0]] W' fun e w' => ∃ v'', e = .returned (.int .i64 R.2) ∧ At ts B g L Xs W v w' d R.1 v'') := by
    intro W' v' h
    rw [HE.out]
    exact stPut 1 (st.tok ts).text [] none 0 0 W v _ v' h (hgl) (kf0 _ _)
   rw [← HX.out] at CP0
   have e2 : ((K : Int) == 2) = true := beq_iff_eq.2 (by omega)
   clear HE HR CEx WNF WNR WLEN HFE HG0 hK hk2
   go_wp2_with fail
   refine (S36.out _ _ _ _ _ HA0.out).mono ?_
   rintro e w1 ⟨v1, rfl, a1⟩
   have HA1 : Hid _ := a1
   clear a1
   go_wp2_with fail
   refine (S40.out _ _ _ _ _ HA1.out).mono ?_
   rintro e w2 ⟨v2, rfl, a2⟩
   have HA2 : Hid _ := a2
   clear a2
   have HB2 : Hid (At ts B g L Xs W v w2 d st v2) := HA2.out
   obtain ⟨y0, y1⟩ := HB2.out.tokKept HQ.out hQg HQv.out
   obtain ⟨c0, c1, c2, c3, c4, f1, f2, f3, f4⟩ := cells5 HB2.out.rs.rg
   clear c0 c2 c3 c4 f2 f3 f4
   have HN2 : Hid _ := HB2.out.next2
   go_wp2_with fail
   refine (CP0.out _ _ HN2.out).mono ?_
   rintro e w3 ⟨v3, rfl, a3⟩
   have HA3 : Hid _ := a3
   clear a3
   go_wp2
   go_ret
   exact ⟨_, rfl, HA3.out.rs, HKB.out.trans HA3.out.kb⟩
  have e2 : ((K : Int) == 2) = false := beq_eq_false_iff_ne.2 (by omega)
  by_cases hk3 : K = 3
  ·have HE : Hid (R = st.go.put (Pr.nd 2 (st.tok ts).text [])) := by show _ = _; rw [HR.out, Pr.simpleOne, if_neg hov2, if_neg hn36, if_neg hn40, if_neg (by rw [← hK]; exact hk2), if_pos (by rw [← hK]; exact hk3)]
   have CP0 : Hid (∀ (W' : World) (v' : Value), At ts B g L Xs W v W' d st.go v' → Calls Tryz.prog 49 #[.pointer (some ⟨g, 0, none⟩), .agg #[.int .i64 2, .string ⟨((st.tok ts).text).toArray⟩, .slice none 0 0]] W' fun e w' => ∃ v'', e = .returned (.int .i64 R.2) ∧ At ts B g L Xs W v w' d R.1 v'') := by
    intro W' v' h
    rw [HE.out]
    exact stPut 2 (st.tok ts).text [] none 0 0 W v _ v' h (hgl) (kf0 _ _)
   rw [← HX.out] at CP0
   have e2 : ((K : Int) == 2) = false := beq_eq_false_iff_ne.2 (by omega)
   have e3 : ((K : Int) == 3) = true := beq_iff_eq.2 (by omega)
   clear HE HR CEx WNF WNR WLEN HFE HG0 hK hk3
   go_wp2_with fail
   refine (S36.out _ _ _ _ _ HA0.out).mono ?_
   rintro e w1 ⟨v1, rfl, a1⟩
   have HA1 : Hid _ := a1
   clear a1
   go_wp2_with fail
   refine (S40.out _ _ _ _ _ HA1.out).mono ?_
   rintro e w2 ⟨v2, rfl, a2⟩
   have HA2 : Hid _ := a2
   clear a2
   have HB2 : Hid (At ts B g L Xs W v w2 d st v2) := HA2.out
   obtain ⟨y0, y1⟩ := HB2.out.tokKept HQ.out hQg HQv.out
   obtain ⟨c0, c1, c2, c3, c4, f1, f2, f3, f4⟩ := cells5 HB2.out.rs.rg
   clear c0 c2 c3 c4 f2 f3 f4
   have HN2 : Hid _ := HB2.out.next2
   go_wp2_with fail
   refine (CP0.out _ _ HN2.out).mono ?_
   rintro e w3 ⟨v3, rfl, a3⟩
   have HA3 : Hid _ := a3
   clear a3
   go_wp2
   go_ret
   exact ⟨_, rfl, HA3.out.rs, HKB.out.trans HA3.out.kb⟩
  have e3 : ((K : Int) == 3) = false := beq_eq_false_iff_ne.2 (by omega)
  cases hVWNF : st.is ts 1 [78, 70] with
  | true =>
   have HE : Hid (R = st.go.put (Pr.nd 6 [] [])) := by show _ = _; rw [HR.out, Pr.simpleOne, if_neg hov2, if_neg hn36, if_neg hn40, if_neg (by rw [← hK]; exact hk2), if_neg (by rw [← hK]; exact hk3), if_pos hVWNF]
   have CP0 : Hid (∀ (W' : World) (v' : Value), At ts B g L Xs W v W' d st.go v' → Calls Tryz.prog 49 #[.pointer (some ⟨g, 0, none⟩), .agg #[.int .i64 6, .string ⟨#[]⟩, .slice none 0 0]] W' fun e w' => ∃ v'', e = .returned (.int .i64 R.2) ∧ At ts B g L Xs W v w' d R.1 v'') := by
    intro W' v' h
    rw [HE.out]
    exact stPut 6 [] [] none 0 0 W v _ v' h (hgl) (kf0 _ _)
   rw [hVWNF] at WNF
   clear HE HR CEx HFE HG0 hVWNF hK hk2 hk3
   go_wp2_with fail
   refine (S36.out _ _ _ _ _ HA0.out).mono ?_
   rintro e w1 ⟨v1, rfl, a1⟩
   have HA1 : Hid _ := a1
   clear a1
   go_wp2_with fail
   refine (S40.out _ _ _ _ _ HA1.out).mono ?_
   rintro e w2 ⟨v2, rfl, a2⟩
   have HA2 : Hid _ := a2
   clear a2
   have HB2 : Hid (At ts B g L Xs W v w2 d st v2) := HA2.out
   obtain ⟨y0, y1⟩ := HB2.out.tokKept HQ.out hQg HQv.out
   go_wp2_with fail
   refine (WNF.out _ _ _ _ _ HB2.out).mono ?_
   rintro e w3 ⟨v3, rfl, a3⟩
   have HA3 : Hid _ := a3
   clear a3
   go_wp2_with fail
   refine (CP0.out _ _ HA3.out).mono ?_
   rintro e w4 ⟨v4, rfl, a4⟩
   have HA4 : Hid _ := a4
   clear a4
   go_wp2
   go_ret
   exact ⟨_, rfl, HA4.out.rs, HKB.out.trans HA4.out.kb⟩
  | false =>
  rw [hVWNF] at WNF
  have hnWNF : ¬ st.is ts 1 [78, 70] = true := by simp [hVWNF]
  clear hVWNF
  cases hVWNR : st.is ts 1 [78, 82] with
  | true =>
   have HE : Hid (R = st.go.put (Pr.nd 7 [] [])) := by show _ = _; rw [HR.out, Pr.simpleOne, if_neg hov2, if_neg hn36, if_neg hn40, if_neg (by rw [← hK]; exact hk2), if_neg (by rw [← hK]; exact hk3), if_neg hnWNF, if_pos hVWNR]
   have CP0 : Hid (∀ (W' : World) (v' : Value), At ts B g L Xs W v W' d st.go v' → Calls Tryz.prog 49 #[.pointer (some ⟨g, 0, none⟩), .agg #[.int .i64 7, .string ⟨#[]⟩, .slice none 0 0]] W' fun e w' => ∃ v'', e = .returned (.int .i64 R.2) ∧ At ts B g L Xs W v w' d R.1 v'') := by
    intro W' v' h
    rw [HE.out]
    exact stPut 7 [] [] none 0 0 W v _ v' h (hgl) (kf0 _ _)
   rw [hVWNR] at WNR
   clear HE HR CEx HFE HG0 hVWNR hK hk2 hk3
   go_wp2_with fail
   refine (S36.out _ _ _ _ _ HA0.out).mono ?_
   rintro e w1 ⟨v1, rfl, a1⟩
   have HA1 : Hid _ := a1
   clear a1
   go_wp2_with fail
   refine (S40.out _ _ _ _ _ HA1.out).mono ?_
   rintro e w2 ⟨v2, rfl, a2⟩
   have HA2 : Hid _ := a2
   clear a2
   have HB2 : Hid (At ts B g L Xs W v w2 d st v2) := HA2.out
   obtain ⟨y0, y1⟩ := HB2.out.tokKept HQ.out hQg HQv.out
   go_wp2_with fail
   refine (WNF.out _ _ _ _ _ HB2.out).mono ?_
   rintro e w3 ⟨v3, rfl, a3⟩
   have HA3 : Hid _ := a3
   clear a3
   go_wp2_with fail
   refine (WNR.out _ _ _ _ _ HA3.out).mono ?_
   rintro e w4 ⟨v4, rfl, a4⟩
   have HA4 : Hid _ := a4
   clear a4
   go_wp2_with fail
   refine (CP0.out _ _ HA4.out).mono ?_
   rintro e w5 ⟨v5, rfl, a5⟩
   have HA5 : Hid _ := a5
   clear a5
   go_wp2
   go_ret
   exact ⟨_, rfl, HA5.out.rs, HKB.out.trans HA5.out.kb⟩
  | false =>
  rw [hVWNR] at WNR
  have hnWNR : ¬ st.is ts 1 [78, 82] = true := by simp [hVWNR]
  clear hVWNR
  cases hVL : st.is ts 1 [108, 101, 110, 103, 116, 104] with
  | true =>
   have HE : Hid (R = ((E (st.go.want ts [40])).1.want ts [41]).put (Pr.nd 8 [] [(E (st.go.want ts [40])).2])) := by show _ = _; rw [HR.out, Pr.simpleOne, if_neg hov2, if_neg hn36, if_neg hn40, if_neg (by rw [← hK]; exact hk2), if_neg (by rw [← hK]; exact hk3), if_neg hnWNF, if_neg hnWNR, if_pos hVL]
   have hw := HG0.out.want (x := [40])
   have CW1 : Hid (Step ts B g L 47 #[.pointer (some ⟨g, 0, none⟩), .string ⟨#[40]⟩] d st.go (.tuple #[]) d (st.go.want ts [40])) := stWant [40] hl HG0.out.top
   have CE := CEx.out (st.go.want ts [40]) (hw.up (by omega))
   have HCE : Hid (Step ts B g L 18 #[.pointer (some ⟨g, 0, none⟩)] d (st.go.want ts [40]) (.int .i64 (E (st.go.want ts [40])).2) d (E (st.go.want ts [40])).1) := CE
   have hf := hw.fn HFE.out
   rw [hVL] at WLEN
   generalize (E (st.go.want ts [40])).1 = s1 at *
   generalize (E (st.go.want ts [40])).2 = k1 at *
   have CW : Hid (Step ts B g L 47 #[.pointer (some ⟨g, 0, none⟩), .string ⟨#[41]⟩] d s1 (.tuple #[]) d (s1.want ts [41])) := stWant [41] hl hf.top
   have hln := (hf.want (x := [41])).len
   generalize s1.want ts [41] = s2 at *
   have CP : Hid (∀ (W' : World) (v' : Value) (q : Nat), At ts B g L Xs W v W' d s2 v' → q = W'.heap.size → Calls Tryz.prog 49 #[.pointer (some ⟨g, 0, none⟩), .agg #[.int .i64 8, .string ⟨#[]⟩, .slice (some ⟨q, 0, none⟩) 1 1]] (W'.alloc (.cells #[.int .i64 k1] 3)) fun e w' => ∃ v'', e = .returned (.int .i64 R.2) ∧ At ts B g L Xs W v w' d R.1 v'') := by
    intro W' v' q h e
    subst e
    rw [HE.out]
    exact stPut 8 [] [k1] _ 1 1 W v _ v' (h.alloc _) (by omega) (kf1 h.rs k1)
   generalize st.go.want ts [40] = s0 at *
   clear HE HR CEx HFE HG0 hVL hK hk2 hk3 CE hw hf hln
   go_wp2_with fail
   refine (S36.out _ _ _ _ _ HA0.out).mono ?_
   rintro e w1 ⟨v1, rfl, a1⟩
   have HA1 : Hid _ := a1
   clear a1
   go_wp2_with fail
   refine (S40.out _ _ _ _ _ HA1.out).mono ?_
   rintro e w2 ⟨v2, rfl, a2⟩
   have HA2 : Hid _ := a2
   clear a2
   have HB2 : Hid (At ts B g L Xs W v w2 d st v2) := HA2.out
   obtain ⟨y0, y1⟩ := HB2.out.tokKept HQ.out hQg HQv.out
   go_wp2_with fail
   refine (WNF.out _ _ _ _ _ HB2.out).mono ?_
   rintro e w3 ⟨v3, rfl, a3⟩
   have HA3 : Hid _ := a3
   clear a3
   go_wp2_with fail
   refine (WNR.out _ _ _ _ _ HA3.out).mono ?_
   rintro e w4 ⟨v4, rfl, a4⟩
   have HA4 : Hid _ := a4
   clear a4
   go_wp2_with fail
   refine (WLEN.out _ _ _ _ _ HA4.out).mono ?_
   rintro e w5 ⟨v5, rfl, a5⟩
   have HA5 : Hid _ := a5
   clear a5
   go_wp2_with fail
   refine (CW1.out _ _ _ _ _ HA5.out).mono ?_
   rintro e w6 ⟨v6, rfl, a6⟩
   have HA6 : Hid _ := a6
   clear a6
   go_wp2_with fail
   refine (HCE.out _ _ _ _ _ HA6.out).mono ?_
   rintro e w7 ⟨v7, rfl, a7⟩
   have HA7 : Hid _ := a7
   clear a7
   go_wp2_with fail
   refine (CW.out _ _ _ _ _ HA7.out).mono ?_
   rintro e w8 ⟨v8, rfl, a8⟩
   have HA8 : Hid _ := a8
   clear a8
   go_wp2_with fail
   refine (CP.out _ _ _ HA8.out (by first | rfl | simp [World.setCell])).mono ?_
   rintro e w9 ⟨v9, rfl, a9⟩
   have HA9 : Hid _ := a9
   clear a9
   go_wp2
   go_ret
   exact ⟨_, rfl, HA9.out.rs, HKB.out.trans HA9.out.kb⟩
  | false =>
  rw [hVL] at WLEN
  have hnL : ¬ st.is ts 1 [108, 101, 110, 103, 116, 104] = true := by simp [hVL]
  clear hVL
  have CNM : Hid (∀ w, Calls Tryz.prog 108 #[.string X] w fun e w' => e = .returned (.bool (Pg.name (st.tok ts).text)) ∧ Below w.heap.size w w') := fun w => by
   have := spName X w (by rw [HX.out]; show (st.tok ts).text.length ≤ _; have := HTl.out; omega)
   rw [HX.out] at this ⊢
   exact this
  by_cases hk1 : K = 1
  ·have e1 : ((K : Int) == 1) = true := beq_iff_eq.2 (by omega)
   cases hNM : Pg.name (st.tok ts).text with
   | false =>
    rw [hNM] at CNM
    have HE : Hid (R = (st.fail, 0)) := by show _ = _; rw [HR.out, Pr.simpleOne, if_neg hov2, if_neg hn36, if_neg hn40, if_neg (by rw [← hK]; exact hk2), if_neg (by rw [← hK]; exact hk3), if_neg hnWNF, if_neg hnWNR, if_neg hnL, if_neg (by simp [hNM])]
    clear HR CEx HFE HG0 hK hk1 hk2 hk3 hNM
    go_wp2_with fail
    refine (S36.out _ _ _ _ _ HA0.out).mono ?_
    rintro e w1 ⟨v1, rfl, a1⟩
    have HA1 : Hid _ := a1
    clear a1
    go_wp2_with fail
    refine (S40.out _ _ _ _ _ HA1.out).mono ?_
    rintro e w2 ⟨v2, rfl, a2⟩
    have HA2 : Hid _ := a2
    clear a2
    have HB2 : Hid (At ts B g L Xs W v w2 d st v2) := HA2.out
    obtain ⟨y0, y1⟩ := HB2.out.tokKept HQ.out hQg HQv.out
    go_wp2_with fail
    refine (WNF.out _ _ _ _ _ HB2.out).mono ?_
    rintro e w3 ⟨v3, rfl, a3⟩
    have HA3 : Hid _ := a3
    clear a3
    go_wp2_with fail
    refine (WNR.out _ _ _ _ _ HA3.out).mono ?_
    rintro e w4 ⟨v4, rfl, a4⟩
    have HA4 : Hid _ := a4
    clear a4
    go_wp2_with fail
    refine (WLEN.out _ _ _ _ _ HA4.out).mono ?_
    rintro e w5 ⟨v5, rfl, a5⟩
    have HA5 : Hid _ := a5
    clear a5
    have HB5 : Hid (At ts B g L Xs W v w5 d st v5) := HA5.out
    clear y0 y1
    obtain ⟨y0, y1⟩ := HB5.out.tokKept HQ.out hQg HQv.out
    go_wp2_with fail
    refine (CNM.out _).mono ?_
    rintro e w6 ⟨rfl, b6⟩
    have HA6 : Hid _ := HB5.out.below b6
    clear b6
    obtain ⟨c0, c1, c2, c3, c4, f1, f2, f3, f4⟩ := cells5 HA6.out.rs.rg
    clear c0 c2 c3 c4 f2 f3 f4
    obtain ⟨-, -, -, g3, -, -, -, h3, -⟩ := cells5 HA6.out.rs.rg
    go_wp2
    go_ret
    rw [HE.out]
    exact ⟨_, rfl, (HA6.out.fail).rs, HKB.out.trans (HA6.out.fail).kb⟩
   | true =>
    rw [hNM] at CNM
    have hlb : Pr.simpleOne ts S E st = (if st.go.is ts 5 [91] = true then ((E st.go.go).1.want ts [93]).put (Pr.nd 4 (st.tok ts).text [(E st.go.go).2]) else st.go.put (Pr.nd 3 (st.tok ts).text [])) := by
     rw [← HR.out, HR.out, Pr.simpleOne, if_neg hov2, if_neg hn36, if_neg hn40, if_neg (by rw [← hK]; exact hk2), if_neg (by rw [← hK]; exact hk3), if_neg hnWNF, if_neg hnWNR, if_neg hnL, if_pos ⟨by rw [← hK]; exact hk1, hNM⟩]
    have S91 : Hid (Step ts B g L 81 #[.pointer (some ⟨g, 0, none⟩), .string ⟨#[91]⟩] d st.go (.bool (st.go.is ts 5 [91])) d (if st.go.is ts 5 [91] = true then st.go.go else st.go)) := stSign [91] hl HG0.out.top
    cases hV91 : st.go.is ts 5 [91] with
    | false =>
     have HE : Hid (R = st.go.put (Pr.nd 3 (st.tok ts).text [])) := by show _ = _; rw [HR.out, hlb, if_neg (by simp [hV91])]
     have CP0 : Hid (∀ (W' : World) (v' : Value), At ts B g L Xs W v W' d st.go v' → Calls Tryz.prog 49 #[.pointer (some ⟨g, 0, none⟩), .agg #[.int .i64 3, .string ⟨((st.tok ts).text).toArray⟩, .slice none 0 0]] W' fun e w' => ∃ v'', e = .returned (.int .i64 R.2) ∧ At ts B g L Xs W v w' d R.1 v'') := by
      intro W' v' h
      rw [HE.out]
      exact stPut 3 (st.tok ts).text [] none 0 0 W v _ v' h (hgl) (kf0 _ _)
     rw [← HX.out] at CP0
     rw [hV91] at S91
     clear HE HR CEx HFE HG0 hK hk1 hk2 hk3 hNM hlb hV91
     go_wp2_with fail
     refine (S36.out _ _ _ _ _ HA0.out).mono ?_
     rintro e w1 ⟨v1, rfl, a1⟩
     have HA1 : Hid _ := a1
     clear a1
     go_wp2_with fail
     refine (S40.out _ _ _ _ _ HA1.out).mono ?_
     rintro e w2 ⟨v2, rfl, a2⟩
     have HA2 : Hid _ := a2
     clear a2
     have HB2 : Hid (At ts B g L Xs W v w2 d st v2) := HA2.out
     obtain ⟨y0, y1⟩ := HB2.out.tokKept HQ.out hQg HQv.out
     go_wp2_with fail
     refine (WNF.out _ _ _ _ _ HB2.out).mono ?_
     rintro e w3 ⟨v3, rfl, a3⟩
     have HA3 : Hid _ := a3
     clear a3
     go_wp2_with fail
     refine (WNR.out _ _ _ _ _ HA3.out).mono ?_
     rintro e w4 ⟨v4, rfl, a4⟩
     have HA4 : Hid _ := a4
     clear a4
     go_wp2_with fail
     refine (WLEN.out _ _ _ _ _ HA4.out).mono ?_
     rintro e w5 ⟨v5, rfl, a5⟩
     have HA5 : Hid _ := a5
     clear a5
     have HB5 : Hid (At ts B g L Xs W v w5 d st v5) := HA5.out
     clear y0 y1
     obtain ⟨y0, y1⟩ := HB5.out.tokKept HQ.out hQg HQv.out
     go_wp2_with fail
     refine (CNM.out _).mono ?_
     rintro e w6 ⟨rfl, b6⟩
     have HA6 : Hid _ := HB5.out.below b6
     clear b6
     obtain ⟨c0, c1, c2, c3, c4, f1, f2, f3, f4⟩ := cells5 HA6.out.rs.rg
     clear c0 c2 c3 c4 f2 f3 f4
     have HN6 : Hid _ := HA6.out.next2
     go_wp2_with fail
     refine (S91.out _ _ _ _ _ HN6.out).mono ?_
     rintro e w7 ⟨v7, rfl, a7⟩
     have HA7 : Hid _ := a7
     clear a7
     clear y0 y1
     obtain ⟨y0, y1⟩ := HA7.out.tokKept HQ.out hQg HQv.out
     go_wp2_with fail
     refine (CP0.out _ _ HA7.out).mono ?_
     rintro e w8 ⟨v8, rfl, a8⟩
     have HA8 : Hid _ := a8
     clear a8
     go_wp2
     go_ret
     exact ⟨_, rfl, HA8.out.rs, HKB.out.trans HA8.out.kb⟩
    | true =>
     have HE : Hid (R = ((E st.go.go).1.want ts [93]).put (Pr.nd 4 (st.tok ts).text [(E st.go.go).2])) := by show _ = _; rw [HR.out, hlb, if_pos hV91]
     have hgg := HG0.out.go (Pr.is_lt hV91).1
     have CE := CEx.out st.go.go (hgg.up (by omega))
     have HCE : Hid (Step ts B g L 18 #[.pointer (some ⟨g, 0, none⟩)] d st.go.go (.int .i64 (E st.go.go).2) d (E st.go.go).1) := CE
     have hf := hgg.fn HFE.out
     rw [hV91] at S91
     generalize (E st.go.go).1 = s1 at *
     generalize (E st.go.go).2 = k1 at *
     have CW : Hid (Step ts B g L 47 #[.pointer (some ⟨g, 0, none⟩), .string ⟨#[93]⟩] d s1 (.tuple #[]) d (s1.want ts [93])) := stWant [93] hl hf.top
     have hln := (hf.want (x := [93])).len
     generalize s1.want ts [93] = s2 at *
     have CP : Hid (∀ (W' : World) (v' : Value) (q : Nat), At ts B g L Xs W v W' d s2 v' → q = W'.heap.size → Calls Tryz.prog 49 #[.pointer (some ⟨g, 0, none⟩), .agg #[.int .i64 4, .string ⟨((st.tok ts).text).toArray⟩, .slice (some ⟨q, 0, none⟩) 1 1]] (W'.alloc (.cells #[.int .i64 k1] 3)) fun e w' => ∃ v'', e = .returned (.int .i64 R.2) ∧ At ts B g L Xs W v w' d R.1 v'') := by
      intro W' v' q h e
      subst e
      rw [HE.out]
      exact stPut 4 (st.tok ts).text [k1] _ 1 1 W v _ v' (h.alloc _) (by omega) (kf1 h.rs k1)
     rw [← HX.out] at CP
     clear HE HR CEx HFE HG0 hK hk1 hk2 hk3 hNM hlb hV91 CE hgg hf hln
     go_wp2_with fail
     refine (S36.out _ _ _ _ _ HA0.out).mono ?_
     rintro e w1 ⟨v1, rfl, a1⟩
     have HA1 : Hid _ := a1
     clear a1
     go_wp2_with fail
     refine (S40.out _ _ _ _ _ HA1.out).mono ?_
     rintro e w2 ⟨v2, rfl, a2⟩
     have HA2 : Hid _ := a2
     clear a2
     have HB2 : Hid (At ts B g L Xs W v w2 d st v2) := HA2.out
     obtain ⟨y0, y1⟩ := HB2.out.tokKept HQ.out hQg HQv.out
     go_wp2_with fail
     refine (WNF.out _ _ _ _ _ HB2.out).mono ?_
     rintro e w3 ⟨v3, rfl, a3⟩
     have HA3 : Hid _ := a3
     clear a3
     go_wp2_with fail
     refine (WNR.out _ _ _ _ _ HA3.out).mono ?_
     rintro e w4 ⟨v4, rfl, a4⟩
     have HA4 : Hid _ := a4
     clear a4
     go_wp2_with fail
     refine (WLEN.out _ _ _ _ _ HA4.out).mono ?_
     rintro e w5 ⟨v5, rfl, a5⟩
     have HA5 : Hid _ := a5
     clear a5
     have HB5 : Hid (At ts B g L Xs W v w5 d st v5) := HA5.out
     clear y0 y1
     obtain ⟨y0, y1⟩ := HB5.out.tokKept HQ.out hQg HQv.out
     go_wp2_with fail
     refine (CNM.out _).mono ?_
     rintro e w6 ⟨rfl, b6⟩
     have HA6 : Hid _ := HB5.out.below b6
     clear b6
     obtain ⟨c0, c1, c2, c3, c4, f1, f2, f3, f4⟩ := cells5 HA6.out.rs.rg
     clear c0 c2 c3 c4 f2 f3 f4
     have HN6 : Hid _ := HA6.out.next2
     go_wp2_with fail
     refine (S91.out _ _ _ _ _ HN6.out).mono ?_
     rintro e w7 ⟨v7, rfl, a7⟩
     have HA7 : Hid _ := a7
     clear a7
     go_wp2_with fail
     refine (HCE.out _ _ _ _ _ HA7.out).mono ?_
     rintro e w8 ⟨v8, rfl, a8⟩
     have HA8 : Hid _ := a8
     clear a8
     go_wp2_with fail
     refine (CW.out _ _ _ _ _ HA8.out).mono ?_
     rintro e w9 ⟨v9, rfl, a9⟩
     have HA9 : Hid _ := a9
     clear a9
     clear y0 y1
     obtain ⟨y0, y1⟩ := HA9.out.tokKept HQ.out hQg HQv.out
     go_wp2_with fail
     refine (CP.out _ _ _ HA9.out (by first | rfl | simp [World.setCell])).mono ?_
     rintro e w10 ⟨v10, rfl, a10⟩
     have HA10 : Hid _ := a10
     clear a10
     go_wp2
     go_ret
     exact ⟨_, rfl, HA10.out.rs, HKB.out.trans HA10.out.kb⟩
  ·have e1 : ((K : Int) == 1) = false := beq_eq_false_iff_ne.2 (by omega)
   have HE : Hid (R = (st.fail, 0)) := by show _ = _; rw [HR.out, Pr.simpleOne, if_neg hov2, if_neg hn36, if_neg hn40, if_neg (by rw [← hK]; exact hk2), if_neg (by rw [← hK]; exact hk3), if_neg hnWNF, if_neg hnWNR, if_neg hnL, if_neg (by rw [← hK]; simp [hk1])]
   clear HR CEx HFE HG0 hK hk1 hk2 hk3 CNM
   go_wp2_with fail
   refine (S36.out _ _ _ _ _ HA0.out).mono ?_
   rintro e w1 ⟨v1, rfl, a1⟩
   have HA1 : Hid _ := a1
   clear a1
   go_wp2_with fail
   refine (S40.out _ _ _ _ _ HA1.out).mono ?_
   rintro e w2 ⟨v2, rfl, a2⟩
   have HA2 : Hid _ := a2
   clear a2
   have HB2 : Hid (At ts B g L Xs W v w2 d st v2) := HA2.out
   obtain ⟨y0, y1⟩ := HB2.out.tokKept HQ.out hQg HQv.out
   go_wp2_with fail
   refine (WNF.out _ _ _ _ _ HB2.out).mono ?_
   rintro e w3 ⟨v3, rfl, a3⟩
   have HA3 : Hid _ := a3
   clear a3
   go_wp2_with fail
   refine (WNR.out _ _ _ _ _ HA3.out).mono ?_
   rintro e w4 ⟨v4, rfl, a4⟩
   have HA4 : Hid _ := a4
   clear a4
   go_wp2_with fail
   refine (WLEN.out _ _ _ _ _ HA4.out).mono ?_
   rintro e w5 ⟨v5, rfl, a5⟩
   have HA5 : Hid _ := a5
   clear a5
   have HB5 : Hid (At ts B g L Xs W v w5 d st v5) := HA5.out
   clear y0 y1
   obtain ⟨y0, y1⟩ := HB5.out.tokKept HQ.out hQg HQv.out
   obtain ⟨-, -, -, g3, -, -, -, h3, -⟩ := cells5 HB5.out.rs.rg
   go_wp2
   go_ret
   rw [HE.out]
   exact ⟨_, rfl, (HB5.out.fail).rs, HKB.out.trans (HB5.out.fail).kb⟩
end
end Go.Proofs.YtkfkbdgfnopokaaGreatDoor
