/- The program's ReadProgram, at every text. -/
import Derived.Test.YtkfkbdgfnopokaaGreatDoorRsK
import Derived.Test.YtkfkbdgfnopokaaGreatDoorZau
import Derived.Test.YtkfkbdgfnopokaaGreatDoorZav
import Derived.Test.YtkfkbdgfnopokaaGreatDoorZaw
import Derived.Test.YtkfkbdgfnopokaaGreatDoorPrT
namespace Go.Proofs.YtkfkbdgfnopokaaGreatDoor
open Go.RowKit
namespace Ip
def read (l : List UInt8) : Option (List Pi × List Pg.Rl) :=
 if (Tk.tokens l).2 ≠ 0 then none else
 match all (Tk.tokens l).1 with
 | none => none
 | some ps => if Pg.ok (Fl.prog ps).1 (Fl.prog ps).2 = true then some (Fl.prog ps) else none
end Ip
theorem two_no {w : World} {a : Nat} {t : TypeId} {xa ya : Option Addr} {xn xc yn yc : Nat} (h : w.heap[a]? = some (.cells #[.slice xa xn xc, .slice ya yn yc] t (0, 0))) (i : Nat) (z : Int) : w.cell? ⟨a, i, none⟩ ≠ some (.int .i64 z) := by
 intro e
 rw [blk_cell h] at e
 match i, e with
 | 0, e => simp at e
 | 1, e => simp at e
 | i + 2, e => simp at e
theorem KidsAt.other {a : Nat} {w w' : World} {u : Value} {ks : List Int} (h : KidsAt w u ks) (hi : ∀ i z, w.cell? ⟨a, i, none⟩ ≠ some (.int .i64 z)) (hs : w.heap.size ≤ w'.heap.size) (hk : ∀ k, k ≠ a → w'.heap[k]? = w.heap[k]?) : KidsAt w' u ks := by
 obtain ⟨ka, kc, rfl, f⟩ := h
 refine ⟨ka, kc, rfl, fun h0 => ?_⟩
 obtain ⟨b, o, rfl, hb, hc⟩ := f h0
 have hba : b ≠ a := fun e => hi _ _ (e ▸ hc 0 h0)
 exact ⟨b, o, rfl, Nat.lt_of_lt_of_le hb hs, fun j hj => (cell_blk (hk b hba) _).trans (hc j hj)⟩
theorem PcsAt.other {a : Nat} {w w' : World} {u : Value} {ps : List Pi} (h : PcsAt w u ps) (hi : ∀ i z, w.cell? ⟨a, i, none⟩ ≠ some (.int .i64 z)) (hs : w.heap.size ≤ w'.heap.size) (hk : ∀ k, k ≠ a → w'.heap[k]? = w.heap[k]?) : PcsAt w' u ps := by
 obtain ⟨ka, kc, rfl, f⟩ := h
 refine ⟨ka, kc, rfl, fun h0 => ?_⟩
 obtain ⟨b, o, rfl, hb, hc⟩ := f h0
 have hba : b ≠ a := fun e => by
  obtain ⟨u, c0, -⟩ := hc 0 h0
  exact hi _ _ (e ▸ c0)
 refine ⟨b, o, rfl, Nat.lt_of_lt_of_le hb hs, fun j hj => ?_⟩
 obtain ⟨u, c0, c1, c2, c3⟩ := hc j hj
 exact ⟨u, (cell_blk (hk b hba) _).trans c0, (cell_blk (hk b hba) _).trans c1, (cell_blk (hk b hba) _).trans c2, c3.other hi hs hk⟩
theorem RlsAt.other {a : Nat} {w w' : World} {u : Value} {rs : List Pg.Rl} (h : RlsAt w u rs) (hi : ∀ i z, w.cell? ⟨a, i, none⟩ ≠ some (.int .i64 z)) (hs : w.heap.size ≤ w'.heap.size) (hk : ∀ k, k ≠ a → w'.heap[k]? = w.heap[k]?) : RlsAt w' u rs := by
 obtain ⟨ka, kc, rfl, f⟩ := h
 refine ⟨ka, kc, rfl, fun h0 => ?_⟩
 obtain ⟨b, o, rfl, hb, hc⟩ := f h0
 have hba : b ≠ a := fun e => hi _ _ (e ▸ (hc 0 h0).1)
 exact ⟨b, o, rfl, Nat.lt_of_lt_of_le hb hs, fun j hj => ⟨(cell_blk (hk b hba) _).trans (hc j hj).1, (cell_blk (hk b hba) _).trans (hc j hj).2.1, (cell_blk (hk b hba) _).trans (hc j hj).2.2⟩⟩
theorem TkRow.lf {B X : Nat} {w : World} {v : Value} {ts : List Tk.Tok} (h : TkRow B w v ts) (hX : w.heap.size ≤ X) : Lf X w v ts := by
 have ha := h.at
 rcases h.2 with ⟨rfl, hn⟩ | ⟨b, cap, cur, rfl, h1, hg, hcap, hmax, hsz, htake⟩
 ·exact ⟨none, 0, by rw [hn], by omega, by decide, fun h0 => by omega⟩
 ·refine ⟨_, cap, rfl, hcap, hmax, fun h0 => ?_⟩
  obtain ⟨ad, cp, e, f⟩ := ha
  obtain ⟨rfl, -, rfl⟩ : some (⟨b, 0, none⟩ : Addr) = ad ∧ ts.length = ts.length ∧ cap = cp := by simpa using e
  obtain ⟨g, e2, h2, hc⟩ := f h0
  obtain rfl : b = g := by simpa using e2
  exact ⟨b, 0, rfl, by omega, fun j hj => by rw [Nat.zero_add]; exact hc j hj⟩
theorem small_of {ps : List Pi} (h : ∀ p ∈ ps, p.text.size ≤ 600 ∧ p.kids.length ≤ 1000) : Small ps ps.length := fun i hi => by
 have hm : ps.getD i Pi.no ∈ ps := by
  rw [show ps.getD i Pi.no = ps[i] by simp [hi]]
  exact List.getElem_mem hi
 have := h _ hm
 omega
theorem TwoS.below {w w' : World} (h : TwoS w) (hl : 0 < w.heap.size) (hb : Below w.heap.size w w') : TwoS w' := (Og.of (g := w.heap.size) hb).two h hl (Nat.le_refl _)
theorem RowO.below {w w' : World} (h : RowO w) (hl : 2 < w.heap.size) (hb : Below w.heap.size w w') : RowO w' := (Og.of (g := w.heap.size) hb).row h hl (Nat.le_refl _)
def RdOwn (X : Nat) (w' : World) (R : Option (List Pi × List Pg.Rl)) (e : Ending) : Prop :=
 match R with
 | none => e = .returned (.tuple #[.agg #[.slice none 0 0, .slice none 0 0], .bool false])
 | some (ps, rs) => ∃ v rv B g, e = .returned (.tuple #[.agg #[v, rv], .bool true]) ∧ X ≤ B ∧ NQ B g (and noX rv) w' v ps ∧ RRow B w' rv rs ∧ (∀ x, rv.ownBlock = some x → v.ownBlock ≠ some x)
theorem NQ.below {B g : Nat} {Xs : Nat → Prop} {w w' : World} {v : Value} {ps : List Pi} (h : NQ B g Xs w v ps) (hb : Below w.heap.size w w') : NQ B g Xs w' v ps := h.keep (KB.below g v hb) (fun q e => hb.block q (h.np.own q e).2)
theorem RRow.below {B : Nat} {w w' : World} {v : Value} {rs : List Pg.Rl} (h : RRow B w v rs) (hb : Below w.heap.size w w') : RRow B w' v rs := h.keep (fun q e => hb.block q (World.ownsRow.lt h q e).2)
set_option maxHeartbeats 4000000 in
set_option maxRecDepth 100000 in
theorem implReadOwn (l : List UInt8) (w : World) (hs : l.length ≤ 1048576) (h2 : TwoS w) (h3 : RowO w) (lo : 0 < w.heap.size ∧ 2 < w.heap.size) :
  Calls Tryz.prog 6 #[.string ⟨l.toArray⟩] w fun e w' => RdOwn w.heap.size w' (Ip.read l) e ∧ Below w.heap.size w w' := by
 have hb0 : Below w.heap.size w (w.alloc (.cells #[.slice none 0 0, .slice none 0 0] 25)) := (Below.refl _ _).alloc (Nat.le_refl _) _
 have q0 := heap_alloc_new w (.cells #[.slice none 0 0, .slice none 0 0] 25)
 have C1 := hidOf2 (implTk2 ⟨l.toArray⟩ (w.alloc (.cells #[.slice none 0 0, .slice none 0 0] 25)) (by show l.toArray.size ≤ _; simpa using hs))
 have HT := hidOf2 (And.intro h2 (And.intro h3 lo))
 have HQ := hidOf2 (And.intro hb0 q0)
 have hz : (w.alloc (.cells #[.slice none 0 0, .slice none 0 0] 25)).heap.size = w.heap.size + 1 := by simp
 have HTL := hidOf2 (Tk.tokens_len l)
 have HTM := hidOf2 (Tk.tokens_sm l)
 obtain ⟨V, hV⟩ : ∃ V, V = Ip.read l := ⟨_, rfl⟩
 rw [← hV]
 have HVV := hidOf2 hV
 clear h2 h3 lo hb0 q0 hs hV
 obtain ⟨ts, hts⟩ : ∃ ts, ts = (Tk.tokens l).1 := ⟨_, rfl⟩
 obtain ⟨fl, hfl⟩ : ∃ fl, fl = (Tk.tokens l).2 := ⟨_, rfl⟩
 have hdl : (⟨l.toArray⟩ : ByteArray).data.toList = l := by simp
 rw [hdl, ← hts, ← hfl] at C1
 rw [← hts] at HTL HTM
 have HTS := hidOf2 (And.intro hts hfl)
 clear hts hfl hdl
 go_enter Tryz.func6, Tryz.ntmps6
 go_wp2_with fail
 refine C1.out.mono ?_
 rintro e w1 ⟨v1, rfl, hrow1, hb1⟩
 have hb1' : Below w.heap.size w w1 := HQ.out.1.trans (hb1.mono (by omega))
 have hr1 : w1.heap[w.heap.size]? = some (.cells #[.slice none 0 0, .slice none 0 0] 25 (0, 0)) := (hb1.block _ (by omega)).trans HQ.out.2
 have H1 := hidOf2 (And.intro hrow1 (And.intro hb1' hr1))
 clear hrow1 hb1 hb1' hr1 C1 HQ
 by_cases hf : fl = 0
 ·subst hf
  have qf : (((0 : Nat) : Int) != 0) = false := by simp
  have C2 := hidOf2 (rulesOf_any v1 ts w1 HTL.out (H1.out.1.lf (Nat.le_refl _)) (HT.out.1.below HT.out.2.2.1 H1.out.2.1) (HT.out.2.1.below HT.out.2.2.2 H1.out.2.1) ⟨by have := H1.out.2.1.size; have := HT.out.2.2.1; omega, by have := H1.out.2.1.size; have := HT.out.2.2.2; omega⟩)
  cases ha : Ip.all ts with
  | none =>
   rw [ha] at C2
   have HV : Hid (V = none) := by
    show _ = _
    rw [HVV.out]
    unfold Ip.read
    rw [← HTS.out.1, ← HTS.out.2, if_neg (by simp), ha]
   clear ha HVV
   go_wp2_with fail
   refine C2.out.mono ?_
   rintro e w2 ⟨rfl, hb2⟩
   have H2 := hidOf2 (And.intro ((hb2.block _ (blk_lt H1.out.2.2)).trans H1.out.2.2) (H1.out.2.1.trans (hb2.mono H1.out.2.1.size)))
   clear hb2 C2 H1
   have HRS := hidOf2 H2.out.1
   have HLW := hidOf2 H2.out.2
   obtain ⟨k0, k1⟩ := tcells2 HRS.out
   have f0 := blk_free HRS.out 0
   have f1 := blk_free HRS.out 1
   go_wp2_with fail
   refine bodyPost_ret (res_prog rfl _ _ w.heap.size _ _ rfl (stored2 HRS.out _ _)) rfl ⟨?_, (HLW.out.setCell (by show _ ≤ w.heap.size; omega) _).setCell (by show _ ≤ w.heap.size; omega) _⟩
   rw [HV.out]
   rfl
  | some ps =>
   rw [ha] at C2
   have hfine := Ip.fine_all (M := 600) ha ⟨HTL.out, HTM.out⟩
   have HVP : Hid (V = if Pg.ok (Fl.prog ps).1 (Fl.prog ps).2 = true then some (Fl.prog ps) else none) := by
    show _ = _
    rw [HVV.out]
    unfold Ip.read
    rw [← HTS.out.1, ← HTS.out.2, if_neg (by simp), ha]
   have HFN := hidOf2 hfine
   clear ha HVV hfine
   go_wp2_with fail
   refine C2.out.mono ?_
   rintro e w2 ⟨us, v2, rfl, hps, hul, hrow2, hb2, htr⟩
   subst hps
   have C3 := hidOf2 (programOf_any v2 us w2 _ hrow2 (fun t ht => (htr t ht).1) hul (by have := HFN.out.1; have := HTL.out; omega))
   obtain ⟨pp, hpp⟩ : ∃ pp, pp = Fl.prog (us.map Ru.plain) := ⟨_, rfl⟩
   rw [← hpp] at C3 HVP HFN
   have H2 := hidOf2 (And.intro ((hb2.block _ (blk_lt H1.out.2.2)).trans H1.out.2.2) (H1.out.2.1.trans (hb2.mono H1.out.2.1.size)))
   have HRL : Hid (pp.2.length ≤ 200) := by
    show _ ≤ _
    rw [hpp]
    unfold Fl.prog
    rw [Fl.prog_rl]
    simp
    exact hul
   clear hb2 C2 H1 hrow2 htr hul hpp
   go_wp2_with fail
   refine C3.out.mono ?_
   rintro e w3 ⟨nv, uv, rfl, hnp, hrr, hdf, hb3⟩
   have hal : Below w3.heap.size w3 (w3.alloc (.cells #[nv, uv] 25)) := (Below.refl _ _).alloc (Nat.le_refl _) _
   have hpc := hnp.np.at.keep hal
   have hrl := hrr.at.keep hal
   have hnq := hnp.below hal
   have hrq := hrr.below hal
   have C4 := hidOf2 (implProgOk nv uv pp.1 pp.2 (w3.alloc (.cells #[nv, uv] 25)) hpc hrl (by have := HFN.out.1; have := HTL.out; omega) (by have := HRL.out; omega) (small_of HFN.out.2))
   have hb4 : Below w2.heap.size w2 (w3.alloc (.cells #[nv, uv] 25)) := hb3.trans (hal.mono hb3.size)
   have H4 := hidOf2 (And.intro ((hb4.block _ (blk_lt H2.out.1)).trans H2.out.1) (And.intro (H2.out.2.trans (hb4.mono H2.out.2.size)) (And.intro (show _ ∧ _ ∧ _ from ⟨hnq, hrq, hdf⟩) (And.intro (show w.heap.size ≤ w2.heap.size from H2.out.2.size) (heap_alloc_new w3 (.cells #[nv, uv] 25))))))
   obtain ⟨na, nc, rfl, -⟩ := hnp.np.at
   obtain ⟨ua, uc, rfl, -⟩ := hrr.at
   obtain ⟨m0, m1⟩ := tcells2 H4.out.2.2.2.2
   clear hnp hrr hnq hrq hdf hb3 hal hpc hrl hb4 C3 H2
   go_wp2_with fail
   generalize w3.alloc (.cells #[.slice na pp.1.length nc, .slice ua pp.2.length uc] 25) = W4 at *
   refine C4.out.mono ?_
   rintro e w5 ⟨rfl, hb5⟩
   have H5 := hidOf2 (And.intro ((hb5.block _ (blk_lt H4.out.1)).trans H4.out.1) (And.intro (H4.out.2.1.trans (hb5.mono H4.out.2.1.size)) (And.intro (show _ ∧ _ ∧ _ from ⟨H4.out.2.2.1.1.below hb5, H4.out.2.2.1.2.1.below hb5, H4.out.2.2.1.2.2⟩) (And.intro H4.out.2.2.2.1 ((hb5.block _ (blk_lt H4.out.2.2.2.2)).trans H4.out.2.2.2.2)))))
   clear hb5 C4 m0 m1
   cases hok : Pg.ok pp.1 pp.2 with
   | false =>
    have HV : Hid (V = none) := by
     show _ = _
     rw [HVP.out, hok]
     rfl
    clear HVP hok
    have HRS := hidOf2 H5.out.1
    have HLW := hidOf2 H5.out.2.1
    obtain ⟨k0, k1⟩ := tcells2 HRS.out
    have f0 := blk_free HRS.out 0
    have f1 := blk_free HRS.out 1
    go_wp2_with fail
    refine bodyPost_ret (res_prog rfl _ _ w.heap.size _ _ rfl (stored2 HRS.out _ _)) rfl ⟨?_, (HLW.out.setCell (by show _ ≤ w.heap.size; omega) _).setCell (by show _ ≤ w.heap.size; omega) _⟩
    rw [HV.out]
    rfl
   | true =>
    have HV : Hid (V = some pp) := by
     show _ = _
     rw [HVP.out, hok]
     rfl
    clear HVP hok
    have HRS := hidOf2 H5.out.1
    obtain ⟨k0, k1⟩ := tcells2 HRS.out
    have f0 := blk_free HRS.out 0
    have f1 := blk_free HRS.out 1
    obtain ⟨m0, m1⟩ := tcells2 H5.out.2.2.2.2
    go_wp2_with fail
    refine bodyPost_ret (res_prog rfl _ _ w.heap.size _ _ rfl (stored2 HRS.out _ _)) rfl ⟨?_, (H5.out.2.1.setCell (by show _ ≤ w.heap.size; omega) _).setCell (by show _ ≤ w.heap.size; omega) _⟩
    rw [HV.out]
    obtain ⟨p1, p2⟩ := pp
    have hkk : ∀ k, k ≠ w.heap.size → ((w5.setCell ⟨w.heap.size, 0, none⟩ (.slice na p1.length nc)).setCell ⟨w.heap.size, 1, none⟩ (.slice ua p2.length uc)).heap[k]? = w5.heap[k]? := fun k hk => by rw [Below.heap_setCell _ _ _ _ (by show k ≠ w.heap.size; exact hk), Below.heap_setCell _ _ _ _ (by show k ≠ w.heap.size; exact hk)]
    have hle := H5.out.2.2.2.1
    refine ⟨_, _, w2.heap.size + 2, w2.heap.size + 1, rfl, by omega, ?_, ?_, H5.out.2.2.1.2.2⟩
    ·exact H5.out.2.2.1.1.other (a := w.heap.size) (by omega) (fun i z => two_no HRS.out i z) (by simp [World.setCell]) hkk
    ·exact H5.out.2.2.1.2.1.keep (fun q e => hkk q (by have := (World.ownsRow.lt H5.out.2.2.1.2.1 q e).1; omega))
 ·have qf : ((fl : Int) != 0) = true := by simp; exact hf
  have HV : Hid (V = none) := by
   show _ = _
   rw [HVV.out]
   unfold Ip.read
   rw [← HTS.out.2, if_pos hf]
  clear HVV
  obtain ⟨va, vc, rfl⟩ := H1.out.1.form
  have HH := hidOf2 H1.out.2
  clear H1
  have HRS := hidOf2 HH.out.2
  have HLW := hidOf2 HH.out.1
  obtain ⟨k0, k1⟩ := tcells2 HRS.out
  have f0 := blk_free HRS.out 0
  have f1 := blk_free HRS.out 1
  go_wp2_with fail
  refine bodyPost_ret (res_prog rfl _ _ w.heap.size _ _ rfl (stored2 HRS.out _ _)) rfl ⟨?_, (HLW.out.setCell (by show _ ≤ w.heap.size; omega) _).setCell (by show _ ≤ w.heap.size; omega) _⟩
  rw [HV.out]
  rfl
end Go.Proofs.YtkfkbdgfnopokaaGreatDoor
