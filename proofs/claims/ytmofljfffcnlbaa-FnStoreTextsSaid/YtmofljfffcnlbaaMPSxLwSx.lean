/- Drawn stores come back from their texts; drawn texts that are a store's are the bytes of it: the law. -/
import Derived.Test.YtmofljfffcnlbaaMPSxZav
import Derived.Test.YtmofljfffcnlbaaMPSxZax
import Derived.Test.YtmofljfffcnlbaaMPSxRvI
import Derived.Test.YtmofljfffcnlbaaMPSxZba
import Derived.Test.YtmofljfffcnlbaaMPSxZau
namespace Go.Proofs.Ytmofljfffcnlbaa
open Go.RowKit

/-- What is read of these bytes, whoever reads them. -/
theorem rd_any (L : List UInt8) : ∃ (P : List Vr) (R : List Cl) (O : ByteArray) (ok : Bool), StSmall P R O ∧ (ok = true → Rs.isOf L P R O) ∧ (∀ vs cs o, Rs.isOf L vs cs o → ok = true ∧ P = vs ∧ R = cs ∧ O = o) ∧ ∀ w w' e, RdO w w' L e →
    ∃ va vc ra rc, e = .returned (.tuple #[.agg #[.slice va P.length vc, .slice ra R.length rc, .string O], .bool ok]) ∧ VrAt w' (.slice va P.length vc) P ∧ ClAt w' (.slice ra R.length rc) R ∧ Below w.heap.size w w' := by
  by_cases h : ∃ vs cs o, Rs.isOf L vs cs o
  · obtain ⟨vs, cs, o, hi⟩ := h
    refine ⟨vs, cs, o, true, Rs.isOf_small hi, fun _ => hi, fun us ds p h2 => ?_, fun w w' e hr => rd_yes hi hr⟩
    obtain ⟨e1, e2, e3⟩ := Rs.isOf_one9 h2 hi
    exact ⟨rfl, e1, e2, e3⟩
  · have h' : ∀ vs cs o, ¬ Rs.isOf L vs cs o := fun vs cs o hi => h ⟨vs, cs, o, hi⟩
    refine ⟨[], [], ⟨#[]⟩, false, ⟨by simp, fun i hi => by simp at hi, by simp, fun i hi => by simp at hi, by decide⟩, fun e => by simp at e, fun vs cs o hi => absurd hi (h' vs cs o), fun w w' e hr => ?_⟩
    obtain ⟨rfl, hb⟩ := rd_no h' hr
    exact ⟨none, 0, none, 0, rfl, (show VrIn 0 0 w' (.slice none 0 0) [] from ⟨none, 0, rfl, fun h => by simp at h⟩).at, (show ClIn 0 0 w' (.slice none 0 0) [] from ⟨none, 0, rfl, fun h => by simp at h⟩).at, hb⟩
theorem cells3x {W : World} {b : Nat} {u0 u1 u2 : Value} {t : TypeId} (h : W.heap[b]? = some (.cells #[u0, u1, u2] t (0, 0))) : W.cell? ⟨b, 0, none⟩ = some u0 ∧ W.cell? ⟨b, 1, none⟩ = some u1 ∧ W.cell? ⟨b, 2, none⟩ = some u2 :=
  ⟨(blk_cell h 0).trans rfl, (blk_cell h 1).trans rfl, (blk_cell h 2).trans rfl⟩

set_option maxHeartbeats 8000000 in
set_option maxRecDepth 100000 in
theorem lawStoreTexts (ad : Option Addr) (n cap : Nat) (w : World) (hc : n ≤ 1048576 → Code w ad n) :
    Calls Try.prog 3 #[.slice ad n cap] w fun e w' => e = .returned (.bool true) ∧ Below w.heap.size w w' := by
  by_cases hbig : 1048576 < n
  · have CB : Hid (∀ w, Calls Try.prog 4 #[.slice ad n cap] w fun e w' => e = .returned (.bool true) ∧ w' = w) := big_yes ad n cap hbig
    clear hc
    go_enter Try.func3, Try.ntmps3
    go_wp2_with fail
    refine (CB.out _).mono ?_
    rintro e w' ⟨rfl, rfl⟩
    go_wp2
    go_ret
    exact ⟨rfl, Below.refl _ _⟩
  have CB : Hid (∀ w, Calls Try.prog 4 #[.slice ad n cap] w fun e w' => e = .returned (.bool false) ∧ w' = w) := big_no ad n cap hbig
  have HC : Hid (Code w ad n) := hc (by omega)
  have hn : n ≤ 1048576 := by omega
  clear hc hbig
  go_enter Try.func3, Try.ntmps3
  go_wp2_with fail
  refine (CB.out _).mono ?_
  rintro e w0 ⟨rfl, rfl⟩
  clear CB
  have C1 := hidOf8 (dStoreText_any ad n cap w0 hn HC.out)
  go_wp2_with fail
  refine C1.out.mono ?_
  rintro e w1 ⟨ua, uc, xa, xc, vs, cs, o, rfl, hv, hx, hs, hb1⟩
  have q1 := heap_alloc_new w1 (.cells #[.slice ua vs.length uc, .slice xa cs.length xc, .string o] 27)
  have u1 : Below w1.heap.size w1 (w1.alloc (.cells #[.slice ua vs.length uc, .slice xa cs.length xc, .string o] 27)) := (Below.refl _ _).alloc (Nat.le_refl _) _
  have HS1 := hidOf8 hs
  have H1 := hidOf8 (And.intro q1 (And.intro (hb1.trans (u1.mono hb1.size)) (And.intro (hv.keep u1) (hx.keep u1))))
  obtain ⟨S, V, hS, hSz, hV, hSb⟩ := St.text_form vs cs o
  have HV := hidOf8 (And.intro hSz (And.intro hV hSb))
  have C2 : Hid (Calls Try.prog 6 #[.agg #[.slice ua vs.length uc, .slice xa cs.length xc, .string o]] (w1.alloc (.cells #[.slice ua vs.length uc, .slice xa cs.length xc, .string o] 27)) fun e w' => e = .returned (.tuple #[.string S, .bool V]) ∧ Below (w1.alloc (.cells #[.slice ua vs.length uc, .slice xa cs.length xc, .string o] 27)).heap.size (w1.alloc (.cells #[.slice ua vs.length uc, .slice xa cs.length xc, .string o] 27)) w') := by
    have := imStoreText _ _ o vs cs _ H1.out.2.2.1 H1.out.2.2.2 HS1.out
    rw [hS] at this
    exact this
  clear q1 u1 hb1 hv hx hs hS hSz hV hSb C1
  go_wp2_with fail
  generalize w1.alloc (.cells #[.slice ua vs.length uc, .slice xa cs.length xc, .string o] 27) = W1 at *
  generalize w1.heap.size = ga at *
  refine C2.out.mono ?_
  rintro e w2 ⟨rfl, hb2⟩
  have K1 : Hid (∀ W, Below W1.heap.size W1 W → W.heap[ga]? = some (.cells #[.slice ua vs.length uc, .slice xa cs.length xc, .string o] 27 (0, 0)) ∧ Below w0.heap.size w0 W ∧ VrAt W (.slice ua vs.length uc) vs ∧ ClAt W (.slice xa cs.length xc) cs) := fun W hb =>
    ⟨(hb.block _ (blk_lt H1.out.1)).trans H1.out.1, H1.out.2.1.trans (hb.mono H1.out.2.1.size), H1.out.2.2.1.keep hb, H1.out.2.2.2.keep hb⟩
  have B2 := hidOf8 hb2
  clear hb2 C2 H1
  obtain ⟨P, R, O, ok, hP, -, hPu, HP⟩ := rd_any S.data.toList
  have HPP := hidOf8 (And.intro hP hPu)
  have HPR := hidOf8 HP
  have C3 := hidOf8 (imReadStore S w2 (by have := HV.out.1; omega))
  clear hP hPu HP
  go_wp2_with fail
  refine C3.out.mono ?_
  rintro e w3 h3
  obtain ⟨pa, pc, ra, rc, rfl, hp3, hr3, hb3⟩ := HPR.out _ _ _ h3
  have q3 := heap_alloc_new w3 (.cells #[.slice pa P.length pc, .slice ra R.length rc, .string O] 27)
  have u3 : Below w3.heap.size w3 (w3.alloc (.cells #[.slice pa P.length pc, .slice ra R.length rc, .string O] 27)) := (Below.refl _ _).alloc (Nat.le_refl _) _
  have b13 := B2.out.trans (hb3.mono B2.out.size)
  have H3 := hidOf8 (And.intro q3 (And.intro (b13.trans (u3.mono b13.size)) (And.intro (hp3.keep u3) (hr3.keep u3))))
  have C4 := hidOf8 (dReadStore_any ad n cap (w3.alloc (.cells #[.slice pa P.length pc, .slice ra R.length rc, .string O] 27)) hn (HC.out.keep (K1.out _ H3.out.2.1).2.1))
  clear h3 q3 u3 b13 hp3 hr3 hb3 B2 C3 HPR HC
  go_wp2_with fail
  generalize w3.alloc (.cells #[.slice pa P.length pc, .slice ra R.length rc, .string O] 27) = W3 at *
  generalize w3.heap.size = gb at *
  refine C4.out.mono ?_
  rintro e w4 ⟨U, rfl, hU, hb4⟩
  have K3 : Hid (∀ W, Below W3.heap.size W3 W → W.heap[gb]? = some (.cells #[.slice pa P.length pc, .slice ra R.length rc, .string O] 27 (0, 0)) ∧ Below W1.heap.size W1 W ∧ VrAt W (.slice pa P.length pc) P ∧ ClAt W (.slice ra R.length rc) R) := fun W hb =>
    ⟨(hb.block _ (blk_lt H3.out.1)).trans H3.out.1, H3.out.2.1.trans (hb.mono H3.out.2.1.size), H3.out.2.2.1.keep hb, H3.out.2.2.2.keep hb⟩
  have B4 := hidOf8 hb4
  have HU := hidOf8 hU
  clear hb4 C4 H3 hU
  obtain ⟨P2, R2, O2, may, hP2, hPo, -, HP2⟩ := rd_any U.data.toList
  have HPP2 := hidOf8 (And.intro hP2 hPo)
  have HPR2 := hidOf8 HP2
  have C5 := hidOf8 (imReadStore U w4 (by have := HU.out; omega))
  clear hP2 hPo HP2
  go_wp2_with fail
  refine C5.out.mono ?_
  rintro e w5 h5
  obtain ⟨pa2, pc2, ra2, rc2, rfl, hp5, hr5, hb5⟩ := HPR2.out _ _ _ h5
  have q5 := heap_alloc_new w5 (.cells #[.slice pa2 P2.length pc2, .slice ra2 R2.length rc2, .string O2] 27)
  have u5 : Below w5.heap.size w5 (w5.alloc (.cells #[.slice pa2 P2.length pc2, .slice ra2 R2.length rc2, .string O2] 27)) := (Below.refl _ _).alloc (Nat.le_refl _) _
  have b15 := B4.out.trans (hb5.mono B4.out.size)
  have H5 := hidOf8 (And.intro q5 (And.intro (b15.trans (u5.mono b15.size)) (And.intro (hp5.keep u5) (hr5.keep u5))))
  have C6 := hidOf8 (spReadStoreOwn U (w5.alloc (.cells #[.slice pa2 P2.length pc2, .slice ra2 R2.length rc2, .string O2] 27)) (by have := HU.out; omega))
  clear h5 q5 u5 b15 hp5 hr5 hb5 B4 C5
  go_wp2_with fail
  generalize w5.alloc (.cells #[.slice pa2 P2.length pc2, .slice ra2 R2.length rc2, .string O2] 27) = W5 at *
  generalize w5.heap.size = gc at *
  refine C6.out.mono ?_
  rintro e w6 h6
  obtain ⟨pa3, pc3, ra3, rc3, rfl, -, -, hb6⟩ := HPR2.out _ _ _ h6
  have K5 : Hid (∀ W, Below W5.heap.size W5 W → W.heap[gc]? = some (.cells #[.slice pa2 P2.length pc2, .slice ra2 R2.length rc2, .string O2] 27 (0, 0)) ∧ Below W3.heap.size W3 W ∧ VrAt W (.slice pa2 P2.length pc2) P2 ∧ ClAt W (.slice ra2 R2.length rc2) R2) := fun W hb =>
    ⟨(hb.block _ (blk_lt H5.out.1)).trans H5.out.1, H5.out.2.1.trans (hb.mono H5.out.2.1.size), H5.out.2.2.1.keep hb, H5.out.2.2.2.keep hb⟩
  have u6 : Below w6.heap.size w6 (w6.alloc (.cells #[.slice pa3 P2.length pc3, .slice ra3 R2.length rc3, .string O2] 27)) := (Below.refl _ _).alloc (Nat.le_refl _) _
  have B6 := hidOf8 (hb6.trans (u6.mono hb6.size))
  obtain ⟨z0, z1, z2⟩ := cells3x (K5.out _ B6.out).1
  obtain ⟨S2, V2, hS2, -, hV2, hSb2⟩ := St.text_form P2 R2 O2
  have C7 : Hid (Calls Try.prog 6 #[.agg #[.slice pa2 P2.length pc2, .slice ra2 R2.length rc2, .string O2]] (w6.alloc (.cells #[.slice pa3 P2.length pc3, .slice ra3 R2.length rc3, .string O2] 27)) fun e w' => e = .returned (.tuple #[.string S2, .bool V2]) ∧ Below (w6.alloc (.cells #[.slice pa3 P2.length pc3, .slice ra3 R2.length rc3, .string O2] 27)).heap.size (w6.alloc (.cells #[.slice pa3 P2.length pc3, .slice ra3 R2.length rc3, .string O2] 27)) w') := by
    have := imStoreText _ _ O2 P2 R2 _ (K5.out _ B6.out).2.2.1 (K5.out _ B6.out).2.2.2 HPP2.out.1
    rw [hS2] at this
    exact this
  have EQT : Hid (may = true → (S2.toList == U.toList) = true) := fun hm => by
    obtain ⟨g1, g2⟩ := HPP2.out.2 hm
    have e1 := (hSb2 (hV2.trans g1)).trans g2
    have e2 : S2 = U := by
      cases S2; cases U
      exact congrArg ByteArray.mk (Array.toList_inj.1 e1)
    rw [e2]
    simp
  clear h6 u6 hb6 C6 hS2 hV2 hSb2 HPR2 HPP2 H5 HU
  go_wp2_with fail
  generalize w6.alloc (.cells #[.slice pa3 P2.length pc3, .slice ra3 R2.length rc3, .string O2] 27) = W6 at *
  generalize w6.heap.size = gd at *
  clear z0 z1 z2
  refine C7.out.mono ?_
  rintro e W7 ⟨rfl, hb7⟩
  have B7 := hidOf8 (K5.out _ (B6.out.trans (hb7.mono B6.out.size))).2.1
  clear hb7 C7 B6 K5
  have HFI : Hid (∀ W, Below W7.heap.size W7 W → Below w0.heap.size w0 W) := fun W hb => (K1.out _ (K3.out _ (B7.out.trans (hb.mono B7.out.size))).2.1).2.1
  have CSO : Hid (∀ W, Hid (Below W7.heap.size W7 W) → Calls Try.prog 10 #[.agg #[.slice ua vs.length uc, .slice xa cs.length xc, .string o]] W fun e w' => e = .returned (.bool V) ∧ Below W.heap.size W w') := fun W hb => by
    have k := K1.out _ (K3.out _ (B7.out.trans (hb.out.mono B7.out.size))).2.1
    rw [HV.out.2.1]
    exact spStoreOk _ _ o vs cs W k.2.2.1 k.2.2.2 HS1.out
  obtain ⟨ka0, ka1, ka2⟩ := cells3x (K1.out _ (K3.out _ B7.out).2.1).1
  obtain ⟨kb0, kb1, kb2⟩ := cells3x (K3.out _ B7.out).1
  cases V
  · clear HPP HV K1 K3 B7 HS1
    cases may
    · skip
      go_wp2_with fail
      refine (CSO.out W7 (hidOf8 (Below.refl _ _))).mono ?_
      rintro e W8 ⟨rfl, hb8⟩
      have B8 := hidOf8 hb8
      clear hb8 ka0 ka1 ka2 kb0 kb1 kb2 CSO
      go_wp2
      go_ret
      exact ⟨rfl, HFI.out _ B8.out⟩
    · have eqT := EQT.out rfl
      go_wp2_with fail
      refine (CSO.out W7 (hidOf8 (Below.refl _ _))).mono ?_
      rintro e W8 ⟨rfl, hb8⟩
      have B8 := hidOf8 hb8
      clear hb8 ka0 ka1 ka2 kb0 kb1 kb2 CSO
      go_wp2
      go_ret
      exact ⟨rfl, HFI.out _ B8.out⟩
  · obtain ⟨rfl, rfl, rfl, rfl⟩ := HPP.out.2 vs cs o ⟨HV.out.2.1.symm, (HV.out.2.2 rfl).symm⟩
    have CSS : Hid (∀ W, Hid (Below W7.heap.size W7 W) → Calls Try.prog 11 #[.agg #[.slice pa P.length pc, .slice ra R.length rc, .string O], .agg #[.slice ua P.length uc, .slice xa R.length xc, .string O]] W fun e w' => e = .returned (.bool true) ∧ Below W.heap.size W w') := fun W hb => by
      have k3 := K3.out _ (B7.out.trans (hb.out.mono B7.out.size))
      have k1 := K1.out _ k3.2.1
      have := specSame8 _ _ _ _ O O P P R R W k3.2.2.1 k3.2.2.2 k1.2.2.1 k1.2.2.2 HS1.out.1 HS1.out.1 HS1.out.2.2.1 HS1.out.2.2.1
      rwa [St.same_refl] at this
    clear HPP HV K1 K3 B7 HS1
    cases may
    · skip
      go_wp2_with fail
      refine (CSO.out W7 (hidOf8 (Below.refl _ _))).mono ?_
      rintro e W8 ⟨rfl, hb8⟩
      have B8 := hidOf8 hb8
      have la0 := cell_up hb8 ka0
      have la1 := cell_up hb8 ka1
      have la2 := cell_up hb8 ka2
      have lb0 := cell_up hb8 kb0
      have lb1 := cell_up hb8 kb1
      have lb2 := cell_up hb8 kb2
      clear hb8 ka0 ka1 ka2 kb0 kb1 kb2 CSO
      go_wp2_with fail
      refine (CSS.out W8 B8).mono ?_
      rintro e W9 ⟨rfl, hb9⟩
      have B9 := hidOf8 (B8.out.trans (hb9.mono B8.out.size))
      clear hb9 la0 la1 la2 lb0 lb1 lb2 CSS
      go_wp2
      go_ret
      exact ⟨rfl, HFI.out _ B9.out⟩
    · have eqT := EQT.out rfl
      go_wp2_with fail
      refine (CSO.out W7 (hidOf8 (Below.refl _ _))).mono ?_
      rintro e W8 ⟨rfl, hb8⟩
      have B8 := hidOf8 hb8
      have la0 := cell_up hb8 ka0
      have la1 := cell_up hb8 ka1
      have la2 := cell_up hb8 ka2
      have lb0 := cell_up hb8 kb0
      have lb1 := cell_up hb8 kb1
      have lb2 := cell_up hb8 kb2
      clear hb8 ka0 ka1 ka2 kb0 kb1 kb2 CSO
      go_wp2_with fail
      refine (CSS.out W8 B8).mono ?_
      rintro e W9 ⟨rfl, hb9⟩
      have B9 := hidOf8 (B8.out.trans (hb9.mono B8.out.size))
      clear hb9 la0 la1 la2 lb0 lb1 lb2 CSS
      go_wp2
      go_ret
      exact ⟨rfl, HFI.out _ B9.out⟩
end Go.Proofs.Ytmofljfffcnlbaa
