/- Two drawn stores are the same just when their texts are, where both are right: the law. -/
import Derived.Test.YtohhhhkhkgmanaaDSm
import Derived.Test.YtohhhhkhkgmanaaStX
import Derived.Test.YtohhhhkhkgmanaaOkE
import Derived.Test.YtohhhhkhkgmanaaEqB
import Derived.Test.YtohhhhkhkgmanaaBig
namespace Go.Proofs.Ytohhhhkhkgmanaa
open Go.RowKit

namespace St
/-- What StoreText answers, in parts. -/
theorem text_parts (vs : List Vr) (cs : List Cl) (o : ByteArray) : ∃ (s : ByteArray) (b : Bool), text? vs cs o = .tuple #[.string s, .bool b] ∧ (b = true → s = ⟨(bytes vs cs o).toArray⟩) := by
  unfold text?
  by_cases h : ok vs cs o = true
  · rw [if_pos h]; exact ⟨_, _, rfl, fun _ => rfl⟩
  · rw [if_neg h]; exact ⟨_, _, rfl, fun h => by cases h⟩
theorem bytes_toList (l k : List UInt8) : ((⟨l.toArray⟩ : ByteArray).toList == (⟨k.toArray⟩ : ByteArray).toList) = (l == k) := by
  simp [ByteArray.toList_eq]
end St
set_option maxHeartbeats 8000000 in
set_option maxRecDepth 100000 in
theorem lawStores (ad : Option Addr) (n cap : Nat) (w : World) (hc : n ≤ 1048576 → Code w ad n) :
    Calls Try.prog 6 #[.slice ad n cap] w fun e w' => e = .returned (.bool true) ∧ Below w.heap.size w w' := by
  by_cases hbig : 1048576 < n
  · have CB : Hid (∀ w, Calls Try.prog 7 #[.slice ad n cap] w fun e w' => e = .returned (.bool true) ∧ w' = w) := big_yes ad n cap hbig
    clear hc
    go_enter Try.func6, Try.ntmps6
    go_wp2_with fail
    refine (CB.out _).mono ?_
    rintro e w' ⟨rfl, rfl⟩
    go_wp2
    go_ret
    exact ⟨rfl, Below.refl _ _⟩
  have CB : Hid (∀ w, Calls Try.prog 7 #[.slice ad n cap] w fun e w' => e = .returned (.bool false) ∧ w' = w) := big_no ad n cap hbig
  have HC : Hid (Code w ad n) := hc (by omega)
  have hn : n ≤ 1048576 := by omega
  clear hc hbig
  go_enter Try.func6, Try.ntmps6
  go_wp2_with fail
  refine (CB.out _).mono ?_
  rintro e w0 ⟨rfl, rfl⟩
  clear CB
  go_wp2_with fail
  refine (dSame_any ad n cap w0 hn HC.out).mono ?_
  rintro e w1 ⟨ua, uc, xa, xc, vs, cs, o, ub, ud, xb, xd, us, ds, p, rfl, ha1, hb1, he1⟩
  have H1 := hidOf8 (And.intro ha1 (And.intro hb1 he1))
  clear ha1 hb1 he1
  obtain ⟨X, hX⟩ : ∃ X, X = St.same vs us cs ds o p := ⟨_, rfl⟩
  have HX := hidOf8 hX
  clear hX
  have HW2 := hidOf8 (fun A B : Obj => (((Below.refl w1.heap.size w1).alloc (Nat.le_refl _) A).alloc (by simp) B : Below w1.heap.size w1 ((w1.alloc A).alloc B)))
  have HCS : Hid (∀ W, Below w1.heap.size w1 W → Calls Try.prog 21 #[.agg #[.slice ua vs.length uc, .slice xa cs.length xc, .string o], .agg #[.slice ub us.length ud, .slice xb ds.length xd, .string p]] W fun e w' => e = .returned (.bool X) ∧ Below W.heap.size W w') := fun W hb => by
    rw [HX.out]
    exact implSame8 _ _ _ _ o p vs us cs ds W (H1.out.1.1.keep hb) (H1.out.1.2.1.keep hb) (H1.out.2.1.1.keep hb) (H1.out.2.1.2.1.keep hb) H1.out.1.2.2.1 H1.out.2.1.2.2.1 H1.out.1.2.2.2.2.1 H1.out.2.1.2.2.2.2.1
  go_wp2_with fail
  have q2a := s2_0 w1 (.cells #[.slice ua vs.length uc, .slice xa cs.length xc, .string o] 27) (.cells #[.slice ub us.length ud, .slice xb ds.length xd, .string p] 27)
  have q2b := s2_1 w1 (.cells #[.slice ua vs.length uc, .slice xa cs.length xc, .string o] 27) (.cells #[.slice ub us.length ud, .slice xb ds.length xd, .string p] 27)
  have hw2 := HW2.out (.cells #[.slice ua vs.length uc, .slice xa cs.length xc, .string o] 27) (.cells #[.slice ub us.length ud, .slice xb ds.length xd, .string p] 27)
  have C2 := hidOf8 (HCS.out _ hw2)
  have HG := hidOf8 (And.intro hw2 (And.intro q2a q2b))
  clear q2a q2b hw2 HW2
  generalize (w1.alloc (.cells #[.slice ua vs.length uc, .slice xa cs.length xc, .string o] 27)).alloc (.cells #[.slice ub us.length ud, .slice xb ds.length xd, .string p] 27) = W2 at *
  obtain ⟨ga, hga⟩ : ∃ ga, ga = w1.heap.size := ⟨_, rfl⟩
  obtain ⟨gb, hgb⟩ : ∃ gb, gb = w1.heap.size + 1 := ⟨_, rfl⟩
  have HGS : Hid (∀ W, Below W2.heap.size W2 W → (W.heap[ga]? = some (.cells #[.slice ua vs.length uc, .slice xa cs.length xc, .string o] 27 (0, 0)) ∧ W.heap[gb]? = some (.cells #[.slice ub us.length ud, .slice xb ds.length xd, .string p] 27 (0, 0))) ∧ Below w1.heap.size w1 W) := fun W hb => by
    rw [hga, hgb]
    exact ⟨⟨(hb.block _ (blk_lt HG.out.2.1)).trans HG.out.2.1, (hb.block _ (blk_lt HG.out.2.2)).trans HG.out.2.2⟩, HG.out.1.trans (hb.mono HG.out.1.size)⟩
  rw [← hgb, ← hga]
  refine C2.out.mono ?_
  rintro e w2 ⟨rfl, hb2⟩
  have HB2 := hidOf8 hb2
  clear hb2 C2 hga hgb
  go_wp2_with fail
  refine (dStoreOk_any ad n cap w2 hn (HC.out.keep (H1.out.2.2.trans ((HGS.out _ HB2.out).2.mono H1.out.2.2.size)))).mono ?_
  rintro e w3 ⟨ue, uf, xe, xf, ts, es, q, rfl, hv3, hx3, hs3, hb3⟩
  have HB3 := hidOf8 (HB2.out.trans (hb3.mono HB2.out.size))
  have HX3 := hidOf8 (And.intro hv3 (And.intro hx3 hs3))
  clear hv3 hx3 hs3 hb3 HB2 HC
  obtain ⟨W4, hW4⟩ : ∃ W4, W4 = w3.alloc (.cells #[.slice ue ts.length uf, .slice xe es.length xf, .string q] 27) := ⟨_, rfl⟩
  have hb4 : Below w3.heap.size w3 W4 := by rw [hW4]; exact (Below.refl _ _).alloc (Nat.le_refl _) _
  have q4 : W4.heap[w3.heap.size]? = some (.cells #[.slice ue ts.length uf, .slice xe es.length xf, .string q] 27 (0, 0)) := by rw [hW4]; exact heap_alloc_new _ _
  have HB4 := hidOf8 (And.intro (HB3.out.trans (hb4.mono HB3.out.size)) (And.intro q4 hb4))
  obtain ⟨sa0, sa1, sa2⟩ := cells3s (HGS.out _ HB4.out.1).1.1
  rw [hW4] at sa0 sa1 sa2
  clear hb4 q4
  go_wp2_with fail
  rw [← hW4]
  clear sa0 sa1 sa2 hW4
  obtain ⟨sA, okA, hA, hA2⟩ := St.text_parts vs cs o
  obtain ⟨sB, okB, hB, hB2⟩ := St.text_parts us ds p
  have EQT : Hid (okA = true → okB = true → (sA.toList == sB.toList) = X) := fun e1 e2 => by
    rw [hA2 e1, hB2 e2, St.bytes_toList, HX.out, St.same_bytes H1.out.1.2.2 H1.out.2.1.2.2]
  have hbw := (HGS.out _ HB4.out.1).2
  have C5 := spStoreText (.slice ua vs.length uc) (.slice xa cs.length xc) o vs cs W4 (H1.out.1.1.keep hbw) (H1.out.1.2.1.keep hbw) H1.out.1.2.2
  rw [hA] at C5
  clear hbw hA hA2
  refine C5.mono ?_
  clear C5
  rintro e w5 ⟨rfl, hb5⟩
  have HB5 := hidOf8 (And.intro (HB4.out.1.trans (hb5.mono HB4.out.1.size)) (And.intro ((hb5.block _ (blk_lt HB4.out.2.1)).trans HB4.out.2.1) (HB4.out.2.2.trans (hb5.mono HB4.out.2.2.size))))
  obtain ⟨sb0, sb1, sb2⟩ := cells3s (HGS.out _ HB5.out.1).1.2
  clear hb5 HB4
  go_wp2_with fail
  clear sb0 sb1 sb2
  have hbw := (HGS.out _ HB5.out.1).2
  have C6 := spStoreText (.slice ub us.length ud) (.slice xb ds.length xd) p us ds w5 (H1.out.2.1.1.keep hbw) (H1.out.2.1.2.1.keep hbw) H1.out.2.1.2.2
  rw [hB] at C6
  clear hbw hB hB2
  refine C6.mono ?_
  clear C6
  rintro e W5 ⟨rfl, hb6⟩
  have HB6 := hidOf8 (And.intro (HB5.out.1.trans (hb6.mono HB5.out.1.size)) (And.intro ((hb6.block _ (blk_lt HB5.out.2.1)).trans HB5.out.2.1) (HB5.out.2.2.trans (hb6.mono HB5.out.2.2.size))))
  clear hb6 HB5
  obtain ⟨Y, hY⟩ : ∃ Y, Y = St.ok ts es q := ⟨_, rfl⟩
  have hb1 := (HGS.out _ HB6.out.1).2
  have HV : Hid (∀ W, Hid (Below W5.heap.size W5 W) → (VrAt W (.slice ua vs.length uc) vs ∧ ClAt W (.slice xa cs.length xc) cs) ∧ (VrAt W (.slice ub us.length ud) us ∧ ClAt W (.slice xb ds.length xd) ds) ∧ (VrAt W (.slice ue ts.length uf) ts ∧ ClAt W (.slice xe es.length xf) es)) := fun W hb => by
    have h1 := hb1.trans (hb.out.mono hb1.size)
    have h2 := HB6.out.2.2.trans (hb.out.mono HB6.out.2.2.size)
    exact ⟨⟨H1.out.1.1.keep h1, H1.out.1.2.1.keep h1⟩, ⟨H1.out.2.1.1.keep h1, H1.out.2.1.2.1.keep h1⟩, ⟨HX3.out.1.keep h2, HX3.out.2.1.keep h2⟩⟩
  have LV : Hid ((vs.length ≤ 1048576 ∧ cs.length ≤ 1048576) ∧ (us.length ≤ 1048576 ∧ ds.length ≤ 1048576)) := ⟨⟨H1.out.1.2.2.1, H1.out.1.2.2.2.2.1⟩, ⟨H1.out.2.1.2.2.1, H1.out.2.1.2.2.2.2.1⟩⟩
  have CSP : Hid (∀ W, Hid (Below W5.heap.size W5 W) → Calls Try.prog 14 #[.agg #[.slice ua vs.length uc, .slice xa cs.length xc, .string o], .agg #[.slice ub us.length ud, .slice xb ds.length xd, .string p]] W fun e w' => e = .returned (.bool X) ∧ Below W.heap.size W w') := fun W hb => by
    rw [HX.out]
    exact specSame8 _ _ _ _ o p vs us cs ds W (HV.out W hb).1.1 (HV.out W hb).1.2 (HV.out W hb).2.1.1 (HV.out W hb).2.1.2 LV.out.1.1 LV.out.2.1 LV.out.1.2 LV.out.2.2
  have CAA : Hid (∀ W, Hid (Below W5.heap.size W5 W) → Calls Try.prog 21 #[.agg #[.slice ua vs.length uc, .slice xa cs.length xc, .string o], .agg #[.slice ua vs.length uc, .slice xa cs.length xc, .string o]] W fun e w' => e = .returned (.bool true) ∧ Below W.heap.size W w') := fun W hb => by
    have := implSame8 _ _ _ _ o o vs vs cs cs W (HV.out W hb).1.1 (HV.out W hb).1.2 (HV.out W hb).1.1 (HV.out W hb).1.2 LV.out.1.1 LV.out.1.1 LV.out.1.2 LV.out.1.2
    rwa [St.same_refl] at this
  have CBA : Hid (∀ W, Hid (Below W5.heap.size W5 W) → Calls Try.prog 21 #[.agg #[.slice ub us.length ud, .slice xb ds.length xd, .string p], .agg #[.slice ua vs.length uc, .slice xa cs.length xc, .string o]] W fun e w' => e = .returned (.bool X) ∧ Below W.heap.size W w') := fun W hb => by
    have := implSame8 _ _ _ _ p o us vs ds cs W (HV.out W hb).2.1.1 (HV.out W hb).2.1.2 (HV.out W hb).1.1 (HV.out W hb).1.2 LV.out.2.1 LV.out.1.1 LV.out.2.2 LV.out.1.2
    rwa [St.same_comm us vs ds cs p o, ← HX.out] at this
  have CXI : Hid (∀ W, Hid (Below W5.heap.size W5 W) → Calls Try.prog 13 #[.agg #[.slice ue ts.length uf, .slice xe es.length xf, .string q]] W fun e w' => e = .returned (.bool Y) ∧ Below W.heap.size W w') := fun W hb => by
    rw [hY]
    exact imStoreOk _ _ q ts es W (HV.out W hb).2.2.1 (HV.out W hb).2.2.2 HX3.out.2.2
  have CXS : Hid (∀ W, Hid (Below W5.heap.size W5 W) → Calls Try.prog 24 #[.agg #[.slice ue ts.length uf, .slice xe es.length xf, .string q]] W fun e w' => e = .returned (.bool Y) ∧ Below W.heap.size W w') := fun W hb => by
    rw [hY]
    exact spStoreOk _ _ q ts es W (HV.out W hb).2.2.1 (HV.out W hb).2.2.2 HX3.out.2.2
  have HFI : Hid (∀ W, Below W5.heap.size W5 W → Below w0.heap.size w0 W) := fun W hb => H1.out.2.2.trans ((hb1.trans (hb.mono hb1.size)).mono H1.out.2.2.size)
  obtain ⟨ka0, ka1, ka2⟩ := cells3s (HGS.out _ HB6.out.1).1.1
  obtain ⟨kb0, kb1, kb2⟩ := cells3s (HGS.out _ HB6.out.1).1.2
  obtain ⟨kx0, kx1, kx2⟩ := cells3s HB6.out.2.1
  have HSS0 : Hid ((W5.drew.cell? ⟨ga, 0, none⟩ = some (.slice ua vs.length uc) ∧ W5.drew.cell? ⟨ga, 1, none⟩ = some (.slice xa cs.length xc) ∧ W5.drew.cell? ⟨ga, 2, none⟩ = some (.string o) ∧ W5.drew.cell? ⟨gb, 0, none⟩ = some (.slice ub us.length ud) ∧ W5.drew.cell? ⟨gb, 1, none⟩ = some (.slice xb ds.length xd) ∧ W5.drew.cell? ⟨gb, 2, none⟩ = some (.string p) ∧ W5.drew.cell? ⟨w3.heap.size, 0, none⟩ = some (.slice ue ts.length uf) ∧ W5.drew.cell? ⟨w3.heap.size, 1, none⟩ = some (.slice xe es.length xf) ∧ W5.drew.cell? ⟨w3.heap.size, 2, none⟩ = some (.string q)) ∧ Hid (Below W5.heap.size W5 W5.drew)) := ⟨⟨cell_up (Below.refl _ _).drew ka0, cell_up (Below.refl _ _).drew ka1, cell_up (Below.refl _ _).drew ka2, cell_up (Below.refl _ _).drew kb0, cell_up (Below.refl _ _).drew kb1, cell_up (Below.refl _ _).drew kb2, cell_up (Below.refl _ _).drew kx0, cell_up (Below.refl _ _).drew kx1, cell_up (Below.refl _ _).drew kx2⟩, (Below.refl _ _).drew⟩
  clear ka0 ka1 ka2 kb0 kb1 kb2 kx0 kx1 kx2 hY hb1 HV LV H1 HB6 HB3 HX3 HGS HG HCS
  cases okA
  · go_wp2_with fail
    refine wp_region_noPanic ?_
    refine wp_region_held_drew (S := (fun W' => (W'.cell? ⟨ga, 0, none⟩ = some (.slice ua vs.length uc) ∧ W'.cell? ⟨ga, 1, none⟩ = some (.slice xa cs.length xc) ∧ W'.cell? ⟨ga, 2, none⟩ = some (.string o) ∧ W'.cell? ⟨gb, 0, none⟩ = some (.slice ub us.length ud) ∧ W'.cell? ⟨gb, 1, none⟩ = some (.slice xb ds.length xd) ∧ W'.cell? ⟨gb, 2, none⟩ = some (.string p) ∧ W'.cell? ⟨w3.heap.size, 0, none⟩ = some (.slice ue ts.length uf) ∧ W'.cell? ⟨w3.heap.size, 1, none⟩ = some (.slice xe es.length xf) ∧ W'.cell? ⟨w3.heap.size, 2, none⟩ = some (.string q)) ∧ Hid (Below W5.heap.size W5 W'))) (by kernel_rfl) HSS0.out (fun _ => ?_)
    have HSS := hidOf8 HSS0.out
    clear HSS0
    refine wpAnyH_take (i := 0) (v := ?_) rfl (by kernel_rfl) (by kernel_rfl) (by kernel_rfl) (fun _ _ _ h => h) (Or.inl ⟨by kernel_rfl, ?_⟩) HSS.out ?_
    rotate_left
    · (intro u9 hSw; (try dsimp only at hSw); go_simp; try with_reducible rfl)
    show wpAnyH _ _ _ _ _ _ _ (Act.put _ (some 33) _) _
    (try simp only [Act.put]); (try simp only [List.setIfInBounds_toArray]); (try simp only [List.set_cons_succ, List.set_cons_zero])
    refine wpAnyH_take (i := 1) (v := ?_) rfl (by kernel_rfl) (by kernel_rfl) (by kernel_rfl) (fun _ _ _ h => h) (Or.inl ⟨by kernel_rfl, ?_⟩) HSS.out ?_
    rotate_left
    · (intro u9 hSw; (try dsimp only at hSw); go_simp; try with_reducible rfl)
    show wpAnyH _ _ _ _ _ _ _ (Act.put _ (some 34) _) _
    (try simp only [Act.put]); (try simp only [List.setIfInBounds_toArray]); (try simp only [List.set_cons_succ, List.set_cons_zero])
    refine wpAnyH_take (i := 2) (v := ?_) rfl (by kernel_rfl) (by kernel_rfl) (by kernel_rfl) (fun _ _ _ h => h) (Or.inl ⟨by kernel_rfl, ?_⟩) HSS.out ?_
    rotate_left
    · (intro u9 hSw; (try dsimp only at hSw); go_simp; try with_reducible rfl)
    show wpAnyH _ _ _ _ _ _ _ (Act.put _ (some 35) _) _
    (try simp only [Act.put]); (try simp only [List.setIfInBounds_toArray]); (try simp only [List.set_cons_succ, List.set_cons_zero])
    refine wpAnyH_ready (rs := [3]) (by kernel_rfl) (by simp) ?_
    refine AllReadyH.cons rfl (fun K hK => ?_) AllReadyH.nil
    go_simp
    go_at_call 14
    refine (CSP.out _ HSS.out.2).mono ?_
    rintro e wz ⟨rfl, hb9⟩
    have HS2 : Hid ((wz.cell? ⟨ga, 0, none⟩ = some (.slice ua vs.length uc) ∧ wz.cell? ⟨ga, 1, none⟩ = some (.slice xa cs.length xc) ∧ wz.cell? ⟨ga, 2, none⟩ = some (.string o) ∧ wz.cell? ⟨gb, 0, none⟩ = some (.slice ub us.length ud) ∧ wz.cell? ⟨gb, 1, none⟩ = some (.slice xb ds.length xd) ∧ wz.cell? ⟨gb, 2, none⟩ = some (.string p) ∧ wz.cell? ⟨w3.heap.size, 0, none⟩ = some (.slice ue ts.length uf) ∧ wz.cell? ⟨w3.heap.size, 1, none⟩ = some (.slice xe es.length xf) ∧ wz.cell? ⟨w3.heap.size, 2, none⟩ = some (.string q)) ∧ Hid (Below W5.heap.size W5 wz)) := ⟨⟨cell_up hb9 HSS.out.1.1, cell_up hb9 HSS.out.1.2.1, cell_up hb9 HSS.out.1.2.2.1, cell_up hb9 HSS.out.1.2.2.2.1, cell_up hb9 HSS.out.1.2.2.2.2.1, cell_up hb9 HSS.out.1.2.2.2.2.2.1, cell_up hb9 HSS.out.1.2.2.2.2.2.2.1, cell_up hb9 HSS.out.1.2.2.2.2.2.2.2.1, cell_up hb9 HSS.out.1.2.2.2.2.2.2.2.2⟩, HSS.out.2.out.trans (hb9.mono HSS.out.2.out.size)⟩
    dsimp only
    refine hK.out _ _ HS2.out (fun _ => ?_)
    clear hK K hb9 HSS
    have HSS := hidOf8 HS2.out
    clear HS2
    try show wpAnyH _ _ _ _ _ _ _ (Act.put _ (some 36) _) _
    (try simp only [Act.put]); (try simp only [List.setIfInBounds_toArray]); (try simp only [List.set_cons_succ, List.set_cons_zero])
    refine wpAnyH_take (i := 4) (v := .bool true) rfl (by kernel_rfl) (by kernel_rfl) (by kernel_rfl) (fun _ _ _ h => h) (Or.inl ⟨by kernel_rfl, ?_⟩) HSS.out ?_
    · (intro u9 hSw; (try dsimp only at hSw); go_simp)
    show wpAnyH _ _ _ _ _ _ _ (Act.put _ (some 37) _) _
    (try simp only [Act.put]); (try simp only [List.setIfInBounds_toArray]); (try simp only [List.set_cons_succ, List.set_cons_zero])
    refine wpAnyH_take (i := 5) (v := .bool true) rfl (by kernel_rfl) (by kernel_rfl) (by kernel_rfl) (fun _ _ _ h => h) (Or.inl ⟨by kernel_rfl, ?_⟩) HSS.out ?_
    · (intro u9 hSw; (try dsimp only at hSw); go_simp)
    show wpAnyH _ _ _ _ _ _ _ (Act.put _ (some 38) _) _
    (try simp only [Act.put]); (try simp only [List.setIfInBounds_toArray]); (try simp only [List.set_cons_succ, List.set_cons_zero])
    refine wpAnyH_take (i := 6) (v := ?_) rfl (by kernel_rfl) (by kernel_rfl) (by kernel_rfl) (fun _ _ _ h => h) (Or.inl ⟨by kernel_rfl, ?_⟩) HSS.out ?_
    rotate_left
    · (intro u9 hSw; (try dsimp only at hSw); go_simp; try with_reducible rfl)
    show wpAnyH _ _ _ _ _ _ _ (Act.put _ (some 39) _) _
    (try simp only [Act.put]); (try simp only [List.setIfInBounds_toArray]); (try simp only [List.set_cons_succ, List.set_cons_zero])
    refine wpAnyH_take (i := 7) (v := ?_) rfl (by kernel_rfl) (by kernel_rfl) (by kernel_rfl) (fun _ _ _ h => h) (Or.inl ⟨by kernel_rfl, ?_⟩) HSS.out ?_
    rotate_left
    · (intro u9 hSw; (try dsimp only at hSw); go_simp; try with_reducible rfl)
    show wpAnyH _ _ _ _ _ _ _ (Act.put _ (some 40) _) _
    (try simp only [Act.put]); (try simp only [List.setIfInBounds_toArray]); (try simp only [List.set_cons_succ, List.set_cons_zero])
    refine wpAnyH_ready (rs := [8]) (by kernel_rfl) (by simp) ?_
    refine AllReadyH.cons rfl (fun K hK => ?_) AllReadyH.nil
    go_simp
    go_at_call 21
    refine (CAA.out _ HSS.out.2).mono ?_
    rintro e wz ⟨rfl, hb9⟩
    have HS2 : Hid ((wz.cell? ⟨ga, 0, none⟩ = some (.slice ua vs.length uc) ∧ wz.cell? ⟨ga, 1, none⟩ = some (.slice xa cs.length xc) ∧ wz.cell? ⟨ga, 2, none⟩ = some (.string o) ∧ wz.cell? ⟨gb, 0, none⟩ = some (.slice ub us.length ud) ∧ wz.cell? ⟨gb, 1, none⟩ = some (.slice xb ds.length xd) ∧ wz.cell? ⟨gb, 2, none⟩ = some (.string p) ∧ wz.cell? ⟨w3.heap.size, 0, none⟩ = some (.slice ue ts.length uf) ∧ wz.cell? ⟨w3.heap.size, 1, none⟩ = some (.slice xe es.length xf) ∧ wz.cell? ⟨w3.heap.size, 2, none⟩ = some (.string q)) ∧ Hid (Below W5.heap.size W5 wz)) := ⟨⟨cell_up hb9 HSS.out.1.1, cell_up hb9 HSS.out.1.2.1, cell_up hb9 HSS.out.1.2.2.1, cell_up hb9 HSS.out.1.2.2.2.1, cell_up hb9 HSS.out.1.2.2.2.2.1, cell_up hb9 HSS.out.1.2.2.2.2.2.1, cell_up hb9 HSS.out.1.2.2.2.2.2.2.1, cell_up hb9 HSS.out.1.2.2.2.2.2.2.2.1, cell_up hb9 HSS.out.1.2.2.2.2.2.2.2.2⟩, HSS.out.2.out.trans (hb9.mono HSS.out.2.out.size)⟩
    dsimp only
    refine hK.out _ _ HS2.out (fun _ => ?_)
    clear hK K hb9 HSS
    have HSS := hidOf8 HS2.out
    clear HS2
    try show wpAnyH _ _ _ _ _ _ _ (Act.put _ (some 41) _) _
    (try simp only [Act.put]); (try simp only [List.setIfInBounds_toArray]); (try simp only [List.set_cons_succ, List.set_cons_zero])
    refine wpAnyH_take (i := 9) (v := .bool true) rfl (by kernel_rfl) (by kernel_rfl) (by kernel_rfl) (fun _ _ _ h => h) (Or.inl ⟨by kernel_rfl, ?_⟩) HSS.out ?_
    · (intro u9 hSw; (try dsimp only at hSw); go_simp)
    show wpAnyH _ _ _ _ _ _ _ (Act.put _ (some 42) _) _
    (try simp only [Act.put]); (try simp only [List.setIfInBounds_toArray]); (try simp only [List.set_cons_succ, List.set_cons_zero])
    refine wpAnyH_take (i := 10) (v := .bool true) rfl (by kernel_rfl) (by kernel_rfl) (by kernel_rfl) (fun _ _ _ h => h) (Or.inl ⟨by kernel_rfl, ?_⟩) HSS.out ?_
    · (intro u9 hSw; (try dsimp only at hSw); go_simp)
    show wpAnyH _ _ _ _ _ _ _ (Act.put _ (some 43) _) _
    (try simp only [Act.put]); (try simp only [List.setIfInBounds_toArray]); (try simp only [List.set_cons_succ, List.set_cons_zero])
    refine wpAnyH_take (i := 11) (v := ?_) rfl (by kernel_rfl) (by kernel_rfl) (by kernel_rfl) (fun _ _ _ h => h) (Or.inl ⟨by kernel_rfl, ?_⟩) HSS.out ?_
    rotate_left
    · (intro u9 hSw; (try dsimp only at hSw); go_simp; try with_reducible rfl)
    show wpAnyH _ _ _ _ _ _ _ (Act.put _ (some 44) _) _
    (try simp only [Act.put]); (try simp only [List.setIfInBounds_toArray]); (try simp only [List.set_cons_succ, List.set_cons_zero])
    refine wpAnyH_take (i := 12) (v := ?_) rfl (by kernel_rfl) (by kernel_rfl) (by kernel_rfl) (fun _ _ _ h => h) (Or.inl ⟨by kernel_rfl, ?_⟩) HSS.out ?_
    rotate_left
    · (intro u9 hSw; (try dsimp only at hSw); go_simp; try with_reducible rfl)
    show wpAnyH _ _ _ _ _ _ _ (Act.put _ (some 45) _) _
    (try simp only [Act.put]); (try simp only [List.setIfInBounds_toArray]); (try simp only [List.set_cons_succ, List.set_cons_zero])
    refine wpAnyH_take (i := 13) (v := ?_) rfl (by kernel_rfl) (by kernel_rfl) (by kernel_rfl) (fun _ _ _ h => h) (Or.inl ⟨by kernel_rfl, ?_⟩) HSS.out ?_
    rotate_left
    · (intro u9 hSw; (try dsimp only at hSw); go_simp; try with_reducible rfl)
    show wpAnyH _ _ _ _ _ _ _ (Act.put _ (some 46) _) _
    (try simp only [Act.put]); (try simp only [List.setIfInBounds_toArray]); (try simp only [List.set_cons_succ, List.set_cons_zero])
    refine wpAnyH_ready (rs := [14]) (by kernel_rfl) (by simp) ?_
    refine AllReadyH.cons rfl (fun K hK => ?_) AllReadyH.nil
    go_simp
    go_at_call 21
    refine (CBA.out _ HSS.out.2).mono ?_
    rintro e wz ⟨rfl, hb9⟩
    have HS2 : Hid ((wz.cell? ⟨ga, 0, none⟩ = some (.slice ua vs.length uc) ∧ wz.cell? ⟨ga, 1, none⟩ = some (.slice xa cs.length xc) ∧ wz.cell? ⟨ga, 2, none⟩ = some (.string o) ∧ wz.cell? ⟨gb, 0, none⟩ = some (.slice ub us.length ud) ∧ wz.cell? ⟨gb, 1, none⟩ = some (.slice xb ds.length xd) ∧ wz.cell? ⟨gb, 2, none⟩ = some (.string p) ∧ wz.cell? ⟨w3.heap.size, 0, none⟩ = some (.slice ue ts.length uf) ∧ wz.cell? ⟨w3.heap.size, 1, none⟩ = some (.slice xe es.length xf) ∧ wz.cell? ⟨w3.heap.size, 2, none⟩ = some (.string q)) ∧ Hid (Below W5.heap.size W5 wz)) := ⟨⟨cell_up hb9 HSS.out.1.1, cell_up hb9 HSS.out.1.2.1, cell_up hb9 HSS.out.1.2.2.1, cell_up hb9 HSS.out.1.2.2.2.1, cell_up hb9 HSS.out.1.2.2.2.2.1, cell_up hb9 HSS.out.1.2.2.2.2.2.1, cell_up hb9 HSS.out.1.2.2.2.2.2.2.1, cell_up hb9 HSS.out.1.2.2.2.2.2.2.2.1, cell_up hb9 HSS.out.1.2.2.2.2.2.2.2.2⟩, HSS.out.2.out.trans (hb9.mono HSS.out.2.out.size)⟩
    dsimp only
    refine hK.out _ _ HS2.out (fun _ => ?_)
    clear hK K hb9 HSS
    have HSS := hidOf8 HS2.out
    clear HS2
    try show wpAnyH _ _ _ _ _ _ _ (Act.put _ (some 47) _) _
    (try simp only [Act.put]); (try simp only [List.setIfInBounds_toArray]); (try simp only [List.set_cons_succ, List.set_cons_zero])
    refine wpAnyH_take (i := 15) (v := .bool true) rfl (by kernel_rfl) (by kernel_rfl) (by kernel_rfl) (fun _ _ _ h => h) (Or.inl ⟨by kernel_rfl, ?_⟩) HSS.out ?_
    · (intro u9 hSw; (try dsimp only at hSw); go_simp)
    show wpAnyH _ _ _ _ _ _ _ (Act.put _ (some 48) _) _
    (try simp only [Act.put]); (try simp only [List.setIfInBounds_toArray]); (try simp only [List.set_cons_succ, List.set_cons_zero])
    refine wpAnyH_take (i := 16) (v := .bool true) rfl (by kernel_rfl) (by kernel_rfl) (by kernel_rfl) (fun _ _ _ h => h) (Or.inl ⟨by kernel_rfl, ?_⟩) HSS.out ?_
    · (intro u9 hSw; (try dsimp only at hSw); go_simp)
    show wpAnyH _ _ _ _ _ _ _ (Act.put _ (some 49) _) _
    (try simp only [Act.put]); (try simp only [List.setIfInBounds_toArray]); (try simp only [List.set_cons_succ, List.set_cons_zero])
    refine wpAnyH_take (i := 17) (v := .bool true) rfl (by kernel_rfl) (by kernel_rfl) (by kernel_rfl) (fun _ _ _ h => h) (Or.inl ⟨by kernel_rfl, ?_⟩) HSS.out ?_
    · (intro u9 hSw; (try dsimp only at hSw); go_simp)
    show wpAnyH _ _ _ _ _ _ _ (Act.put _ (some 50) _) _
    (try simp only [Act.put]); (try simp only [List.setIfInBounds_toArray]); (try simp only [List.set_cons_succ, List.set_cons_zero])
    refine wpAnyH_take (i := 18) (v := ?_) rfl (by kernel_rfl) (by kernel_rfl) (by kernel_rfl) (fun _ _ _ h => h) (Or.inl ⟨by kernel_rfl, ?_⟩) HSS.out ?_
    rotate_left
    · (intro u9 hSw; (try dsimp only at hSw); go_simp; try with_reducible rfl)
    show wpAnyH _ _ _ _ _ _ _ (Act.put _ (some 51) _) _
    (try simp only [Act.put]); (try simp only [List.setIfInBounds_toArray]); (try simp only [List.set_cons_succ, List.set_cons_zero])
    refine wpAnyH_take (i := 20) (v := ?_) rfl (by kernel_rfl) (by kernel_rfl) (by kernel_rfl) (fun _ _ _ h => h) (Or.inl ⟨by kernel_rfl, ?_⟩) HSS.out ?_
    rotate_left
    · (intro u9 hSw; (try dsimp only at hSw); go_simp; try with_reducible rfl)
    show wpAnyH _ _ _ _ _ _ _ (Act.put _ (some 53) _) _
    (try simp only [Act.put]); (try simp only [List.setIfInBounds_toArray]); (try simp only [List.set_cons_succ, List.set_cons_zero])
    refine wpAnyH_ready (rs := [19]) (by kernel_rfl) (by simp) ?_
    refine AllReadyH.cons rfl (fun K hK => ?_) AllReadyH.nil
    go_simp
    go_at_call 13
    refine (CXI.out _ HSS.out.2).mono ?_
    rintro e wz ⟨rfl, hb9⟩
    have HS2 : Hid ((wz.cell? ⟨ga, 0, none⟩ = some (.slice ua vs.length uc) ∧ wz.cell? ⟨ga, 1, none⟩ = some (.slice xa cs.length xc) ∧ wz.cell? ⟨ga, 2, none⟩ = some (.string o) ∧ wz.cell? ⟨gb, 0, none⟩ = some (.slice ub us.length ud) ∧ wz.cell? ⟨gb, 1, none⟩ = some (.slice xb ds.length xd) ∧ wz.cell? ⟨gb, 2, none⟩ = some (.string p) ∧ wz.cell? ⟨w3.heap.size, 0, none⟩ = some (.slice ue ts.length uf) ∧ wz.cell? ⟨w3.heap.size, 1, none⟩ = some (.slice xe es.length xf) ∧ wz.cell? ⟨w3.heap.size, 2, none⟩ = some (.string q)) ∧ Hid (Below W5.heap.size W5 wz)) := ⟨⟨cell_up hb9 HSS.out.1.1, cell_up hb9 HSS.out.1.2.1, cell_up hb9 HSS.out.1.2.2.1, cell_up hb9 HSS.out.1.2.2.2.1, cell_up hb9 HSS.out.1.2.2.2.2.1, cell_up hb9 HSS.out.1.2.2.2.2.2.1, cell_up hb9 HSS.out.1.2.2.2.2.2.2.1, cell_up hb9 HSS.out.1.2.2.2.2.2.2.2.1, cell_up hb9 HSS.out.1.2.2.2.2.2.2.2.2⟩, HSS.out.2.out.trans (hb9.mono HSS.out.2.out.size)⟩
    dsimp only
    refine hK.out _ _ HS2.out (fun _ => ?_)
    clear hK K hb9 HSS
    have HSS := hidOf8 HS2.out
    clear HS2
    try show wpAnyH _ _ _ _ _ _ _ (Act.put _ (some 52) _) _
    (try simp only [Act.put]); (try simp only [List.setIfInBounds_toArray]); (try simp only [List.set_cons_succ, List.set_cons_zero])
    refine wpAnyH_ready (rs := [21]) (by kernel_rfl) (by simp) ?_
    refine AllReadyH.cons rfl (fun K hK => ?_) AllReadyH.nil
    go_simp
    go_at_call 24
    refine (CXS.out _ HSS.out.2).mono ?_
    rintro e wz ⟨rfl, hb9⟩
    have HS2 : Hid ((wz.cell? ⟨ga, 0, none⟩ = some (.slice ua vs.length uc) ∧ wz.cell? ⟨ga, 1, none⟩ = some (.slice xa cs.length xc) ∧ wz.cell? ⟨ga, 2, none⟩ = some (.string o) ∧ wz.cell? ⟨gb, 0, none⟩ = some (.slice ub us.length ud) ∧ wz.cell? ⟨gb, 1, none⟩ = some (.slice xb ds.length xd) ∧ wz.cell? ⟨gb, 2, none⟩ = some (.string p) ∧ wz.cell? ⟨w3.heap.size, 0, none⟩ = some (.slice ue ts.length uf) ∧ wz.cell? ⟨w3.heap.size, 1, none⟩ = some (.slice xe es.length xf) ∧ wz.cell? ⟨w3.heap.size, 2, none⟩ = some (.string q)) ∧ Hid (Below W5.heap.size W5 wz)) := ⟨⟨cell_up hb9 HSS.out.1.1, cell_up hb9 HSS.out.1.2.1, cell_up hb9 HSS.out.1.2.2.1, cell_up hb9 HSS.out.1.2.2.2.1, cell_up hb9 HSS.out.1.2.2.2.2.1, cell_up hb9 HSS.out.1.2.2.2.2.2.1, cell_up hb9 HSS.out.1.2.2.2.2.2.2.1, cell_up hb9 HSS.out.1.2.2.2.2.2.2.2.1, cell_up hb9 HSS.out.1.2.2.2.2.2.2.2.2⟩, HSS.out.2.out.trans (hb9.mono HSS.out.2.out.size)⟩
    dsimp only
    refine hK.out _ _ HS2.out (fun _ => ?_)
    clear hK K hb9 HSS
    have HSS := hidOf8 HS2.out
    clear HS2
    try show wpAnyH _ _ _ _ _ _ _ (Act.put _ (some 54) _) _
    (try simp only [Act.put]); (try simp only [List.setIfInBounds_toArray]); (try simp only [List.set_cons_succ, List.set_cons_zero])
    refine wpAnyH_take (i := 22) (v := .bool true) rfl (by kernel_rfl) (by kernel_rfl) (by kernel_rfl) (fun _ _ _ h => h) (Or.inl ⟨by kernel_rfl, ?_⟩) HSS.out ?_
    · (intro u9 hSw; (try dsimp only at hSw); go_simp)
    show wpAnyH _ _ _ _ _ _ _ (Act.put _ (some 55) _) _
    (try simp only [Act.put]); (try simp only [List.setIfInBounds_toArray]); (try simp only [List.set_cons_succ, List.set_cons_zero])
    refine wpAnyH_take (i := 23) (v := .bool true) rfl (by kernel_rfl) (by kernel_rfl) (by kernel_rfl) (fun _ _ _ h => h) (Or.inl ⟨by kernel_rfl, ?_⟩) HSS.out ?_
    · (intro u9 hSw; (try dsimp only at hSw); go_simp)
    show wpAnyH _ _ _ _ _ _ _ (Act.put _ (some 56) _) _
    (try simp only [Act.put]); (try simp only [List.setIfInBounds_toArray]); (try simp only [List.set_cons_succ, List.set_cons_zero])
    refine wpAnyH_take (i := 24) (v := .bool true) rfl (by kernel_rfl) (by kernel_rfl) (by kernel_rfl) (fun _ _ _ h => h) (Or.inl ⟨by kernel_rfl, ?_⟩) HSS.out ?_
    · (intro u9 hSw; (try dsimp only at hSw); go_simp)
    show wpAnyH _ _ _ _ _ _ _ (Act.put _ (some 57) _) _
    (try simp only [Act.put]); (try simp only [List.setIfInBounds_toArray]); (try simp only [List.set_cons_succ, List.set_cons_zero])
    refine wpAnyH_take (i := 25) (v := ?_) rfl (by kernel_rfl) (by kernel_rfl) (by kernel_rfl) (fun _ _ _ h => h) (Or.inl ⟨by kernel_rfl, ?_⟩) HSS.out ?_
    rotate_left
    · (intro u9 hSw; (try dsimp only at hSw); go_simp; try with_reducible rfl)
    show wpAnyH _ _ _ _ _ _ _ (Act.put _ (some 58) _) _
    (try simp only [Act.put]); (try simp only [List.setIfInBounds_toArray]); (try simp only [List.set_cons_succ, List.set_cons_zero])
    refine wpAnyH_take (i := 26) (v := .bool true) rfl (by kernel_rfl) (by kernel_rfl) (by kernel_rfl) (fun _ _ _ h => h) (Or.inl ⟨by kernel_rfl, ?_⟩) HSS.out ?_
    · (intro u9 hSw; (try dsimp only at hSw); go_simp)
    show wpAnyH _ _ _ _ _ _ _ (Act.put _ (some 59) _) _
    (try simp only [Act.put]); (try simp only [List.setIfInBounds_toArray]); (try simp only [List.set_cons_succ, List.set_cons_zero])
    refine wpAnyH_take (i := 27) (v := .bool true) rfl (by kernel_rfl) (by kernel_rfl) (by kernel_rfl) (fun _ _ _ h => h) (Or.inl ⟨by kernel_rfl, ?_⟩) HSS.out ?_
    · (intro u9 hSw; (try dsimp only at hSw); go_simp)
    show wpAnyH _ _ _ _ _ _ _ (Act.put _ (some 60) _) _
    (try simp only [Act.put]); (try simp only [List.setIfInBounds_toArray]); (try simp only [List.set_cons_succ, List.set_cons_zero])
    refine wpAnyH_take (i := 28) (v := undef) rfl (by kernel_rfl) (by kernel_rfl) (by kernel_rfl) (fun _ _ _ h => h) (Or.inr ⟨by kernel_rfl, rfl⟩) HSS.out ?_
    show wpAnyH _ _ _ _ _ _ _ (Act.put _ (some 61) _) _
    (try simp only [Act.put]); (try simp only [List.setIfInBounds_toArray]); (try simp only [List.set_cons_succ, List.set_cons_zero])
    refine wpAnyH_take (i := 29) (v := undef) rfl (by kernel_rfl) (by kernel_rfl) (by kernel_rfl) (fun _ _ _ h => h) (Or.inr ⟨by kernel_rfl, rfl⟩) HSS.out ?_
    show wpAnyH _ _ _ _ _ _ _ (Act.put _ (some 62) _) _
    (try simp only [Act.put]); (try simp only [List.setIfInBounds_toArray]); (try simp only [List.set_cons_succ, List.set_cons_zero])
    refine wpAnyH_take (i := 30) (v := .bool true) rfl (by kernel_rfl) (by kernel_rfl) (by kernel_rfl) (fun _ _ _ h => h) (Or.inl ⟨by kernel_rfl, ?_⟩) HSS.out ?_
    · (intro u9 hSw; (try dsimp only at hSw); go_simp)
    show wpAnyH _ _ _ _ _ _ _ (Act.put _ (some 63) _) _
    (try simp only [Act.put]); (try simp only [List.setIfInBounds_toArray]); (try simp only [List.set_cons_succ, List.set_cons_zero])
    refine wpAnyH_take (i := 31) (v := .bool true) rfl (by kernel_rfl) (by kernel_rfl) (by kernel_rfl) (fun _ _ _ h => h) (Or.inl ⟨by kernel_rfl, ?_⟩) HSS.out ?_
    · (intro u9 hSw; (try dsimp only at hSw); go_simp)
    show wpAnyH _ _ _ _ _ _ _ (Act.put _ (some 64) _) _
    (try simp only [Act.put]); (try simp only [List.setIfInBounds_toArray]); (try simp only [List.set_cons_succ, List.set_cons_zero])
    refine wpAnyH_take (i := 32) (v := undef) rfl (by kernel_rfl) (by kernel_rfl) (by kernel_rfl) (fun _ _ _ h => h) (Or.inr ⟨by kernel_rfl, rfl⟩) HSS.out ?_
    show wpAnyH _ _ _ _ _ _ _ (Act.put _ (some 65) _) _
    (try simp only [Act.put]); (try simp only [List.setIfInBounds_toArray]); (try simp only [List.set_cons_succ, List.set_cons_zero])
    refine wpAnyH_take (i := 33) (v := undef) rfl (by kernel_rfl) (by kernel_rfl) (by kernel_rfl) (fun _ _ _ h => h) (Or.inr ⟨by kernel_rfl, rfl⟩) HSS.out ?_
    show wpAnyH _ _ _ _ _ _ _ (Act.put _ (some 66) _) _
    (try simp only [Act.put]); (try simp only [List.setIfInBounds_toArray]); (try simp only [List.set_cons_succ, List.set_cons_zero])
    refine wpAnyH_take (i := 34) (v := undef) rfl (by kernel_rfl) (by kernel_rfl) (by kernel_rfl) (fun _ _ _ h => h) (Or.inr ⟨by kernel_rfl, rfl⟩) HSS.out ?_
    show wpAnyH _ _ _ _ _ _ _ (Act.put _ (some 67) _) _
    (try simp only [Act.put]); (try simp only [List.setIfInBounds_toArray]); (try simp only [List.set_cons_succ, List.set_cons_zero])
    refine wpAnyH_take (i := 35) (v := undef) rfl (by kernel_rfl) (by kernel_rfl) (by kernel_rfl) (fun _ _ _ h => h) (Or.inr ⟨by kernel_rfl, rfl⟩) HSS.out ?_
    show wpAnyH _ _ _ _ _ _ _ (Act.put _ (some 68) _) _
    (try simp only [Act.put]); (try simp only [List.setIfInBounds_toArray]); (try simp only [List.set_cons_succ, List.set_cons_zero])
    refine wpAnyH_take (i := 36) (v := undef) rfl (by kernel_rfl) (by kernel_rfl) (by kernel_rfl) (fun _ _ _ h => h) (Or.inr ⟨by kernel_rfl, rfl⟩) HSS.out ?_
    show wpAnyH _ _ _ _ _ _ _ (Act.put _ (some 69) _) _
    (try simp only [Act.put]); (try simp only [List.setIfInBounds_toArray]); (try simp only [List.set_cons_succ, List.set_cons_zero])
    refine wpAnyH_take (i := 37) (v := .bool true) rfl (by kernel_rfl) (by kernel_rfl) (by kernel_rfl) (fun _ _ _ h => h) (Or.inl ⟨by kernel_rfl, ?_⟩) HSS.out ?_
    · (intro u9 hSw; (try dsimp only at hSw); go_simp)
    show wpAnyH _ _ _ _ _ _ _ (Act.put _ (some 70) _) _
    (try simp only [Act.put]); (try simp only [List.setIfInBounds_toArray]); (try simp only [List.set_cons_succ, List.set_cons_zero])
    refine wpAnyH_take (i := 38) (v := .bool true) rfl (by kernel_rfl) (by kernel_rfl) (by kernel_rfl) (fun _ _ _ h => h) (Or.inl ⟨by kernel_rfl, ?_⟩) HSS.out ?_
    · (intro u9 hSw; (try dsimp only at hSw); go_simp)
    show wpAnyH _ _ _ _ _ _ _ (Act.put _ (some 71) _) _
    (try simp only [Act.put]); (try simp only [List.setIfInBounds_toArray]); (try simp only [List.set_cons_succ, List.set_cons_zero])
    refine wpAnyH_take (i := 39) (v := .bool true) rfl (by kernel_rfl) (by kernel_rfl) (by kernel_rfl) (fun _ _ _ h => h) (Or.inl ⟨by kernel_rfl, ?_⟩) HSS.out ?_
    · (intro u9 hSw; (try dsimp only at hSw); go_simp)
    show wpAnyH _ _ _ _ _ _ _ (Act.put _ (some 2) _) _
    (try simp only [Act.put]); (try simp only [List.setIfInBounds_toArray]); (try simp only [List.set_cons_succ, List.set_cons_zero])
    refine wpAnyH_done (by kernel_rfl) ?_ _
    refine NoPanic.normal ?_
    go_wp2
    go_ret
    exact ⟨by kernel_rfl, HFI.out _ HSS.out.2.out⟩
  cases okB
  · go_wp2_with fail
    refine wp_region_noPanic ?_
    refine wp_region_held_drew (S := (fun W' => (W'.cell? ⟨ga, 0, none⟩ = some (.slice ua vs.length uc) ∧ W'.cell? ⟨ga, 1, none⟩ = some (.slice xa cs.length xc) ∧ W'.cell? ⟨ga, 2, none⟩ = some (.string o) ∧ W'.cell? ⟨gb, 0, none⟩ = some (.slice ub us.length ud) ∧ W'.cell? ⟨gb, 1, none⟩ = some (.slice xb ds.length xd) ∧ W'.cell? ⟨gb, 2, none⟩ = some (.string p) ∧ W'.cell? ⟨w3.heap.size, 0, none⟩ = some (.slice ue ts.length uf) ∧ W'.cell? ⟨w3.heap.size, 1, none⟩ = some (.slice xe es.length xf) ∧ W'.cell? ⟨w3.heap.size, 2, none⟩ = some (.string q)) ∧ Hid (Below W5.heap.size W5 W'))) (by kernel_rfl) HSS0.out (fun _ => ?_)
    have HSS := hidOf8 HSS0.out
    clear HSS0
    refine wpAnyH_take (i := 0) (v := ?_) rfl (by kernel_rfl) (by kernel_rfl) (by kernel_rfl) (fun _ _ _ h => h) (Or.inl ⟨by kernel_rfl, ?_⟩) HSS.out ?_
    rotate_left
    · (intro u9 hSw; (try dsimp only at hSw); go_simp; try with_reducible rfl)
    show wpAnyH _ _ _ _ _ _ _ (Act.put _ (some 33) _) _
    (try simp only [Act.put]); (try simp only [List.setIfInBounds_toArray]); (try simp only [List.set_cons_succ, List.set_cons_zero])
    refine wpAnyH_take (i := 1) (v := ?_) rfl (by kernel_rfl) (by kernel_rfl) (by kernel_rfl) (fun _ _ _ h => h) (Or.inl ⟨by kernel_rfl, ?_⟩) HSS.out ?_
    rotate_left
    · (intro u9 hSw; (try dsimp only at hSw); go_simp; try with_reducible rfl)
    show wpAnyH _ _ _ _ _ _ _ (Act.put _ (some 34) _) _
    (try simp only [Act.put]); (try simp only [List.setIfInBounds_toArray]); (try simp only [List.set_cons_succ, List.set_cons_zero])
    refine wpAnyH_take (i := 2) (v := ?_) rfl (by kernel_rfl) (by kernel_rfl) (by kernel_rfl) (fun _ _ _ h => h) (Or.inl ⟨by kernel_rfl, ?_⟩) HSS.out ?_
    rotate_left
    · (intro u9 hSw; (try dsimp only at hSw); go_simp; try with_reducible rfl)
    show wpAnyH _ _ _ _ _ _ _ (Act.put _ (some 35) _) _
    (try simp only [Act.put]); (try simp only [List.setIfInBounds_toArray]); (try simp only [List.set_cons_succ, List.set_cons_zero])
    refine wpAnyH_ready (rs := [3]) (by kernel_rfl) (by simp) ?_
    refine AllReadyH.cons rfl (fun K hK => ?_) AllReadyH.nil
    go_simp
    go_at_call 14
    refine (CSP.out _ HSS.out.2).mono ?_
    rintro e wz ⟨rfl, hb9⟩
    have HS2 : Hid ((wz.cell? ⟨ga, 0, none⟩ = some (.slice ua vs.length uc) ∧ wz.cell? ⟨ga, 1, none⟩ = some (.slice xa cs.length xc) ∧ wz.cell? ⟨ga, 2, none⟩ = some (.string o) ∧ wz.cell? ⟨gb, 0, none⟩ = some (.slice ub us.length ud) ∧ wz.cell? ⟨gb, 1, none⟩ = some (.slice xb ds.length xd) ∧ wz.cell? ⟨gb, 2, none⟩ = some (.string p) ∧ wz.cell? ⟨w3.heap.size, 0, none⟩ = some (.slice ue ts.length uf) ∧ wz.cell? ⟨w3.heap.size, 1, none⟩ = some (.slice xe es.length xf) ∧ wz.cell? ⟨w3.heap.size, 2, none⟩ = some (.string q)) ∧ Hid (Below W5.heap.size W5 wz)) := ⟨⟨cell_up hb9 HSS.out.1.1, cell_up hb9 HSS.out.1.2.1, cell_up hb9 HSS.out.1.2.2.1, cell_up hb9 HSS.out.1.2.2.2.1, cell_up hb9 HSS.out.1.2.2.2.2.1, cell_up hb9 HSS.out.1.2.2.2.2.2.1, cell_up hb9 HSS.out.1.2.2.2.2.2.2.1, cell_up hb9 HSS.out.1.2.2.2.2.2.2.2.1, cell_up hb9 HSS.out.1.2.2.2.2.2.2.2.2⟩, HSS.out.2.out.trans (hb9.mono HSS.out.2.out.size)⟩
    dsimp only
    refine hK.out _ _ HS2.out (fun _ => ?_)
    clear hK K hb9 HSS
    have HSS := hidOf8 HS2.out
    clear HS2
    try show wpAnyH _ _ _ _ _ _ _ (Act.put _ (some 36) _) _
    (try simp only [Act.put]); (try simp only [List.setIfInBounds_toArray]); (try simp only [List.set_cons_succ, List.set_cons_zero])
    refine wpAnyH_take (i := 4) (v := .bool true) rfl (by kernel_rfl) (by kernel_rfl) (by kernel_rfl) (fun _ _ _ h => h) (Or.inl ⟨by kernel_rfl, ?_⟩) HSS.out ?_
    · (intro u9 hSw; (try dsimp only at hSw); go_simp)
    show wpAnyH _ _ _ _ _ _ _ (Act.put _ (some 37) _) _
    (try simp only [Act.put]); (try simp only [List.setIfInBounds_toArray]); (try simp only [List.set_cons_succ, List.set_cons_zero])
    refine wpAnyH_take (i := 5) (v := .bool true) rfl (by kernel_rfl) (by kernel_rfl) (by kernel_rfl) (fun _ _ _ h => h) (Or.inl ⟨by kernel_rfl, ?_⟩) HSS.out ?_
    · (intro u9 hSw; (try dsimp only at hSw); go_simp)
    show wpAnyH _ _ _ _ _ _ _ (Act.put _ (some 38) _) _
    (try simp only [Act.put]); (try simp only [List.setIfInBounds_toArray]); (try simp only [List.set_cons_succ, List.set_cons_zero])
    refine wpAnyH_take (i := 6) (v := ?_) rfl (by kernel_rfl) (by kernel_rfl) (by kernel_rfl) (fun _ _ _ h => h) (Or.inl ⟨by kernel_rfl, ?_⟩) HSS.out ?_
    rotate_left
    · (intro u9 hSw; (try dsimp only at hSw); go_simp; try with_reducible rfl)
    show wpAnyH _ _ _ _ _ _ _ (Act.put _ (some 39) _) _
    (try simp only [Act.put]); (try simp only [List.setIfInBounds_toArray]); (try simp only [List.set_cons_succ, List.set_cons_zero])
    refine wpAnyH_take (i := 7) (v := ?_) rfl (by kernel_rfl) (by kernel_rfl) (by kernel_rfl) (fun _ _ _ h => h) (Or.inl ⟨by kernel_rfl, ?_⟩) HSS.out ?_
    rotate_left
    · (intro u9 hSw; (try dsimp only at hSw); go_simp; try with_reducible rfl)
    show wpAnyH _ _ _ _ _ _ _ (Act.put _ (some 40) _) _
    (try simp only [Act.put]); (try simp only [List.setIfInBounds_toArray]); (try simp only [List.set_cons_succ, List.set_cons_zero])
    refine wpAnyH_ready (rs := [8]) (by kernel_rfl) (by simp) ?_
    refine AllReadyH.cons rfl (fun K hK => ?_) AllReadyH.nil
    go_simp
    go_at_call 21
    refine (CAA.out _ HSS.out.2).mono ?_
    rintro e wz ⟨rfl, hb9⟩
    have HS2 : Hid ((wz.cell? ⟨ga, 0, none⟩ = some (.slice ua vs.length uc) ∧ wz.cell? ⟨ga, 1, none⟩ = some (.slice xa cs.length xc) ∧ wz.cell? ⟨ga, 2, none⟩ = some (.string o) ∧ wz.cell? ⟨gb, 0, none⟩ = some (.slice ub us.length ud) ∧ wz.cell? ⟨gb, 1, none⟩ = some (.slice xb ds.length xd) ∧ wz.cell? ⟨gb, 2, none⟩ = some (.string p) ∧ wz.cell? ⟨w3.heap.size, 0, none⟩ = some (.slice ue ts.length uf) ∧ wz.cell? ⟨w3.heap.size, 1, none⟩ = some (.slice xe es.length xf) ∧ wz.cell? ⟨w3.heap.size, 2, none⟩ = some (.string q)) ∧ Hid (Below W5.heap.size W5 wz)) := ⟨⟨cell_up hb9 HSS.out.1.1, cell_up hb9 HSS.out.1.2.1, cell_up hb9 HSS.out.1.2.2.1, cell_up hb9 HSS.out.1.2.2.2.1, cell_up hb9 HSS.out.1.2.2.2.2.1, cell_up hb9 HSS.out.1.2.2.2.2.2.1, cell_up hb9 HSS.out.1.2.2.2.2.2.2.1, cell_up hb9 HSS.out.1.2.2.2.2.2.2.2.1, cell_up hb9 HSS.out.1.2.2.2.2.2.2.2.2⟩, HSS.out.2.out.trans (hb9.mono HSS.out.2.out.size)⟩
    dsimp only
    refine hK.out _ _ HS2.out (fun _ => ?_)
    clear hK K hb9 HSS
    have HSS := hidOf8 HS2.out
    clear HS2
    try show wpAnyH _ _ _ _ _ _ _ (Act.put _ (some 41) _) _
    (try simp only [Act.put]); (try simp only [List.setIfInBounds_toArray]); (try simp only [List.set_cons_succ, List.set_cons_zero])
    refine wpAnyH_take (i := 9) (v := .bool true) rfl (by kernel_rfl) (by kernel_rfl) (by kernel_rfl) (fun _ _ _ h => h) (Or.inl ⟨by kernel_rfl, ?_⟩) HSS.out ?_
    · (intro u9 hSw; (try dsimp only at hSw); go_simp)
    show wpAnyH _ _ _ _ _ _ _ (Act.put _ (some 42) _) _
    (try simp only [Act.put]); (try simp only [List.setIfInBounds_toArray]); (try simp only [List.set_cons_succ, List.set_cons_zero])
    refine wpAnyH_take (i := 10) (v := .bool true) rfl (by kernel_rfl) (by kernel_rfl) (by kernel_rfl) (fun _ _ _ h => h) (Or.inl ⟨by kernel_rfl, ?_⟩) HSS.out ?_
    · (intro u9 hSw; (try dsimp only at hSw); go_simp)
    show wpAnyH _ _ _ _ _ _ _ (Act.put _ (some 43) _) _
    (try simp only [Act.put]); (try simp only [List.setIfInBounds_toArray]); (try simp only [List.set_cons_succ, List.set_cons_zero])
    refine wpAnyH_take (i := 11) (v := ?_) rfl (by kernel_rfl) (by kernel_rfl) (by kernel_rfl) (fun _ _ _ h => h) (Or.inl ⟨by kernel_rfl, ?_⟩) HSS.out ?_
    rotate_left
    · (intro u9 hSw; (try dsimp only at hSw); go_simp; try with_reducible rfl)
    show wpAnyH _ _ _ _ _ _ _ (Act.put _ (some 44) _) _
    (try simp only [Act.put]); (try simp only [List.setIfInBounds_toArray]); (try simp only [List.set_cons_succ, List.set_cons_zero])
    refine wpAnyH_take (i := 12) (v := ?_) rfl (by kernel_rfl) (by kernel_rfl) (by kernel_rfl) (fun _ _ _ h => h) (Or.inl ⟨by kernel_rfl, ?_⟩) HSS.out ?_
    rotate_left
    · (intro u9 hSw; (try dsimp only at hSw); go_simp; try with_reducible rfl)
    show wpAnyH _ _ _ _ _ _ _ (Act.put _ (some 45) _) _
    (try simp only [Act.put]); (try simp only [List.setIfInBounds_toArray]); (try simp only [List.set_cons_succ, List.set_cons_zero])
    refine wpAnyH_take (i := 13) (v := ?_) rfl (by kernel_rfl) (by kernel_rfl) (by kernel_rfl) (fun _ _ _ h => h) (Or.inl ⟨by kernel_rfl, ?_⟩) HSS.out ?_
    rotate_left
    · (intro u9 hSw; (try dsimp only at hSw); go_simp; try with_reducible rfl)
    show wpAnyH _ _ _ _ _ _ _ (Act.put _ (some 46) _) _
    (try simp only [Act.put]); (try simp only [List.setIfInBounds_toArray]); (try simp only [List.set_cons_succ, List.set_cons_zero])
    refine wpAnyH_ready (rs := [14]) (by kernel_rfl) (by simp) ?_
    refine AllReadyH.cons rfl (fun K hK => ?_) AllReadyH.nil
    go_simp
    go_at_call 21
    refine (CBA.out _ HSS.out.2).mono ?_
    rintro e wz ⟨rfl, hb9⟩
    have HS2 : Hid ((wz.cell? ⟨ga, 0, none⟩ = some (.slice ua vs.length uc) ∧ wz.cell? ⟨ga, 1, none⟩ = some (.slice xa cs.length xc) ∧ wz.cell? ⟨ga, 2, none⟩ = some (.string o) ∧ wz.cell? ⟨gb, 0, none⟩ = some (.slice ub us.length ud) ∧ wz.cell? ⟨gb, 1, none⟩ = some (.slice xb ds.length xd) ∧ wz.cell? ⟨gb, 2, none⟩ = some (.string p) ∧ wz.cell? ⟨w3.heap.size, 0, none⟩ = some (.slice ue ts.length uf) ∧ wz.cell? ⟨w3.heap.size, 1, none⟩ = some (.slice xe es.length xf) ∧ wz.cell? ⟨w3.heap.size, 2, none⟩ = some (.string q)) ∧ Hid (Below W5.heap.size W5 wz)) := ⟨⟨cell_up hb9 HSS.out.1.1, cell_up hb9 HSS.out.1.2.1, cell_up hb9 HSS.out.1.2.2.1, cell_up hb9 HSS.out.1.2.2.2.1, cell_up hb9 HSS.out.1.2.2.2.2.1, cell_up hb9 HSS.out.1.2.2.2.2.2.1, cell_up hb9 HSS.out.1.2.2.2.2.2.2.1, cell_up hb9 HSS.out.1.2.2.2.2.2.2.2.1, cell_up hb9 HSS.out.1.2.2.2.2.2.2.2.2⟩, HSS.out.2.out.trans (hb9.mono HSS.out.2.out.size)⟩
    dsimp only
    refine hK.out _ _ HS2.out (fun _ => ?_)
    clear hK K hb9 HSS
    have HSS := hidOf8 HS2.out
    clear HS2
    try show wpAnyH _ _ _ _ _ _ _ (Act.put _ (some 47) _) _
    (try simp only [Act.put]); (try simp only [List.setIfInBounds_toArray]); (try simp only [List.set_cons_succ, List.set_cons_zero])
    refine wpAnyH_take (i := 15) (v := .bool true) rfl (by kernel_rfl) (by kernel_rfl) (by kernel_rfl) (fun _ _ _ h => h) (Or.inl ⟨by kernel_rfl, ?_⟩) HSS.out ?_
    · (intro u9 hSw; (try dsimp only at hSw); go_simp)
    show wpAnyH _ _ _ _ _ _ _ (Act.put _ (some 48) _) _
    (try simp only [Act.put]); (try simp only [List.setIfInBounds_toArray]); (try simp only [List.set_cons_succ, List.set_cons_zero])
    refine wpAnyH_take (i := 16) (v := .bool true) rfl (by kernel_rfl) (by kernel_rfl) (by kernel_rfl) (fun _ _ _ h => h) (Or.inl ⟨by kernel_rfl, ?_⟩) HSS.out ?_
    · (intro u9 hSw; (try dsimp only at hSw); go_simp)
    show wpAnyH _ _ _ _ _ _ _ (Act.put _ (some 49) _) _
    (try simp only [Act.put]); (try simp only [List.setIfInBounds_toArray]); (try simp only [List.set_cons_succ, List.set_cons_zero])
    refine wpAnyH_take (i := 17) (v := .bool true) rfl (by kernel_rfl) (by kernel_rfl) (by kernel_rfl) (fun _ _ _ h => h) (Or.inl ⟨by kernel_rfl, ?_⟩) HSS.out ?_
    · (intro u9 hSw; (try dsimp only at hSw); go_simp)
    show wpAnyH _ _ _ _ _ _ _ (Act.put _ (some 50) _) _
    (try simp only [Act.put]); (try simp only [List.setIfInBounds_toArray]); (try simp only [List.set_cons_succ, List.set_cons_zero])
    refine wpAnyH_take (i := 18) (v := ?_) rfl (by kernel_rfl) (by kernel_rfl) (by kernel_rfl) (fun _ _ _ h => h) (Or.inl ⟨by kernel_rfl, ?_⟩) HSS.out ?_
    rotate_left
    · (intro u9 hSw; (try dsimp only at hSw); go_simp; try with_reducible rfl)
    show wpAnyH _ _ _ _ _ _ _ (Act.put _ (some 51) _) _
    (try simp only [Act.put]); (try simp only [List.setIfInBounds_toArray]); (try simp only [List.set_cons_succ, List.set_cons_zero])
    refine wpAnyH_take (i := 20) (v := ?_) rfl (by kernel_rfl) (by kernel_rfl) (by kernel_rfl) (fun _ _ _ h => h) (Or.inl ⟨by kernel_rfl, ?_⟩) HSS.out ?_
    rotate_left
    · (intro u9 hSw; (try dsimp only at hSw); go_simp; try with_reducible rfl)
    show wpAnyH _ _ _ _ _ _ _ (Act.put _ (some 53) _) _
    (try simp only [Act.put]); (try simp only [List.setIfInBounds_toArray]); (try simp only [List.set_cons_succ, List.set_cons_zero])
    refine wpAnyH_ready (rs := [19]) (by kernel_rfl) (by simp) ?_
    refine AllReadyH.cons rfl (fun K hK => ?_) AllReadyH.nil
    go_simp
    go_at_call 13
    refine (CXI.out _ HSS.out.2).mono ?_
    rintro e wz ⟨rfl, hb9⟩
    have HS2 : Hid ((wz.cell? ⟨ga, 0, none⟩ = some (.slice ua vs.length uc) ∧ wz.cell? ⟨ga, 1, none⟩ = some (.slice xa cs.length xc) ∧ wz.cell? ⟨ga, 2, none⟩ = some (.string o) ∧ wz.cell? ⟨gb, 0, none⟩ = some (.slice ub us.length ud) ∧ wz.cell? ⟨gb, 1, none⟩ = some (.slice xb ds.length xd) ∧ wz.cell? ⟨gb, 2, none⟩ = some (.string p) ∧ wz.cell? ⟨w3.heap.size, 0, none⟩ = some (.slice ue ts.length uf) ∧ wz.cell? ⟨w3.heap.size, 1, none⟩ = some (.slice xe es.length xf) ∧ wz.cell? ⟨w3.heap.size, 2, none⟩ = some (.string q)) ∧ Hid (Below W5.heap.size W5 wz)) := ⟨⟨cell_up hb9 HSS.out.1.1, cell_up hb9 HSS.out.1.2.1, cell_up hb9 HSS.out.1.2.2.1, cell_up hb9 HSS.out.1.2.2.2.1, cell_up hb9 HSS.out.1.2.2.2.2.1, cell_up hb9 HSS.out.1.2.2.2.2.2.1, cell_up hb9 HSS.out.1.2.2.2.2.2.2.1, cell_up hb9 HSS.out.1.2.2.2.2.2.2.2.1, cell_up hb9 HSS.out.1.2.2.2.2.2.2.2.2⟩, HSS.out.2.out.trans (hb9.mono HSS.out.2.out.size)⟩
    dsimp only
    refine hK.out _ _ HS2.out (fun _ => ?_)
    clear hK K hb9 HSS
    have HSS := hidOf8 HS2.out
    clear HS2
    try show wpAnyH _ _ _ _ _ _ _ (Act.put _ (some 52) _) _
    (try simp only [Act.put]); (try simp only [List.setIfInBounds_toArray]); (try simp only [List.set_cons_succ, List.set_cons_zero])
    refine wpAnyH_ready (rs := [21]) (by kernel_rfl) (by simp) ?_
    refine AllReadyH.cons rfl (fun K hK => ?_) AllReadyH.nil
    go_simp
    go_at_call 24
    refine (CXS.out _ HSS.out.2).mono ?_
    rintro e wz ⟨rfl, hb9⟩
    have HS2 : Hid ((wz.cell? ⟨ga, 0, none⟩ = some (.slice ua vs.length uc) ∧ wz.cell? ⟨ga, 1, none⟩ = some (.slice xa cs.length xc) ∧ wz.cell? ⟨ga, 2, none⟩ = some (.string o) ∧ wz.cell? ⟨gb, 0, none⟩ = some (.slice ub us.length ud) ∧ wz.cell? ⟨gb, 1, none⟩ = some (.slice xb ds.length xd) ∧ wz.cell? ⟨gb, 2, none⟩ = some (.string p) ∧ wz.cell? ⟨w3.heap.size, 0, none⟩ = some (.slice ue ts.length uf) ∧ wz.cell? ⟨w3.heap.size, 1, none⟩ = some (.slice xe es.length xf) ∧ wz.cell? ⟨w3.heap.size, 2, none⟩ = some (.string q)) ∧ Hid (Below W5.heap.size W5 wz)) := ⟨⟨cell_up hb9 HSS.out.1.1, cell_up hb9 HSS.out.1.2.1, cell_up hb9 HSS.out.1.2.2.1, cell_up hb9 HSS.out.1.2.2.2.1, cell_up hb9 HSS.out.1.2.2.2.2.1, cell_up hb9 HSS.out.1.2.2.2.2.2.1, cell_up hb9 HSS.out.1.2.2.2.2.2.2.1, cell_up hb9 HSS.out.1.2.2.2.2.2.2.2.1, cell_up hb9 HSS.out.1.2.2.2.2.2.2.2.2⟩, HSS.out.2.out.trans (hb9.mono HSS.out.2.out.size)⟩
    dsimp only
    refine hK.out _ _ HS2.out (fun _ => ?_)
    clear hK K hb9 HSS
    have HSS := hidOf8 HS2.out
    clear HS2
    try show wpAnyH _ _ _ _ _ _ _ (Act.put _ (some 54) _) _
    (try simp only [Act.put]); (try simp only [List.setIfInBounds_toArray]); (try simp only [List.set_cons_succ, List.set_cons_zero])
    refine wpAnyH_take (i := 22) (v := .bool true) rfl (by kernel_rfl) (by kernel_rfl) (by kernel_rfl) (fun _ _ _ h => h) (Or.inl ⟨by kernel_rfl, ?_⟩) HSS.out ?_
    · (intro u9 hSw; (try dsimp only at hSw); go_simp)
    show wpAnyH _ _ _ _ _ _ _ (Act.put _ (some 55) _) _
    (try simp only [Act.put]); (try simp only [List.setIfInBounds_toArray]); (try simp only [List.set_cons_succ, List.set_cons_zero])
    refine wpAnyH_take (i := 23) (v := .bool true) rfl (by kernel_rfl) (by kernel_rfl) (by kernel_rfl) (fun _ _ _ h => h) (Or.inl ⟨by kernel_rfl, ?_⟩) HSS.out ?_
    · (intro u9 hSw; (try dsimp only at hSw); go_simp)
    show wpAnyH _ _ _ _ _ _ _ (Act.put _ (some 56) _) _
    (try simp only [Act.put]); (try simp only [List.setIfInBounds_toArray]); (try simp only [List.set_cons_succ, List.set_cons_zero])
    refine wpAnyH_take (i := 24) (v := .bool true) rfl (by kernel_rfl) (by kernel_rfl) (by kernel_rfl) (fun _ _ _ h => h) (Or.inl ⟨by kernel_rfl, ?_⟩) HSS.out ?_
    · (intro u9 hSw; (try dsimp only at hSw); go_simp)
    show wpAnyH _ _ _ _ _ _ _ (Act.put _ (some 57) _) _
    (try simp only [Act.put]); (try simp only [List.setIfInBounds_toArray]); (try simp only [List.set_cons_succ, List.set_cons_zero])
    refine wpAnyH_take (i := 25) (v := ?_) rfl (by kernel_rfl) (by kernel_rfl) (by kernel_rfl) (fun _ _ _ h => h) (Or.inl ⟨by kernel_rfl, ?_⟩) HSS.out ?_
    rotate_left
    · (intro u9 hSw; (try dsimp only at hSw); go_simp; try with_reducible rfl)
    show wpAnyH _ _ _ _ _ _ _ (Act.put _ (some 58) _) _
    (try simp only [Act.put]); (try simp only [List.setIfInBounds_toArray]); (try simp only [List.set_cons_succ, List.set_cons_zero])
    refine wpAnyH_take (i := 26) (v := .bool false) rfl (by kernel_rfl) (by kernel_rfl) (by kernel_rfl) (fun _ _ _ h => h) (Or.inl ⟨by kernel_rfl, ?_⟩) HSS.out ?_
    · (intro u9 hSw; (try dsimp only at hSw); go_simp)
    show wpAnyH _ _ _ _ _ _ _ (Act.put _ (some 59) _) _
    (try simp only [Act.put]); (try simp only [List.setIfInBounds_toArray]); (try simp only [List.set_cons_succ, List.set_cons_zero])
    refine wpAnyH_take (i := 27) (v := .bool false) rfl (by kernel_rfl) (by kernel_rfl) (by kernel_rfl) (fun _ _ _ h => h) (Or.inl ⟨by kernel_rfl, ?_⟩) HSS.out ?_
    · (intro u9 hSw; (try dsimp only at hSw); go_simp)
    show wpAnyH _ _ _ _ _ _ _ (Act.put _ (some 60) _) _
    (try simp only [Act.put]); (try simp only [List.setIfInBounds_toArray]); (try simp only [List.set_cons_succ, List.set_cons_zero])
    refine wpAnyH_take (i := 28) (v := ?_) rfl (by kernel_rfl) (by kernel_rfl) (by kernel_rfl) (fun _ _ _ h => h) (Or.inl ⟨by kernel_rfl, ?_⟩) HSS.out ?_
    rotate_left
    · (intro u9 hSw; (try dsimp only at hSw); go_simp; try with_reducible rfl)
    show wpAnyH _ _ _ _ _ _ _ (Act.put _ (some 61) _) _
    (try simp only [Act.put]); (try simp only [List.setIfInBounds_toArray]); (try simp only [List.set_cons_succ, List.set_cons_zero])
    refine wpAnyH_take (i := 29) (v := .bool true) rfl (by kernel_rfl) (by kernel_rfl) (by kernel_rfl) (fun _ _ _ h => h) (Or.inl ⟨by kernel_rfl, ?_⟩) HSS.out ?_
    · (intro u9 hSw; (try dsimp only at hSw); go_simp)
    show wpAnyH _ _ _ _ _ _ _ (Act.put _ (some 62) _) _
    (try simp only [Act.put]); (try simp only [List.setIfInBounds_toArray]); (try simp only [List.set_cons_succ, List.set_cons_zero])
    refine wpAnyH_take (i := 30) (v := .bool true) rfl (by kernel_rfl) (by kernel_rfl) (by kernel_rfl) (fun _ _ _ h => h) (Or.inl ⟨by kernel_rfl, ?_⟩) HSS.out ?_
    · (intro u9 hSw; (try dsimp only at hSw); go_simp)
    show wpAnyH _ _ _ _ _ _ _ (Act.put _ (some 63) _) _
    (try simp only [Act.put]); (try simp only [List.setIfInBounds_toArray]); (try simp only [List.set_cons_succ, List.set_cons_zero])
    refine wpAnyH_take (i := 31) (v := .bool true) rfl (by kernel_rfl) (by kernel_rfl) (by kernel_rfl) (fun _ _ _ h => h) (Or.inl ⟨by kernel_rfl, ?_⟩) HSS.out ?_
    · (intro u9 hSw; (try dsimp only at hSw); go_simp)
    show wpAnyH _ _ _ _ _ _ _ (Act.put _ (some 64) _) _
    (try simp only [Act.put]); (try simp only [List.setIfInBounds_toArray]); (try simp only [List.set_cons_succ, List.set_cons_zero])
    refine wpAnyH_take (i := 32) (v := undef) rfl (by kernel_rfl) (by kernel_rfl) (by kernel_rfl) (fun _ _ _ h => h) (Or.inr ⟨by kernel_rfl, rfl⟩) HSS.out ?_
    show wpAnyH _ _ _ _ _ _ _ (Act.put _ (some 65) _) _
    (try simp only [Act.put]); (try simp only [List.setIfInBounds_toArray]); (try simp only [List.set_cons_succ, List.set_cons_zero])
    refine wpAnyH_take (i := 33) (v := undef) rfl (by kernel_rfl) (by kernel_rfl) (by kernel_rfl) (fun _ _ _ h => h) (Or.inr ⟨by kernel_rfl, rfl⟩) HSS.out ?_
    show wpAnyH _ _ _ _ _ _ _ (Act.put _ (some 66) _) _
    (try simp only [Act.put]); (try simp only [List.setIfInBounds_toArray]); (try simp only [List.set_cons_succ, List.set_cons_zero])
    refine wpAnyH_take (i := 34) (v := undef) rfl (by kernel_rfl) (by kernel_rfl) (by kernel_rfl) (fun _ _ _ h => h) (Or.inr ⟨by kernel_rfl, rfl⟩) HSS.out ?_
    show wpAnyH _ _ _ _ _ _ _ (Act.put _ (some 67) _) _
    (try simp only [Act.put]); (try simp only [List.setIfInBounds_toArray]); (try simp only [List.set_cons_succ, List.set_cons_zero])
    refine wpAnyH_take (i := 35) (v := undef) rfl (by kernel_rfl) (by kernel_rfl) (by kernel_rfl) (fun _ _ _ h => h) (Or.inr ⟨by kernel_rfl, rfl⟩) HSS.out ?_
    show wpAnyH _ _ _ _ _ _ _ (Act.put _ (some 68) _) _
    (try simp only [Act.put]); (try simp only [List.setIfInBounds_toArray]); (try simp only [List.set_cons_succ, List.set_cons_zero])
    refine wpAnyH_take (i := 36) (v := undef) rfl (by kernel_rfl) (by kernel_rfl) (by kernel_rfl) (fun _ _ _ h => h) (Or.inr ⟨by kernel_rfl, rfl⟩) HSS.out ?_
    show wpAnyH _ _ _ _ _ _ _ (Act.put _ (some 69) _) _
    (try simp only [Act.put]); (try simp only [List.setIfInBounds_toArray]); (try simp only [List.set_cons_succ, List.set_cons_zero])
    refine wpAnyH_take (i := 37) (v := .bool true) rfl (by kernel_rfl) (by kernel_rfl) (by kernel_rfl) (fun _ _ _ h => h) (Or.inl ⟨by kernel_rfl, ?_⟩) HSS.out ?_
    · (intro u9 hSw; (try dsimp only at hSw); go_simp)
    show wpAnyH _ _ _ _ _ _ _ (Act.put _ (some 70) _) _
    (try simp only [Act.put]); (try simp only [List.setIfInBounds_toArray]); (try simp only [List.set_cons_succ, List.set_cons_zero])
    refine wpAnyH_take (i := 38) (v := .bool true) rfl (by kernel_rfl) (by kernel_rfl) (by kernel_rfl) (fun _ _ _ h => h) (Or.inl ⟨by kernel_rfl, ?_⟩) HSS.out ?_
    · (intro u9 hSw; (try dsimp only at hSw); go_simp)
    show wpAnyH _ _ _ _ _ _ _ (Act.put _ (some 71) _) _
    (try simp only [Act.put]); (try simp only [List.setIfInBounds_toArray]); (try simp only [List.set_cons_succ, List.set_cons_zero])
    refine wpAnyH_take (i := 39) (v := .bool true) rfl (by kernel_rfl) (by kernel_rfl) (by kernel_rfl) (fun _ _ _ h => h) (Or.inl ⟨by kernel_rfl, ?_⟩) HSS.out ?_
    · (intro u9 hSw; (try dsimp only at hSw); go_simp)
    show wpAnyH _ _ _ _ _ _ _ (Act.put _ (some 2) _) _
    (try simp only [Act.put]); (try simp only [List.setIfInBounds_toArray]); (try simp only [List.set_cons_succ, List.set_cons_zero])
    refine wpAnyH_done (by kernel_rfl) ?_ _
    refine NoPanic.normal ?_
    go_wp2
    go_ret
    exact ⟨by kernel_rfl, HFI.out _ HSS.out.2.out⟩
  · have eqT := EQT.out rfl rfl
    go_wp2_with fail
    refine wp_region_noPanic ?_
    refine wp_region_held_drew (S := (fun W' => (W'.cell? ⟨ga, 0, none⟩ = some (.slice ua vs.length uc) ∧ W'.cell? ⟨ga, 1, none⟩ = some (.slice xa cs.length xc) ∧ W'.cell? ⟨ga, 2, none⟩ = some (.string o) ∧ W'.cell? ⟨gb, 0, none⟩ = some (.slice ub us.length ud) ∧ W'.cell? ⟨gb, 1, none⟩ = some (.slice xb ds.length xd) ∧ W'.cell? ⟨gb, 2, none⟩ = some (.string p) ∧ W'.cell? ⟨w3.heap.size, 0, none⟩ = some (.slice ue ts.length uf) ∧ W'.cell? ⟨w3.heap.size, 1, none⟩ = some (.slice xe es.length xf) ∧ W'.cell? ⟨w3.heap.size, 2, none⟩ = some (.string q)) ∧ Hid (Below W5.heap.size W5 W'))) (by kernel_rfl) HSS0.out (fun _ => ?_)
    have HSS := hidOf8 HSS0.out
    clear HSS0
    refine wpAnyH_take (i := 0) (v := ?_) rfl (by kernel_rfl) (by kernel_rfl) (by kernel_rfl) (fun _ _ _ h => h) (Or.inl ⟨by kernel_rfl, ?_⟩) HSS.out ?_
    rotate_left
    · (intro u9 hSw; (try dsimp only at hSw); go_simp; try with_reducible rfl)
    show wpAnyH _ _ _ _ _ _ _ (Act.put _ (some 33) _) _
    (try simp only [Act.put]); (try simp only [List.setIfInBounds_toArray]); (try simp only [List.set_cons_succ, List.set_cons_zero])
    refine wpAnyH_take (i := 1) (v := ?_) rfl (by kernel_rfl) (by kernel_rfl) (by kernel_rfl) (fun _ _ _ h => h) (Or.inl ⟨by kernel_rfl, ?_⟩) HSS.out ?_
    rotate_left
    · (intro u9 hSw; (try dsimp only at hSw); go_simp; try with_reducible rfl)
    show wpAnyH _ _ _ _ _ _ _ (Act.put _ (some 34) _) _
    (try simp only [Act.put]); (try simp only [List.setIfInBounds_toArray]); (try simp only [List.set_cons_succ, List.set_cons_zero])
    refine wpAnyH_take (i := 2) (v := ?_) rfl (by kernel_rfl) (by kernel_rfl) (by kernel_rfl) (fun _ _ _ h => h) (Or.inl ⟨by kernel_rfl, ?_⟩) HSS.out ?_
    rotate_left
    · (intro u9 hSw; (try dsimp only at hSw); go_simp; try with_reducible rfl)
    show wpAnyH _ _ _ _ _ _ _ (Act.put _ (some 35) _) _
    (try simp only [Act.put]); (try simp only [List.setIfInBounds_toArray]); (try simp only [List.set_cons_succ, List.set_cons_zero])
    refine wpAnyH_ready (rs := [3]) (by kernel_rfl) (by simp) ?_
    refine AllReadyH.cons rfl (fun K hK => ?_) AllReadyH.nil
    go_simp
    go_at_call 14
    refine (CSP.out _ HSS.out.2).mono ?_
    rintro e wz ⟨rfl, hb9⟩
    have HS2 : Hid ((wz.cell? ⟨ga, 0, none⟩ = some (.slice ua vs.length uc) ∧ wz.cell? ⟨ga, 1, none⟩ = some (.slice xa cs.length xc) ∧ wz.cell? ⟨ga, 2, none⟩ = some (.string o) ∧ wz.cell? ⟨gb, 0, none⟩ = some (.slice ub us.length ud) ∧ wz.cell? ⟨gb, 1, none⟩ = some (.slice xb ds.length xd) ∧ wz.cell? ⟨gb, 2, none⟩ = some (.string p) ∧ wz.cell? ⟨w3.heap.size, 0, none⟩ = some (.slice ue ts.length uf) ∧ wz.cell? ⟨w3.heap.size, 1, none⟩ = some (.slice xe es.length xf) ∧ wz.cell? ⟨w3.heap.size, 2, none⟩ = some (.string q)) ∧ Hid (Below W5.heap.size W5 wz)) := ⟨⟨cell_up hb9 HSS.out.1.1, cell_up hb9 HSS.out.1.2.1, cell_up hb9 HSS.out.1.2.2.1, cell_up hb9 HSS.out.1.2.2.2.1, cell_up hb9 HSS.out.1.2.2.2.2.1, cell_up hb9 HSS.out.1.2.2.2.2.2.1, cell_up hb9 HSS.out.1.2.2.2.2.2.2.1, cell_up hb9 HSS.out.1.2.2.2.2.2.2.2.1, cell_up hb9 HSS.out.1.2.2.2.2.2.2.2.2⟩, HSS.out.2.out.trans (hb9.mono HSS.out.2.out.size)⟩
    dsimp only
    refine hK.out _ _ HS2.out (fun _ => ?_)
    clear hK K hb9 HSS
    have HSS := hidOf8 HS2.out
    clear HS2
    try show wpAnyH _ _ _ _ _ _ _ (Act.put _ (some 36) _) _
    (try simp only [Act.put]); (try simp only [List.setIfInBounds_toArray]); (try simp only [List.set_cons_succ, List.set_cons_zero])
    refine wpAnyH_take (i := 4) (v := .bool true) rfl (by kernel_rfl) (by kernel_rfl) (by kernel_rfl) (fun _ _ _ h => h) (Or.inl ⟨by kernel_rfl, ?_⟩) HSS.out ?_
    · (intro u9 hSw; (try dsimp only at hSw); go_simp)
    show wpAnyH _ _ _ _ _ _ _ (Act.put _ (some 37) _) _
    (try simp only [Act.put]); (try simp only [List.setIfInBounds_toArray]); (try simp only [List.set_cons_succ, List.set_cons_zero])
    refine wpAnyH_take (i := 5) (v := .bool true) rfl (by kernel_rfl) (by kernel_rfl) (by kernel_rfl) (fun _ _ _ h => h) (Or.inl ⟨by kernel_rfl, ?_⟩) HSS.out ?_
    · (intro u9 hSw; (try dsimp only at hSw); go_simp)
    show wpAnyH _ _ _ _ _ _ _ (Act.put _ (some 38) _) _
    (try simp only [Act.put]); (try simp only [List.setIfInBounds_toArray]); (try simp only [List.set_cons_succ, List.set_cons_zero])
    refine wpAnyH_take (i := 6) (v := ?_) rfl (by kernel_rfl) (by kernel_rfl) (by kernel_rfl) (fun _ _ _ h => h) (Or.inl ⟨by kernel_rfl, ?_⟩) HSS.out ?_
    rotate_left
    · (intro u9 hSw; (try dsimp only at hSw); go_simp; try with_reducible rfl)
    show wpAnyH _ _ _ _ _ _ _ (Act.put _ (some 39) _) _
    (try simp only [Act.put]); (try simp only [List.setIfInBounds_toArray]); (try simp only [List.set_cons_succ, List.set_cons_zero])
    refine wpAnyH_take (i := 7) (v := ?_) rfl (by kernel_rfl) (by kernel_rfl) (by kernel_rfl) (fun _ _ _ h => h) (Or.inl ⟨by kernel_rfl, ?_⟩) HSS.out ?_
    rotate_left
    · (intro u9 hSw; (try dsimp only at hSw); go_simp; try with_reducible rfl)
    show wpAnyH _ _ _ _ _ _ _ (Act.put _ (some 40) _) _
    (try simp only [Act.put]); (try simp only [List.setIfInBounds_toArray]); (try simp only [List.set_cons_succ, List.set_cons_zero])
    refine wpAnyH_ready (rs := [8]) (by kernel_rfl) (by simp) ?_
    refine AllReadyH.cons rfl (fun K hK => ?_) AllReadyH.nil
    go_simp
    go_at_call 21
    refine (CAA.out _ HSS.out.2).mono ?_
    rintro e wz ⟨rfl, hb9⟩
    have HS2 : Hid ((wz.cell? ⟨ga, 0, none⟩ = some (.slice ua vs.length uc) ∧ wz.cell? ⟨ga, 1, none⟩ = some (.slice xa cs.length xc) ∧ wz.cell? ⟨ga, 2, none⟩ = some (.string o) ∧ wz.cell? ⟨gb, 0, none⟩ = some (.slice ub us.length ud) ∧ wz.cell? ⟨gb, 1, none⟩ = some (.slice xb ds.length xd) ∧ wz.cell? ⟨gb, 2, none⟩ = some (.string p) ∧ wz.cell? ⟨w3.heap.size, 0, none⟩ = some (.slice ue ts.length uf) ∧ wz.cell? ⟨w3.heap.size, 1, none⟩ = some (.slice xe es.length xf) ∧ wz.cell? ⟨w3.heap.size, 2, none⟩ = some (.string q)) ∧ Hid (Below W5.heap.size W5 wz)) := ⟨⟨cell_up hb9 HSS.out.1.1, cell_up hb9 HSS.out.1.2.1, cell_up hb9 HSS.out.1.2.2.1, cell_up hb9 HSS.out.1.2.2.2.1, cell_up hb9 HSS.out.1.2.2.2.2.1, cell_up hb9 HSS.out.1.2.2.2.2.2.1, cell_up hb9 HSS.out.1.2.2.2.2.2.2.1, cell_up hb9 HSS.out.1.2.2.2.2.2.2.2.1, cell_up hb9 HSS.out.1.2.2.2.2.2.2.2.2⟩, HSS.out.2.out.trans (hb9.mono HSS.out.2.out.size)⟩
    dsimp only
    refine hK.out _ _ HS2.out (fun _ => ?_)
    clear hK K hb9 HSS
    have HSS := hidOf8 HS2.out
    clear HS2
    try show wpAnyH _ _ _ _ _ _ _ (Act.put _ (some 41) _) _
    (try simp only [Act.put]); (try simp only [List.setIfInBounds_toArray]); (try simp only [List.set_cons_succ, List.set_cons_zero])
    refine wpAnyH_take (i := 9) (v := .bool true) rfl (by kernel_rfl) (by kernel_rfl) (by kernel_rfl) (fun _ _ _ h => h) (Or.inl ⟨by kernel_rfl, ?_⟩) HSS.out ?_
    · (intro u9 hSw; (try dsimp only at hSw); go_simp)
    show wpAnyH _ _ _ _ _ _ _ (Act.put _ (some 42) _) _
    (try simp only [Act.put]); (try simp only [List.setIfInBounds_toArray]); (try simp only [List.set_cons_succ, List.set_cons_zero])
    refine wpAnyH_take (i := 10) (v := .bool true) rfl (by kernel_rfl) (by kernel_rfl) (by kernel_rfl) (fun _ _ _ h => h) (Or.inl ⟨by kernel_rfl, ?_⟩) HSS.out ?_
    · (intro u9 hSw; (try dsimp only at hSw); go_simp)
    show wpAnyH _ _ _ _ _ _ _ (Act.put _ (some 43) _) _
    (try simp only [Act.put]); (try simp only [List.setIfInBounds_toArray]); (try simp only [List.set_cons_succ, List.set_cons_zero])
    refine wpAnyH_take (i := 11) (v := ?_) rfl (by kernel_rfl) (by kernel_rfl) (by kernel_rfl) (fun _ _ _ h => h) (Or.inl ⟨by kernel_rfl, ?_⟩) HSS.out ?_
    rotate_left
    · (intro u9 hSw; (try dsimp only at hSw); go_simp; try with_reducible rfl)
    show wpAnyH _ _ _ _ _ _ _ (Act.put _ (some 44) _) _
    (try simp only [Act.put]); (try simp only [List.setIfInBounds_toArray]); (try simp only [List.set_cons_succ, List.set_cons_zero])
    refine wpAnyH_take (i := 12) (v := ?_) rfl (by kernel_rfl) (by kernel_rfl) (by kernel_rfl) (fun _ _ _ h => h) (Or.inl ⟨by kernel_rfl, ?_⟩) HSS.out ?_
    rotate_left
    · (intro u9 hSw; (try dsimp only at hSw); go_simp; try with_reducible rfl)
    show wpAnyH _ _ _ _ _ _ _ (Act.put _ (some 45) _) _
    (try simp only [Act.put]); (try simp only [List.setIfInBounds_toArray]); (try simp only [List.set_cons_succ, List.set_cons_zero])
    refine wpAnyH_take (i := 13) (v := ?_) rfl (by kernel_rfl) (by kernel_rfl) (by kernel_rfl) (fun _ _ _ h => h) (Or.inl ⟨by kernel_rfl, ?_⟩) HSS.out ?_
    rotate_left
    · (intro u9 hSw; (try dsimp only at hSw); go_simp; try with_reducible rfl)
    show wpAnyH _ _ _ _ _ _ _ (Act.put _ (some 46) _) _
    (try simp only [Act.put]); (try simp only [List.setIfInBounds_toArray]); (try simp only [List.set_cons_succ, List.set_cons_zero])
    refine wpAnyH_ready (rs := [14]) (by kernel_rfl) (by simp) ?_
    refine AllReadyH.cons rfl (fun K hK => ?_) AllReadyH.nil
    go_simp
    go_at_call 21
    refine (CBA.out _ HSS.out.2).mono ?_
    rintro e wz ⟨rfl, hb9⟩
    have HS2 : Hid ((wz.cell? ⟨ga, 0, none⟩ = some (.slice ua vs.length uc) ∧ wz.cell? ⟨ga, 1, none⟩ = some (.slice xa cs.length xc) ∧ wz.cell? ⟨ga, 2, none⟩ = some (.string o) ∧ wz.cell? ⟨gb, 0, none⟩ = some (.slice ub us.length ud) ∧ wz.cell? ⟨gb, 1, none⟩ = some (.slice xb ds.length xd) ∧ wz.cell? ⟨gb, 2, none⟩ = some (.string p) ∧ wz.cell? ⟨w3.heap.size, 0, none⟩ = some (.slice ue ts.length uf) ∧ wz.cell? ⟨w3.heap.size, 1, none⟩ = some (.slice xe es.length xf) ∧ wz.cell? ⟨w3.heap.size, 2, none⟩ = some (.string q)) ∧ Hid (Below W5.heap.size W5 wz)) := ⟨⟨cell_up hb9 HSS.out.1.1, cell_up hb9 HSS.out.1.2.1, cell_up hb9 HSS.out.1.2.2.1, cell_up hb9 HSS.out.1.2.2.2.1, cell_up hb9 HSS.out.1.2.2.2.2.1, cell_up hb9 HSS.out.1.2.2.2.2.2.1, cell_up hb9 HSS.out.1.2.2.2.2.2.2.1, cell_up hb9 HSS.out.1.2.2.2.2.2.2.2.1, cell_up hb9 HSS.out.1.2.2.2.2.2.2.2.2⟩, HSS.out.2.out.trans (hb9.mono HSS.out.2.out.size)⟩
    dsimp only
    refine hK.out _ _ HS2.out (fun _ => ?_)
    clear hK K hb9 HSS
    have HSS := hidOf8 HS2.out
    clear HS2
    try show wpAnyH _ _ _ _ _ _ _ (Act.put _ (some 47) _) _
    (try simp only [Act.put]); (try simp only [List.setIfInBounds_toArray]); (try simp only [List.set_cons_succ, List.set_cons_zero])
    refine wpAnyH_take (i := 15) (v := .bool true) rfl (by kernel_rfl) (by kernel_rfl) (by kernel_rfl) (fun _ _ _ h => h) (Or.inl ⟨by kernel_rfl, ?_⟩) HSS.out ?_
    · (intro u9 hSw; (try dsimp only at hSw); go_simp)
    show wpAnyH _ _ _ _ _ _ _ (Act.put _ (some 48) _) _
    (try simp only [Act.put]); (try simp only [List.setIfInBounds_toArray]); (try simp only [List.set_cons_succ, List.set_cons_zero])
    refine wpAnyH_take (i := 16) (v := .bool true) rfl (by kernel_rfl) (by kernel_rfl) (by kernel_rfl) (fun _ _ _ h => h) (Or.inl ⟨by kernel_rfl, ?_⟩) HSS.out ?_
    · (intro u9 hSw; (try dsimp only at hSw); go_simp)
    show wpAnyH _ _ _ _ _ _ _ (Act.put _ (some 49) _) _
    (try simp only [Act.put]); (try simp only [List.setIfInBounds_toArray]); (try simp only [List.set_cons_succ, List.set_cons_zero])
    refine wpAnyH_take (i := 17) (v := .bool true) rfl (by kernel_rfl) (by kernel_rfl) (by kernel_rfl) (fun _ _ _ h => h) (Or.inl ⟨by kernel_rfl, ?_⟩) HSS.out ?_
    · (intro u9 hSw; (try dsimp only at hSw); go_simp)
    show wpAnyH _ _ _ _ _ _ _ (Act.put _ (some 50) _) _
    (try simp only [Act.put]); (try simp only [List.setIfInBounds_toArray]); (try simp only [List.set_cons_succ, List.set_cons_zero])
    refine wpAnyH_take (i := 18) (v := ?_) rfl (by kernel_rfl) (by kernel_rfl) (by kernel_rfl) (fun _ _ _ h => h) (Or.inl ⟨by kernel_rfl, ?_⟩) HSS.out ?_
    rotate_left
    · (intro u9 hSw; (try dsimp only at hSw); go_simp; try with_reducible rfl)
    show wpAnyH _ _ _ _ _ _ _ (Act.put _ (some 51) _) _
    (try simp only [Act.put]); (try simp only [List.setIfInBounds_toArray]); (try simp only [List.set_cons_succ, List.set_cons_zero])
    refine wpAnyH_take (i := 20) (v := ?_) rfl (by kernel_rfl) (by kernel_rfl) (by kernel_rfl) (fun _ _ _ h => h) (Or.inl ⟨by kernel_rfl, ?_⟩) HSS.out ?_
    rotate_left
    · (intro u9 hSw; (try dsimp only at hSw); go_simp; try with_reducible rfl)
    show wpAnyH _ _ _ _ _ _ _ (Act.put _ (some 53) _) _
    (try simp only [Act.put]); (try simp only [List.setIfInBounds_toArray]); (try simp only [List.set_cons_succ, List.set_cons_zero])
    refine wpAnyH_ready (rs := [19]) (by kernel_rfl) (by simp) ?_
    refine AllReadyH.cons rfl (fun K hK => ?_) AllReadyH.nil
    go_simp
    go_at_call 13
    refine (CXI.out _ HSS.out.2).mono ?_
    rintro e wz ⟨rfl, hb9⟩
    have HS2 : Hid ((wz.cell? ⟨ga, 0, none⟩ = some (.slice ua vs.length uc) ∧ wz.cell? ⟨ga, 1, none⟩ = some (.slice xa cs.length xc) ∧ wz.cell? ⟨ga, 2, none⟩ = some (.string o) ∧ wz.cell? ⟨gb, 0, none⟩ = some (.slice ub us.length ud) ∧ wz.cell? ⟨gb, 1, none⟩ = some (.slice xb ds.length xd) ∧ wz.cell? ⟨gb, 2, none⟩ = some (.string p) ∧ wz.cell? ⟨w3.heap.size, 0, none⟩ = some (.slice ue ts.length uf) ∧ wz.cell? ⟨w3.heap.size, 1, none⟩ = some (.slice xe es.length xf) ∧ wz.cell? ⟨w3.heap.size, 2, none⟩ = some (.string q)) ∧ Hid (Below W5.heap.size W5 wz)) := ⟨⟨cell_up hb9 HSS.out.1.1, cell_up hb9 HSS.out.1.2.1, cell_up hb9 HSS.out.1.2.2.1, cell_up hb9 HSS.out.1.2.2.2.1, cell_up hb9 HSS.out.1.2.2.2.2.1, cell_up hb9 HSS.out.1.2.2.2.2.2.1, cell_up hb9 HSS.out.1.2.2.2.2.2.2.1, cell_up hb9 HSS.out.1.2.2.2.2.2.2.2.1, cell_up hb9 HSS.out.1.2.2.2.2.2.2.2.2⟩, HSS.out.2.out.trans (hb9.mono HSS.out.2.out.size)⟩
    dsimp only
    refine hK.out _ _ HS2.out (fun _ => ?_)
    clear hK K hb9 HSS
    have HSS := hidOf8 HS2.out
    clear HS2
    try show wpAnyH _ _ _ _ _ _ _ (Act.put _ (some 52) _) _
    (try simp only [Act.put]); (try simp only [List.setIfInBounds_toArray]); (try simp only [List.set_cons_succ, List.set_cons_zero])
    refine wpAnyH_ready (rs := [21]) (by kernel_rfl) (by simp) ?_
    refine AllReadyH.cons rfl (fun K hK => ?_) AllReadyH.nil
    go_simp
    go_at_call 24
    refine (CXS.out _ HSS.out.2).mono ?_
    rintro e wz ⟨rfl, hb9⟩
    have HS2 : Hid ((wz.cell? ⟨ga, 0, none⟩ = some (.slice ua vs.length uc) ∧ wz.cell? ⟨ga, 1, none⟩ = some (.slice xa cs.length xc) ∧ wz.cell? ⟨ga, 2, none⟩ = some (.string o) ∧ wz.cell? ⟨gb, 0, none⟩ = some (.slice ub us.length ud) ∧ wz.cell? ⟨gb, 1, none⟩ = some (.slice xb ds.length xd) ∧ wz.cell? ⟨gb, 2, none⟩ = some (.string p) ∧ wz.cell? ⟨w3.heap.size, 0, none⟩ = some (.slice ue ts.length uf) ∧ wz.cell? ⟨w3.heap.size, 1, none⟩ = some (.slice xe es.length xf) ∧ wz.cell? ⟨w3.heap.size, 2, none⟩ = some (.string q)) ∧ Hid (Below W5.heap.size W5 wz)) := ⟨⟨cell_up hb9 HSS.out.1.1, cell_up hb9 HSS.out.1.2.1, cell_up hb9 HSS.out.1.2.2.1, cell_up hb9 HSS.out.1.2.2.2.1, cell_up hb9 HSS.out.1.2.2.2.2.1, cell_up hb9 HSS.out.1.2.2.2.2.2.1, cell_up hb9 HSS.out.1.2.2.2.2.2.2.1, cell_up hb9 HSS.out.1.2.2.2.2.2.2.2.1, cell_up hb9 HSS.out.1.2.2.2.2.2.2.2.2⟩, HSS.out.2.out.trans (hb9.mono HSS.out.2.out.size)⟩
    dsimp only
    refine hK.out _ _ HS2.out (fun _ => ?_)
    clear hK K hb9 HSS
    have HSS := hidOf8 HS2.out
    clear HS2
    try show wpAnyH _ _ _ _ _ _ _ (Act.put _ (some 54) _) _
    (try simp only [Act.put]); (try simp only [List.setIfInBounds_toArray]); (try simp only [List.set_cons_succ, List.set_cons_zero])
    refine wpAnyH_take (i := 22) (v := .bool true) rfl (by kernel_rfl) (by kernel_rfl) (by kernel_rfl) (fun _ _ _ h => h) (Or.inl ⟨by kernel_rfl, ?_⟩) HSS.out ?_
    · (intro u9 hSw; (try dsimp only at hSw); go_simp)
    show wpAnyH _ _ _ _ _ _ _ (Act.put _ (some 55) _) _
    (try simp only [Act.put]); (try simp only [List.setIfInBounds_toArray]); (try simp only [List.set_cons_succ, List.set_cons_zero])
    refine wpAnyH_take (i := 23) (v := .bool true) rfl (by kernel_rfl) (by kernel_rfl) (by kernel_rfl) (fun _ _ _ h => h) (Or.inl ⟨by kernel_rfl, ?_⟩) HSS.out ?_
    · (intro u9 hSw; (try dsimp only at hSw); go_simp)
    show wpAnyH _ _ _ _ _ _ _ (Act.put _ (some 56) _) _
    (try simp only [Act.put]); (try simp only [List.setIfInBounds_toArray]); (try simp only [List.set_cons_succ, List.set_cons_zero])
    refine wpAnyH_take (i := 24) (v := .bool true) rfl (by kernel_rfl) (by kernel_rfl) (by kernel_rfl) (fun _ _ _ h => h) (Or.inl ⟨by kernel_rfl, ?_⟩) HSS.out ?_
    · (intro u9 hSw; (try dsimp only at hSw); go_simp)
    show wpAnyH _ _ _ _ _ _ _ (Act.put _ (some 57) _) _
    (try simp only [Act.put]); (try simp only [List.setIfInBounds_toArray]); (try simp only [List.set_cons_succ, List.set_cons_zero])
    refine wpAnyH_take (i := 25) (v := ?_) rfl (by kernel_rfl) (by kernel_rfl) (by kernel_rfl) (fun _ _ _ h => h) (Or.inl ⟨by kernel_rfl, ?_⟩) HSS.out ?_
    rotate_left
    · (intro u9 hSw; (try dsimp only at hSw); go_simp; try with_reducible rfl)
    show wpAnyH _ _ _ _ _ _ _ (Act.put _ (some 58) _) _
    (try simp only [Act.put]); (try simp only [List.setIfInBounds_toArray]); (try simp only [List.set_cons_succ, List.set_cons_zero])
    refine wpAnyH_take (i := 26) (v := .bool false) rfl (by kernel_rfl) (by kernel_rfl) (by kernel_rfl) (fun _ _ _ h => h) (Or.inl ⟨by kernel_rfl, ?_⟩) HSS.out ?_
    · (intro u9 hSw; (try dsimp only at hSw); go_simp)
    show wpAnyH _ _ _ _ _ _ _ (Act.put _ (some 59) _) _
    (try simp only [Act.put]); (try simp only [List.setIfInBounds_toArray]); (try simp only [List.set_cons_succ, List.set_cons_zero])
    refine wpAnyH_take (i := 27) (v := .bool false) rfl (by kernel_rfl) (by kernel_rfl) (by kernel_rfl) (fun _ _ _ h => h) (Or.inl ⟨by kernel_rfl, ?_⟩) HSS.out ?_
    · (intro u9 hSw; (try dsimp only at hSw); go_simp)
    show wpAnyH _ _ _ _ _ _ _ (Act.put _ (some 60) _) _
    (try simp only [Act.put]); (try simp only [List.setIfInBounds_toArray]); (try simp only [List.set_cons_succ, List.set_cons_zero])
    refine wpAnyH_take (i := 28) (v := ?_) rfl (by kernel_rfl) (by kernel_rfl) (by kernel_rfl) (fun _ _ _ h => h) (Or.inl ⟨by kernel_rfl, ?_⟩) HSS.out ?_
    rotate_left
    · (intro u9 hSw; (try dsimp only at hSw); go_simp; try with_reducible rfl)
    show wpAnyH _ _ _ _ _ _ _ (Act.put _ (some 61) _) _
    (try simp only [Act.put]); (try simp only [List.setIfInBounds_toArray]); (try simp only [List.set_cons_succ, List.set_cons_zero])
    refine wpAnyH_take (i := 29) (v := .bool false) rfl (by kernel_rfl) (by kernel_rfl) (by kernel_rfl) (fun _ _ _ h => h) (Or.inl ⟨by kernel_rfl, ?_⟩) HSS.out ?_
    · (intro u9 hSw; (try dsimp only at hSw); go_simp)
    show wpAnyH _ _ _ _ _ _ _ (Act.put _ (some 62) _) _
    (try simp only [Act.put]); (try simp only [List.setIfInBounds_toArray]); (try simp only [List.set_cons_succ, List.set_cons_zero])
    refine wpAnyH_take (i := 30) (v := .bool false) rfl (by kernel_rfl) (by kernel_rfl) (by kernel_rfl) (fun _ _ _ h => h) (Or.inl ⟨by kernel_rfl, ?_⟩) HSS.out ?_
    · (intro u9 hSw; (try dsimp only at hSw); go_simp)
    show wpAnyH _ _ _ _ _ _ _ (Act.put _ (some 63) _) _
    (try simp only [Act.put]); (try simp only [List.setIfInBounds_toArray]); (try simp only [List.set_cons_succ, List.set_cons_zero])
    refine wpAnyH_take (i := 31) (v := .bool false) rfl (by kernel_rfl) (by kernel_rfl) (by kernel_rfl) (fun _ _ _ h => h) (Or.inl ⟨by kernel_rfl, ?_⟩) HSS.out ?_
    · (intro u9 hSw; (try dsimp only at hSw); go_simp)
    show wpAnyH _ _ _ _ _ _ _ (Act.put _ (some 64) _) _
    (try simp only [Act.put]); (try simp only [List.setIfInBounds_toArray]); (try simp only [List.set_cons_succ, List.set_cons_zero])
    refine wpAnyH_take (i := 32) (v := ?_) rfl (by kernel_rfl) (by kernel_rfl) (by kernel_rfl) (fun _ _ _ h => h) (Or.inl ⟨by kernel_rfl, ?_⟩) HSS.out ?_
    rotate_left
    · (intro u9 hSw; (try dsimp only at hSw); go_simp; try with_reducible rfl)
    show wpAnyH _ _ _ _ _ _ _ (Act.put _ (some 65) _) _
    (try simp only [Act.put]); (try simp only [List.setIfInBounds_toArray]); (try simp only [List.set_cons_succ, List.set_cons_zero])
    refine wpAnyH_take (i := 33) (v := ?_) rfl (by kernel_rfl) (by kernel_rfl) (by kernel_rfl) (fun _ _ _ h => h) (Or.inl ⟨by kernel_rfl, ?_⟩) HSS.out ?_
    rotate_left
    · (intro u9 hSw; (try dsimp only at hSw); go_simp; try with_reducible rfl)
    show wpAnyH _ _ _ _ _ _ _ (Act.put _ (some 66) _) _
    (try simp only [Act.put]); (try simp only [List.setIfInBounds_toArray]); (try simp only [List.set_cons_succ, List.set_cons_zero])
    refine wpAnyH_take (i := 34) (v := ?_) rfl (by kernel_rfl) (by kernel_rfl) (by kernel_rfl) (fun _ _ _ h => h) (Or.inl ⟨by kernel_rfl, ?_⟩) HSS.out ?_
    rotate_left
    · (intro u9 hSw; (try dsimp only at hSw); go_simp; try with_reducible rfl)
    show wpAnyH _ _ _ _ _ _ _ (Act.put _ (some 67) _) _
    (try simp only [Act.put]); (try simp only [List.setIfInBounds_toArray]); (try simp only [List.set_cons_succ, List.set_cons_zero])
    refine wpAnyH_take (i := 35) (v := .bool X) rfl (by kernel_rfl) (by kernel_rfl) (by kernel_rfl) (fun _ _ _ h => h) (Or.inl ⟨by kernel_rfl, ?_⟩) HSS.out ?_
    · (intro u9 hSw; (try dsimp only at hSw); go_simp)
    show wpAnyH _ _ _ _ _ _ _ (Act.put _ (some 68) _) _
    (try simp only [Act.put]); (try simp only [List.setIfInBounds_toArray]); (try simp only [List.set_cons_succ, List.set_cons_zero])
    refine wpAnyH_take (i := 36) (v := .bool true) rfl (by kernel_rfl) (by kernel_rfl) (by kernel_rfl) (fun _ _ _ h => h) (Or.inl ⟨by kernel_rfl, ?_⟩) HSS.out ?_
    · (intro u9 hSw; (try dsimp only at hSw); go_simp)
    show wpAnyH _ _ _ _ _ _ _ (Act.put _ (some 69) _) _
    (try simp only [Act.put]); (try simp only [List.setIfInBounds_toArray]); (try simp only [List.set_cons_succ, List.set_cons_zero])
    refine wpAnyH_take (i := 37) (v := .bool true) rfl (by kernel_rfl) (by kernel_rfl) (by kernel_rfl) (fun _ _ _ h => h) (Or.inl ⟨by kernel_rfl, ?_⟩) HSS.out ?_
    · (intro u9 hSw; (try dsimp only at hSw); go_simp)
    show wpAnyH _ _ _ _ _ _ _ (Act.put _ (some 70) _) _
    (try simp only [Act.put]); (try simp only [List.setIfInBounds_toArray]); (try simp only [List.set_cons_succ, List.set_cons_zero])
    refine wpAnyH_take (i := 38) (v := .bool true) rfl (by kernel_rfl) (by kernel_rfl) (by kernel_rfl) (fun _ _ _ h => h) (Or.inl ⟨by kernel_rfl, ?_⟩) HSS.out ?_
    · (intro u9 hSw; (try dsimp only at hSw); go_simp)
    show wpAnyH _ _ _ _ _ _ _ (Act.put _ (some 71) _) _
    (try simp only [Act.put]); (try simp only [List.setIfInBounds_toArray]); (try simp only [List.set_cons_succ, List.set_cons_zero])
    refine wpAnyH_take (i := 39) (v := .bool true) rfl (by kernel_rfl) (by kernel_rfl) (by kernel_rfl) (fun _ _ _ h => h) (Or.inl ⟨by kernel_rfl, ?_⟩) HSS.out ?_
    · (intro u9 hSw; (try dsimp only at hSw); go_simp)
    show wpAnyH _ _ _ _ _ _ _ (Act.put _ (some 2) _) _
    (try simp only [Act.put]); (try simp only [List.setIfInBounds_toArray]); (try simp only [List.set_cons_succ, List.set_cons_zero])
    refine wpAnyH_done (by kernel_rfl) ?_ _
    refine NoPanic.normal ?_
    go_wp2
    go_ret
    exact ⟨by kernel_rfl, HFI.out _ HSS.out.2.out⟩
end Go.Proofs.Ytohhhhkhkgmanaa
