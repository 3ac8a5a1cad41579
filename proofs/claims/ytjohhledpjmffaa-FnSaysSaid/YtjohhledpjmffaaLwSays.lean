/- What is said stands behind what was said, up to so many bytes; nothing else changes: the law. -/
import Derived.Test.YtjohhledpjmffaaDSy
import Derived.Test.YtjohhledpjmffaaZar
import Derived.Test.YtjohhledpjmffaaDmA
import Derived.Test.YtjohhledpjmffaaDmB
import Derived.Test.YtjohhledpjmffaaEqB
import Derived.Test.YtjohhledpjmffaaBig
namespace Go.Proofs.Ytjohhledpjmffaa
open Go.RowKit

namespace St
theorem said_is (o l : ByteArray) : said o l = cut3 (o ++ l ++ ⟨#[10]⟩) := by
  unfold said
  congr 1
  apply ba_ext
  simp
theorem dumped_begins (o name : ByteArray) (cs : List Cl) (h : o.size ≤ 3000) : o.size ≤ (dumped o name cs).size ∧ (dumped o name cs).extract 0 o.size = o := by
  have hl : ∀ b : ByteArray, b.data.toList.length = b.size := fun b => by simp
  have key : (dumped o name cs).data.toList.take o.size = o.data.toList := by
    unfold dumped
    split
    · rw [← hl o, List.take_length]
    · rw [cut3_take, app_list, List.take_take, Nat.min_eq_left h, ← hl o, List.take_left]
  have h1 : o.size ≤ (dumped o name cs).size := by
    have := congrArg List.length key
    rw [List.length_take, hl, hl] at this
    omega
  refine ⟨h1, ba_ext ?_⟩
  rw [ByteArray.data_extract, Array.toList_extract, List.extract_eq_take_drop]
  simpa using key
theorem same_self (vs : List Vr) (cs : List Cl) (o : ByteArray) : same vs vs cs cs o o = true := by
  unfold same
  simp [eqVrs, eqCls, eqVr, eqCl]
end St
set_option maxHeartbeats 800000 in
set_option maxRecDepth 100000 in
theorem begins_yes (a b : ByteArray) (w : World) (h1 : a.size ≤ b.size) (h2 : b.extract 0 a.size = a) :
    Calls Try.prog 25 #[.string a, .string b] w fun e w' => e = .returned (.bool true) ∧ Below w.heap.size w w' := by
  have d1 : decide ((a.size : Int) ≤ (b.size : Int)) = true := decide_eq_true (by omega)
  have i1 : (a.size : Int) ≤ (b.size : Int) := by omega
  have i0 : (0 : Int) ≤ (a.size : Int) := by omega
  have hq : (a.toList == a.toList) = true := by simp
  go_enter Try.func25, Try.ntmps25
  go_wp2
  go_ret
  exact ⟨rfl, Below.refl _ _⟩
set_option maxHeartbeats 8000000 in
set_option maxRecDepth 100000 in
theorem lawSays (ad : Option Addr) (n cap : Nat) (w : World) (hc : n ≤ 1048576 → Code w ad n) :
    Calls Try.prog 5 #[.slice ad n cap] w fun e w' => e = .returned (.bool true) ∧ Below w.heap.size w w' := by
  by_cases hbig : 1048576 < n
  · have CB : Hid (∀ w, Calls Try.prog 8 #[.slice ad n cap] w fun e w' => e = .returned (.bool true) ∧ w' = w) := big_yes ad n cap hbig
    clear hc
    go_enter Try.func5, Try.ntmps5
    go_wp2_with fail
    refine (CB.out _).mono ?_
    rintro e w' ⟨rfl, rfl⟩
    go_wp2
    go_ret
    exact ⟨rfl, Below.refl _ _⟩
  have CB : Hid (∀ w, Calls Try.prog 8 #[.slice ad n cap] w fun e w' => e = .returned (.bool false) ∧ w' = w) := big_no ad n cap hbig
  have HC : Hid (Code w ad n) := hc (by omega)
  have hn : n ≤ 1048576 := by omega
  clear hc hbig
  go_enter Try.func5, Try.ntmps5
  go_wp2_with fail
  refine (CB.out _).mono ?_
  rintro e w0 ⟨rfl, rfl⟩
  clear CB
  go_wp2_with fail
  refine (dSay_any ad n cap w0 hn HC.out).mono ?_
  rintro e w1 ⟨ua, uc, xa, xc, vs, cs, o, t, rfl, hv1, hx1, hf1, ht1, hb1⟩
  have H1 := hidOf8 (And.intro hv1 (And.intro hx1 (And.intro hf1 (And.intro ht1 hb1))))
  clear hv1 hx1 hf1 ht1 hb1
  have q1 := heap_alloc_new w1 (.cells #[.slice ua vs.length uc, .slice xa cs.length xc, .string o] 27)
  have u1 : Below w1.heap.size w1 (w1.alloc (.cells #[.slice ua vs.length uc, .slice xa cs.length xc, .string o] 27)) := (Below.refl _ _).alloc (Nat.le_refl _) _
  have A1 := hidOf8 (And.intro q1 u1)
  have C2 := hidOf8 (imSay (.slice ua vs.length uc) (.slice xa cs.length xc) o ⟨t.toArray⟩ vs cs _ (H1.out.1.keep u1) (H1.out.2.1.keep u1) H1.out.2.2.1.small (by rw [lst8]; have := H1.out.2.2.2.1; omega))
  clear q1 u1
  go_wp2_with fail
  generalize w1.alloc (.cells #[.slice ua vs.length uc, .slice xa cs.length xc, .string o] 27) = W1 at *
  refine C2.out.mono ?_
  rintro e w2 ⟨u2, x2, rfl, hst, hb2⟩
  obtain ⟨mid2, -, -, ⟨ua2, uc2, rfl, -⟩, ⟨xa2, xc2, rfl, -⟩⟩ := hst
  have A2 := hidOf8 (And.intro ((hb2.block _ (blk_lt A1.out.1)).trans A1.out.1) (A1.out.2.trans (hb2.mono A1.out.2.size)))
  have q2 := heap_alloc_new w2 (.cells #[.slice ua2 vs.length uc2, .slice xa2 cs.length xc2, .string (St.said o ⟨t.toArray⟩)] 27)
  have u2 : Below w2.heap.size w2 (w2.alloc (.cells #[.slice ua2 vs.length uc2, .slice xa2 cs.length xc2, .string (St.said o ⟨t.toArray⟩)] 27)) := (Below.refl _ _).alloc (Nat.le_refl _) _
  have A3 := hidOf8 (And.intro q2 (And.intro ((u2.block _ (blk_lt A2.out.1)).trans A2.out.1) (A2.out.2.trans (u2.mono A2.out.2.size))))
  have s2 : ∀ ob : Obj, (w2.alloc ob).cell? ⟨w1.heap.size, 2, none⟩ = some (.string o) := fun ob => (((Below.refl w2.heap.size w2).alloc (Nat.le_refl _) ob).cell (blk_lt A2.out.1)).trans ((blk_cell A2.out.1 2).trans rfl)
  have ho := H1.out.2.2.1.no
  have htl : (⟨t.toArray⟩ : ByteArray).size ≤ 42 := by rw [lst8]; exact H1.out.2.2.2.1
  have n1 : ¬ 9223372036854775807 < o.size + (⟨t.toArray⟩ : ByteArray).size := by omega
  have n2 : ¬ 9223372036854775807 < (o ++ (⟨t.toArray⟩ : ByteArray)).size + 1 := by rw [ByteArray.size_append]; omega
  have hsz : (o ++ ⟨t.toArray⟩ ++ (⟨#[10]⟩ : ByteArray)).size = o.size + (⟨t.toArray⟩ : ByteArray).size + 1 := by rw [ByteArray.size_append, ByteArray.size_append]; rfl
  have HQ3 := hidOf8 A3.out.1
  have HB2 := hidOf8 (And.intro A3.out.2.1 (H1.out.2.2.2.2.trans (A3.out.2.2.mono H1.out.2.2.2.2.size)))
  have HCW := hidOf8 (HC.out.keep HB2.out.2)
  have HSD := hidOf8 (St.said_is o ⟨t.toArray⟩)
  clear hb2 C2 A1 A2 q2 u2 A3 H1 HC
  generalize (⟨t.toArray⟩ : ByteArray) = l at *
  have hcut : (3000 < o.size + l.size + 1 ∧ St.said o l = (o ++ l ++ (⟨#[10]⟩ : ByteArray)).extract 0 3000) ∨ (¬ 3000 < o.size + l.size + 1 ∧ St.said o l = o ++ l ++ (⟨#[10]⟩ : ByteArray)) := by
    rw [HSD.out]
    unfold St.cut3
    rw [hsz]
    by_cases h : 3000 < o.size + l.size + 1
    · exact .inl ⟨h, if_pos h⟩
    · exact .inr ⟨h, if_neg h⟩
  have C3 := hidOf8 (dDump_any ad n cap (w2.alloc (.cells #[.slice ua2 vs.length uc2, .slice xa2 cs.length xc2, .string (St.said o l)] 27)) hn HCW.out)
  have HSZ := hidOf8 hsz
  clear hsz HSD
  generalize St.said o l = S at *
  rcases hcut with ⟨h3, hS⟩ | ⟨h3, hS⟩
  all_goals
    have d3 : decide ((3000 : Int) < (o.size : Int) + (l.size : Int) + 1) = decide (3000 < o.size + l.size + 1) := by
      by_cases h : 3000 < o.size + l.size + 1
      · rw [decide_eq_true h]; exact decide_eq_true (by omega)
      · rw [decide_eq_false h]; exact decide_eq_false (by omega)
    have HS := hidOf8 hS
    clear hS
  · have i3 : (3000 : Int) < (o.size : Int) + (l.size : Int) + 1 := by omega
    clear d3
    go_wp2_with fail
    refine C3.out.mono ?_
    rintro e w3 ⟨va, vc, ya, yc, vs3, cs3, o3, t3, rfl, hv3, hx3, hf3, ht3, hb3⟩
    have q4 := heap_alloc_new w3 (.cells #[.slice va vs3.length vc, .slice ya cs3.length yc, .string o3] 27)
    have u4 : Below w3.heap.size w3 (w3.alloc (.cells #[.slice va vs3.length vc, .slice ya cs3.length yc, .string o3] 27)) := (Below.refl _ _).alloc (Nat.le_refl _) _
    have C4 := hidOf8 (imDump (.slice va vs3.length vc) (.slice ya cs3.length yc) o3 ⟨t3.toArray⟩ vs3 cs3 _ (hv3.keep u4) (hx3.keep u4) hf3.small)
    have hb34 := hb3.trans (u4.mono hb3.size)
    have H4 := hidOf8 (And.intro q4 (And.intro ((hb34.block _ (blk_lt HB2.out.1)).trans HB2.out.1) (And.intro ((hb34.block _ (blk_lt HQ3.out)).trans HQ3.out) (And.intro (HB2.out.2.trans (hb34.mono HB2.out.2.size)) (And.intro (hv3.keep u4) (And.intro (hx3.keep u4) hf3))))))
    clear q4 u4 hb34 hb3 hv3 hx3 hf3 C3 s2
    go_wp2_with fail
    generalize w3.alloc (.cells #[.slice va vs3.length vc, .slice ya cs3.length yc, .string o3] 27) = W3 at *
    refine C4.out.mono ?_
    rintro e w4 ⟨u4, x4, rfl, hst4, hb4⟩
    have hat4 : VrAt w4 u4 vs3 ∧ ClAt w4 x4 cs3 := by
      obtain ⟨mid, -, -, k1, k2⟩ := hst4
      exact ⟨k1.at, k2.at⟩
    obtain ⟨ua4, uc4, rfl, -⟩ := id hat4.1
    obtain ⟨xa4, xc4, rfl, -⟩ := id hat4.2
    obtain ⟨D, hD⟩ : ∃ D, D = St.dumped o3 ⟨t3.toArray⟩ cs3 := ⟨_, rfl⟩
    have u5 : ∀ ob : Obj, Below w4.heap.size w4 (w4.alloc ob) := fun ob => (Below.refl _ _).alloc (Nat.le_refl _) _
    have ks := (hb4.block _ (blk_lt H4.out.2.1)).trans H4.out.2.1
    have kn := (hb4.block _ (blk_lt H4.out.2.2.1)).trans H4.out.2.2.1
    have kt := (hb4.block _ (blk_lt H4.out.1)).trans H4.out.1
    have H5 := hidOf8 (And.intro ks (And.intro kn (And.intro kt (And.intro (H4.out.2.2.2.1.trans (hb4.mono H4.out.2.2.2.1.size)) (And.intro (H4.out.2.2.2.2.1.keep hb4) (And.intro (H4.out.2.2.2.2.2.1.keep hb4) (And.intro H4.out.2.2.2.2.2.2 hat4)))))))
    rw [← hD]
    have HB := hidOf8 (St.dumped_begins o3 ⟨t3.toArray⟩ cs3)
    rw [← hD] at HB
    have HD := hidOf8 hD
    clear hD hst4 hb4 C4 H4 hat4 ks kn kt
    go_wp2_with fail
    have HSS0 : Hid (((w4.alloc (.cells #[.slice ua4 vs3.length uc4, .slice xa4 cs3.length xc4, .string D] 27)).drew.cell? ⟨w1.heap.size, 0, none⟩ = some (.slice ua vs.length uc) ∧ (w4.alloc (.cells #[.slice ua4 vs3.length uc4, .slice xa4 cs3.length xc4, .string D] 27)).drew.cell? ⟨w1.heap.size, 1, none⟩ = some (.slice xa cs.length xc) ∧ (w4.alloc (.cells #[.slice ua4 vs3.length uc4, .slice xa4 cs3.length xc4, .string D] 27)).drew.cell? ⟨w2.heap.size, 0, none⟩ = some (.slice ua2 vs.length uc2) ∧ (w4.alloc (.cells #[.slice ua4 vs3.length uc4, .slice xa4 cs3.length xc4, .string D] 27)).drew.cell? ⟨w2.heap.size, 1, none⟩ = some (.slice xa2 cs.length xc2) ∧ (w4.alloc (.cells #[.slice ua4 vs3.length uc4, .slice xa4 cs3.length xc4, .string D] 27)).drew.cell? ⟨w2.heap.size, 2, none⟩ = some (.string S) ∧ (w4.alloc (.cells #[.slice ua4 vs3.length uc4, .slice xa4 cs3.length xc4, .string D] 27)).drew.cell? ⟨w3.heap.size, 0, none⟩ = some (.slice va vs3.length vc) ∧ (w4.alloc (.cells #[.slice ua4 vs3.length uc4, .slice xa4 cs3.length xc4, .string D] 27)).drew.cell? ⟨w3.heap.size, 1, none⟩ = some (.slice ya cs3.length yc) ∧ (w4.alloc (.cells #[.slice ua4 vs3.length uc4, .slice xa4 cs3.length xc4, .string D] 27)).drew.cell? ⟨w3.heap.size, 2, none⟩ = some (.string o3) ∧ (w4.alloc (.cells #[.slice ua4 vs3.length uc4, .slice xa4 cs3.length xc4, .string D] 27)).drew.cell? ⟨w4.heap.size, 0, none⟩ = some (.slice ua4 vs3.length uc4) ∧ (w4.alloc (.cells #[.slice ua4 vs3.length uc4, .slice xa4 cs3.length xc4, .string D] 27)).drew.cell? ⟨w4.heap.size, 1, none⟩ = some (.slice xa4 cs3.length xc4) ∧ (w4.alloc (.cells #[.slice ua4 vs3.length uc4, .slice xa4 cs3.length xc4, .string D] 27)).drew.cell? ⟨w4.heap.size, 2, none⟩ = some (.string D)) ∧ Hid (Below (w4.alloc (.cells #[.slice ua4 vs3.length uc4, .slice xa4 cs3.length xc4, .string D] 27)).heap.size (w4.alloc (.cells #[.slice ua4 vs3.length uc4, .slice xa4 cs3.length xc4, .string D] 27)) (w4.alloc (.cells #[.slice ua4 vs3.length uc4, .slice xa4 cs3.length xc4, .string D] 27)).drew)) := ⟨⟨(cell_up (u5 _).drew ((blk_cell H5.out.1 0).trans rfl)), (cell_up (u5 _).drew ((blk_cell H5.out.1 1).trans rfl)), (cell_up (u5 _).drew ((blk_cell H5.out.2.1 0).trans rfl)), (cell_up (u5 _).drew ((blk_cell H5.out.2.1 1).trans rfl)), (cell_up (u5 _).drew ((blk_cell H5.out.2.1 2).trans rfl)), (cell_up (u5 _).drew ((blk_cell H5.out.2.2.1 0).trans rfl)), (cell_up (u5 _).drew ((blk_cell H5.out.2.2.1 1).trans rfl)), (cell_up (u5 _).drew ((blk_cell H5.out.2.2.1 2).trans rfl)), (blk_cell (heap_alloc_new w4 _) 0).trans rfl, (blk_cell (heap_alloc_new w4 _) 1).trans rfl, (blk_cell (heap_alloc_new w4 _) 2).trans rfl⟩, (Below.refl _ _).drew⟩
    have HFI : Hid (∀ W', Below (w4.alloc (.cells #[.slice ua4 vs3.length uc4, .slice xa4 cs3.length xc4, .string D] 27)).heap.size (w4.alloc (.cells #[.slice ua4 vs3.length uc4, .slice xa4 cs3.length xc4, .string D] 27)) W' → Below w0.heap.size w0 W') := fun W' hb => H5.out.2.2.2.1.trans (((u5 _).trans (hb.mono (u5 _).size)).mono H5.out.2.2.2.1.size)
    have CD : Hid (∀ W', Hid (Below (w4.alloc (.cells #[.slice ua4 vs3.length uc4, .slice xa4 cs3.length xc4, .string D] 27)).heap.size (w4.alloc (.cells #[.slice ua4 vs3.length uc4, .slice xa4 cs3.length xc4, .string D] 27)) W') → Calls Try.prog 24 #[.agg #[.slice va vs3.length vc, .slice ya cs3.length yc, .string o3], .string ⟨t3.toArray⟩] W' fun e w' => ∃ u x, e = .returned (.agg #[u, x, .string D]) ∧ VrIn W'.heap.size w'.heap.size w' u vs3 ∧ ClIn W'.heap.size w'.heap.size w' x cs3 ∧ Below W'.heap.size W' w') := fun W' hb => by
      rw [HD.out]
      exact spDump _ _ o3 ⟨t3.toArray⟩ vs3 cs3 W' (H5.out.2.2.2.2.1.keep ((u5 _).trans (hb.out.mono (u5 _).size))) (H5.out.2.2.2.2.2.1.keep ((u5 _).trans (hb.out.mono (u5 _).size))) H5.out.2.2.2.2.2.2.1.small
    have CM : Hid (∀ (a9 : Option Addr) (c9 : Nat) (b9 : Option Addr) (d9 : Nat) (W' : World), Hid (Below (w4.alloc (.cells #[.slice ua4 vs3.length uc4, .slice xa4 cs3.length xc4, .string D] 27)).heap.size (w4.alloc (.cells #[.slice ua4 vs3.length uc4, .slice xa4 cs3.length xc4, .string D] 27)) W') → VrAt W' (.slice a9 vs3.length c9) vs3 → ClAt W' (.slice b9 cs3.length d9) cs3 → Calls Try.prog 15 #[.agg #[.slice ua4 vs3.length uc4, .slice xa4 cs3.length xc4, .string D], .agg #[.slice a9 vs3.length c9, .slice b9 cs3.length d9, .string D]] W' fun e w' => e = .returned (.bool true) ∧ Below W'.heap.size W' w') := fun a9 c9 b9 d9 W' hb h1 h2 => by
      have := specSame8 _ _ _ _ D D vs3 vs3 cs3 cs3 W' (H5.out.2.2.2.2.2.2.2.1.keep ((u5 _).trans (hb.out.mono (u5 _).size))) (H5.out.2.2.2.2.2.2.2.2.keep ((u5 _).trans (hb.out.mono (u5 _).size))) h1 h2 (by have := H5.out.2.2.2.2.2.2.1.nv; omega) (by have := H5.out.2.2.2.2.2.2.1.nv; omega) (by have := H5.out.2.2.2.2.2.2.1.nc; omega) (by have := H5.out.2.2.2.2.2.2.1.nc; omega)
      rw [St.same_self] at this
      exact this
    clear H5 u5 HQ3 HB2 HCW HSZ hn n1 n2 ho htl HD ht3
    generalize (w4.alloc (.cells #[.slice ua4 vs3.length uc4, .slice xa4 cs3.length xc4, .string D] 27)) = W5 at *
    have eqS : (S.toList == ((o ++ l ++ (⟨#[10]⟩ : ByteArray)).extract 0 3000).toList) = true := by rw [HS.out]; simp
    refine wp_region_noPanic ?_
    refine wp_region_held_drew (S := (fun W' => (W'.cell? ⟨w1.heap.size, 0, none⟩ = some (.slice ua vs.length uc) ∧ W'.cell? ⟨w1.heap.size, 1, none⟩ = some (.slice xa cs.length xc) ∧ W'.cell? ⟨w2.heap.size, 0, none⟩ = some (.slice ua2 vs.length uc2) ∧ W'.cell? ⟨w2.heap.size, 1, none⟩ = some (.slice xa2 cs.length xc2) ∧ W'.cell? ⟨w2.heap.size, 2, none⟩ = some (.string S) ∧ W'.cell? ⟨w3.heap.size, 0, none⟩ = some (.slice va vs3.length vc) ∧ W'.cell? ⟨w3.heap.size, 1, none⟩ = some (.slice ya cs3.length yc) ∧ W'.cell? ⟨w3.heap.size, 2, none⟩ = some (.string o3) ∧ W'.cell? ⟨w4.heap.size, 0, none⟩ = some (.slice ua4 vs3.length uc4) ∧ W'.cell? ⟨w4.heap.size, 1, none⟩ = some (.slice xa4 cs3.length xc4) ∧ W'.cell? ⟨w4.heap.size, 2, none⟩ = some (.string D)) ∧ Hid (Below W5.heap.size W5 W'))) (by kernel_rfl) HSS0.out (fun _ => ?_)
    have HSS := hidOf8 HSS0.out
    clear HSS0
    refine wpAnyH_take (i := 0) (v := ?_) rfl (by kernel_rfl) (by kernel_rfl) (by kernel_rfl) (fun _ _ _ h => h) (Or.inl ⟨by kernel_rfl, ?_⟩) HSS.out ?_
    rotate_left
    · (intro u9 hSw; (try dsimp only at hSw); go_simp; try with_reducible rfl)
    show wpAnyH _ _ _ _ _ _ _ (Act.put _ (some 38) _) _
    (try simp only [Act.put]); (try simp only [List.setIfInBounds_toArray]); (try simp only [List.set_cons_succ, List.set_cons_zero])
    refine wpAnyH_take (i := 1) (v := ?_) rfl (by kernel_rfl) (by kernel_rfl) (by kernel_rfl) (fun _ _ _ h => h) (Or.inl ⟨by kernel_rfl, ?_⟩) HSS.out ?_
    rotate_left
    · (intro u9 hSw; (try dsimp only at hSw); go_simp; try with_reducible rfl)
    show wpAnyH _ _ _ _ _ _ _ (Act.put _ (some 39) _) _
    (try simp only [Act.put]); (try simp only [List.setIfInBounds_toArray]); (try simp only [List.set_cons_succ, List.set_cons_zero])
    refine wpAnyH_take (i := 2) (v := ?_) rfl (by kernel_rfl) (by kernel_rfl) (by kernel_rfl) (fun _ _ _ h => h) (Or.inl ⟨by kernel_rfl, ?_⟩) HSS.out ?_
    rotate_left
    · (intro u9 hSw; (try dsimp only at hSw); go_simp; try with_reducible rfl)
    show wpAnyH _ _ _ _ _ _ _ (Act.put _ (some 40) _) _
    (try simp only [Act.put]); (try simp only [List.setIfInBounds_toArray]); (try simp only [List.set_cons_succ, List.set_cons_zero])
    refine wpAnyH_take (i := 3) (v := .bool true) rfl (by kernel_rfl) (by kernel_rfl) (by kernel_rfl) (fun _ _ _ h => h) (Or.inl ⟨by kernel_rfl, ?_⟩) HSS.out ?_
    · (intro u9 hSw; (try dsimp only at hSw); go_simp)
    show wpAnyH _ _ _ _ _ _ _ (Act.put _ (some 41) _) _
    (try simp only [Act.put]); (try simp only [List.setIfInBounds_toArray]); (try simp only [List.set_cons_succ, List.set_cons_zero])
    refine wpAnyH_take (i := 4) (v := .bool true) rfl (by kernel_rfl) (by kernel_rfl) (by kernel_rfl) (fun _ _ _ h => h) (Or.inl ⟨by kernel_rfl, ?_⟩) HSS.out ?_
    · (intro u9 hSw; (try dsimp only at hSw); go_simp)
    show wpAnyH _ _ _ _ _ _ _ (Act.put _ (some 42) _) _
    (try simp only [Act.put]); (try simp only [List.setIfInBounds_toArray]); (try simp only [List.set_cons_succ, List.set_cons_zero])
    refine wpAnyH_take (i := 5) (v := ?_) rfl (by kernel_rfl) (by kernel_rfl) (by kernel_rfl) (fun _ _ _ h => h) (Or.inl ⟨by kernel_rfl, ?_⟩) HSS.out ?_
    rotate_left
    · (intro u9 hSw; (try dsimp only at hSw); go_simp; try with_reducible rfl)
    show wpAnyH _ _ _ _ _ _ _ (Act.put _ (some 43) _) _
    (try simp only [Act.put]); (try simp only [List.setIfInBounds_toArray]); (try simp only [List.set_cons_succ, List.set_cons_zero])
    refine wpAnyH_take (i := 6) (v := ?_) rfl (by kernel_rfl) (by kernel_rfl) (by kernel_rfl) (fun _ _ _ h => h) (Or.inl ⟨by kernel_rfl, ?_⟩) HSS.out ?_
    rotate_left
    · (intro u9 hSw; (try dsimp only at hSw); go_simp; try with_reducible rfl)
    show wpAnyH _ _ _ _ _ _ _ (Act.put _ (some 44) _) _
    (try simp only [Act.put]); (try simp only [List.setIfInBounds_toArray]); (try simp only [List.set_cons_succ, List.set_cons_zero])
    refine wpAnyH_take (i := 7) (v := ?_) rfl (by kernel_rfl) (by kernel_rfl) (by kernel_rfl) (fun _ _ _ h => h) (Or.inl ⟨by kernel_rfl, ?_⟩) HSS.out ?_
    rotate_left
    · (intro u9 hSw; (try dsimp only at hSw); go_simp; try with_reducible rfl)
    show wpAnyH _ _ _ _ _ _ _ (Act.put _ (some 45) _) _
    (try simp only [Act.put]); (try simp only [List.setIfInBounds_toArray]); (try simp only [List.set_cons_succ, List.set_cons_zero])
    refine wpAnyH_take (i := 8) (v := ?_) rfl (by kernel_rfl) (by kernel_rfl) (by kernel_rfl) (fun _ _ _ h => h) (Or.inl ⟨by kernel_rfl, ?_⟩) HSS.out ?_
    rotate_left
    · (intro u9 hSw; (try dsimp only at hSw); go_simp; try with_reducible rfl)
    show wpAnyH _ _ _ _ _ _ _ (Act.put _ (some 46) _) _
    (try simp only [Act.put]); (try simp only [List.setIfInBounds_toArray]); (try simp only [List.set_cons_succ, List.set_cons_zero])
    refine wpAnyH_take (i := 9) (v := ?_) rfl (by kernel_rfl) (by kernel_rfl) (by kernel_rfl) (fun _ _ _ h => h) (Or.inl ⟨by kernel_rfl, ?_⟩) HSS.out ?_
    rotate_left
    · (intro u9 hSw; (try dsimp only at hSw); go_simp; try with_reducible rfl)
    show wpAnyH _ _ _ _ _ _ _ (Act.put _ (some 47) _) _
    (try simp only [Act.put]); (try simp only [List.setIfInBounds_toArray]); (try simp only [List.set_cons_succ, List.set_cons_zero])
    refine wpAnyH_take (i := 10) (v := ?_) rfl (by kernel_rfl) (by kernel_rfl) (by kernel_rfl) (fun _ _ _ h => h) (Or.inl ⟨by kernel_rfl, ?_⟩) HSS.out ?_
    rotate_left
    · (intro u9 hSw; (try dsimp only at hSw); go_simp; try with_reducible rfl)
    show wpAnyH _ _ _ _ _ _ _ (Act.put _ (some 48) _) _
    (try simp only [Act.put]); (try simp only [List.setIfInBounds_toArray]); (try simp only [List.set_cons_succ, List.set_cons_zero])
    refine wpAnyH_take (i := 11) (v := .bool true) rfl (by kernel_rfl) (by kernel_rfl) (by kernel_rfl) (fun _ _ _ h => h) (Or.inl ⟨by kernel_rfl, ?_⟩) HSS.out ?_
    · (intro u9 hSw; (try dsimp only at hSw); go_simp)
    show wpAnyH _ _ _ _ _ _ _ (Act.put _ (some 49) _) _
    (try simp only [Act.put]); (try simp only [List.setIfInBounds_toArray]); (try simp only [List.set_cons_succ, List.set_cons_zero])
    refine wpAnyH_take (i := 12) (v := .bool true) rfl (by kernel_rfl) (by kernel_rfl) (by kernel_rfl) (fun _ _ _ h => h) (Or.inl ⟨by kernel_rfl, ?_⟩) HSS.out ?_
    · (intro u9 hSw; (try dsimp only at hSw); go_simp)
    show wpAnyH _ _ _ _ _ _ _ (Act.put _ (some 50) _) _
    (try simp only [Act.put]); (try simp only [List.setIfInBounds_toArray]); (try simp only [List.set_cons_succ, List.set_cons_zero])
    refine wpAnyH_take (i := 13) (v := .bool true) rfl (by kernel_rfl) (by kernel_rfl) (by kernel_rfl) (fun _ _ _ h => h) (Or.inl ⟨by kernel_rfl, ?_⟩) HSS.out ?_
    · (intro u9 hSw; (try dsimp only at hSw); go_simp)
    show wpAnyH _ _ _ _ _ _ _ (Act.put _ (some 51) _) _
    (try simp only [Act.put]); (try simp only [List.setIfInBounds_toArray]); (try simp only [List.set_cons_succ, List.set_cons_zero])
    refine wpAnyH_take (i := 14) (v := ?_) rfl (by kernel_rfl) (by kernel_rfl) (by kernel_rfl) (fun _ _ _ h => h) (Or.inl ⟨by kernel_rfl, ?_⟩) HSS.out ?_
    rotate_left
    · (intro u9 hSw; (try dsimp only at hSw); go_simp; try with_reducible rfl)
    show wpAnyH _ _ _ _ _ _ _ (Act.put _ (some 52) _) _
    (try simp only [Act.put]); (try simp only [List.setIfInBounds_toArray]); (try simp only [List.set_cons_succ, List.set_cons_zero])
    refine wpAnyH_take (i := 15) (v := ?_) rfl (by kernel_rfl) (by kernel_rfl) (by kernel_rfl) (fun _ _ _ h => h) (Or.inl ⟨by kernel_rfl, ?_⟩) HSS.out ?_
    rotate_left
    · (intro u9 hSw; (try dsimp only at hSw); go_simp; try with_reducible rfl)
    show wpAnyH _ _ _ _ _ _ _ (Act.put _ (some 53) _) _
    (try simp only [Act.put]); (try simp only [List.setIfInBounds_toArray]); (try simp only [List.set_cons_succ, List.set_cons_zero])
    refine wpAnyH_take (i := 16) (v := ?_) rfl (by kernel_rfl) (by kernel_rfl) (by kernel_rfl) (fun _ _ _ h => h) (Or.inl ⟨by kernel_rfl, ?_⟩) HSS.out ?_
    rotate_left
    · (intro u9 hSw; (try dsimp only at hSw); go_simp; try with_reducible rfl)
    show wpAnyH _ _ _ _ _ _ _ (Act.put _ (some 54) _) _
    (try simp only [Act.put]); (try simp only [List.setIfInBounds_toArray]); (try simp only [List.set_cons_succ, List.set_cons_zero])
    refine wpAnyH_take (i := 17) (v := ?_) rfl (by kernel_rfl) (by kernel_rfl) (by kernel_rfl) (fun _ _ _ h => h) (Or.inl ⟨by kernel_rfl, ?_⟩) HSS.out ?_
    rotate_left
    · (intro u9 hSw; (try dsimp only at hSw); go_simp; try with_reducible rfl)
    show wpAnyH _ _ _ _ _ _ _ (Act.put _ (some 55) _) _
    (try simp only [Act.put]); (try simp only [List.setIfInBounds_toArray]); (try simp only [List.set_cons_succ, List.set_cons_zero])
    refine wpAnyH_take (i := 18) (v := ?_) rfl (by kernel_rfl) (by kernel_rfl) (by kernel_rfl) (fun _ _ _ h => h) (Or.inl ⟨by kernel_rfl, ?_⟩) HSS.out ?_
    rotate_left
    · (intro u9 hSw; (try dsimp only at hSw); go_simp; try with_reducible rfl)
    show wpAnyH _ _ _ _ _ _ _ (Act.put _ (some 56) _) _
    (try simp only [Act.put]); (try simp only [List.setIfInBounds_toArray]); (try simp only [List.set_cons_succ, List.set_cons_zero])
    refine wpAnyH_take (i := 19) (v := ?_) rfl (by kernel_rfl) (by kernel_rfl) (by kernel_rfl) (fun _ _ _ h => h) (Or.inl ⟨by kernel_rfl, ?_⟩) HSS.out ?_
    rotate_left
    · (intro u9 hSw; (try dsimp only at hSw); go_simp; try with_reducible rfl)
    show wpAnyH _ _ _ _ _ _ _ (Act.put _ (some 57) _) _
    (try simp only [Act.put]); (try simp only [List.setIfInBounds_toArray]); (try simp only [List.set_cons_succ, List.set_cons_zero])
    refine wpAnyH_take (i := 20) (v := .bool true) rfl (by kernel_rfl) (by kernel_rfl) (by kernel_rfl) (fun _ _ _ h => h) (Or.inl ⟨by kernel_rfl, ?_⟩) HSS.out ?_
    · (intro u9 hSw; (try dsimp only at hSw); go_simp)
    show wpAnyH _ _ _ _ _ _ _ (Act.put _ (some 58) _) _
    (try simp only [Act.put]); (try simp only [List.setIfInBounds_toArray]); (try simp only [List.set_cons_succ, List.set_cons_zero])
    refine wpAnyH_take (i := 21) (v := .bool true) rfl (by kernel_rfl) (by kernel_rfl) (by kernel_rfl) (fun _ _ _ h => h) (Or.inl ⟨by kernel_rfl, ?_⟩) HSS.out ?_
    · (intro u9 hSw; (try dsimp only at hSw); go_simp)
    show wpAnyH _ _ _ _ _ _ _ (Act.put _ (some 59) _) _
    (try simp only [Act.put]); (try simp only [List.setIfInBounds_toArray]); (try simp only [List.set_cons_succ, List.set_cons_zero])
    refine wpAnyH_take (i := 22) (v := .bool true) rfl (by kernel_rfl) (by kernel_rfl) (by kernel_rfl) (fun _ _ _ h => h) (Or.inl ⟨by kernel_rfl, ?_⟩) HSS.out ?_
    · (intro u9 hSw; (try dsimp only at hSw); go_simp)
    show wpAnyH _ _ _ _ _ _ _ (Act.put _ (some 60) _) _
    (try simp only [Act.put]); (try simp only [List.setIfInBounds_toArray]); (try simp only [List.set_cons_succ, List.set_cons_zero])
    refine wpAnyH_take (i := 23) (v := ?_) rfl (by kernel_rfl) (by kernel_rfl) (by kernel_rfl) (fun _ _ _ h => h) (Or.inl ⟨by kernel_rfl, ?_⟩) HSS.out ?_
    rotate_left
    · (intro u9 hSw; (try dsimp only at hSw); go_simp; try with_reducible rfl)
    show wpAnyH _ _ _ _ _ _ _ (Act.put _ (some 61) _) _
    (try simp only [Act.put]); (try simp only [List.setIfInBounds_toArray]); (try simp only [List.set_cons_succ, List.set_cons_zero])
    refine wpAnyH_take (i := 24) (v := ?_) rfl (by kernel_rfl) (by kernel_rfl) (by kernel_rfl) (fun _ _ _ h => h) (Or.inl ⟨by kernel_rfl, ?_⟩) HSS.out ?_
    rotate_left
    · (intro u9 hSw; (try dsimp only at hSw); go_simp; try with_reducible rfl)
    show wpAnyH _ _ _ _ _ _ _ (Act.put _ (some 62) _) _
    (try simp only [Act.put]); (try simp only [List.setIfInBounds_toArray]); (try simp only [List.set_cons_succ, List.set_cons_zero])
    refine wpAnyH_take (i := 25) (v := ?_) rfl (by kernel_rfl) (by kernel_rfl) (by kernel_rfl) (fun _ _ _ h => h) (Or.inl ⟨by kernel_rfl, ?_⟩) HSS.out ?_
    rotate_left
    · (intro u9 hSw; (try dsimp only at hSw); go_simp; try with_reducible rfl)
    show wpAnyH _ _ _ _ _ _ _ (Act.put _ (some 63) _) _
    (try simp only [Act.put]); (try simp only [List.setIfInBounds_toArray]); (try simp only [List.set_cons_succ, List.set_cons_zero])
    refine wpAnyH_ready (rs := [26]) (by kernel_rfl) (by simp) ?_
    refine AllReadyH.cons rfl (fun K hK => ?_) AllReadyH.nil
    go_simp
    go_at_call 24
    refine (CD.out _ HSS.out.2).mono ?_
    rintro e wz ⟨u9, x9, rfl, hu9, hx9, hb9⟩
    obtain ⟨ua9, uc9, rfl, -⟩ := id hu9
    obtain ⟨xa9, xc9, rfl, -⟩ := id hx9
    have HR9 := hidOf8 (And.intro hu9.at hx9.at)
    clear hu9 hx9
    have HS2 : Hid ((wz.cell? ⟨w1.heap.size, 0, none⟩ = some (.slice ua vs.length uc) ∧ wz.cell? ⟨w1.heap.size, 1, none⟩ = some (.slice xa cs.length xc) ∧ wz.cell? ⟨w2.heap.size, 0, none⟩ = some (.slice ua2 vs.length uc2) ∧ wz.cell? ⟨w2.heap.size, 1, none⟩ = some (.slice xa2 cs.length xc2) ∧ wz.cell? ⟨w2.heap.size, 2, none⟩ = some (.string S) ∧ wz.cell? ⟨w3.heap.size, 0, none⟩ = some (.slice va vs3.length vc) ∧ wz.cell? ⟨w3.heap.size, 1, none⟩ = some (.slice ya cs3.length yc) ∧ wz.cell? ⟨w3.heap.size, 2, none⟩ = some (.string o3) ∧ wz.cell? ⟨w4.heap.size, 0, none⟩ = some (.slice ua4 vs3.length uc4) ∧ wz.cell? ⟨w4.heap.size, 1, none⟩ = some (.slice xa4 cs3.length xc4) ∧ wz.cell? ⟨w4.heap.size, 2, none⟩ = some (.string D)) ∧ Hid (Below W5.heap.size W5 wz)) := ⟨⟨cell_up hb9 HSS.out.1.1, cell_up hb9 HSS.out.1.2.1, cell_up hb9 HSS.out.1.2.2.1, cell_up hb9 HSS.out.1.2.2.2.1, cell_up hb9 HSS.out.1.2.2.2.2.1, cell_up hb9 HSS.out.1.2.2.2.2.2.1, cell_up hb9 HSS.out.1.2.2.2.2.2.2.1, cell_up hb9 HSS.out.1.2.2.2.2.2.2.2.1, cell_up hb9 HSS.out.1.2.2.2.2.2.2.2.2.1, cell_up hb9 HSS.out.1.2.2.2.2.2.2.2.2.2.1, cell_up hb9 HSS.out.1.2.2.2.2.2.2.2.2.2.2⟩, HSS.out.2.out.trans (hb9.mono HSS.out.2.out.size)⟩
    dsimp only
    refine hK.out _ _ HS2.out (fun _ => ?_)
    clear hK K hb9 HSS
    have HSS := hidOf8 HS2.out
    clear HS2
    try show wpAnyH _ _ _ _ _ _ _ (Act.put _ (some 64) _) _
    (try simp only [Act.put]); (try simp only [List.setIfInBounds_toArray]); (try simp only [List.set_cons_succ, List.set_cons_zero])
    refine wpAnyH_ready (rs := [27]) (by kernel_rfl) (by simp) ?_
    refine AllReadyH.cons rfl (fun K hK => ?_) AllReadyH.nil
    go_simp
    go_at_call 15
    refine (CM.out _ _ _ _ _ HSS.out.2 HR9.out.1 HR9.out.2).mono ?_
    rintro e wz ⟨rfl, hb9⟩
    have HS2 : Hid ((wz.cell? ⟨w1.heap.size, 0, none⟩ = some (.slice ua vs.length uc) ∧ wz.cell? ⟨w1.heap.size, 1, none⟩ = some (.slice xa cs.length xc) ∧ wz.cell? ⟨w2.heap.size, 0, none⟩ = some (.slice ua2 vs.length uc2) ∧ wz.cell? ⟨w2.heap.size, 1, none⟩ = some (.slice xa2 cs.length xc2) ∧ wz.cell? ⟨w2.heap.size, 2, none⟩ = some (.string S) ∧ wz.cell? ⟨w3.heap.size, 0, none⟩ = some (.slice va vs3.length vc) ∧ wz.cell? ⟨w3.heap.size, 1, none⟩ = some (.slice ya cs3.length yc) ∧ wz.cell? ⟨w3.heap.size, 2, none⟩ = some (.string o3) ∧ wz.cell? ⟨w4.heap.size, 0, none⟩ = some (.slice ua4 vs3.length uc4) ∧ wz.cell? ⟨w4.heap.size, 1, none⟩ = some (.slice xa4 cs3.length xc4) ∧ wz.cell? ⟨w4.heap.size, 2, none⟩ = some (.string D)) ∧ Hid (Below W5.heap.size W5 wz)) := ⟨⟨cell_up hb9 HSS.out.1.1, cell_up hb9 HSS.out.1.2.1, cell_up hb9 HSS.out.1.2.2.1, cell_up hb9 HSS.out.1.2.2.2.1, cell_up hb9 HSS.out.1.2.2.2.2.1, cell_up hb9 HSS.out.1.2.2.2.2.2.1, cell_up hb9 HSS.out.1.2.2.2.2.2.2.1, cell_up hb9 HSS.out.1.2.2.2.2.2.2.2.1, cell_up hb9 HSS.out.1.2.2.2.2.2.2.2.2.1, cell_up hb9 HSS.out.1.2.2.2.2.2.2.2.2.2.1, cell_up hb9 HSS.out.1.2.2.2.2.2.2.2.2.2.2⟩, HSS.out.2.out.trans (hb9.mono HSS.out.2.out.size)⟩
    dsimp only
    refine hK.out _ _ HS2.out (fun _ => ?_)
    clear hK K hb9 HSS
    have HSS := hidOf8 HS2.out
    clear HS2
    try show wpAnyH _ _ _ _ _ _ _ (Act.put _ (some 65) _) _
    (try simp only [Act.put]); (try simp only [List.setIfInBounds_toArray]); (try simp only [List.set_cons_succ, List.set_cons_zero])
    refine wpAnyH_take (i := 28) (v := .bool true) rfl (by kernel_rfl) (by kernel_rfl) (by kernel_rfl) (fun _ _ _ h => h) (Or.inl ⟨by kernel_rfl, ?_⟩) HSS.out ?_
    · (intro u9 hSw; (try dsimp only at hSw); go_simp)
    show wpAnyH _ _ _ _ _ _ _ (Act.put _ (some 66) _) _
    (try simp only [Act.put]); (try simp only [List.setIfInBounds_toArray]); (try simp only [List.set_cons_succ, List.set_cons_zero])
    refine wpAnyH_take (i := 29) (v := .bool true) rfl (by kernel_rfl) (by kernel_rfl) (by kernel_rfl) (fun _ _ _ h => h) (Or.inl ⟨by kernel_rfl, ?_⟩) HSS.out ?_
    · (intro u9 hSw; (try dsimp only at hSw); go_simp)
    show wpAnyH _ _ _ _ _ _ _ (Act.put _ (some 67) _) _
    (try simp only [Act.put]); (try simp only [List.setIfInBounds_toArray]); (try simp only [List.set_cons_succ, List.set_cons_zero])
    refine wpAnyH_take (i := 30) (v := ?_) rfl (by kernel_rfl) (by kernel_rfl) (by kernel_rfl) (fun _ _ _ h => h) (Or.inl ⟨by kernel_rfl, ?_⟩) HSS.out ?_
    rotate_left
    · (intro u9 hSw; (try dsimp only at hSw); go_simp; try with_reducible rfl)
    show wpAnyH _ _ _ _ _ _ _ (Act.put _ (some 68) _) _
    (try simp only [Act.put]); (try simp only [List.setIfInBounds_toArray]); (try simp only [List.set_cons_succ, List.set_cons_zero])
    refine wpAnyH_take (i := 31) (v := ?_) rfl (by kernel_rfl) (by kernel_rfl) (by kernel_rfl) (fun _ _ _ h => h) (Or.inl ⟨by kernel_rfl, ?_⟩) HSS.out ?_
    rotate_left
    · (intro u9 hSw; (try dsimp only at hSw); go_simp; try with_reducible rfl)
    show wpAnyH _ _ _ _ _ _ _ (Act.put _ (some 69) _) _
    (try simp only [Act.put]); (try simp only [List.setIfInBounds_toArray]); (try simp only [List.set_cons_succ, List.set_cons_zero])
    refine wpAnyH_take (i := 32) (v := ?_) rfl (by kernel_rfl) (by kernel_rfl) (by kernel_rfl) (fun _ _ _ h => h) (Or.inl ⟨by kernel_rfl, ?_⟩) HSS.out ?_
    rotate_left
    · (intro u9 hSw; (try dsimp only at hSw); go_simp; try with_reducible rfl)
    show wpAnyH _ _ _ _ _ _ _ (Act.put _ (some 70) _) _
    (try simp only [Act.put]); (try simp only [List.setIfInBounds_toArray]); (try simp only [List.set_cons_succ, List.set_cons_zero])
    by_cases hbg : 3000 < o3.size
    · have dbg : decide ((3000 : Int) < (o3.size : Int)) = true := decide_eq_true (by omega)
      refine wpAnyH_take (i := 33) (v := .bool true) rfl (by kernel_rfl) (by kernel_rfl) (by kernel_rfl) (fun _ _ _ h => h) (Or.inl ⟨by kernel_rfl, ?_⟩) HSS.out ?_
      · (intro u9 hSw; (try dsimp only at hSw); go_simp)
      show wpAnyH _ _ _ _ _ _ _ (Act.put _ (some 71) _) _
      (try simp only [Act.put]); (try simp only [List.setIfInBounds_toArray]); (try simp only [List.set_cons_succ, List.set_cons_zero])
      refine wpAnyH_take (i := 34) (v := .bool true) rfl (by kernel_rfl) (by kernel_rfl) (by kernel_rfl) (fun _ _ _ h => h) (Or.inl ⟨by kernel_rfl, ?_⟩) HSS.out ?_
      · (intro u9 hSw; (try dsimp only at hSw); go_simp)
      show wpAnyH _ _ _ _ _ _ _ (Act.put _ (some 72) _) _
      (try simp only [Act.put]); (try simp only [List.setIfInBounds_toArray]); (try simp only [List.set_cons_succ, List.set_cons_zero])
      refine wpAnyH_take (i := 35) (v := undef) rfl (by kernel_rfl) (by kernel_rfl) (by kernel_rfl) (fun _ _ _ h => h) (Or.inr ⟨by kernel_rfl, rfl⟩) HSS.out ?_
      show wpAnyH _ _ _ _ _ _ _ (Act.put _ (some 73) _) _
      (try simp only [Act.put]); (try simp only [List.setIfInBounds_toArray]); (try simp only [List.set_cons_succ, List.set_cons_zero])
      refine wpAnyH_take (i := 36) (v := undef) rfl (by kernel_rfl) (by kernel_rfl) (by kernel_rfl) (fun _ _ _ h => h) (Or.inr ⟨by kernel_rfl, rfl⟩) HSS.out ?_
      show wpAnyH _ _ _ _ _ _ _ (Act.put _ (some 74) _) _
      (try simp only [Act.put]); (try simp only [List.setIfInBounds_toArray]); (try simp only [List.set_cons_succ, List.set_cons_zero])
      refine wpAnyH_take (i := 37) (v := undef) rfl (by kernel_rfl) (by kernel_rfl) (by kernel_rfl) (fun _ _ _ h => h) (Or.inr ⟨by kernel_rfl, rfl⟩) HSS.out ?_
      show wpAnyH _ _ _ _ _ _ _ (Act.put _ (some 75) _) _
      (try simp only [Act.put]); (try simp only [List.setIfInBounds_toArray]); (try simp only [List.set_cons_succ, List.set_cons_zero])
      refine wpAnyH_take (i := 38) (v := undef) rfl (by kernel_rfl) (by kernel_rfl) (by kernel_rfl) (fun _ _ _ h => h) (Or.inr ⟨by kernel_rfl, rfl⟩) HSS.out ?_
      show wpAnyH _ _ _ _ _ _ _ (Act.put _ (some 76) _) _
      (try simp only [Act.put]); (try simp only [List.setIfInBounds_toArray]); (try simp only [List.set_cons_succ, List.set_cons_zero])
      refine wpAnyH_take (i := 39) (v := undef) rfl (by kernel_rfl) (by kernel_rfl) (by kernel_rfl) (fun _ _ _ h => h) (Or.inr ⟨by kernel_rfl, rfl⟩) HSS.out ?_
      show wpAnyH _ _ _ _ _ _ _ (Act.put _ (some 77) _) _
      (try simp only [Act.put]); (try simp only [List.setIfInBounds_toArray]); (try simp only [List.set_cons_succ, List.set_cons_zero])
      refine wpAnyH_take (i := 40) (v := .bool true) rfl (by kernel_rfl) (by kernel_rfl) (by kernel_rfl) (fun _ _ _ h => h) (Or.inl ⟨by kernel_rfl, ?_⟩) HSS.out ?_
      · (intro u9 hSw; (try dsimp only at hSw); go_simp)
      show wpAnyH _ _ _ _ _ _ _ (Act.put _ (some 78) _) _
      (try simp only [Act.put]); (try simp only [List.setIfInBounds_toArray]); (try simp only [List.set_cons_succ, List.set_cons_zero])
      refine wpAnyH_take (i := 41) (v := .bool true) rfl (by kernel_rfl) (by kernel_rfl) (by kernel_rfl) (fun _ _ _ h => h) (Or.inl ⟨by kernel_rfl, ?_⟩) HSS.out ?_
      · (intro u9 hSw; (try dsimp only at hSw); go_simp)
      show wpAnyH _ _ _ _ _ _ _ (Act.put _ (some 79) _) _
      (try simp only [Act.put]); (try simp only [List.setIfInBounds_toArray]); (try simp only [List.set_cons_succ, List.set_cons_zero])
      refine wpAnyH_take (i := 42) (v := .bool true) rfl (by kernel_rfl) (by kernel_rfl) (by kernel_rfl) (fun _ _ _ h => h) (Or.inl ⟨by kernel_rfl, ?_⟩) HSS.out ?_
      · (intro u9 hSw; (try dsimp only at hSw); go_simp)
      show wpAnyH _ _ _ _ _ _ _ (Act.put _ (some 80) _) _
      (try simp only [Act.put]); (try simp only [List.setIfInBounds_toArray]); (try simp only [List.set_cons_succ, List.set_cons_zero])
      refine wpAnyH_take (i := 43) (v := ?_) rfl (by kernel_rfl) (by kernel_rfl) (by kernel_rfl) (fun _ _ _ h => h) (Or.inl ⟨by kernel_rfl, ?_⟩) HSS.out ?_
      rotate_left
      · (intro u9 hSw; (try dsimp only at hSw); go_simp; try with_reducible rfl)
      show wpAnyH _ _ _ _ _ _ _ (Act.put _ (some 81) _) _
      (try simp only [Act.put]); (try simp only [List.setIfInBounds_toArray]); (try simp only [List.set_cons_succ, List.set_cons_zero])
      refine wpAnyH_take (i := 44) (v := ?_) rfl (by kernel_rfl) (by kernel_rfl) (by kernel_rfl) (fun _ _ _ h => h) (Or.inl ⟨by kernel_rfl, ?_⟩) HSS.out ?_
      rotate_left
      · (intro u9 hSw; (try dsimp only at hSw); go_simp; try with_reducible rfl)
      show wpAnyH _ _ _ _ _ _ _ (Act.put _ (some 82) _) _
      (try simp only [Act.put]); (try simp only [List.setIfInBounds_toArray]); (try simp only [List.set_cons_succ, List.set_cons_zero])
      refine wpAnyH_take (i := 45) (v := ?_) rfl (by kernel_rfl) (by kernel_rfl) (by kernel_rfl) (fun _ _ _ h => h) (Or.inl ⟨by kernel_rfl, ?_⟩) HSS.out ?_
      rotate_left
      · (intro u9 hSw; (try dsimp only at hSw); go_simp; try with_reducible rfl)
      show wpAnyH _ _ _ _ _ _ _ (Act.put _ (some 83) _) _
      (try simp only [Act.put]); (try simp only [List.setIfInBounds_toArray]); (try simp only [List.set_cons_succ, List.set_cons_zero])
      refine wpAnyH_take (i := 46) (v := ?_) rfl (by kernel_rfl) (by kernel_rfl) (by kernel_rfl) (fun _ _ _ h => h) (Or.inl ⟨by kernel_rfl, ?_⟩) HSS.out ?_
      rotate_left
      · (intro u9 hSw; (try dsimp only at hSw); go_simp; try with_reducible rfl)
      show wpAnyH _ _ _ _ _ _ _ (Act.put _ (some 84) _) _
      (try simp only [Act.put]); (try simp only [List.setIfInBounds_toArray]); (try simp only [List.set_cons_succ, List.set_cons_zero])
      refine wpAnyH_take (i := 47) (v := ?_) rfl (by kernel_rfl) (by kernel_rfl) (by kernel_rfl) (fun _ _ _ h => h) (Or.inl ⟨by kernel_rfl, ?_⟩) HSS.out ?_
      rotate_left
      · (intro u9 hSw; (try dsimp only at hSw); go_simp; try with_reducible rfl)
      show wpAnyH _ _ _ _ _ _ _ (Act.put _ (some 85) _) _
      (try simp only [Act.put]); (try simp only [List.setIfInBounds_toArray]); (try simp only [List.set_cons_succ, List.set_cons_zero])
      refine wpAnyH_take (i := 48) (v := ?_) rfl (by kernel_rfl) (by kernel_rfl) (by kernel_rfl) (fun _ _ _ h => h) (Or.inl ⟨by kernel_rfl, ?_⟩) HSS.out ?_
      rotate_left
      · (intro u9 hSw; (try dsimp only at hSw); go_simp; try with_reducible rfl)
      show wpAnyH _ _ _ _ _ _ _ (Act.put _ (some 86) _) _
      (try simp only [Act.put]); (try simp only [List.setIfInBounds_toArray]); (try simp only [List.set_cons_succ, List.set_cons_zero])
      refine wpAnyH_take (i := 49) (v := .bool true) rfl (by kernel_rfl) (by kernel_rfl) (by kernel_rfl) (fun _ _ _ h => h) (Or.inl ⟨by kernel_rfl, ?_⟩) HSS.out ?_
      · (intro u9 hSw; (try dsimp only at hSw); go_simp)
      show wpAnyH _ _ _ _ _ _ _ (Act.put _ (some 87) _) _
      (try simp only [Act.put]); (try simp only [List.setIfInBounds_toArray]); (try simp only [List.set_cons_succ, List.set_cons_zero])
      refine wpAnyH_take (i := 50) (v := .bool true) rfl (by kernel_rfl) (by kernel_rfl) (by kernel_rfl) (fun _ _ _ h => h) (Or.inl ⟨by kernel_rfl, ?_⟩) HSS.out ?_
      · (intro u9 hSw; (try dsimp only at hSw); go_simp)
      show wpAnyH _ _ _ _ _ _ _ (Act.put _ (some 88) _) _
      (try simp only [Act.put]); (try simp only [List.setIfInBounds_toArray]); (try simp only [List.set_cons_succ, List.set_cons_zero])
      refine wpAnyH_take (i := 51) (v := ?_) rfl (by kernel_rfl) (by kernel_rfl) (by kernel_rfl) (fun _ _ _ h => h) (Or.inl ⟨by kernel_rfl, ?_⟩) HSS.out ?_
      rotate_left
      · (intro u9 hSw; (try dsimp only at hSw); go_simp; try with_reducible rfl)
      show wpAnyH _ _ _ _ _ _ _ (Act.put _ (some 2) _) _
      (try simp only [Act.put]); (try simp only [List.setIfInBounds_toArray]); (try simp only [List.set_cons_succ, List.set_cons_zero])
      refine wpAnyH_done (by kernel_rfl) ?_ _
      refine NoPanic.normal ?_
      go_wp2
      go_ret
      exact ⟨by kernel_rfl, HFI.out _ HSS.out.2.out⟩
    · have dbg : decide ((3000 : Int) < (o3.size : Int)) = false := decide_eq_false (by omega)
      have CG := hidOf8 (fun W => begins_yes o3 D W (HB.out (by omega)).1 (HB.out (by omega)).2)
      refine wpAnyH_take (i := 33) (v := .bool false) rfl (by kernel_rfl) (by kernel_rfl) (by kernel_rfl) (fun _ _ _ h => h) (Or.inl ⟨by kernel_rfl, ?_⟩) HSS.out ?_
      · (intro u9 hSw; (try dsimp only at hSw); go_simp)
      show wpAnyH _ _ _ _ _ _ _ (Act.put _ (some 71) _) _
      (try simp only [Act.put]); (try simp only [List.setIfInBounds_toArray]); (try simp only [List.set_cons_succ, List.set_cons_zero])
      refine wpAnyH_take (i := 34) (v := .bool false) rfl (by kernel_rfl) (by kernel_rfl) (by kernel_rfl) (fun _ _ _ h => h) (Or.inl ⟨by kernel_rfl, ?_⟩) HSS.out ?_
      · (intro u9 hSw; (try dsimp only at hSw); go_simp)
      show wpAnyH _ _ _ _ _ _ _ (Act.put _ (some 72) _) _
      (try simp only [Act.put]); (try simp only [List.setIfInBounds_toArray]); (try simp only [List.set_cons_succ, List.set_cons_zero])
      refine wpAnyH_take (i := 35) (v := ?_) rfl (by kernel_rfl) (by kernel_rfl) (by kernel_rfl) (fun _ _ _ h => h) (Or.inl ⟨by kernel_rfl, ?_⟩) HSS.out ?_
      rotate_left
      · (intro u9 hSw; (try dsimp only at hSw); go_simp; try with_reducible rfl)
      show wpAnyH _ _ _ _ _ _ _ (Act.put _ (some 73) _) _
      (try simp only [Act.put]); (try simp only [List.setIfInBounds_toArray]); (try simp only [List.set_cons_succ, List.set_cons_zero])
      refine wpAnyH_take (i := 36) (v := ?_) rfl (by kernel_rfl) (by kernel_rfl) (by kernel_rfl) (fun _ _ _ h => h) (Or.inl ⟨by kernel_rfl, ?_⟩) HSS.out ?_
      rotate_left
      · (intro u9 hSw; (try dsimp only at hSw); go_simp; try with_reducible rfl)
      show wpAnyH _ _ _ _ _ _ _ (Act.put _ (some 74) _) _
      (try simp only [Act.put]); (try simp only [List.setIfInBounds_toArray]); (try simp only [List.set_cons_succ, List.set_cons_zero])
      refine wpAnyH_take (i := 37) (v := ?_) rfl (by kernel_rfl) (by kernel_rfl) (by kernel_rfl) (fun _ _ _ h => h) (Or.inl ⟨by kernel_rfl, ?_⟩) HSS.out ?_
      rotate_left
      · (intro u9 hSw; (try dsimp only at hSw); go_simp; try with_reducible rfl)
      show wpAnyH _ _ _ _ _ _ _ (Act.put _ (some 75) _) _
      (try simp only [Act.put]); (try simp only [List.setIfInBounds_toArray]); (try simp only [List.set_cons_succ, List.set_cons_zero])
      refine wpAnyH_take (i := 38) (v := ?_) rfl (by kernel_rfl) (by kernel_rfl) (by kernel_rfl) (fun _ _ _ h => h) (Or.inl ⟨by kernel_rfl, ?_⟩) HSS.out ?_
      rotate_left
      · (intro u9 hSw; (try dsimp only at hSw); go_simp; try with_reducible rfl)
      show wpAnyH _ _ _ _ _ _ _ (Act.put _ (some 76) _) _
      (try simp only [Act.put]); (try simp only [List.setIfInBounds_toArray]); (try simp only [List.set_cons_succ, List.set_cons_zero])
      refine wpAnyH_ready (rs := [39]) (by kernel_rfl) (by simp) ?_
      refine AllReadyH.cons rfl (fun K hK => ?_) AllReadyH.nil
      go_simp
      go_at_call 25
      refine (CG.out _).mono ?_
      rintro e wz ⟨rfl, hb9⟩
      have HS2 : Hid ((wz.cell? ⟨w1.heap.size, 0, none⟩ = some (.slice ua vs.length uc) ∧ wz.cell? ⟨w1.heap.size, 1, none⟩ = some (.slice xa cs.length xc) ∧ wz.cell? ⟨w2.heap.size, 0, none⟩ = some (.slice ua2 vs.length uc2) ∧ wz.cell? ⟨w2.heap.size, 1, none⟩ = some (.slice xa2 cs.length xc2) ∧ wz.cell? ⟨w2.heap.size, 2, none⟩ = some (.string S) ∧ wz.cell? ⟨w3.heap.size, 0, none⟩ = some (.slice va vs3.length vc) ∧ wz.cell? ⟨w3.heap.size, 1, none⟩ = some (.slice ya cs3.length yc) ∧ wz.cell? ⟨w3.heap.size, 2, none⟩ = some (.string o3) ∧ wz.cell? ⟨w4.heap.size, 0, none⟩ = some (.slice ua4 vs3.length uc4) ∧ wz.cell? ⟨w4.heap.size, 1, none⟩ = some (.slice xa4 cs3.length xc4) ∧ wz.cell? ⟨w4.heap.size, 2, none⟩ = some (.string D)) ∧ Hid (Below W5.heap.size W5 wz)) := ⟨⟨cell_up hb9 HSS.out.1.1, cell_up hb9 HSS.out.1.2.1, cell_up hb9 HSS.out.1.2.2.1, cell_up hb9 HSS.out.1.2.2.2.1, cell_up hb9 HSS.out.1.2.2.2.2.1, cell_up hb9 HSS.out.1.2.2.2.2.2.1, cell_up hb9 HSS.out.1.2.2.2.2.2.2.1, cell_up hb9 HSS.out.1.2.2.2.2.2.2.2.1, cell_up hb9 HSS.out.1.2.2.2.2.2.2.2.2.1, cell_up hb9 HSS.out.1.2.2.2.2.2.2.2.2.2.1, cell_up hb9 HSS.out.1.2.2.2.2.2.2.2.2.2.2⟩, HSS.out.2.out.trans (hb9.mono HSS.out.2.out.size)⟩
      dsimp only
      refine hK.out _ _ HS2.out (fun _ => ?_)
      clear hK K hb9 HSS
      have HSS := hidOf8 HS2.out
      clear HS2
      try show wpAnyH _ _ _ _ _ _ _ (Act.put _ (some 77) _) _
      (try simp only [Act.put]); (try simp only [List.setIfInBounds_toArray]); (try simp only [List.set_cons_succ, List.set_cons_zero])
      refine wpAnyH_take (i := 40) (v := .bool true) rfl (by kernel_rfl) (by kernel_rfl) (by kernel_rfl) (fun _ _ _ h => h) (Or.inl ⟨by kernel_rfl, ?_⟩) HSS.out ?_
      · (intro u9 hSw; (try dsimp only at hSw); go_simp)
      show wpAnyH _ _ _ _ _ _ _ (Act.put _ (some 78) _) _
      (try simp only [Act.put]); (try simp only [List.setIfInBounds_toArray]); (try simp only [List.set_cons_succ, List.set_cons_zero])
      refine wpAnyH_take (i := 41) (v := .bool true) rfl (by kernel_rfl) (by kernel_rfl) (by kernel_rfl) (fun _ _ _ h => h) (Or.inl ⟨by kernel_rfl, ?_⟩) HSS.out ?_
      · (intro u9 hSw; (try dsimp only at hSw); go_simp)
      show wpAnyH _ _ _ _ _ _ _ (Act.put _ (some 79) _) _
      (try simp only [Act.put]); (try simp only [List.setIfInBounds_toArray]); (try simp only [List.set_cons_succ, List.set_cons_zero])
      refine wpAnyH_take (i := 42) (v := .bool true) rfl (by kernel_rfl) (by kernel_rfl) (by kernel_rfl) (fun _ _ _ h => h) (Or.inl ⟨by kernel_rfl, ?_⟩) HSS.out ?_
      · (intro u9 hSw; (try dsimp only at hSw); go_simp)
      show wpAnyH _ _ _ _ _ _ _ (Act.put _ (some 80) _) _
      (try simp only [Act.put]); (try simp only [List.setIfInBounds_toArray]); (try simp only [List.set_cons_succ, List.set_cons_zero])
      refine wpAnyH_take (i := 43) (v := ?_) rfl (by kernel_rfl) (by kernel_rfl) (by kernel_rfl) (fun _ _ _ h => h) (Or.inl ⟨by kernel_rfl, ?_⟩) HSS.out ?_
      rotate_left
      · (intro u9 hSw; (try dsimp only at hSw); go_simp; try with_reducible rfl)
      show wpAnyH _ _ _ _ _ _ _ (Act.put _ (some 81) _) _
      (try simp only [Act.put]); (try simp only [List.setIfInBounds_toArray]); (try simp only [List.set_cons_succ, List.set_cons_zero])
      refine wpAnyH_take (i := 44) (v := ?_) rfl (by kernel_rfl) (by kernel_rfl) (by kernel_rfl) (fun _ _ _ h => h) (Or.inl ⟨by kernel_rfl, ?_⟩) HSS.out ?_
      rotate_left
      · (intro u9 hSw; (try dsimp only at hSw); go_simp; try with_reducible rfl)
      show wpAnyH _ _ _ _ _ _ _ (Act.put _ (some 82) _) _
      (try simp only [Act.put]); (try simp only [List.setIfInBounds_toArray]); (try simp only [List.set_cons_succ, List.set_cons_zero])
      refine wpAnyH_take (i := 45) (v := ?_) rfl (by kernel_rfl) (by kernel_rfl) (by kernel_rfl) (fun _ _ _ h => h) (Or.inl ⟨by kernel_rfl, ?_⟩) HSS.out ?_
      rotate_left
      · (intro u9 hSw; (try dsimp only at hSw); go_simp; try with_reducible rfl)
      show wpAnyH _ _ _ _ _ _ _ (Act.put _ (some 83) _) _
      (try simp only [Act.put]); (try simp only [List.setIfInBounds_toArray]); (try simp only [List.set_cons_succ, List.set_cons_zero])
      refine wpAnyH_take (i := 46) (v := ?_) rfl (by kernel_rfl) (by kernel_rfl) (by kernel_rfl) (fun _ _ _ h => h) (Or.inl ⟨by kernel_rfl, ?_⟩) HSS.out ?_
      rotate_left
      · (intro u9 hSw; (try dsimp only at hSw); go_simp; try with_reducible rfl)
      show wpAnyH _ _ _ _ _ _ _ (Act.put _ (some 84) _) _
      (try simp only [Act.put]); (try simp only [List.setIfInBounds_toArray]); (try simp only [List.set_cons_succ, List.set_cons_zero])
      refine wpAnyH_take (i := 47) (v := ?_) rfl (by kernel_rfl) (by kernel_rfl) (by kernel_rfl) (fun _ _ _ h => h) (Or.inl ⟨by kernel_rfl, ?_⟩) HSS.out ?_
      rotate_left
      · (intro u9 hSw; (try dsimp only at hSw); go_simp; try with_reducible rfl)
      show wpAnyH _ _ _ _ _ _ _ (Act.put _ (some 85) _) _
      (try simp only [Act.put]); (try simp only [List.setIfInBounds_toArray]); (try simp only [List.set_cons_succ, List.set_cons_zero])
      refine wpAnyH_take (i := 48) (v := ?_) rfl (by kernel_rfl) (by kernel_rfl) (by kernel_rfl) (fun _ _ _ h => h) (Or.inl ⟨by kernel_rfl, ?_⟩) HSS.out ?_
      rotate_left
      · (intro u9 hSw; (try dsimp only at hSw); go_simp; try with_reducible rfl)
      show wpAnyH _ _ _ _ _ _ _ (Act.put _ (some 86) _) _
      (try simp only [Act.put]); (try simp only [List.setIfInBounds_toArray]); (try simp only [List.set_cons_succ, List.set_cons_zero])
      refine wpAnyH_take (i := 49) (v := .bool true) rfl (by kernel_rfl) (by kernel_rfl) (by kernel_rfl) (fun _ _ _ h => h) (Or.inl ⟨by kernel_rfl, ?_⟩) HSS.out ?_
      · (intro u9 hSw; (try dsimp only at hSw); go_simp)
      show wpAnyH _ _ _ _ _ _ _ (Act.put _ (some 87) _) _
      (try simp only [Act.put]); (try simp only [List.setIfInBounds_toArray]); (try simp only [List.set_cons_succ, List.set_cons_zero])
      refine wpAnyH_take (i := 50) (v := .bool true) rfl (by kernel_rfl) (by kernel_rfl) (by kernel_rfl) (fun _ _ _ h => h) (Or.inl ⟨by kernel_rfl, ?_⟩) HSS.out ?_
      · (intro u9 hSw; (try dsimp only at hSw); go_simp)
      show wpAnyH _ _ _ _ _ _ _ (Act.put _ (some 88) _) _
      (try simp only [Act.put]); (try simp only [List.setIfInBounds_toArray]); (try simp only [List.set_cons_succ, List.set_cons_zero])
      refine wpAnyH_take (i := 51) (v := ?_) rfl (by kernel_rfl) (by kernel_rfl) (by kernel_rfl) (fun _ _ _ h => h) (Or.inl ⟨by kernel_rfl, ?_⟩) HSS.out ?_
      rotate_left
      · (intro u9 hSw; (try dsimp only at hSw); go_simp; try with_reducible rfl)
      show wpAnyH _ _ _ _ _ _ _ (Act.put _ (some 2) _) _
      (try simp only [Act.put]); (try simp only [List.setIfInBounds_toArray]); (try simp only [List.set_cons_succ, List.set_cons_zero])
      refine wpAnyH_done (by kernel_rfl) ?_ _
      refine NoPanic.normal ?_
      go_wp2
      go_ret
      exact ⟨by kernel_rfl, HFI.out _ HSS.out.2.out⟩
  · have i3 : ¬ ((3000 : Int) < (o.size : Int) + (l.size : Int) + 1) := by omega
    clear d3
    go_wp2_with fail
    refine C3.out.mono ?_
    rintro e w3 ⟨va, vc, ya, yc, vs3, cs3, o3, t3, rfl, hv3, hx3, hf3, ht3, hb3⟩
    have q4 := heap_alloc_new w3 (.cells #[.slice va vs3.length vc, .slice ya cs3.length yc, .string o3] 27)
    have u4 : Below w3.heap.size w3 (w3.alloc (.cells #[.slice va vs3.length vc, .slice ya cs3.length yc, .string o3] 27)) := (Below.refl _ _).alloc (Nat.le_refl _) _
    have C4 := hidOf8 (imDump (.slice va vs3.length vc) (.slice ya cs3.length yc) o3 ⟨t3.toArray⟩ vs3 cs3 _ (hv3.keep u4) (hx3.keep u4) hf3.small)
    have hb34 := hb3.trans (u4.mono hb3.size)
    have H4 := hidOf8 (And.intro q4 (And.intro ((hb34.block _ (blk_lt HB2.out.1)).trans HB2.out.1) (And.intro ((hb34.block _ (blk_lt HQ3.out)).trans HQ3.out) (And.intro (HB2.out.2.trans (hb34.mono HB2.out.2.size)) (And.intro (hv3.keep u4) (And.intro (hx3.keep u4) hf3))))))
    clear q4 u4 hb34 hb3 hv3 hx3 hf3 C3 s2
    go_wp2_with fail
    generalize w3.alloc (.cells #[.slice va vs3.length vc, .slice ya cs3.length yc, .string o3] 27) = W3 at *
    refine C4.out.mono ?_
    rintro e w4 ⟨u4, x4, rfl, hst4, hb4⟩
    have hat4 : VrAt w4 u4 vs3 ∧ ClAt w4 x4 cs3 := by
      obtain ⟨mid, -, -, k1, k2⟩ := hst4
      exact ⟨k1.at, k2.at⟩
    obtain ⟨ua4, uc4, rfl, -⟩ := id hat4.1
    obtain ⟨xa4, xc4, rfl, -⟩ := id hat4.2
    obtain ⟨D, hD⟩ : ∃ D, D = St.dumped o3 ⟨t3.toArray⟩ cs3 := ⟨_, rfl⟩
    have u5 : ∀ ob : Obj, Below w4.heap.size w4 (w4.alloc ob) := fun ob => (Below.refl _ _).alloc (Nat.le_refl _) _
    have ks := (hb4.block _ (blk_lt H4.out.2.1)).trans H4.out.2.1
    have kn := (hb4.block _ (blk_lt H4.out.2.2.1)).trans H4.out.2.2.1
    have kt := (hb4.block _ (blk_lt H4.out.1)).trans H4.out.1
    have H5 := hidOf8 (And.intro ks (And.intro kn (And.intro kt (And.intro (H4.out.2.2.2.1.trans (hb4.mono H4.out.2.2.2.1.size)) (And.intro (H4.out.2.2.2.2.1.keep hb4) (And.intro (H4.out.2.2.2.2.2.1.keep hb4) (And.intro H4.out.2.2.2.2.2.2 hat4)))))))
    rw [← hD]
    have HB := hidOf8 (St.dumped_begins o3 ⟨t3.toArray⟩ cs3)
    rw [← hD] at HB
    have HD := hidOf8 hD
    clear hD hst4 hb4 C4 H4 hat4 ks kn kt
    go_wp2_with fail
    have HSS0 : Hid (((w4.alloc (.cells #[.slice ua4 vs3.length uc4, .slice xa4 cs3.length xc4, .string D] 27)).drew.cell? ⟨w1.heap.size, 0, none⟩ = some (.slice ua vs.length uc) ∧ (w4.alloc (.cells #[.slice ua4 vs3.length uc4, .slice xa4 cs3.length xc4, .string D] 27)).drew.cell? ⟨w1.heap.size, 1, none⟩ = some (.slice xa cs.length xc) ∧ (w4.alloc (.cells #[.slice ua4 vs3.length uc4, .slice xa4 cs3.length xc4, .string D] 27)).drew.cell? ⟨w2.heap.size, 0, none⟩ = some (.slice ua2 vs.length uc2) ∧ (w4.alloc (.cells #[.slice ua4 vs3.length uc4, .slice xa4 cs3.length xc4, .string D] 27)).drew.cell? ⟨w2.heap.size, 1, none⟩ = some (.slice xa2 cs.length xc2) ∧ (w4.alloc (.cells #[.slice ua4 vs3.length uc4, .slice xa4 cs3.length xc4, .string D] 27)).drew.cell? ⟨w2.heap.size, 2, none⟩ = some (.string S) ∧ (w4.alloc (.cells #[.slice ua4 vs3.length uc4, .slice xa4 cs3.length xc4, .string D] 27)).drew.cell? ⟨w3.heap.size, 0, none⟩ = some (.slice va vs3.length vc) ∧ (w4.alloc (.cells #[.slice ua4 vs3.length uc4, .slice xa4 cs3.length xc4, .string D] 27)).drew.cell? ⟨w3.heap.size, 1, none⟩ = some (.slice ya cs3.length yc) ∧ (w4.alloc (.cells #[.slice ua4 vs3.length uc4, .slice xa4 cs3.length xc4, .string D] 27)).drew.cell? ⟨w3.heap.size, 2, none⟩ = some (.string o3) ∧ (w4.alloc (.cells #[.slice ua4 vs3.length uc4, .slice xa4 cs3.length xc4, .string D] 27)).drew.cell? ⟨w4.heap.size, 0, none⟩ = some (.slice ua4 vs3.length uc4) ∧ (w4.alloc (.cells #[.slice ua4 vs3.length uc4, .slice xa4 cs3.length xc4, .string D] 27)).drew.cell? ⟨w4.heap.size, 1, none⟩ = some (.slice xa4 cs3.length xc4) ∧ (w4.alloc (.cells #[.slice ua4 vs3.length uc4, .slice xa4 cs3.length xc4, .string D] 27)).drew.cell? ⟨w4.heap.size, 2, none⟩ = some (.string D)) ∧ Hid (Below (w4.alloc (.cells #[.slice ua4 vs3.length uc4, .slice xa4 cs3.length xc4, .string D] 27)).heap.size (w4.alloc (.cells #[.slice ua4 vs3.length uc4, .slice xa4 cs3.length xc4, .string D] 27)) (w4.alloc (.cells #[.slice ua4 vs3.length uc4, .slice xa4 cs3.length xc4, .string D] 27)).drew)) := ⟨⟨(cell_up (u5 _).drew ((blk_cell H5.out.1 0).trans rfl)), (cell_up (u5 _).drew ((blk_cell H5.out.1 1).trans rfl)), (cell_up (u5 _).drew ((blk_cell H5.out.2.1 0).trans rfl)), (cell_up (u5 _).drew ((blk_cell H5.out.2.1 1).trans rfl)), (cell_up (u5 _).drew ((blk_cell H5.out.2.1 2).trans rfl)), (cell_up (u5 _).drew ((blk_cell H5.out.2.2.1 0).trans rfl)), (cell_up (u5 _).drew ((blk_cell H5.out.2.2.1 1).trans rfl)), (cell_up (u5 _).drew ((blk_cell H5.out.2.2.1 2).trans rfl)), (blk_cell (heap_alloc_new w4 _) 0).trans rfl, (blk_cell (heap_alloc_new w4 _) 1).trans rfl, (blk_cell (heap_alloc_new w4 _) 2).trans rfl⟩, (Below.refl _ _).drew⟩
    have HFI : Hid (∀ W', Below (w4.alloc (.cells #[.slice ua4 vs3.length uc4, .slice xa4 cs3.length xc4, .string D] 27)).heap.size (w4.alloc (.cells #[.slice ua4 vs3.length uc4, .slice xa4 cs3.length xc4, .string D] 27)) W' → Below w0.heap.size w0 W') := fun W' hb => H5.out.2.2.2.1.trans (((u5 _).trans (hb.mono (u5 _).size)).mono H5.out.2.2.2.1.size)
    have CD : Hid (∀ W', Hid (Below (w4.alloc (.cells #[.slice ua4 vs3.length uc4, .slice xa4 cs3.length xc4, .string D] 27)).heap.size (w4.alloc (.cells #[.slice ua4 vs3.length uc4, .slice xa4 cs3.length xc4, .string D] 27)) W') → Calls Try.prog 24 #[.agg #[.slice va vs3.length vc, .slice ya cs3.length yc, .string o3], .string ⟨t3.toArray⟩] W' fun e w' => ∃ u x, e = .returned (.agg #[u, x, .string D]) ∧ VrIn W'.heap.size w'.heap.size w' u vs3 ∧ ClIn W'.heap.size w'.heap.size w' x cs3 ∧ Below W'.heap.size W' w') := fun W' hb => by
      rw [HD.out]
      exact spDump _ _ o3 ⟨t3.toArray⟩ vs3 cs3 W' (H5.out.2.2.2.2.1.keep ((u5 _).trans (hb.out.mono (u5 _).size))) (H5.out.2.2.2.2.2.1.keep ((u5 _).trans (hb.out.mono (u5 _).size))) H5.out.2.2.2.2.2.2.1.small
    have CM : Hid (∀ (a9 : Option Addr) (c9 : Nat) (b9 : Option Addr) (d9 : Nat) (W' : World), Hid (Below (w4.alloc (.cells #[.slice ua4 vs3.length uc4, .slice xa4 cs3.length xc4, .string D] 27)).heap.size (w4.alloc (.cells #[.slice ua4 vs3.length uc4, .slice xa4 cs3.length xc4, .string D] 27)) W') → VrAt W' (.slice a9 vs3.length c9) vs3 → ClAt W' (.slice b9 cs3.length d9) cs3 → Calls Try.prog 15 #[.agg #[.slice ua4 vs3.length uc4, .slice xa4 cs3.length xc4, .string D], .agg #[.slice a9 vs3.length c9, .slice b9 cs3.length d9, .string D]] W' fun e w' => e = .returned (.bool true) ∧ Below W'.heap.size W' w') := fun a9 c9 b9 d9 W' hb h1 h2 => by
      have := specSame8 _ _ _ _ D D vs3 vs3 cs3 cs3 W' (H5.out.2.2.2.2.2.2.2.1.keep ((u5 _).trans (hb.out.mono (u5 _).size))) (H5.out.2.2.2.2.2.2.2.2.keep ((u5 _).trans (hb.out.mono (u5 _).size))) h1 h2 (by have := H5.out.2.2.2.2.2.2.1.nv; omega) (by have := H5.out.2.2.2.2.2.2.1.nv; omega) (by have := H5.out.2.2.2.2.2.2.1.nc; omega) (by have := H5.out.2.2.2.2.2.2.1.nc; omega)
      rw [St.same_self] at this
      exact this
    clear H5 u5 HQ3 HB2 HCW HSZ hn n1 n2 ho htl HD ht3
    generalize (w4.alloc (.cells #[.slice ua4 vs3.length uc4, .slice xa4 cs3.length xc4, .string D] 27)) = W5 at *
    have eqS : (S.toList == (o ++ l ++ (⟨#[10]⟩ : ByteArray)).toList) = true := by rw [HS.out]; simp
    refine wp_region_noPanic ?_
    refine wp_region_held_drew (S := (fun W' => (W'.cell? ⟨w1.heap.size, 0, none⟩ = some (.slice ua vs.length uc) ∧ W'.cell? ⟨w1.heap.size, 1, none⟩ = some (.slice xa cs.length xc) ∧ W'.cell? ⟨w2.heap.size, 0, none⟩ = some (.slice ua2 vs.length uc2) ∧ W'.cell? ⟨w2.heap.size, 1, none⟩ = some (.slice xa2 cs.length xc2) ∧ W'.cell? ⟨w2.heap.size, 2, none⟩ = some (.string S) ∧ W'.cell? ⟨w3.heap.size, 0, none⟩ = some (.slice va vs3.length vc) ∧ W'.cell? ⟨w3.heap.size, 1, none⟩ = some (.slice ya cs3.length yc) ∧ W'.cell? ⟨w3.heap.size, 2, none⟩ = some (.string o3) ∧ W'.cell? ⟨w4.heap.size, 0, none⟩ = some (.slice ua4 vs3.length uc4) ∧ W'.cell? ⟨w4.heap.size, 1, none⟩ = some (.slice xa4 cs3.length xc4) ∧ W'.cell? ⟨w4.heap.size, 2, none⟩ = some (.string D)) ∧ Hid (Below W5.heap.size W5 W'))) (by kernel_rfl) HSS0.out (fun _ => ?_)
    have HSS := hidOf8 HSS0.out
    clear HSS0
    refine wpAnyH_take (i := 0) (v := ?_) rfl (by kernel_rfl) (by kernel_rfl) (by kernel_rfl) (fun _ _ _ h => h) (Or.inl ⟨by kernel_rfl, ?_⟩) HSS.out ?_
    rotate_left
    · (intro u9 hSw; (try dsimp only at hSw); go_simp; try with_reducible rfl)
    show wpAnyH _ _ _ _ _ _ _ (Act.put _ (some 38) _) _
    (try simp only [Act.put]); (try simp only [List.setIfInBounds_toArray]); (try simp only [List.set_cons_succ, List.set_cons_zero])
    refine wpAnyH_take (i := 1) (v := ?_) rfl (by kernel_rfl) (by kernel_rfl) (by kernel_rfl) (fun _ _ _ h => h) (Or.inl ⟨by kernel_rfl, ?_⟩) HSS.out ?_
    rotate_left
    · (intro u9 hSw; (try dsimp only at hSw); go_simp; try with_reducible rfl)
    show wpAnyH _ _ _ _ _ _ _ (Act.put _ (some 39) _) _
    (try simp only [Act.put]); (try simp only [List.setIfInBounds_toArray]); (try simp only [List.set_cons_succ, List.set_cons_zero])
    refine wpAnyH_take (i := 2) (v := ?_) rfl (by kernel_rfl) (by kernel_rfl) (by kernel_rfl) (fun _ _ _ h => h) (Or.inl ⟨by kernel_rfl, ?_⟩) HSS.out ?_
    rotate_left
    · (intro u9 hSw; (try dsimp only at hSw); go_simp; try with_reducible rfl)
    show wpAnyH _ _ _ _ _ _ _ (Act.put _ (some 40) _) _
    (try simp only [Act.put]); (try simp only [List.setIfInBounds_toArray]); (try simp only [List.set_cons_succ, List.set_cons_zero])
    refine wpAnyH_take (i := 3) (v := .bool true) rfl (by kernel_rfl) (by kernel_rfl) (by kernel_rfl) (fun _ _ _ h => h) (Or.inl ⟨by kernel_rfl, ?_⟩) HSS.out ?_
    · (intro u9 hSw; (try dsimp only at hSw); go_simp)
    show wpAnyH _ _ _ _ _ _ _ (Act.put _ (some 41) _) _
    (try simp only [Act.put]); (try simp only [List.setIfInBounds_toArray]); (try simp only [List.set_cons_succ, List.set_cons_zero])
    refine wpAnyH_take (i := 4) (v := .bool true) rfl (by kernel_rfl) (by kernel_rfl) (by kernel_rfl) (fun _ _ _ h => h) (Or.inl ⟨by kernel_rfl, ?_⟩) HSS.out ?_
    · (intro u9 hSw; (try dsimp only at hSw); go_simp)
    show wpAnyH _ _ _ _ _ _ _ (Act.put _ (some 42) _) _
    (try simp only [Act.put]); (try simp only [List.setIfInBounds_toArray]); (try simp only [List.set_cons_succ, List.set_cons_zero])
    refine wpAnyH_take (i := 5) (v := ?_) rfl (by kernel_rfl) (by kernel_rfl) (by kernel_rfl) (fun _ _ _ h => h) (Or.inl ⟨by kernel_rfl, ?_⟩) HSS.out ?_
    rotate_left
    · (intro u9 hSw; (try dsimp only at hSw); go_simp; try with_reducible rfl)
    show wpAnyH _ _ _ _ _ _ _ (Act.put _ (some 43) _) _
    (try simp only [Act.put]); (try simp only [List.setIfInBounds_toArray]); (try simp only [List.set_cons_succ, List.set_cons_zero])
    refine wpAnyH_take (i := 6) (v := ?_) rfl (by kernel_rfl) (by kernel_rfl) (by kernel_rfl) (fun _ _ _ h => h) (Or.inl ⟨by kernel_rfl, ?_⟩) HSS.out ?_
    rotate_left
    · (intro u9 hSw; (try dsimp only at hSw); go_simp; try with_reducible rfl)
    show wpAnyH _ _ _ _ _ _ _ (Act.put _ (some 44) _) _
    (try simp only [Act.put]); (try simp only [List.setIfInBounds_toArray]); (try simp only [List.set_cons_succ, List.set_cons_zero])
    refine wpAnyH_take (i := 7) (v := ?_) rfl (by kernel_rfl) (by kernel_rfl) (by kernel_rfl) (fun _ _ _ h => h) (Or.inl ⟨by kernel_rfl, ?_⟩) HSS.out ?_
    rotate_left
    · (intro u9 hSw; (try dsimp only at hSw); go_simp; try with_reducible rfl)
    show wpAnyH _ _ _ _ _ _ _ (Act.put _ (some 45) _) _
    (try simp only [Act.put]); (try simp only [List.setIfInBounds_toArray]); (try simp only [List.set_cons_succ, List.set_cons_zero])
    refine wpAnyH_take (i := 8) (v := ?_) rfl (by kernel_rfl) (by kernel_rfl) (by kernel_rfl) (fun _ _ _ h => h) (Or.inl ⟨by kernel_rfl, ?_⟩) HSS.out ?_
    rotate_left
    · (intro u9 hSw; (try dsimp only at hSw); go_simp; try with_reducible rfl)
    show wpAnyH _ _ _ _ _ _ _ (Act.put _ (some 46) _) _
    (try simp only [Act.put]); (try simp only [List.setIfInBounds_toArray]); (try simp only [List.set_cons_succ, List.set_cons_zero])
    refine wpAnyH_take (i := 9) (v := ?_) rfl (by kernel_rfl) (by kernel_rfl) (by kernel_rfl) (fun _ _ _ h => h) (Or.inl ⟨by kernel_rfl, ?_⟩) HSS.out ?_
    rotate_left
    · (intro u9 hSw; (try dsimp only at hSw); go_simp; try with_reducible rfl)
    show wpAnyH _ _ _ _ _ _ _ (Act.put _ (some 47) _) _
    (try simp only [Act.put]); (try simp only [List.setIfInBounds_toArray]); (try simp only [List.set_cons_succ, List.set_cons_zero])
    refine wpAnyH_take (i := 10) (v := ?_) rfl (by kernel_rfl) (by kernel_rfl) (by kernel_rfl) (fun _ _ _ h => h) (Or.inl ⟨by kernel_rfl, ?_⟩) HSS.out ?_
    rotate_left
    · (intro u9 hSw; (try dsimp only at hSw); go_simp; try with_reducible rfl)
    show wpAnyH _ _ _ _ _ _ _ (Act.put _ (some 48) _) _
    (try simp only [Act.put]); (try simp only [List.setIfInBounds_toArray]); (try simp only [List.set_cons_succ, List.set_cons_zero])
    refine wpAnyH_take (i := 11) (v := .bool true) rfl (by kernel_rfl) (by kernel_rfl) (by kernel_rfl) (fun _ _ _ h => h) (Or.inl ⟨by kernel_rfl, ?_⟩) HSS.out ?_
    · (intro u9 hSw; (try dsimp only at hSw); go_simp)
    show wpAnyH _ _ _ _ _ _ _ (Act.put _ (some 49) _) _
    (try simp only [Act.put]); (try simp only [List.setIfInBounds_toArray]); (try simp only [List.set_cons_succ, List.set_cons_zero])
    refine wpAnyH_take (i := 12) (v := .bool true) rfl (by kernel_rfl) (by kernel_rfl) (by kernel_rfl) (fun _ _ _ h => h) (Or.inl ⟨by kernel_rfl, ?_⟩) HSS.out ?_
    · (intro u9 hSw; (try dsimp only at hSw); go_simp)
    show wpAnyH _ _ _ _ _ _ _ (Act.put _ (some 50) _) _
    (try simp only [Act.put]); (try simp only [List.setIfInBounds_toArray]); (try simp only [List.set_cons_succ, List.set_cons_zero])
    refine wpAnyH_take (i := 13) (v := .bool true) rfl (by kernel_rfl) (by kernel_rfl) (by kernel_rfl) (fun _ _ _ h => h) (Or.inl ⟨by kernel_rfl, ?_⟩) HSS.out ?_
    · (intro u9 hSw; (try dsimp only at hSw); go_simp)
    show wpAnyH _ _ _ _ _ _ _ (Act.put _ (some 51) _) _
    (try simp only [Act.put]); (try simp only [List.setIfInBounds_toArray]); (try simp only [List.set_cons_succ, List.set_cons_zero])
    refine wpAnyH_take (i := 14) (v := ?_) rfl (by kernel_rfl) (by kernel_rfl) (by kernel_rfl) (fun _ _ _ h => h) (Or.inl ⟨by kernel_rfl, ?_⟩) HSS.out ?_
    rotate_left
    · (intro u9 hSw; (try dsimp only at hSw); go_simp; try with_reducible rfl)
    show wpAnyH _ _ _ _ _ _ _ (Act.put _ (some 52) _) _
    (try simp only [Act.put]); (try simp only [List.setIfInBounds_toArray]); (try simp only [List.set_cons_succ, List.set_cons_zero])
    refine wpAnyH_take (i := 15) (v := ?_) rfl (by kernel_rfl) (by kernel_rfl) (by kernel_rfl) (fun _ _ _ h => h) (Or.inl ⟨by kernel_rfl, ?_⟩) HSS.out ?_
    rotate_left
    · (intro u9 hSw; (try dsimp only at hSw); go_simp; try with_reducible rfl)
    show wpAnyH _ _ _ _ _ _ _ (Act.put _ (some 53) _) _
    (try simp only [Act.put]); (try simp only [List.setIfInBounds_toArray]); (try simp only [List.set_cons_succ, List.set_cons_zero])
    refine wpAnyH_take (i := 16) (v := ?_) rfl (by kernel_rfl) (by kernel_rfl) (by kernel_rfl) (fun _ _ _ h => h) (Or.inl ⟨by kernel_rfl, ?_⟩) HSS.out ?_
    rotate_left
    · (intro u9 hSw; (try dsimp only at hSw); go_simp; try with_reducible rfl)
    show wpAnyH _ _ _ _ _ _ _ (Act.put _ (some 54) _) _
    (try simp only [Act.put]); (try simp only [List.setIfInBounds_toArray]); (try simp only [List.set_cons_succ, List.set_cons_zero])
    refine wpAnyH_take (i := 17) (v := ?_) rfl (by kernel_rfl) (by kernel_rfl) (by kernel_rfl) (fun _ _ _ h => h) (Or.inl ⟨by kernel_rfl, ?_⟩) HSS.out ?_
    rotate_left
    · (intro u9 hSw; (try dsimp only at hSw); go_simp; try with_reducible rfl)
    show wpAnyH _ _ _ _ _ _ _ (Act.put _ (some 55) _) _
    (try simp only [Act.put]); (try simp only [List.setIfInBounds_toArray]); (try simp only [List.set_cons_succ, List.set_cons_zero])
    refine wpAnyH_take (i := 18) (v := ?_) rfl (by kernel_rfl) (by kernel_rfl) (by kernel_rfl) (fun _ _ _ h => h) (Or.inl ⟨by kernel_rfl, ?_⟩) HSS.out ?_
    rotate_left
    · (intro u9 hSw; (try dsimp only at hSw); go_simp; try with_reducible rfl)
    show wpAnyH _ _ _ _ _ _ _ (Act.put _ (some 56) _) _
    (try simp only [Act.put]); (try simp only [List.setIfInBounds_toArray]); (try simp only [List.set_cons_succ, List.set_cons_zero])
    refine wpAnyH_take (i := 19) (v := ?_) rfl (by kernel_rfl) (by kernel_rfl) (by kernel_rfl) (fun _ _ _ h => h) (Or.inl ⟨by kernel_rfl, ?_⟩) HSS.out ?_
    rotate_left
    · (intro u9 hSw; (try dsimp only at hSw); go_simp; try with_reducible rfl)
    show wpAnyH _ _ _ _ _ _ _ (Act.put _ (some 57) _) _
    (try simp only [Act.put]); (try simp only [List.setIfInBounds_toArray]); (try simp only [List.set_cons_succ, List.set_cons_zero])
    refine wpAnyH_take (i := 20) (v := .bool true) rfl (by kernel_rfl) (by kernel_rfl) (by kernel_rfl) (fun _ _ _ h => h) (Or.inl ⟨by kernel_rfl, ?_⟩) HSS.out ?_
    · (intro u9 hSw; (try dsimp only at hSw); go_simp)
    show wpAnyH _ _ _ _ _ _ _ (Act.put _ (some 58) _) _
    (try simp only [Act.put]); (try simp only [List.setIfInBounds_toArray]); (try simp only [List.set_cons_succ, List.set_cons_zero])
    refine wpAnyH_take (i := 21) (v := .bool true) rfl (by kernel_rfl) (by kernel_rfl) (by kernel_rfl) (fun _ _ _ h => h) (Or.inl ⟨by kernel_rfl, ?_⟩) HSS.out ?_
    · (intro u9 hSw; (try dsimp only at hSw); go_simp)
    show wpAnyH _ _ _ _ _ _ _ (Act.put _ (some 59) _) _
    (try simp only [Act.put]); (try simp only [List.setIfInBounds_toArray]); (try simp only [List.set_cons_succ, List.set_cons_zero])
    refine wpAnyH_take (i := 22) (v := .bool true) rfl (by kernel_rfl) (by kernel_rfl) (by kernel_rfl) (fun _ _ _ h => h) (Or.inl ⟨by kernel_rfl, ?_⟩) HSS.out ?_
    · (intro u9 hSw; (try dsimp only at hSw); go_simp)
    show wpAnyH _ _ _ _ _ _ _ (Act.put _ (some 60) _) _
    (try simp only [Act.put]); (try simp only [List.setIfInBounds_toArray]); (try simp only [List.set_cons_succ, List.set_cons_zero])
    refine wpAnyH_take (i := 23) (v := ?_) rfl (by kernel_rfl) (by kernel_rfl) (by kernel_rfl) (fun _ _ _ h => h) (Or.inl ⟨by kernel_rfl, ?_⟩) HSS.out ?_
    rotate_left
    · (intro u9 hSw; (try dsimp only at hSw); go_simp; try with_reducible rfl)
    show wpAnyH _ _ _ _ _ _ _ (Act.put _ (some 61) _) _
    (try simp only [Act.put]); (try simp only [List.setIfInBounds_toArray]); (try simp only [List.set_cons_succ, List.set_cons_zero])
    refine wpAnyH_take (i := 24) (v := ?_) rfl (by kernel_rfl) (by kernel_rfl) (by kernel_rfl) (fun _ _ _ h => h) (Or.inl ⟨by kernel_rfl, ?_⟩) HSS.out ?_
    rotate_left
    · (intro u9 hSw; (try dsimp only at hSw); go_simp; try with_reducible rfl)
    show wpAnyH _ _ _ _ _ _ _ (Act.put _ (some 62) _) _
    (try simp only [Act.put]); (try simp only [List.setIfInBounds_toArray]); (try simp only [List.set_cons_succ, List.set_cons_zero])
    refine wpAnyH_take (i := 25) (v := ?_) rfl (by kernel_rfl) (by kernel_rfl) (by kernel_rfl) (fun _ _ _ h => h) (Or.inl ⟨by kernel_rfl, ?_⟩) HSS.out ?_
    rotate_left
    · (intro u9 hSw; (try dsimp only at hSw); go_simp; try with_reducible rfl)
    show wpAnyH _ _ _ _ _ _ _ (Act.put _ (some 63) _) _
    (try simp only [Act.put]); (try simp only [List.setIfInBounds_toArray]); (try simp only [List.set_cons_succ, List.set_cons_zero])
    refine wpAnyH_ready (rs := [26]) (by kernel_rfl) (by simp) ?_
    refine AllReadyH.cons rfl (fun K hK => ?_) AllReadyH.nil
    go_simp
    go_at_call 24
    refine (CD.out _ HSS.out.2).mono ?_
    rintro e wz ⟨u9, x9, rfl, hu9, hx9, hb9⟩
    obtain ⟨ua9, uc9, rfl, -⟩ := id hu9
    obtain ⟨xa9, xc9, rfl, -⟩ := id hx9
    have HR9 := hidOf8 (And.intro hu9.at hx9.at)
    clear hu9 hx9
    have HS2 : Hid ((wz.cell? ⟨w1.heap.size, 0, none⟩ = some (.slice ua vs.length uc) ∧ wz.cell? ⟨w1.heap.size, 1, none⟩ = some (.slice xa cs.length xc) ∧ wz.cell? ⟨w2.heap.size, 0, none⟩ = some (.slice ua2 vs.length uc2) ∧ wz.cell? ⟨w2.heap.size, 1, none⟩ = some (.slice xa2 cs.length xc2) ∧ wz.cell? ⟨w2.heap.size, 2, none⟩ = some (.string S) ∧ wz.cell? ⟨w3.heap.size, 0, none⟩ = some (.slice va vs3.length vc) ∧ wz.cell? ⟨w3.heap.size, 1, none⟩ = some (.slice ya cs3.length yc) ∧ wz.cell? ⟨w3.heap.size, 2, none⟩ = some (.string o3) ∧ wz.cell? ⟨w4.heap.size, 0, none⟩ = some (.slice ua4 vs3.length uc4) ∧ wz.cell? ⟨w4.heap.size, 1, none⟩ = some (.slice xa4 cs3.length xc4) ∧ wz.cell? ⟨w4.heap.size, 2, none⟩ = some (.string D)) ∧ Hid (Below W5.heap.size W5 wz)) := ⟨⟨cell_up hb9 HSS.out.1.1, cell_up hb9 HSS.out.1.2.1, cell_up hb9 HSS.out.1.2.2.1, cell_up hb9 HSS.out.1.2.2.2.1, cell_up hb9 HSS.out.1.2.2.2.2.1, cell_up hb9 HSS.out.1.2.2.2.2.2.1, cell_up hb9 HSS.out.1.2.2.2.2.2.2.1, cell_up hb9 HSS.out.1.2.2.2.2.2.2.2.1, cell_up hb9 HSS.out.1.2.2.2.2.2.2.2.2.1, cell_up hb9 HSS.out.1.2.2.2.2.2.2.2.2.2.1, cell_up hb9 HSS.out.1.2.2.2.2.2.2.2.2.2.2⟩, HSS.out.2.out.trans (hb9.mono HSS.out.2.out.size)⟩
    dsimp only
    refine hK.out _ _ HS2.out (fun _ => ?_)
    clear hK K hb9 HSS
    have HSS := hidOf8 HS2.out
    clear HS2
    try show wpAnyH _ _ _ _ _ _ _ (Act.put _ (some 64) _) _
    (try simp only [Act.put]); (try simp only [List.setIfInBounds_toArray]); (try simp only [List.set_cons_succ, List.set_cons_zero])
    refine wpAnyH_ready (rs := [27]) (by kernel_rfl) (by simp) ?_
    refine AllReadyH.cons rfl (fun K hK => ?_) AllReadyH.nil
    go_simp
    go_at_call 15
    refine (CM.out _ _ _ _ _ HSS.out.2 HR9.out.1 HR9.out.2).mono ?_
    rintro e wz ⟨rfl, hb9⟩
    have HS2 : Hid ((wz.cell? ⟨w1.heap.size, 0, none⟩ = some (.slice ua vs.length uc) ∧ wz.cell? ⟨w1.heap.size, 1, none⟩ = some (.slice xa cs.length xc) ∧ wz.cell? ⟨w2.heap.size, 0, none⟩ = some (.slice ua2 vs.length uc2) ∧ wz.cell? ⟨w2.heap.size, 1, none⟩ = some (.slice xa2 cs.length xc2) ∧ wz.cell? ⟨w2.heap.size, 2, none⟩ = some (.string S) ∧ wz.cell? ⟨w3.heap.size, 0, none⟩ = some (.slice va vs3.length vc) ∧ wz.cell? ⟨w3.heap.size, 1, none⟩ = some (.slice ya cs3.length yc) ∧ wz.cell? ⟨w3.heap.size, 2, none⟩ = some (.string o3) ∧ wz.cell? ⟨w4.heap.size, 0, none⟩ = some (.slice ua4 vs3.length uc4) ∧ wz.cell? ⟨w4.heap.size, 1, none⟩ = some (.slice xa4 cs3.length xc4) ∧ wz.cell? ⟨w4.heap.size, 2, none⟩ = some (.string D)) ∧ Hid (Below W5.heap.size W5 wz)) := ⟨⟨cell_up hb9 HSS.out.1.1, cell_up hb9 HSS.out.1.2.1, cell_up hb9 HSS.out.1.2.2.1, cell_up hb9 HSS.out.1.2.2.2.1, cell_up hb9 HSS.out.1.2.2.2.2.1, cell_up hb9 HSS.out.1.2.2.2.2.2.1, cell_up hb9 HSS.out.1.2.2.2.2.2.2.1, cell_up hb9 HSS.out.1.2.2.2.2.2.2.2.1, cell_up hb9 HSS.out.1.2.2.2.2.2.2.2.2.1, cell_up hb9 HSS.out.1.2.2.2.2.2.2.2.2.2.1, cell_up hb9 HSS.out.1.2.2.2.2.2.2.2.2.2.2⟩, HSS.out.2.out.trans (hb9.mono HSS.out.2.out.size)⟩
    dsimp only
    refine hK.out _ _ HS2.out (fun _ => ?_)
    clear hK K hb9 HSS
    have HSS := hidOf8 HS2.out
    clear HS2
    try show wpAnyH _ _ _ _ _ _ _ (Act.put _ (some 65) _) _
    (try simp only [Act.put]); (try simp only [List.setIfInBounds_toArray]); (try simp only [List.set_cons_succ, List.set_cons_zero])
    refine wpAnyH_take (i := 28) (v := .bool true) rfl (by kernel_rfl) (by kernel_rfl) (by kernel_rfl) (fun _ _ _ h => h) (Or.inl ⟨by kernel_rfl, ?_⟩) HSS.out ?_
    · (intro u9 hSw; (try dsimp only at hSw); go_simp)
    show wpAnyH _ _ _ _ _ _ _ (Act.put _ (some 66) _) _
    (try simp only [Act.put]); (try simp only [List.setIfInBounds_toArray]); (try simp only [List.set_cons_succ, List.set_cons_zero])
    refine wpAnyH_take (i := 29) (v := .bool true) rfl (by kernel_rfl) (by kernel_rfl) (by kernel_rfl) (fun _ _ _ h => h) (Or.inl ⟨by kernel_rfl, ?_⟩) HSS.out ?_
    · (intro u9 hSw; (try dsimp only at hSw); go_simp)
    show wpAnyH _ _ _ _ _ _ _ (Act.put _ (some 67) _) _
    (try simp only [Act.put]); (try simp only [List.setIfInBounds_toArray]); (try simp only [List.set_cons_succ, List.set_cons_zero])
    refine wpAnyH_take (i := 30) (v := ?_) rfl (by kernel_rfl) (by kernel_rfl) (by kernel_rfl) (fun _ _ _ h => h) (Or.inl ⟨by kernel_rfl, ?_⟩) HSS.out ?_
    rotate_left
    · (intro u9 hSw; (try dsimp only at hSw); go_simp; try with_reducible rfl)
    show wpAnyH _ _ _ _ _ _ _ (Act.put _ (some 68) _) _
    (try simp only [Act.put]); (try simp only [List.setIfInBounds_toArray]); (try simp only [List.set_cons_succ, List.set_cons_zero])
    refine wpAnyH_take (i := 31) (v := ?_) rfl (by kernel_rfl) (by kernel_rfl) (by kernel_rfl) (fun _ _ _ h => h) (Or.inl ⟨by kernel_rfl, ?_⟩) HSS.out ?_
    rotate_left
    · (intro u9 hSw; (try dsimp only at hSw); go_simp; try with_reducible rfl)
    show wpAnyH _ _ _ _ _ _ _ (Act.put _ (some 69) _) _
    (try simp only [Act.put]); (try simp only [List.setIfInBounds_toArray]); (try simp only [List.set_cons_succ, List.set_cons_zero])
    refine wpAnyH_take (i := 32) (v := ?_) rfl (by kernel_rfl) (by kernel_rfl) (by kernel_rfl) (fun _ _ _ h => h) (Or.inl ⟨by kernel_rfl, ?_⟩) HSS.out ?_
    rotate_left
    · (intro u9 hSw; (try dsimp only at hSw); go_simp; try with_reducible rfl)
    show wpAnyH _ _ _ _ _ _ _ (Act.put _ (some 70) _) _
    (try simp only [Act.put]); (try simp only [List.setIfInBounds_toArray]); (try simp only [List.set_cons_succ, List.set_cons_zero])
    by_cases hbg : 3000 < o3.size
    · have dbg : decide ((3000 : Int) < (o3.size : Int)) = true := decide_eq_true (by omega)
      refine wpAnyH_take (i := 33) (v := .bool true) rfl (by kernel_rfl) (by kernel_rfl) (by kernel_rfl) (fun _ _ _ h => h) (Or.inl ⟨by kernel_rfl, ?_⟩) HSS.out ?_
      · (intro u9 hSw; (try dsimp only at hSw); go_simp)
      show wpAnyH _ _ _ _ _ _ _ (Act.put _ (some 71) _) _
      (try simp only [Act.put]); (try simp only [List.setIfInBounds_toArray]); (try simp only [List.set_cons_succ, List.set_cons_zero])
      refine wpAnyH_take (i := 34) (v := .bool true) rfl (by kernel_rfl) (by kernel_rfl) (by kernel_rfl) (fun _ _ _ h => h) (Or.inl ⟨by kernel_rfl, ?_⟩) HSS.out ?_
      · (intro u9 hSw; (try dsimp only at hSw); go_simp)
      show wpAnyH _ _ _ _ _ _ _ (Act.put _ (some 72) _) _
      (try simp only [Act.put]); (try simp only [List.setIfInBounds_toArray]); (try simp only [List.set_cons_succ, List.set_cons_zero])
      refine wpAnyH_take (i := 35) (v := undef) rfl (by kernel_rfl) (by kernel_rfl) (by kernel_rfl) (fun _ _ _ h => h) (Or.inr ⟨by kernel_rfl, rfl⟩) HSS.out ?_
      show wpAnyH _ _ _ _ _ _ _ (Act.put _ (some 73) _) _
      (try simp only [Act.put]); (try simp only [List.setIfInBounds_toArray]); (try simp only [List.set_cons_succ, List.set_cons_zero])
      refine wpAnyH_take (i := 36) (v := undef) rfl (by kernel_rfl) (by kernel_rfl) (by kernel_rfl) (fun _ _ _ h => h) (Or.inr ⟨by kernel_rfl, rfl⟩) HSS.out ?_
      show wpAnyH _ _ _ _ _ _ _ (Act.put _ (some 74) _) _
      (try simp only [Act.put]); (try simp only [List.setIfInBounds_toArray]); (try simp only [List.set_cons_succ, List.set_cons_zero])
      refine wpAnyH_take (i := 37) (v := undef) rfl (by kernel_rfl) (by kernel_rfl) (by kernel_rfl) (fun _ _ _ h => h) (Or.inr ⟨by kernel_rfl, rfl⟩) HSS.out ?_
      show wpAnyH _ _ _ _ _ _ _ (Act.put _ (some 75) _) _
      (try simp only [Act.put]); (try simp only [List.setIfInBounds_toArray]); (try simp only [List.set_cons_succ, List.set_cons_zero])
      refine wpAnyH_take (i := 38) (v := undef) rfl (by kernel_rfl) (by kernel_rfl) (by kernel_rfl) (fun _ _ _ h => h) (Or.inr ⟨by kernel_rfl, rfl⟩) HSS.out ?_
      show wpAnyH _ _ _ _ _ _ _ (Act.put _ (some 76) _) _
      (try simp only [Act.put]); (try simp only [List.setIfInBounds_toArray]); (try simp only [List.set_cons_succ, List.set_cons_zero])
      refine wpAnyH_take (i := 39) (v := undef) rfl (by kernel_rfl) (by kernel_rfl) (by kernel_rfl) (fun _ _ _ h => h) (Or.inr ⟨by kernel_rfl, rfl⟩) HSS.out ?_
      show wpAnyH _ _ _ _ _ _ _ (Act.put _ (some 77) _) _
      (try simp only [Act.put]); (try simp only [List.setIfInBounds_toArray]); (try simp only [List.set_cons_succ, List.set_cons_zero])
      refine wpAnyH_take (i := 40) (v := .bool true) rfl (by kernel_rfl) (by kernel_rfl) (by kernel_rfl) (fun _ _ _ h => h) (Or.inl ⟨by kernel_rfl, ?_⟩) HSS.out ?_
      · (intro u9 hSw; (try dsimp only at hSw); go_simp)
      show wpAnyH _ _ _ _ _ _ _ (Act.put _ (some 78) _) _
      (try simp only [Act.put]); (try simp only [List.setIfInBounds_toArray]); (try simp only [List.set_cons_succ, List.set_cons_zero])
      refine wpAnyH_take (i := 41) (v := .bool true) rfl (by kernel_rfl) (by kernel_rfl) (by kernel_rfl) (fun _ _ _ h => h) (Or.inl ⟨by kernel_rfl, ?_⟩) HSS.out ?_
      · (intro u9 hSw; (try dsimp only at hSw); go_simp)
      show wpAnyH _ _ _ _ _ _ _ (Act.put _ (some 79) _) _
      (try simp only [Act.put]); (try simp only [List.setIfInBounds_toArray]); (try simp only [List.set_cons_succ, List.set_cons_zero])
      refine wpAnyH_take (i := 42) (v := .bool true) rfl (by kernel_rfl) (by kernel_rfl) (by kernel_rfl) (fun _ _ _ h => h) (Or.inl ⟨by kernel_rfl, ?_⟩) HSS.out ?_
      · (intro u9 hSw; (try dsimp only at hSw); go_simp)
      show wpAnyH _ _ _ _ _ _ _ (Act.put _ (some 80) _) _
      (try simp only [Act.put]); (try simp only [List.setIfInBounds_toArray]); (try simp only [List.set_cons_succ, List.set_cons_zero])
      refine wpAnyH_take (i := 43) (v := ?_) rfl (by kernel_rfl) (by kernel_rfl) (by kernel_rfl) (fun _ _ _ h => h) (Or.inl ⟨by kernel_rfl, ?_⟩) HSS.out ?_
      rotate_left
      · (intro u9 hSw; (try dsimp only at hSw); go_simp; try with_reducible rfl)
      show wpAnyH _ _ _ _ _ _ _ (Act.put _ (some 81) _) _
      (try simp only [Act.put]); (try simp only [List.setIfInBounds_toArray]); (try simp only [List.set_cons_succ, List.set_cons_zero])
      refine wpAnyH_take (i := 44) (v := ?_) rfl (by kernel_rfl) (by kernel_rfl) (by kernel_rfl) (fun _ _ _ h => h) (Or.inl ⟨by kernel_rfl, ?_⟩) HSS.out ?_
      rotate_left
      · (intro u9 hSw; (try dsimp only at hSw); go_simp; try with_reducible rfl)
      show wpAnyH _ _ _ _ _ _ _ (Act.put _ (some 82) _) _
      (try simp only [Act.put]); (try simp only [List.setIfInBounds_toArray]); (try simp only [List.set_cons_succ, List.set_cons_zero])
      refine wpAnyH_take (i := 45) (v := ?_) rfl (by kernel_rfl) (by kernel_rfl) (by kernel_rfl) (fun _ _ _ h => h) (Or.inl ⟨by kernel_rfl, ?_⟩) HSS.out ?_
      rotate_left
      · (intro u9 hSw; (try dsimp only at hSw); go_simp; try with_reducible rfl)
      show wpAnyH _ _ _ _ _ _ _ (Act.put _ (some 83) _) _
      (try simp only [Act.put]); (try simp only [List.setIfInBounds_toArray]); (try simp only [List.set_cons_succ, List.set_cons_zero])
      refine wpAnyH_take (i := 46) (v := ?_) rfl (by kernel_rfl) (by kernel_rfl) (by kernel_rfl) (fun _ _ _ h => h) (Or.inl ⟨by kernel_rfl, ?_⟩) HSS.out ?_
      rotate_left
      · (intro u9 hSw; (try dsimp only at hSw); go_simp; try with_reducible rfl)
      show wpAnyH _ _ _ _ _ _ _ (Act.put _ (some 84) _) _
      (try simp only [Act.put]); (try simp only [List.setIfInBounds_toArray]); (try simp only [List.set_cons_succ, List.set_cons_zero])
      refine wpAnyH_take (i := 47) (v := ?_) rfl (by kernel_rfl) (by kernel_rfl) (by kernel_rfl) (fun _ _ _ h => h) (Or.inl ⟨by kernel_rfl, ?_⟩) HSS.out ?_
      rotate_left
      · (intro u9 hSw; (try dsimp only at hSw); go_simp; try with_reducible rfl)
      show wpAnyH _ _ _ _ _ _ _ (Act.put _ (some 85) _) _
      (try simp only [Act.put]); (try simp only [List.setIfInBounds_toArray]); (try simp only [List.set_cons_succ, List.set_cons_zero])
      refine wpAnyH_take (i := 48) (v := ?_) rfl (by kernel_rfl) (by kernel_rfl) (by kernel_rfl) (fun _ _ _ h => h) (Or.inl ⟨by kernel_rfl, ?_⟩) HSS.out ?_
      rotate_left
      · (intro u9 hSw; (try dsimp only at hSw); go_simp; try with_reducible rfl)
      show wpAnyH _ _ _ _ _ _ _ (Act.put _ (some 86) _) _
      (try simp only [Act.put]); (try simp only [List.setIfInBounds_toArray]); (try simp only [List.set_cons_succ, List.set_cons_zero])
      refine wpAnyH_take (i := 49) (v := .bool true) rfl (by kernel_rfl) (by kernel_rfl) (by kernel_rfl) (fun _ _ _ h => h) (Or.inl ⟨by kernel_rfl, ?_⟩) HSS.out ?_
      · (intro u9 hSw; (try dsimp only at hSw); go_simp)
      show wpAnyH _ _ _ _ _ _ _ (Act.put _ (some 87) _) _
      (try simp only [Act.put]); (try simp only [List.setIfInBounds_toArray]); (try simp only [List.set_cons_succ, List.set_cons_zero])
      refine wpAnyH_take (i := 50) (v := .bool true) rfl (by kernel_rfl) (by kernel_rfl) (by kernel_rfl) (fun _ _ _ h => h) (Or.inl ⟨by kernel_rfl, ?_⟩) HSS.out ?_
      · (intro u9 hSw; (try dsimp only at hSw); go_simp)
      show wpAnyH _ _ _ _ _ _ _ (Act.put _ (some 88) _) _
      (try simp only [Act.put]); (try simp only [List.setIfInBounds_toArray]); (try simp only [List.set_cons_succ, List.set_cons_zero])
      refine wpAnyH_take (i := 51) (v := ?_) rfl (by kernel_rfl) (by kernel_rfl) (by kernel_rfl) (fun _ _ _ h => h) (Or.inl ⟨by kernel_rfl, ?_⟩) HSS.out ?_
      rotate_left
      · (intro u9 hSw; (try dsimp only at hSw); go_simp; try with_reducible rfl)
      show wpAnyH _ _ _ _ _ _ _ (Act.put _ (some 2) _) _
      (try simp only [Act.put]); (try simp only [List.setIfInBounds_toArray]); (try simp only [List.set_cons_succ, List.set_cons_zero])
      refine wpAnyH_done (by kernel_rfl) ?_ _
      refine NoPanic.normal ?_
      go_wp2
      go_ret
      exact ⟨by kernel_rfl, HFI.out _ HSS.out.2.out⟩
    · have dbg : decide ((3000 : Int) < (o3.size : Int)) = false := decide_eq_false (by omega)
      have CG := hidOf8 (fun W => begins_yes o3 D W (HB.out (by omega)).1 (HB.out (by omega)).2)
      refine wpAnyH_take (i := 33) (v := .bool false) rfl (by kernel_rfl) (by kernel_rfl) (by kernel_rfl) (fun _ _ _ h => h) (Or.inl ⟨by kernel_rfl, ?_⟩) HSS.out ?_
      · (intro u9 hSw; (try dsimp only at hSw); go_simp)
      show wpAnyH _ _ _ _ _ _ _ (Act.put _ (some 71) _) _
      (try simp only [Act.put]); (try simp only [List.setIfInBounds_toArray]); (try simp only [List.set_cons_succ, List.set_cons_zero])
      refine wpAnyH_take (i := 34) (v := .bool false) rfl (by kernel_rfl) (by kernel_rfl) (by kernel_rfl) (fun _ _ _ h => h) (Or.inl ⟨by kernel_rfl, ?_⟩) HSS.out ?_
      · (intro u9 hSw; (try dsimp only at hSw); go_simp)
      show wpAnyH _ _ _ _ _ _ _ (Act.put _ (some 72) _) _
      (try simp only [Act.put]); (try simp only [List.setIfInBounds_toArray]); (try simp only [List.set_cons_succ, List.set_cons_zero])
      refine wpAnyH_take (i := 35) (v := ?_) rfl (by kernel_rfl) (by kernel_rfl) (by kernel_rfl) (fun _ _ _ h => h) (Or.inl ⟨by kernel_rfl, ?_⟩) HSS.out ?_
      rotate_left
      · (intro u9 hSw; (try dsimp only at hSw); go_simp; try with_reducible rfl)
      show wpAnyH _ _ _ _ _ _ _ (Act.put _ (some 73) _) _
      (try simp only [Act.put]); (try simp only [List.setIfInBounds_toArray]); (try simp only [List.set_cons_succ, List.set_cons_zero])
      refine wpAnyH_take (i := 36) (v := ?_) rfl (by kernel_rfl) (by kernel_rfl) (by kernel_rfl) (fun _ _ _ h => h) (Or.inl ⟨by kernel_rfl, ?_⟩) HSS.out ?_
      rotate_left
      · (intro u9 hSw; (try dsimp only at hSw); go_simp; try with_reducible rfl)
      show wpAnyH _ _ _ _ _ _ _ (Act.put _ (some 74) _) _
      (try simp only [Act.put]); (try simp only [List.setIfInBounds_toArray]); (try simp only [List.set_cons_succ, List.set_cons_zero])
      refine wpAnyH_take (i := 37) (v := ?_) rfl (by kernel_rfl) (by kernel_rfl) (by kernel_rfl) (fun _ _ _ h => h) (Or.inl ⟨by kernel_rfl, ?_⟩) HSS.out ?_
      rotate_left
      · (intro u9 hSw; (try dsimp only at hSw); go_simp; try with_reducible rfl)
      show wpAnyH _ _ _ _ _ _ _ (Act.put _ (some 75) _) _
      (try simp only [Act.put]); (try simp only [List.setIfInBounds_toArray]); (try simp only [List.set_cons_succ, List.set_cons_zero])
      refine wpAnyH_take (i := 38) (v := ?_) rfl (by kernel_rfl) (by kernel_rfl) (by kernel_rfl) (fun _ _ _ h => h) (Or.inl ⟨by kernel_rfl, ?_⟩) HSS.out ?_
      rotate_left
      · (intro u9 hSw; (try dsimp only at hSw); go_simp; try with_reducible rfl)
      show wpAnyH _ _ _ _ _ _ _ (Act.put _ (some 76) _) _
      (try simp only [Act.put]); (try simp only [List.setIfInBounds_toArray]); (try simp only [List.set_cons_succ, List.set_cons_zero])
      refine wpAnyH_ready (rs := [39]) (by kernel_rfl) (by simp) ?_
      refine AllReadyH.cons rfl (fun K hK => ?_) AllReadyH.nil
      go_simp
      go_at_call 25
      refine (CG.out _).mono ?_
      rintro e wz ⟨rfl, hb9⟩
      have HS2 : Hid ((wz.cell? ⟨w1.heap.size, 0, none⟩ = some (.slice ua vs.length uc) ∧ wz.cell? ⟨w1.heap.size, 1, none⟩ = some (.slice xa cs.length xc) ∧ wz.cell? ⟨w2.heap.size, 0, none⟩ = some (.slice ua2 vs.length uc2) ∧ wz.cell? ⟨w2.heap.size, 1, none⟩ = some (.slice xa2 cs.length xc2) ∧ wz.cell? ⟨w2.heap.size, 2, none⟩ = some (.string S) ∧ wz.cell? ⟨w3.heap.size, 0, none⟩ = some (.slice va vs3.length vc) ∧ wz.cell? ⟨w3.heap.size, 1, none⟩ = some (.slice ya cs3.length yc) ∧ wz.cell? ⟨w3.heap.size, 2, none⟩ = some (.string o3) ∧ wz.cell? ⟨w4.heap.size, 0, none⟩ = some (.slice ua4 vs3.length uc4) ∧ wz.cell? ⟨w4.heap.size, 1, none⟩ = some (.slice xa4 cs3.length xc4) ∧ wz.cell? ⟨w4.heap.size, 2, none⟩ = some (.string D)) ∧ Hid (Below W5.heap.size W5 wz)) := ⟨⟨cell_up hb9 HSS.out.1.1, cell_up hb9 HSS.out.1.2.1, cell_up hb9 HSS.out.1.2.2.1, cell_up hb9 HSS.out.1.2.2.2.1, cell_up hb9 HSS.out.1.2.2.2.2.1, cell_up hb9 HSS.out.1.2.2.2.2.2.1, cell_up hb9 HSS.out.1.2.2.2.2.2.2.1, cell_up hb9 HSS.out.1.2.2.2.2.2.2.2.1, cell_up hb9 HSS.out.1.2.2.2.2.2.2.2.2.1, cell_up hb9 HSS.out.1.2.2.2.2.2.2.2.2.2.1, cell_up hb9 HSS.out.1.2.2.2.2.2.2.2.2.2.2⟩, HSS.out.2.out.trans (hb9.mono HSS.out.2.out.size)⟩
      dsimp only
      refine hK.out _ _ HS2.out (fun _ => ?_)
      clear hK K hb9 HSS
      have HSS := hidOf8 HS2.out
      clear HS2
      try show wpAnyH _ _ _ _ _ _ _ (Act.put _ (some 77) _) _
      (try simp only [Act.put]); (try simp only [List.setIfInBounds_toArray]); (try simp only [List.set_cons_succ, List.set_cons_zero])
      refine wpAnyH_take (i := 40) (v := .bool true) rfl (by kernel_rfl) (by kernel_rfl) (by kernel_rfl) (fun _ _ _ h => h) (Or.inl ⟨by kernel_rfl, ?_⟩) HSS.out ?_
      · (intro u9 hSw; (try dsimp only at hSw); go_simp)
      show wpAnyH _ _ _ _ _ _ _ (Act.put _ (some 78) _) _
      (try simp only [Act.put]); (try simp only [List.setIfInBounds_toArray]); (try simp only [List.set_cons_succ, List.set_cons_zero])
      refine wpAnyH_take (i := 41) (v := .bool true) rfl (by kernel_rfl) (by kernel_rfl) (by kernel_rfl) (fun _ _ _ h => h) (Or.inl ⟨by kernel_rfl, ?_⟩) HSS.out ?_
      · (intro u9 hSw; (try dsimp only at hSw); go_simp)
      show wpAnyH _ _ _ _ _ _ _ (Act.put _ (some 79) _) _
      (try simp only [Act.put]); (try simp only [List.setIfInBounds_toArray]); (try simp only [List.set_cons_succ, List.set_cons_zero])
      refine wpAnyH_take (i := 42) (v := .bool true) rfl (by kernel_rfl) (by kernel_rfl) (by kernel_rfl) (fun _ _ _ h => h) (Or.inl ⟨by kernel_rfl, ?_⟩) HSS.out ?_
      · (intro u9 hSw; (try dsimp only at hSw); go_simp)
      show wpAnyH _ _ _ _ _ _ _ (Act.put _ (some 80) _) _
      (try simp only [Act.put]); (try simp only [List.setIfInBounds_toArray]); (try simp only [List.set_cons_succ, List.set_cons_zero])
      refine wpAnyH_take (i := 43) (v := ?_) rfl (by kernel_rfl) (by kernel_rfl) (by kernel_rfl) (fun _ _ _ h => h) (Or.inl ⟨by kernel_rfl, ?_⟩) HSS.out ?_
      rotate_left
      · (intro u9 hSw; (try dsimp only at hSw); go_simp; try with_reducible rfl)
      show wpAnyH _ _ _ _ _ _ _ (Act.put _ (some 81) _) _
      (try simp only [Act.put]); (try simp only [List.setIfInBounds_toArray]); (try simp only [List.set_cons_succ, List.set_cons_zero])
      refine wpAnyH_take (i := 44) (v := ?_) rfl (by kernel_rfl) (by kernel_rfl) (by kernel_rfl) (fun _ _ _ h => h) (Or.inl ⟨by kernel_rfl, ?_⟩) HSS.out ?_
      rotate_left
      · (intro u9 hSw; (try dsimp only at hSw); go_simp; try with_reducible rfl)
      show wpAnyH _ _ _ _ _ _ _ (Act.put _ (some 82) _) _
      (try simp only [Act.put]); (try simp only [List.setIfInBounds_toArray]); (try simp only [List.set_cons_succ, List.set_cons_zero])
      refine wpAnyH_take (i := 45) (v := ?_) rfl (by kernel_rfl) (by kernel_rfl) (by kernel_rfl) (fun _ _ _ h => h) (Or.inl ⟨by kernel_rfl, ?_⟩) HSS.out ?_
      rotate_left
      · (intro u9 hSw; (try dsimp only at hSw); go_simp; try with_reducible rfl)
      show wpAnyH _ _ _ _ _ _ _ (Act.put _ (some 83) _) _
      (try simp only [Act.put]); (try simp only [List.setIfInBounds_toArray]); (try simp only [List.set_cons_succ, List.set_cons_zero])
      refine wpAnyH_take (i := 46) (v := ?_) rfl (by kernel_rfl) (by kernel_rfl) (by kernel_rfl) (fun _ _ _ h => h) (Or.inl ⟨by kernel_rfl, ?_⟩) HSS.out ?_
      rotate_left
      · (intro u9 hSw; (try dsimp only at hSw); go_simp; try with_reducible rfl)
      show wpAnyH _ _ _ _ _ _ _ (Act.put _ (some 84) _) _
      (try simp only [Act.put]); (try simp only [List.setIfInBounds_toArray]); (try simp only [List.set_cons_succ, List.set_cons_zero])
      refine wpAnyH_take (i := 47) (v := ?_) rfl (by kernel_rfl) (by kernel_rfl) (by kernel_rfl) (fun _ _ _ h => h) (Or.inl ⟨by kernel_rfl, ?_⟩) HSS.out ?_
      rotate_left
      · (intro u9 hSw; (try dsimp only at hSw); go_simp; try with_reducible rfl)
      show wpAnyH _ _ _ _ _ _ _ (Act.put _ (some 85) _) _
      (try simp only [Act.put]); (try simp only [List.setIfInBounds_toArray]); (try simp only [List.set_cons_succ, List.set_cons_zero])
      refine wpAnyH_take (i := 48) (v := ?_) rfl (by kernel_rfl) (by kernel_rfl) (by kernel_rfl) (fun _ _ _ h => h) (Or.inl ⟨by kernel_rfl, ?_⟩) HSS.out ?_
      rotate_left
      · (intro u9 hSw; (try dsimp only at hSw); go_simp; try with_reducible rfl)
      show wpAnyH _ _ _ _ _ _ _ (Act.put _ (some 86) _) _
      (try simp only [Act.put]); (try simp only [List.setIfInBounds_toArray]); (try simp only [List.set_cons_succ, List.set_cons_zero])
      refine wpAnyH_take (i := 49) (v := .bool true) rfl (by kernel_rfl) (by kernel_rfl) (by kernel_rfl) (fun _ _ _ h => h) (Or.inl ⟨by kernel_rfl, ?_⟩) HSS.out ?_
      · (intro u9 hSw; (try dsimp only at hSw); go_simp)
      show wpAnyH _ _ _ _ _ _ _ (Act.put _ (some 87) _) _
      (try simp only [Act.put]); (try simp only [List.setIfInBounds_toArray]); (try simp only [List.set_cons_succ, List.set_cons_zero])
      refine wpAnyH_take (i := 50) (v := .bool true) rfl (by kernel_rfl) (by kernel_rfl) (by kernel_rfl) (fun _ _ _ h => h) (Or.inl ⟨by kernel_rfl, ?_⟩) HSS.out ?_
      · (intro u9 hSw; (try dsimp only at hSw); go_simp)
      show wpAnyH _ _ _ _ _ _ _ (Act.put _ (some 88) _) _
      (try simp only [Act.put]); (try simp only [List.setIfInBounds_toArray]); (try simp only [List.set_cons_succ, List.set_cons_zero])
      refine wpAnyH_take (i := 51) (v := ?_) rfl (by kernel_rfl) (by kernel_rfl) (by kernel_rfl) (fun _ _ _ h => h) (Or.inl ⟨by kernel_rfl, ?_⟩) HSS.out ?_
      rotate_left
      · (intro u9 hSw; (try dsimp only at hSw); go_simp; try with_reducible rfl)
      show wpAnyH _ _ _ _ _ _ _ (Act.put _ (some 2) _) _
      (try simp only [Act.put]); (try simp only [List.setIfInBounds_toArray]); (try simp only [List.set_cons_succ, List.set_cons_zero])
      refine wpAnyH_done (by kernel_rfl) ?_ _
      refine NoPanic.normal ?_
      go_wp2
      go_ret
      exact ⟨by kernel_rfl, HFI.out _ HSS.out.2.out⟩
end Go.Proofs.Ytjohhledpjmffaa
