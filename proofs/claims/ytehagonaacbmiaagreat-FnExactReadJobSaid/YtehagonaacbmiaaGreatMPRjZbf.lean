/- The law on ReadJob: at every text it answers as the specification, and its answer owns its memory. The specification's ReadJob at every text; the law. -/
import Derived.Test.YtehagonaacbmiaaGreatMPRjZbe
import Derived.Test.YtehagonaacbmiaaGreatMPRjRjH
import Derived.Test.YtehagonaacbmiaaGreatMPRjRcO
import Derived.Test.YtehagonaacbmiaaGreatMPRjZba
namespace Go.Proofs.YtehagonaacbmiaaGreat
section PartLwRj
open Go.RowKit

theorem cells10j {W : World} {b : Nat} {u0 u1 u2 u3 u4 u5 u6 u7 u8 u9 : Value} {t : TypeId} (h : W.heap[b]? = some (.cells #[u0, u1, u2, u3, u4, u5, u6, u7, u8, u9] t (0, 0))) : W.cell? ⟨b, 0, none⟩ = some u0 ∧ W.cell? ⟨b, 1, none⟩ = some u1 ∧ W.cell? ⟨b, 2, none⟩ = some u2 ∧ W.cell? ⟨b, 3, none⟩ = some u3 ∧ W.cell? ⟨b, 4, none⟩ = some u4 ∧ W.cell? ⟨b, 5, none⟩ = some u5 ∧ W.cell? ⟨b, 6, none⟩ = some u6 ∧ W.cell? ⟨b, 7, none⟩ = some u7 ∧ W.cell? ⟨b, 8, none⟩ = some u8 ∧ W.cell? ⟨b, 9, none⟩ = some u9 :=
  ⟨(blk_cell h 0).trans rfl, (blk_cell h 1).trans rfl, (blk_cell h 2).trans rfl, (blk_cell h 3).trans rfl, (blk_cell h 4).trans rfl, (blk_cell h 5).trans rfl, (blk_cell h 6).trans rfl, (blk_cell h 7).trans rfl, (blk_cell h 8).trans rfl, (blk_cell h 9).trans rfl⟩
set_option maxRecDepth 100000 in
set_option maxHeartbeats 16000000 in
theorem lawReadJob_of (CS0 : ∀ (s : ByteArray) (W : World), s.size ≤ 1048576 → Calls Tryz.prog 10 #[.string s] W fun e w' => RdJ W w' s.data.toList e) (s : ByteArray) (w : World) :
    Calls Tryz.prog 4 #[.string s] w fun e w' => e = .returned (.bool true) ∧ Below w.heap.size w w' := by
  by_cases hs : 1048576 < s.size
  · have d1 : decide ((1048576 : Int) < (s.size : Int)) = true := decide_eq_true (by omega)
    go_enter Tryz.func4, Tryz.ntmps4
    go_wp2
    go_ret
    exact ⟨rfl, Below.refl _ _⟩
  have d1 : decide ((1048576 : Int) < (s.size : Int)) = false := decide_eq_false (by omega)
  obtain ⟨ok, j, hsm, hbd, HI0, HS0⟩ := rj_form s.data.toList
  have CJ := fun (tv lv u x nv mv tv' lv' u' x' nv' mv' : Value) (W : World) (h : Jb.At W tv lv u x nv mv j) (h' : Jb.At W tv' lv' u' x' nv' mv' j) => eqJob_any tv lv u x nv mv tv' lv' u' x' nv' mv' j W h h' hsm
  clear hsm
  obtain ⟨ts, xs, bg, li, en, vs, cs, O, ns, ls⟩ := j
  simp only at hbd
  obtain ⟨n, hn⟩ : ∃ n, n = ts.length := ⟨_, rfl⟩
  obtain ⟨ln, hln⟩ : ∃ n, n = xs.length := ⟨_, rfl⟩
  obtain ⟨p, hp⟩ : ∃ n, n = vs.length := ⟨_, rfl⟩
  obtain ⟨r, hr⟩ : ∃ n, n = cs.length := ⟨_, rfl⟩
  obtain ⟨nn, hnn⟩ : ∃ n, n = ns.length := ⟨_, rfl⟩
  obtain ⟨nl, hnl⟩ : ∃ n, n = ls.length := ⟨_, rfl⟩
  have CI : Hid (∀ W : World, Calls Tryz.prog 11 #[.string s] W fun e w' => Below W.heap.size W w' ∧ ∃ (ta la ua xa na ma : Option Addr) (tc lc uc xc nc mc : Nat), e = .returned (.tuple #[.agg #[.slice ta n tc, .slice la ln lc, .int .i64 bg, .int .i64 li, .int .i64 en, .slice ua p uc, .slice xa r xc, .string O, .slice na nn nc, .slice ma nl mc], .bool ok]) ∧ RjRows (W.heap.size + 2) w' (.slice ta n tc) (.slice la ln lc) (.slice ua p uc) (.slice xa r xc) (.slice na nn nc) (.slice ma nl mc) ts ns ls xs vs cs ∧ Apart6 (W.heap.size + 2) (.slice ta n tc) (.slice la ln lc) (.slice ua p uc) (.slice xa r xc) (.slice na nn nc) (.slice ma nl mc)) := by
    intro W
    refine (imReadJob s W (by omega)).mono ?_
    intro e w' h
    obtain ⟨hb, tv, lv, u, x, nv, mv, rfl, h1, h2⟩ := HI0 W w' e h
    simp only at h1
    obtain ⟨ta, tc, rfl⟩ := row_form h1.t
    obtain ⟨la, lc, rfl⟩ := row_form h1.l
    obtain ⟨ua, uc, rfl⟩ := row_form h1.u
    obtain ⟨xa, xc, rfl⟩ := row_form h1.x
    obtain ⟨na, nc, rfl⟩ := row_form h1.n
    obtain ⟨ma, mc, rfl⟩ := row_form h1.m
    rw [hn, hln, hp, hr, hnn, hnl]
    exact ⟨hb, ta, la, ua, xa, na, ma, tc, lc, uc, xc, nc, mc, rfl, h1, h2⟩
  have CS : Hid (∀ W : World, Calls Tryz.prog 10 #[.string s] W fun e w' => Below W.heap.size W w' ∧ ∃ (ta la ua xa na ma : Option Addr) (tc lc uc xc nc mc : Nat), e = .returned (.tuple #[.agg #[.slice ta n tc, .slice la ln lc, .int .i64 bg, .int .i64 li, .int .i64 en, .slice ua p uc, .slice xa r xc, .string O, .slice na nn nc, .slice ma nl mc], .bool ok]) ∧ Jb.At w' (.slice ta n tc) (.slice la ln lc) (.slice ua p uc) (.slice xa r xc) (.slice na nn nc) (.slice ma nl mc) ⟨ts, xs, bg, li, en, vs, cs, O, ns, ls⟩) := by
    intro W
    refine (CS0 s W (by omega)).mono ?_
    intro e w' h
    obtain ⟨hb, tv, lv, u, x, nv, mv, rfl, h1⟩ := HS0 W w' e h
    obtain ⟨ta, tc, rfl, -⟩ := id h1.t
    obtain ⟨la, lc, rfl, -⟩ := id h1.l
    obtain ⟨ua, uc, rfl, -⟩ := id h1.u
    obtain ⟨xa, xc, rfl, -⟩ := id h1.x
    obtain ⟨na, nc, rfl, -⟩ := id h1.n
    obtain ⟨ma, mc, rfl, -⟩ := id h1.m
    rw [hn, hln, hp, hr, hnn, hnl]
    exact ⟨hb, ta, la, ua, xa, na, ma, tc, lc, uc, xc, nc, mc, rfl, h1⟩
  have CQ : Hid (∀ (W : World) (ta la ua xa na ma : Option Addr) (tc lc uc xc nc mc : Nat) (ta' la' ua' xa' na' ma' : Option Addr) (tc' lc' uc' xc' nc' mc' : Nat), Jb.At W (.slice ta n tc) (.slice la ln lc) (.slice ua p uc) (.slice xa r xc) (.slice na nn nc) (.slice ma nl mc) ⟨ts, xs, bg, li, en, vs, cs, O, ns, ls⟩ → Jb.At W (.slice ta' n tc') (.slice la' ln lc') (.slice ua' p uc') (.slice xa' r xc') (.slice na' nn nc') (.slice ma' nl mc') ⟨ts, xs, bg, li, en, vs, cs, O, ns, ls⟩ → Calls Tryz.prog 9 #[.agg #[.slice ta n tc, .slice la ln lc, .int .i64 bg, .int .i64 li, .int .i64 en, .slice ua p uc, .slice xa r xc, .string O, .slice na nn nc, .slice ma nl mc], .agg #[.slice ta' n tc', .slice la' ln lc', .int .i64 bg, .int .i64 li, .int .i64 en, .slice ua' p uc', .slice xa' r xc', .string O, .slice na' nn nc', .slice ma' nl mc']] W fun e w' => e = .returned (.bool true) ∧ Below W.heap.size W w') := by
    intro W ta la ua xa na ma tc lc uc xc nc mc ta' la' ua' xa' na' ma' tc' lc' uc' xc' nc' mc' h h'
    exact CJ _ _ _ _ _ _ _ _ _ _ _ _ W h h'
  have HBD : Hid (n ≤ 1000 ∧ ln ≤ 1000 ∧ p ≤ 10000 ∧ r ≤ 10000 ∧ nn ≤ 10000 ∧ nl ≤ 10000) := by rw [hn, hln, hp, hr, hnn, hnl]; exact hbd
  have HLE := hidOfK (And.intro hn (And.intro hln (And.intro hp (And.intro hr (And.intro hnn hnl)))))
  obtain ⟨k2, e2⟩ : ∃ k2, k2 = 1 + n + 2 * ln := ⟨_, rfl⟩
  obtain ⟨k3, e3⟩ : ∃ k3, k3 = k2 + 2 * p + 3 * r := ⟨_, rfl⟩
  obtain ⟨k4, e4⟩ : ∃ k4, k4 = k3 + nn := ⟨_, rfl⟩
  obtain ⟨m, e5⟩ : ∃ m, m = k4 + nl := ⟨_, rfl⟩
  have HK := hidOfK (And.intro e2 (And.intro e3 (And.intro e4 e5)))
  clear hbd HI0 HS0 CJ CS0 hs hn hln hp hr hnn hnl e2 e3 e4 e5
  go_enter Tryz.func4, Tryz.ntmps4
  go_wp2_with fail
  refine (CS.out _).mono ?_
  rintro e w1 ⟨hb1, ta1, la1, ua1, xa1, na1, ma1, tc1, lc1, uc1, xc1, nc1, mc1, rfl, p1⟩
  have HB1 := hidOfK hb1
  have u1 := (Below.refl w1.heap.size w1).alloc (Nat.le_refl _) (.cells #[.slice ta1 n tc1, .slice la1 ln lc1, .int .i64 bg, .int .i64 li, .int .i64 en, .slice ua1 p uc1, .slice xa1 r xc1, .string O, .slice na1 nn nc1, .slice ma1 nl mc1] 42)
  have HP1 := hidOfK (p1.keep u1)
  have HP0 := hidOfK p1
  have HA1 := hidOfK (And.intro (heap_alloc_new w1 (.cells #[.slice ta1 n tc1, .slice la1 ln lc1, .int .i64 bg, .int .i64 li, .int .i64 en, .slice ua1 p uc1, .slice xa1 r xc1, .string O, .slice na1 nn nc1, .slice ma1 nl mc1] 42)) u1)
  clear hb1 p1 CS u1
  go_wp2_with fail
  generalize w1.alloc (.cells #[.slice ta1 n tc1, .slice la1 ln lc1, .int .i64 bg, .int .i64 li, .int .i64 en, .slice ua1 p uc1, .slice xa1 r xc1, .string O, .slice na1 nn nc1, .slice ma1 nl mc1] 42) = W1 at *
  refine (CI.out _).mono ?_
  rintro e w3 ⟨hb3, ta3, la3, ua3, xa3, na3, ma3, tc3, lc3, uc3, xc3, nc3, mc3, rfl, p3, a3⟩
  have HW1 := hidOfK (And.intro (show w1.heap.size < W1.heap.size from blk_lt HA1.out.1) hb3.size)
  have HZ3 := hidOfK ((hb3.block _ (blk_lt HA1.out.1)).trans HA1.out.1)
  have HB13 := hidOfK (HA1.out.2.trans (hb3.mono HA1.out.2.size))
  obtain ⟨c0, c2, c3, c4, c5, c6, hc, hz6, hlo, hjm⟩ := jm_of p3 a3 k3 k4
  rw [← HLE.out.1, ← HLE.out.2.1, ← HLE.out.2.2.2.2.1, ← HLE.out.2.2.2.2.2] at hjm
  have HC := hidOfK (And.intro hc (And.intro hz6 hlo))
  have HJ3 := hidOfK hjm
  have u3 := (Below.refl w3.heap.size w3).alloc (Nat.le_refl _) (.cells #[.slice ta3 n tc3, .slice la3 ln lc3, .int .i64 bg, .int .i64 li, .int .i64 en, .slice ua3 p uc3, .slice xa3 r xc3, .string O, .slice na3 nn nc3, .slice ma3 nl mc3] 42)
  have HR3 := hidOfK (p3.kq (Kq.ofBelow u3))
  have HA3 := hidOfK (And.intro (heap_alloc_new w3 (.cells #[.slice ta3 n tc3, .slice la3 ln lc3, .int .i64 bg, .int .i64 li, .int .i64 en, .slice ua3 p uc3, .slice xa3 r xc3, .string O, .slice na3 nn nc3, .slice ma3 nl mc3] 42)) u3)
  have HP13 := hidOfK (HP1.out.keep (hb3.trans (u3.mono hb3.size)))
  obtain ⟨z0, z1, z2, z3, z4, z5, z6, z7, z8, z9⟩ := cells10j ((u3.block _ (blk_lt HZ3.out)).trans HZ3.out)
  clear hb3 p3 a3 u3 HA1 HP1 hc hz6 hlo hjm
  go_wp2_with fail
  generalize w3.alloc (.cells #[.slice ta3 n tc3, .slice la3 ln lc3, .int .i64 bg, .int .i64 li, .int .i64 en, .slice ua3 p uc3, .slice xa3 r xc3, .string O, .slice na3 nn nc3, .slice ma3 nl mc3] 42) = W3 at *
  refine (CQ.out W3 _ _ _ _ _ _ _ _ _ _ _ _ _ _ _ _ _ _ _ _ _ _ _ _ (RjRows.at2 HR3.out) HP13.out).mono ?_
  rintro e w5 ⟨rfl, hb5⟩
  have hq : (ok != ok) = false := by simp
  have HX5 := hidOfK ((hb5.block _ (blk_lt HA3.out.1)).trans HA3.out.1)
  have HB35 := hidOfK (HA3.out.2.trans (hb5.mono HA3.out.2.size))
  have HZ5 := hidOfK ((HB35.out.block _ (blk_lt HZ3.out)).trans HZ3.out)
  have HP15 := hidOfK (HP13.out.keep hb5)
  have HJ5 := hidOfK (HJ3.out.keep HC.out.1 (fun q h1 h2 => HB35.out.block q (by have := HC.out.2.1; omega)))
  obtain ⟨x0, x1, x2, x3, x4, x5, x6, x7, x8, x9⟩ := cells10j HX5.out
  clear hb5 HR3 HP13 HJ3 z0 z1 z2 z3 z4 z5 z6 z7 z8 z9
  have dm : decide ((m : Int) < 0) = false := decide_eq_false (by omega)
  have hqm : ((m : Int) != (m : Int)) = false := by simp
  have CM := hidOfK (markJob_any c0 c2 c3 c4 c5 c6 n ln p r nn nl k2 k3 k4 m ta3 la3 ua3 xa3 na3 ma3 tc3 lc3 uc3 xc3 nc3 mc3 bg li en O vs cs w5 HLE.out.2.2.1 HLE.out.2.2.2.1 HK.out.1 HK.out.2.1 HK.out.2.2.1 HK.out.2.2.2 HC.out.1 (Nat.le_trans HC.out.2.1 HB35.out.size) HBD.out HJ5.out)
  go_wp2_with fail
  refine CM.out.mono ?_
  rintro e w6 ⟨rfl, hj6, fm6⟩
  have HX6 := hidOfK ((fm6.2.2 _ (blk_lt HX5.out) (by have := HC.out.2.1; omega)).trans HX5.out)
  have HZ6 := hidOfK ((fm6.2.2 _ (blk_lt HZ5.out) (by have := HC.out.2.2; have := HW1.out; omega)).trans HZ5.out)
  have hb16 : Below W1.heap.size w1 w6 → True := fun _ => trivial
  have HB16 : Hid (Below w1.heap.size w1 w6) := by
    have h1 : Below w1.heap.size w1 w5 := HB13.out.trans (HB35.out.mono HB13.out.size)
    refine h1.trans ⟨fm6.1.1, fm6.1.2.1, fm6.1.2.2, fm6.2.1, fun q hq => fm6.2.2 q (by have := h1.size; omega) (by have := HC.out.2.2; have := HW1.out; omega)⟩
  have HP16 : Hid (Jb.At w6 (.slice ta1 n tc1) (.slice la1 ln lc1) (.slice ua1 p uc1) (.slice xa1 r xc1) (.slice na1 nn nc1) (.slice ma1 nl mc1) ⟨ts, xs, bg, li, en, vs, cs, O, ns, ls⟩) := HP0.out.keep HB16.out
  have HJ6 := hidOfK hj6
  have HS6 := hidOfK (Nat.le_trans (Nat.le_trans HC.out.2.1 HB35.out.size) fm6.2.1)
  have CH : Hid (∀ W : World, Below w6.heap.size w6 W → Calls Tryz.prog 13 #[.agg #[.slice ta3 n tc3, .slice la3 ln lc3, .int .i64 bg, .int .i64 li, .int .i64 en, .slice ua3 p uc3, .slice xa3 r xc3, .string O, .slice na3 nn nc3, .slice ma3 nl mc3], .int .i64 1] W fun e w' => e = .returned (.int .i64 (m : Int)) ∧ Below W.heap.size W w') := fun W hW =>
    heldJob_any c0 c2 c3 c4 c5 c6 n ln p r nn nl k2 k3 k4 m ta3 la3 ua3 xa3 na3 ma3 tc3 lc3 uc3 xc3 nc3 mc3 bg li en O W HK.out.1 HK.out.2.1 HK.out.2.2.1 HK.out.2.2.2 HC.out.1 (Nat.le_trans HS6.out hW.size) HBD.out (HJ6.out.keep HC.out.1 (fun q h1 h2 => hW.block q (by have := HS6.out; omega)))
  obtain ⟨y0, y1, y2, y3, y4, y5, y6, y7, y8, y9⟩ := cells10j HX6.out
  clear hj6 fm6 CM HJ5 HX5 HZ5 HB35 HB13 HP15 HA3 HZ3 hb16 x0 x1 x2 x3 x4 x5 x6 x7 x8 x9
  go_wp2_with fail
  refine (CH.out _ (Below.refl _ _)).mono ?_
  rintro e w7 ⟨rfl, hb7⟩
  have HX7 := hidOfK ((hb7.block _ (blk_lt HX6.out)).trans HX6.out)
  have HZ7 := hidOfK ((hb7.block _ (blk_lt HZ6.out)).trans HZ6.out)
  have HB7 := hidOfK hb7
  have HP17 := hidOfK (HP16.out.keep hb7)
  clear hb7 HP16 HX6 HZ6 y0 y1 y2 y3 y4 y5 y6 y7 y8 y9
  go_wp2_with fail
  refine (CI.out _).mono ?_
  rintro e w8 ⟨hb8, ta8, la8, ua8, xa8, na8, ma8, tc8, lc8, uc8, xc8, nc8, mc8, rfl, p8, -⟩
  have u8 := (Below.refl w8.heap.size w8).alloc (Nat.le_refl _) (.cells #[.slice ta8 n tc8, .slice la8 ln lc8, .int .i64 bg, .int .i64 li, .int .i64 en, .slice ua8 p uc8, .slice xa8 r xc8, .string O, .slice na8 nn nc8, .slice ma8 nl mc8] 42)
  have HX8 := hidOfK ((u8.block _ (blk_lt ((hb8.block _ (blk_lt HX7.out)).trans HX7.out))).trans ((hb8.block _ (blk_lt HX7.out)).trans HX7.out))
  have HZ8 := hidOfK ((u8.block _ (blk_lt ((hb8.block _ (blk_lt HZ7.out)).trans HZ7.out))).trans ((hb8.block _ (blk_lt HZ7.out)).trans HZ7.out))
  have HB68 := hidOfK ((HB7.out.trans (hb8.mono HB7.out.size)).trans (u8.mono (Nat.le_trans HB7.out.size hb8.size)))
  have HR8 := hidOfK (p8.kq (Kq.ofBelow u8))
  have HP18 := hidOfK (HP17.out.keep (hb8.trans (u8.mono hb8.size)))
  obtain ⟨z0, z1, z2, z3, z4, z5, z6, z7, z8, z9⟩ := cells10j HZ8.out
  clear hb8 p8 u8 HX7 HZ7 HB7 HP17 CI
  go_wp2_with fail
  generalize w8.alloc (.cells #[.slice ta8 n tc8, .slice la8 ln lc8, .int .i64 bg, .int .i64 li, .int .i64 en, .slice ua8 p uc8, .slice xa8 r xc8, .string O, .slice na8 nn nc8, .slice ma8 nl mc8] 42) = W8 at *
  refine (CQ.out W8 _ _ _ _ _ _ _ _ _ _ _ _ _ _ _ _ _ _ _ _ _ _ _ _ (RjRows.at2 HR8.out) HP18.out).mono ?_
  rintro e w10 ⟨rfl, hb10⟩
  have HX10 := hidOfK ((hb10.block _ (blk_lt HX8.out)).trans HX8.out)
  have HB610 := hidOfK (HB68.out.trans (hb10.mono HB68.out.size))
  obtain ⟨y0, y1, y2, y3, y4, y5, y6, y7, y8, y9⟩ := cells10j HX10.out
  clear hb10 HX8 HZ8 HB68 HR8 HP18 CQ z0 z1 z2 z3 z4 z5 z6 z7 z8 z9
  go_wp2_with fail
  refine (CH.out _ HB610.out).mono ?_
  rintro e w11 ⟨rfl, hb11⟩
  have HF := hidOfK (HB1.out.trans ((HB16.out.trans ((HB610.out.trans (hb11.mono HB610.out.size)).mono HB16.out.size)).mono HB1.out.size))
  clear hb11 CH y0 y1 y2 y3 y4 y5 y6 y7 y8 y9
  go_wp2_with fail
  go_ret
  exact ⟨rfl, HF.out⟩
end PartLwRj
section PartRjS
open Go.RowKit

theorem row_on {B B0 : Nat} {W V : World} {t : TypeId} {c n : Nat} {v : Value} {xs : List Value} (h : W.ownsRow B t c v n xs) (hB : B0 ≤ B) (hV : ∀ b, B0 ≤ b → b < W.heap.size → V.heap[b]? = W.heap[b]?) : V.ownsRow B t c v n xs := by
  refine ⟨h.1, h.2.imp id ?_⟩
  rintro ⟨g, cap, cur, e, h1, h2, h3⟩
  exact ⟨g, cap, cur, e, h1, (hV g (by omega) (blk_lt h2)).trans h2, h3⟩
theorem rjc_spec (s : ByteArray) (W : World) (hs : s.size ≤ 1048576) : Calls Tryz.prog 29 #[.string s] W fun e w' => RjC W w' s e := by
  refine (specReadCodeOwn s W hs).mono ?_
  intro e w' h
  obtain ⟨hb, h⟩ := h
  cases hr : Rc.ans s.data.toList with
  | none =>
    rw [hr] at h
    refine ⟨hb, .slice none 0 0, .slice none 0 0, [], [], 0, 0, false, h, fun V _ => ⟨TR.at (TR.nil 0 V), IR.at (IR.nil 0 V)⟩, fun i hi => by simp at hi, by simp, by simp, fun ts0 xs0 bg0 ln0 en0 h1 h2 => ?_⟩
    obtain ⟨l, u, p1, -⟩ := Rc.ans_of h1
    rw [h2, hr] at p1
    cases p1
  | some q =>
    obtain ⟨ts, xs, l, u⟩ := q
    rw [hr] at h
    obtain ⟨tv, lv, he, ht, hi⟩ := h
    obtain ⟨g1, g2, g3, -⟩ := Cd.ok_facts (Rc.ans_bytes hr).1
    refine ⟨hb, tv, lv, ts, xs, l, u, true, he, fun V hV => ⟨TR.at (row_on ht (by omega) hV), IR.at (row_on hi (by omega) hV)⟩, fun i hi => by have := g1 i hi; omega, by omega, by omega, fun ts0 xs0 bg0 ln0 en0 h1 h2 => ?_⟩
    obtain ⟨l', u', p1, p2, p3, p4⟩ := Rc.ans_of h1
    rw [h2, hr] at p1
    simp only [Option.some.injEq, Prod.mk.injEq] at p1
    obtain ⟨rfl, rfl, rfl, rfl⟩ := p1
    exact ⟨rfl, rfl, rfl, p2, p3, p4⟩
/-- What ReadStore answers, whoever reads. -/
theorem rd_ownS (L : List UInt8) : ∃ (P : List Vr) (R : List Cl) (O : ByteArray) (ok : Bool), StSmall P R O ∧ (ok = true → Rs.isOf L P R O) ∧ (∀ vs cs o, Rs.isOf L vs cs o → ok = true ∧ P = vs ∧ R = cs ∧ O = o) ∧ ∀ w w' e, RdO w w' L e →
    ∃ u x, e = .returned (.tuple #[.agg #[u, x, .string O], .bool ok]) ∧ VrRow w.heap.size w' u P ∧ ClRow w.heap.size w' x R ∧ Below w.heap.size w w' ∧ ∃ c1, w.heap.size ≤ c1 ∧ c1 ≤ w'.heap.size ∧ OB u w.heap.size c1 ∧ OB x c1 w'.heap.size := by
  by_cases h : ∃ vs cs o, Rs.isOf L vs cs o
  · obtain ⟨vs, cs, o, hi⟩ := h
    refine ⟨vs, cs, o, true, Rs.isOf_small hi, fun _ => hi, fun us ds p h2 => ?_, fun w w' e hr => ?_⟩
    · obtain ⟨e1, e2, e3⟩ := Rs.isOf_one9 h2 hi
      exact ⟨rfl, e1, e2, e3⟩
    · obtain ⟨hb, hr⟩ := hr
      rcases hr with ⟨u, x, us, ds, p, B2, h1, he, h3, h4, h5, h6⟩ | ⟨h1, -⟩
      · obtain ⟨rfl, rfl, rfl⟩ := Rs.isOf_one9 hi h1
        exact ⟨u, x, he, row_mono h3 (by omega), row_mono h4 (by omega), hb, ob_two h3 h4 h6 (by omega) hb.size⟩
      · exact absurd hi (h1 _ _ _)
  · have h' : ∀ vs cs o, ¬ Rs.isOf L vs cs o := fun vs cs o hi => h ⟨vs, cs, o, hi⟩
    refine ⟨[], [], ⟨#[]⟩, false, ⟨by simp, fun i hi => by simp at hi, by simp, fun i hi => by simp at hi, by decide⟩, fun e => by simp at e, fun vs cs o hi => absurd hi (h' vs cs o), fun w w' e hr => ?_⟩
    obtain ⟨hb, hr⟩ := hr
    rcases hr with ⟨u, x, us, ds, p, B2, h1, -⟩ | ⟨-, h2⟩
    · exact absurd h1 (h' _ _ _)
    · exact ⟨_, _, h2, World.ownsRow_nil _ _ _ _, World.ownsRow_nil _ _ _ _, hb, w.heap.size, Nat.le_refl _, hb.size, OB.none _ _ _, OB.none _ _ _⟩
theorem rjt_spec (s : ByteArray) (W : World) (hs : s.size ≤ 1048576) : Calls Tryz.prog 31 #[.string s] W fun e w' => RjT W w' s e := by
  obtain ⟨P, R, O, ok, hsm, h1, h2, h3⟩ := rd_ownS s.data.toList
  refine (spReadStoreOwn s W hs).mono ?_
  intro e w' h
  obtain ⟨u, x, he, hv, hx, hb, -⟩ := h3 W w' e h
  exact ⟨hb, u, x, P, R, O, ok, he, fun V hV => ⟨(VrRow.in (row_on hv (Nat.le_refl _) hV)).at, (ClRow.in (row_on hx (Nat.le_refl _) hV)).at⟩, hsm, fun e => (h1 e).2, h2⟩
theorem spReadJob (s : ByteArray) (W : World) (hs : s.size ≤ 1048576) : Calls Tryz.prog 10 #[.string s] W fun e w' => RdJ W w' s.data.toList e := spReadJob_of rjc_spec rjt_spec s W hs
theorem lawReadJob (s : ByteArray) (w : World) : Calls Tryz.prog 4 #[.string s] w fun e w' => e = .returned (.bool true) ∧ Below w.heap.size w w' := lawReadJob_of spReadJob s w
end PartRjS
end Go.Proofs.YtehagonaacbmiaaGreat
