/- What is read of the bytes of code: the specification's ReadCode, and where its rows lie. -/
import Derived.Test.YtehagonaacbmiaaGreatMPRjZax
import Derived.Test.YtehagonaacbmiaaGreatMPRjZal
namespace Go.Proofs.YtehagonaacbmiaaGreat
open Go.RowKit

theorem cells5o {w : World} {g : Nat} {a b c d e : Value} {t : TypeId} (h : w.heap[g]? = some (.cells #[a, b, c, d, e] t (0, 0))) :
    w.cell? ⟨g, 0, none⟩ = some a ∧ w.cell? ⟨g, 1, none⟩ = some b ∧ w.cell? ⟨g, 2, none⟩ = some c ∧ w.cell? ⟨g, 3, none⟩ = some d ∧ w.cell? ⟨g, 4, none⟩ = some e :=
  ⟨(blk_cell h 0).trans rfl, (blk_cell h 1).trans rfl, (blk_cell h 2).trans rfl, (blk_cell h 3).trans rfl, (blk_cell h 4).trans rfl⟩
theorem row_low {B B' : Nat} {W : World} {t : TypeId} {c n : Nat} {v : Value} {xs : List Value} (h : W.ownsRow B t c v n xs) (hB : B' ≤ B) : W.ownsRow B' t c v n xs := by
  refine ⟨h.1, h.2.imp id ?_⟩
  rintro ⟨g, cap, cur, e, h1, h2, h3⟩
  exact ⟨g, cap, cur, e, Nat.le_trans hB h1, h2, h3⟩
theorem hidOf7o {p : Prop} (h : p) : Hid p := h
theorem byteAt7o (s : ByteArray) (a : Nat) (h : a < s.size) : ((s.data.toList.getD a 0).toNat : Int) = IntKind.i64.wrap ((s[a]'h).toNat : Int) := by
  have hb : (s[a]'h).toNat < 256 := (s[a]'h).toNat_lt
  rw [IntWalk.i64_in _ (by omega)]
  have hl : a < s.data.toList.length := by simpa using h
  rw [List.getD_eq_getElem?_getD, List.getElem?_eq_getElem hl]
  rfl
set_option maxHeartbeats 20000000 in
set_option maxRecDepth 100000 in
theorem specReadCodeOwn (s : ByteArray) (w : World) (hs : s.size ≤ 1048576) :
    Calls Tryz.prog 29 #[.string s] w fun e w' => Below w.heap.size w w' ∧ (match Rc.ans s.data.toList with
      | none => e = .returned (.tuple #[.agg #[.slice none 0 0, .slice none 0 0, .int .i64 0, .int .i64 0, .int .i64 0], .bool false])
      | some (ts, xs, l, u) => ∃ tv lv : Value, e = .returned (.tuple #[.agg #[tv, lv, .int .i64 0, .int .i64 (l : Int), .int .i64 (u : Int)], .bool true]) ∧ TR (w.heap.size + 3) w' tv ts ∧ IR (w.heap.size + 3) w' lv xs) := by
  obtain ⟨Rs, hRs⟩ : ∃ Rs : Ending → World → Prop, Rs = fun e w' => Below w.heap.size w w' ∧ (match Rc.ans s.data.toList with
      | none => e = .returned (.tuple #[.agg #[.slice none 0 0, .slice none 0 0, .int .i64 0, .int .i64 0, .int .i64 0], .bool false])
      | some (ts, xs, l, u) => ∃ tv lv : Value, e = .returned (.tuple #[.agg #[tv, lv, .int .i64 0, .int .i64 (l : Int), .int .i64 (u : Int)], .bool true]) ∧ TR (w.heap.size + 3) w' tv ts ∧ IR (w.heap.size + 3) w' lv xs) := ⟨_, rfl⟩
  rw [← hRs]
  have HRs : Hid (Rs = _) := hRs
  clear hRs
  have CN : Hid (∀ (W : World) (a : Nat) (bad : Bool), Cu7 W (w.heap.size + 1) s a bad → a ≤ s.size → _) := fun W a bad h ha => spVar1 (w.heap.size + 1) s a bad W h ha hs
  have CS : Hid (∀ (W : World) (a : Nat) (bad : Bool), Cu7 W (w.heap.size + 1) s a bad → a ≤ s.size → _) := fun W a bad h ha => spShort1 (w.heap.size + 1) s a bad W h ha hs
  have H0 : Hid _ := RW.start 63 w s
  go_enter Tryz.func29, Tryz.ntmps29
  go_wp2_with fail
  refine (CN.out _ 0 false H0.out.rd (by omega)).mono ?_
  rintro e w1 ⟨n, a1, bad0, rfl, hg1, hr1, hn, ha1, hgood, hbad⟩
  have H1 : Hid (RW 63 w w1 s a1 bad0 (.slice none 0 0) (.slice none 0 0) 0 0) := H0.out.call hg1 hr1
  have HT : Hid (Rc.T1 s n a1 0 [] a1 bad0) := by
    refine ⟨ha1, rfl, (fun t ht => by simp at ht), fun e => ?_, fun e => ⟨(hgood e).2, rfl⟩⟩
    rcases hbad e with hh | hh
    · cases hh
    · exact Rc.ans_1 hh
  clear hg1 hr1 hgood hbad H0
  go_wp2_with fail
  go_loopw [7] (fun i wr => ∃ (k : Nat) (ls : List (List UInt8)) (a : Nat) (bad : Bool) (tv : Value), i = .int .i64 (k : Int) ∧ k ≤ n ∧ k ≤ 100 ∧ Hid (RW 63 w wr s a bad tv (.slice none 0 0) 0 0) ∧ Hid (TR (w.heap.size + 3) wr tv (bas ls)) ∧ Hid (Rc.T1 s n a1 k ls a bad)) (fun i _ => 100 - (intOf i).toNat)
  case atStart => exact ⟨0, [], a1, bad0, _, rfl, by omega, by omega, H1, TR.nil _ _, HT⟩
  case round =>
    clear H1 HT ha1
    obtain ⟨k, ls, a, bad, tv, rfl, hk, hk2, HW, HR, HT⟩ := hrel
    have hlk := HT.out.2.1
    have hal := HT.out.1
    have c2 : wr.cell? ⟨w.heap.size + 1, 2, none⟩ = some (.bool bad) := (blk_cell HW.out.rd 2).trans rfl
    by_cases hgo : bad = false ∧ k < n ∧ k < 100
    · obtain ⟨rfl, hlt, hlt2⟩ := hgo
      have c0 : wr.cell? ⟨w.heap.size + 2, 0, none⟩ = some tv := (blk_cell HW.out.co 0).trans rfl
      have i1 : (k : Int) < (n : Int) := by omega
      have i2 : (k : Int) < 100 := by omega
      go_wp2_with fail
      go_region_law ((first | (refine TR.step (B := w.heap.size + 3) (W := w1.alloc (.cells #[.string ⟨t.toArray⟩] 9)) (v := tv) (ts := bas ls) (World.ownsRow.alloc HR1.out _) (by rfl) _ _ (by rfl) (by rfl) ⟨t.toArray⟩ w1.heap.size (heap_alloc_new w1 _) (by rfl) (by simp [bas]; omega) (by have := HW1.out.size; simp; omega) ?_; intro q cap w2 hp2 hg2 hq2 hl2; have HW2 : Hid (RW 63 w w2 s a' bad' tv (.slice none 0 0) 0 0) := (HW1.out.alloc _).grow hg2 (fun k hk => (World.ownsRow.lt HR1.out k hk).1); have y0 := (blk_cell HW2.out.co 0).trans rfl; have yf := blk_free HW2.out.co 0) | (go_simp; go_at_call 30; refine (CS.out wr.drew a false HW.out.drew.rd hal).mono ?_; rintro e w1 ⟨t, a', bad', rfl, hg1, hr1, ht1, ha', hgood, hbad⟩; have HW1 : Hid (RW 63 w w1 s a' bad' tv (.slice none 0 0) 0 0) := HW.out.drew.call hg1 hr1; have HR1 : Hid (TR (w.heap.size + 3) w1 tv (bas ls)) := own_call (World.ownsRow.drew HR.out) hg1 (by omega); have x1 : w1.cell? ⟨w.heap.size + 2, 0, none⟩ = some tv := (blk_cell HW1.out.co 0).trans rfl; have x2 : ∀ o : Obj, (w1.alloc o).cell? ⟨w.heap.size + 2, 0, none⟩ = some tv := fun o => (blk_cell (HW1.out.alloc o).co 0).trans rfl; dsimp only)))
      all_goals
        have HN : Hid _ := HW2.out.setC (tv' := .slice (some ⟨q, 0, none⟩) ((bas ls).length + 1) cap) 0 (.slice (some ⟨q, 0, none⟩) ((bas ls).length + 1) cap) rfl
        have HRN : Hid _ := own_set hp2 (w.heap.size + 2) 0 (by omega) (.slice (some ⟨q, 0, none⟩) ((bas ls).length + 1) cap)
        have HTN : Hid _ := HT.out.next hlt ht1 ha' hgood hbad
        clear hp2 hg2 hq2 hl2 y0 yf x1 x2 c0 c2 HW2 HR1 HW1 HW HR HT hg1 hr1 hgood hbad CN CS
        go_wp2_with fail
        go_roundw
        case rel => exact ⟨k + 1, ls ++ [t], a', bad', _, by go_num, by omega, by omega, HN, by rw [show bas (ls ++ [t]) = bas ls ++ [⟨t.toArray⟩] by simp [bas]]; exact HRN, HTN⟩
        case measure => simp [intOf]; omega
    · have HX : Hid (bad = false → k = n ∨ k = 100) := fun e => by
        rw [e] at hgo
        simp only [true_and] at hgo
        omega
      have h3 : ¬ ((k : Int) < (n : Int)) ∨ ((k : Int) < (n : Int) ∧ ¬ ((k : Int) < 100)) ∨ ((k : Int) < (n : Int) ∧ (k : Int) < 100 ∧ bad = true) := by
        by_cases h1 : k < n
        · by_cases h2 : k < 100
          · refine .inr (.inr ⟨by omega, by omega, ?_⟩)
            cases bad with
            | true => rfl
            | false => exact absurd ⟨rfl, h1, h2⟩ hgo
          · exact .inr (.inl ⟨by omega, by omega⟩)
        · exact .inl (by omega)
      clear hgo
      rcases h3 with j1 | ⟨j1, j2⟩ | ⟨j1, j2, hb⟩
      all_goals
        try rw [hb] at c2
        go_wp2_with fail
        clear j1
        try clear j2
        clear c2
        refine (CN.out _ a bad HW.out.rd hal).mono ?_
        rintro e w2 ⟨m, a3, bad1, rfl, hg1, hr1, hm, ha3, hgood, hbad⟩
        have H1 : Hid (RW 63 w w2 s a3 bad1 tv (.slice none 0 0) 0 0) := HW.out.call hg1 hr1
        have HR1 : Hid (TR (w.heap.size + 3) w2 tv (bas ls)) := own_call HR.out hg1 (by omega)
        have HT2 : Hid (Rc.S2 s ls m a3 0 [] a3 bad1) := HT.out.turnS hk HX.out ha3 hgood hbad
        have HSM : Hid (∀ t ∈ ls, t.length ≤ 20000) := HT.out.2.2.1
        have HLS : Hid (ls.length ≤ 100) := by show ls.length ≤ 100; have := HT.out.2.1; omega
        clear hg1 hr1 hgood hbad HW HR HT hlk CS
        obtain ⟨B2, hB2⟩ : ∃ B2, B2 = w2.heap.size := ⟨_, rfl⟩
        have HB2 : Hid (w.heap.size + 3 ≤ B2 ∧ ∀ q, tv.ownBlock = some q → q < B2) := ⟨by rw [hB2]; exact H1.out.size, fun q hq => by rw [hB2]; exact (World.ownsRow.lt HR1.out q hq).2⟩
        go_wp2_with fail
        rename_i K9 hK9
        have TAIL : Hid (∀ (t1 t3 t6 t7 t8 t9 t10 t11 t12 t13 t14 t15 t16 t17 t18 t19 t20 t21 t22 t23 t24 t25 t26 t27 t28 t29 t30 t31 t32 t33 t34 t35 t36 t37 t38 t39 t40 t41 t42 t43 t44 t45 t46 t47 t48 t49 t50 t51 t52 t53 t54 t55 t56 t57 t58 t59 t60 t61 t62 t63 t64 t65 t66 t67 t68 t69 t70 t71 t72 t73 t74 t75 t76 t77 t78 t79 t80 t81 t82 t83 t84 t85 t86 t87 t88 t89 t90 t91 t92 t93 t94 t95 t96 t97 t98 t99 t100 t101 t102 t103 t104 t105 t106 t107 t108 t109 t110 t111 t112 t113 t114 t115 t116 t117 t118 t119 t120 t121 t122 t123 : Value) (wt : World) (aT : Nat) (badT : Bool) (lv : Value) (xs : List Ins), RW 63 w wt s aT badT tv lv 0 0 → TR (w.heap.size + 3) wt tv (bas ls) → IR B2 wt lv xs → Rc.S3 s ls xs aT badT → aT ≤ s.size → xs.length ≤ 300 → K9 { tmps := #[.string s, t1, .pointer (some ⟨w.heap.size, 0, none⟩), t3, .pointer (some ⟨w.heap.size + 1, 0, none⟩), .pointer (some ⟨w.heap.size + 2, 0, none⟩), t6, t7, t8, t9, t10, t11, t12, t13, t14, t15, t16, t17, t18, t19, t20, t21, t22, t23, t24, t25, t26, t27, t28, t29, t30, t31, t32, t33, t34, t35, t36, t37, t38, t39, t40, t41, t42, t43, t44, t45, t46, t47, t48, t49, t50, t51, t52, t53, t54, t55, t56, t57, t58, t59, t60, t61, t62, t63, t64, t65, t66, t67, t68, t69, t70, t71, t72, t73, t74, t75, t76, t77, t78, t79, t80, t81, t82, t83, t84, t85, t86, t87, t88, t89, t90, t91, t92, t93, t94, t95, t96, t97, t98, t99, t100, t101, t102, t103, t104, t105, t106, t107, t108, t109, t110, t111, t112, t113, t114, t115, t116, t117, t118, t119, t120, t121, t122, t123], defers := [] } wt) := by
          intro t1 t3 t6 t7 t8 t9 t10 t11 t12 t13 t14 t15 t16 t17 t18 t19 t20 t21 t22 t23 t24 t25 t26 t27 t28 t29 t30 t31 t32 t33 t34 t35 t36 t37 t38 t39 t40 t41 t42 t43 t44 t45 t46 t47 t48 t49 t50 t51 t52 t53 t54 t55 t56 t57 t58 t59 t60 t61 t62 t63 t64 t65 t66 t67 t68 t69 t70 t71 t72 t73 t74 t75 t76 t77 t78 t79 t80 t81 t82 t83 t84 t85 t86 t87 t88 t89 t90 t91 t92 t93 t94 t95 t96 t97 t98 t99 t100 t101 t102 t103 t104 t105 t106 t107 t108 t109 t110 t111 t112 t113 t114 t115 t116 t117 t118 t119 t120 t121 t122 t123 wt aT badT lv xs hWT hRT hIT hS3 halT hLK
          have HWT := hidOf7o hWT
          have HRT := hidOf7o hRT
          have HIT := hidOf7o hIT
          have HS3 := hidOf7o hS3
          have HLK := hidOf7o hLK
          clear hWT hRT hIT hS3 hLK H1 HR1 HT2 ha3 hB2 hal hk hk2
          refine hK9 _ _ ?_
          go_wp2_with fail
          refine (CN.out _ aT badT HWT.out.rd halT).mono ?_
          rintro e w3 ⟨l, a5, bad5, rfl, hg5, hr5, hl5, ha5, hgood5, hbad5⟩
          have HW5 : Hid (RW 63 w w3 s a5 bad5 tv lv 0 0) := HWT.out.call hg5 hr5
          have HR5 : Hid (TR (w.heap.size + 3) w3 tv (bas ls)) := own_call HRT.out hg5 (by omega)
          have HI5 : Hid (IR B2 w3 lv xs) := own_call HIT.out hg5 (by have := HB2.out.1; omega)
          have HG5 : Hid ((bad5 = false → badT = false ∧ Rc.rv s.data.toList aT = some (l, a5)) ∧ (bad5 = true → badT = true ∨ Rc.rv s.data.toList aT = none)) := ⟨hgood5, hbad5⟩
          have y3 : w3.cell? ⟨w.heap.size + 2, 3, none⟩ = some (.int .i64 0) := (blk_cell HW5.out.co 3).trans rfl
          have f3 := blk_free HW5.out.co 3
          have HW6 : Hid (RW 63 w (w3.setCell ⟨w.heap.size + 2, 3, none⟩ (.int .i64 (l : Int))) s a5 bad5 tv lv (l : Int) 0) := HW5.out.setC 3 (.int .i64 (l : Int)) rfl
          have HR6 : Hid (TR (w.heap.size + 3) (w3.setCell ⟨w.heap.size + 2, 3, none⟩ (.int .i64 (l : Int))) tv (bas ls)) := own_set HR5.out (w.heap.size + 2) 3 (by omega) _
          have HI6 : Hid (IR B2 (w3.setCell ⟨w.heap.size + 2, 3, none⟩ (.int .i64 (l : Int))) lv xs) := own_set HI5.out (w.heap.size + 2) 3 (by have := HB2.out.1; omega) _
          clear hg5 hr5 hgood5 hbad5 HWT HRT HIT HW5 HR5 HI5
          go_wp2_with fail
          refine (CN.out _ a5 bad5 HW6.out.rd ha5).mono ?_
          rintro e w4 ⟨u, a6, bad6, rfl, hg6, hr6, hl6, ha6, hgood6, hbad6⟩
          have HW7 : Hid (RW 63 w w4 s a6 bad6 tv lv (l : Int) 0) := HW6.out.call hg6 hr6
          have HR7 : Hid (TR (w.heap.size + 3) w4 tv (bas ls)) := own_call HR6.out hg6 (by omega)
          have HI7 : Hid (IR B2 w4 lv xs) := own_call HI6.out hg6 (by have := HB2.out.1; omega)
          have HL5 : Hid (Rc.S5 s ls xs l u bad6) := HS3.out.last HG5.out.1 HG5.out.2 hgood6 hbad6
          have y4 : w4.cell? ⟨w.heap.size + 2, 4, none⟩ = some (.int .i64 0) := (blk_cell HW7.out.co 4).trans rfl
          have f4 := blk_free HW7.out.co 4
          have HW8 : Hid (RW 63 w (w4.setCell ⟨w.heap.size + 2, 4, none⟩ (.int .i64 (u : Int))) s a6 bad6 tv lv (l : Int) (u : Int)) := HW7.out.setC 4 (.int .i64 (u : Int)) rfl
          have HR8 : Hid (TR (w.heap.size + 3) (w4.setCell ⟨w.heap.size + 2, 4, none⟩ (.int .i64 (u : Int))) tv (bas ls)) := own_set HR7.out (w.heap.size + 2) 4 (by omega) _
          have HI8 : Hid (IR B2 (w4.setCell ⟨w.heap.size + 2, 4, none⟩ (.int .i64 (u : Int))) lv xs) := own_set HI7.out (w.heap.size + 2) 4 (by have := HB2.out.1; omega) _
          obtain ⟨z0, z1, z2, z3, z4⟩ : _ ∧ _ ∧ _ ∧ _ ∧ _ := cells5o HW8.out.co
          clear hg6 hr6 hgood6 hbad6 HW6 HR6 HI6 HW7 HR7 HI7 y3 f3 HG5 HS3
          have CT : Hid (Calls Tryz.prog 64 #[.agg #[tv, lv, .int .i64 0, .int .i64 (l : Int), .int .i64 (u : Int)]] (w4.setCell ⟨w.heap.size + 2, 4, none⟩ (.int .i64 (u : Int))) fun e w' => e = .returned (Cd.text? (bas ls) xs 0 (l : Int) (u : Int)) ∧ Below (w4.setCell ⟨w.heap.size + 2, 4, none⟩ (.int .i64 (u : Int))).heap.size (w4.setCell ⟨w.heap.size + 2, 4, none⟩ (.int .i64 (u : Int))) w') := spCodeText tv lv 0 (l : Int) (u : Int) (bas ls) xs _ HR8.out.at HI8.out.at (bas_small HSM.out) (by have := HLS.out; simp [bas]; omega) (by have := HLK.out; omega)
          go_wp2_with fail
          refine CT.out.mono ?_
          rintro e w5 ⟨rfl, hb5⟩
          have HW9 : Hid (RW 63 w w5 s a6 bad6 tv lv (l : Int) (u : Int)) := HW8.out.grow (gr_below (r := none) hb5) (fun k hk => by cases hk)
          have HR9 : Hid (TR (w.heap.size + 3) w5 tv (bas ls)) := own_keep HR8.out (fun q hq => hb5.block q (World.ownsRow.lt HR8.out q hq).2)
          have HI9 : Hid (IR B2 w5 lv xs) := own_keep HI8.out (fun q hq => hb5.block q (World.ownsRow.lt HI8.out q hq).2)
          have c9 : w5.cell? ⟨w.heap.size + 1, 2, none⟩ = some (.bool bad6) := (blk_cell HW9.out.rd 2).trans rfl
          obtain ⟨⟨r0, g0⟩, ⟨r1, g1⟩, ⟨r2, g2⟩, ⟨r3, g3⟩, ⟨r4, g4⟩⟩ := HW9.out.resCells
          obtain ⟨d0, d1, d2, d3, d4⟩ : _ ∧ _ ∧ _ ∧ _ ∧ _ := cells5o HW9.out.co
          clear hb5 CT HW8 HR8 HI8 y4 f4 z0 z1 z2 z3 z4
          cases hok : Cd.ok (bas ls) xs 0 (l : Int) (u : Int) with
          | false =>
            have hte : Cd.text? (bas ls) xs 0 (l : Int) (u : Int) = .tuple #[.string ⟨#[]⟩, .bool false] := by unfold Cd.text?; rw [hok]; rfl
            have HAN : Hid (Rc.ans s.data.toList = none) := by
              show _ = _
              rw [HL5.out, if_neg (by rintro ⟨_, h, _⟩; rw [hok] at h; cases h)]
            rw [hte]
            clear hte hok d0 d1 d2 d3 d4
            cases bad6
            all_goals
              go_wp2_with fail
              refine bodyPost_ret (res_code rfl _ _ w.heap.size _ _ _ _ _ rfl (set5 HW9.out.res _ _ _ _ _)) rfl ?_
              rw [HRs.out]
              refine ⟨below5 HW9.out.env _ _ _ _ _, ?_⟩
              rw [HAN.out]
              rfl
          | true =>
            obtain ⟨BY, hBY⟩ : ∃ BY : ByteArray, BY = ⟨(Cd.bytes (bas ls) xs (l : Int) (u : Int)).toArray⟩ := ⟨_, rfl⟩
            have hte : Cd.text? (bas ls) xs 0 (l : Int) (u : Int) = .tuple #[.string BY, .bool true] := by unfold Cd.text?; rw [hok, hBY]; rfl
            have hbl : BY.data.toList = Cd.bytes (bas ls) xs (l : Int) (u : Int) := by rw [hBY]
            rw [hte]
            clear hte hBY
            by_cases hgd : bad6 = false ∧ BY.data.toList = s.data.toList
            · obtain ⟨rfl, hse⟩ := hgd
              have HAN : Hid (Rc.ans s.data.toList = some (bas ls, xs, l, u)) := by
                show _ = _
                rw [HL5.out, if_pos ⟨rfl, hok, hbl.symm.trans hse⟩]
              obtain rfl : BY = s := ByteArray.ext (Array.ext' hse)
              have nq : (!(BY.data.toList == BY.data.toList)) = false := by simp
              have nq2 : (!(BY.toList == BY.toList)) = false := by simp
              have HTA : Hid (TsAt w5 tv (bas ls)) := HR9.out.at
              have HIA : Hid (InsAt w5 lv xs) := HI9.out.at
              clear hok hbl hse HL5
              obtain ⟨ta, tc, rfl, -⟩ := HTA.out
              obtain ⟨la, lc, rfl, -⟩ := HIA.out
              go_wp2_with fail
              refine bodyPost_ret (res_code rfl _ _ w.heap.size _ _ _ _ _ rfl (set5 HW9.out.res _ _ _ _ _)) rfl ?_
              rw [HRs.out]
              refine ⟨below5 HW9.out.env _ _ _ _ _, ?_⟩
              rw [HAN.out]
              exact ⟨_, _, rfl, own5 HR9.out (by omega) _ _ _ _ _, row_low (own5 HI9.out (by have := HB2.out.1; omega) _ _ _ _ _) (by have := HB2.out.1; omega)⟩
            · have HAN : Hid (Rc.ans s.data.toList = none) := by
                show _ = _
                rw [HL5.out, if_neg (by rintro ⟨h1, _, h3⟩; exact hgd ⟨h1, hbl.trans h3⟩)]
              cases bad6 with
              | true =>
                clear hgd hok hbl d0 d1 d2 d3 d4 HL5
                go_wp2_with fail
                refine bodyPost_ret (res_code rfl _ _ w.heap.size _ _ _ _ _ rfl (set5 HW9.out.res _ _ _ _ _)) rfl ?_
                rw [HRs.out]
                refine ⟨below5 HW9.out.env _ _ _ _ _, ?_⟩
                rw [HAN.out]
                rfl
              | false =>
                have hne : ¬ BY.data.toList = s.data.toList := fun h => hgd ⟨rfl, h⟩
                have nq : (!(BY.data.toList == s.data.toList)) = true := by simpa using hne
                have nq2 : (!(BY.toList == s.toList)) = true := by
                  rw [Lib.toList_data, Lib.toList_data]
                  exact nq
                clear hgd hok hbl d0 d1 d2 d3 d4 HL5 hne
                go_wp2_with fail
                refine bodyPost_ret (res_code rfl _ _ w.heap.size _ _ _ _ _ rfl (set5 HW9.out.res _ _ _ _ _)) rfl ?_
                rw [HRs.out]
                refine ⟨below5 HW9.out.env _ _ _ _ _, ?_⟩
                rw [HAN.out]
                rfl
        clear hK9
        go_loopw [8] (fun i wr => ∃ (k : Nat) (xs : List Ins) (a : Nat) (bad : Bool) (lv : Value), i = .int .i64 (k : Int) ∧ k ≤ m ∧ k ≤ 300 ∧ B2 ≤ wr.heap.size ∧ Hid (RW 63 w wr s a bad tv lv 0 0) ∧ Hid (TR (w.heap.size + 3) wr tv (bas ls)) ∧ Hid (IR B2 wr lv xs) ∧ Hid (Rc.S2 s ls m a3 k xs a bad)) (fun i _ => 300 - (intOf i).toNat)
        case atStart => exact ⟨0, [], a3, bad1, _, rfl, by omega, by omega, by omega, H1, HR1, IR.nil _ _, HT2⟩
        case round =>
          clear H1 HT2 ha3 HR1 hB2 hal hk hk2
          obtain ⟨k2, xs, a2, bad2, lv, rfl, hk, hk2, hBw, HW, HR, HI, HT⟩ := hrel
          have HLK : Hid (xs.length = k2) := HT.out.2.1
          have hal := HT.out.1
          have c2 : wr.cell? ⟨w.heap.size + 1, 2, none⟩ = some (.bool bad2) := (blk_cell HW.out.rd 2).trans rfl
          by_cases hgo : bad2 = false ∧ k2 < m ∧ k2 < 300
          · obtain ⟨rfl, hlt, hlt2⟩ := hgo
            have c1 : wr.cell? ⟨w.heap.size + 1, 1, none⟩ = some (.int .i64 (a2 : Int)) := (blk_cell HW.out.rd 1).trans rfl
            have i1 : (k2 : Int) < (m : Int) := by omega
            have i2 : (k2 : Int) < 300 := by omega
            by_cases hin : a2 + 2 ≤ s.size
            · have j3 : ¬ ((s.size : Int) < (a2 : Int) + 2) := by omega
              have hw2 : IntKind.i64.wrap ((a2 : Int) + 2) = (a2 : Int) + 2 := IntWalk.i64_in _ (by omega)
              have hw1 : IntKind.i64.wrap ((a2 : Int) + 1) = (a2 : Int) + 1 := IntWalk.i64_in _ (by omega)
              have j4 : (a2 : Int) < (s.size : Int) := by omega
              have j5 : (a2 : Int) + 1 < (s.size : Int) := by omega
              have j6 : (0 : Int) ≤ (a2 : Int) + 1 := by omega
              have cl : wr.cell? ⟨w.heap.size + 2, 1, none⟩ = some lv := (blk_cell HW.out.co 1).trans rfl
              go_wp2_with fail
              have x2 : ∀ o : Obj, (wr.alloc o).cell? ⟨w.heap.size + 2, 1, none⟩ = some lv := fun o => (blk_cell (HW.out.alloc o).co 1).trans rfl
              have g1 : a2 < s.size := by omega
              have g2 : a2 + 1 < s.size := by omega
              have HWd : Hid _ := HW.out.drew
              have HS : Hid (wr.drew.cell? ⟨w.heap.size + 2, 1, none⟩ = some lv ∧ wr.drew.cell? ⟨w.heap.size + 1, 1, none⟩ = some (.int .i64 (a2 : Int))) := ⟨cl, c1⟩
              refine AnyBut.region (S := (fun W => W.cell? ⟨w.heap.size + 2, 1, none⟩ = some lv ∧ W.cell? ⟨w.heap.size + 1, 1, none⟩ = some (.int .i64 (a2 : Int)))) (z := 21) (by kernel_rfl) ?_
              refine AnyBut.take (i := 0) (v := ?_) (by kernel_rfl) rfl (by decide) (by kernel_rfl) (by kernel_rfl) (by kernel_rfl) (fun _ _ _ h => h) (Or.inl ⟨by rfl, ?_⟩) HS.out ?_
              rotate_left
              · (intro u9 hSw; (try dsimp only at hSw); go_simp; try with_reducible rfl)
              (try simp only [Act.put]); (try simp only [List.setIfInBounds_toArray]); (try simp only [List.set_cons_succ, List.set_cons_zero])
              refine AnyBut.take (i := 1) (v := ?_) (by kernel_rfl) rfl (by decide) (by kernel_rfl) (by kernel_rfl) (by kernel_rfl) (fun _ _ _ h => h) (Or.inl ⟨by rfl, ?_⟩) HS.out ?_
              rotate_left
              · (intro u9 hSw; (try dsimp only at hSw); go_simp; try with_reducible rfl)
              (try simp only [Act.put]); (try simp only [List.setIfInBounds_toArray]); (try simp only [List.set_cons_succ, List.set_cons_zero])
              refine AnyBut.take (i := 2) (v := ?_) (by kernel_rfl) rfl (by decide) (by kernel_rfl) (by kernel_rfl) (by kernel_rfl) (fun _ _ _ h => h) (Or.inl ⟨by rfl, ?_⟩) HS.out ?_
              rotate_left
              · (intro u9 hSw; (try dsimp only at hSw); go_simp; try with_reducible rfl)
              (try simp only [Act.put]); (try simp only [List.setIfInBounds_toArray]); (try simp only [List.set_cons_succ, List.set_cons_zero])
              refine AnyBut.take (i := 3) (v := ?_) (by kernel_rfl) rfl (by decide) (by kernel_rfl) (by kernel_rfl) (by kernel_rfl) (fun _ _ _ h => h) (Or.inl ⟨by rfl, ?_⟩) HS.out ?_
              rotate_left
              · (intro u9 hSw; (try dsimp only at hSw); go_simp; try with_reducible rfl)
              (try simp only [Act.put]); (try simp only [List.setIfInBounds_toArray]); (try simp only [List.set_cons_succ, List.set_cons_zero])
              refine AnyBut.take (i := 4) (v := ?_) (by kernel_rfl) rfl (by decide) (by kernel_rfl) (by kernel_rfl) (by kernel_rfl) (fun _ _ _ h => h) (Or.inl ⟨by rfl, ?_⟩) HS.out ?_
              rotate_left
              · (intro u9 hSw; (try dsimp only at hSw); go_simp; try with_reducible rfl)
              (try simp only [Act.put]); (try simp only [List.setIfInBounds_toArray]); (try simp only [List.set_cons_succ, List.set_cons_zero])
              refine AnyBut.take (i := 5) (v := ?_) (by kernel_rfl) rfl (by decide) (by kernel_rfl) (by kernel_rfl) (by kernel_rfl) (fun _ _ _ h => h) (Or.inl ⟨by rfl, ?_⟩) HS.out ?_
              rotate_left
              · (intro u9 hSw; (try dsimp only at hSw); go_simp; try with_reducible rfl)
              (try simp only [Act.put]); (try simp only [List.setIfInBounds_toArray]); (try simp only [List.set_cons_succ, List.set_cons_zero])
              refine AnyBut.take (i := 6) (v := ?_) (by kernel_rfl) rfl (by decide) (by kernel_rfl) (by kernel_rfl) (by kernel_rfl) (fun _ _ _ h => h) (Or.inl ⟨by rfl, ?_⟩) HS.out ?_
              rotate_left
              · (intro u9 hSw; (try dsimp only at hSw); go_simp; try with_reducible rfl)
              (try simp only [Act.put]); (try simp only [List.setIfInBounds_toArray]); (try simp only [List.set_cons_succ, List.set_cons_zero])
              refine AnyBut.take (i := 7) (v := ?_) (by kernel_rfl) rfl (by decide) (by kernel_rfl) (by kernel_rfl) (by kernel_rfl) (fun _ _ _ h => h) (Or.inl ⟨by rfl, ?_⟩) HS.out ?_
              rotate_left
              · (intro u9 hSw; (try dsimp only at hSw); go_simp; try with_reducible rfl)
              (try simp only [Act.put]); (try simp only [List.setIfInBounds_toArray]); (try simp only [List.set_cons_succ, List.set_cons_zero])
              refine AnyBut.take (i := 8) (v := ?_) (by kernel_rfl) rfl (by decide) (by kernel_rfl) (by kernel_rfl) (by kernel_rfl) (fun _ _ _ h => h) (Or.inl ⟨by rfl, ?_⟩) HS.out ?_
              rotate_left
              · (intro u9 hSw; (try dsimp only at hSw); go_simp; try with_reducible rfl)
              (try simp only [Act.put]); (try simp only [List.setIfInBounds_toArray]); (try simp only [List.set_cons_succ, List.set_cons_zero])
              refine AnyBut.take (i := 9) (v := ?_) (by kernel_rfl) rfl (by decide) (by kernel_rfl) (by kernel_rfl) (by kernel_rfl) (fun _ _ _ h => h) (Or.inl ⟨by rfl, ?_⟩) HS.out ?_
              rotate_left
              · (intro u9 hSw; (try dsimp only at hSw); go_simp; try with_reducible rfl)
              (try simp only [Act.put]); (try simp only [List.setIfInBounds_toArray]); (try simp only [List.set_cons_succ, List.set_cons_zero])
              refine AnyBut.take (i := 10) (v := ?_) (by kernel_rfl) rfl (by decide) (by kernel_rfl) (by kernel_rfl) (by kernel_rfl) (fun _ _ _ h => h) (Or.inl ⟨by rfl, ?_⟩) HS.out ?_
              rotate_left
              · (intro u9 hSw; (try dsimp only at hSw); go_simp; try with_reducible rfl)
              (try simp only [Act.put]); (try simp only [List.setIfInBounds_toArray]); (try simp only [List.set_cons_succ, List.set_cons_zero])
              refine AnyBut.take (i := 11) (v := ?_) (by kernel_rfl) rfl (by decide) (by kernel_rfl) (by kernel_rfl) (by kernel_rfl) (fun _ _ _ h => h) (Or.inl ⟨by rfl, ?_⟩) HS.out ?_
              rotate_left
              · (intro u9 hSw; (try dsimp only at hSw); go_simp; try with_reducible rfl)
              (try simp only [Act.put]); (try simp only [List.setIfInBounds_toArray]); (try simp only [List.set_cons_succ, List.set_cons_zero])
              refine AnyBut.take (i := 12) (v := ?_) (by kernel_rfl) rfl (by decide) (by kernel_rfl) (by kernel_rfl) (by kernel_rfl) (fun _ _ _ h => h) (Or.inl ⟨by rfl, ?_⟩) HS.out ?_
              rotate_left
              · (intro u9 hSw; (try dsimp only at hSw); go_simp; try with_reducible rfl)
              (try simp only [Act.put]); (try simp only [List.setIfInBounds_toArray]); (try simp only [List.set_cons_succ, List.set_cons_zero])
              refine AnyBut.take (i := 13) (v := ?_) (by kernel_rfl) rfl (by decide) (by kernel_rfl) (by kernel_rfl) (by kernel_rfl) (fun _ _ _ h => h) (Or.inl ⟨by rfl, ?_⟩) HS.out ?_
              rotate_left
              · (intro u9 hSw; (try dsimp only at hSw); go_simp; try with_reducible rfl)
              (try simp only [Act.put]); (try simp only [List.setIfInBounds_toArray]); (try simp only [List.set_cons_succ, List.set_cons_zero])
              refine AnyBut.take (i := 14) (v := ?_) (by kernel_rfl) rfl (by decide) (by kernel_rfl) (by kernel_rfl) (by kernel_rfl) (fun _ _ _ h => h) (Or.inl ⟨by rfl, ?_⟩) HS.out ?_
              rotate_left
              · (intro u9 hSw; (try dsimp only at hSw); go_simp; try with_reducible rfl)
              (try simp only [Act.put]); (try simp only [List.setIfInBounds_toArray]); (try simp only [List.set_cons_succ, List.set_cons_zero])
              refine AnyBut.take (i := 15) (v := ?_) (by kernel_rfl) rfl (by decide) (by kernel_rfl) (by kernel_rfl) (by kernel_rfl) (fun _ _ _ h => h) (Or.inl ⟨by rfl, ?_⟩) HS.out ?_
              rotate_left
              · (intro u9 hSw; (try dsimp only at hSw); go_simp; try with_reducible rfl)
              (try simp only [Act.put]); (try simp only [List.setIfInBounds_toArray]); (try simp only [List.set_cons_succ, List.set_cons_zero])
              refine AnyBut.take (i := 16) (v := ?_) (by kernel_rfl) rfl (by decide) (by kernel_rfl) (by kernel_rfl) (by kernel_rfl) (fun _ _ _ h => h) (Or.inl ⟨by rfl, ?_⟩) HS.out ?_
              rotate_left
              · (intro u9 hSw; (try dsimp only at hSw); go_simp; try with_reducible rfl)
              (try simp only [Act.put]); (try simp only [List.setIfInBounds_toArray]); (try simp only [List.set_cons_succ, List.set_cons_zero])
              refine AnyBut.take (i := 17) (v := ?_) (by kernel_rfl) rfl (by decide) (by kernel_rfl) (by kernel_rfl) (by kernel_rfl) (fun _ _ _ h => h) (Or.inl ⟨by rfl, ?_⟩) HS.out ?_
              rotate_left
              · (intro u9 hSw; (try dsimp only at hSw); go_simp; try with_reducible rfl)
              (try simp only [Act.put]); (try simp only [List.setIfInBounds_toArray]); (try simp only [List.set_cons_succ, List.set_cons_zero])
              refine AnyBut.one (i := 18) rfl (by kernel_rfl) (fun K hK => ?_)
              go_simp
              refine hK.out _ _ (fun _ => ⟨(blk_cell (HWd.out.alloc _).co 1).trans rfl, (blk_cell (HWd.out.alloc _).rd 1).trans rfl⟩) ?_
              clear hK K
              (try simp only [Act.put]); (try simp only [List.setIfInBounds_toArray]); (try simp only [List.set_cons_succ, List.set_cons_zero])
              refine AnyBut.one (i := 19) rfl (by kernel_rfl) (fun K hK => ?_)
              refine IR.step (B := B2) (W := wr.drew.alloc (.cells #[.int .i64 (IntKind.i64.wrap ((s[a2]'g1).toNat : Int)), .int .i64 (IntKind.i64.wrap ((s[a2 + 1]'g2).toNat : Int))] 105)) (v := lv) (xs := xs) (World.ownsRow.alloc (World.ownsRow.drew HI.out) _) (by rfl) _ _ (by rfl) (by rfl) ⟨IntKind.i64.wrap ((s[a2]'g1).toNat : Int), IntKind.i64.wrap ((s[a2 + 1]'g2).toNat : Int)⟩ wr.heap.size (heap_alloc_new wr.drew _) (by rfl) (by have := HLK.out; omega) (by simp; omega) ?_
              intro q cap w5 hp5 hg5 hq5 hl5
              have HW5 : Hid (RW 63 w w5 s a2 false tv lv 0 0) := (HW.out.drew.alloc _).grow hg5 (fun k hk => by have := (World.ownsRow.lt HI.out k hk).1; have := HB2.out.1; omega)
              have HR5 : Hid (TR (w.heap.size + 3) w5 tv (bas ls)) := own_keep (World.ownsRow.alloc (World.ownsRow.drew HR.out) _) (fun q hq => hg5.block q (World.ownsRow.lt (World.ownsRow.alloc (World.ownsRow.drew HR.out) _) q hq).2 (fun e => by have := (World.ownsRow.lt HI.out q e.symm).1; have := HB2.out.2 q hq; omega))
              have hs5 := hg5.size
              have y0 : w5.cell? ⟨w.heap.size + 2, 1, none⟩ = some lv := (blk_cell HW5.out.co 1).trans rfl
              have y1 : w5.cell? ⟨w.heap.size + 1, 1, none⟩ = some (.int .i64 (a2 : Int)) := (blk_cell HW5.out.rd 1).trans rfl
              have yf := blk_free HW5.out.co 1
              refine hK.out _ _ (fun _ => ⟨y0, y1⟩) ?_
              clear hK K HS
              have HS : Hid (w5.cell? ⟨w.heap.size + 2, 1, none⟩ = some lv ∧ w5.cell? ⟨w.heap.size + 1, 1, none⟩ = some (.int .i64 (a2 : Int))) := ⟨y0, y1⟩
              (try simp only [Act.put]); (try simp only [List.setIfInBounds_toArray]); (try simp only [List.set_cons_succ, List.set_cons_zero])
              refine AnyBut.take (i := 20) (v := ?_) (by kernel_rfl) rfl (by decide) (by kernel_rfl) (by kernel_rfl) (by kernel_rfl) (fun _ _ _ h => h) (Or.inl ⟨by rfl, ?_⟩) HS.out ?_
              rotate_left
              · (intro u9 hSw; (try dsimp only at hSw); go_simp; try with_reducible rfl)
              (try simp only [Act.put]); (try simp only [List.setIfInBounds_toArray]); (try simp only [List.set_cons_succ, List.set_cons_zero])
              refine AnyBut.one (i := 21) rfl (by kernel_rfl) (fun K hK => ?_)
              go_simp
              refine hK.out _ _ (fun h => absurd rfl h) ?_
              clear hK K HS HWd
              refine AnyBut.done (by kernel_rfl) ?_ _
              refine NoPanic.normal ?_
              have HN : Hid _ := HW5.out.setC (lv' := .slice (some ⟨q, 0, none⟩) (xs.length + 1) cap) 1 (.slice (some ⟨q, 0, none⟩) (xs.length + 1) cap) rfl
              have HRN : Hid _ := own_set HR5.out (w.heap.size + 2) 1 (by omega) (.slice (some ⟨q, 0, none⟩) (xs.length + 1) cap)
              have HIN : Hid _ := own_set hp5 (w.heap.size + 2) 1 (by have := HB2.out.1; omega) (.slice (some ⟨q, 0, none⟩) (xs.length + 1) cap)
              have v1 := (blk_cell HN.out.rd 1).trans rfl
              have v2 := blk_free HN.out.rd 1
              have HN2 : Hid _ := HN.out.setR (a' := a2 + 2) (bad' := false) 1 (.int .i64 ((a2 : Int) + 2)) (by simp)
              have HRN2 : Hid _ := own_set HRN.out (w.heap.size + 1) 1 (by omega) (.int .i64 ((a2 : Int) + 2))
              have HIN2 : Hid _ := own_set HIN.out (w.heap.size + 1) 1 (by have := HB2.out.1; omega) (.int .i64 ((a2 : Int) + 2))
              have HTN : Hid (Rc.S2 s ls m a3 (k2 + 1) (xs ++ [⟨IntKind.i64.wrap ((s[a2]'g1).toNat : Int), IntKind.i64.wrap ((s[a2 + 1]'g2).toNat : Int)⟩]) (a2 + 2) false) := by
                have := HT.out.next hin
                rw [byteAt7o s a2 g1, byteAt7o s (a2 + 1) g2] at this
                exact this
              have hsN : B2 ≤ ((w5.setCell ⟨w.heap.size + 2, 1, none⟩ (.slice (some ⟨q, 0, none⟩) (xs.length + 1) cap)).setCell ⟨w.heap.size + 1, 1, none⟩ (.int .i64 ((a2 : Int) + 2))).heap.size := by simp [World.setCell] at hs5 ⊢; omega
              clear hp5 hg5 hq5 hl5 y0 y1 yf x2 c1 c2 cl HW5 HR5 HW HR HI HT CN hs5 HN HRN HIN
              go_wp2_with fail
              go_roundw
              case rel => exact ⟨k2 + 1, _, a2 + 2, false, _, by go_num, by omega, by omega, hsN, HN2, HRN2, HIN2, HTN⟩
              case measure => simp [intOf]; omega
            · have j3 : (s.size : Int) < (a2 : Int) + 2 := by omega
              have hw2 : IntKind.i64.wrap ((a2 : Int) + 2) = (a2 : Int) + 2 := IntWalk.i64_in _ (by omega)
              have f2 := blk_free HW.out.rd 2
              have HWb : Hid (RW 63 w (wr.setCell ⟨w.heap.size + 1, 2, none⟩ (.bool true)) s a2 true tv lv 0 0) := HW.out.setR 2 (.bool true) rfl
              have HRb : Hid (TR (w.heap.size + 3) (wr.setCell ⟨w.heap.size + 1, 2, none⟩ (.bool true)) tv (bas ls)) := own_set HR.out (w.heap.size + 1) 2 (by omega) _
              have HIb : Hid (IR B2 (wr.setCell ⟨w.heap.size + 1, 2, none⟩ (.bool true)) lv xs) := own_set HI.out (w.heap.size + 1) 2 (by have := HB2.out.1; omega) _
              have HS3 : Hid (Rc.S3 s ls xs a2 true) := (HT.out.stop hlt (by omega)).done hk (fun e => by cases e)
              clear HW HR HI HT
              go_wp2_with fail
              clear i1 i2 j3 hw2 c1 c2 f2 hin
              exact TAIL.out _ _ _ _ _ _ _ _ _ _ _ _ _ _ _ _ _ _ _ _ _ _ _ _ _ _ _ _ _ _ _ _ _ _ _ _ _ _ _ _ _ _ _ _ _ _ _ _ _ _ _ _ _ _ _ _ _ _ _ _ _ _ _ _ _ _ _ _ _ _ _ _ _ _ _ _ _ _ _ _ _ _ _ _ _ _ _ _ _ _ _ _ _ _ _ _ _ _ _ _ _ _ _ _ _ _ _ _ _ _ _ _ _ _ _ _ _ _ _ _ _ a2 true lv xs HWb.out HRb.out HIb.out HS3.out hal (by have := HLK.out; omega)
          · have HX : Hid (bad2 = false → k2 = m ∨ k2 = 300) := fun e => by
              rw [e] at hgo
              simp only [true_and] at hgo
              omega
            have HS3 : Hid (Rc.S3 s ls xs a2 bad2) := HT.out.done hk HX.out
            have h3 : ¬ ((k2 : Int) < (m : Int)) ∨ ((k2 : Int) < (m : Int) ∧ ¬ ((k2 : Int) < 300)) ∨ ((k2 : Int) < (m : Int) ∧ (k2 : Int) < 300 ∧ bad2 = true) := by
              by_cases h1 : k2 < m
              · by_cases h2 : k2 < 300
                · refine .inr (.inr ⟨by omega, by omega, ?_⟩)
                  cases bad2 with
                  | true => rfl
                  | false => exact absurd ⟨rfl, h1, h2⟩ hgo
                · exact .inr (.inl ⟨by omega, by omega⟩)
              · exact .inl (by omega)
            clear hgo HT HX
            rcases h3 with j1 | ⟨j1, j2⟩ | ⟨j1, j2, hb⟩
            all_goals
              try rw [hb] at c2
              go_wp2_with fail
              clear j1
              try clear j2
              clear c2
              exact TAIL.out _ _ _ _ _ _ _ _ _ _ _ _ _ _ _ _ _ _ _ _ _ _ _ _ _ _ _ _ _ _ _ _ _ _ _ _ _ _ _ _ _ _ _ _ _ _ _ _ _ _ _ _ _ _ _ _ _ _ _ _ _ _ _ _ _ _ _ _ _ _ _ _ _ _ _ _ _ _ _ _ _ _ _ _ _ _ _ _ _ _ _ _ _ _ _ _ _ _ _ _ _ _ _ _ _ _ _ _ _ _ _ _ _ _ _ _ _ _ _ _ _ a2 bad2 lv xs HW.out HR.out HI.out HS3.out hal (by have := HLK.out; omega)
end Go.Proofs.YtehagonaacbmiaaGreat
