/- What is dumped: the program's dumpText and Dump. -/
import Derived.Test.YtjohhledpjmffaaZaw
import Derived.Test.YtjohhledpjmffaaZax
import Derived.Test.YtjohhledpjmffaaRwE
namespace Go.Proofs.Ytjohhledpjmffaa
open Go.RowKit

theorem St.line_ba (x0 k v : ByteArray) : k ++ (⟨#[32]⟩ : ByteArray) ++ v ++ (⟨#[10]⟩ : ByteArray) = ⟨(St.line ⟨x0, k, v⟩).toArray⟩ := by
  apply St.ba_ext
  rw [St.app_list, St.app_list, St.app_list]
  simp [St.line]
theorem ClSmall.take {cs : List Cl} (h : ClSmall cs cs.length) (j : Nat) : ClSmall (cs.take j) (cs.take j).length := by
  intro i hi
  have h1 : i < cs.length := by rw [List.length_take] at hi; omega
  have h2 : i < j := by rw [List.length_take] at hi; omega
  have := h i h1
  rw [show (cs.take j).getD i Cl.no = cs.getD i Cl.no by simp [h1, h2]]
  exact this


set_option maxRecDepth 100000 in
set_option maxHeartbeats 8000000 in
theorem dumpText_any (lv : Value) (name : ByteArray) (cs : List Cl) (w : World) (h2 : ClAt w lv cs) (hl : cs.length ≤ 1048576) (hsm : ClSmall cs cs.length) :
    Calls Try.prog 55 #[lv, .string name] w fun e w' => e = .returned (.string (St.ba (St.bl name [] cs))) ∧ Below w.heap.size w w' := by
  obtain ⟨O, hO⟩ : ∃ O, O = St.ba (St.bl name [] cs) := ⟨_, rfl⟩
  have HO : Hid (O = St.ba (St.bl name [] cs)) := hO
  rw [← hO]
  clear hO
  have HLL : Hid (∀ j, (St.bl name [] (cs.take j)).length ≤ 3000000000000) := fun j => by
    have h3 := St.lines_len name (cs.take j) (ClSmall.take hsm j)
    have h5 := St.bl_len name (cs.take j)
    have h4 : (cs.take j).length ≤ 1048576 := by rw [List.length_take]; omega
    have := Nat.mul_le_mul_right 2097154 h4
    omega
  have HV : Hid (∀ W, Below w.heap.size w W → ClAt W lv cs) := fun W hb => h2.keep hb
  have HS : Hid (ClSmall cs cs.length) := hsm
  obtain ⟨bd, d, rfl, -⟩ := h2
  obtain ⟨m, hm⟩ : ∃ m, m = cs.length := ⟨_, rfl⟩
  rw [← hm] at HV hl ⊢
  have HN : Hid (m = cs.length) := hm
  clear hm hsm
  have HB : Hid (Below w.heap.size w (w.alloc (.cells #[.pointer none, .slice none 0 0] 95))) := (Below.refl _ _).alloc (Nat.le_refl _) _
  have HBD : Hid (Bd w.heap.size (w.alloc (.cells #[.pointer none, .slice none 0 0] 95)) []) := Bd.new w
  have HZ : Hid (w.heap.size < (w.alloc (.cells #[.pointer none, .slice none 0 0] 95)).heap.size) := by show _ < _; simp
  go_enter Try.func55, Try.ntmps55
  go_wp2
  change Code.wp _ _ _ _ (w.alloc (.cells #[.pointer none, .slice none 0 0] 95))
  generalize w.alloc (.cells #[.pointer none, .slice none 0 0] 95) = W0 at *
  obtain ⟨b, hb⟩ : ∃ b, b = w.heap.size := ⟨_, rfl⟩
  rw [← hb] at HBD HZ ⊢
  have HWW : Hid (∀ W, Below b W0 W → Below w.heap.size w W) := fun W h => HB.out.trans (h.mono (by omega))
  have HBB : Hid (b = w.heap.size) := hb
  clear hb
  go_loopw [10] (fun i wr => ∃ j : Nat, i = .int .i64 (j : Int) ∧ j ≤ m ∧ Hid (Below b W0 wr) ∧ Hid (Bd b wr (St.bl name [] (cs.take j)))) (fun i _ => m - (intOf i).toNat)
  case atStart => exact ⟨0, rfl, by omega, Below.refl _ _, by rw [List.take_zero]; exact HBD⟩
  case round =>
    clear HBD
    obtain ⟨j, rfl, hj, HW, HD⟩ := hrel
    have HSW : Hid (b ≤ wr.heap.size) := by
      have h1 := HW.out.size
      have h2 := HZ.out
      show _ ≤ _
      omega
    by_cases hlt : j < m
    · obtain ⟨a', c', e', f⟩ := HV.out _ (HWW.out _ HW.out)
      obtain ⟨rfl, -, rfl⟩ : bd = a' ∧ m = cs.length ∧ d = c' := by simpa using e'
      obtain ⟨g, of, rfl, hg, hc⟩ := f (by rw [← HN.out]; omega)
      have t1 := hc j (by rw [← HN.out]; exact hlt)
      have hsm := HS.out j (by rw [← HN.out]; exact hlt)
      obtain ⟨p, hp⟩ : ∃ p, p = cs.getD j Cl.no := ⟨_, rfl⟩
      rw [← hp] at t1 hsm
      have HTK : Hid (cs.take (j + 1) = cs.take j ++ [p]) := by
        show _ = _
        have hj2 : j < cs.length := by rw [← HN.out]; exact hlt
        rw [List.take_succ_eq_append_getElem hj2, hp]
        simp [hj2]
      clear hp hc f e'
      obtain ⟨p0, p1, p2⟩ := p
      simp only at t1 hsm
      obtain ⟨x0, x1, x2⟩ := t1
      obtain ⟨m0, m1, m2⟩ := hsm
      have i1 : (j : Int) < (m : Int) := by omega
      have i0 : (0 : Int) ≤ (j : Int) := by omega
      have hal : Below wr.heap.size wr (wr.alloc (.cells #[.string p0, .string p1, .string p2] 41)) := (Below.refl _ _).alloc (Nat.le_refl _) _
      have HW1 : Hid (Below b W0 (wr.alloc (.cells #[.string p0, .string p1, .string p2] 41))) := HW.out.trans (hal.mono HSW.out)
      have HD1 : Hid (Bd b (wr.alloc (.cells #[.string p0, .string p1, .string p2] 41)) (St.bl name [] (cs.take j))) := HD.out.keep hal
      have hn1 : ¬ 9223372036854775807 < p1.size + 1 := by omega
      have hn2 : ¬ 9223372036854775807 < p1.size + 1 + p2.size := by omega
      have hn3 : ¬ 9223372036854775807 < p1.size + 1 + p2.size + 1 := by omega
      have hn4 : ¬ ((9223372036854775807 : Int) < (p1.size : Int) + 1) := by omega
      have hn5 : ¬ ((9223372036854775807 : Int) < (p1.size : Int) + 1 + (p2.size : Int)) := by omega
      have hn6 : ¬ ((9223372036854775807 : Int) < (p1.size : Int) + 1 + (p2.size : Int) + 1) := by omega
      cases ht : (p0.toList == name.toList) with
      | true =>
        have CLn : Hid (∀ W, Bd b W (St.bl name [] (cs.take j)) → Calls Try.prog 74 #[.pointer (some ⟨b, 0, none⟩)] W fun e w' => e = .returned (.int .i64 ((St.bl name [] (cs.take j)).length : Int)) ∧ w' = W) := fun W h => bdLen b _ W h
        by_cases hq : (St.bl name [] (cs.take j)).length < 3000
        · have dq : decide (((St.bl name [] (cs.take j)).length : Int) < 3000) = true := decide_eq_true (by omega)
          have dq2 : decide ((St.bl name [] (cs.take j)).length < 3000) = true := decide_eq_true hq
          have CC : Hid (∀ W, Bd b W (St.bl name [] (cs.take j)) → Calls Try.prog 75 #[.pointer (some ⟨b, 0, none⟩), .string (p1 ++ ⟨#[32]⟩ ++ p2 ++ ⟨#[10]⟩)] W fun e w' => (∃ q, e = .returned (.tuple #[.int .i64 q, .nilIface])) ∧ Bd b w' (St.bl name [] (cs.take (j + 1))) ∧ Below b W w') := fun W hW => by
            rw [St.line_ba p0 p1 p2, HTK.out, St.bl_snoc]
            unfold St.bstep
            rw [if_pos ⟨ht, hq⟩]
            refine (bdString b _ _ W hW (by have := HLL.out j; omega) ?_).mono ?_
            · have e1 : p1.data.toList.length = p1.size := by simp
              have e2 : p2.data.toList.length = p2.size := by simp
              unfold St.line
              simp only [List.length_append, List.length_singleton]
              omega
            · rintro e w' ⟨rfl, k1, k2⟩
              exact ⟨⟨_, rfl⟩, k1, k2⟩
          clear HTK
          generalize (St.bl name [] (cs.take j)).length = LN at *
          go_wp2_with fail
          refine (CLn.out _ HD1.out).mono ?_
          rintro e w8 ⟨rfl, rfl⟩
          go_wp2_with fail
          refine (CC.out _ HD1.out).mono ?_
          rintro e w2 ⟨⟨q, rfl⟩, hd2, hb2⟩
          have HD2 : Hid _ := hd2
          have HW2 : Hid (Below b W0 w2) := HW1.out.trans hb2
          clear hd2 hb2 CC HD1 HW1
          go_wp2
          go_roundw
          case rel => exact ⟨j + 1, by go_num, by omega, HW2, HD2⟩
          case measure => simp [intOf]; omega
        · have dq : decide (((St.bl name [] (cs.take j)).length : Int) < 3000) = false := decide_eq_false (by omega)
          have dq2 : decide ((St.bl name [] (cs.take j)).length < 3000) = false := decide_eq_false hq
          have HD2 : Hid (Bd b (wr.alloc (.cells #[.string p0, .string p1, .string p2] 41)) (St.bl name [] (cs.take (j + 1)))) := by
            show Bd _ _ _
            rw [HTK.out, St.bl_snoc]
            unfold St.bstep
            rw [if_neg (fun e => hq e.2)]
            exact HD1.out
          clear HTK
          generalize (St.bl name [] (cs.take j)).length = LN at *
          go_wp2_with fail
          refine (CLn.out _ HD1.out).mono ?_
          rintro e w8 ⟨rfl, rfl⟩
          go_wp2
          go_roundw
          case rel => exact ⟨j + 1, by go_num, by omega, HW1, HD2⟩
          case measure => simp [intOf]; omega
      | false =>
        have HD2 : Hid (Bd b (wr.alloc (.cells #[.string p0, .string p1, .string p2] 41)) (St.bl name [] (cs.take (j + 1)))) := by
          show Bd _ _ _
          rw [HTK.out, St.bl_snoc]
          unfold St.bstep
          rw [if_neg (fun e => by rw [ht] at e; cases e.1)]
          exact HD1.out
        go_wp2
        go_roundw
        case rel => exact ⟨j + 1, by go_num, by omega, HW1, HD2⟩
        case measure => simp [intOf]; omega
    · obtain rfl : j = m := by omega
      have HDF : Hid (Bd b wr (St.bl name [] cs)) := by have := HD.out; rwa [List.take_of_length_le (by rw [HN.out]; exact Nat.le_refl _)] at this
      have CT : Hid (Calls Try.prog 76 #[.pointer (some ⟨b, 0, none⟩)] wr fun e w' => e = .returned (.string O) ∧ Below b wr w') := by
        by_cases he : St.bl name [] cs = []
        · have h9 := HDF.out
          rw [he] at h9
          have e9 : O = ByteArray.empty := by rw [HO.out, he]; rfl
          rw [e9]
          exact bdText0 b wr h9
        · rw [HO.out]
          exact bdText b _ wr HDF.out he (by have := HLL.out cs.length; rw [List.take_length] at this; omega)
      clear HD HDF
      go_wp2_with fail
      refine CT.out.mono ?_
      rintro e w9 ⟨rfl, hb9⟩
      have HF : Hid (Below w.heap.size w w9) := HWW.out _ (HW.out.trans hb9)
      clear hb9
      go_wp2
      go_ret
      exact ⟨rfl, HF.out⟩

set_option maxRecDepth 100000 in
set_option maxHeartbeats 4000000 in
theorem imDump (tv lv : Value) (o name : ByteArray) (vs : List Vr) (cs : List Cl) (w : World) (h1 : VrAt w tv vs) (h2 : ClAt w lv cs) (hs : StSmall vs cs o) :
    Calls Try.prog 23 #[.agg #[tv, lv, .string o], .string name] w fun e w' => ∃ u x, e = .returned (.agg #[u, x, .string (St.dumped o name cs)]) ∧ StIn w.heap.size w'.heap.size w' u x vs cs ∧ Below w.heap.size w w' := by
  have ho := hs.2.2.2.2
  obtain ⟨T, hT⟩ : ∃ T, T = St.ba (St.bl name [] cs) := ⟨_, rfl⟩
  have CD : Hid (∀ W, Below w.heap.size w W → Calls Try.prog 55 #[lv, .string name] W fun e w' => e = .returned (.string T) ∧ Below W.heap.size W w') := fun W hb => by
    rw [hT]
    exact dumpText_any lv name cs W (h2.keep hb) hs.2.2.1 hs.2.2.2.1
  have hTs : T.size ≤ 1000000000000000 := by
    rw [hT]
    have h3 := St.lines_len name cs hs.2.2.2.1
    have h5 := St.bl_len name cs
    have := Nat.mul_le_mul_right 2097154 hs.2.2.1
    show (St.bl name [] cs).toArray.size ≤ _
    simp
    omega
  have hO : St.dumped o name cs = St.outW o T := by rw [hT]; exact St.dumped_bl o name cs
  have CO : Hid (∀ W, Calls Try.prog 53 #[.string o, .string T] W fun e w' => e = .returned (.string (St.dumped o name cs)) ∧ Below W.heap.size W w') := fun W => by
    rw [hO]
    exact outWith_any o T W (by omega) hTs
  have hOs : (St.dumped o name cs).size ≤ 100000000 := by
    rw [hO]
    unfold St.outW
    split
    · omega
    · have := St.cut3_size (o ++ T); omega
  have CW : Hid (∀ W, Below w.heap.size w W → Calls Try.prog 52 #[.agg #[tv, lv, .string o], .string (St.dumped o name cs)] W fun e w' => ∃ u x, e = .returned (.agg #[u, x, .string (St.dumped o name cs)]) ∧ StIn W.heap.size w'.heap.size w' u x vs cs ∧ Below W.heap.size W w') := fun W hb =>
    withOut_any tv lv o (St.dumped o name cs) vs cs W (h1.keep hb) (h2.keep hb) hs (by omega)
  clear hO hOs hT hTs
  generalize St.dumped o name cs = O at *
  obtain ⟨ad, c, rfl, -⟩ := h1
  obtain ⟨bd, d, rfl, -⟩ := h2
  have HB : Hid (Below w.heap.size w ((w.alloc (.cells #[.slice ad vs.length c, .slice bd cs.length d, .string o] 27)).alloc (.cells #[.slice none 0 0, .slice none 0 0, .string ByteArray.empty] 27))) := ((Below.refl _ _).alloc (Nat.le_refl _) _).alloc (by simp) _
  have q0 := s2_0 w (.cells #[.slice ad vs.length c, .slice bd cs.length d, .string o] 27) (.cells #[.slice none 0 0, .slice none 0 0, .string ByteArray.empty] 27)
  have q1 := s2_1 w (.cells #[.slice ad vs.length c, .slice bd cs.length d, .string o] 27) (.cells #[.slice none 0 0, .slice none 0 0, .string ByteArray.empty] 27)
  have hz : w.heap.size + 1 < ((w.alloc (.cells #[.slice ad vs.length c, .slice bd cs.length d, .string o] 27)).alloc (.cells #[.slice none 0 0, .slice none 0 0, .string ByteArray.empty] 27)).heap.size := by simp
  have HZ : Hid _ := And.intro q1 hz
  have z0 := blk_cell q0 0
  have z1 := blk_cell q0 1
  have z2 := blk_cell q0 2
  simp only [List.getElem?_toArray, List.getElem?_cons_zero, List.getElem?_cons_succ] at z0 z1 z2
  clear q0 q1 hz hs ho
  go_enter Try.func23, Try.ntmps23
  go_wp2_with fail
  change Code.wp _ _ _ _ ((w.alloc (.cells #[.slice ad vs.length c, .slice bd cs.length d, .string o] 27)).alloc (.cells #[.slice none 0 0, .slice none 0 0, .string ByteArray.empty] 27))
  generalize ((w.alloc (.cells #[.slice ad vs.length c, .slice bd cs.length d, .string o] 27)).alloc (.cells #[.slice none 0 0, .slice none 0 0, .string ByteArray.empty] 27)) = W0 at *
  have HST : Hid (∀ W, Below W0.heap.size W0 W → W.heap[w.heap.size + 1]? = some (.cells #[.slice none 0 0, .slice none 0 0, .string ByteArray.empty] 27 (0, 0))) := fun W hb => (hb.block _ HZ.out.2).trans HZ.out.1
  have HW0 : Hid (∀ W, Below W0.heap.size W0 W → Below w.heap.size w W) := fun W hb => HB.out.trans (hb.mono HB.out.size)
  go_region_held3 (fun W => W.cell? ⟨w.heap.size, 0, none⟩ = some (.slice ad vs.length c) ∧ W.cell? ⟨w.heap.size, 1, none⟩ = some (.slice bd cs.length d) ∧ W.cell? ⟨w.heap.size, 2, none⟩ = some (.string o)) (first | exact keepC3 hb1 (by assumption) | exact keepC3 hb0 (by assumption) | exact keepC3 hb5 (by assumption) | go_keep | exact ⟨z0, z1, z2⟩ | assumption)
    ((first
      | (go_at_call 55; refine (CD.out W0.drew (HW0.out _ (Below.refl _ _).drew)).mono ?_; rintro e w5 ⟨rfl, hb5⟩; have B5 : Hid (Below W0.heap.size W0 w5) := (Below.refl _ _).drew.trans hb5)
      | (go_at_call 53; refine (CO.out w5).mono ?_; rintro e w0 ⟨rfl, hb0⟩; have B0 : Hid (Below W0.heap.size W0 w0) := B5.out.trans (hb0.mono B5.out.size))
      | (go_at_call 52; refine (CW.out w0 (HW0.out _ B0.out)).mono ?_; rintro e w1 ⟨u, x, rfl, hin, hb1⟩; have HI : Hid (StIn w0.heap.size w1.heap.size w1 u x vs cs) := hin; have B1 : Hid (Below W0.heap.size W0 w1) := B0.out.trans (hb1.mono B0.out.size); obtain ⟨mid, hm1, hm2, ⟨ua, uc, rfl, -⟩, ⟨xa, xc, rfl, -⟩⟩ := hin; have R3 := HST.out w1 B1.out; have y0 : w1.cell? ⟨w.heap.size + 1, 0, none⟩ = some (.slice none 0 0) := (blk_cell R3 0).trans rfl; have y1 : w1.cell? ⟨w.heap.size + 1, 1, none⟩ = some (.slice none 0 0) := (blk_cell R3 1).trans rfl; have y2 : w1.cell? ⟨w.heap.size + 1, 2, none⟩ = some (.string ByteArray.empty) := (blk_cell R3 2).trans rfl; have f0 := blk_free R3 0; have f1 := blk_free R3 1; have f2 := blk_free R3 2; clear R3)))
  all_goals
    have HRR : Hid _ := HST.out w1 B1.out
    have HSZ : Hid (w.heap.size + 1 < w0.heap.size ∧ w0.heap.size ≤ w1.heap.size) := ⟨by have h5 := HZ.out.2; have h6 := B0.out.size; omega, hb1.size⟩
    clear hb1 CW
    go_wp2_with fail
    refine bodyPost_ret (results_cell_row (p := 4) (ty := 27) rfl _ _ (w.heap.size + 1) 27 _ (0, 0) _ rfl (blk_set (blk_set (blk_set HRR.out 0 _) 1 _) 2 _) Try.underlying27 rfl (by kernel_rfl)) rfl ?_
    exact ⟨_, _, rfl, (HI.out.keep (fun b hb _ => by rw [Below.heap_setCell _ _ _ _ (by show b ≠ w.heap.size + 1; have := HSZ.out; omega), Below.heap_setCell _ _ _ _ (by show b ≠ w.heap.size + 1; have := HSZ.out; omega), Below.heap_setCell _ _ _ _ (by show b ≠ w.heap.size + 1; have := HSZ.out; omega)])).wide (by have := HSZ.out; omega) (by simp [World.setCell]), (((HW0.out _ B1.out).setCell (by show _ ≤ w.heap.size + 1; omega) _).setCell (by show _ ≤ w.heap.size + 1; omega) _).setCell (by show _ ≤ w.heap.size + 1; omega) _⟩
end Go.Proofs.Ytjohhledpjmffaa
