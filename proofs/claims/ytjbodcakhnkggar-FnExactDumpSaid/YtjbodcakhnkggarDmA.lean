/- What is dumped: the program's Dump. -/
import Derived.Test.YtjbodcakhnkggarDmP
import Derived.Test.YtjbodcakhnkggarBdA
import Derived.Test.YtjbodcakhnkggarRwE
namespace Go.Proofs.Ytjbodcakhnkggar
open Go.RowKit

theorem alloc3_0d (w : World) (A B C : Obj) : (((w.alloc A).alloc B).alloc C).heap[w.heap.size]? = some A := by
  show (((w.heap.push A).push B).push C)[w.heap.size]? = some A
  rw [Array.getElem?_push, if_neg (by simp; omega), Array.getElem?_push, if_neg (by simp), Array.getElem?_push]
  simp
theorem St.line_ba (x0 k v : ByteArray) : k ++ (⟨#[32]⟩ : ByteArray) ++ v ++ (⟨#[10]⟩ : ByteArray) = ⟨(St.line ⟨x0, k, v⟩).toArray⟩ := by
  apply St.ba_ext
  rw [St.app_list, St.app_list, St.app_list]
  simp [St.line]
theorem ClSmall.take {cs : List Cl} (h : ClSmall cs cs.length) (j : Nat) : ClSmall (cs.take j) (cs.take j).length := by
  intro i hi
  have h1 : i < cs.length := by rw [List.length_take] at hi; omega
  have h2 : i < j := by rw [List.length_take] at hi; omega
  have := h i h1
  rw [show (cs.take j).getD i Cl.no = cs.getD i Cl.no by simp [h1, h2]]
  exact this

set_option maxRecDepth 100000 in
set_option maxHeartbeats 8000000 in
theorem imDump (tv lv : Value) (o name : ByteArray) (vs : List Vr) (cs : List Cl) (w : World) (h1 : VrAt w tv vs) (h2 : ClAt w lv cs) (hs : StSmall vs cs o) :
    Calls Try.prog 17 #[.agg #[tv, lv, .string o], .string name] w fun e w' => ∃ u x, e = .returned (.agg #[u, x, .string (St.dumped o name cs)]) ∧ StIn w.heap.size w'.heap.size w' u x vs cs ∧ Below w.heap.size w w' := by
  obtain ⟨O, hO⟩ : ∃ O, O = St.dumped o name cs := ⟨_, rfl⟩
  have HO : Hid (O = St.dumped o name cs) := hO
  rw [← hO]
  clear hO
  have HLL : Hid (∀ j, (St.lines name (cs.take j)).length ≤ 3000000000000) := fun j => by
    have h3 := St.lines_len name (cs.take j) (ClSmall.take hs.2.2.2.1 j)
    have h4 : (cs.take j).length ≤ 1048576 := by rw [List.length_take]; have := hs.2.2.1; omega
    have := Nat.mul_le_mul_right 2097154 h4
    omega
  have HV : Hid (∀ W, Below w.heap.size w W → VrAt W tv vs ∧ ClAt W lv cs) := fun W hb => ⟨h1.keep hb, h2.keep hb⟩
  have HS : Hid (StSmall vs cs o) := hs
  have ho : o.size ≤ 1048576 := hs.2.2.2.2
  have hl : cs.length ≤ 1048576 := hs.2.2.1
  obtain ⟨ad, c, rfl, -⟩ := h1
  obtain ⟨bd, d, rfl, -⟩ := h2
  obtain ⟨n, hn⟩ : ∃ n, n = vs.length := ⟨_, rfl⟩
  obtain ⟨m, hm⟩ : ∃ m, m = cs.length := ⟨_, rfl⟩
  rw [← hn, ← hm] at HV
  rw [← hm] at hl
  rw [← hn, ← hm]
  have HN : Hid (n = vs.length ∧ m = cs.length) := ⟨hn, hm⟩
  clear hn hm hs
  have HB : Hid (Below w.heap.size w (((w.alloc (.cells #[.slice ad n c, .slice bd m d, .string o] 31)).alloc (.cells #[.slice none 0 0, .slice none 0 0, .string ByteArray.empty] 31)).alloc (.cells #[.pointer none, .slice none 0 0] 57))) := (((Below.refl _ _).alloc (Nat.le_refl _) _).alloc (by simp) _).alloc (by simp; omega) _
  have HQ0 : Hid _ := alloc3_0d w (.cells #[.slice ad n c, .slice bd m d, .string o] 31) (.cells #[.slice none 0 0, .slice none 0 0, .string ByteArray.empty] 31) (.cells #[.pointer none, .slice none 0 0] 57)
  have HQ1 : Hid _ := alloc3_1 w (.cells #[.slice ad n c, .slice bd m d, .string o] 31) (.cells #[.slice none 0 0, .slice none 0 0, .string ByteArray.empty] 31) (.cells #[.pointer none, .slice none 0 0] 57)
  have HBD : Hid (Bd (w.heap.size + 1 + 1) (((w.alloc (.cells #[.slice ad n c, .slice bd m d, .string o] 31)).alloc (.cells #[.slice none 0 0, .slice none 0 0, .string ByteArray.empty] 31)).alloc (.cells #[.pointer none, .slice none 0 0] 57)) []) := by
    have := Bd.new ((w.alloc (.cells #[.slice ad n c, .slice bd m d, .string o] 31)).alloc (.cells #[.slice none 0 0, .slice none 0 0, .string ByteArray.empty] 31))
    show Bd _ _ _
    simpa using this
  have HZ : Hid (w.heap.size + 1 + 1 < (((w.alloc (.cells #[.slice ad n c, .slice bd m d, .string o] 31)).alloc (.cells #[.slice none 0 0, .slice none 0 0, .string ByteArray.empty] 31)).alloc (.cells #[.pointer none, .slice none 0 0] 57)).heap.size) := by show _ < _; simp
  go_enter Try.func17, Try.ntmps17
  go_wp2
  change Code.wp _ _ _ _ (((w.alloc (.cells #[.slice ad n c, .slice bd m d, .string o] 31)).alloc (.cells #[.slice none 0 0, .slice none 0 0, .string ByteArray.empty] 31)).alloc (.cells #[.pointer none, .slice none 0 0] 57))
  generalize (((w.alloc (.cells #[.slice ad n c, .slice bd m d, .string o] 31)).alloc (.cells #[.slice none 0 0, .slice none 0 0, .string ByteArray.empty] 31)).alloc (.cells #[.pointer none, .slice none 0 0] 57)) = W0 at *
  obtain ⟨b, hb⟩ : ∃ b, b = w.heap.size + 1 + 1 := ⟨_, rfl⟩
  rw [← hb] at HBD HZ ⊢
  have HRES : Hid (∀ W, Below b W0 W → W.heap[w.heap.size + 1]? = some (.cells #[.slice none 0 0, .slice none 0 0, .string ByteArray.empty] 31 (0, 0))) := fun W h => (h.block _ (by omega)).trans HQ1.out
  have HBX : Hid (∀ W, Below b W0 W → W.heap[w.heap.size]? = some (.cells #[.slice ad n c, .slice bd m d, .string o] 31 (0, 0))) := fun W h => (h.block _ (by omega)).trans HQ0.out
  have HWW : Hid (∀ W, Below b W0 W → Below w.heap.size w W) := fun W h => HB.out.trans (h.mono (by omega))
  have HBB : Hid (b = w.heap.size + 1 + 1) := hb
  clear HQ0 HQ1 hb
  go_loopw [11] (fun i wr => ∃ j : Nat, i = .int .i64 (j : Int) ∧ j ≤ m ∧ Hid (Below b W0 wr) ∧ Hid (Bd b wr (St.lines name (cs.take j)))) (fun i _ => m - (intOf i).toNat)
  case atStart => exact ⟨0, rfl, by omega, Below.refl _ _, by rw [List.take_zero]; exact HBD⟩
  case round =>
    clear HBD
    obtain ⟨j, rfl, hj, HW, HD⟩ := hrel
    have HSW : Hid (b ≤ wr.heap.size) := by
      have h1 := HW.out.size
      have h2 := HZ.out
      show _ ≤ _
      omega
    by_cases hlt : j < m
    · obtain ⟨a', c', e', f⟩ := (HV.out _ (HWW.out _ HW.out)).2
      obtain ⟨rfl, -, rfl⟩ : bd = a' ∧ m = cs.length ∧ d = c' := by simpa using e'
      obtain ⟨g, of, rfl, hg, hc⟩ := f (by rw [← HN.out.2]; omega)
      have t1 := hc j (by rw [← HN.out.2]; exact hlt)
      have hsm := HS.out.2.2.2.1 j (by rw [← HN.out.2]; exact hlt)
      obtain ⟨p, hp⟩ : ∃ p, p = cs.getD j Cl.no := ⟨_, rfl⟩
      rw [← hp] at t1 hsm
      have HTK : Hid (cs.take (j + 1) = cs.take j ++ [p]) := by
        show _ = _
        have hj2 : j < cs.length := by rw [← HN.out.2]; exact hlt
        rw [List.take_succ_eq_append_getElem hj2, hp]
        simp [hj2]
      clear hp hc f e'
      obtain ⟨p0, p1, p2⟩ := p
      simp only at t1 hsm
      obtain ⟨x0, x1, x2⟩ := t1
      obtain ⟨m0, m1, m2⟩ := hsm
      have i1 : (j : Int) < (m : Int) := by omega
      have i0 : (0 : Int) ≤ (j : Int) := by omega
      have hal : Below wr.heap.size wr (wr.alloc (.cells #[.string p0, .string p1, .string p2] 43)) := (Below.refl _ _).alloc (Nat.le_refl _) _
      have HW1 : Hid (Below b W0 (wr.alloc (.cells #[.string p0, .string p1, .string p2] 43))) := HW.out.trans (hal.mono HSW.out)
      have HD1 : Hid (Bd b (wr.alloc (.cells #[.string p0, .string p1, .string p2] 43)) (St.lines name (cs.take j))) := HD.out.keep hal
      have hn1 : ¬ 9223372036854775807 < p1.size + 1 := by omega
      have hn2 : ¬ 9223372036854775807 < p1.size + 1 + p2.size := by omega
      have hn3 : ¬ 9223372036854775807 < p1.size + 1 + p2.size + 1 := by omega
      have hn4 : ¬ ((9223372036854775807 : Int) < (p1.size : Int) + 1) := by omega
      have hn5 : ¬ ((9223372036854775807 : Int) < (p1.size : Int) + 1 + (p2.size : Int)) := by omega
      have hn6 : ¬ ((9223372036854775807 : Int) < (p1.size : Int) + 1 + (p2.size : Int) + 1) := by omega
      cases ht : (p0.toList == name.toList) with
      | true =>
        have CC : Hid (∀ W, Bd b W (St.lines name (cs.take j)) → Calls Try.prog 37 #[.pointer (some ⟨b, 0, none⟩), .string (p1 ++ ⟨#[32]⟩ ++ p2 ++ ⟨#[10]⟩)] W fun e w' => (∃ q, e = .returned (.tuple #[.int .i64 q, .nilIface])) ∧ Bd b w' (St.lines name (cs.take (j + 1))) ∧ Below b W w') := fun W hW => by
          rw [St.line_ba p0 p1 p2, HTK.out, St.lines_snoc]
          simp only [ht, if_true]
          refine (bdString b _ _ W hW (by have := HLL.out j; omega) ?_).mono ?_
          · have e1 : p1.data.toList.length = p1.size := by simp
            have e2 : p2.data.toList.length = p2.size := by simp
            unfold St.line
            simp only [List.length_append, List.length_singleton]
            omega
          · rintro e w' ⟨rfl, k1, k2⟩
            exact ⟨⟨_, rfl⟩, k1, k2⟩
        clear HTK
        go_wp2_with fail
        refine (CC.out _ HD1.out).mono ?_
        rintro e w2 ⟨⟨q, rfl⟩, hd2, hb2⟩
        have HD2 : Hid _ := hd2
        have HW2 : Hid (Below b W0 w2) := HW1.out.trans hb2
        clear hd2 hb2 CC HD1 HW1
        go_wp2
        go_roundw
        case rel => exact ⟨j + 1, by go_num, by omega, HW2, HD2⟩
        case measure => simp [intOf]; omega
      | false =>
        have HD2 : Hid (Bd b (wr.alloc (.cells #[.string p0, .string p1, .string p2] 43)) (St.lines name (cs.take (j + 1)))) := by
          show Bd _ _ _
          rw [HTK.out, St.lines_snoc]
          simp only [ht]
          simpa using HD1.out
        go_wp2
        go_roundw
        case rel => exact ⟨j + 1, by go_num, by omega, HW1, HD2⟩
        case measure => simp [intOf]; omega
    · obtain rfl : j = m := by omega
      have HDF : Hid (Bd b wr (St.lines name cs)) := by have := HD.out; rwa [List.take_of_length_le (by rw [HN.out.2]; exact Nat.le_refl _)] at this
      have HLF : Hid ((St.lines name cs).length ≤ 3000000000000) := by have := HLL.out cs.length; rwa [List.take_length] at this
      have z0 := blk_cell (HBX.out _ HW.out) 0
      have z1 := blk_cell (HBX.out _ HW.out) 1
      have z2 := blk_cell (HBX.out _ HW.out) 2
      simp only [List.getElem?_toArray, List.getElem?_cons_zero, List.getElem?_cons_succ] at z0 z1 z2
      have CL : Hid (Calls Try.prog 38 #[.pointer (some ⟨b, 0, none⟩)] wr fun e w' => e = .returned (.int .i64 ((St.lines name cs).length : Int)) ∧ w' = wr) := bdLen b _ wr HDF.out
      by_cases he : St.lines name cs = []
      · have CO : Hid (∀ W, Below w.heap.size w W → Calls Try.prog 39 #[.agg #[.slice ad n c, .slice bd j d, .string o], .string o] W fun e w' => ∃ u x, e = .returned (.agg #[u, x, .string O]) ∧ StIn W.heap.size w'.heap.size w' u x vs cs ∧ Below W.heap.size W w') := fun W hW => by
          rw [HO.out]
          unfold St.dumped
          rw [if_pos he]
          exact withOut_any _ _ o o vs cs W (HV.out _ hW).1 (HV.out _ hW).2 HS.out (by omega)
        rw [he] at CL
        clear HD HDF HLF he
        go_wp2_with fail
        refine CL.out.mono ?_
        rintro e w8 ⟨rfl, rfl⟩
        clear CL
        go_wp2_with fail
        refine (CO.out _ (HWW.out _ HW.out)).mono ?_
        rintro e w9 ⟨u, x, rfl, hin, hb9⟩
        have HSZ : Hid (w.heap.size + 1 < w8.heap.size ∧ w8.heap.size ≤ w9.heap.size) := ⟨by have h1 := HSW.out; have h2 := HBB.out; omega, hb9.size⟩
        have B9 : Hid (Below b W0 w9) := HW.out.trans (hb9.mono HSW.out)
        have HI : Hid (StIn w8.heap.size w9.heap.size w9 u x vs cs) := hin
        obtain ⟨mid, hm1, hm2, ⟨ua, uc, rfl, -⟩, ⟨xa, xc, rfl, -⟩⟩ := hin
        have HRR : Hid _ := HRES.out _ B9.out
        have y0 : w9.cell? ⟨w.heap.size + 1, 0, none⟩ = some (.slice none 0 0) := (blk_cell HRR.out 0).trans rfl
        have y1 : w9.cell? ⟨w.heap.size + 1, 1, none⟩ = some (.slice none 0 0) := (blk_cell HRR.out 1).trans rfl
        have y2 : w9.cell? ⟨w.heap.size + 1, 2, none⟩ = some (.string ByteArray.empty) := (blk_cell HRR.out 2).trans rfl
        have f0 := blk_free HRR.out 0
        have f1 := blk_free HRR.out 1
        have f2 := blk_free HRR.out 2
        clear hb9 z0 z1 z2 CO
        go_wp2_with fail
        refine bodyPost_ret (results_cell_row (p := 4) (ty := 31) rfl _ _ (w.heap.size + 1) 31 _ (0, 0) _ rfl (blk_set (blk_set (blk_set HRR.out 0 _) 1 _) 2 _) Try.underlying31 rfl (by kernel_rfl)) rfl ?_
        exact ⟨_, _, rfl, (HI.out.keep (fun b hb _ => by rw [Below.heap_setCell _ _ _ _ (by show b ≠ w.heap.size + 1; have := HSZ.out; omega), Below.heap_setCell _ _ _ _ (by show b ≠ w.heap.size + 1; have := HSZ.out; omega), Below.heap_setCell _ _ _ _ (by show b ≠ w.heap.size + 1; have := HSZ.out; omega)])).wide (by have := HSZ.out; omega) (by simp [World.setCell]), (((HWW.out _ B9.out).setCell (by show _ ≤ w.heap.size + 1; omega) _).setCell (by show _ ≤ w.heap.size + 1; omega) _).setCell (by show _ ≤ w.heap.size + 1; omega) _⟩
      · have hlp : 0 < (St.lines name cs).length := List.length_pos_iff.2 he
        have dl : (((St.lines name cs).length : Int) == 0) = false := by simpa using he
        have CO : Hid (∀ W, Below w.heap.size w W → Calls Try.prog 32 #[.agg #[.slice ad n c, .slice bd j d, .string o], .string ⟨(St.lines name cs).toArray⟩] W fun e w' => ∃ u x, e = .returned (.agg #[u, x, .string O]) ∧ StIn W.heap.size w'.heap.size w' u x vs cs ∧ Below W.heap.size W w') := fun W hW => by
          rw [HO.out]
          unfold St.dumped
          rw [if_neg he]
          exact withMore_any _ _ o (St.ba (St.lines name cs)) vs cs W (HV.out _ hW).1 (HV.out _ hW).2 HS.out (by have := HLF.out; show (St.lines name cs).toArray.size ≤ _; simp; omega)
        have CT : Hid (∀ W, W = wr.drew → Calls Try.prog 40 #[.pointer (some ⟨b, 0, none⟩)] W fun e w' => e = .returned (.string ⟨(St.lines name cs).toArray⟩) ∧ Below b W w') := fun W hW => by subst hW; exact bdText b _ wr.drew (HDF.out.keep (Below.refl _ _).drew) he (by have := HLF.out; omega)
        generalize (⟨(St.lines name cs).toArray⟩ : ByteArray) = LB at *
        generalize (St.lines name cs).length = LN at *
        clear HD HDF HLF he
        go_wp2_with fail
        refine CL.out.mono ?_
        rintro e w8 ⟨rfl, rfl⟩
        clear CL
        have hltb : w.heap.size < b := by have := HBB.out; omega
        go_wp2_with fail
        go_region_held3 (fun W => W.cell? ⟨w.heap.size, 0, none⟩ = some (.slice ad n c) ∧ W.cell? ⟨w.heap.size, 1, none⟩ = some (.slice bd j d) ∧ W.cell? ⟨w.heap.size, 2, none⟩ = some (.string o)) (first | exact keepC3 hb9 (by assumption) | exact keepB3 hb7 hltb hltb hltb (by assumption) | go_keep | exact ⟨z0, z1, z2⟩ | assumption)
          ((first
            | (go_at_call 40; refine (CT.out w8.drew rfl).mono ?_; rintro e w7 ⟨rfl, hb7⟩; have HW7 : Hid (Below b W0 w7) := HW.out.drew.trans hb7; have HS7 : Hid (b ≤ w7.heap.size) := Nat.le_trans HSW.out hb7.size)
            | (go_at_call 32; refine (CO.out w7 (HWW.out _ HW7.out)).mono ?_; rintro e w9 ⟨u, x, rfl, hin, hb9⟩; have HSZ : Hid (w.heap.size + 1 < w7.heap.size ∧ w7.heap.size ≤ w9.heap.size) := ⟨by have h1 := HS7.out; have h2 := HBB.out; omega, hb9.size⟩; have B9 : Hid (Below b W0 w9) := HW7.out.trans (hb9.mono HS7.out); have HI : Hid (StIn w7.heap.size w9.heap.size w9 u x vs cs) := hin; obtain ⟨mid, hm1, hm2, ⟨ua, uc, rfl, -⟩, ⟨xa, xc, rfl, -⟩⟩ := hin; have HRR : Hid _ := HRES.out _ B9.out; have y0 : w9.cell? ⟨w.heap.size + 1, 0, none⟩ = some (.slice none 0 0) := (blk_cell HRR.out 0).trans rfl; have y1 : w9.cell? ⟨w.heap.size + 1, 1, none⟩ = some (.slice none 0 0) := (blk_cell HRR.out 1).trans rfl; have y2 : w9.cell? ⟨w.heap.size + 1, 2, none⟩ = some (.string ByteArray.empty) := (blk_cell HRR.out 2).trans rfl; have f0 := blk_free HRR.out 0; have f1 := blk_free HRR.out 1; have f2 := blk_free HRR.out 2)))
        all_goals
          clear hb9 z0 z1 z2 CO CT
          go_wp2_with fail
          refine bodyPost_ret (results_cell_row (p := 4) (ty := 31) rfl _ _ (w.heap.size + 1) 31 _ (0, 0) _ rfl (blk_set (blk_set (blk_set HRR.out 0 _) 1 _) 2 _) Try.underlying31 rfl (by kernel_rfl)) rfl ?_
          exact ⟨_, _, rfl, (HI.out.keep (fun b hb _ => by rw [Below.heap_setCell _ _ _ _ (by show b ≠ w.heap.size + 1; have := HSZ.out; omega), Below.heap_setCell _ _ _ _ (by show b ≠ w.heap.size + 1; have := HSZ.out; omega), Below.heap_setCell _ _ _ _ (by show b ≠ w.heap.size + 1; have := HSZ.out; omega)])).wide (by have := HSZ.out; omega) (by simp [World.setCell]), (((HWW.out _ B9.out).setCell (by show _ ≤ w.heap.size + 1; omega) _).setCell (by show _ ≤ w.heap.size + 1; omega) _).setCell (by show _ ≤ w.heap.size + 1; omega) _⟩
#print axioms imDump
end Go.Proofs.Ytjbodcakhnkggar
