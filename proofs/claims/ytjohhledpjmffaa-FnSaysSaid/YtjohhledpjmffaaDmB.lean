/- What is dumped: the specification's Dump. -/
import Derived.Test.YtjohhledpjmffaaZaw
import Derived.Test.YtjohhledpjmffaaSyB
import Derived.Deep.RegionWith
namespace Go.Proofs.Ytjohhledpjmffaa
open Go.RowKit

set_option maxRecDepth 100000 in
set_option maxHeartbeats 40000000 in
theorem spDump (tv lv : Value) (o name : ByteArray) (vs : List Vr) (cs : List Cl) (w : World) (h1 : VrAt w tv vs) (h2 : ClAt w lv cs) (hs : StSmall vs cs o) :
    Calls Try.prog 24 #[.agg #[tv, lv, .string o], .string name] w fun e w' => ∃ u x, e = .returned (.agg #[u, x, .string (St.dumped o name cs)]) ∧ VrIn w.heap.size w'.heap.size w' u vs ∧ ClIn w.heap.size w'.heap.size w' x cs ∧ Below w.heap.size w w' := by
  obtain ⟨O, hO⟩ : ∃ O, O = St.dumped o name cs := ⟨_, rfl⟩
  have HO : Hid (O = St.dumped o name cs) := hO
  rw [← hO]
  clear hO
  have HV : Hid (∀ W, Below w.heap.size w W → ClAt W lv cs) := fun W hb => h2.keep hb
  have HS : Hid (StSmall vs cs o) := hs
  have CW : Hid (∀ W, Below w.heap.size w W → Calls Try.prog 44 #[.agg #[tv, lv, .string o]] W fun e w' => ∃ u x, e = .returned (.agg #[u, x, .string o]) ∧ VrIn W.heap.size w'.heap.size w' u vs ∧ ClIn W.heap.size w'.heap.size w' x cs ∧ Below W.heap.size W w') := fun W hb => spCopy tv lv o vs cs W (h1.keep hb) (h2.keep hb) hs
  have ho : o.size ≤ 1048576 := hs.2.2.2.2
  have hl : cs.length ≤ 1048576 := hs.2.2.1
  obtain ⟨ad, c, rfl, -⟩ := h1
  obtain ⟨bd, d, rfl, -⟩ := h2
  obtain ⟨n, hn⟩ : ∃ n, n = vs.length := ⟨_, rfl⟩
  obtain ⟨m, hm⟩ : ∃ m, m = cs.length := ⟨_, rfl⟩
  rw [← hm] at HV hl
  rw [← hn, ← hm] at CW ⊢
  have HN : Hid (m = cs.length) := hm
  clear hn hm hs
  have HB : Hid (Below w.heap.size w ((w.alloc (.cells #[.slice ad n c, .slice bd m d, .string o] 27)).alloc (.cells #[.slice none 0 0, .slice none 0 0, .string ByteArray.empty] 27))) := ((Below.refl _ _).alloc (Nat.le_refl _) _).alloc (by simp) _
  have HZ0 : Hid _ := s2_0 w (.cells #[.slice ad n c, .slice bd m d, .string o] 27) (.cells #[.slice none 0 0, .slice none 0 0, .string ByteArray.empty] 27)
  have HZ1 : Hid _ := s2_1 w (.cells #[.slice ad n c, .slice bd m d, .string o] 27) (.cells #[.slice none 0 0, .slice none 0 0, .string ByteArray.empty] 27)
  have HZ : Hid (w.heap.size + 1 < ((w.alloc (.cells #[.slice ad n c, .slice bd m d, .string o] 27)).alloc (.cells #[.slice none 0 0, .slice none 0 0, .string ByteArray.empty] 27)).heap.size) := by show _ < _; simp
  go_enter Try.func24, Try.ntmps24
  go_wp2_with fail
  change Calls _ _ _ ((w.alloc (.cells #[.slice ad n c, .slice bd m d, .string o] 27)).alloc (.cells #[.slice none 0 0, .slice none 0 0, .string ByteArray.empty] 27)) _
  generalize ((w.alloc (.cells #[.slice ad n c, .slice bd m d, .string o] 27)).alloc (.cells #[.slice none 0 0, .slice none 0 0, .string ByteArray.empty] 27)) = W0 at *
  refine (CW.out W0 HB.out).mono ?_
  rintro e w1 ⟨u, x, rfl, hu, hx, hb1⟩
  have B1 : Hid (Below W0.heap.size W0 w1) := hb1
  have HU : Hid (VrIn W0.heap.size w1.heap.size w1 u vs) := hu
  have HX : Hid (ClIn W0.heap.size w1.heap.size w1 x cs) := hx
  obtain ⟨ua, uc, rfl, -⟩ := hu
  obtain ⟨xa, xc, rfl, -⟩ := hx
  have HSZ : Hid (w.heap.size + 1 < W0.heap.size ∧ W0.heap.size ≤ w1.heap.size) := ⟨HZ.out, B1.out.size⟩
  have G2 : Hid (Below w1.heap.size w1 (w1.alloc (.cells #[.slice ua vs.length uc, .slice xa cs.length xc, .string o] 27))) := (Below.refl _ _).alloc (Nat.le_refl _) _
  have HR2 : Hid _ := heap_alloc_new w1 (.cells #[.slice ua vs.length uc, .slice xa cs.length xc, .string o] 27)
  have hzo : w1.heap.size < (w1.alloc (.cells #[.slice ua vs.length uc, .slice xa cs.length xc, .string o] 27)).heap.size := by simp
  clear hb1 CW
  go_wp2
  generalize (w1.alloc (.cells #[.slice ua vs.length uc, .slice xa cs.length xc, .string o] 27)) = W2 at *
  obtain ⟨bO, hbO⟩ : ∃ bO, bO = w1.heap.size := ⟨_, rfl⟩
  rw [← hbO] at HR2 hzo ⊢
  have HBO : Hid (bO = w1.heap.size) := hbO
  have HZB : Hid (bO < W2.heap.size) := hzo
  clear hbO hzo
  go_loopw [6] (fun i wr => ∃ (j : Nat) (Oj : ByteArray), i = .int .i64 (j : Int) ∧ j ≤ m ∧ Oj.size ≤ 1048576 ∧ Hid (Below bO W2 wr) ∧ Hid (wr.heap[bO]? = some (.cells #[.slice ua vs.length uc, .slice xa cs.length xc, .string Oj] 27 (0, 0))) ∧ Hid (Oj = St.dumped o name (cs.take j))) (fun i _ => m - (intOf i).toNat)
  case atStart => exact ⟨0, o, rfl, by omega, ho, Below.refl _ _, HR2, by rw [List.take_zero]; rfl⟩
  case round =>
    clear HR2 ho
    obtain ⟨j, Oj, rfl, hj, hoj, HW, HR, HD⟩ := hrel
    have HBW : Hid (Below w.heap.size w wr) := ((HB.out.trans (B1.out.mono HB.out.size)).trans (G2.out.mono (by have := HSZ.out; omega))).trans (HW.out.mono (by have := HSZ.out; have := HBO.out; omega))
    have HX0 : Hid (wr.heap[w.heap.size]? = some (.cells #[.slice ad n c, .slice bd m d, .string o] 27 (0, 0))) := (HW.out.block _ (by have := HSZ.out; have := HBO.out; omega)).trans ((G2.out.block _ (by have := HSZ.out; omega)).trans ((B1.out.block _ (by have := HSZ.out; omega)).trans HZ0.out))
    have s1 : wr.cell? ⟨w.heap.size, 1, none⟩ = some (.slice bd m d) := (blk_cell HX0.out 1).trans rfl
    have r2 : wr.cell? ⟨bO, 2, none⟩ = some (.string Oj) := (blk_cell HR.out 2).trans rfl
    have f2 := blk_free HR.out 2
    by_cases hlt : j < m
    · obtain ⟨a', c', e', f⟩ := HV.out _ HBW.out
      obtain ⟨rfl, -, rfl⟩ : bd = a' ∧ m = cs.length ∧ d = c' := by simpa using e'
      obtain ⟨g, of, rfl, hg, hc⟩ := f (by rw [← HN.out]; omega)
      have t1 := hc j (by rw [← HN.out]; exact hlt)
      have hsm := HS.out.2.2.2.1 j (by rw [← HN.out]; exact hlt)
      obtain ⟨p, hp⟩ : ∃ p, p = cs.getD j Cl.no := ⟨_, rfl⟩
      rw [← hp] at t1 hsm
      have HTK : Hid (cs.take (j + 1) = cs.take j ++ [p]) := by
        show _ = _
        have hj2 : j < cs.length := by rw [← HN.out]; exact hlt
        rw [List.take_succ_eq_append_getElem hj2, hp]
        simp [hj2]
      clear hp hc f e'
      obtain ⟨p0, p1, p2⟩ := p
      simp only at t1 hsm
      obtain ⟨x0, x1, x2⟩ := t1
      obtain ⟨m0, m1, m2⟩ := hsm
      have i1 : (j : Int) < (m : Int) := by omega
      have i0 : (0 : Int) ≤ (j : Int) := by omega
      have hn1 : ¬ 9223372036854775807 < Oj.size + p1.size := by omega
      have hn2 : ¬ 9223372036854775807 < Oj.size + p1.size + 1 := by omega
      have hn3 : ¬ 9223372036854775807 < Oj.size + p1.size + 1 + p2.size := by omega
      have hn4 : ¬ 9223372036854775807 < Oj.size + p1.size + 1 + p2.size + 1 := by omega
      have hn5 : ¬ ((9223372036854775807 : Int) < (Oj.size : Int) + (p1.size : Int)) := by omega
      have hn6 : ¬ ((9223372036854775807 : Int) < (Oj.size : Int) + (p1.size : Int) + 1) := by omega
      have hn7 : ¬ ((9223372036854775807 : Int) < (Oj.size : Int) + (p1.size : Int) + 1 + (p2.size : Int)) := by omega
      have hn8 : ¬ ((9223372036854775807 : Int) < (Oj.size : Int) + (p1.size : Int) + 1 + (p2.size : Int) + 1) := by omega
      cases ht : (p0.toList == name.toList) with
      | true =>
        obtain ⟨O2, hO2⟩ : ∃ O2, O2 = St.cut3 (Oj ++ p1 ++ ⟨#[32]⟩ ++ p2 ++ ⟨#[10]⟩) := ⟨_, rfl⟩
        have CO : Hid (∀ W, Calls Try.prog 56 #[.string (Oj ++ p1 ++ ⟨#[32]⟩ ++ p2 ++ ⟨#[10]⟩)] W fun e w' => e = .returned (.string O2) ∧ w' = W) := fun W => by rw [hO2]; exact l08Out_any _ W
        have HD2 : Hid (O2 = St.dumped o name (cs.take (j + 1))) := by
          show _ = _
          rw [HTK.out, St.dumped_yes o name _ _ ht, hO2, HD.out]
        have hs2 : O2.size ≤ 1048576 := by rw [hO2]; have := St.cut3_size (Oj ++ p1 ++ ⟨#[32]⟩ ++ p2 ++ ⟨#[10]⟩); omega
        have HR3 : Hid ((wr.setCell ⟨bO, 2, none⟩ (.string O2)).heap[bO]? = some (.cells #[.slice ua vs.length uc, .slice xa cs.length xc, .string O2] 27 (0, 0))) := blk_set HR.out 2 (.string O2)
        clear hO2 HTK HD HR
        go_wp2_with fail
        go_region_law ((go_simp; go_at_call 56; refine (CO.out _).mono ?_; rintro e w5 ⟨rfl, rfl⟩; dsimp only))
        all_goals
          have HR4 : Hid ((wr.setCell ⟨bO, 2, none⟩ (.string O2)).drew.heap[bO]? = some (.cells #[.slice ua vs.length uc, .slice xa cs.length xc, .string O2] 27 (0, 0))) := HR3.out
          have HW4 : Hid (Below bO W2 (wr.setCell ⟨bO, 2, none⟩ (.string O2)).drew) := (HW.out.setCell (by exact Nat.le_refl _) _).drew
          clear CO HR3 x0 x1 x2 s1 r2 f2
          go_wp2
          go_roundw
          case rel => exact ⟨j + 1, O2, by go_num, by omega, hs2, HW4, HR4, HD2⟩
          case measure => simp [intOf]; omega
      | false =>
        have HD2 : Hid (Oj = St.dumped o name (cs.take (j + 1))) := by
          show _ = _
          rw [HTK.out, St.dumped_no o name _ _ ht]
          exact HD.out
        clear HTK HD
        go_wp2
        go_roundw
        case rel => exact ⟨j + 1, Oj, by go_num, by omega, hoj, HW, HR, HD2⟩
        case measure => simp [intOf]; omega
    · have hjm : j = m := by omega
      have HOJ : Hid (Oj = O) := by
        show _ = _
        rw [HD.out, HO.out, List.take_of_length_le (by rw [← HN.out]; omega)]
      have i1 : ¬ ((j : Int) < (m : Int)) := by omega
      have r0 : wr.cell? ⟨bO, 0, none⟩ = some (.slice ua vs.length uc) := (blk_cell HR.out 0).trans rfl
      have r1 : wr.cell? ⟨bO, 1, none⟩ = some (.slice xa cs.length xc) := (blk_cell HR.out 1).trans rfl
      have HK : Hid (wr.heap[w.heap.size + 1]? = some (.cells #[.slice none 0 0, .slice none 0 0, .string ByteArray.empty] 27 (0, 0))) := (HW.out.block _ (by have := HSZ.out; have := HBO.out; omega)).trans ((G2.out.block _ (by have := HSZ.out; omega)).trans ((B1.out.block _ (by have := HSZ.out; omega)).trans HZ1.out))
      have y0 : wr.cell? ⟨w.heap.size + 1, 0, none⟩ = some (.slice none 0 0) := (blk_cell HK.out 0).trans rfl
      have y1 : wr.cell? ⟨w.heap.size + 1, 1, none⟩ = some (.slice none 0 0) := (blk_cell HK.out 1).trans rfl
      have y2 : wr.cell? ⟨w.heap.size + 1, 2, none⟩ = some (.string ByteArray.empty) := (blk_cell HK.out 2).trans rfl
      have g0 := blk_free HK.out 0
      have g1 := blk_free HK.out 1
      have g2 := blk_free HK.out 2
      have HSW : Hid (bO < wr.heap.size) := blk_lt HR.out
      clear hjm
      go_wp2_with fail
      refine bodyPost_ret (results_cell_row (p := 4) (ty := 27) rfl _ _ (w.heap.size + 1) 27 _ (0, 0) _ rfl (blk_set (blk_set (blk_set HK.out 0 _) 1 _) 2 _) Try.underlying27 rfl (by kernel_rfl)) rfl ?_
      have hsz := HSZ.out
      have hbo := HBO.out
      have hsw := HSW.out
      have hk : ∀ b, W0.heap.size ≤ b → b < w1.heap.size → (((wr.setCell ⟨w.heap.size + 1, 0, none⟩ (.slice ua vs.length uc)).setCell ⟨w.heap.size + 1, 1, none⟩ (.slice xa cs.length xc)).setCell ⟨w.heap.size + 1, 2, none⟩ (.string Oj)).heap[b]? = w1.heap[b]? := fun b hb hb2 => by
        rw [Below.heap_setCell _ _ _ _ (by show b ≠ w.heap.size + 1; omega), Below.heap_setCell _ _ _ _ (by show b ≠ w.heap.size + 1; omega), Below.heap_setCell _ _ _ _ (by show b ≠ w.heap.size + 1; omega)]
        exact (HW.out.block b (by omega)).trans (G2.out.block b hb2)
      refine ⟨_, _, by rw [HOJ.out]; rfl, ?_, ?_, ?_⟩
      · exact (HU.out.keep (fun b hb hb2 => hk b hb hb2)).wide (by omega) (by simp [World.setCell]; omega)
      · exact (HX.out.keep (fun b hb hb2 => hk b hb hb2)).wide (by omega) (by simp [World.setCell]; omega)
      · exact ((HBW.out.setCell (by show _ ≤ w.heap.size + 1; omega) _).setCell (by show _ ≤ w.heap.size + 1; omega) _).setCell (by show _ ≤ w.heap.size + 1; omega) _
end Go.Proofs.Ytjohhledpjmffaa
