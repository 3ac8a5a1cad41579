/- The specification of ShowProgram. The specification of ShowProgram: a right program that is not too large. What ShowProgram of the program answers: programs that are not right, or too large. -/
import Derived.Test.YtknojhmnadmilaaGreatDoorZap
import Derived.Test.YtknojhmnadmilaaGreatDoorTrA
import Derived.Test.YtknojhmnadmilaaGreatDoorTrH
import Derived.Test.YtknojhmnadmilaaGreatDoorTrI
import Derived.Test.YtknojhmnadmilaaGreatDoorZav
namespace Go.Proofs.YtknojhmnadmilaaGreatDoor
section PartShP
open Go.RowKit

set_option maxRecDepth 100000 in
set_option maxHeartbeats 4000000 in
/-- A program that is not right, or too large, is not shown. -/
theorem showProg_no (v rv : Value) (ps : List Pi) (rs : List Pg.Rl) (w : World) (h : PcsAt w v ps) (hr : RlsAt w rv rs) (hl : ps.length ≤ 1048576) (hl2 : rs.length ≤ 1048576) (hsm : Small ps ps.length) (hno : Pg.ok ps rs = false) :
    Calls Tryz.prog 5 #[.agg #[v, rv]] w fun e w' => e = .returned (.tuple #[.string ⟨#[]⟩, .bool false]) ∧ Below w.heap.size w w' := by
  have HO : Hid (∀ W, Below w.heap.size w W → Calls Tryz.prog 11 #[.agg #[v, rv]] W fun e w' => e = .returned (.bool false) ∧ Below W.heap.size W w') := fun W hb => by rw [← hno]; exact spProgOk v rv ps rs W (h.keep hb) (hr.keep hb) hl hl2 hsm
  clear h hr hsm hno
  have HB0 : Hid (Below w.heap.size w (w.alloc (.cells #[v, rv] 32))) := (Below.refl _ _).alloc (Nat.le_refl _) _
  go_enter Tryz.func5, Tryz.ntmps5
  go_wp2_with fail
  refine (HO.out _ HB0.out).mono ?_
  rintro e a2 ⟨rfl, hb2⟩
  have hbf : Below w.heap.size w a2 := HB0.out.trans (hb2.mono HB0.out.size)
  go_wp2
  go_ret2
  exact ⟨rfl, hbf⟩

set_option maxRecDepth 100000 in
set_option maxHeartbeats 4000000 in
theorem showProg_big (v rv : Value) (w : World) (HO : Hid (∀ W, Below w.heap.size w W → Calls Tryz.prog 11 #[.agg #[v, rv]] W fun e w' => e = .returned (.bool true) ∧ Below W.heap.size W w')) (T : Nat) (HT : Hid (∀ W, Below w.heap.size w W → Calls Tryz.prog 12 #[.agg #[v, rv]] W fun e w' => e = .returned (.int .i64 (T : Int)) ∧ Below W.heap.size W w')) (h2 : 2000 < T) :
    Calls Tryz.prog 5 #[.agg #[v, rv]] w fun e w' => e = .returned (.tuple #[.string ⟨#[]⟩, .bool false]) ∧ Below w.heap.size w w' := by
  have HB0 : Hid (Below w.heap.size w (w.alloc (.cells #[v, rv] 32))) := (Below.refl _ _).alloc (Nat.le_refl _) _
  obtain ⟨m0, m1⟩ := blk2 (g := w.heap.size) (show (w.alloc (.cells #[v, rv] 32)).heap[w.heap.size]? = some (.cells #[v, rv] 32 (0, 0)) from (by show (w.heap.push _)[w.heap.size]? = _; rw [Array.getElem?_push, if_pos rfl]))
  have d2 : decide ((2000 : Int) < (T : Int)) = true := decide_eq_true (by omega)
  go_enter Tryz.func5, Tryz.ntmps5
  go_wp2_with fail
  refine (HO.out _ HB0.out).mono ?_
  rintro e a2 ⟨rfl, hb2⟩
  have hbf : Below w.heap.size w a2 := HB0.out.trans (hb2.mono HB0.out.size)
  have r0 := (hb2.cell (World.block_lt_of_cell? _ _ m0)).trans m0
  have r1 := (hb2.cell (World.block_lt_of_cell? _ _ m1)).trans m1
  go_wp2_with fail
  refine (HT.out _ hbf).mono ?_
  rintro e a3 ⟨rfl, hb3⟩
  have hbg : Below w.heap.size w a3 := hbf.trans (hb3.mono hbf.size)
  go_wp2
  go_ret2
  exact ⟨rfl, hbg⟩
end PartShP
section PartShQ
open Go.RowKit

set_option maxRecDepth 100000 in
set_option maxHeartbeats 1000000 in
theorem showProg_yes (v rv : Value) (ps : List Pi) (rs : List Pg.Rl) (w : World) (h : PcsAt w v ps) (hr : RlsAt w rv rs) (hl : ps.length ≤ 200) (hl2 : rs.length ≤ 12) (hn : ∀ i, i < ps.length → Pg.node ps i = true) (hrl : ∀ r ∈ rs, Pg.rule ps r = true) (hs : Pg.total ps rs ≤ 2000) (HO : Hid (∀ W, Below w.heap.size w W → Calls Tryz.prog 11 #[.agg #[v, rv]] W fun e w' => e = .returned (.bool true) ∧ Below W.heap.size W w')) :
    Calls Tryz.prog 5 #[.agg #[v, rv]] w fun e w' => e = .returned (.tuple #[.string ⟨(Sh.prog ps rs).toArray⟩, .bool true]) ∧ Below w.heap.size w w' := by
  have HT : Hid (∀ W, Below w.heap.size w W → Calls Tryz.prog 12 #[.agg #[v, rv]] W fun e w' => e = .returned (.int .i64 (Pg.total ps rs : Int)) ∧ Below W.heap.size W w') := fun W hb => spSize v rv ps rs W (h.keep hb) (hr.keep hb) hl hl2 hn hrl
  obtain ⟨ra, rc, rfl, fr⟩ := hr
  have HF : Hid _ := fr
  have HX : Hid (∀ q, q < rs.length → 0 ≤ (rs.getD q Pg.Rl.no).cond → ∀ W, Below w.heap.size w W → Calls Tryz.prog 13 #[.agg #[v, .slice ra rs.length rc], .int .i64 (rs.getD q Pg.Rl.no).cond] W fun e w' => e = .returned (.string ⟨(Sh.exC ps (rs.getD q Pg.Rl.no).cond.toNat).toArray⟩) ∧ Below W.heap.size W w') := fun q hq h0 W hW => by
    have hmem : rs.getD q Pg.Rl.no ∈ rs := by
      rw [List.getD_eq_getElem?_getD, List.getElem?_eq_getElem hq]
      exact List.getElem_mem _
    obtain ⟨-, -, -, -, b⟩ := Sh.rule_has (hrl _ hmem)
    obtain ⟨-, d1, d2⟩ := b h0
    have hle := (Sh.rule_len hn (hrl _ hmem) (Nat.le_trans (Sh.sz_in ps rs _ hmem) hs)).2.2 h0
    have := spShowEx v ps ra rs.length rc w h hl hn _ d1 d2 (Nat.le_trans hle (by decide)) W hW
    rwa [Int.toNat_of_nonneg h0] at this
  have HS : Hid (∀ q, q < rs.length → ∀ W, Below w.heap.size w W → Calls Tryz.prog 14 #[.agg #[v, .slice ra rs.length rc], .int .i64 (rs.getD q Pg.Rl.no).act] W fun e w' => e = .returned (.string ⟨(Sh.st ps ((rs.getD q Pg.Rl.no).act.toNat + 1) (rs.getD q Pg.Rl.no).act.toNat).toArray⟩) ∧ Below W.heap.size W w') := fun q hq W hW => by
    have hmem : rs.getD q Pg.Rl.no ∈ rs := by
      rw [List.getD_eq_getElem?_getD, List.getElem?_eq_getElem hq]
      exact List.getElem_mem _
    obtain ⟨-, a0, a1, a2, -⟩ := Sh.rule_has (hrl _ hmem)
    have hle := (Sh.rule_len hn (hrl _ hmem) (Nat.le_trans (Sh.sz_in ps rs _ hmem) hs)).2.1
    have := spShowSt v ps ra rs.length rc w h hl hn _ a1 a2 (Nat.le_trans hle (by decide)) W hW
    rwa [Int.toNat_of_nonneg a0] at this
  have HB0 : Hid (Below w.heap.size w (w.alloc (.cells #[v, .slice ra rs.length rc] 32))) := (Below.refl _ _).alloc (Nat.le_refl _) _
  obtain ⟨m0, m1⟩ := blk2 (g := w.heap.size) (show (w.alloc (.cells #[v, .slice ra rs.length rc] 32)).heap[w.heap.size]? = some (.cells #[v, .slice ra rs.length rc] 32 (0, 0)) from (by show (w.heap.push _)[w.heap.size]? = _; rw [Array.getElem?_push, if_pos rfl]))
  have HSZ : Hid (w.heap.size < (w.alloc (.cells #[v, .slice ra rs.length rc] 32)).heap.size) := by show _ < _; simp
  have HLEN : Hid (∀ q, (Sh.prog ps (rs.take q)).length ≤ 200000) := fun q => by
    have a := Sh.prog_mono ps rs q
    have b := Sh.prog_len hn rs hrl hs
    omega
  have d2 : decide ((2000 : Int) < (Pg.total ps rs : Int)) = false := decide_eq_false (by omega)
  generalize Pg.total ps rs = T at *
  obtain ⟨k, hk⟩ : ∃ k, k = rs.length := ⟨_, rfl⟩
  rw [← hk] at HF HX HS HB0 m0 m1 HSZ HO HT hl2 ⊢
  have HK : Hid (k = rs.length) := hk
  have HRL : Hid (∀ r ∈ rs, Pg.rule ps r = true) := hrl
  obtain ⟨va, vc, rfl, -⟩ := h
  generalize ps.length = n at *
  clear fr hn hk hrl hl hs
  go_enter Tryz.func5, Tryz.ntmps5
  go_wp2_with fail
  refine (HO.out _ HB0.out).mono ?_
  rintro e a2 ⟨rfl, hb2⟩
  have hbf : Below w.heap.size w a2 := HB0.out.trans (hb2.mono HB0.out.size)
  have r0 := (hb2.cell (World.block_lt_of_cell? _ _ m0)).trans m0
  have r1 := (hb2.cell (World.block_lt_of_cell? _ _ m1)).trans m1
  go_wp2_with fail
  refine (HT.out _ hbf).mono ?_
  rintro e a3 ⟨rfl, hb3⟩
  have HBG : Hid (Below w.heap.size w a3) := hbf.trans (hb3.mono hbf.size)
  have t0 := (hb3.cell (World.block_lt_of_cell? _ _ r0)).trans r0
  have t1 := (hb3.cell (World.block_lt_of_cell? _ _ r1)).trans r1
  clear hb3 hb2 hbf r0 r1 m0 m1 HO HT
  go_wp2_with fail
  clear d2
  have HA3 : Hid (∀ W, Below a3.heap.size a3 W → W.cell? ⟨w.heap.size, 0, none⟩ = some (.slice va n vc) ∧ W.cell? ⟨w.heap.size, 1, none⟩ = some (.slice ra k rc) ∧ Below w.heap.size w W) := fun W hb => ⟨(hb.cell (World.block_lt_of_cell? _ _ t0)).trans t0, (hb.cell (World.block_lt_of_cell? _ _ t1)).trans t1, HBG.out.trans (hb.mono HBG.out.size)⟩
  clear t0 t1 HSZ HB0 HBG
  go_loopw [5, 4] (fun i x wr => ∃ q : Nat, i = .int .i64 (q : Int) ∧ x = .string ⟨(Sh.prog ps (rs.take q)).toArray⟩ ∧ q ≤ k ∧ Hid (Below a3.heap.size a3 wr)) (fun i _ _ => k - (intOf i).toNat)
  case atStart => exact ⟨0, rfl, rfl, by omega, Below.refl _ _⟩
  case round =>
    obtain ⟨q, rfl, rfl, hq, HW⟩ := hrel
    obtain ⟨z0, z1, hbw⟩ := HA3.out _ HW.out
    by_cases hlt : q < k
    · have hq1 : (q : Int) < (k : Int) := by omega
      have hq0 : (0 : Int) ≤ (q : Int) := by omega
      obtain ⟨rb, ro, rfl, hrb, hrc⟩ := HF.out (by omega)
      obtain ⟨c0, c1, c2⟩ := hrc q hlt
      have g0 := (hbw.cell hrb).trans c0
      have g1 := (hbw.cell hrb).trans c1
      have g2 := (hbw.cell hrb).trans c2
      have HNEXT : Hid (Sh.prog ps (rs.take (q + 1)) = Sh.prog ps (rs.take q) ++ Sh.rule ps (rs.getD q Pg.Rl.no)) := Sh.prog_take ps rs q (by rw [← HK.out]; exact hlt)
      have hlen1 := HLEN.out (q + 1)
      rw [HNEXT.out] at hlen1
      have hmem : rs.getD q Pg.Rl.no ∈ rs := by
        rw [List.getD_eq_getElem?_getD, List.getElem?_eq_getElem (by rw [← HK.out]; exact hlt)]
        exact List.getElem_mem _
      have hhas := Sh.rule_has (HRL.out _ hmem)
      have HXQ := HX.out q hlt
      have HSQ := HS.out q hlt
      unfold Sh.rule Sh.head at HNEXT hlen1
      generalize rs.getD q Pg.Rl.no = rl at *
      obtain ⟨ra0, rc0, rd0⟩ := rl
      simp only at c0 c1 c2 g0 g1 g2 HNEXT hlen1 hhas HXQ HSQ
      obtain ⟨hw13, hd0, -, -, hcc⟩ := hhas
      generalize Sh.prog ps (rs.take q) = P at *
      generalize Sh.st ps (rd0.toNat + 1) rd0.toNat = D at *
      clear hrc c0 c1 c2 hmem HX HS HLEN HF HRL hrb
      have HBA : Hid (Below a3.heap.size a3 (wr.alloc (.cells #[.int .i64 ra0, .int .i64 rc0, .int .i64 rd0] 41))) := HW.out.alloc HW.out.size _
      have HSQ2 : Hid (∀ W, Below a3.heap.size a3 W → Calls Tryz.prog 14 #[.agg #[.slice va n vc, .slice (some ⟨rb, ro, none⟩) k rc], .int .i64 rd0] W fun e w' => e = .returned (.string ⟨D.toArray⟩) ∧ Below W.heap.size W w') := fun W hb => HSQ W (HA3.out W hb).2.2
      have HXQ2 : Hid (0 ≤ rc0 → ∀ W, Below a3.heap.size a3 W → Calls Tryz.prog 13 #[.agg #[.slice va n vc, .slice (some ⟨rb, ro, none⟩) k rc], .int .i64 rc0] W fun e w' => e = .returned (.string ⟨(Sh.exC ps rc0.toNat).toArray⟩) ∧ Below W.heap.size W w') := fun h0 W hb => HXQ h0 W (HA3.out W hb).2.2
      have HCC : Hid (0 ≤ rc0 → ra0 = 2) := fun h0 => (hcc h0).1
      clear HSQ HXQ hcc
      obtain ⟨y0, y1, -⟩ := HA3.out _ HBA.out
      have hr2 := (tcells3 (heap_alloc_new wr (.cells #[.int .i64 ra0, .int .i64 rc0, .int .i64 rd0] 41))).2.2
      by_cases h1 : ra0 = 1
      · subst h1
        have HNX : Hid (Sh.prog ps (rs.take (q + 1)) = P ++ ([66, 69, 71, 73, 78, 32] ++ (D ++ [10]))) := HNEXT.out.trans (by rw [if_pos rfl])
        have hln : (P ++ ([66, 69, 71, 73, 78, 32] ++ (D ++ [10]))).length ≤ 200000 := by rw [← HNX.out, HNEXT.out]; exact hlen1
        simp only [List.length_append, List.length_cons, List.length_nil] at hln
        have n0 : ¬ 9223372036854775807 < P.length + 6 := by omega
        have n1 : ¬ 9223372036854775807 < P.length + 6 + D.length := by omega
        have n2 : ¬ 9223372036854775807 < P.length + 6 + D.length + 1 := by omega
        clear HXQ2 HCC hlen1 hln HNEXT
        go_wp2_with fail
        refine (HSQ2.out _ HBA.out).mono ?_
        rintro e w2 ⟨rfl, hb2⟩
        have HB2 : Hid (Below a3.heap.size a3 w2) := HBA.out.trans (hb2.mono HBA.out.size)
        clear hb2 HSQ2
        go_wp2
        go_roundw
        case rel =>
          refine ⟨q + 1, by go_num, ?_, by omega, HB2.out⟩
          apply congrArg Value.string
          apply ByteArray.ext
          rw [HNX.out]
          simp
        case measure => simp [intOf]; omega
      by_cases h3 : ra0 = 3
      · subst h3
        have HNX : Hid (Sh.prog ps (rs.take (q + 1)) = P ++ ([69, 78, 68, 32] ++ (D ++ [10]))) := HNEXT.out.trans (by rw [if_neg (by decide), if_pos rfl])
        have hln : (P ++ ([69, 78, 68, 32] ++ (D ++ [10]))).length ≤ 200000 := by rw [← HNX.out, HNEXT.out]; exact hlen1
        simp only [List.length_append, List.length_cons, List.length_nil] at hln
        have n0 : ¬ 9223372036854775807 < P.length + 4 := by omega
        have n1 : ¬ 9223372036854775807 < P.length + 4 + D.length := by omega
        have n2 : ¬ 9223372036854775807 < P.length + 4 + D.length + 1 := by omega
        clear HXQ2 HCC hlen1 hln HNEXT
        go_wp2_with fail
        refine (HSQ2.out _ HBA.out).mono ?_
        rintro e w2 ⟨rfl, hb2⟩
        have HB2 : Hid (Below a3.heap.size a3 w2) := HBA.out.trans (hb2.mono HBA.out.size)
        clear hb2 HSQ2
        go_wp2
        go_roundw
        case rel =>
          refine ⟨q + 1, by go_num, ?_, by omega, HB2.out⟩
          apply congrArg Value.string
          apply ByteArray.ext
          rw [HNX.out]
          simp
        case measure => simp [intOf]; omega
      have e1 : (ra0 == 1) = false := by simpa using h1
      have e3 : (ra0 == 3) = false := by simpa using h3
      by_cases hc : 0 ≤ rc0
      · have dc : decide ((0 : Int) ≤ rc0) = true := decide_eq_true hc
        have HX2 : Hid (∀ W, Below a3.heap.size a3 W → Calls Tryz.prog 13 #[.agg #[.slice va n vc, .slice (some ⟨rb, ro, none⟩) k rc], .int .i64 rc0] W fun e w' => e = .returned (.string ⟨(Sh.exC ps rc0.toNat).toArray⟩) ∧ Below W.heap.size W w') := HXQ2.out hc
        have HNX : Hid (Sh.prog ps (rs.take (q + 1)) = P ++ ((Sh.exC ps rc0.toNat ++ [32]) ++ (D ++ [10]))) := HNEXT.out.trans (by rw [if_neg h1, if_neg h3, if_pos hc])
        generalize Sh.exC ps rc0.toNat = E at *
        have hln : (P ++ ((E ++ [32]) ++ (D ++ [10]))).length ≤ 200000 := by rw [← HNX.out, HNEXT.out]; exact hlen1
        simp only [List.length_append, List.length_cons, List.length_nil] at hln
        have n0 : ¬ 9223372036854775807 < P.length + E.length := by omega
        have n1 : ¬ 9223372036854775807 < P.length + E.length + 1 := by omega
        have n2 : ¬ 9223372036854775807 < P.length + E.length + 1 + D.length := by omega
        have n3 : ¬ 9223372036854775807 < P.length + E.length + 1 + D.length + 1 := by omega
        clear HXQ2 HCC hlen1 hln HNEXT h1 h3 hc
        go_wp2_with fail
        refine (HX2.out _ HBA.out).mono ?_
        rintro e w1 ⟨rfl, hb1⟩
        have HB1 : Hid (Below a3.heap.size a3 w1) := HBA.out.trans (hb1.mono HBA.out.size)
        have r2 := (hb1.cell (World.block_lt_of_cell? _ _ hr2)).trans hr2
        clear hb1 HX2 hr2 y0 y1
        obtain ⟨y0, y1, -⟩ := HA3.out _ HB1.out
        go_wp2_with fail
        refine (HSQ2.out _ HB1.out).mono ?_
        rintro e w2 ⟨rfl, hb2⟩
        have HB2 : Hid (Below a3.heap.size a3 w2) := HB1.out.trans (hb2.mono HB1.out.size)
        clear hb2 HSQ2
        go_wp2
        go_roundw
        case rel =>
          refine ⟨q + 1, by go_num, ?_, by omega, HB2.out⟩
          apply congrArg Value.string
          apply ByteArray.ext
          rw [HNX.out]
          simp
        case measure => simp [intOf]; omega
      · have dc : decide ((0 : Int) ≤ rc0) = false := decide_eq_false hc
        have HNX : Hid (Sh.prog ps (rs.take (q + 1)) = P ++ ([] ++ (D ++ [10]))) := HNEXT.out.trans (by rw [if_neg h1, if_neg h3, if_neg hc])
        have hln : (P ++ ([] ++ (D ++ [10]))).length ≤ 200000 := by rw [← HNX.out, HNEXT.out]; exact hlen1
        simp only [List.length_append, List.length_cons, List.length_nil] at hln
        have n0 : ¬ 9223372036854775807 < P.length + D.length := by omega
        have n1 : ¬ 9223372036854775807 < P.length + D.length + 1 := by omega
        clear HXQ2 HCC hlen1 hln HNEXT h1 h3 hc
        go_wp2_with fail
        refine (HSQ2.out _ HBA.out).mono ?_
        rintro e w2 ⟨rfl, hb2⟩
        have HB2 : Hid (Below a3.heap.size a3 w2) := HBA.out.trans (hb2.mono HBA.out.size)
        clear hb2 HSQ2
        go_wp2
        go_roundw
        case rel =>
          refine ⟨q + 1, by go_num, ?_, by omega, HB2.out⟩
          apply congrArg Value.string
          apply ByteArray.ext
          rw [HNX.out]
          simp
        case measure => simp [intOf]; omega
    · obtain rfl : q = k := by omega
      have dq : ¬ ((q : Int) < (q : Int)) := by omega
      have HFULL : Hid (rs.take q = rs) := List.take_of_length_le (by rw [HK.out]; exact Nat.le_refl _)
      have HBE : Hid (Below w.heap.size w wr) := hbw
      clear HX HS HLEN HF HRL hbw
      go_wp2
      go_ret2
      exact ⟨by rw [HFULL.out]; rfl, HBE.out⟩
end PartShQ
section PartTrJ
open Go.RowKit

/-- What is shown of a program, and whether it is. -/
def Sh.shown (ps : List Pi) (rs : List Pg.Rl) : List UInt8 × Bool := if Pg.ok ps rs = true ∧ Pg.total ps rs ≤ 2000 then (Sh.prog ps rs, true) else ([], false)
theorem ok_parts {ps : List Pi} {rs : List Pg.Rl} (h : Pg.ok ps rs = true) : ps.length ≤ 200 ∧ rs.length ≤ 12 ∧ (∀ i, i < ps.length → Pg.node ps i = true) ∧ ∀ r ∈ rs, Pg.rule ps r = true := by
  unfold Pg.ok at h
  simp only [Bool.and_eq_true, decide_eq_true_eq, List.all_eq_true, List.mem_range] at h
  exact ⟨h.1.1.1, h.1.1.2, h.1.2, h.2⟩

set_option maxRecDepth 100000 in
theorem specShow_any (v rv : Value) (ps : List Pi) (rs : List Pg.Rl) (w : World) (h : PcsAt w v ps) (hr : RlsAt w rv rs) (hl : ps.length ≤ 1048576) (hl2 : rs.length ≤ 1048576) (hsm : Small ps ps.length) :
    Calls Tryz.prog 5 #[.agg #[v, rv]] w fun e w' => e = .returned (.tuple #[.string ⟨(Sh.shown ps rs).1.toArray⟩, .bool (Sh.shown ps rs).2]) ∧ Below w.heap.size w w' := by
  by_cases hok : Pg.ok ps rs = true
  · obtain ⟨a1, a2, a3, a4⟩ := ok_parts hok
    have HO : Hid (∀ W, Below w.heap.size w W → Calls Tryz.prog 11 #[.agg #[v, rv]] W fun e w' => e = .returned (.bool true) ∧ Below W.heap.size W w') := fun W hb => by rw [← hok]; exact spProgOk v rv ps rs W (h.keep hb) (hr.keep hb) hl hl2 hsm
    by_cases ht : Pg.total ps rs ≤ 2000
    · rw [show Sh.shown ps rs = (Sh.prog ps rs, true) by unfold Sh.shown; rw [if_pos ⟨hok, ht⟩]]
      exact showProg_yes v rv ps rs w h hr a1 a2 a3 a4 ht HO
    · rw [show Sh.shown ps rs = ([], false) by unfold Sh.shown; rw [if_neg (fun hh => ht hh.2)]]
      exact showProg_big v rv w HO (Pg.total ps rs) (fun W hb => spSize v rv ps rs W (h.keep hb) (hr.keep hb) a1 a2 a3 a4) (by omega)
  · rw [show Sh.shown ps rs = ([], false) by unfold Sh.shown; rw [if_neg (fun hh => hok hh.1)]]
    exact showProg_no v rv ps rs w h hr hl hl2 hsm (by simpa using hok)

set_option maxRecDepth 100000 in
set_option maxHeartbeats 1000000 in
theorem implShow_no (v rv : Value) (ps : List Pi) (rs : List Pg.Rl) (w : World) (h : PcsAt w v ps) (hr : RlsAt w rv rs) (hl : ps.length ≤ 1048576) (hl2 : rs.length ≤ 1048576) (hsm : Small ps ps.length) (hno : Pg.ok ps rs = false) :
    Calls Tryz.prog 7 #[.agg #[v, rv]] w fun e w' => e = .returned (.tuple #[.string ⟨#[]⟩, .bool false]) ∧ Below w.heap.size w w' := by
  have HO : Hid (∀ W, Below w.heap.size w W → Calls Tryz.prog 17 #[.agg #[v, rv]] W fun e w' => e = .returned (.bool false) ∧ Below W.heap.size W w') := fun W hb => by rw [← hno]; exact implProgOk v rv ps rs W (h.keep hb) (hr.keep hb) hl hl2 hsm
  obtain ⟨va, vc, rfl, -⟩ := h
  obtain ⟨ra, rc, rfl, -⟩ := hr
  clear hsm hno
  have HB0 : Hid (Below w.heap.size w (w.alloc (.cells #[.slice va ps.length vc, .slice ra rs.length rc] 32))) := (Below.refl _ _).alloc (Nat.le_refl _) _
  go_enter Tryz.func7, Tryz.ntmps7
  go_wp2_with fail
  refine (HO.out _ HB0.out).mono ?_
  rintro e a2 ⟨rfl, hb2⟩
  have hbf : Below w.heap.size w a2 := HB0.out.trans (hb2.mono HB0.out.size)
  go_wp2
  go_ret2
  exact ⟨rfl, hbf⟩

set_option maxRecDepth 100000 in
set_option maxHeartbeats 1000000 in
theorem implShow_big (v rv : Value) (ps : List Pi) (rs : List Pg.Rl) (w : World) (h : PcsAt w v ps) (hr : RlsAt w rv rs) (hl : ps.length ≤ 1048576) (hl2 : rs.length ≤ 1048576) (hsm : Small ps ps.length) (hok : Pg.ok ps rs = true) (h2 : 2000 < Pg.total ps rs) :
    Calls Tryz.prog 7 #[.agg #[v, rv]] w fun e w' => e = .returned (.tuple #[.string ⟨#[]⟩, .bool false]) ∧ Below w.heap.size w w' := by
  obtain ⟨a1, a2, a3, a4⟩ := ok_parts hok
  have HO : Hid (∀ W, Below w.heap.size w W → Calls Tryz.prog 17 #[.agg #[v, rv]] W fun e w' => e = .returned (.bool true) ∧ Below W.heap.size W w') := fun W hb => by rw [← hok]; exact implProgOk v rv ps rs W (h.keep hb) (hr.keep hb) hl hl2 hsm
  have HT : Hid (∀ W, Below w.heap.size w W → Calls Tryz.prog 18 #[.agg #[v, rv]] W fun e w' => e = .returned (.int .i64 (Pg.totc ps rs : Int)) ∧ Below W.heap.size W w') := fun W hb => comesTo_any v rv ps rs W (h.keep hb) (hr.keep hb) a1 a2 a3 a4
  replace h2 : 2000 < Pg.totc ps rs := (Pg.totc_iff ps rs).2 h2
  generalize Pg.totc ps rs = T at *
  obtain ⟨va, vc, rfl, -⟩ := h
  obtain ⟨ra, rc, rfl, -⟩ := hr
  generalize ps.length = n at *
  generalize rs.length = k at *
  clear hsm hok a1 a2 a3 a4
  have HB0 : Hid (Below w.heap.size w (w.alloc (.cells #[.slice va n vc, .slice ra k rc] 32))) := (Below.refl _ _).alloc (Nat.le_refl _) _
  obtain ⟨m0, m1⟩ := tcells2 (heap_alloc_new w (.cells #[.slice va n vc, .slice ra k rc] 32))
  have d2 : decide ((2000 : Int) < (T : Int)) = true := decide_eq_true (by omega)
  go_enter Tryz.func7, Tryz.ntmps7
  go_wp2_with fail
  refine (HO.out _ HB0.out).mono ?_
  rintro e a2 ⟨rfl, hb2⟩
  have HBF : Hid (Below w.heap.size w a2) := HB0.out.trans (hb2.mono HB0.out.size)
  have r0 := (hb2.cell (World.block_lt_of_cell? _ _ m0)).trans m0
  have r1 := (hb2.cell (World.block_lt_of_cell? _ _ m1)).trans m1
  clear hb2 m0 m1 HO
  go_wp2_with fail
  refine (HT.out _ HBF.out).mono ?_
  rintro e a3 ⟨rfl, hb3⟩
  have hbg : Below w.heap.size w a3 := HBF.out.trans (hb3.mono HBF.out.size)
  go_wp2
  go_ret2
  exact ⟨rfl, hbg⟩
end PartTrJ
end Go.Proofs.YtknojhmnadmilaaGreatDoor
