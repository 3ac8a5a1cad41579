/- What ShowProgram of the program answers: a right program that is not too large. -/
import Derived.Test.YtknojhmnadmilaaGreatDoorZaw
import Derived.Shelf.Strings.BuilderK
namespace Go.Proofs.YtknojhmnadmilaaGreatDoor
open Go.RowKit

/-- The builder in block b holds the text l. -/
def Bld (b : Nat) (w : World) (l : List UInt8) : Prop := Lib.IsBuilderF 50 5 b b (Lib.byteCells l) w
theorem rowF_keep {B : Nat} {w w' : World} {v : Value} {n : Nat} {xs : List Value} (h : w.ownsRowF B 5 1 v n xs) (hb : Below w.heap.size w w') : w'.ownsRowF B 5 1 v n xs := by
  refine ⟨h.1, ?_⟩
  rcases h.2 with hn | ⟨g, cap, cur, fz, rfl, h1, hg, rest⟩
  · exact .inl hn
  · refine .inr ⟨g, cap, cur, fz, rfl, h1, ?_, rest⟩
    rw [hb.block g (Array.getElem?_eq_some_iff.1 hg).1]
    exact hg
theorem Bld.keep {b : Nat} {w w' : World} {l : List UInt8} (h : Bld b w l) (hb : Below w.heap.size w w') : Bld b w' l := by
  have k : ∀ {p : Value}, Lib.BuilderAtF 50 5 b b p (Lib.byteCells l) w → Lib.BuilderAtF 50 5 b b p (Lib.byteCells l) w' := by
    intro p h
    obtain ⟨h1, v, h2, h3, h4⟩ := h
    exact ⟨h1, v, (hb.block b (Array.getElem?_eq_some_iff.1 h2).1).trans h2, rowF_keep h3 hb, h4⟩
  rcases h with h | h
  · exact .inl (k h)
  · exact .inr (k h)
theorem Bld.lt {b : Nat} {w : World} {l : List UInt8} (h : Bld b w l) : b < w.heap.size := by
  rcases h with h | h
  · exact h.lt
  · exact h.lt
theorem writeStr (b : Nat) (l : List UInt8) (s : List UInt8) (w : World) (h : Bld b w l) (hl : l.length + s.length ≤ 1000000) :
    Calls Tryz.prog 20 #[.pointer (some ⟨b, 0, none⟩), .string ⟨s.toArray⟩] w fun e w' => e = .returned (.tuple #[.int .i64 (s.length : Int), .nilIface]) ∧ Bld b w' (l ++ s) ∧ Below b w w' ∧ Lib.OthersKept 5 (some b) w w' := by
  have hlt := h.lt
  have := Any.Builder_WriteString_k (P := Tryz.prog) (ρ := Tryz.lays156_ren) { Tryz.lays156 with } Tryz.Builder_Extra_156 b b (Lib.byteCells l) ⟨s.toArray⟩ w h (by rw [Lib.byteCells_length]; simp [ByteArray.size]; omega) (by omega)
  refine this.mono ?_
  rintro e w' ⟨rfl, h1, h2, h3⟩
  refine ⟨by simp [ByteArray.size], ?_, h2, h3⟩
  have e2 : Lib.strCells ⟨s.toArray⟩ = Lib.byteCells s := by rw [Lib.strCells_eq]
  rw [e2, ← Lib.byteCells_append] at h1
  exact .inr h1
theorem bldStr (b : Nat) (l : List UInt8) (w : World) (h : Bld b w l) :
    Calls Tryz.prog 22 #[.pointer (some ⟨b, 0, none⟩)] w fun e w' => e = .returned (.string ⟨l.toArray⟩) ∧ Below b w w' := by
  have hlt := h.lt
  refine (Any.Builder_String_any_k (P := Tryz.prog) (ρ := Tryz.lays169_ren) Tryz.lays169 Tryz.Builder_Extra_169 b b l w h (by omega)).mono ?_
  rintro e w' ⟨rfl, -, h2, -⟩
  exact ⟨rfl, h2⟩

theorem hidOf {p : Prop} (h : p) : Hid p := h
/-- What rule q has. -/
def Sh.rule_has' (ps : List Pi) (rs : List Pg.Rl) (q : Nat) : Prop :=
  ((1 ≤ (rs.getD q Pg.Rl.no).when ∧ (rs.getD q Pg.Rl.no).when ≤ 3) ∧ 0 ≤ (rs.getD q Pg.Rl.no).act ∧ (rs.getD q Pg.Rl.no).act.toNat < ps.length ∧ Pg.ex (ps.getD (rs.getD q Pg.Rl.no).act.toNat Pi.no).op = false ∧ (0 ≤ (rs.getD q Pg.Rl.no).cond → (rs.getD q Pg.Rl.no).when = 2 ∧ (rs.getD q Pg.Rl.no).cond.toNat < ps.length ∧ Pg.ex (ps.getD (rs.getD q Pg.Rl.no).cond.toNat Pi.no).op = true)) ∧
  (Sh.st ps ((rs.getD q Pg.Rl.no).act.toNat + 1) (rs.getD q Pg.Rl.no).act.toNat).length ≤ 120000 ∧ (0 ≤ (rs.getD q Pg.Rl.no).cond → (Sh.exC ps (rs.getD q Pg.Rl.no).cond.toNat).length ≤ 120000) ∧ ((rs.getD q Pg.Rl.no).cond = -1 ∨ 0 ≤ (rs.getD q Pg.Rl.no).cond)

set_option maxRecDepth 100000 in
set_option maxHeartbeats 1000000 in
theorem implShow_yes (v rv : Value) (ps : List Pi) (rs : List Pg.Rl) (w : World) (h : PcsAt w v ps) (hr : RlsAt w rv rs) (h2 : TwoS w) (hl : ps.length ≤ 1048576) (hl2 : rs.length ≤ 1048576) (hsm : Small ps ps.length) (hok : Pg.ok ps rs = true) (ht : Pg.total ps rs ≤ 2000) :
    Calls Tryz.prog 7 #[.agg #[v, rv]] w fun e w' => e = .returned (.tuple #[.string ⟨(Sh.prog ps rs).toArray⟩, .bool true]) ∧ Below w.heap.size w w' := by
  obtain ⟨b1, b2, b3, b4⟩ := ok_parts hok
  have HO : Hid (∀ W, Below w.heap.size w W → Calls Tryz.prog 17 #[.agg #[v, rv]] W fun e w' => e = .returned (.bool true) ∧ Below W.heap.size W w') := fun W hb => by rw [← hok]; exact implProgOk v rv ps rs W (h.keep hb) (hr.keep hb) hl hl2 hsm
  have HT : Hid (∀ W, Below w.heap.size w W → Calls Tryz.prog 18 #[.agg #[v, rv]] W fun e w' => e = .returned (.int .i64 (Pg.totc ps rs : Int)) ∧ Below W.heap.size W w') := fun W hb => comesTo_any v rv ps rs W (h.keep hb) (hr.keep hb) b1 b2 b3 b4
  have HTR : Hid (∀ W, Below w.heap.size w W → Calls Tryz.prog 19 #[v] W fun e w' => ∃ kt : List (TypeId × Value), e = .returned (.slice (some ⟨W.heap.size, 0, none⟩) ps.length ps.length) ∧ kt.length = ps.length ∧ Below W.heap.size W w' ∧
      (∀ j, j < ps.length → w'.cell? ⟨W.heap.size, j, none⟩ = some (tv (kt.getD j tno))) ∧ ∀ j, j < ps.length → Good W.heap.size w' ps j (kt.getD j tno)) := fun W hb => treesOf_any v ps W (h.keep hb) b1 b3 (h2.keep (X := w.heap.size) (by have := World.block_lt_of_cell? w _ h2.1; simp at this; omega) (But.of hb))
  have HRL : Hid (∀ q, q < rs.length → Sh.rule_has' ps rs q) := fun q hq => by
    have hmem : rs.getD q Pg.Rl.no ∈ rs := by
      rw [List.getD_eq_getElem?_getD, List.getElem?_eq_getElem hq]
      exact List.getElem_mem _
    have h1 := Sh.rule_has (b4 _ hmem)
    have h3 := Sh.rule_len b3 (b4 _ hmem) (Nat.le_trans (Sh.sz_in ps rs _ hmem) ht)
    exact ⟨h1, h3.2.1, h3.2.2, by have := (Pg.rule_in (b4 _ hmem)).2; omega⟩
  have HLEN : Hid (∀ q, (Sh.prog ps (rs.take q)).length ≤ 200000) := fun q => by
    have a := Sh.prog_mono ps rs q
    have b := Sh.prog_len b3 rs b4 ht
    omega
  have htc : ¬ 2000 < Pg.totc ps rs := fun h => by have := (Pg.totc_iff ps rs).1 h; omega
  have d2 : decide ((2000 : Int) < (Pg.totc ps rs : Int)) = false := decide_eq_false (by omega)
  have HNXT : Hid (∀ q, q < rs.length → Sh.prog ps (rs.take (q + 1)) = Sh.prog ps (rs.take q) ++ Sh.rule ps (rs.getD q Pg.Rl.no)) := fun q hq => Sh.prog_take ps rs q hq
  have HFULL : Hid (rs.take rs.length = rs) := List.take_length
  clear ht
  generalize Pg.totc ps rs = T at *
  obtain ⟨va, vc, rfl, -⟩ := h
  obtain ⟨ra, rc, rfl, fr⟩ := hr
  have HF : Hid (0 < rs.length → ∃ b o, ra = some ⟨b, o, none⟩ ∧ b < w.heap.size ∧ ∀ i, i < rs.length → w.cell? ⟨b, o + i * 3, none⟩ = some (.int .i64 (rs.getD i Pg.Rl.no).when) ∧ w.cell? ⟨b, o + i * 3 + 1, none⟩ = some (.int .i64 (rs.getD i Pg.Rl.no).cond) ∧ w.cell? ⟨b, o + i * 3 + 2, none⟩ = some (.int .i64 (rs.getD i Pg.Rl.no).act)) := fr
  generalize hnl : ps.length = n at *
  generalize hkl : rs.length = k at *
  have HNL : Hid (ps.length = n) := hnl
  clear hsm hok b3 b4 fr hnl hkl h2
  have HB0 : Hid (Below w.heap.size w (w.alloc (.cells #[.slice va n vc, .slice ra k rc] 32))) := (Below.refl _ _).alloc (Nat.le_refl _) _
  obtain ⟨m0, m1⟩ := tcells2 (heap_alloc_new w (.cells #[.slice va n vc, .slice ra k rc] 32))
  go_enter Tryz.func7, Tryz.ntmps7
  go_wp2_with fail
  refine (HO.out _ HB0.out).mono ?_
  rintro e a2 ⟨rfl, hb2⟩
  have HBF : Hid (Below w.heap.size w a2) := HB0.out.trans (hb2.mono HB0.out.size)
  have r0 := (hb2.cell (World.block_lt_of_cell? _ _ m0)).trans m0
  have r1 := (hb2.cell (World.block_lt_of_cell? _ _ m1)).trans m1
  clear hb2 m0 m1 HO
  go_wp2_with fail
  refine (HT.out _ HBF.out).mono ?_
  rintro e a3 ⟨rfl, hb3⟩
  have HBG : Hid (Below w.heap.size w a3) := HBF.out.trans (hb3.mono HBF.out.size)
  have t0 := (hb3.cell (World.block_lt_of_cell? _ _ r0)).trans r0
  have t1 := (hb3.cell (World.block_lt_of_cell? _ _ r1)).trans r1
  clear hb3 r0 r1 HT HBF
  go_wp2_with fail
  refine (HTR.out _ HBG.out).mono ?_
  rintro e a4 ⟨kt, rfl, hkt, hb4, hcells, hgood⟩
  have HBH : Hid (Below w.heap.size w a4) := HBG.out.trans (hb4.mono HBG.out.size)
  have u0 := (hb4.cell (World.block_lt_of_cell? _ _ t0)).trans t0
  have u1 := (hb4.cell (World.block_lt_of_cell? _ _ t1)).trans t1
  have HCE : Hid (∀ j, j < n → a4.cell? ⟨a3.heap.size, j, none⟩ = some (tv (kt.getD j tno))) := hcells
  have HGO : Hid (∀ j, j < n → Good a3.heap.size a4 ps j (kt.getD j tno)) := hgood
  have HLT : Hid (a3.heap.size < a4.heap.size ∨ n = 0) := by
    by_cases h0 : n = 0
    · exact .inr h0
    · exact .inl (World.block_lt_of_cell? _ _ (hcells 0 (by omega)))
  clear hb4 t0 t1 HTR hcells hgood HBG
  have HBD : Hid (Bld a4.heap.size (a4.alloc (.cells #[.pointer none, .slice none 0 0] 50)) []) := Lib.IsBuilderF.of (Lib.fresh_isBuilder 50 5 a4)
  have BA : Below a4.heap.size a4 (a4.alloc (.cells #[.pointer none, .slice none 0 0] 50)) := (Below.refl _ _).alloc (Nat.le_refl _) _
  have v1 := (BA.cell (World.block_lt_of_cell? _ _ u1)).trans u1
  have HA5 : Hid (∀ W, Below a4.heap.size (a4.alloc (.cells #[.pointer none, .slice none 0 0] 50)) W → Below w.heap.size w W ∧ W.cell? ⟨w.heap.size, 1, none⟩ = some (.slice ra k rc) ∧ (∀ j, j < n → W.cell? ⟨a3.heap.size, j, none⟩ = some (tv (kt.getD j tno))) ∧ ∀ j, j < n → Good a3.heap.size W ps j (kt.getD j tno)) := fun W hb => by
    have hb4 : Below a4.heap.size a4 W := BA.trans hb
    exact ⟨HBH.out.trans (hb4.mono HBH.out.size), (hb4.cell (World.block_lt_of_cell? _ _ u1)).trans u1, fun j hj => (hb4.cell (World.block_lt_of_cell? _ _ (HCE.out j hj))).trans (HCE.out j hj), fun j hj => (HGO.out j hj).keep (But.of hb4)⟩
  clear BA u0 u1 HCE HGO HBH HLT d2
  go_wp2_with fail
  generalize a4.alloc (.cells #[.pointer none, .slice none 0 0] 50) = W5 at *
  generalize a4.heap.size = BB at *
  generalize a3.heap.size = X at *
  clear v1
  go_loopw [22] (fun i wr => ∃ q : Nat, i = .int .i64 (q : Int) ∧ q ≤ k ∧ Hid (Below BB W5 wr ∧ Bld BB wr (Sh.prog ps (rs.take q)))) (fun i _ => k - (intOf i).toNat)
  case atStart => exact ⟨0, rfl, by omega, Below.refl _ _, HBD.out⟩
  case round =>
    clear HBD
    obtain ⟨q, rfl, hq, HW⟩ := hrel
    by_cases hlt : q < k
    · have hq1 : (q : Int) < (k : Int) := by omega
      have hq0 : (0 : Int) ≤ (q : Int) := by omega
      obtain ⟨hbw, -, -, -⟩ := HA5.out _ HW.out.1
      obtain ⟨rb, ro, rfl, hrb, hrc⟩ := HF.out (by omega)
      obtain ⟨c0, c1, c2⟩ := hrc q hlt
      have g0 := (hbw.cell hrb).trans c0
      have g1 := (hbw.cell hrb).trans c1
      have g2 := (hbw.cell hrb).trans c2
      have HNEXT := HNXT.out q hlt
      have hlen1 := HLEN.out (q + 1)
      rw [HNEXT] at hlen1
      obtain ⟨hhas, hst, hex, hcm⟩ := HRL.out q hlt
      unfold Sh.rule Sh.head at HNEXT hlen1
      generalize rs.getD q Pg.Rl.no = rl at *
      obtain ⟨ra0, rc0, rd0⟩ := rl
      simp only at c0 c1 c2 g0 g1 g2 HNEXT hlen1 hhas hst hex hcm
      obtain ⟨hw13, hd0, hdl, hdx, hcc⟩ := hhas
      have HCM : rc0 = -1 ∨ 0 ≤ rc0 := hcm
      rw [HNL.out] at hdl hcc
      have hDt : Sh.txt ps rd0.toNat = Sh.st ps (rd0.toNat + 1) rd0.toNat := by rw [Sh.txt, if_neg (by rw [hdx]; decide)]
      have HCt : Hid (0 ≤ rc0 → Sh.txt ps rc0.toNat = Sh.exC ps rc0.toNat) := fun h0 => by rw [Sh.txt, if_pos (hcc h0).2.2]
      have HLTB : Hid (BB < wr.heap.size) := HW.out.2.lt
      have HBP := HW.out.2
      generalize Sh.prog ps (rs.take q) = P at *
      have HBA : Hid (Below BB W5 (wr.alloc (.cells #[.int .i64 ra0, .int .i64 rc0, .int .i64 rd0] 41))) := HW.out.1.alloc (Nat.le_of_lt HBP.lt) _
      have HBP1 : Hid (Bld BB (wr.alloc (.cells #[.int .i64 ra0, .int .i64 rc0, .int .i64 rd0] 41)) P) := HBP.keep ((Below.refl _ _).alloc (Nat.le_refl _) _)
      have hrl1 := heap_alloc_new wr (.cells #[.int .i64 ra0, .int .i64 rc0, .int .i64 rd0] 41)
      obtain ⟨dn, rfl⟩ : ∃ dn : Nat, rd0 = (dn : Int) := ⟨rd0.toNat, by omega⟩
      have HSD : Hid (∀ W, Below BB W5 W → W.cell? ⟨X, dn, none⟩ = some (tv (kt.getD dn tno)) ∧ Calls Tryz.prog 21 #[tv (kt.getD dn tno)] W fun e w' => e = .returned (.string ⟨(Sh.st ps ((dn : Int).toNat + 1) (dn : Int).toNat).toArray⟩) ∧ Below W.heap.size W w') := fun W hb => by
        obtain ⟨-, -, hc, hg⟩ := HA5.out W hb
        have hdn : (dn : Int).toNat = dn := by omega
        rw [hdn] at hDt hst hdl ⊢
        have hgd := hg dn hdl (by rw [hDt]; omega)
        rw [hDt] at hgd
        exact ⟨hc dn hdl, hgd W ⟨Nat.le_refl _, fun _ _ _ => rfl⟩⟩
      have hdn1 : (dn : Int) < (n : Int) := by omega
      have hdn0 : (0 : Int) ≤ (dn : Int) := by omega
      generalize Sh.st ps ((dn : Int).toNat + 1) (dn : Int).toNat = D at *
      obtain ⟨Td, xd, hTd⟩ := pair_get (kt.getD dn tno)
      rw [hTd] at HSD
      unfold tv at HSD
      simp only at HSD
      clear hrc c0 c1 c2 hbw hrb hDt hTd hdx hdl HW HBP
      have hlBB : BB < wr.heap.size := HLTB.out
      have nD : ¬ 9223372036854775807 < D.length + 1 := by omega
      have HWR : Hid (∀ W l, Bld BB W l → l.length + D.length + 1 ≤ 1000000 → Calls Tryz.prog 20 #[.pointer (some ⟨BB, 0, none⟩), .string (⟨D.toArray⟩ ++ ⟨#[10]⟩)] W fun e w' => e = .returned (.tuple #[.int .i64 ((D ++ [10]).length : Int), .nilIface]) ∧ Bld BB w' (l ++ (D ++ [10])) ∧ Below BB W w' ∧ Lib.OthersKept 5 (some BB) W w') := fun W l hb hl => by
        have e : (⟨D.toArray⟩ : ByteArray) ++ ⟨#[10]⟩ = ⟨(D ++ [10]).toArray⟩ := by apply ByteArray.ext; simp
        rw [e]
        exact writeStr BB l (D ++ [10]) W hb (by simp only [List.length_append, List.length_cons, List.length_nil]; omega)
      have HXT : Hid (0 ≤ rc0 → ∀ cn : Nat, rc0 = (cn : Int) → cn < n ∧ (Sh.exC ps (cn : Int).toNat).length ≤ 120000 ∧ ∀ W, Below BB W5 W → W.cell? ⟨X, cn, none⟩ = some (tv (kt.getD cn tno)) ∧ Calls Tryz.prog 21 #[tv (kt.getD cn tno)] W fun e w' => e = .returned (.string ⟨(Sh.exC ps (cn : Int).toNat).toArray⟩) ∧ Below W.heap.size W w') := fun h0 cn hcn => by
        have h1 := hcc h0
        have h2 := hex h0
        have h3 := HCt.out h0
        rw [hcn] at h1 h2 h3
        have hcn2 : (cn : Int).toNat = cn := by omega
        rw [hcn2] at h1 h2 h3 ⊢
        refine ⟨h1.2.1, h2, fun W hb => ?_⟩
        obtain ⟨-, -, hc, hg⟩ := HA5.out W hb
        have hgd := hg cn h1.2.1 (by rw [h3]; omega)
        rw [h3] at hgd
        exact ⟨hc cn h1.2.1, hgd W ⟨Nat.le_refl _, fun _ _ _ => rfl⟩⟩
      have HC2 : Hid (rc0 = -1 ∨ 0 ≤ rc0) := HCM
      clear hcc hex HCt HLTB
      by_cases h1 : ra0 = 1
      · subst h1
        have HNX : Hid (Sh.prog ps (rs.take (q + 1)) = P ++ [66, 69, 71, 73, 78, 32] ++ (D ++ [10])) := HNEXT.trans (by rw [if_pos rfl]; simp only [List.append_assoc])
        have hln : P.length + 6 + D.length + 1 ≤ 200000 := by
          rw [← HNEXT, HNX.out] at hlen1
          simp only [List.length_append, List.length_cons, List.length_nil] at hlen1
          omega
        clear hlen1 HNEXT HXT
        go_wp2_with fail
        refine (writeStr BB P [66, 69, 71, 73, 78, 32] _ HBP1.out (by simp only [List.length_cons, List.length_nil]; omega)).mono ?_
        rintro e w2 ⟨rfl, hbd2, hb2, hok2⟩
        have HB2 : Hid (Below BB W5 w2) := HBA.out.trans hb2
        have HP2 : Hid (Bld BB w2 (P ++ [66, 69, 71, 73, 78, 32])) := hbd2
        have HR2 : Hid (w2.heap[wr.heap.size]? = some (.cells #[.int .i64 1, .int .i64 rc0, .int .i64 (dn : Int)] 41 (0, 0))) := hok2 _ _ hrl1 (by intro h; have := HBP1.out; simp only [Option.some.injEq] at h; omega) (by intro c fz h; injection h with _ h2 _; exact absurd h2 (by decide))
        clear hbd2 hb2 hok2 HBP1 hrl1
        obtain ⟨y1, C1⟩ := HSD.out _ HB2.out
        obtain ⟨s0, s1, s2⟩ := tcells3 HR2.out
        have C2 := hidOf C1
        clear C1
        go_wp2_with fail
        refine C2.out.mono ?_
        rintro e w3 ⟨rfl, hb3⟩
        have HB3 : Hid (Below BB W5 w3) := HB2.out.trans (hb3.mono (Nat.le_of_lt HP2.out.lt))
        have HP3 : Hid (Bld BB w3 (P ++ [66, 69, 71, 73, 78, 32])) := HP2.out.keep hb3
        clear hb3 C2 HP2 HSD
        go_wp2_with fail
        refine (HWR.out _ _ HP3.out (by simp only [List.length_append, List.length_cons, List.length_nil]; omega)).mono ?_
        rintro e w4 ⟨rfl, hbd, hb4, -⟩
        have HB4 : Hid (Below BB W5 w4) := HB3.out.trans hb4
        have HP4 : Hid (Bld BB w4 (Sh.prog ps (rs.take (q + 1)))) := by rw [HNX.out]; unfold Hid; simpa only [List.append_assoc] using hbd
        clear hbd hb4
        go_wp2
        go_roundw
        case rel => exact ⟨q + 1, by go_num, by omega, HB4.out, HP4.out⟩
        case measure => simp [intOf]; omega
      by_cases h3 : ra0 = 3
      · subst h3
        have HNX : Hid (Sh.prog ps (rs.take (q + 1)) = P ++ [69, 78, 68, 32] ++ (D ++ [10])) := HNEXT.trans (by rw [if_neg (by decide), if_pos rfl]; simp only [List.append_assoc])
        have hln : P.length + 4 + D.length + 1 ≤ 200000 := by
          rw [← HNEXT, HNX.out] at hlen1
          simp only [List.length_append, List.length_cons, List.length_nil] at hlen1
          omega
        clear hlen1 HNEXT HXT
        go_wp2_with fail
        refine (writeStr BB P [69, 78, 68, 32] _ HBP1.out (by simp only [List.length_cons, List.length_nil]; omega)).mono ?_
        rintro e w2 ⟨rfl, hbd2, hb2, hok2⟩
        have HB2 : Hid (Below BB W5 w2) := HBA.out.trans hb2
        have HP2 : Hid (Bld BB w2 (P ++ [69, 78, 68, 32])) := hbd2
        have HR2 : Hid (w2.heap[wr.heap.size]? = some (.cells #[.int .i64 3, .int .i64 rc0, .int .i64 (dn : Int)] 41 (0, 0))) := hok2 _ _ hrl1 (by intro h; have := HBP1.out; simp only [Option.some.injEq] at h; omega) (by intro c fz h; injection h with _ h2 _; exact absurd h2 (by decide))
        clear hbd2 hb2 hok2 HBP1 hrl1
        obtain ⟨y1, C1⟩ := HSD.out _ HB2.out
        obtain ⟨s0, s1, s2⟩ := tcells3 HR2.out
        have C2 := hidOf C1
        clear C1
        go_wp2_with fail
        refine C2.out.mono ?_
        rintro e w3 ⟨rfl, hb3⟩
        have HB3 : Hid (Below BB W5 w3) := HB2.out.trans (hb3.mono (Nat.le_of_lt HP2.out.lt))
        have HP3 : Hid (Bld BB w3 (P ++ [69, 78, 68, 32])) := HP2.out.keep hb3
        clear hb3 C2 HP2 HSD
        go_wp2_with fail
        refine (HWR.out _ _ HP3.out (by simp only [List.length_append, List.length_cons, List.length_nil]; omega)).mono ?_
        rintro e w4 ⟨rfl, hbd, hb4, -⟩
        have HB4 : Hid (Below BB W5 w4) := HB3.out.trans hb4
        have HP4 : Hid (Bld BB w4 (Sh.prog ps (rs.take (q + 1)))) := by rw [HNX.out]; unfold Hid; simpa only [List.append_assoc] using hbd
        clear hbd hb4
        go_wp2
        go_roundw
        case rel => exact ⟨q + 1, by go_num, by omega, HB4.out, HP4.out⟩
        case measure => simp [intOf]; omega
      have e1 : (ra0 == 1) = false := by simpa using h1
      have e3 : (ra0 == 3) = false := by simpa using h3
      by_cases hc : 0 ≤ rc0
      · obtain ⟨cn, rfl⟩ : ∃ cn : Nat, rc0 = (cn : Int) := ⟨rc0.toNat, by omega⟩
        obtain ⟨hcn, hcl, hct⟩ := HXT.out hc cn rfl
        have HCT := hidOf hct
        have HNX : Hid (Sh.prog ps (rs.take (q + 1)) = P ++ (Sh.exC ps (cn : Int).toNat ++ [32]) ++ (D ++ [10])) := HNEXT.trans (by rw [if_neg h1, if_neg h3, if_pos hc]; simp only [List.append_assoc])
        have hln : P.length + (Sh.exC ps (cn : Int).toNat).length + 1 + D.length + 1 ≤ 200000 := by
          rw [← HNEXT, HNX.out] at hlen1
          simp only [List.length_append, List.length_cons, List.length_nil] at hlen1
          omega
        have dc : ((cn : Int) != -1) = true := bne_iff_ne.2 (by omega)
        have hcn1 : (cn : Int) < (n : Int) := by omega
        have hcn0 : (0 : Int) ≤ (cn : Int) := by omega
        clear hct
        generalize Sh.exC ps (cn : Int).toNat = E at *
        have HWE : Hid (∀ W l, Bld BB W l → l.length + E.length + 1 ≤ 1000000 → Calls Tryz.prog 20 #[.pointer (some ⟨BB, 0, none⟩), .string (⟨E.toArray⟩ ++ ⟨#[32]⟩)] W fun e w' => e = .returned (.tuple #[.int .i64 ((E ++ [32]).length : Int), .nilIface]) ∧ Bld BB w' (l ++ (E ++ [32])) ∧ Below BB W w' ∧ Lib.OthersKept 5 (some BB) W w') := fun W l hb hl => by
          have e : (⟨E.toArray⟩ : ByteArray) ++ ⟨#[32]⟩ = ⟨(E ++ [32]).toArray⟩ := by apply ByteArray.ext; simp
          rw [e]
          exact writeStr BB l (E ++ [32]) W hb (by simp only [List.length_append, List.length_cons, List.length_nil]; omega)
        obtain ⟨Tc, xc, hTc⟩ := pair_get (kt.getD cn tno)
        rw [hTc] at HCT
        unfold tv at HCT
        simp only at HCT
        obtain ⟨y0, C0⟩ := HCT.out _ HBA.out
        have C0' := hidOf C0
        have nE : ¬ 9223372036854775807 < E.length + 1 := by omega
        clear hlen1 HNEXT HXT C0 hTc HCT h1 h3 hc
        go_wp2_with fail
        refine C0'.out.mono ?_
        rintro e w1 ⟨rfl, hb1⟩
        have HB1 : Hid (Below BB W5 w1) := HBA.out.trans (hb1.mono (Nat.le_of_lt HBP1.out.lt))
        have HP1 : Hid (Bld BB w1 P) := HBP1.out.keep hb1
        have HR1 : Hid (w1.heap[wr.heap.size]? = some (.cells #[.int .i64 ra0, .int .i64 (cn : Int), .int .i64 (dn : Int)] 41 (0, 0))) := (hb1.block _ (Array.getElem?_eq_some_iff.1 hrl1).1).trans hrl1
        clear hb1 C0' HBP1 hrl1 y0
        go_wp2_with fail
        refine (HWE.out _ _ HP1.out (by omega)).mono ?_
        rintro e w2 ⟨rfl, hbd2, hb2, hok2⟩
        have HB2 : Hid (Below BB W5 w2) := HB1.out.trans hb2
        have HP2 : Hid (Bld BB w2 (P ++ (E ++ [32]))) := hbd2
        have HR2 : Hid (w2.heap[wr.heap.size]? = some (.cells #[.int .i64 ra0, .int .i64 (cn : Int), .int .i64 (dn : Int)] 41 (0, 0))) := hok2 _ _ HR1.out (by intro h; simp only [Option.some.injEq] at h; omega) (by intro c fz h; injection h with _ h2 _; exact absurd h2 (by decide))
        clear hbd2 hb2 hok2 HP1 HR1 HWE
        obtain ⟨y1, C1⟩ := HSD.out _ HB2.out
        obtain ⟨s0, s1, s2⟩ := tcells3 HR2.out
        have C2 := hidOf C1
        clear C1
        go_wp2_with fail
        refine C2.out.mono ?_
        rintro e w3 ⟨rfl, hb3⟩
        have HB3 : Hid (Below BB W5 w3) := HB2.out.trans (hb3.mono (Nat.le_of_lt HP2.out.lt))
        have HP3 : Hid (Bld BB w3 (P ++ (E ++ [32]))) := HP2.out.keep hb3
        clear hb3 C2 HP2 HSD
        go_wp2_with fail
        refine (HWR.out _ _ HP3.out (by simp only [List.length_append, List.length_cons, List.length_nil]; omega)).mono ?_
        rintro e w4 ⟨rfl, hbd, hb4, -⟩
        have HB4 : Hid (Below BB W5 w4) := HB3.out.trans hb4
        have HP4 : Hid (Bld BB w4 (Sh.prog ps (rs.take (q + 1)))) := by rw [HNX.out]; unfold Hid; simpa only [List.append_assoc] using hbd
        clear hbd hb4
        go_wp2
        go_roundw
        case rel => exact ⟨q + 1, by go_num, by omega, HB4.out, HP4.out⟩
        case measure => simp [intOf]; omega
      · have hcm : rc0 = -1 := by rcases HC2.out with h | h; exact h; exact absurd h hc
        subst hcm
        have HNX : Hid (Sh.prog ps (rs.take (q + 1)) = P ++ (D ++ [10])) := HNEXT.trans (by rw [if_neg h1, if_neg h3, if_neg hc]; simp)
        have hln : P.length + D.length + 1 ≤ 200000 := by
          rw [← HNEXT, HNX.out] at hlen1
          simp only [List.length_append, List.length_cons, List.length_nil] at hlen1
          omega
        clear hlen1 HNEXT HXT h1 h3 hc
        obtain ⟨R1, hR1⟩ : ∃ R1, R1 = wr.alloc (.cells #[.int .i64 ra0, .int .i64 (-1), .int .i64 (dn : Int)] 41) := ⟨_, rfl⟩
        have HB2 : Hid (Below BB W5 (wr.alloc (.cells #[.int .i64 ra0, .int .i64 (-1), .int .i64 (dn : Int)] 41))) := HBA.out
        have HP2 : Hid (Bld BB (wr.alloc (.cells #[.int .i64 ra0, .int .i64 (-1), .int .i64 (dn : Int)] 41)) P) := HBP1.out
        have HR2 : Hid ((wr.alloc (.cells #[.int .i64 ra0, .int .i64 (-1), .int .i64 (dn : Int)] 41)).heap[wr.heap.size]? = some (.cells #[.int .i64 ra0, .int .i64 (-1), .int .i64 (dn : Int)] 41 (0, 0))) := hrl1
        clear HBP1 hrl1 hR1
        obtain ⟨y1, C1⟩ := HSD.out _ HB2.out
        obtain ⟨s0, s1, s2⟩ := tcells3 HR2.out
        have C2 := hidOf C1
        clear C1
        go_wp2_with fail
        refine C2.out.mono ?_
        rintro e w3 ⟨rfl, hb3⟩
        have HB3 : Hid (Below BB W5 w3) := HB2.out.trans (hb3.mono (Nat.le_of_lt HP2.out.lt))
        have HP3 : Hid (Bld BB w3 (P)) := HP2.out.keep hb3
        clear hb3 C2 HP2 HSD
        go_wp2_with fail
        refine (HWR.out _ _ HP3.out (by omega)).mono ?_
        rintro e w4 ⟨rfl, hbd, hb4, -⟩
        have HB4 : Hid (Below BB W5 w4) := HB3.out.trans hb4
        have HP4 : Hid (Bld BB w4 (Sh.prog ps (rs.take (q + 1)))) := by rw [HNX.out]; unfold Hid; simpa only [List.append_assoc] using hbd
        clear hbd hb4
        go_wp2
        go_roundw
        case rel => exact ⟨q + 1, by go_num, by omega, HB4.out, HP4.out⟩
        case measure => simp [intOf]; omega
    · obtain rfl : q = k := by omega
      have dq : ¬ ((q : Int) < (q : Int)) := by omega
      have hpr := HW.out.2
      rw [HFULL.out] at hpr
      have C := bldStr BB _ wr hpr
      obtain ⟨R, hR⟩ : ∃ R, R = Sh.prog ps rs := ⟨_, rfl⟩
      rw [← hR] at C
      have C2 := hidOf C
      have HRR : Hid (R = Sh.prog ps rs) := hR
      have HBE : Hid (∀ W, Below BB wr W → Below w.heap.size w W) := fun W hb => (HA5.out W (HW.out.1.trans hb)).1
      clear C hR hpr HF HRL HLEN HNXT HA5
      go_wp2_with fail
      refine C2.out.mono ?_
      rintro e w2 ⟨rfl, hb2⟩
      go_wp2
      go_ret2
      exact ⟨by rw [← HRR.out]; rfl, HBE.out _ hb2⟩
#print axioms implShow_yes
end Go.Proofs.YtknojhmnadmilaaGreatDoor
