/- What is read of the bytes of a job: the specification, from what ReadCode and ReadStore answer. -/
import Derived.Test.YtehagonaacbmiaaGreatMPRjZar
import Derived.LoopTactic
namespace Go.Proofs.YtehagonaacbmiaaGreat
open Go.RowKit

theorem tl_smallk {L : List UInt8} {H : List ByteArray → List UInt8 → Prop} {n k a : Nat} {ts : List ByteArray} {bad : Bool} (h : Rc.TL L H n k a ts bad) : TsSmall ts ts.length := fun i hi => by
  have : ts.getD i ByteArray.empty ∈ ts := by rw [List.getD_eq_getElem?_getD, List.getElem?_eq_getElem hi]; exact List.getElem_mem _
  have := h.small _ this
  omega
/-- Who reads all of it reads the job. -/
theorem jobAx {L t1 t2 : List UInt8} {ts : List ByteArray} {xs : List Ins} {l u : Nat} {vs : List Vr} {cs : List Cl} {o : ByteArray} {ns ls : List ByteArray} {ok1 ok2 bT bS : Bool} {n k a n2 k2 a4 : Nat}
    (h : Rc.TL L (Jb.HN L) n k a ns bS) (hx : bS = false → n ≤ 20 → n ≤ k) (g : Rc.TL L (Jb.HL L ns) n2 k2 a4 ls bT) (gx : bT = false → n2 ≤ 20 → n2 ≤ k2)
    (hw : ∀ j : Jb, Jb.isOf L j → t1 = Cd.bytes j.ts j.xs j.ln j.en ∧ t2 = St.bytes j.vs j.cs j.o)
    (hc : ∀ ts0 xs0 bg0 ln0 en0, Cd.ok ts0 xs0 bg0 ln0 en0 = true → Cd.bytes ts0 xs0 ln0 en0 = t1 → ok1 = true ∧ ts = ts0 ∧ xs = xs0 ∧ bg0 = 0 ∧ ln0 = (l : Int) ∧ en0 = (u : Int))
    (hs : ∀ vs0 cs0 o0, Rs.isOf t2 vs0 cs0 o0 → ok2 = true ∧ vs = vs0 ∧ cs = cs0 ∧ o = o0) : ∀ j, Jb.isOf L j → ok1 = true ∧ ok2 = true ∧ bT = false ∧ j = ⟨ts, xs, 0, (l : Int), (u : Int), vs, cs, o, ns, ls⟩ := by
  intro j hj
  obtain ⟨e1, e2, e3⟩ := Jb.read_all h hx g gx j hj
  obtain ⟨f1, f2⟩ := hw j hj
  obtain ⟨g1, g2, -⟩ := Jb.ok_sizes hj.1
  obtain ⟨h1, h2, h3, h4, h5, h6⟩ := hc j.ts j.xs j.bg j.ln j.en g1 f1.symm
  obtain ⟨k1, k2, k3, k4⟩ := hs j.vs j.cs j.o ⟨g2, f2.symm⟩
  refine ⟨h1, k1, e1, ?_⟩
  obtain ⟨jts, jxs, jbg, jln, jen, jvs, jcs, jo, jns, jls⟩ := j
  simp only at *
  subst h2 h3 h4 h5 h6 k2 k3 k4 e2 e3
  rfl
/-- What JobText answers, in one form. -/
theorem jobText_form (j : Jb) : ∃ (back : ByteArray) (good : Bool), j.text? = .tuple #[.string back, .bool good] ∧ good = j.ok ∧ (good = true → back = ⟨(Jb.bytes j).toArray⟩) := by
  unfold Jb.text?
  cases h : j.ok with
  | true => exact ⟨_, true, by rw [if_pos rfl], rfl, fun _ => rfl⟩
  | false => exact ⟨⟨#[]⟩, false, by rw [if_neg (by simp)], rfl, fun e => by simp at e⟩
theorem seqj {a b : ByteArray} (h : a.toList = b.toList) : a = b := by
  rw [Lib.toList_data, Lib.toList_data] at h
  cases a; cases b
  simp only [ByteArray.mk.injEq]
  exact Array.toList_inj.1 h
set_option maxHeartbeats 80000000 in
set_option maxRecDepth 100000 in
theorem spReadJob_of (CRC : ∀ (s : ByteArray) (W : World), s.size ≤ 1048576 → Calls Tryz.prog 29 #[.string s] W fun e w' => RjC W w' s e)
    (CRS : ∀ (s : ByteArray) (W : World), s.size ≤ 1048576 → Calls Tryz.prog 31 #[.string s] W fun e w' => RjT W w' s e) (s : ByteArray) (w : World) (hs : s.size ≤ 1048576) :
    Calls Tryz.prog 10 #[.string s] w fun e w' => RdJ w w' s.data.toList e := by
  have hsl : s.data.toList.length = s.size := by simp
  have HSL := hidOfJ hsl
  have CN : Hid (∀ (W : World) (a : Nat) (bad : Bool), Cu7 W (w.heap.size + 1) s a bad → a ≤ s.size → _) := fun W a bad h ha => spVar1 (w.heap.size + 1) s a bad W h ha hs
  have CS : Hid (∀ (W : World) (a : Nat) (bad : Bool), Cu7 W (w.heap.size + 1) s a bad → a ≤ s.size → _) := fun W a bad h ha => spShort1 (w.heap.size + 1) s a bad W h ha hs
  have CRC := hidOfJ CRC
  have CRS := hidOfJ CRS
  have H0 := hidOfJ (JW.start 63 w s #[.slice none 0 0, .slice none 0 0, .int .i64 0, .int .i64 0, .int .i64 0, .slice none 0 0, .slice none 0 0, .string ⟨#[]⟩, .slice none 0 0, .slice none 0 0])
  clear hsl
  go_enter Tryz.func10, Tryz.ntmps10
  go_wp2_with fail
  generalize ((w.alloc (.cells #[.slice none 0 0, .slice none 0 0, .int .i64 0, .int .i64 0, .int .i64 0, .slice none 0 0, .slice none 0 0, .string ⟨#[]⟩, .slice none 0 0, .slice none 0 0] 42)).alloc (.cells #[.string s, .int .i64 0, .bool false] 63)).alloc (.cells #[.slice none 0 0, .slice none 0 0, .int .i64 0, .int .i64 0, .int .i64 0, .slice none 0 0, .slice none 0 0, .string ⟨#[]⟩, .slice none 0 0, .slice none 0 0] 42) = W0 at *
  refine (CS.out _ 0 false H0.out.rd (Nat.zero_le _)).mono ?_
  rintro e w1 ⟨t1, a1, b1, rfl, hg1, hr1, hl1, ha1, hgood1, hbad1⟩
  have H1 := hidOfJ (H0.out.call hg1 hr1)
  have HG1 := hidOfJ (And.intro hgood1 hbad1)
  clear hg1 hr1 hgood1 hbad1 H0
  go_wp2_with fail
  refine (CRC.out ⟨t1.toArray⟩ _ (by rw [Jb.sz]; omega)).mono ?_
  rintro e w2 ⟨hb2, tv, lv, ts, xs, l, u, ok1, rfl, hrw, sts, ltl, lxl, hcm⟩
  obtain ⟨hts, hxs⟩ := hrw w2 (fun _ _ _ => rfl)
  have H2 := hidOfJ (H1.out.up hb2)
  obtain ⟨ta, tc, rfl, -⟩ := id hts
  obtain ⟨la, lc, rfl, -⟩ := id hxs
  have HTX2 := hidOfJ hrw
  have z1 := H1.out.size
  have z12 := hb2.size
  have HSM2 : Hid (TsSmall ts ts.length ∧ ts.length ≤ 1048576 ∧ xs.length ≤ 1048576) := ⟨sts, ltl, lxl⟩
  have HCM := hidOfJ hcm
  clear hb2 hts hxs hrw sts ltl lxl hcm H1 CRC
  obtain ⟨W3, hW3⟩ : ∃ W3, W3 = w2.alloc (.cells #[.slice ta ts.length tc, .slice la xs.length lc, .int .i64 0, .int .i64 (l : Int), .int .i64 (u : Int)] 36) := ⟨_, rfl⟩
  have hb3 : Below w2.heap.size w2 W3 := by rw [hW3]; exact (Below.refl _ _).alloc (Nat.le_refl _) _
  have q3 : W3.heap[w2.heap.size]? = some (.cells #[.slice ta ts.length tc, .slice la xs.length lc, .int .i64 0, .int .i64 (l : Int), .int .i64 (u : Int)] 36 (0, 0)) := by rw [hW3]; exact heap_alloc_new _ _
  have H3 := hidOfJ (H2.out.up hb3)
  have HQ3 := hidOfJ (And.intro q3 hb3)
  have z2 := H2.out.size
  clear hb3 q3 H2
  go_wp2_with fail
  rw [← hW3]
  clear hW3
  refine (CS.out _ a1 b1 H3.out.rd ha1).mono ?_
  rintro e w4 ⟨t2, a2, b2, rfl, hg4, hr4, hl4, ha2, hgood4, hbad4⟩
  have H4 := hidOfJ (H3.out.call hg4 hr4)
  have HG4 := hidOfJ (And.intro hgood4 hbad4)
  have HQ4 := hidOfJ (And.intro ((hg4.block _ (blk_lt HQ3.out.1) (fun e => by have := Option.some.inj e; omega)).trans HQ3.out.1) hg4)
  clear hg4 hr4 hgood4 hbad4 H3
  go_wp2_with fail
  refine (CRS.out ⟨t2.toArray⟩ _ (by rw [Jb.sz]; omega)).mono ?_
  rintro e w5 ⟨hb5, y, x, vs, cs, o, ok2, rfl, hrw, sst, hsnd, hcmp⟩
  obtain ⟨hvs, hcs⟩ := hrw w5 (fun _ _ _ => rfl)
  have H5 := hidOfJ (H4.out.up hb5)
  obtain ⟨ya, yc, rfl, -⟩ := id hvs
  obtain ⟨xa, xc, rfl, -⟩ := id hcs
  have HVX5 := hidOfJ hrw
  have z4 := H4.out.size
  have z45 := hb5.size
  have HSM5 := hidOfJ (And.intro sst (And.intro hsnd hcmp))
  have q5 := (hb5.block _ (blk_lt HQ4.out.1)).trans HQ4.out.1
  have HB5 := hidOfJ hb5
  clear hvs hcs hrw sst hsnd hcmp H4 CRS
  obtain ⟨W6, hW6⟩ : ∃ W6, W6 = w5.alloc (.cells #[.slice ya vs.length yc, .slice xa cs.length xc, .string o] 40) := ⟨_, rfl⟩
  have hb6 : Below w5.heap.size w5 W6 := by rw [hW6]; exact (Below.refl _ _).alloc (Nat.le_refl _) _
  have q6 : W6.heap[w5.heap.size]? = some (.cells #[.slice ya vs.length yc, .slice xa cs.length xc, .string o] 40 (0, 0)) := by rw [hW6]; exact heap_alloc_new _ _
  have q6c : W6.heap[w2.heap.size]? = some (.cells #[.slice ta ts.length tc, .slice la xs.length lc, .int .i64 0, .int .i64 (l : Int), .int .i64 (u : Int)] 36 (0, 0)) := (hb6.block _ (blk_lt q5)).trans q5
  have H6 := hidOfJ (H5.out.up hb6)
  have z5 := H5.out.size
  have hj0 := (H6.out).setC (C' := #[.slice ta ts.length tc, .slice none 0 0, .int .i64 0, .int .i64 0, .int .i64 0, .slice none 0 0, .slice none 0 0, .string ⟨#[]⟩, .slice none 0 0, .slice none 0 0]) 0 (.slice ta ts.length tc) rfl
  have hj1 := (hj0).setC (C' := #[.slice ta ts.length tc, .slice la xs.length lc, .int .i64 0, .int .i64 0, .int .i64 0, .slice none 0 0, .slice none 0 0, .string ⟨#[]⟩, .slice none 0 0, .slice none 0 0]) 1 (.slice la xs.length lc) rfl
  have hj2 := (hj1).setC (C' := #[.slice ta ts.length tc, .slice la xs.length lc, .int .i64 0, .int .i64 0, .int .i64 0, .slice none 0 0, .slice none 0 0, .string ⟨#[]⟩, .slice none 0 0, .slice none 0 0]) 2 (.int .i64 0) rfl
  have hj3 := (hj2).setC (C' := #[.slice ta ts.length tc, .slice la xs.length lc, .int .i64 0, .int .i64 (l : Int), .int .i64 0, .slice none 0 0, .slice none 0 0, .string ⟨#[]⟩, .slice none 0 0, .slice none 0 0]) 3 (.int .i64 (l : Int)) rfl
  have hj4 := (hj3).setC (C' := #[.slice ta ts.length tc, .slice la xs.length lc, .int .i64 0, .int .i64 (l : Int), .int .i64 (u : Int), .slice none 0 0, .slice none 0 0, .string ⟨#[]⟩, .slice none 0 0, .slice none 0 0]) 4 (.int .i64 (u : Int)) rfl
  have cc0 := (blk_cell q6c 0).trans rfl
  have cj0 := (blk_cell H6.out.co 0).trans rfl
  have cf0 := blk_free H6.out.co 0
  have cc1 := (blk_cell q6c 1).trans rfl
  have cj1 := (blk_cell H6.out.co 1).trans rfl
  have cf1 := blk_free H6.out.co 1
  have cc2 := (blk_cell q6c 2).trans rfl
  have cj2 := (blk_cell H6.out.co 2).trans rfl
  have cf2 := blk_free H6.out.co 2
  have cc3 := (blk_cell q6c 3).trans rfl
  have cj3 := (blk_cell H6.out.co 3).trans rfl
  have cf3 := blk_free H6.out.co 3
  have cc4 := (blk_cell q6c 4).trans rfl
  have cj4 := (blk_cell H6.out.co 4).trans rfl
  have cf4 := blk_free H6.out.co 4
  have q7 : (((((W6.setCell ⟨w.heap.size + 2, 0, none⟩ (.slice ta ts.length tc)).setCell ⟨w.heap.size + 2, 1, none⟩ (.slice la xs.length lc)).setCell ⟨w.heap.size + 2, 2, none⟩ (.int .i64 0)).setCell ⟨w.heap.size + 2, 3, none⟩ (.int .i64 (l : Int))).setCell ⟨w.heap.size + 2, 4, none⟩ (.int .i64 (u : Int))).heap[w5.heap.size]? = some (.cells #[.slice ya vs.length yc, .slice xa cs.length xc, .string o] 40 (0, 0)) := by
    rw [Below.heap_setCell _ _ _ _ (by show w5.heap.size ≠ w.heap.size + 2; omega), Below.heap_setCell _ _ _ _ (by show w5.heap.size ≠ w.heap.size + 2; omega), Below.heap_setCell _ _ _ _ (by show w5.heap.size ≠ w.heap.size + 2; omega), Below.heap_setCell _ _ _ _ (by show w5.heap.size ≠ w.heap.size + 2; omega), Below.heap_setCell _ _ _ _ (by show w5.heap.size ≠ w.heap.size + 2; omega)]
    exact q6
  have ss0 := (blk_cell q7 0).trans rfl
  have sj0 := (blk_cell hj4.co 5).trans rfl
  have sf0 := blk_free hj4.co 5
  have ss1 := (blk_cell q7 1).trans rfl
  have sj1 := (blk_cell hj4.co 6).trans rfl
  have sf1 := blk_free hj4.co 6
  have ss2 := (blk_cell q7 2).trans rfl
  have sj2 := (blk_cell hj4.co 7).trans rfl
  have sf2 := blk_free hj4.co 7
  have hj5 := (hj4).setC (C' := #[.slice ta ts.length tc, .slice la xs.length lc, .int .i64 0, .int .i64 (l : Int), .int .i64 (u : Int), .slice ya vs.length yc, .slice none 0 0, .string ⟨#[]⟩, .slice none 0 0, .slice none 0 0]) 5 (.slice ya vs.length yc) rfl
  have hj6 := (hj5).setC (C' := #[.slice ta ts.length tc, .slice la xs.length lc, .int .i64 0, .int .i64 (l : Int), .int .i64 (u : Int), .slice ya vs.length yc, .slice xa cs.length xc, .string ⟨#[]⟩, .slice none 0 0, .slice none 0 0]) 6 (.slice xa cs.length xc) rfl
  have hj7 := (hj6).setC (C' := #[.slice ta ts.length tc, .slice la xs.length lc, .int .i64 0, .int .i64 (l : Int), .int .i64 (u : Int), .slice ya vs.length yc, .slice xa cs.length xc, .string o, .slice none 0 0, .slice none 0 0]) 7 (.string o) rfl
  have H8 := hidOfJ hj7
  have HB8 := hidOfJ hb6
  have hne : ∀ q, q ≠ w.heap.size + 2 → ((((((((W6.setCell ⟨w.heap.size + 2, 0, none⟩ (.slice ta ts.length tc)).setCell ⟨w.heap.size + 2, 1, none⟩ (.slice la xs.length lc)).setCell ⟨w.heap.size + 2, 2, none⟩ (.int .i64 0)).setCell ⟨w.heap.size + 2, 3, none⟩ (.int .i64 (l : Int))).setCell ⟨w.heap.size + 2, 4, none⟩ (.int .i64 (u : Int))).setCell ⟨w.heap.size + 2, 5, none⟩ (.slice ya vs.length yc)).setCell ⟨w.heap.size + 2, 6, none⟩ (.slice xa cs.length xc)).setCell ⟨w.heap.size + 2, 7, none⟩ (.string o)).heap[q]? = W6.heap[q]? := fun q hq => by
    rw [Below.heap_setCell _ _ _ _ (by show q ≠ w.heap.size + 2; exact hq), Below.heap_setCell _ _ _ _ (by show q ≠ w.heap.size + 2; exact hq), Below.heap_setCell _ _ _ _ (by show q ≠ w.heap.size + 2; exact hq), Below.heap_setCell _ _ _ _ (by show q ≠ w.heap.size + 2; exact hq), Below.heap_setCell _ _ _ _ (by show q ≠ w.heap.size + 2; exact hq), Below.heap_setCell _ _ _ _ (by show q ≠ w.heap.size + 2; exact hq), Below.heap_setCell _ _ _ _ (by show q ≠ w.heap.size + 2; exact hq), Below.heap_setCell _ _ _ _ (by show q ≠ w.heap.size + 2; exact hq)]
  have HNE := hidOfJ hne
  have HSZ8 : Hid (((((((((W6.setCell ⟨w.heap.size + 2, 0, none⟩ (.slice ta ts.length tc)).setCell ⟨w.heap.size + 2, 1, none⟩ (.slice la xs.length lc)).setCell ⟨w.heap.size + 2, 2, none⟩ (.int .i64 0)).setCell ⟨w.heap.size + 2, 3, none⟩ (.int .i64 (l : Int))).setCell ⟨w.heap.size + 2, 4, none⟩ (.int .i64 (u : Int))).setCell ⟨w.heap.size + 2, 5, none⟩ (.slice ya vs.length yc)).setCell ⟨w.heap.size + 2, 6, none⟩ (.slice xa cs.length xc)).setCell ⟨w.heap.size + 2, 7, none⟩ (.string o)).heap.size = W6.heap.size) := by show _ = _; simp [World.setCell]
  clear hj0 hj1 hj2 hj3 hj4 hj5 hj6 hj7 q7 q6 q6c q5 hb6 hne
  rw [hW6] at cc0 cj0 cf0
  rw [hW6] at cc1 cj1 cf1
  rw [hW6] at cc2 cj2 cf2
  rw [hW6] at cc3 cj3 cf3
  rw [hW6] at cc4 cj4 cf4
  rw [hW6] at ss0 sj0 sf0
  rw [hW6] at ss1 sj1 sf1
  rw [hW6] at ss2 sj2 sf2
  go_wp2_with fail
  rw [← hW6]
  clear cc0 cc1 cc2 cc3 cc4 cj0 cj1 cj2 cj3 cj4 cf0 cf1 cf2 cf3 cf4 ss0 ss1 ss2 sj0 sj1 sj2 sf0 sf1 sf2 hW6
  generalize hW8 : ((((((((W6.setCell ⟨w.heap.size + 2, 0, none⟩ (.slice ta ts.length tc)).setCell ⟨w.heap.size + 2, 1, none⟩ (.slice la xs.length lc)).setCell ⟨w.heap.size + 2, 2, none⟩ (.int .i64 0)).setCell ⟨w.heap.size + 2, 3, none⟩ (.int .i64 (l : Int))).setCell ⟨w.heap.size + 2, 4, none⟩ (.int .i64 (u : Int))).setCell ⟨w.heap.size + 2, 5, none⟩ (.slice ya vs.length yc)).setCell ⟨w.heap.size + 2, 6, none⟩ (.slice xa cs.length xc)).setCell ⟨w.heap.size + 2, 7, none⟩ (.string o)) = W8 at *
  clear hW8
  have HROW : Hid (∀ V : World, (∀ b, w.heap.size + 3 ≤ b → b < W8.heap.size → V.heap[b]? = W8.heap[b]?) → TsAt V (.slice ta ts.length tc) ts ∧ InsAt V (.slice la xs.length lc) xs ∧ VrAt V (.slice ya vs.length yc) vs ∧ ClAt V (.slice xa cs.length xc) cs) := fun V hV => by
    have e6 : ∀ b, w.heap.size + 3 ≤ b → b < w5.heap.size → V.heap[b]? = w5.heap[b]? := fun b h1 h2 => by
      have h3 := HB8.out.size
      rw [hV b h1 (by rw [HSZ8.out]; omega), HNE.out b (by omega)]
      exact HB8.out.block b h2
    obtain ⟨r1, r2⟩ := HVX5.out V (fun b h1 h2 => e6 b (by omega) h2)
    obtain ⟨r3, r4⟩ := HTX2.out V (fun b h1 h2 => by
      have h3 := HQ3.out.2.size
      have h4 := HQ4.out.2.size
      rw [e6 b (by omega) (by omega), HB5.out.block b (by omega), HQ4.out.2.block b (by omega) (fun e => by have := Option.some.inj e; omega)]
      exact HQ3.out.2.block b h2)
    exact ⟨r3, r4, r1, r2⟩
  clear HTX2 HVX5 HNE HB8 HSZ8 HQ3 HQ4 HB5
  obtain ⟨B8, hB8⟩ : ∃ B8, B8 = W8.heap.size := ⟨_, rfl⟩
  have HBW := hidOfJ hB8
  have z8 : w.heap.size + 3 ≤ B8 := by rw [hB8]; exact H8.out.size
  clear hB8 H5 H6 z1 z12 z2 z4 z45 z5
  refine (CN.out _ a2 b2 H8.out.rd ha2).mono ?_
  rintro e w9 ⟨n, a3, b3, rfl, hg9, hr9, hn9, ha3, hgood9, hbad9⟩
  have H9 := hidOfJ (H8.out.call hg9 hr9)
  have HT9 := hidOfJ (Jb.names_start (L := s.data.toList) (a0 := 0) rfl (by have := HSL.out; omega) (fun e => (HG1.out.1 e).2) (fun e => (HG1.out.2 e).resolve_left (by simp)) HG4.out.1 HG4.out.2 hgood9 hbad9)
  have HTWO : Hid (∀ j, Jb.isOf s.data.toList j → t1 = Cd.bytes j.ts j.xs j.ln j.en ∧ t2 = St.bytes j.vs j.cs j.o) := fun j hj => by
    obtain ⟨-, e2, e3, -⟩ := Jb.isOf_two hj (fun e => (HG1.out.1 e).2) (fun e => (HG1.out.2 e).resolve_left (by simp)) HG4.out.1 HG4.out.2
    exact ⟨e2, e3⟩
  have HK9 : Hid (∀ b, w.heap.size + 3 ≤ b → b < B8 → w9.heap[b]? = W8.heap[b]?) := fun b h1 h2 => hg9.block b (by rw [← HBW.out]; exact h2) (fun e => by have := Option.some.inj e; omega)
  have zz9 : B8 ≤ w9.heap.size := by rw [HBW.out]; exact hg9.size
  have HR9 : Hid (TR B8 w9 (.slice none 0 0) []) := TR.nil _ _
  clear hg9 hr9 hgood9 hbad9 H8 HG1 HG4 ha1 ha2
  go_wp2_with fail
  rename_i K9 hK9
  have TL1 : Hid (∀ (t1 t6 t8 t11 t12 t13 t14 t15 t16 t17 t18 t19 t20 t21 t22 t23 t24 t25 t26 t27 t28 t29 t30 t31 t32 t33 t34 t35 t36 t37 t38 t39 t40 t41 t42 t43 t44 t45 t46 t47 t48 t49 t50 t51 t52 t53 t54 t55 t56 t57 t58 t59 t60 t61 t62 t63 t64 t65 t66 t67 t68 t69 t70 t71 t72 t73 t74 t75 t76 t77 t78 t79 t80 t81 t82 t83 t84 t85 t86 t87 t88 t89 t90 t91 t92 t93 t94 t95 t96 t97 t98 t99 t100 t101 t102 t103 t104 t105 t106 t107 t108 t109 t110 t111 t112 : Value) (wt : World) (aT kT : Nat) (bT : Bool) (nv : Value) (ns : List ByteArray), JW 63 w wt s aT bT #[.slice ta ts.length tc, .slice la xs.length lc, .int .i64 0, .int .i64 (l : Int), .int .i64 (u : Int), .slice ya vs.length yc, .slice xa cs.length xc, .string o, nv, .slice none 0 0] → TR B8 wt nv ns → Rc.TL s.data.toList (Jb.HN s.data.toList) n kT aT ns bT → (bT = false → n ≤ 20 → n ≤ kT) → aT ≤ s.size → kT ≤ 50 → (∀ b, w.heap.size + 3 ≤ b → b < B8 → wt.heap[b]? = W8.heap[b]?) → B8 ≤ wt.heap.size → K9 { tmps := #[.string s, t1, .pointer (some ⟨w.heap.size, 0, none⟩), .bool false, .pointer (some ⟨w.heap.size + 1, 0, none⟩), .pointer (some ⟨w.heap.size + 2, 0, none⟩), t6, .bool ok1, t8, .bool ok2, .int .i64 (n : Int), t11, t12, t13, t14, t15, t16, t17, t18, t19, t20, t21, t22, t23, t24, t25, t26, t27, t28, t29, t30, t31, t32, t33, t34, t35, t36, t37, t38, t39, t40, t41, t42, t43, t44, t45, t46, t47, t48, t49, t50, t51, t52, t53, t54, t55, t56, t57, t58, t59, t60, t61, t62, t63, t64, t65, t66, t67, t68, t69, t70, t71, t72, t73, t74, t75, t76, t77, t78, t79, t80, t81, t82, t83, t84, t85, t86, t87, t88, t89, t90, t91, t92, t93, t94, t95, t96, t97, t98, t99, t100, t101, t102, t103, t104, t105, t106, t107, t108, t109, t110, t111, t112], defers := [] } wt) := by
    intro t1 t6 t8 t11 t12 t13 t14 t15 t16 t17 t18 t19 t20 t21 t22 t23 t24 t25 t26 t27 t28 t29 t30 t31 t32 t33 t34 t35 t36 t37 t38 t39 t40 t41 t42 t43 t44 t45 t46 t47 t48 t49 t50 t51 t52 t53 t54 t55 t56 t57 t58 t59 t60 t61 t62 t63 t64 t65 t66 t67 t68 t69 t70 t71 t72 t73 t74 t75 t76 t77 t78 t79 t80 t81 t82 t83 t84 t85 t86 t87 t88 t89 t90 t91 t92 t93 t94 t95 t96 t97 t98 t99 t100 t101 t102 t103 t104 t105 t106 t107 t108 t109 t110 t111 t112 wt aT kT bT nv ns g0 g1 g2 g3 g4 g5 g6 g7
    have HW := hidOfJ g0
    have HR := hidOfJ g1
    have HV1 := hidOfJ g2
    have HX1 := hidOfJ g3
    have HK := hidOfJ g6
    have HNK : Hid (ns.length ≤ 50) := by
      show ns.length ≤ 50
      have h1 : ns.length = kT := g2.len
      omega
    clear g0 g1 g2 g3 g5 g6 H9 HR9 HT9 HK9 ha3 zz9
    refine hK9 _ _ ?_
    go_wp2_with fail
    refine (CN.out _ aT bT HW.out.rd g4).mono ?_
    rintro e wB0 ⟨n2, aB, bB, rfl, hgB, hrB, hnB, haB, hgoodB, hbadB⟩
    have HTB := hidOfJ (Jb.lines_start HV1.out HX1.out (by have := HSL.out; omega) hgoodB hbadB)
    have HB := hidOfJ (HW.out.call hgB hrB)
    have HVB : Hid (TR B8 wB0 nv ns) := own_call HR.out hgB (by omega)
    have HKB : Hid (∀ b, w.heap.size + 3 ≤ b → b < B8 → wB0.heap[b]? = W8.heap[b]?) := fun b h1 h2 => by rw [hgB.block b (by omega) (fun e => by have := Option.some.inj e; omega)]; exact HK.out b h1 h2
    have zzB : B8 ≤ wB0.heap.size := Nat.le_trans g7 hgB.size
    obtain ⟨B9, hB9⟩ : ∃ B9, B9 = wB0.heap.size := ⟨_, rfl⟩
    have HB9 := hidOfJ hB9
    have HB9L : Hid (B8 ≤ B9) := by rw [hB9]; exact zzB
    have zzC : B9 ≤ wB0.heap.size := by rw [hB9]; exact Nat.le_refl _
    have HQB : Hid (∀ q, nv.ownBlock = some q → q < B9) := fun q hq => by rw [HB9.out]; exact (World.ownsRow.lt HVB.out q hq).2
    have HRB : Hid (TR B9 wB0 (.slice none 0 0) []) := TR.nil _ _
    clear hgB hrB hgoodB hbadB HW HR HK g4 g7 hB9
    go_wp2_with fail
    rename_i K8 hK8
    have TL2 : Hid (∀ (t1 t6 t8 t10 t11 t12 t13 t14 t15 t16 t17 t18 t19 t20 t21 t22 t23 t24 t25 t26 t27 t28 t29 t30 t31 t32 t33 t34 t35 t36 t37 t38 t39 t40 t41 t42 t43 t44 t45 t46 t47 t48 t49 t50 t51 t52 t53 t54 t55 t56 t57 t58 t59 t60 t61 t62 t63 t64 t65 t66 t67 t68 t69 t70 t71 t72 t73 t74 t75 t76 t77 t78 t79 t80 t81 t82 t83 t84 t85 t86 t87 t88 t89 t90 t91 t92 t93 t94 t95 t96 t97 t98 t99 t100 t101 t102 t103 t104 t105 t106 t107 t108 t109 t110 t111 t112 : Value) (wt : World) (aT kT nT : Nat) (bT : Bool) (mv : Value) (ls : List ByteArray), JW 63 w wt s aT bT #[.slice ta ts.length tc, .slice la xs.length lc, .int .i64 0, .int .i64 (l : Int), .int .i64 (u : Int), .slice ya vs.length yc, .slice xa cs.length xc, .string o, nv, mv] → TR B8 wt nv ns → TR B9 wt mv ls → Rc.TL s.data.toList (Jb.HL s.data.toList ns) nT kT aT ls bT → (bT = false → nT ≤ 20 → nT ≤ kT) → aT ≤ s.size → kT ≤ 50 → (∀ b, w.heap.size + 3 ≤ b → b < B8 → wt.heap[b]? = W8.heap[b]?) → B8 ≤ wt.heap.size → K8 { tmps := #[.string s, t1, .pointer (some ⟨w.heap.size, 0, none⟩), .bool false, .pointer (some ⟨w.heap.size + 1, 0, none⟩), .pointer (some ⟨w.heap.size + 2, 0, none⟩), t6, .bool ok1, t8, .bool ok2, t10, t11, t12, t13, t14, t15, t16, t17, t18, t19, t20, t21, t22, t23, t24, t25, t26, t27, t28, t29, t30, t31, t32, t33, t34, t35, t36, t37, t38, t39, t40, t41, t42, t43, t44, t45, t46, t47, t48, t49, t50, t51, t52, t53, t54, t55, t56, t57, t58, t59, t60, t61, t62, t63, t64, t65, t66, t67, t68, t69, t70, t71, t72, t73, t74, t75, t76, t77, t78, t79, t80, t81, t82, t83, t84, t85, t86, t87, t88, t89, t90, t91, t92, t93, t94, t95, t96, t97, t98, t99, t100, t101, t102, t103, t104, t105, t106, t107, t108, t109, t110, t111, t112], defers := [] } wt) := by
      intro x1 x6 x8 x10 x11 x12 x13 x14 x15 x16 x17 x18 x19 x20 x21 x22 x23 x24 x25 x26 x27 x28 x29 x30 x31 x32 x33 x34 x35 x36 x37 x38 x39 x40 x41 x42 x43 x44 x45 x46 x47 x48 x49 x50 x51 x52 x53 x54 x55 x56 x57 x58 x59 x60 x61 x62 x63 x64 x65 x66 x67 x68 x69 x70 x71 x72 x73 x74 x75 x76 x77 x78 x79 x80 x81 x82 x83 x84 x85 x86 x87 x88 x89 x90 x91 x92 x93 x94 x95 x96 x97 x98 x99 x100 x101 x102 x103 x104 x105 x106 x107 x108 x109 x110 x111 x112 wt aT kT nT bT mv ls HW HN HM HT HX HA HKN HKP HSZ
      have HK := Shut9.mk hK8
      have HK0 := Shut9.mk hK9
      clear hK8 hK9
      obtain ⟨na, nc, rfl⟩ := row_form HN
      obtain ⟨ma, mc, rfl⟩ := row_form HM
      have hat : Jb.At wt (.slice ta ts.length tc) (.slice la xs.length lc) (.slice ya vs.length yc) (.slice xa cs.length xc) (.slice na ns.length nc) (.slice ma ls.length mc) ⟨ts, xs, 0, (l : Int), (u : Int), vs, cs, o, ns, ls⟩ := by
        obtain ⟨r1, r2, r3, r4⟩ := HROW.out wt (fun b h1 h2 => HKP b h1 (by rw [HBW.out]; exact h2))
        exact ⟨r1, r2, r3, r4, TR.at HN, TR.at HM⟩
      have hsm : Jb.Sm ⟨ts, xs, 0, (l : Int), (u : Int), vs, cs, o, ns, ls⟩ := ⟨HSM2.out.1, HSM2.out.2.1, HSM2.out.2.2, HSM5.out.1, tl_smallk HV1.out, by show ns.length ≤ _; have := HNK.out; omega, tl_smallk HT, by show ls.length ≤ _; have := HT.len; omega⟩
      have AX := hidOfJ (jobAx HV1.out HX1.out HT HX HTWO.out HCM.out HSM5.out.2.2)
      obtain ⟨back, good, hbk, hgd, hbb⟩ := jobText_form ⟨ts, xs, 0, (l : Int), (u : Int), vs, cs, o, ns, ls⟩
      have CJ : Hid (Calls Tryz.prog 33 #[.agg #[.slice ta ts.length tc, .slice la xs.length lc, .int .i64 0, .int .i64 (l : Int), .int .i64 (u : Int), .slice ya vs.length yc, .slice xa cs.length xc, .string o, .slice na ns.length nc, .slice ma ls.length mc]] wt fun e w' => e = .returned (.tuple #[.string back, .bool good]) ∧ Below wt.heap.size wt w') := by rw [← hbk]; exact spJobText _ _ _ _ _ _ ⟨ts, xs, 0, (l : Int), (u : Int), vs, cs, o, ns, ls⟩ wt hat hsm
      have HG := hidOfJ (And.intro hgd hbb)
      have GW := hidOfJ HW
      have GN := hidOfJ (And.intro HN HM)
      have GK := hidOfJ HKP
      have GSZ := hidOfJ HSZ
      clear hat hsm hbk hgd hbb HN HM HT HX HA HKN HKP HSZ
      have y0 := (blk_cell HW.co 0).trans rfl
      have y1 := (blk_cell HW.co 1).trans rfl
      have y2 := (blk_cell HW.co 2).trans rfl
      have y3 := (blk_cell HW.co 3).trans rfl
      have y4 := (blk_cell HW.co 4).trans rfl
      have y5 := (blk_cell HW.co 5).trans rfl
      have y6 := (blk_cell HW.co 6).trans rfl
      have y7 := (blk_cell HW.co 7).trans rfl
      have y8 := (blk_cell HW.co 8).trans rfl
      have y9 := (blk_cell HW.co 9).trans rfl
      clear HW
      refine HK.out _ _ ?_
      clear HK HK0
      go_wp2_with fail
      refine CJ.out.mono ?_
      rintro e w7 ⟨rfl, hb7⟩
      have G7 := hidOfJ (GW.out.up hb7)
      have K7 : Hid (Kq (w.heap.size + 3) wt w7) := Kq.ofBelow hb7
      clear hb7 CJ GW y0 y1 y2 y3 y4 y5 y6 y7 y8 y9
      have c2 := (blk_cell G7.out.rd 2).trans rfl
      cases bT with
      | true =>
        have zc0 := (blk_cell G7.out.res 0).trans rfl
        have zf0 := blk_free G7.out.res 0
        have zh0 := blk_set G7.out.res 0 (.slice none 0 0)
        have zc1 := (blk_cell zh0 1).trans rfl
        have zf1 := blk_free zh0 1
        have zh1 := blk_set zh0 1 (.slice none 0 0)
        have zc2 := (blk_cell zh1 2).trans rfl
        have zf2 := blk_free zh1 2
        have zh2 := blk_set zh1 2 (.int .i64 0)
        have zc3 := (blk_cell zh2 3).trans rfl
        have zf3 := blk_free zh2 3
        have zh3 := blk_set zh2 3 (.int .i64 0)
        have zc4 := (blk_cell zh3 4).trans rfl
        have zf4 := blk_free zh3 4
        have zh4 := blk_set zh3 4 (.int .i64 0)
        have zc5 := (blk_cell zh4 5).trans rfl
        have zf5 := blk_free zh4 5
        have zh5 := blk_set zh4 5 (.slice none 0 0)
        have zc6 := (blk_cell zh5 6).trans rfl
        have zf6 := blk_free zh5 6
        have zh6 := blk_set zh5 6 (.slice none 0 0)
        have zc7 := (blk_cell zh6 7).trans rfl
        have zf7 := blk_free zh6 7
        have zh7 := blk_set zh6 7 (.string ⟨#[]⟩)
        have zc8 := (blk_cell zh7 8).trans rfl
        have zf8 := blk_free zh7 8
        have zh8 := blk_set zh7 8 (.slice none 0 0)
        have zc9 := (blk_cell zh8 9).trans rfl
        have zf9 := blk_free zh8 9
        have zh9 := blk_set zh8 9 (.slice none 0 0)
        have HZ := hidOfJ (blkSet10 G7.out.res (.slice none 0 0) (.slice none 0 0) (.int .i64 0) (.int .i64 0) (.int .i64 0) (.slice none 0 0) (.slice none 0 0) (.string ⟨#[]⟩) (.slice none 0 0) (.slice none 0 0))
        have HZB := hidOfJ ((((((((((G7.out.env.setCell (p := ⟨w.heap.size, 0, none⟩) (Nat.le_refl _) (.slice none 0 0)).setCell (p := ⟨w.heap.size, 1, none⟩) (Nat.le_refl _) (.slice none 0 0)).setCell (p := ⟨w.heap.size, 2, none⟩) (Nat.le_refl _) (.int .i64 0)).setCell (p := ⟨w.heap.size, 3, none⟩) (Nat.le_refl _) (.int .i64 0)).setCell (p := ⟨w.heap.size, 4, none⟩) (Nat.le_refl _) (.int .i64 0)).setCell (p := ⟨w.heap.size, 5, none⟩) (Nat.le_refl _) (.slice none 0 0)).setCell (p := ⟨w.heap.size, 6, none⟩) (Nat.le_refl _) (.slice none 0 0)).setCell (p := ⟨w.heap.size, 7, none⟩) (Nat.le_refl _) (.string ⟨#[]⟩)).setCell (p := ⟨w.heap.size, 8, none⟩) (Nat.le_refl _) (.slice none 0 0)).setCell (p := ⟨w.heap.size, 9, none⟩) (Nat.le_refl _) (.slice none 0 0))
        clear zh0 zh1 zh2 zh3 zh4 zh5 zh6 zh7 zh8 zh9
        go_wp2_with fail
        refine bodyPost_ret (res_job rfl _ _ w.heap.size (.slice none 0 0) (.slice none 0 0) (.int .i64 0) (.int .i64 0) (.int .i64 0) (.slice none 0 0) (.slice none 0 0) (.string ⟨#[]⟩) (.slice none 0 0) (.slice none 0 0) rfl HZ.out) rfl ?_
        exact ⟨HZB.out, .inr ⟨fun j hj => absurd (AX.out j hj).2.2.1 (by simp), rfl⟩⟩
      | false =>
        cases ok1 with
        | false =>
          have zc0 := (blk_cell G7.out.res 0).trans rfl
          have zf0 := blk_free G7.out.res 0
          have zh0 := blk_set G7.out.res 0 (.slice none 0 0)
          have zc1 := (blk_cell zh0 1).trans rfl
          have zf1 := blk_free zh0 1
          have zh1 := blk_set zh0 1 (.slice none 0 0)
          have zc2 := (blk_cell zh1 2).trans rfl
          have zf2 := blk_free zh1 2
          have zh2 := blk_set zh1 2 (.int .i64 0)
          have zc3 := (blk_cell zh2 3).trans rfl
          have zf3 := blk_free zh2 3
          have zh3 := blk_set zh2 3 (.int .i64 0)
          have zc4 := (blk_cell zh3 4).trans rfl
          have zf4 := blk_free zh3 4
          have zh4 := blk_set zh3 4 (.int .i64 0)
          have zc5 := (blk_cell zh4 5).trans rfl
          have zf5 := blk_free zh4 5
          have zh5 := blk_set zh4 5 (.slice none 0 0)
          have zc6 := (blk_cell zh5 6).trans rfl
          have zf6 := blk_free zh5 6
          have zh6 := blk_set zh5 6 (.slice none 0 0)
          have zc7 := (blk_cell zh6 7).trans rfl
          have zf7 := blk_free zh6 7
          have zh7 := blk_set zh6 7 (.string ⟨#[]⟩)
          have zc8 := (blk_cell zh7 8).trans rfl
          have zf8 := blk_free zh7 8
          have zh8 := blk_set zh7 8 (.slice none 0 0)
          have zc9 := (blk_cell zh8 9).trans rfl
          have zf9 := blk_free zh8 9
          have zh9 := blk_set zh8 9 (.slice none 0 0)
          have HZ := hidOfJ (blkSet10 G7.out.res (.slice none 0 0) (.slice none 0 0) (.int .i64 0) (.int .i64 0) (.int .i64 0) (.slice none 0 0) (.slice none 0 0) (.string ⟨#[]⟩) (.slice none 0 0) (.slice none 0 0))
          have HZB := hidOfJ ((((((((((G7.out.env.setCell (p := ⟨w.heap.size, 0, none⟩) (Nat.le_refl _) (.slice none 0 0)).setCell (p := ⟨w.heap.size, 1, none⟩) (Nat.le_refl _) (.slice none 0 0)).setCell (p := ⟨w.heap.size, 2, none⟩) (Nat.le_refl _) (.int .i64 0)).setCell (p := ⟨w.heap.size, 3, none⟩) (Nat.le_refl _) (.int .i64 0)).setCell (p := ⟨w.heap.size, 4, none⟩) (Nat.le_refl _) (.int .i64 0)).setCell (p := ⟨w.heap.size, 5, none⟩) (Nat.le_refl _) (.slice none 0 0)).setCell (p := ⟨w.heap.size, 6, none⟩) (Nat.le_refl _) (.slice none 0 0)).setCell (p := ⟨w.heap.size, 7, none⟩) (Nat.le_refl _) (.string ⟨#[]⟩)).setCell (p := ⟨w.heap.size, 8, none⟩) (Nat.le_refl _) (.slice none 0 0)).setCell (p := ⟨w.heap.size, 9, none⟩) (Nat.le_refl _) (.slice none 0 0))
          clear zh0 zh1 zh2 zh3 zh4 zh5 zh6 zh7 zh8 zh9
          go_wp2_with fail
          refine bodyPost_ret (res_job rfl _ _ w.heap.size (.slice none 0 0) (.slice none 0 0) (.int .i64 0) (.int .i64 0) (.int .i64 0) (.slice none 0 0) (.slice none 0 0) (.string ⟨#[]⟩) (.slice none 0 0) (.slice none 0 0) rfl HZ.out) rfl ?_
          exact ⟨HZB.out, .inr ⟨fun j hj => absurd (AX.out j hj).1 (by simp), rfl⟩⟩
        | true =>
          cases ok2 with
          | false =>
            have zc0 := (blk_cell G7.out.res 0).trans rfl
            have zf0 := blk_free G7.out.res 0
            have zh0 := blk_set G7.out.res 0 (.slice none 0 0)
            have zc1 := (blk_cell zh0 1).trans rfl
            have zf1 := blk_free zh0 1
            have zh1 := blk_set zh0 1 (.slice none 0 0)
            have zc2 := (blk_cell zh1 2).trans rfl
            have zf2 := blk_free zh1 2
            have zh2 := blk_set zh1 2 (.int .i64 0)
            have zc3 := (blk_cell zh2 3).trans rfl
            have zf3 := blk_free zh2 3
            have zh3 := blk_set zh2 3 (.int .i64 0)
            have zc4 := (blk_cell zh3 4).trans rfl
            have zf4 := blk_free zh3 4
            have zh4 := blk_set zh3 4 (.int .i64 0)
            have zc5 := (blk_cell zh4 5).trans rfl
            have zf5 := blk_free zh4 5
            have zh5 := blk_set zh4 5 (.slice none 0 0)
            have zc6 := (blk_cell zh5 6).trans rfl
            have zf6 := blk_free zh5 6
            have zh6 := blk_set zh5 6 (.slice none 0 0)
            have zc7 := (blk_cell zh6 7).trans rfl
            have zf7 := blk_free zh6 7
            have zh7 := blk_set zh6 7 (.string ⟨#[]⟩)
            have zc8 := (blk_cell zh7 8).trans rfl
            have zf8 := blk_free zh7 8
            have zh8 := blk_set zh7 8 (.slice none 0 0)
            have zc9 := (blk_cell zh8 9).trans rfl
            have zf9 := blk_free zh8 9
            have zh9 := blk_set zh8 9 (.slice none 0 0)
            have HZ := hidOfJ (blkSet10 G7.out.res (.slice none 0 0) (.slice none 0 0) (.int .i64 0) (.int .i64 0) (.int .i64 0) (.slice none 0 0) (.slice none 0 0) (.string ⟨#[]⟩) (.slice none 0 0) (.slice none 0 0))
            have HZB := hidOfJ ((((((((((G7.out.env.setCell (p := ⟨w.heap.size, 0, none⟩) (Nat.le_refl _) (.slice none 0 0)).setCell (p := ⟨w.heap.size, 1, none⟩) (Nat.le_refl _) (.slice none 0 0)).setCell (p := ⟨w.heap.size, 2, none⟩) (Nat.le_refl _) (.int .i64 0)).setCell (p := ⟨w.heap.size, 3, none⟩) (Nat.le_refl _) (.int .i64 0)).setCell (p := ⟨w.heap.size, 4, none⟩) (Nat.le_refl _) (.int .i64 0)).setCell (p := ⟨w.heap.size, 5, none⟩) (Nat.le_refl _) (.slice none 0 0)).setCell (p := ⟨w.heap.size, 6, none⟩) (Nat.le_refl _) (.slice none 0 0)).setCell (p := ⟨w.heap.size, 7, none⟩) (Nat.le_refl _) (.string ⟨#[]⟩)).setCell (p := ⟨w.heap.size, 8, none⟩) (Nat.le_refl _) (.slice none 0 0)).setCell (p := ⟨w.heap.size, 9, none⟩) (Nat.le_refl _) (.slice none 0 0))
            clear zh0 zh1 zh2 zh3 zh4 zh5 zh6 zh7 zh8 zh9
            go_wp2_with fail
            refine bodyPost_ret (res_job rfl _ _ w.heap.size (.slice none 0 0) (.slice none 0 0) (.int .i64 0) (.int .i64 0) (.int .i64 0) (.slice none 0 0) (.slice none 0 0) (.string ⟨#[]⟩) (.slice none 0 0) (.slice none 0 0) rfl HZ.out) rfl ?_
            exact ⟨HZB.out, .inr ⟨fun j hj => absurd (AX.out j hj).2.1 (by simp), rfl⟩⟩
          | true =>
            cases good with
            | false =>
              have zc0 := (blk_cell G7.out.res 0).trans rfl
              have zf0 := blk_free G7.out.res 0
              have zh0 := blk_set G7.out.res 0 (.slice none 0 0)
              have zc1 := (blk_cell zh0 1).trans rfl
              have zf1 := blk_free zh0 1
              have zh1 := blk_set zh0 1 (.slice none 0 0)
              have zc2 := (blk_cell zh1 2).trans rfl
              have zf2 := blk_free zh1 2
              have zh2 := blk_set zh1 2 (.int .i64 0)
              have zc3 := (blk_cell zh2 3).trans rfl
              have zf3 := blk_free zh2 3
              have zh3 := blk_set zh2 3 (.int .i64 0)
              have zc4 := (blk_cell zh3 4).trans rfl
              have zf4 := blk_free zh3 4
              have zh4 := blk_set zh3 4 (.int .i64 0)
              have zc5 := (blk_cell zh4 5).trans rfl
              have zf5 := blk_free zh4 5
              have zh5 := blk_set zh4 5 (.slice none 0 0)
              have zc6 := (blk_cell zh5 6).trans rfl
              have zf6 := blk_free zh5 6
              have zh6 := blk_set zh5 6 (.slice none 0 0)
              have zc7 := (blk_cell zh6 7).trans rfl
              have zf7 := blk_free zh6 7
              have zh7 := blk_set zh6 7 (.string ⟨#[]⟩)
              have zc8 := (blk_cell zh7 8).trans rfl
              have zf8 := blk_free zh7 8
              have zh8 := blk_set zh7 8 (.slice none 0 0)
              have zc9 := (blk_cell zh8 9).trans rfl
              have zf9 := blk_free zh8 9
              have zh9 := blk_set zh8 9 (.slice none 0 0)
              have HZ := hidOfJ (blkSet10 G7.out.res (.slice none 0 0) (.slice none 0 0) (.int .i64 0) (.int .i64 0) (.int .i64 0) (.slice none 0 0) (.slice none 0 0) (.string ⟨#[]⟩) (.slice none 0 0) (.slice none 0 0))
              have HZB := hidOfJ ((((((((((G7.out.env.setCell (p := ⟨w.heap.size, 0, none⟩) (Nat.le_refl _) (.slice none 0 0)).setCell (p := ⟨w.heap.size, 1, none⟩) (Nat.le_refl _) (.slice none 0 0)).setCell (p := ⟨w.heap.size, 2, none⟩) (Nat.le_refl _) (.int .i64 0)).setCell (p := ⟨w.heap.size, 3, none⟩) (Nat.le_refl _) (.int .i64 0)).setCell (p := ⟨w.heap.size, 4, none⟩) (Nat.le_refl _) (.int .i64 0)).setCell (p := ⟨w.heap.size, 5, none⟩) (Nat.le_refl _) (.slice none 0 0)).setCell (p := ⟨w.heap.size, 6, none⟩) (Nat.le_refl _) (.slice none 0 0)).setCell (p := ⟨w.heap.size, 7, none⟩) (Nat.le_refl _) (.string ⟨#[]⟩)).setCell (p := ⟨w.heap.size, 8, none⟩) (Nat.le_refl _) (.slice none 0 0)).setCell (p := ⟨w.heap.size, 9, none⟩) (Nat.le_refl _) (.slice none 0 0))
              clear zh0 zh1 zh2 zh3 zh4 zh5 zh6 zh7 zh8 zh9
              go_wp2_with fail
              refine bodyPost_ret (res_job rfl _ _ w.heap.size (.slice none 0 0) (.slice none 0 0) (.int .i64 0) (.int .i64 0) (.int .i64 0) (.slice none 0 0) (.slice none 0 0) (.string ⟨#[]⟩) (.slice none 0 0) (.slice none 0 0) rfl HZ.out) rfl ?_
              exact ⟨HZB.out, .inr ⟨fun j hj => by have h := (AX.out j hj).2.2.2; rw [h] at hj; have h2 := HG.out.1; rw [hj.1] at h2; simp at h2, rfl⟩⟩
            | true =>
              by_cases hE : back.toList = s.toList
              · have nE : (!(back.toList == s.toList)) = false := by simp [hE]
                have y0 := (blk_cell G7.out.co 0).trans rfl
                have y1 := (blk_cell G7.out.co 1).trans rfl
                have y2 := (blk_cell G7.out.co 2).trans rfl
                have y3 := (blk_cell G7.out.co 3).trans rfl
                have y4 := (blk_cell G7.out.co 4).trans rfl
                have y5 := (blk_cell G7.out.co 5).trans rfl
                have y6 := (blk_cell G7.out.co 6).trans rfl
                have y7 := (blk_cell G7.out.co 7).trans rfl
                have y8 := (blk_cell G7.out.co 8).trans rfl
                have y9 := (blk_cell G7.out.co 9).trans rfl
                have zc0 := (blk_cell G7.out.res 0).trans rfl
                have zf0 := blk_free G7.out.res 0
                have zh0 := blk_set G7.out.res 0 (.slice ta ts.length tc)
                have zc1 := (blk_cell zh0 1).trans rfl
                have zf1 := blk_free zh0 1
                have zh1 := blk_set zh0 1 (.slice la xs.length lc)
                have zc2 := (blk_cell zh1 2).trans rfl
                have zf2 := blk_free zh1 2
                have zh2 := blk_set zh1 2 (.int .i64 0)
                have zc3 := (blk_cell zh2 3).trans rfl
                have zf3 := blk_free zh2 3
                have zh3 := blk_set zh2 3 (.int .i64 (l : Int))
                have zc4 := (blk_cell zh3 4).trans rfl
                have zf4 := blk_free zh3 4
                have zh4 := blk_set zh3 4 (.int .i64 (u : Int))
                have zc5 := (blk_cell zh4 5).trans rfl
                have zf5 := blk_free zh4 5
                have zh5 := blk_set zh4 5 (.slice ya vs.length yc)
                have zc6 := (blk_cell zh5 6).trans rfl
                have zf6 := blk_free zh5 6
                have zh6 := blk_set zh5 6 (.slice xa cs.length xc)
                have zc7 := (blk_cell zh6 7).trans rfl
                have zf7 := blk_free zh6 7
                have zh7 := blk_set zh6 7 (.string o)
                have zc8 := (blk_cell zh7 8).trans rfl
                have zf8 := blk_free zh7 8
                have zh8 := blk_set zh7 8 (.slice na ns.length nc)
                have zc9 := (blk_cell zh8 9).trans rfl
                have zf9 := blk_free zh8 9
                have zh9 := blk_set zh8 9 (.slice ma ls.length mc)
                have HZ := hidOfJ (blkSet10 G7.out.res (.slice ta ts.length tc) (.slice la xs.length lc) (.int .i64 0) (.int .i64 (l : Int)) (.int .i64 (u : Int)) (.slice ya vs.length yc) (.slice xa cs.length xc) (.string o) (.slice na ns.length nc) (.slice ma ls.length mc))
                have HZB := hidOfJ ((((((((((G7.out.env.setCell (p := ⟨w.heap.size, 0, none⟩) (Nat.le_refl _) (.slice ta ts.length tc)).setCell (p := ⟨w.heap.size, 1, none⟩) (Nat.le_refl _) (.slice la xs.length lc)).setCell (p := ⟨w.heap.size, 2, none⟩) (Nat.le_refl _) (.int .i64 0)).setCell (p := ⟨w.heap.size, 3, none⟩) (Nat.le_refl _) (.int .i64 (l : Int))).setCell (p := ⟨w.heap.size, 4, none⟩) (Nat.le_refl _) (.int .i64 (u : Int))).setCell (p := ⟨w.heap.size, 5, none⟩) (Nat.le_refl _) (.slice ya vs.length yc)).setCell (p := ⟨w.heap.size, 6, none⟩) (Nat.le_refl _) (.slice xa cs.length xc)).setCell (p := ⟨w.heap.size, 7, none⟩) (Nat.le_refl _) (.string o)).setCell (p := ⟨w.heap.size, 8, none⟩) (Nat.le_refl _) (.slice na ns.length nc)).setCell (p := ⟨w.heap.size, 9, none⟩) (Nat.le_refl _) (.slice ma ls.length mc))
                have KV := hidOfJ (K7.out.trans (Kq.set10 (show w.heap.size < w.heap.size + 3 by omega) (.slice ta ts.length tc) (.slice la xs.length lc) (.int .i64 0) (.int .i64 (l : Int)) (.int .i64 (u : Int)) (.slice ya vs.length yc) (.slice xa cs.length xc) (.string o) (.slice na ns.length nc) (.slice ma ls.length mc)))
                clear zh0 zh1 zh2 zh3 zh4 zh5 zh6 zh7 zh8 zh9
                have HE := hidOfJ hE
                clear hE
                go_wp2_with fail
                refine bodyPost_ret (res_job rfl _ _ w.heap.size (.slice ta ts.length tc) (.slice la xs.length lc) (.int .i64 0) (.int .i64 (l : Int)) (.int .i64 (u : Int)) (.slice ya vs.length yc) (.slice xa cs.length xc) (.string o) (.slice na ns.length nc) (.slice ma ls.length mc) rfl HZ.out) rfl ?_
                have hyes : Jb.isOf s.data.toList ⟨ts, xs, 0, (l : Int), (u : Int), vs, cs, o, ns, ls⟩ := by
                  have e1 : back = s := seqj HE.out
                  have e2 := HG.out.2 (by simp)
                  refine ⟨HG.out.1.symm, ?_, ?_⟩
                  · have e5 := congrArg (fun b : ByteArray => b.data.toList) (e1.symm.trans e2)
                    simpa using e5.symm
                  · have e3 := HSM5.out.2.1
                    have e4 : St.bytes vs cs o = t2 := by simpa using e3
                    show (St.bytes vs cs o).length ≤ 20000
                    rw [e4]; exact hl4
                refine ⟨HZB.out, .inl ⟨.slice ta ts.length tc, .slice la xs.length lc, .slice ya vs.length yc, .slice xa cs.length xc, .slice na ns.length nc, .slice ma ls.length mc, ⟨ts, xs, 0, (l : Int), (u : Int), vs, cs, o, ns, ls⟩, hyes, rfl, ?_⟩⟩
                obtain ⟨r1, r2, r3, r4⟩ := HROW.out _ (fun b h1 h2 => (KV.out.2 b h1 (Nat.lt_of_lt_of_le (by rw [HBW.out]; exact h2) GSZ.out)).trans (GK.out b h1 (by rw [HBW.out]; exact h2)))
                exact ⟨r1, r2, r3, r4, TR.at (row_kq GN.out.1 KV.out z8), TR.at (row_kq GN.out.2 KV.out (Nat.le_trans z8 HB9L.out))⟩
              · have nE : (!(back.toList == s.toList)) = true := by simp [hE]
                have HE := hidOfJ hE
                clear hE
                have zc0 := (blk_cell G7.out.res 0).trans rfl
                have zf0 := blk_free G7.out.res 0
                have zh0 := blk_set G7.out.res 0 (.slice none 0 0)
                have zc1 := (blk_cell zh0 1).trans rfl
                have zf1 := blk_free zh0 1
                have zh1 := blk_set zh0 1 (.slice none 0 0)
                have zc2 := (blk_cell zh1 2).trans rfl
                have zf2 := blk_free zh1 2
                have zh2 := blk_set zh1 2 (.int .i64 0)
                have zc3 := (blk_cell zh2 3).trans rfl
                have zf3 := blk_free zh2 3
                have zh3 := blk_set zh2 3 (.int .i64 0)
                have zc4 := (blk_cell zh3 4).trans rfl
                have zf4 := blk_free zh3 4
                have zh4 := blk_set zh3 4 (.int .i64 0)
                have zc5 := (blk_cell zh4 5).trans rfl
                have zf5 := blk_free zh4 5
                have zh5 := blk_set zh4 5 (.slice none 0 0)
                have zc6 := (blk_cell zh5 6).trans rfl
                have zf6 := blk_free zh5 6
                have zh6 := blk_set zh5 6 (.slice none 0 0)
                have zc7 := (blk_cell zh6 7).trans rfl
                have zf7 := blk_free zh6 7
                have zh7 := blk_set zh6 7 (.string ⟨#[]⟩)
                have zc8 := (blk_cell zh7 8).trans rfl
                have zf8 := blk_free zh7 8
                have zh8 := blk_set zh7 8 (.slice none 0 0)
                have zc9 := (blk_cell zh8 9).trans rfl
                have zf9 := blk_free zh8 9
                have zh9 := blk_set zh8 9 (.slice none 0 0)
                have HZ := hidOfJ (blkSet10 G7.out.res (.slice none 0 0) (.slice none 0 0) (.int .i64 0) (.int .i64 0) (.int .i64 0) (.slice none 0 0) (.slice none 0 0) (.string ⟨#[]⟩) (.slice none 0 0) (.slice none 0 0))
                have HZB := hidOfJ ((((((((((G7.out.env.setCell (p := ⟨w.heap.size, 0, none⟩) (Nat.le_refl _) (.slice none 0 0)).setCell (p := ⟨w.heap.size, 1, none⟩) (Nat.le_refl _) (.slice none 0 0)).setCell (p := ⟨w.heap.size, 2, none⟩) (Nat.le_refl _) (.int .i64 0)).setCell (p := ⟨w.heap.size, 3, none⟩) (Nat.le_refl _) (.int .i64 0)).setCell (p := ⟨w.heap.size, 4, none⟩) (Nat.le_refl _) (.int .i64 0)).setCell (p := ⟨w.heap.size, 5, none⟩) (Nat.le_refl _) (.slice none 0 0)).setCell (p := ⟨w.heap.size, 6, none⟩) (Nat.le_refl _) (.slice none 0 0)).setCell (p := ⟨w.heap.size, 7, none⟩) (Nat.le_refl _) (.string ⟨#[]⟩)).setCell (p := ⟨w.heap.size, 8, none⟩) (Nat.le_refl _) (.slice none 0 0)).setCell (p := ⟨w.heap.size, 9, none⟩) (Nat.le_refl _) (.slice none 0 0))
                clear zh0 zh1 zh2 zh3 zh4 zh5 zh6 zh7 zh8 zh9
                go_wp2_with fail
                refine bodyPost_ret (res_job rfl _ _ w.heap.size (.slice none 0 0) (.slice none 0 0) (.int .i64 0) (.int .i64 0) (.int .i64 0) (.slice none 0 0) (.slice none 0 0) (.string ⟨#[]⟩) (.slice none 0 0) (.slice none 0 0) rfl HZ.out) rfl ?_
                exact ⟨HZB.out, .inr ⟨fun j hj => by have h := (AX.out j hj).2.2.2; rw [h] at hj; have e9 := HG.out.2 (by simp); rw [hj.2.1] at e9; exact HE.out (by rw [e9]), rfl⟩⟩
    clear hK8
    go_loopw [12] (fun j wr => ∃ (k a : Nat) (bad : Bool) (mv : Value) (ls : List ByteArray), j = .int .i64 (k : Int) ∧ k ≤ 50 ∧ a ≤ s.size ∧ B8 ≤ wr.heap.size ∧ Hid (JW 63 w wr s a bad #[.slice ta ts.length tc, .slice la xs.length lc, .int .i64 0, .int .i64 (l : Int), .int .i64 (u : Int), .slice ya vs.length yc, .slice xa cs.length xc, .string o, nv, mv]) ∧ Hid (TR B9 wr mv ls) ∧ Hid (Rc.TL s.data.toList (Jb.HL s.data.toList ns) n2 k a ls bad) ∧ Hid (∀ b, w.heap.size + 3 ≤ b → b < B8 → wr.heap[b]? = W8.heap[b]?) ∧ Hid (TR B8 wr nv ns) ∧ B9 ≤ wr.heap.size) (fun j _ => 50 - (intOf j).toNat)
    case atStart => exact ⟨0, aB, bB, _, [], rfl, by omega, haB, zzB, HB.out, HRB.out, HTB.out, HKB.out, HVB.out, zzC⟩
    case round =>
      clear HB HRB HTB HKB HVB haB zzB zzC HB9
      obtain ⟨k, a, bad, mv, ls, rfl, hk, ha, hBr, HW, HR, HT, HK, HV, hB9r⟩ := hrel
      have c2 := (blk_cell HW.out.rd 2).trans rfl
      by_cases hkn : k < n2
      · have d1 : decide ((k : Int) < (n2 : Int)) = true := decide_eq_true (by omega)
        by_cases hk1 : k < 50
        · have d2 : decide ((k : Int) < 50) = true := decide_eq_true (by omega)
          cases bad with
          | true =>
            go_wp2_with fail
            exact TL2.out _ _ _ _ _ _ _ _ _ _ _ _ _ _ _ _ _ _ _ _ _ _ _ _ _ _ _ _ _ _ _ _ _ _ _ _ _ _ _ _ _ _ _ _ _ _ _ _ _ _ _ _ _ _ _ _ _ _ _ _ _ _ _ _ _ _ _ _ _ _ _ _ _ _ _ _ _ _ _ _ _ _ _ _ _ _ _ _ _ _ _ _ _ _ _ _ _ _ _ _ _ _ _ _ _ _ _ a k n2 true mv ls HW.out HV.out HR.out HT.out (fun e => by cases e) ha hk HK.out hBr
          | false =>
            have c0 : wr.cell? ⟨w.heap.size + 2, 9, none⟩ = some mv := (blk_cell HW.out.co 9).trans rfl
            have hlk := HT.out.len
            go_wp2_with fail
            go_region_law ((first | (refine TR.step (B := B9) (W := wA.alloc (.cells #[.string ⟨t.toArray⟩] 9)) (v := mv) (ts := ls) (World.ownsRow.alloc HR1.out _) (by rfl) _ _ (by rfl) (by rfl) ⟨t.toArray⟩ wA.heap.size (heap_alloc_new wA _) (by rfl) (by omega) (by have h1 := hg1.size; have h3 : wr.drew.heap.size = wr.heap.size := rfl; simp; omega) ?_; intro q cap wB hp2 hg2 hq2 hl2; have HW2 : Hid (JW 63 w wB s a' bad' #[.slice ta ts.length tc, .slice la xs.length lc, .int .i64 0, .int .i64 (l : Int), .int .i64 (u : Int), .slice ya vs.length yc, .slice xa cs.length xc, .string o, nv, mv]) := (HW1.out.alloc _).grow hg2 (fun k hk => by have := (World.ownsRow.lt HR1.out k hk).1; have := HB9L.out; omega); have y0 := (blk_cell HW2.out.co 9).trans rfl; have yf := blk_free HW2.out.co 9) | (go_simp; go_at_call 30; refine (CS.out wr.drew a false HW.out.drew.rd ha).mono ?_; rintro e wA ⟨t, a', bad', rfl, hg1, hr1, ht1, ha', hgood, hbad⟩; have HW1 : Hid (JW 63 w wA s a' bad' #[.slice ta ts.length tc, .slice la xs.length lc, .int .i64 0, .int .i64 (l : Int), .int .i64 (u : Int), .slice ya vs.length yc, .slice xa cs.length xc, .string o, nv, mv]) := HW.out.drew.call hg1 hr1; have HR1 : Hid (TR B9 wA mv ls) := own_call (World.ownsRow.drew HR.out) hg1 (by have := HB9L.out; omega); have HV1 : Hid (TR B8 wA nv ns) := own_call (World.ownsRow.drew HV.out) hg1 (by omega); have x1 : wA.cell? ⟨w.heap.size + 2, 9, none⟩ = some mv := (blk_cell HW1.out.co 9).trans rfl; have x2 : ∀ o : Obj, (wA.alloc o).cell? ⟨w.heap.size + 2, 9, none⟩ = some mv := fun o => (blk_cell (HW1.out.alloc o).co 9).trans rfl; dsimp only)))
            all_goals
              have HN := hidOfJ (HW2.out.setC (C' := #[.slice ta ts.length tc, .slice la xs.length lc, .int .i64 0, .int .i64 (l : Int), .int .i64 (u : Int), .slice ya vs.length yc, .slice xa cs.length xc, .string o, nv, .slice (some ⟨q, 0, none⟩) (ls.length + 1) cap]) 9 (.slice (some ⟨q, 0, none⟩) (ls.length + 1) cap) rfl)
              have HRN := hidOfJ (own_set hp2 (w.heap.size + 2) 9 (by have := HB9L.out; omega) (.slice (some ⟨q, 0, none⟩) (ls.length + 1) cap))
              have HTN := hidOfJ (HT.out.next hkn (by have := HSL.out; omega) ht1 (fun e => (hgood e).2) (fun e => (hbad e).resolve_left (by simp)))
              have HVN := hidOfJ (own_set (own_keep (World.ownsRow.alloc HV1.out _) (fun q9 hq9 => hg2.block q9 (World.ownsRow.lt (World.ownsRow.alloc HV1.out _) q9 hq9).2 (fun e => by have := (World.ownsRow.lt HR1.out q9 e.symm).1; have := HQB.out q9 hq9; omega))) (w.heap.size + 2) 9 (by omega) (.slice (some ⟨q, 0, none⟩) (ls.length + 1) cap))
              have hzz9 : B9 ≤ (wB.setCell ⟨w.heap.size + 2, 9, none⟩ (.slice (some ⟨q, 0, none⟩) (ls.length + 1) cap)).heap.size := by have h1 := hg1.size; have h2 := hg2.size; simp [World.setCell] at h2 ⊢; have h3 : wr.drew.heap.size = wr.heap.size := rfl; omega
              have HKN : Hid (∀ b, w.heap.size + 3 ≤ b → b < B8 → (wB.setCell ⟨w.heap.size + 2, 9, none⟩ (.slice (some ⟨q, 0, none⟩) (ls.length + 1) cap)).heap[b]? = W8.heap[b]?) := fun b h1 h2 => by
                have h3 := hg1.size
                have h4 : wr.drew.heap.size = wr.heap.size := rfl
                rw [Below.heap_setCell _ _ _ _ (by show b ≠ w.heap.size + 2; omega), hg2.block b (by simp; omega) (fun e => by have := (World.ownsRow.lt HR1.out b e.symm).1; have := HB9L.out; omega)]
                have h5 : (wA.alloc (.cells #[.string ⟨t.toArray⟩] 9)).heap[b]? = wA.heap[b]? := ((Below.refl wA.heap.size wA).alloc (Nat.le_refl _) _).block b (by omega)
                rw [h5, hg1.block b (by omega) (fun e => by have := Option.some.inj e; omega)]
                exact HK.out b h1 h2
              have hzz : B8 ≤ (wB.setCell ⟨w.heap.size + 2, 9, none⟩ (.slice (some ⟨q, 0, none⟩) (ls.length + 1) cap)).heap.size := by have h1 := hg1.size; have h2 := hg2.size; simp [World.setCell] at h2 ⊢; have h3 : wr.drew.heap.size = wr.heap.size := rfl; omega
              clear hp2 hg2 hq2 hl2 x1 x2 c0 c2 HW2 HR1 HW1 HW HR HT hg1 hr1 hgood hbad HK
              go_wp2_with fail
              go_roundw
              case rel => subst hlk; exact ⟨ls.length + 1, a', bad', _, _, by go_num, by omega, ha', hzz, HN, HRN, HTN, HKN, HVN.out, hzz9⟩
              case measure => simp [intOf]; omega
        · have d2 : decide ((k : Int) < 50) = false := decide_eq_false (by omega)
          clear c2
          go_wp2_with fail
          exact TL2.out _ _ _ _ _ _ _ _ _ _ _ _ _ _ _ _ _ _ _ _ _ _ _ _ _ _ _ _ _ _ _ _ _ _ _ _ _ _ _ _ _ _ _ _ _ _ _ _ _ _ _ _ _ _ _ _ _ _ _ _ _ _ _ _ _ _ _ _ _ _ _ _ _ _ _ _ _ _ _ _ _ _ _ _ _ _ _ _ _ _ _ _ _ _ _ _ _ _ _ _ _ _ _ _ _ _ _ a k n2 bad mv ls HW.out HV.out HR.out HT.out (fun _ h => by omega) ha hk HK.out hBr
      · have d1 : decide ((k : Int) < (n2 : Int)) = false := decide_eq_false (by omega)
        clear c2
        go_wp2_with fail
        exact TL2.out _ _ _ _ _ _ _ _ _ _ _ _ _ _ _ _ _ _ _ _ _ _ _ _ _ _ _ _ _ _ _ _ _ _ _ _ _ _ _ _ _ _ _ _ _ _ _ _ _ _ _ _ _ _ _ _ _ _ _ _ _ _ _ _ _ _ _ _ _ _ _ _ _ _ _ _ _ _ _ _ _ _ _ _ _ _ _ _ _ _ _ _ _ _ _ _ _ _ _ _ _ _ _ _ _ _ _ a k n2 bad mv ls HW.out HV.out HR.out HT.out (fun _ _ => by omega) ha hk HK.out hBr
  clear hK9
  go_loopw [11] (fun j wr => ∃ (k a : Nat) (bad : Bool) (nv : Value) (ns : List ByteArray), j = .int .i64 (k : Int) ∧ k ≤ 50 ∧ a ≤ s.size ∧ B8 ≤ wr.heap.size ∧ Hid (JW 63 w wr s a bad #[.slice ta ts.length tc, .slice la xs.length lc, .int .i64 0, .int .i64 (l : Int), .int .i64 (u : Int), .slice ya vs.length yc, .slice xa cs.length xc, .string o, nv, .slice none 0 0]) ∧ Hid (TR B8 wr nv ns) ∧ Hid (Rc.TL s.data.toList (Jb.HN s.data.toList) n k a ns bad) ∧ Hid (∀ b, w.heap.size + 3 ≤ b → b < B8 → wr.heap[b]? = W8.heap[b]?)) (fun j _ => 50 - (intOf j).toNat)
  case atStart => exact ⟨0, a3, b3, _, [], rfl, by omega, ha3, zz9, H9.out, HR9.out, HT9.out, HK9.out⟩
  case round =>
    clear H9 HR9 HT9 HK9 ha3 zz9
    obtain ⟨k, a, bad, nv, ns, rfl, hk, ha, hBr, HW, HR, HT, HK⟩ := hrel
    have c2 := (blk_cell HW.out.rd 2).trans rfl
    by_cases hkn : k < n
    · have d1 : decide ((k : Int) < (n : Int)) = true := decide_eq_true (by omega)
      by_cases hk1 : k < 50
      · have d2 : decide ((k : Int) < 50) = true := decide_eq_true (by omega)
        cases bad with
        | true =>
          go_wp2_with fail
          exact TL1.out _ _ _ _ _ _ _ _ _ _ _ _ _ _ _ _ _ _ _ _ _ _ _ _ _ _ _ _ _ _ _ _ _ _ _ _ _ _ _ _ _ _ _ _ _ _ _ _ _ _ _ _ _ _ _ _ _ _ _ _ _ _ _ _ _ _ _ _ _ _ _ _ _ _ _ _ _ _ _ _ _ _ _ _ _ _ _ _ _ _ _ _ _ _ _ _ _ _ _ _ _ _ _ _ _ _ a k true nv ns HW.out HR.out HT.out (fun e => by cases e) ha hk HK.out hBr
        | false =>
          have c0 : wr.cell? ⟨w.heap.size + 2, 8, none⟩ = some nv := (blk_cell HW.out.co 8).trans rfl
          have hlk := HT.out.len
          go_wp2_with fail
          go_region_law ((first | (refine TR.step (B := B8) (W := wA.alloc (.cells #[.string ⟨t.toArray⟩] 9)) (v := nv) (ts := ns) (World.ownsRow.alloc HR1.out _) (by rfl) _ _ (by rfl) (by rfl) ⟨t.toArray⟩ wA.heap.size (heap_alloc_new wA _) (by rfl) (by omega) (by have h1 := hg1.size; have h3 : wr.drew.heap.size = wr.heap.size := rfl; simp; omega) ?_; intro q cap wB hp2 hg2 hq2 hl2; have HW2 : Hid (JW 63 w wB s a' bad' #[.slice ta ts.length tc, .slice la xs.length lc, .int .i64 0, .int .i64 (l : Int), .int .i64 (u : Int), .slice ya vs.length yc, .slice xa cs.length xc, .string o, nv, .slice none 0 0]) := (HW1.out.alloc _).grow hg2 (fun k hk => by have := (World.ownsRow.lt HR1.out k hk).1; omega); have y0 := (blk_cell HW2.out.co 8).trans rfl; have yf := blk_free HW2.out.co 8) | (go_simp; go_at_call 30; refine (CS.out wr.drew a false HW.out.drew.rd ha).mono ?_; rintro e wA ⟨t, a', bad', rfl, hg1, hr1, ht1, ha', hgood, hbad⟩; have HW1 : Hid (JW 63 w wA s a' bad' #[.slice ta ts.length tc, .slice la xs.length lc, .int .i64 0, .int .i64 (l : Int), .int .i64 (u : Int), .slice ya vs.length yc, .slice xa cs.length xc, .string o, nv, .slice none 0 0]) := HW.out.drew.call hg1 hr1; have HR1 : Hid (TR B8 wA nv ns) := own_call (World.ownsRow.drew HR.out) hg1 (by omega); have x1 : wA.cell? ⟨w.heap.size + 2, 8, none⟩ = some nv := (blk_cell HW1.out.co 8).trans rfl; have x2 : ∀ o : Obj, (wA.alloc o).cell? ⟨w.heap.size + 2, 8, none⟩ = some nv := fun o => (blk_cell (HW1.out.alloc o).co 8).trans rfl; dsimp only)))
          all_goals
            have HN := hidOfJ (HW2.out.setC (C' := #[.slice ta ts.length tc, .slice la xs.length lc, .int .i64 0, .int .i64 (l : Int), .int .i64 (u : Int), .slice ya vs.length yc, .slice xa cs.length xc, .string o, .slice (some ⟨q, 0, none⟩) (ns.length + 1) cap, .slice none 0 0]) 8 (.slice (some ⟨q, 0, none⟩) (ns.length + 1) cap) rfl)
            have HRN := hidOfJ (own_set hp2 (w.heap.size + 2) 8 (by omega) (.slice (some ⟨q, 0, none⟩) (ns.length + 1) cap))
            have HTN := hidOfJ (HT.out.next hkn (by have := HSL.out; omega) ht1 (fun e => (hgood e).2) (fun e => (hbad e).resolve_left (by simp)))
            have HKN : Hid (∀ b, w.heap.size + 3 ≤ b → b < B8 → (wB.setCell ⟨w.heap.size + 2, 8, none⟩ (.slice (some ⟨q, 0, none⟩) (ns.length + 1) cap)).heap[b]? = W8.heap[b]?) := fun b h1 h2 => by
              have h3 := hg1.size
              have h4 : wr.drew.heap.size = wr.heap.size := rfl
              rw [Below.heap_setCell _ _ _ _ (by show b ≠ w.heap.size + 2; omega), hg2.block b (by simp; omega) (fun e => by have := (World.ownsRow.lt HR1.out b e.symm).1; omega)]
              have h5 : (wA.alloc (.cells #[.string ⟨t.toArray⟩] 9)).heap[b]? = wA.heap[b]? := ((Below.refl wA.heap.size wA).alloc (Nat.le_refl _) _).block b (by omega)
              rw [h5, hg1.block b (by omega) (fun e => by have := Option.some.inj e; omega)]
              exact HK.out b h1 h2
            have hzz : B8 ≤ (wB.setCell ⟨w.heap.size + 2, 8, none⟩ (.slice (some ⟨q, 0, none⟩) (ns.length + 1) cap)).heap.size := by have h1 := hg1.size; have h2 := hg2.size; simp [World.setCell] at h2 ⊢; have h3 : wr.drew.heap.size = wr.heap.size := rfl; omega
            clear hp2 hg2 hq2 hl2 x1 x2 c0 c2 HW2 HR1 HW1 HW HR HT hg1 hr1 hgood hbad HK
            go_wp2_with fail
            go_roundw
            case rel => subst hlk; exact ⟨ns.length + 1, a', bad', _, _, by go_num, by omega, ha', hzz, HN, HRN, HTN, HKN⟩
            case measure => simp [intOf]; omega
      · have d2 : decide ((k : Int) < 50) = false := decide_eq_false (by omega)
        clear c2
        go_wp2_with fail
        exact TL1.out _ _ _ _ _ _ _ _ _ _ _ _ _ _ _ _ _ _ _ _ _ _ _ _ _ _ _ _ _ _ _ _ _ _ _ _ _ _ _ _ _ _ _ _ _ _ _ _ _ _ _ _ _ _ _ _ _ _ _ _ _ _ _ _ _ _ _ _ _ _ _ _ _ _ _ _ _ _ _ _ _ _ _ _ _ _ _ _ _ _ _ _ _ _ _ _ _ _ _ _ _ _ _ _ _ _ a k bad nv ns HW.out HR.out HT.out (fun _ h => by omega) ha hk HK.out hBr
    · have d1 : decide ((k : Int) < (n : Int)) = false := decide_eq_false (by omega)
      clear c2
      go_wp2_with fail
      exact TL1.out _ _ _ _ _ _ _ _ _ _ _ _ _ _ _ _ _ _ _ _ _ _ _ _ _ _ _ _ _ _ _ _ _ _ _ _ _ _ _ _ _ _ _ _ _ _ _ _ _ _ _ _ _ _ _ _ _ _ _ _ _ _ _ _ _ _ _ _ _ _ _ _ _ _ _ _ _ _ _ _ _ _ _ _ _ _ _ _ _ _ _ _ _ _ _ _ _ _ _ _ _ _ _ _ _ _ a k bad nv ns HW.out HR.out HT.out (fun _ _ => by omega) ha hk HK.out hBr
end Go.Proofs.YtehagonaacbmiaaGreat
