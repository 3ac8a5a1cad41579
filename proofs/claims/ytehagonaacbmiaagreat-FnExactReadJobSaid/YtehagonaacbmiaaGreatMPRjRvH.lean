/- What is read of the bytes of a store: the specification. -/
import Derived.Test.YtehagonaacbmiaaGreatMPRjZaz
namespace Go.Proofs.YtehagonaacbmiaaGreat
open Go.RowKit

/-- What ReadStore answers: the right store whose bytes these are, or none. -/
def RdO (w w' : World) (L : List UInt8) (e : Ending) : Prop := Below w.heap.size w w' ∧ ((∃ u x vs cs o B2, Rs.isOf L vs cs o ∧ e = .returned (.tuple #[.agg #[u, x, .string o], .bool true]) ∧ VrRow (w.heap.size + 3) w' u vs ∧ ClRow B2 w' x cs ∧ w.heap.size + 3 ≤ B2 ∧ ∀ q, u.ownBlock = some q → q < B2) ∨
  ((∀ vs cs o, ¬ Rs.isOf L vs cs o) ∧ e = .returned (.tuple #[.agg #[.slice none 0 0, .slice none 0 0, .string ⟨#[]⟩], .bool false])))
theorem SW.belo {T : TypeId} {w W W' : World} {s : ByteArray} {a : Nat} {bad : Bool} {u x : Value} {o : ByteArray} (h : SW T w W s a bad u x o) (hb : Below (w.heap.size + 3) W W') : SW T w W' s a bad u x o :=
  ⟨(hb.block _ (by omega)).trans h.res, (hb.block _ (by omega)).trans h.rd, (hb.block _ (by omega)).trans h.co, h.env.trans (hb.mono (by omega))⟩
theorem hidOf9 {p : Prop} (h : p) : Hid p := h
theorem sz9 (l : List UInt8) : (⟨l.toArray⟩ : ByteArray).size = l.length := by show l.toArray.size = _; simp
theorem s3_set (V : World) (g : Nat) (a0 a1 a2 : Value) {x0 x1 x2 : Value} (h : V.heap[g]? = some (.cells #[x0, x1, x2] 40 (0, 0))) : (((V.setCell ⟨g, 0, none⟩ a0).setCell ⟨g, 1, none⟩ a1).setCell ⟨g, 2, none⟩ a2).heap[g]? = some (.cells #[a0, a1, a2] 40 (0, 0)) :=
  blk_set (blk_set (blk_set h 0 a0) 1 a1) 2 a2
theorem s3_below {w V : World} (h : Below w.heap.size w V) (a0 a1 a2 : Value) : Below w.heap.size w (((V.setCell ⟨w.heap.size, 0, none⟩ a0).setCell ⟨w.heap.size, 1, none⟩ a1).setCell ⟨w.heap.size, 2, none⟩ a2) :=
  ((h.setCell (by exact Nat.le_refl _) _).setCell (by exact Nat.le_refl _) _).setCell (by exact Nat.le_refl _) _
set_option maxRecDepth 100000 in
theorem res_store9 {fn : Func} {p u : Tmp} (h : fn.results = #[.cell p 40, .tmp u]) (tmps : Array Value) (w : World) (g : Nat) (v0 v1 v2 : Value) (hp : tmps.getD p undef = .pointer (some ⟨g, 0, none⟩)) (hg : w.heap[g]? = some (.cells #[v0, v1, v2] 40 (0, 0))) :
    (results fn tmps).run Tryz.prog w = .ok (.tuple #[.agg #[v0, v1, v2], tmps.getD u undef]) w := by
  rw [results_cell_tmp h, hp]
  simp only [asAddr, Sem.run_pure, Result.andThen_ok, run_loadVar_row w g 40 40 #[v0, v1, v2] (0, 0) _ hg Tryz.underlying40 rfl (by kernel_rfl)]

set_option maxHeartbeats 8000000 in
set_option maxRecDepth 100000 in
theorem spReadStoreOwn (s : ByteArray) (w : World) (hs : s.size ≤ 1048576) :
    Calls Tryz.prog 31 #[.string s] w fun e w' => RdO w w' s.data.toList e := by
  have hsl : s.data.toList.length = s.size := by simp
  have HSL := hidOf9 hsl
  have CN : Hid (∀ (W : World) (a : Nat) (bad : Bool), Cu7 W (w.heap.size + 1) s a bad → a ≤ s.size → Calls Tryz.prog 32 #[.pointer (some ⟨w.heap.size + 1, 0, none⟩)] W fun e w' => ∃ (n a' : Nat) (bad' : Bool), e = .returned (.int .i64 (n : Int)) ∧ W.grownBy w' (some (w.heap.size + 1)) ∧ Cu7 w' (w.heap.size + 1) s a' bad' ∧ n ≤ 1000000000 ∧ a' ≤ s.size ∧
      (bad' = false → bad = false ∧ Rc.rv s.data.toList a = some (n, a')) ∧ (bad' = true → bad = true ∨ Rc.rv s.data.toList a = none)) := fun W a bad h ha => spVar1 _ s a bad W h ha hs
  have CS : Hid (∀ (W : World) (a : Nat) (bad : Bool), Cu7 W (w.heap.size + 1) s a bad → a ≤ s.size → Calls Tryz.prog 30 #[.pointer (some ⟨w.heap.size + 1, 0, none⟩)] W fun e w' => ∃ (t : List UInt8) (a' : Nat) (bad' : Bool), e = .returned (.string ⟨t.toArray⟩) ∧ W.grownBy w' (some (w.heap.size + 1)) ∧ Cu7 w' (w.heap.size + 1) s a' bad' ∧ t.length ≤ 20000 ∧ a' ≤ s.size ∧
      (bad' = false → bad = false ∧ Rc.rs s.data.toList a = some (t, a')) ∧ (bad' = true → bad = true ∨ Rc.rs s.data.toList a = none)) := fun W a bad h ha => spShort1 _ s a bad W h ha hs
  have H0 := hidOf9 (SW.start 63 w s)
  clear hsl
  go_enter Tryz.func31, Tryz.ntmps31
  go_wp2_with fail
  generalize ((w.alloc (.cells #[.slice none 0 0, .slice none 0 0, .string ⟨#[]⟩] 40)).alloc (.cells #[.string s, .int .i64 0, .bool false] 63)).alloc (.cells #[.slice none 0 0, .slice none 0 0, .string ⟨#[]⟩] 40) = W0 at *
  refine (CN.out _ 0 false H0.out.rd (Nat.zero_le _)).mono ?_
  rintro e w1 ⟨n, a1, b1, rfl, hg1, hr1, hn1, ha1, hgood1, hbad1⟩
  have H1 := hidOf9 (H0.out.call hg1 hr1)
  have HT1 := hidOf9 (Rs.V1.start (L := s.data.toList) (by have := HSL.out; omega) (fun e => (hgood1 e).2) (fun e => (hbad1 e).resolve_left (by simp)))
  have HR1 : Hid (VrRow (w.heap.size + 3) w1 (.slice none 0 0) []) := World.ownsRow_nil _ _ _ _
  clear hg1 hr1 hgood1 hbad1 H0
  go_wp2_with fail
  rename_i K9 hK9
  have TL1 : Hid (∀ (t1 t7 t8 t9 t10 t11 t12 t13 t14 t15 t16 t17 t18 t19 t20 t21 t22 t23 t24 t25 t26 t27 t28 t29 t30 t31 t32 t33 t34 t35 t36 t37 t38 t39 t40 t41 t42 t43 t44 t45 t46 t47 t48 t49 t50 t51 t52 t53 t54 t55 t56 t57 t58 t59 t60 t61 t62 t63 t64 t65 t66 t67 t68 t69 t70 t71 t72 t73 t74 t75 t76 t77 t78 t79 t80 t81 t82 t83 t84 t85 t86 t87 t88 t89 t90 t91 t92 t93 t94 t95 t96 t97 t98 t99 t100 t101 t102 : Value) (wt : World) (aT kT : Nat) (bT : Bool) (u : Value) (vs : List Vr), SW 63 w wt s aT bT u (.slice none 0 0) ⟨#[]⟩ → VrRow (w.heap.size + 3) wt u vs → Rs.V1 s.data.toList n kT aT vs bT → (bT = false → n ≤ 60 → n ≤ kT) → aT ≤ s.size → kT ≤ 100 → K9 { tmps := #[.string s, t1, .pointer (some ⟨w.heap.size, 0, none⟩), .bool false, .pointer (some ⟨w.heap.size + 1, 0, none⟩), .pointer (some ⟨w.heap.size + 2, 0, none⟩), .int .i64 (n : Int), t7, t8, t9, t10, t11, t12, t13, t14, t15, t16, t17, t18, t19, t20, t21, t22, t23, t24, t25, t26, t27, t28, t29, t30, t31, t32, t33, t34, t35, t36, t37, t38, t39, t40, t41, t42, t43, t44, t45, t46, t47, t48, t49, t50, t51, t52, t53, t54, t55, t56, t57, t58, t59, t60, t61, t62, t63, t64, t65, t66, t67, t68, t69, t70, t71, t72, t73, t74, t75, t76, t77, t78, t79, t80, t81, t82, t83, t84, t85, t86, t87, t88, t89, t90, t91, t92, t93, t94, t95, t96, t97, t98, t99, t100, t101, t102], defers := [] } wt) := by
    intro t1 t7 t8 t9 t10 t11 t12 t13 t14 t15 t16 t17 t18 t19 t20 t21 t22 t23 t24 t25 t26 t27 t28 t29 t30 t31 t32 t33 t34 t35 t36 t37 t38 t39 t40 t41 t42 t43 t44 t45 t46 t47 t48 t49 t50 t51 t52 t53 t54 t55 t56 t57 t58 t59 t60 t61 t62 t63 t64 t65 t66 t67 t68 t69 t70 t71 t72 t73 t74 t75 t76 t77 t78 t79 t80 t81 t82 t83 t84 t85 t86 t87 t88 t89 t90 t91 t92 t93 t94 t95 t96 t97 t98 t99 t100 t101 t102 wt aT kT bT u vs g0 g1 g2 g3 g4 g5
    have HW := hidOf9 g0
    have HR := hidOf9 g1
    have HV := hidOf9 g2
    have HX := hidOf9 g3
    have HK := hidOf9 g5
    clear g0 g1 g2 g3 g5 H1 HR1 HT1 ha1
    refine hK9 _ _ ?_
    go_wp2_with fail
    refine (CN.out _ aT bT HW.out.rd g4).mono ?_
    rintro e w2 ⟨n2, a2, b2, rfl, hg2, hr2, hn2, ha2, hgood2, hbad2⟩
    have HT2 := hidOf9 (HV.out.turn HX.out (by have := HSL.out; omega) hgood2 hbad2)
    have HW2 := hidOf9 (HW.out.call hg2 hr2)
    have HR2 : Hid (VrRow (w.heap.size + 3) w2 u vs) := own_call HR.out hg2 (by omega)
    have HLV : Hid (vs.length ≤ 100) := by
      have h1 : vs.length = kT := HV.out.len
      have h2 : kT ≤ 100 := HK.out
      show vs.length ≤ 100
      omega
    have HSV := hidOf9 HV.out.small
    obtain ⟨B2, hB2⟩ : ∃ B2, B2 = w2.heap.size := ⟨_, rfl⟩
    have HB2 : Hid (w.heap.size + 3 ≤ B2) := by rw [hB2]; exact HW2.out.size
    have HBB : Hid (B2 = w2.heap.size) := hB2
    have HC2 : Hid (ClRow B2 w2 (.slice none 0 0) []) := World.ownsRow_nil _ _ _ _
    clear hg2 hr2 hgood2 hbad2 HW HR HV HX HK hB2
    have HQV : Hid (∀ q, u.ownBlock = some q → q < B2) := fun q hq => by rw [HBB.out]; exact (World.ownsRow.lt HR2.out q hq).2
    have HZ2 : B2 ≤ w2.heap.size := by rw [HBB.out]; exact Nat.le_refl _
    go_wp2_with fail
    rename_i K8 hK8
    have TL2 : Hid (∀ (t1 t6 t7 t8 t9 t10 t11 t12 t13 t14 t15 t16 t17 t18 t19 t20 t21 t22 t23 t24 t25 t26 t27 t28 t29 t30 t31 t32 t33 t34 t35 t36 t37 t38 t39 t40 t41 t42 t43 t44 t45 t46 t47 t48 t49 t50 t51 t52 t53 t54 t55 t56 t57 t58 t59 t60 t61 t62 t63 t64 t65 t66 t67 t68 t69 t70 t71 t72 t73 t74 t75 t76 t77 t78 t79 t80 t81 t82 t83 t84 t85 t86 t87 t88 t89 t90 t91 t92 t93 t94 t95 t96 t97 t98 t99 t100 t101 t102 : Value) (wt : World) (aT kT nT : Nat) (bT : Bool) (x : Value) (cs : List Cl), SW 63 w wt s aT bT u x ⟨#[]⟩ → VrRow (w.heap.size + 3) wt u vs → ClRow B2 wt x cs → Rs.V2 s.data.toList vs nT kT aT cs bT → (bT = false → nT ≤ 2000 → nT ≤ kT) → aT ≤ s.size → kT ≤ 2100 → K8 { tmps := #[.string s, t1, .pointer (some ⟨w.heap.size, 0, none⟩), .bool false, .pointer (some ⟨w.heap.size + 1, 0, none⟩), .pointer (some ⟨w.heap.size + 2, 0, none⟩), t6, t7, t8, t9, t10, t11, t12, t13, t14, t15, t16, t17, t18, t19, t20, t21, t22, t23, t24, t25, t26, t27, t28, t29, t30, t31, t32, t33, t34, t35, t36, t37, t38, t39, t40, t41, t42, t43, t44, t45, t46, t47, t48, t49, t50, t51, t52, t53, t54, t55, t56, t57, t58, t59, t60, t61, t62, t63, t64, t65, t66, t67, t68, t69, t70, t71, t72, t73, t74, t75, t76, t77, t78, t79, t80, t81, t82, t83, t84, t85, t86, t87, t88, t89, t90, t91, t92, t93, t94, t95, t96, t97, t98, t99, t100, t101, t102], defers := [] } wt) := by
      intro t1 t6 t7 t8 t9 t10 t11 t12 t13 t14 t15 t16 t17 t18 t19 t20 t21 t22 t23 t24 t25 t26 t27 t28 t29 t30 t31 t32 t33 t34 t35 t36 t37 t38 t39 t40 t41 t42 t43 t44 t45 t46 t47 t48 t49 t50 t51 t52 t53 t54 t55 t56 t57 t58 t59 t60 t61 t62 t63 t64 t65 t66 t67 t68 t69 t70 t71 t72 t73 t74 t75 t76 t77 t78 t79 t80 t81 t82 t83 t84 t85 t86 t87 t88 t89 t90 t91 t92 t93 t94 t95 t96 t97 t98 t99 t100 t101 t102 wt aT kT nT bT x cs g0 g1 g2 g3 g4 g5 g6
      have HW := hidOf9 g0
      have HR := hidOf9 g1
      have HC := hidOf9 g2
      have HV := hidOf9 g3
      have HX := hidOf9 g4
      have HK := hidOf9 g6
      clear g0 g1 g2 g3 g4 g6 HW2 HR2 HT2 HC2
      refine hK8 _ _ ?_
      go_wp2_with fail
      refine (CS.out _ aT bT HW.out.rd g5).mono ?_
      rintro e w5 ⟨tO, a5, b5, rfl, hg5, hr5, hl5, ha5, hgood5, hbad5⟩
      have HE := hidOf9 (HV.out.last HX.out hgood5 hbad5)
      have HW5 := hidOf9 (HW.out.call hg5 hr5)
      have HR5 : Hid (VrRow (w.heap.size + 3) w5 u vs) := own_call HR.out hg5 (by omega)
      have HC5 : Hid (ClRow B2 w5 x cs) := own_call HC.out hg5 (by have := HB2.out; omega)
      have y2 := (blk_cell HW5.out.co 2).trans rfl
      have f2 := blk_free HW5.out.co 2
      have HSM := hidOf9 (Rs.small_of (vs := vs) (cs := cs) (o := ⟨tO.toArray⟩) (by have := HLV.out; omega) (by have := HV.out.len; have := HK.out; omega) HSV.out HV.out.small (by rw [sz9]; omega))
      have HW6 := hidOf9 (HW5.out.setC (u' := u) (x' := x) (o' := ⟨tO.toArray⟩) 2 (.string ⟨tO.toArray⟩) rfl)
      have HR6 : Hid (VrRow (w.heap.size + 3) (w5.setCell ⟨w.heap.size + 2, 2, none⟩ (.string ⟨tO.toArray⟩)) u vs) := own_set HR5.out (w.heap.size + 2) 2 (by omega) _
      have HC6 : Hid (ClRow B2 (w5.setCell ⟨w.heap.size + 2, 2, none⟩ (.string ⟨tO.toArray⟩)) x cs) := own_set HC5.out (w.heap.size + 2) 2 (by have := HB2.out; omega) _
      obtain ⟨z0, z1, z2⟩ : _ ∧ _ ∧ _ := ⟨(blk_cell HW6.out.co 0).trans rfl, (blk_cell HW6.out.co 1).trans rfl, (blk_cell HW6.out.co 2).trans rfl⟩
      generalize (⟨tO.toArray⟩ : ByteArray) = o at *
      clear hg5 hr5 hgood5 hbad5 HW HR HC HW5 HR5 HC5 HV HX HK CN CS
      have CT := hidOf9 (spStoreText u x o vs cs _ HR6.out.in.at HC6.out.in.at HSM.out)
      go_wp2_with fail
      refine CT.out.mono ?_
      rintro e w7 ⟨rfl, hb7⟩
      have HW7 := hidOf9 (HW6.out.grow (gr_below (r := none) hb7) (fun k hk => by cases hk))
      have HR7 : Hid (VrRow (w.heap.size + 3) w7 u vs) := own_keep HR6.out (fun q hq => hb7.block q (World.ownsRow.lt HR6.out q hq).2)
      have HC7 : Hid (ClRow B2 w7 x cs) := own_keep HC6.out (fun q hq => hb7.block q (World.ownsRow.lt HC6.out q hq).2)
      have c7 := (blk_cell HW7.out.rd 2).trans rfl
      have r0 := (blk_cell HW7.out.res 0).trans rfl
      have r1 := (blk_cell HW7.out.res 1).trans rfl
      have r2 := (blk_cell HW7.out.res 2).trans rfl
      have e0 := blk_free HW7.out.res 0
      have e1 := blk_free HW7.out.res 1
      have e2 := blk_free HW7.out.res 2
      obtain ⟨d0, d1, d2⟩ : _ ∧ _ ∧ _ := ⟨(blk_cell HW7.out.co 0).trans rfl, (blk_cell HW7.out.co 1).trans rfl, (blk_cell HW7.out.co 2).trans rfl⟩
      clear hb7 CT HW6 HR6 HC6 y2 f2 z0 z1 z2
      cases hok : St.ok vs cs o with
      | false =>
        have hte : St.text? vs cs o = .tuple #[.string ⟨#[]⟩, .bool false] := by unfold St.text?; rw [hok]; rfl
        have HAN : Hid (∀ vs0 cs0 o0, ¬ Rs.isOf s.data.toList vs0 cs0 o0) := fun vs0 cs0 o0 hi => by
          obtain ⟨-, rfl, rfl, rfl⟩ := HE.out vs0 cs0 o0 hi
          have := hi.1
          rw [hok] at this
          cases this
        rw [hte]
        clear hte hok d0 d1 d2
        cases b5
        all_goals
          go_wp2_with fail
          refine bodyPost_ret (res_store9 rfl _ _ w.heap.size _ _ _ rfl (s3_set _ _ _ _ _ HW7.out.res)) rfl ?_
          exact ⟨s3_below HW7.out.env _ _ _, .inr ⟨HAN.out, rfl⟩⟩
      | true =>
        obtain ⟨BY, hBY⟩ : ∃ BY : ByteArray, BY = ⟨(St.bytes vs cs o).toArray⟩ := ⟨_, rfl⟩
        have hte : St.text? vs cs o = .tuple #[.string BY, .bool true] := by unfold St.text?; rw [hok, hBY]; rfl
        have hbl : BY.data.toList = St.bytes vs cs o := by rw [hBY]
        rw [hte]
        clear hte hBY
        by_cases hgd : b5 = false ∧ BY.data.toList = s.data.toList
        · obtain ⟨rfl, hse⟩ := hgd
          have HIS : Hid (Rs.isOf s.data.toList vs cs o) := ⟨hok, hbl.symm.trans hse⟩
          obtain rfl : BY = s := ByteArray.ext (Array.ext' hse)
          have nq : (!(BY.data.toList == BY.data.toList)) = false := by simp
          have nq2 : (!(BY.toList == BY.toList)) = false := by simp
          have hva := HR7.out.in.at
          have hca := HC7.out.in.at
          clear hok hbl hse HE
          obtain ⟨ua, uc, rfl, -⟩ := hva
          obtain ⟨xa, xc, rfl, -⟩ := hca
          go_wp2_with fail
          refine bodyPost_ret (res_store9 rfl _ _ w.heap.size _ _ _ rfl (s3_set _ _ _ _ _ HW7.out.res)) rfl ?_
          refine ⟨s3_below HW7.out.env _ _ _, .inl ⟨_, _, vs, cs, o, B2, HIS.out, rfl, ?_, ?_, HB2.out, HQV.out⟩⟩
          · exact own_set (own_set (own_set HR7.out w.heap.size 0 (by omega) _) w.heap.size 1 (by omega) _) w.heap.size 2 (by omega) _
          · exact own_set (own_set (own_set HC7.out w.heap.size 0 (by have := HB2.out; omega) _) w.heap.size 1 (by have := HB2.out; omega) _) w.heap.size 2 (by have := HB2.out; omega) _
        · have HAN : Hid (∀ vs0 cs0 o0, ¬ Rs.isOf s.data.toList vs0 cs0 o0) := fun vs0 cs0 o0 hi => by
            obtain ⟨hb, rfl, rfl, rfl⟩ := HE.out vs0 cs0 o0 hi
            exact hgd ⟨hb, hbl.trans hi.2⟩
          cases b5 with
          | true =>
            clear hgd hok hbl d0 d1 d2 HE
            go_wp2_with fail
            refine bodyPost_ret (res_store9 rfl _ _ w.heap.size _ _ _ rfl (s3_set _ _ _ _ _ HW7.out.res)) rfl ?_
            exact ⟨s3_below HW7.out.env _ _ _, .inr ⟨HAN.out, rfl⟩⟩
          | false =>
            have hne : ¬ BY.data.toList = s.data.toList := fun h => hgd ⟨rfl, h⟩
            have nq : (!(BY.data.toList == s.data.toList)) = true := by simpa using hne
            have nq2 : (!(BY.toList == s.toList)) = true := by
              rw [Lib.toList_data, Lib.toList_data]
              exact nq
            clear hgd hok hbl d0 d1 d2 HE hne
            go_wp2_with fail
            refine bodyPost_ret (res_store9 rfl _ _ w.heap.size _ _ _ rfl (s3_set _ _ _ _ _ HW7.out.res)) rfl ?_
            exact ⟨s3_below HW7.out.env _ _ _, .inr ⟨HAN.out, rfl⟩⟩
    clear hK8
    go_loopw [9] (fun j wr => ∃ (k a : Nat) (bad : Bool) (x : Value) (cs : List Cl), j = .int .i64 (k : Int) ∧ k ≤ 2100 ∧ a ≤ s.size ∧ B2 ≤ wr.heap.size ∧ Hid (SW 63 w wr s a bad u x ⟨#[]⟩) ∧ Hid (VrRow (w.heap.size + 3) wr u vs) ∧ Hid (ClRow B2 wr x cs) ∧ Hid (Rs.V2 s.data.toList vs n2 k a cs bad)) (fun j _ => 2100 - (intOf j).toNat)
    case atStart => exact ⟨0, a2, b2, _, [], rfl, by omega, ha2, HZ2, HW2.out, HR2.out, HC2.out, HT2.out⟩
    case round =>
      clear HW2 HR2 HC2 HT2 ha2 HZ2 HBB
      obtain ⟨k, a, bad, x, cs, rfl, hk, ha, hBr, HW, HR, HC, HT⟩ := hrel
      have c2 := (blk_cell HW.out.rd 2).trans rfl
      by_cases hkn : k < n2
      · have d1 : decide ((k : Int) < (n2 : Int)) = true := decide_eq_true (by omega)
        by_cases hk1 : k < 2100
        · have d2 : decide ((k : Int) < 2100) = true := decide_eq_true (by omega)
          cases bad with
          | true =>
            go_wp2_with fail
            exact TL2.out _ _ _ _ _ _ _ _ _ _ _ _ _ _ _ _ _ _ _ _ _ _ _ _ _ _ _ _ _ _ _ _ _ _ _ _ _ _ _ _ _ _ _ _ _ _ _ _ _ _ _ _ _ _ _ _ _ _ _ _ _ _ _ _ _ _ _ _ _ _ _ _ _ _ _ _ _ _ _ _ _ _ _ _ _ _ _ _ _ _ _ _ _ _ _ _ _ _ _ a k n2 true x cs HW.out HR.out HC.out HT.out (fun e => by cases e) ha hk
          | false =>
            have z1 := HW.out.size
            go_wp2_with fail
            refine (CS.out _ a false HW.out.rd ha).mono ?_
            rintro e w3 ⟨t1, a3, b3, rfl, hg3, hr3, hl3, ha3, hgood3, hbad3⟩
            have HW3 := hidOf9 (HW.out.call hg3 hr3)
            have HR3 : Hid (VrRow (w.heap.size + 3) w3 u vs) := own_call HR.out hg3 (by omega)
            have HC3 : Hid (ClRow B2 w3 x cs) := own_call HC.out hg3 (by have := HB2.out; omega)
            have z3 := HW3.out.size
            have hB3 : B2 ≤ w3.heap.size := Nat.le_trans hBr hg3.size
            have HG3 := hidOf9 (And.intro hgood3 hbad3)
            have HUX : Hid (∀ q, x.ownBlock = some q → q < w3.heap.size) := fun q hq => (World.ownsRow.lt HC3.out q hq).2
            obtain ⟨W4, hW4⟩ : ∃ W4, W4 = w3.alloc (.cells #[.string ⟨t1.toArray⟩, .string ⟨#[]⟩, .string ⟨#[]⟩] 89) := ⟨_, rfl⟩
            have HW4 : Hid (SW 63 w W4 s a3 b3 u x ⟨#[]⟩) := by rw [hW4]; exact HW3.out.alloc _
            have HR4 : Hid (VrRow (w.heap.size + 3) W4 u vs) := by rw [hW4]; exact World.ownsRow.alloc HR3.out _
            have HC4 : Hid (ClRow B2 W4 x cs) := by rw [hW4]; exact World.ownsRow.alloc HC3.out _
            have q4 : W4.heap[w3.heap.size]? = some (.cells #[.string ⟨t1.toArray⟩, .string ⟨#[]⟩, .string ⟨#[]⟩] 89 (0, 0)) := by rw [hW4]; exact heap_alloc_new _ _
            have HQ4 := hidOf9 q4
            clear hg3 hr3 hgood3 hbad3 q4 HW HR HC c2 HW3 HR3 HC3
            go_wp2_with fail
            rw [← hW4]
            clear hW4
            generalize w3.heap.size = hx at *
            refine (CS.out _ a3 b3 HW4.out.rd ha3).mono ?_
            rintro e w5 ⟨t2, a5, b5, rfl, hg5, hr5, hl5, ha5, hgood5, hbad5⟩
            have HG5 := hidOf9 (And.intro hgood5 hbad5)
            have HW5 := hidOf9 (HW4.out.call hg5 hr5)
            have HR5 : Hid (VrRow (w.heap.size + 3) w5 u vs) := own_call HR4.out hg5 (by omega)
            have HC5 : Hid (ClRow B2 w5 x cs) := own_call HC4.out hg5 (by have := HB2.out; omega)
            have HQ5 : Hid (w5.heap[hx]? = some (.cells #[.string ⟨t1.toArray⟩, .string ⟨#[]⟩, .string ⟨#[]⟩] 89 (0, 0))) := (hg5.block _ (blk_lt HQ4.out) (fun e => by have := Option.some.inj e; omega)).trans HQ4.out
            have y1 := (blk_cell HQ5.out 1).trans rfl
            have f1 := blk_free HQ5.out 1
            have HW6 := hidOf9 (HW5.out.far hx 1 (.string ⟨t2.toArray⟩) (by omega))
            have HQ6 : Hid ((w5.setCell ⟨hx, 1, none⟩ (.string ⟨t2.toArray⟩)).heap[hx]? = some (.cells #[.string ⟨t1.toArray⟩, .string ⟨t2.toArray⟩, .string ⟨#[]⟩] 89 (0, 0))) := blk_set HQ5.out 1 _
            have HR6 : Hid (VrRow (w.heap.size + 3) (w5.setCell ⟨hx, 1, none⟩ (.string ⟨t2.toArray⟩)) u vs) :=
              own_keep HR5.out (fun q hq => Below.heap_setCell _ _ _ _ (by show q ≠ hx; have := HQV.out q hq; omega))
            have HC6 : Hid (ClRow B2 (w5.setCell ⟨hx, 1, none⟩ (.string ⟨t2.toArray⟩)) x cs) :=
              own_keep HC5.out (fun q hq => Below.heap_setCell _ _ _ _ (by show q ≠ hx; have := HUX.out q hq; omega))
            clear hg5 hr5 hgood5 hbad5 HW4 HR4 HC4 HQ4 HW5 HR5 HC5 HQ5
            go_wp2_with fail
            generalize w5.setCell ⟨hx, 1, none⟩ (.string ⟨t2.toArray⟩) = W6 at *
            clear y1 f1
            refine (CS.out _ a5 b5 HW6.out.rd ha5).mono ?_
            rintro e w7 ⟨t3, a7, b7, rfl, hg7, hr7, hl7, ha7, hgood7, hbad7⟩
            have HT7 := hidOf9 (HT.out.next hkn (by have := HSL.out; omega) hl3 hl5 hl7 (fun e => (HG3.out.1 e).2) (fun e => (HG3.out.2 e).resolve_left (by simp)) HG5.out.1 HG5.out.2 hgood7 hbad7)
            have HW7 := hidOf9 (HW6.out.call hg7 hr7)
            have HR7 : Hid (VrRow (w.heap.size + 3) w7 u vs) := own_call HR6.out hg7 (by omega)
            have HC7 : Hid (ClRow B2 w7 x cs) := own_call HC6.out hg7 (by have := HB2.out; omega)
            have HQ7 : Hid (w7.heap[hx]? = some (.cells #[.string ⟨t1.toArray⟩, .string ⟨t2.toArray⟩, .string ⟨#[]⟩] 89 (0, 0))) := (hg7.block _ (blk_lt HQ6.out) (fun e => by have := Option.some.inj e; omega)).trans HQ6.out
            have HL := hidOf9 HT.out.len
            have hB7 : B2 ≤ (w7.setCell ⟨hx, 2, none⟩ (.string ⟨t3.toArray⟩)).heap.size := by have := blk_lt HQ7.out; simp [World.setCell]; omega
            have y2 := (blk_cell HQ7.out 2).trans rfl
            have f2 := blk_free HQ7.out 2
            have HW8 := hidOf9 (HW7.out.far hx 2 (.string ⟨t3.toArray⟩) (by omega))
            have HQ8 : Hid ((w7.setCell ⟨hx, 2, none⟩ (.string ⟨t3.toArray⟩)).heap[hx]? = some (.cells #[.string ⟨t1.toArray⟩, .string ⟨t2.toArray⟩, .string ⟨t3.toArray⟩] 89 (0, 0))) := blk_set HQ7.out 2 _
            have HR8 : Hid (VrRow (w.heap.size + 3) (w7.setCell ⟨hx, 2, none⟩ (.string ⟨t3.toArray⟩)) u vs) :=
              own_keep HR7.out (fun q hq => Below.heap_setCell _ _ _ _ (by show q ≠ hx; have := HQV.out q hq; omega))
            have HC8 : Hid (ClRow B2 (w7.setCell ⟨hx, 2, none⟩ (.string ⟨t3.toArray⟩)) x cs) :=
              own_keep HC7.out (fun q hq => Below.heap_setCell _ _ _ _ (by show q ≠ hx; have := HUX.out q hq; omega))
            have x0 := (blk_cell HW8.out.co 1).trans rfl
            have x1 := (blk_cell HQ8.out 0).trans rfl
            have x2 := (blk_cell HQ8.out 1).trans rfl
            have x3 := (blk_cell HQ8.out 2).trans rfl
            clear hg7 hr7 hgood7 hbad7 HG3 HG5 HT HW6 HR6 HC6 HQ6 HW7 HR7 HC7 HQ7
            go_wp2_with (at_builtin; go_must (refine ClRow.push HC8.out rfl (.tmp 75) (.tmp 77) rfl rfl ⟨⟨t1.toArray⟩, ⟨t2.toArray⟩, ⟨t3.toArray⟩⟩ w7.heap.size (by simp [World.setCell]) rfl (by have := HL.out; omega) hB7 ?_))
            intro q cap w9 hr9 hs9 hb9
            have HW9 := hidOf9 (HW8.out.belo (hb9.mono HB2.out))
            have HR9 : Hid (VrRow (w.heap.size + 3) w9 u vs) := own_keep HR8.out (fun q hq => hb9.block q (HQV.out q hq))
            have HC9 := hidOf9 hr9
            have v0 := (blk_cell HW9.out.co 1).trans rfl
            have v1 := blk_free HW9.out.co 1
            have HWA := hidOf9 (HW9.out.setC (u' := u) (x' := .slice (some ⟨q, 0, none⟩) (cs.length + 1) cap) (o' := ⟨#[]⟩) 1 (.slice (some ⟨q, 0, none⟩) (cs.length + 1) cap) rfl)
            have HRA : Hid (VrRow (w.heap.size + 3) (w9.setCell ⟨w.heap.size + 2, 1, none⟩ (.slice (some ⟨q, 0, none⟩) (cs.length + 1) cap)) u vs) := own_set HR9.out (w.heap.size + 2) 1 (by omega) _
            have HCA : Hid (ClRow B2 (w9.setCell ⟨w.heap.size + 2, 1, none⟩ (.slice (some ⟨q, 0, none⟩) (cs.length + 1) cap)) (.slice (some ⟨q, 0, none⟩) (cs.length + 1) cap) (cs ++ [⟨⟨t1.toArray⟩, ⟨t2.toArray⟩, ⟨t3.toArray⟩⟩])) := own_set HC9.out (w.heap.size + 2) 1 (by have := HB2.out; omega) _
            have hBA : B2 ≤ (w9.setCell ⟨w.heap.size + 2, 1, none⟩ (.slice (some ⟨q, 0, none⟩) (cs.length + 1) cap)).heap.size := by simp [World.setCell] at hB7 hs9 ⊢; omega
            clear hr9 hs9 hb9 HW8 HQ8 HR8 HC8 x0 x1 x2 x3 HW9 HR9 HC9 y2 f2 hB7
            go_wp2_with fail
            go_roundw
            case rel => exact ⟨k + 1, a7, b7, _, _, by go_num, by omega, ha7, hBA, HWA.out, HRA.out, HCA.out, HT7.out⟩
            case measure => simp [intOf]; omega
        · have d2 : decide ((k : Int) < 2100) = false := decide_eq_false (by omega)
          clear c2
          go_wp2_with fail
          exact TL2.out _ _ _ _ _ _ _ _ _ _ _ _ _ _ _ _ _ _ _ _ _ _ _ _ _ _ _ _ _ _ _ _ _ _ _ _ _ _ _ _ _ _ _ _ _ _ _ _ _ _ _ _ _ _ _ _ _ _ _ _ _ _ _ _ _ _ _ _ _ _ _ _ _ _ _ _ _ _ _ _ _ _ _ _ _ _ _ _ _ _ _ _ _ _ _ _ _ _ _ a k n2 bad x cs HW.out HR.out HC.out HT.out (fun _ h => by omega) ha hk
      · have d1 : decide ((k : Int) < (n2 : Int)) = false := decide_eq_false (by omega)
        clear c2
        go_wp2_with fail
        exact TL2.out _ _ _ _ _ _ _ _ _ _ _ _ _ _ _ _ _ _ _ _ _ _ _ _ _ _ _ _ _ _ _ _ _ _ _ _ _ _ _ _ _ _ _ _ _ _ _ _ _ _ _ _ _ _ _ _ _ _ _ _ _ _ _ _ _ _ _ _ _ _ _ _ _ _ _ _ _ _ _ _ _ _ _ _ _ _ _ _ _ _ _ _ _ _ _ _ _ _ _ a k n2 bad x cs HW.out HR.out HC.out HT.out (fun _ _ => by omega) ha hk
  clear hK9
  go_loopw [7] (fun j wr => ∃ (k a : Nat) (bad : Bool) (u : Value) (vs : List Vr), j = .int .i64 (k : Int) ∧ k ≤ 100 ∧ a ≤ s.size ∧ Hid (SW 63 w wr s a bad u (.slice none 0 0) ⟨#[]⟩) ∧ Hid (VrRow (w.heap.size + 3) wr u vs) ∧ Hid (Rs.V1 s.data.toList n k a vs bad)) (fun j _ => 100 - (intOf j).toNat)
  case atStart => exact ⟨0, a1, b1, _, [], rfl, by omega, ha1, H1.out, HR1.out, HT1.out⟩
  case round =>
    clear H1 HR1 HT1 ha1
    obtain ⟨k, a, bad, u, vs, rfl, hk, ha, HW, HR, HT⟩ := hrel
    have c2 := (blk_cell HW.out.rd 2).trans rfl
    by_cases hkn : k < n
    · have d1 : decide ((k : Int) < (n : Int)) = true := decide_eq_true (by omega)
      by_cases hk1 : k < 100
      · have d2 : decide ((k : Int) < 100) = true := decide_eq_true (by omega)
        cases bad with
        | true =>
          go_wp2_with fail
          exact TL1.out _ _ _ _ _ _ _ _ _ _ _ _ _ _ _ _ _ _ _ _ _ _ _ _ _ _ _ _ _ _ _ _ _ _ _ _ _ _ _ _ _ _ _ _ _ _ _ _ _ _ _ _ _ _ _ _ _ _ _ _ _ _ _ _ _ _ _ _ _ _ _ _ _ _ _ _ _ _ _ _ _ _ _ _ _ _ _ _ _ _ _ _ _ _ _ _ _ _ a k true u vs HW.out HR.out HT.out (fun e => by cases e) ha hk
        | false =>
          have z1 := HW.out.size
          go_wp2_with fail
          refine (CS.out _ a false HW.out.rd ha).mono ?_
          rintro e w2 ⟨t1, a2, b2, rfl, hg2, hr2, hl2, ha2, hgood2, hbad2⟩
          have HW2 := hidOf9 (HW.out.call hg2 hr2)
          have HR2 : Hid (VrRow (w.heap.size + 3) w2 u vs) := own_call HR.out hg2 (by omega)
          have z2 := HW2.out.size
          have HG2 := hidOf9 (And.intro hgood2 hbad2)
          have HUX : Hid (∀ q, u.ownBlock = some q → q < w2.heap.size) := fun q hq => (World.ownsRow.lt HR2.out q hq).2
          obtain ⟨W3, hW3⟩ : ∃ W3, W3 = w2.alloc (.cells #[.string ⟨t1.toArray⟩, .string ⟨#[]⟩] 87) := ⟨_, rfl⟩
          have HW3 : Hid (SW 63 w W3 s a2 b2 u (.slice none 0 0) ⟨#[]⟩) := by rw [hW3]; exact HW2.out.alloc _
          have HR3 : Hid (VrRow (w.heap.size + 3) W3 u vs) := by rw [hW3]; exact World.ownsRow.alloc HR2.out _
          have q3 : W3.heap[w2.heap.size]? = some (.cells #[.string ⟨t1.toArray⟩, .string ⟨#[]⟩] 87 (0, 0)) := by rw [hW3]; exact heap_alloc_new _ _
          have HQ3 := hidOf9 q3
          clear hg2 hr2 hgood2 hbad2 q3 HW HR c2 HW2 HR2
          go_wp2_with fail
          rw [← hW3]
          clear hW3
          generalize w2.heap.size = hx at *
          refine (CS.out _ a2 b2 HW3.out.rd ha2).mono ?_
          rintro e w4 ⟨t2, a4, b4, rfl, hg4, hr4, hl4, ha4, hgood4, hbad4⟩
          have HT4 := hidOf9 (HT.out.next hkn (by have := HSL.out; omega) hl2 hl4 (fun e => (HG2.out.1 e).2) (fun e => (HG2.out.2 e).resolve_left (by simp)) hgood4 hbad4)
          have HW4 := hidOf9 (HW3.out.call hg4 hr4)
          have HR4 : Hid (VrRow (w.heap.size + 3) w4 u vs) := own_call HR3.out hg4 (by omega)
          have HQ4 : Hid (w4.heap[hx]? = some (.cells #[.string ⟨t1.toArray⟩, .string ⟨#[]⟩] 87 (0, 0))) := (hg4.block _ (blk_lt HQ3.out) (fun e => by have := Option.some.inj e; omega)).trans HQ3.out
          have HL := hidOf9 HT.out.len
          have y1 := (blk_cell HQ4.out 1).trans rfl
          have f1 := blk_free HQ4.out 1
          have HW5 := hidOf9 (HW4.out.far hx 1 (.string ⟨t2.toArray⟩) (by omega))
          have HQ5 : Hid ((w4.setCell ⟨hx, 1, none⟩ (.string ⟨t2.toArray⟩)).heap[hx]? = some (.cells #[.string ⟨t1.toArray⟩, .string ⟨t2.toArray⟩] 87 (0, 0))) := blk_set HQ4.out 1 _
          have HR5 : Hid (VrRow (w.heap.size + 3) (w4.setCell ⟨hx, 1, none⟩ (.string ⟨t2.toArray⟩)) u vs) := by
            refine own_keep HR4.out (fun q hq => Below.heap_setCell _ _ _ _ (by
              show q ≠ hx
              rintro rfl
              exact absurd (HUX.out q hq) (Nat.lt_irrefl _)))
          have x0 := (blk_cell HW5.out.co 0).trans rfl
          have x1 := (blk_cell HQ5.out 0).trans rfl
          have x2 := (blk_cell HQ5.out 1).trans rfl
          have hs5 := HW5.out.size
          clear hg4 hr4 hgood4 hbad4 HG2 HW3 HR3 HQ3 HT HW4 HR4 HQ4
          go_wp2_with (at_builtin; go_must (refine VrRow.push HR5.out rfl (.tmp 42) (.tmp 44) rfl rfl ⟨⟨t1.toArray⟩, ⟨t2.toArray⟩⟩ w4.heap.size (by simp [World.setCell]) rfl (by have := HL.out; omega) hs5 ?_))
          intro q cap w6 hr6 hs6 hb6
          have HW6 := hidOf9 (HW5.out.belo hb6)
          have HR6 := hidOf9 hr6
          have v0 := (blk_cell HW6.out.co 0).trans rfl
          have v1 := blk_free HW6.out.co 0
          have HW7 := hidOf9 (HW6.out.setC (u' := .slice (some ⟨q, 0, none⟩) (vs.length + 1) cap) (x' := .slice none 0 0) (o' := ⟨#[]⟩) 0 (.slice (some ⟨q, 0, none⟩) (vs.length + 1) cap) rfl)
          have HR7 : Hid (VrRow (w.heap.size + 3) (w6.setCell ⟨w.heap.size + 2, 0, none⟩ (.slice (some ⟨q, 0, none⟩) (vs.length + 1) cap)) (.slice (some ⟨q, 0, none⟩) (vs.length + 1) cap) (vs ++ [⟨⟨t1.toArray⟩, ⟨t2.toArray⟩⟩])) := own_set HR6.out (w.heap.size + 2) 0 (by omega) _
          clear hr6 hs6 hb6 HW5 HQ5 HR5 x0 x1 x2 hs5 HW6 HR6 y1 f1
          go_wp2_with fail
          go_roundw
          case rel => exact ⟨k + 1, a4, b4, _, _, by go_num, by omega, ha4, HW7.out, HR7.out, HT4.out⟩
          case measure => simp [intOf]; omega
      · have d2 : decide ((k : Int) < 100) = false := decide_eq_false (by omega)
        clear c2
        go_wp2_with fail
        exact TL1.out _ _ _ _ _ _ _ _ _ _ _ _ _ _ _ _ _ _ _ _ _ _ _ _ _ _ _ _ _ _ _ _ _ _ _ _ _ _ _ _ _ _ _ _ _ _ _ _ _ _ _ _ _ _ _ _ _ _ _ _ _ _ _ _ _ _ _ _ _ _ _ _ _ _ _ _ _ _ _ _ _ _ _ _ _ _ _ _ _ _ _ _ _ _ _ _ _ _ a k bad u vs HW.out HR.out HT.out (fun _ h => by omega) ha hk
    · have d1 : decide ((k : Int) < (n : Int)) = false := decide_eq_false (by omega)
      clear c2
      go_wp2_with fail
      exact TL1.out _ _ _ _ _ _ _ _ _ _ _ _ _ _ _ _ _ _ _ _ _ _ _ _ _ _ _ _ _ _ _ _ _ _ _ _ _ _ _ _ _ _ _ _ _ _ _ _ _ _ _ _ _ _ _ _ _ _ _ _ _ _ _ _ _ _ _ _ _ _ _ _ _ _ _ _ _ _ _ _ _ _ _ _ _ _ _ _ _ _ _ _ _ _ _ _ _ _ a k bad u vs HW.out HR.out HT.out (fun _ _ => by omega) ha hk
end Go.Proofs.YtehagonaacbmiaaGreat
