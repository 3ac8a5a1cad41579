/- remark What is found by: foundBy of a Var and of a Cell; the first one of a list. When a store is right: how the program compares keys, and whether a list ascends. Are two stores the same: the specification's SameStore. -/
import Derived.Shelf.Strings.Builder1
import Derived.Shelf.Small.Utf8
import Derived.Shelf.Small.Strs
import Derived.Shelf.Strings.BuilderF
import Derived.Shelf.Strings.BuilderK
import Derived.Shelf.LaysM
import Derived.Shelf.Strconv.Clone
import Derived.Shelf.Strings.Search1
import Derived.Shelf.Strings.Runes
import Derived.Test.YtmofljfffcnlbaaProg
import Derived.Test.YtmofljfffcnlbaaMPSxZab
import Derived.Laws.StructEq
import Derived.Deep.RegionWith
import Derived.Test.YtmofljfffcnlbaaMPSxZae
import Derived.Test.YtmofljfffcnlbaaMPSxZat
namespace Go.Proofs.Ytmofljfffcnlbaa
section PartShelfO
open Go.Shelf Go.Proofs
def Try.lays106_ren : Go.Shelf.Ren := ⟨fun | 106 => 62 | 213 => 66 | 265 => 68 | n => n, fun | 9 => 9 | 3 => 3 | n => n, fun | n => n⟩
theorem Try.lays106 : Go.Proofs.Lays.n106 Try.prog Try.lays106_ren := {
  mixed := by kernel_rfl
  f106 := Try.func62.trans (congrArg some (by kernel_rfl))
  f213 := Try.func66.trans (congrArg some (by kernel_rfl))
  f265 := Try.func68.trans (congrArg some (by kernel_rfl))
  t3 := Try.underlying3
  a3 := Try.isAgg3
  z3 := Try.sizeOf3
  v3 := Try.zeroValue3
  t9 := Try.underlying9
  a9 := Try.isAgg9
  z9 := Try.sizeOf9
  v9 := Try.zeroValue9 }
open Go.RowKit in
theorem Try.strings_Compare (a b : ByteArray) (w : World) :
    Calls Try.prog 62 #[.string a, .string b] w fun e w' => e = .returned (.int .i64 (Lib.compareBytes a.data.toList b.data.toList)) ∧ w' = w := Any.strings_Compare Try.lays106 a b w
end PartShelfO
section PartFbA
open Go.RowKit

set_option maxHeartbeats 800000 in
theorem foundVar (x0 x1 : ByteArray) (w : World) :
    Calls Try.prog 92 #[.agg #[.string x0, .string x1]] w fun e w' => e = .returned (.agg #[.string x0, .string ByteArray.empty]) ∧ Below w.heap.size w w' := by
  go_enter Try.func92, Try.ntmps92
  go_wp2_with fail
  refine bodyPost_ret (results_cell_row (p := 2) (ty := 98) rfl _ _ (w.heap.size + 1) 98 _ (0, 0) _ rfl (s2_1 _ _ _) Try.underlying98 rfl (by kernel_rfl)) rfl ?_
  exact ⟨rfl, ((Below.refl _ _).alloc (Nat.le_refl _) _).alloc (by simp) _⟩
set_option maxHeartbeats 800000 in
theorem foundCell (x0 x1 x2 : ByteArray) (w : World) :
    Calls Try.prog 94 #[.agg #[.string x0, .string x1, .string x2]] w fun e w' => e = .returned (.agg #[.string x0, .string x1]) ∧ Below w.heap.size w w' := by
  go_enter Try.func94, Try.ntmps94
  go_wp2_with fail
  refine bodyPost_ret (results_cell_row (p := 2) (ty := 98) rfl _ _ (w.heap.size + 1) 98 _ (0, 0) _ rfl (s2_1 _ _ _) Try.underlying98 rfl (by kernel_rfl)) rfl ?_
  exact ⟨rfl, ((Below.refl _ _).alloc (Nat.le_refl _) _).alloc (by simp) _⟩


end PartFbA
section PartOkB
open Go.RowKit

set_option maxHeartbeats 800000 in
theorem orInt (x y : Int) (b : Nat) (w : World) (h : w.heap[b]? = some (.cells #[.int .i64 x, .int .i64 y] 3 (0, 0))) :
    Calls Try.prog 61 #[.slice (some ⟨b, 0, none⟩) 2 2] w fun e w' => e = .returned (.int .i64 (if x = 0 then y else x)) ∧ w' = w := by
  have c0 := blk_cell h 0
  have c1 := blk_cell h 1
  simp only [List.getElem?_toArray, List.getElem?_cons_zero, List.getElem?_cons_succ] at c0 c1
  clear h
  by_cases hx : x = 0
  · subst hx
    by_cases hy : y = 0
    · subst hy
      go_enter Try.func61, Try.ntmps61
      go_wp2
      refine wp_loop_rounds 3 ?_
      rw [rounds_succ]
      go_wp2
      rw [rounds_succ]
      go_wp2
      rw [rounds_succ]
      go_wp2
      go_ret
      exact ⟨rfl, rfl⟩
    · have d : (y != 0) = true := by simpa using hy
      go_enter Try.func61, Try.ntmps61
      go_wp2
      refine wp_loop_rounds 3 ?_
      rw [rounds_succ]
      go_wp2
      rw [rounds_succ]
      go_wp2
      go_ret
      exact ⟨rfl, rfl⟩
  · have d : (x != 0) = true := by simpa using hx
    have HX : Hid (¬ x = 0) := hx
    clear hx
    go_enter Try.func61, Try.ntmps61
    go_wp2
    refine wp_loop_rounds 3 ?_
    rw [rounds_succ]
    go_wp2
    go_ret
    exact ⟨rfl, rfl⟩

set_option maxRecDepth 100000 in
set_option maxHeartbeats 1600000 in
theorem compKey (a0 a1 b0 b1 : ByteArray) (w : World) :
    Calls Try.prog 55 #[.agg #[.string a0, .string a1], .agg #[.string b0, .string b1]] w fun e w' => e = .returned (.int .i64 (St.cmp2 a0 a1 b0 b1)) ∧ Below w.heap.size w w' := by
  have C0 : Hid (∀ W, Calls Try.prog 62 #[.string a0, .string b0] W fun e w' => e = .returned (.int .i64 (Lib.compareBytes a0.data.toList b0.data.toList)) ∧ w' = W) := fun W => Try.strings_Compare a0 b0 W
  have C1 : Hid (∀ W, Calls Try.prog 62 #[.string a1, .string b1] W fun e w' => e = .returned (.int .i64 (Lib.compareBytes a1.data.toList b1.data.toList)) ∧ w' = W) := fun W => Try.strings_Compare a1 b1 W
  obtain ⟨R, hR⟩ : ∃ R, R = St.cmp2 a0 a1 b0 b1 := ⟨_, rfl⟩
  obtain ⟨X, hX⟩ : ∃ X, X = Lib.compareBytes a0.data.toList b0.data.toList := ⟨_, rfl⟩
  obtain ⟨Y, hY⟩ : ∃ Y, Y = Lib.compareBytes a1.data.toList b1.data.toList := ⟨_, rfl⟩
  have HR : Hid (R = if X = 0 then Y else X) := by rw [hR, hX, hY]; rfl
  rw [← hX] at C0
  rw [← hY] at C1
  rw [← hR]
  clear hX hY hR
  have CO : Hid (∀ b W, W.heap[b]? = some (.cells #[.int .i64 X, .int .i64 Y] 3 (0, 0)) → Calls Try.prog 61 #[.slice (some ⟨b, 0, none⟩) 2 2] W fun e w' => e = .returned (.int .i64 R) ∧ w' = W) := fun b W h => by rw [HR.out]; exact orInt X Y b W h
  clear HR
  have HB : Hid (Below w.heap.size w ((w.alloc (.cells #[.string a0, .string a1] 98)).alloc (.cells #[.string b0, .string b1] 98))) := ((Below.refl _ _).alloc (Nat.le_refl _) _).alloc (by simp) _
  have q0 := s2_0 w (.cells #[.string a0, .string a1] 98) (.cells #[.string b0, .string b1] 98)
  have q1 := s2_1 w (.cells #[.string a0, .string a1] 98) (.cells #[.string b0, .string b1] 98)
  have z0 := blk_cell q0 0
  have z1 := blk_cell q0 1
  have z2 := blk_cell q1 0
  have z3 := blk_cell q1 1
  simp only [List.getElem?_toArray, List.getElem?_cons_zero, List.getElem?_cons_succ] at z0 z1 z2 z3
  clear q0 q1
  go_enter Try.func55, Try.ntmps55
  go_wp2_with fail
  generalize (w.alloc (.cells #[.string a0, .string a1] 98)).alloc (.cells #[.string b0, .string b1] 98) = W0 at *
  go_region_held3 (fun W => W.cell? ⟨w.heap.size, 0, none⟩ = some (.string a0) ∧ W.cell? ⟨w.heap.size, 1, none⟩ = some (.string a1) ∧ W.cell? ⟨w.heap.size + 1, 0, none⟩ = some (.string b0) ∧ W.cell? ⟨w.heap.size + 1, 1, none⟩ = some (.string b1)) (first | go_keep | assumption) ((first
    | (go_at_call_of 62 (Value.string a0); refine (C0.out _).mono ?_; rintro e w1 ⟨rfl, rfl⟩)
    | (go_at_call_of 62 (Value.string a1); refine (C1.out _).mono ?_; rintro e w1 ⟨rfl, rfl⟩)
    | (go_at_call 61; refine (CO.out W0.heap.size (W0.drew.alloc (.cells #[.int .i64 X, .int .i64 Y] 3)) (heap_alloc_new W0.drew (.cells #[.int .i64 X, .int .i64 Y] 3))).mono ?_; rintro e w1 ⟨rfl, rfl⟩)))
  all_goals
    go_wp2
    go_ret
    exact ⟨rfl, (HB.out.alloc HB.out.size _).drew⟩
end PartOkB
section PartEqB
open Go.RowKit

theorem VrAt.row {w : World} {a : Option Addr} {n c : Nat} {xs : List Vr} (h : VrAt w (.slice a n c) xs) (hn : xs.length = n) {j : Nat} (hj : j < n) : ∃ b o, a = some ⟨b, o, none⟩ ∧ b < w.heap.size ∧ w.cell? ⟨b, o + j * 2, none⟩ = some (.string (xs.getD j Vr.no).name) ∧ w.cell? ⟨b, o + j * 2 + 1, none⟩ = some (.string (xs.getD j Vr.no).val) := by
  obtain ⟨a', c', e, f⟩ := h
  obtain ⟨rfl, rfl, rfl⟩ : a = a' ∧ n = xs.length ∧ c = c' := by simpa using e
  obtain ⟨b, o, rfl, hb, hc⟩ := f (by omega)
  exact ⟨b, o, rfl, hb, hc j hj⟩
theorem ClAt.row {w : World} {a : Option Addr} {n c : Nat} {xs : List Cl} (h : ClAt w (.slice a n c) xs) (hn : xs.length = n) {j : Nat} (hj : j < n) : ∃ b o, a = some ⟨b, o, none⟩ ∧ b < w.heap.size ∧ w.cell? ⟨b, o + j * 3, none⟩ = some (.string (xs.getD j Cl.no).name) ∧ w.cell? ⟨b, o + j * 3 + 1, none⟩ = some (.string (xs.getD j Cl.no).key) ∧ w.cell? ⟨b, o + j * 3 + 2, none⟩ = some (.string (xs.getD j Cl.no).val) := by
  obtain ⟨a', c', e, f⟩ := h
  obtain ⟨rfl, rfl, rfl⟩ : a = a' ∧ n = xs.length ∧ c = c' := by simpa using e
  obtain ⟨b, o, rfl, hb, hc⟩ := f (by omega)
  exact ⟨b, o, rfl, hb, hc j hj⟩

set_option maxHeartbeats 8000000 in
theorem specSame8 (va ra vb rb : Value) (o o' : ByteArray) (ps qs : List Vr) (rs ss : List Cl) (w : World) (h1 : VrAt w va ps) (g1 : ClAt w ra rs) (h2 : VrAt w vb qs) (g2 : ClAt w rb ss) (hl : ps.length ≤ 1048576) (hl2 : qs.length ≤ 1048576) (hr : rs.length ≤ 1048576) (hr2 : ss.length ≤ 1048576) :
    Calls Try.prog 11 #[.agg #[va, ra, .string o], .agg #[vb, rb, .string o']] w fun e w' => e = .returned (.bool (St.same ps qs rs ss o o')) ∧ Below w.heap.size w w' := by
  obtain ⟨V, hV⟩ : ∃ V, V = St.same ps qs rs ss o o' := ⟨_, rfl⟩
  have HV : Hid (V = St.same ps qs rs ss o o') := hV
  rw [← hV]
  clear hV
  have HP : Hid (∀ W, Below w.heap.size w W → VrAt W va ps ∧ VrAt W vb qs ∧ ClAt W ra rs ∧ ClAt W rb ss) := fun W hb => ⟨h1.keep hb, h2.keep hb, g1.keep hb, g2.keep hb⟩
  obtain ⟨a1, c1, rfl, -⟩ := h1
  obtain ⟨a2, c2, rfl, -⟩ := h2
  obtain ⟨d1, e1, rfl, -⟩ := g1
  obtain ⟨d2, e2, rfl, -⟩ := g2
  obtain ⟨n, hn⟩ : ∃ n, n = ps.length := ⟨_, rfl⟩
  obtain ⟨m, hm⟩ : ∃ m, m = rs.length := ⟨_, rfl⟩
  obtain ⟨n', hn'⟩ : ∃ n', n' = qs.length := ⟨_, rfl⟩
  obtain ⟨m', hm'⟩ : ∃ m', m' = ss.length := ⟨_, rfl⟩
  have HV2 : Hid (V = ((decide (n = n') && (List.range n).all (fun i => St.eqVr (ps.getD i Vr.no) (qs.getD i Vr.no))) && ((decide (m = m') && (List.range m).all (fun i => St.eqCl (rs.getD i Cl.no) (ss.getD i Cl.no))) && (o.toList == o'.toList)))) := HV.out.trans (by rw [hn, hn', hm, hm']; rfl)
  rw [← hn, ← hn', ← hm, ← hm'] at HP
  rw [← hn] at hl ⊢
  rw [← hn'] at hl2 ⊢
  rw [← hm] at hr ⊢
  rw [← hm'] at hr2 ⊢
  have HN : Hid (n = ps.length ∧ n' = qs.length ∧ m = rs.length ∧ m' = ss.length) := ⟨hn, hn', hm, hm'⟩
  clear HV hn hn' hm hm'
  have HB : Hid (Below w.heap.size w ((w.alloc (.cells #[.slice a1 n c1, .slice d1 m e1, .string o] 27)).alloc (.cells #[.slice a2 n' c2, .slice d2 m' e2, .string o'] 27))) := ((Below.refl _ _).alloc (Nat.le_refl _) _).alloc (by simp) _
  have q0 := s2_0 w (.cells #[.slice a1 n c1, .slice d1 m e1, .string o] 27) (.cells #[.slice a2 n' c2, .slice d2 m' e2, .string o'] 27)
  have q1 := s2_1 w (.cells #[.slice a1 n c1, .slice d1 m e1, .string o] 27) (.cells #[.slice a2 n' c2, .slice d2 m' e2, .string o'] 27)
  have hz : w.heap.size + 1 < ((w.alloc (.cells #[.slice a1 n c1, .slice d1 m e1, .string o] 27)).alloc (.cells #[.slice a2 n' c2, .slice d2 m' e2, .string o'] 27)).heap.size := by simp
  by_cases hn : ¬ n = n'
  · have dq : ((n : Int) != (n' : Int)) = true := by simp; omega
    have HR : Hid (V = false) := HV2.out.trans (by rw [decide_eq_false hn]; rfl)
    clear HV2 HP q0 q1 hz hn
    go_enter Try.func11, Try.ntmps11
    go_wp2
    go_ret
    exact ⟨by rw [HR.out]; rfl, HB.out⟩
  replace hn := Decidable.not_not.1 hn
  subst hn
  have dn : ((n : Int) != (n : Int)) = false := by simp
  by_cases hm : ¬ m = m'
  · have dq : ((m : Int) != (m' : Int)) = true := by simp; omega
    have HR : Hid (V = false) := HV2.out.trans (by rw [decide_eq_false hm]; simp)
    clear HV2 HP q0 q1 hz hm
    go_enter Try.func11, Try.ntmps11
    go_wp2
    go_ret
    exact ⟨by rw [HR.out]; rfl, HB.out⟩
  replace hm := Decidable.not_not.1 hm
  subst hm
  have dm : ((m : Int) != (m : Int)) = false := by simp
  cases ho : (o.toList == o'.toList) with
  | false =>
    have HR : Hid (V = false) := HV2.out.trans (by rw [ho]; simp)
    clear HV2 HP q0 q1 hz
    go_enter Try.func11, Try.ntmps11
    go_wp2
    go_ret
    exact ⟨by rw [HR.out]; rfl, HB.out⟩
  | true =>
  have HV3 : Hid (V = ((List.range n).all (fun i => St.eqVr (ps.getD i Vr.no) (qs.getD i Vr.no)) && (List.range m).all (fun i => St.eqCl (rs.getD i Cl.no) (ss.getD i Cl.no)))) := HV2.out.trans (by rw [ho]; simp)
  clear HV2
  go_enter Try.func11, Try.ntmps11
  go_wp2
  generalize (w.alloc (.cells #[.slice a1 n c1, .slice d1 m e1, .string o] 27)).alloc (.cells #[.slice a2 n c2, .slice d2 m e2, .string o'] 27) = W0 at *
  have HQ : Hid (∀ wr, Below W0.heap.size W0 wr → (wr.cell? ⟨w.heap.size, 0, none⟩ = some (.slice a1 n c1) ∧ wr.cell? ⟨w.heap.size, 1, none⟩ = some (.slice d1 m e1)) ∧ wr.cell? ⟨w.heap.size + 1, 0, none⟩ = some (.slice a2 n c2) ∧ wr.cell? ⟨w.heap.size + 1, 1, none⟩ = some (.slice d2 m e2)) := by
    intro wr hb
    have s0 := (hb.block _ (by omega)).trans q0
    have s1 := (hb.block _ (by omega)).trans q1
    have z0 := blk_cell s0 0
    have z1 := blk_cell s0 1
    have z2 := blk_cell s1 0
    have z3 := blk_cell s1 1
    simp only [List.getElem?_toArray, List.getElem?_cons_zero, List.getElem?_cons_succ] at z0 z1 z2 z3
    exact ⟨⟨z0, z1⟩, z2, z3⟩
  clear q0 q1 dn dm hz ho
  go_loopw [5] (fun i wr => ∃ j : Nat, i = .int .i64 (j : Int) ∧ j ≤ n ∧ Hid (Below W0.heap.size W0 wr) ∧ Hid (∀ q, q < j → St.eqVr (ps.getD q Vr.no) (qs.getD q Vr.no) = true)) (fun i _ => n - (intOf i).toNat)
  case atStart => exact ⟨0, rfl, by omega, Below.refl _ _, fun q hq => by omega⟩
  case round =>
    obtain ⟨j, rfl, hj, HW, HJ⟩ := hrel
    obtain ⟨⟨z0, z1⟩, z2, z3⟩ := HQ.out _ HW.out
    have HWW : Hid (Below w.heap.size w wr) := HB.out.trans (HW.out.mono HB.out.size)
    by_cases hlt : j < n
    · obtain ⟨f1, f2, f3, f4⟩ := HP.out _ HWW.out
      obtain ⟨g1, o1, rfl, l1, t1⟩ := VrAt.row f1 HN.out.1.symm hlt
      obtain ⟨g2, o2, rfl, l2, t2⟩ := VrAt.row f2 HN.out.2.1.symm hlt
      clear f1 f2 f3 f4
      obtain ⟨p, hp⟩ : ∃ p, p = ps.getD j Vr.no := ⟨_, rfl⟩
      obtain ⟨u, hu⟩ : ∃ u, u = qs.getD j Vr.no := ⟨_, rfl⟩
      rw [← hp] at t1
      rw [← hu] at t2
      have HPJ : Hid (p = ps.getD j Vr.no) := hp
      have HUJ : Hid (u = qs.getD j Vr.no) := hu
      clear hp hu
      obtain ⟨x0, x1⟩ := t1
      obtain ⟨v0, v1⟩ := t2
      have qn := fun w => neqVr p u w
      have qg := guardVr
      obtain ⟨r, hr⟩ : ∃ r, r = St.eqVr p u := ⟨_, rfl⟩
      rw [← hr] at qn
      have HRL : Hid (r = St.eqVr p u) := hr
      clear hr
      obtain ⟨p0, p1⟩ := p
      obtain ⟨u0, u1⟩ := u
      simp only at x0 v0 x1 v1 qn
      have i1 : (j : Int) < (n : Int) := by omega
      have i0 : (0 : Int) ≤ (j : Int) := by omega
      cases r
      · have HR : Hid (V = false) := HV3.out.trans (by rw [St.all_no hlt (by rw [← HPJ.out, ← HUJ.out]; exact HRL.out.symm)]; simp)
        simp only [Bool.not_false] at qn
        clear HPJ HUJ HRL HV3 HJ
        go_wp2_with fail
        go_quiet (fail)
        go_wp2
        go_ret
        exact ⟨by rw [HR.out]; rfl, below_drewN HWW.out _⟩
      · have HNX : Hid (∀ q, q < j + 1 → St.eqVr (ps.getD q Vr.no) (qs.getD q Vr.no) = true) := fun q h => by
          by_cases e : q = j
          · subst e; rw [← HPJ.out, ← HUJ.out]; exact HRL.out.symm
          · exact HJ.out q (by omega)
        simp only [Bool.not_true] at qn
        clear HPJ HUJ HRL HJ
        go_wp2_with fail
        go_quiet (fail)
        go_wp2
        go_roundw
        case rel => exact ⟨j + 1, by go_num, by omega, below_drewN HW.out _, HNX⟩
        case measure => simp [intOf]; omega
    · obtain rfl : j = n := by omega
      have HJ1 : Hid (∀ q, q < j → St.eqVr (ps.getD q Vr.no) (qs.getD q Vr.no) = true) := HJ
      clear HJ HWW
      go_wp2
      clear z0 z1 z2 z3
      go_loopw [6] (fun i wr => ∃ j : Nat, i = .int .i64 (j : Int) ∧ j ≤ m ∧ Hid (Below W0.heap.size W0 wr) ∧ Hid (∀ q, q < j → St.eqCl (rs.getD q Cl.no) (ss.getD q Cl.no) = true)) (fun i _ => m - (intOf i).toNat)
      case atStart => exact ⟨0, rfl, by omega, HW, fun q hq => by omega⟩
      case round =>
        obtain ⟨j, rfl, hj, HW, HJ⟩ := hrel
        obtain ⟨⟨z0, z1⟩, z2, z3⟩ := HQ.out _ HW.out
        have HWW : Hid (Below w.heap.size w wr) := HB.out.trans (HW.out.mono HB.out.size)
        by_cases hlt : j < m
        · obtain ⟨f1, f2, f3, f4⟩ := HP.out _ HWW.out
          obtain ⟨g1, o1, rfl, l1, t1⟩ := ClAt.row f3 HN.out.2.2.1.symm hlt
          obtain ⟨g2, o2, rfl, l2, t2⟩ := ClAt.row f4 HN.out.2.2.2.symm hlt
          clear f1 f2 f3 f4
          obtain ⟨p, hp⟩ : ∃ p, p = rs.getD j Cl.no := ⟨_, rfl⟩
          obtain ⟨u, hu⟩ : ∃ u, u = ss.getD j Cl.no := ⟨_, rfl⟩
          rw [← hp] at t1
          rw [← hu] at t2
          have HPJ : Hid (p = rs.getD j Cl.no) := hp
          have HUJ : Hid (u = ss.getD j Cl.no) := hu
          clear hp hu
          obtain ⟨x0, x1, x2⟩ := t1
          obtain ⟨v0, v1, v2⟩ := t2
          have qn := fun w => neqCl p u w
          have qg := guardCl
          obtain ⟨r, hr⟩ : ∃ r, r = St.eqCl p u := ⟨_, rfl⟩
          rw [← hr] at qn
          have HRL : Hid (r = St.eqCl p u) := hr
          clear hr
          obtain ⟨p0, p1, p2⟩ := p
          obtain ⟨u0, u1, u2⟩ := u
          simp only at x0 v0 x1 v1 x2 v2 qn
          have i1 : (j : Int) < (m : Int) := by omega
          have i0 : (0 : Int) ≤ (j : Int) := by omega
          cases r
          · have HR : Hid (V = false) := HV3.out.trans (by rw [St.all_no hlt (by rw [← HPJ.out, ← HUJ.out]; exact HRL.out.symm)]; simp)
            simp only [Bool.not_false] at qn
            clear HPJ HUJ HRL HV3 HJ
            go_wp2_with fail
            go_quiet (fail)
            go_wp2
            go_ret
            exact ⟨by rw [HR.out]; rfl, below_drewN HWW.out _⟩
          · have HNX : Hid (∀ q, q < j + 1 → St.eqCl (rs.getD q Cl.no) (ss.getD q Cl.no) = true) := fun q h => by
              by_cases e : q = j
              · subst e; rw [← HPJ.out, ← HUJ.out]; exact HRL.out.symm
              · exact HJ.out q (by omega)
            simp only [Bool.not_true] at qn
            clear HPJ HUJ HRL HJ
            go_wp2_with fail
            go_quiet (fail)
            go_wp2
            go_roundw
            case rel => exact ⟨j + 1, by go_num, by omega, below_drewN HW.out _, HNX⟩
            case measure => simp [intOf]; omega
        · obtain rfl : j = m := by omega
          have HR : Hid (V = true) := HV3.out.trans (by rw [St.all_yes HJ.out, St.all_yes HJ1.out]; rfl)
          clear HV3 HJ HJ1
          go_wp2
          go_ret
          exact ⟨by rw [HR.out]; rfl, HWW.out⟩
end PartEqB
end Go.Proofs.Ytmofljfffcnlbaa
