/- What is read of the bytes of a message: the specification's ReadMessage. -/
import Derived.Test.YtdkenmpdgadcpaaDoorMPRmZax
import Derived.Test.YtdkenmpdgadcpaaDoorMPRmRcS
import Derived.Test.YtdkenmpdgadcpaaDoorMPRmMtS
import Derived.Test.YtdkenmpdgadcpaaDoorMPRmSpUns
import Derived.Test.YtdkenmpdgadcpaaDoorMPRmRmI
import Derived.Deep.RegionWith
namespace Go.Proofs.YtdkenmpdgadcpaaDoor
open Go.RowKit

/-- What the specification's walk holds: the answer's box, the reader's box g. -/
structure MX (w W : World) (g : Nat) (u : ByteArray) (a : Nat) (bad : Bool) : Prop where
  env : Below w.heap.size w W
  res : W.heap[w.heap.size]? = some (.cells #[.int .i64 0, .int .i64 0, .int .i64 0, .int .i64 0, .string ⟨#[]⟩] 27 (0, 0))
  rd : Cu7 W g u a bad
  lt : w.heap.size < g
theorem MX.call {w W W' : World} {g : Nat} {u : ByteArray} {a a' : Nat} {bad bad' : Bool} (h : MX w W g u a bad) (hg : W.grownBy W' (some g)) (h2 : Cu7 W' g u a' bad') : MX w W' g u a' bad' :=
  ⟨h.env.grown hg h.env.size (fun k hk => by simp at hk; have := h.lt; omega), (hg.block _ (blk_lt h.res) (by simp; have := h.lt; omega)).trans h.res, h2, h.lt⟩
theorem MX.below {w W W' : World} {g : Nat} {u : ByteArray} {a : Nat} {bad : Bool} (h : MX w W g u a bad) (hb : Below W.heap.size W W') : MX w W' g u a bad :=
  ⟨h.env.trans (hb.mono h.env.size), (hb.block _ (blk_lt h.res)).trans h.res, (hb.block _ (blk_lt h.rd)).trans h.rd, h.lt⟩

theorem MX.far {w W : World} {g : Nat} {u : ByteArray} {a : Nat} {bad : Bool} (h : MX w W g u a bad) (x j : Nat) (v : Value) (hx : x ≠ g) (hxw : w.heap.size < x) : MX w (W.setCell ⟨x, j, none⟩ v) g u a bad :=
  ⟨h.env.setCell (by show w.heap.size ≤ x; omega) _, (Below.heap_setCell _ _ _ _ (by show w.heap.size ≠ x; omega)).trans h.res, (Below.heap_setCell _ _ _ _ (by show g ≠ x; omega)).trans h.rd, h.lt⟩
theorem byteAtM (s : ByteArray) (a : Nat) (h : a < s.size) : ((s.data.toList.getD a 0).toNat : Int) = IntKind.i64.wrap ((s[a]'h).toNat : Int) := by
  have e : s.data.toList.getD a 0 = s[a]'h := by
    have h2 : a < s.data.toList.length := by simpa using h
    rw [List.getD_eq_getElem?_getD, List.getElem?_eq_getElem h2, Option.getD_some]
    rfl
  rw [e]
  have := (s[a]'h).toNat_lt
  unfold IntKind.wrap
  simp [IntKind.bits, IntKind.signed]
  omega
theorem fiveM {W : World} {g : Nat} {u0 u1 u2 u3 u4 : Value} (h : W.heap[g]? = some (.cells #[u0, u1, u2, u3, u4] 27 (0, 0))) :
    (W.cell? ⟨g, 0, none⟩ = some u0 ∧ W.cell? ⟨g, 1, none⟩ = some u1 ∧ W.cell? ⟨g, 2, none⟩ = some u2 ∧ W.cell? ⟨g, 3, none⟩ = some u3 ∧ W.cell? ⟨g, 4, none⟩ = some u4) ∧
    W.frozen? ⟨g, 0, none⟩ = false ∧ W.frozen? ⟨g, 1, none⟩ = false ∧ W.frozen? ⟨g, 2, none⟩ = false ∧ W.frozen? ⟨g, 3, none⟩ = false ∧ W.frozen? ⟨g, 4, none⟩ = false :=
  ⟨⟨(blk_cell h 0).trans rfl, (blk_cell h 1).trans rfl, (blk_cell h 2).trans rfl, (blk_cell h 3).trans rfl, (blk_cell h 4).trans rfl⟩, blk_free h 0, blk_free h 1, blk_free h 2, blk_free h 3, blk_free h 4⟩

set_option maxHeartbeats 8000000 in
set_option maxRecDepth 100000 in
theorem spReadMessage (s : ByteArray) (w : World) (hs : s.size ≤ 1048576) :
    Calls Tryd.prog 9 #[.string s] w fun e w' => Ms.Ans s e ∧ Below w.heap.size w w' := by
  have CU : Hid (∀ W, Calls Tryd.prog 21 #[.string s] W fun e w' => e = .returned (unsRes s) ∧ Below W.heap.size W w') := fun W => specUnsealed_any s W hs
  have HA : Hid (Below w.heap.size w (w.alloc (.cells #[.int .i64 0, .int .i64 0, .int .i64 0, .int .i64 0, .string ⟨#[]⟩] 27))) := (Below.refl _ _).alloc (Nat.le_refl _) _
  have HR0 : Hid ((w.alloc (.cells #[.int .i64 0, .int .i64 0, .int .i64 0, .int .i64 0, .string ⟨#[]⟩] 27)).heap[w.heap.size]? = some (.cells #[.int .i64 0, .int .i64 0, .int .i64 0, .int .i64 0, .string ⟨#[]⟩] 27 (0, 0))) := heap_alloc_new _ _
  by_cases hS : Ps.isS s
  · obtain ⟨u, hu⟩ : ∃ u : ByteArray, u = ⟨(s.data.toList.take (s.size - 4)).toArray⟩ := ⟨_, rfl⟩
    rw [unsRes_yes s hS, ← hu] at CU
    have hU : u.data.toList = s.data.toList.take (s.size - 4) := by rw [hu]
    have hus : u.size ≤ 1048576 := by rw [hu]; show (s.data.toList.take (s.size - 4)).toArray.size ≤ 1048576; simp; omega
    have hul : u.data.toList.length = u.size := by simp
    have HUL := hidOfT hul
    obtain ⟨U, hUU⟩ : ∃ U, U = u.data.toList := ⟨_, rfl⟩
    have HS := hidOfT (And.intro hS (hUU.trans hU))
    have HUU := hidOfT hUU
    clear hu hU hul hUU hS
    by_cases h2 : u.size < 2
    · have d2 : decide ((u.size : Int) < 2) = true := decide_eq_true (by omega)
      have HN : Hid (∀ m : Ms, m.ok = true → m.raw ≠ U) := fun m hm hr => by
        have h3 := (Ms.of_raw hm hr).1
        have h4 := HUL.out
        rw [← HUU.out] at h4
        omega
      go_enter Tryd.func9, Tryd.ntmps9
      go_wp2_with fail
      generalize w.alloc (.cells #[.int .i64 0, .int .i64 0, .int .i64 0, .int .i64 0, .string ⟨#[]⟩] 27) = W0 at *
      refine (CU.out _).mono ?_
      rintro e w1 ⟨rfl, hb1⟩
      have HR1 := hidOfT ((hb1.block _ (blk_lt HR0.out)).trans HR0.out)
      have HA1 := hidOfT (HA.out.trans (hb1.mono HA.out.size))
      clear hb1 CU HR0 HA
      have r0 := (blk_cell HR1.out 0).trans rfl
      have r1 := (blk_cell HR1.out 1).trans rfl
      have r2 := (blk_cell HR1.out 2).trans rfl
      have r3 := (blk_cell HR1.out 3).trans rfl
      have r4 := (blk_cell HR1.out 4).trans rfl
      have e0 := blk_free HR1.out 0
      have e1 := blk_free HR1.out 1
      have e2 := blk_free HR1.out 2
      have e3 := blk_free HR1.out 3
      have e4 := blk_free HR1.out 4
      go_wp2_with fail
      refine bodyPost_ret (res_msg rfl _ _ w.heap.size _ _ _ _ _ rfl (setM HR1.out _ _ _ _ _)) rfl ?_
      exact ⟨.inr ⟨fun m _ hm hr => HN.out m hm (hr.trans HS.out.2.symm), rfl⟩, belowM HA1.out _ _ _ _ _⟩
    · have d2 : decide ((u.size : Int) < 2) = false := decide_eq_false (by omega)
      have g0 : 0 < u.size := by omega
      have g1 : 1 < u.size := by omega
      have CN : Hid (∀ (W : World) (g a : Nat) (bad : Bool), Cu7 W g u a bad → a ≤ u.size → Calls Tryd.prog 22 #[.pointer (some ⟨g, 0, none⟩)] W fun e w' => ∃ (n a' : Nat) (bad' : Bool), e = .returned (.int .i64 (n : Int)) ∧ W.grownBy w' (some g) ∧ Cu7 w' g u a' bad' ∧ n ≤ 1000000000 ∧ a' ≤ u.size ∧
          (bad' = false → bad = false ∧ Rc.rv u.data.toList a = some (n, a')) ∧ (bad' = true → bad = true ∨ Rc.rv u.data.toList a = none)) := fun W g a bad h ha => spVar1 g u a bad W h ha hus
      go_enter Tryd.func9, Tryd.ntmps9
      go_wp2_with fail
      generalize w.alloc (.cells #[.int .i64 0, .int .i64 0, .int .i64 0, .int .i64 0, .string ⟨#[]⟩] 27) = W0 at *
      refine (CU.out _).mono ?_
      rintro e w1 ⟨rfl, hb1⟩
      have HR1 := hidOfT ((hb1.block _ (blk_lt HR0.out)).trans HR0.out)
      have HA1 := hidOfT (HA.out.trans (hb1.mono HA.out.size))
      clear hb1 CU HR0 HA
      obtain ⟨g, hg⟩ : ∃ g, g = w1.heap.size := ⟨_, rfl⟩
      have H0 : Hid (MX w (w1.alloc (.cells #[.string u, .int .i64 2, .bool false] 49)) g u 2 false) := by
        rw [hg]
        exact ⟨HA1.out.alloc HA1.out.size _, (Lib.alloc_old w1 _ _ (blk_lt HR1.out)).trans HR1.out, heap_alloc_new w1 _, blk_lt HR1.out⟩
      go_wp2_with fail
      rw [← hg] at *
      generalize w1.alloc (.cells #[.string u, .int .i64 2, .bool false] 49) = W1 at *
      clear HR1 HA1
      have hx : g < W1.heap.size := blk_lt H0.out.rd
      have hle : 2 ≤ u.size := by omega
      have hi0 : (0 : Int) < (u.size : Int) := by omega
      have hi1 : (1 : Int) < (u.size : Int) := by omega
      refine wp_region_noPanic ?_
      refine wp_region_held_drew (S := fun _ => True) (by kernel_rfl) trivial (fun _ => ?_)
      refine wpAnyH_take (i := 0) (v := ?_) rfl (by kernel_rfl) (by kernel_rfl) (by kernel_rfl) (fun _ _ _ h => h) (Or.inl ⟨by kernel_rfl, ?_⟩) trivial ?_
      rotate_left
      · (intro u9 hSw; (try dsimp only at hSw); go_simp; try with_reducible rfl)
      show wpAnyH _ _ _ _ _ _ _ (Act.put _ (some 26) _) _
      (try simp only [Act.put]); (try simp only [List.setIfInBounds_toArray]); (try simp only [List.set_cons_succ, List.set_cons_zero])
      refine wpAnyH_take (i := 1) (v := ?_) rfl (by kernel_rfl) (by kernel_rfl) (by kernel_rfl) (fun _ _ _ h => h) (Or.inl ⟨by kernel_rfl, ?_⟩) trivial ?_
      rotate_left
      · (intro u9 hSw; (try dsimp only at hSw); go_simp; try with_reducible rfl)
      show wpAnyH _ _ _ _ _ _ _ (Act.put _ (some 27) _) _
      (try simp only [Act.put]); (try simp only [List.setIfInBounds_toArray]); (try simp only [List.set_cons_succ, List.set_cons_zero])
      refine wpAnyH_take (i := 2) (v := ?_) rfl (by kernel_rfl) (by kernel_rfl) (by kernel_rfl) (fun _ _ _ h => h) (Or.inl ⟨by kernel_rfl, ?_⟩) trivial ?_
      rotate_left
      · (intro u9 hSw; (try dsimp only at hSw); go_simp; try with_reducible rfl)
      show wpAnyH _ _ _ _ _ _ _ (Act.put _ (some 28) _) _
      (try simp only [Act.put]); (try simp only [List.setIfInBounds_toArray]); (try simp only [List.set_cons_succ, List.set_cons_zero])
      refine wpAnyH_take (i := 3) (v := ?_) rfl (by kernel_rfl) (by kernel_rfl) (by kernel_rfl) (fun _ _ _ h => h) (Or.inl ⟨by kernel_rfl, ?_⟩) trivial ?_
      rotate_left
      · (intro u9 hSw; (try dsimp only at hSw); go_simp; try with_reducible rfl)
      show wpAnyH _ _ _ _ _ _ _ (Act.put _ (some 29) _) _
      (try simp only [Act.put]); (try simp only [List.setIfInBounds_toArray]); (try simp only [List.set_cons_succ, List.set_cons_zero])
      refine wpAnyH_take (i := 4) (v := ?_) rfl (by kernel_rfl) (by kernel_rfl) (by kernel_rfl) (fun _ _ _ h => h) (Or.inl ⟨by kernel_rfl, ?_⟩) trivial ?_
      rotate_left
      · (intro u9 hSw; (try dsimp only at hSw); go_simp; try with_reducible rfl)
      show wpAnyH _ _ _ _ _ _ _ (Act.put _ (some 30) _) _
      (try simp only [Act.put]); (try simp only [List.setIfInBounds_toArray]); (try simp only [List.set_cons_succ, List.set_cons_zero])
      refine wpAnyH_take (i := 5) (v := ?_) rfl (by kernel_rfl) (by kernel_rfl) (by kernel_rfl) (fun _ _ _ h => h) (Or.inl ⟨by kernel_rfl, ?_⟩) trivial ?_
      rotate_left
      · (intro u9 hSw; (try dsimp only at hSw); go_simp; try with_reducible rfl)
      show wpAnyH _ _ _ _ _ _ _ (Act.put _ (some 31) _) _
      (try simp only [Act.put]); (try simp only [List.setIfInBounds_toArray]); (try simp only [List.set_cons_succ, List.set_cons_zero])
      refine wpAnyH_take (i := 6) (v := ?_) rfl (by kernel_rfl) (by kernel_rfl) (by kernel_rfl) (fun _ _ _ h => h) (Or.inl ⟨by kernel_rfl, ?_⟩) trivial ?_
      rotate_left
      · (intro u9 hSw; (try dsimp only at hSw); go_simp; try with_reducible rfl)
      show wpAnyH _ _ _ _ _ _ _ (Act.put _ (some 32) _) _
      (try simp only [Act.put]); (try simp only [List.setIfInBounds_toArray]); (try simp only [List.set_cons_succ, List.set_cons_zero])
      refine wpAnyH_ready (rs := [7, 9]) (by kernel_rfl) (by simp) ?_
      refine AllReadyH.cons rfl (fun K hK => ?_) (AllReadyH.cons rfl (fun K hK => ?_) AllReadyH.nil)
      · go_simp
        go_at_call 22
        refine (CN.out W1.drew g 2 false H0.out.rd hle).mono ?_
        rintro e w2 ⟨n1, a1, b1, rfl, hg2, hr2, hn1, ha1, hgood1, hbad1⟩
        have H1 : Hid (MX w w2 g u a1 b1) := MX.call (W := W1.drew) ⟨H0.out.env.drew, H0.out.res, H0.out.rd, H0.out.lt⟩ hg2 hr2
        have hgs : g < w2.heap.size := blk_lt hr2
        clear hg2 hr2
        try dsimp only
        refine hK.out _ _ trivial (fun _ => ?_)
        clear hK K
        try show wpAnyH _ _ _ _ _ _ _ (Act.put _ (some 33) _) _
        (try simp only [Act.put]); (try simp only [List.setIfInBounds_toArray]); (try simp only [List.set_cons_succ, List.set_cons_zero])
        refine wpAnyH_take (i := 8) (v := ?_) rfl (by kernel_rfl) (by kernel_rfl) (by kernel_rfl) (fun _ _ _ h => h) (Or.inl ⟨by kernel_rfl, ?_⟩) trivial ?_
        rotate_left
        · (intro u9 hSw; (try dsimp only at hSw); go_simp; try with_reducible rfl)
        show wpAnyH _ _ _ _ _ _ _ (Act.put _ (some 34) _) _
        (try simp only [Act.put]); (try simp only [List.setIfInBounds_toArray]); (try simp only [List.set_cons_succ, List.set_cons_zero])
        refine wpAnyH_ready (rs := [9]) (by kernel_rfl) (by simp) ?_
        refine AllReadyH.cons rfl (fun K hK => ?_) AllReadyH.nil
        go_simp
        refine hK.out _ _ trivial (fun _ => ?_)
        clear hK K
        (try simp only [Act.put]); (try simp only [List.setIfInBounds_toArray]); (try simp only [List.set_cons_succ, List.set_cons_zero])
        refine wpAnyH_ready (rs := [10]) (by kernel_rfl) (by simp) ?_
        refine AllReadyH.cons rfl (fun K hK => ?_) AllReadyH.nil
        go_simp
        refine hK.out _ _ trivial (fun _ => ?_)
        clear hK K
        refine wpAnyH_done (by kernel_rfl) ?_ _
        refine NoPanic.normal ?_
        obtain ⟨xb, hxb⟩ : ∃ xb, xb = w2.heap.size := ⟨_, rfl⟩
        have HM : Hid (MX w (w2.alloc (.cells #[.int .i64 (IntKind.i64.wrap ((u[0]'g0).toNat : Int)), .int .i64 (IntKind.i64.wrap ((u[1]'g1).toNat : Int)), .int .i64 (n1 : Int), .int .i64 0, .string ⟨#[]⟩] 27)) g u a1 b1) := by (try rw [hxb]); exact H1.out.below ((Below.refl _ _).alloc (Nat.le_refl _) _)
        have HX : Hid ((w2.alloc (.cells #[.int .i64 (IntKind.i64.wrap ((u[0]'g0).toNat : Int)), .int .i64 (IntKind.i64.wrap ((u[1]'g1).toNat : Int)), .int .i64 (n1 : Int), .int .i64 0, .string ⟨#[]⟩] 27)).heap[xb]? = some (.cells #[.int .i64 (IntKind.i64.wrap ((u[0]'g0).toNat : Int)), .int .i64 (IntKind.i64.wrap ((u[1]'g1).toNat : Int)), .int .i64 (n1 : Int), .int .i64 0, .string ⟨#[]⟩] 27 (0, 0))) := by rw [hxb]; exact heap_alloc_new _ _
        have hxg : xb ≠ g := by omega
        have hxw : w.heap.size < xb := by have := H0.out.lt; omega
        rw [← hxb]
        clear hxb
        generalize w2.alloc (.cells #[.int .i64 (IntKind.i64.wrap ((u[0]'g0).toNat : Int)), .int .i64 (IntKind.i64.wrap ((u[1]'g1).toNat : Int)), .int .i64 (n1 : Int), .int .i64 0, .string ⟨#[]⟩] 27) = Wf at *
        clear H1 hgs
        have HG1 := hidOfT (And.intro (fun e => (hgood1 e).2) (fun e => (hbad1 e).resolve_left (by simp)))
        have E0 := byteAtM u 0 g0
        have E1 := byteAtM u 1 g1
        generalize IntKind.i64.wrap ((u[0]'g0).toNat : Int) = k0 at *
        generalize IntKind.i64.wrap ((u[1]'g1).toNat : Int) = k1 at *
        have HE := hidOfT (And.intro E0 E1)
        clear E0 E1 hgood1 hbad1 H0 hx hle
        skip
        go_wp2_with fail
        refine (CN.out _ g a1 b1 HM.out.rd ha1).mono ?_
        rintro e w3 ⟨n2, a2, b2, rfl, hg3, hr3, hn2, ha2, hgood2, hbad2⟩
        have HM3 := hidOfT (HM.out.call hg3 hr3)
        have HX3 := hidOfT ((hg3.block _ (blk_lt HX.out) (by simp; omega)).trans HX.out)
        have HG2 := hidOfT (And.intro hgood2 hbad2)
        clear hg3 hr3 hgood2 hbad2 HM HX CN ha1
        obtain ⟨⟨y0, y1, y2, y3, y4⟩, f0, f1, f2, f3, f4⟩ := fiveM HX3.out
        have hgx : g ≠ xb := fun e => hxg e.symm
        have hwx : w.heap.size ≠ xb := by omega
        have hxw2 : xb ≠ w.heap.size := by omega
        have d1 := (blk_cell HM3.out.rd 1).trans rfl
        have d2x := (blk_cell HM3.out.rd 2).trans rfl
        obtain ⟨⟨s0, s1, s2, s3, s4⟩, t0, t1, t2, t3, t4⟩ := fiveM HM3.out.res
        have HM4 := hidOfT (HM3.out.far xb 3 (.int .i64 (n2 : Int)) hxg hxw)
        have HX4 := hidOfT (blk_set HX3.out 3 (.int .i64 (n2 : Int)))
        have c1 := (blk_cell HM4.out.rd 1).trans rfl
        have c2 := (blk_cell HM4.out.rd 2).trans rfl
        obtain ⟨⟨r0, r1, r2, r3, r4⟩, q0, q1, q2, q3, q4⟩ := fiveM HM4.out.res
        cases b2 with
        | true =>
          have HN : Hid (∀ m : Ms, m.ok = true → m.raw ≠ U) := fun m hm hr => by
            obtain ⟨-, -, -, p1, p2, c1, c2, -, -, -, -, r1, r2, -, -⟩ := Ms.of_raw hm hr
            rw [HUU.out] at r1 r2
            cases b1 with
            | true => have h := HG1.out.2 (by simp); rw [h] at r1; cases r1
            | false =>
              have h := HG1.out.1 (by simp)
              rw [h] at r1
              simp only [Option.some.injEq, Prod.mk.injEq] at r1
              obtain ⟨rfl, rfl⟩ := r1
              have h := (HG2.out.2 (by simp)).resolve_left (by simp)
              rw [h] at r2
              cases r2
          clear HG1 HG2 HX3 HX4 HM3
          go_wp2_with fail
          refine bodyPost_ret (res_msg rfl _ _ w.heap.size _ _ _ _ _ rfl (setM HM4.out.res _ _ _ _ _)) rfl ?_
          exact ⟨.inr ⟨fun m _ hm hr => HN.out m hm (hr.trans HS.out.2.symm), rfl⟩, belowM HM4.out.env _ _ _ _ _⟩
        | false =>
          obtain ⟨bo, hbo⟩ : ∃ bo : ByteArray, bo = ⟨(u.data.toList.drop a2).toArray⟩ := ⟨_, rfl⟩
          have hsr : ∀ wx, (Instr.slice 9 (.string u) (some (.int .i64 (a2 : Int))) none none).run Tryd.prog wx = .ok (.string bo) wx := by
            intro wx
            rw [run_slice_string_from_if wx 9 u .i64 (a2 : Int) Tryd.underlying9, if_pos (by omega), hbo]
            have : u.extract a2 u.size = ⟨(u.data.toList.drop a2).toArray⟩ := by
              apply ByteArray.ext
              apply Array.toList_inj.1
              rw [Ps.extract_tail]
            rw [← this]
            simp
          obtain ⟨mm, hmm⟩ : ∃ mm : Ms, mm = ⟨k0, k1, (n1 : Int), (n2 : Int), bo⟩ := ⟨_, rfl⟩
          have hb1 : b1 = false := (HG2.out.1 (by simp)).1
          have R1 := HG1.out.1 hb1
          have R2 := (HG2.out.1 (by simp)).2
          have HRW : Hid (mm.raw = U) := by
            show _ = _
            rw [hmm, hbo, ← HE.out.1, ← HE.out.2, HUU.out]
            exact Ms.raw_of (by have := HUL.out; omega) R1 R2
          have HSM : Hid (∀ m : Ms, m.ok = true → m.raw = U → m = mm) := fun m hm hr => by
            rw [HUU.out] at hr
            have := Ms.raw_same R1 R2 hm hr
            rw [this, hmm, hbo, ← HE.out.1, ← HE.out.2]
          have CM : Hid (∀ W, Calls Tryd.prog 6 #[.agg #[.int .i64 k0, .int .i64 k1, .int .i64 (n1 : Int), .int .i64 (n2 : Int), .string bo]] W fun e w' => e = .returned mm.text? ∧ Below W.heap.size W w') := fun W => by
            have := spMessageText mm W
            rw [hmm] at this ⊢
            exact this
          have HMM := hidOfT hmm
          clear hmm hbo hb1 R1 R2 HG1 HG2 HX3 HM3 HE y0 y1 y2 r0 r1 r2 r3 r4 q0 q1 q2 q3 q4
          have g4 := (blk_cell HX4.out 4).trans rfl
          have h4 := blk_free HX4.out 4
          have HM5 := hidOfT (HM4.out.far xb 4 (.string bo) hxg hxw)
          have HX5 : Hid (((w3.setCell ⟨xb, 3, none⟩ (.int .i64 (n2 : Int))).setCell ⟨xb, 4, none⟩ (.string bo)).heap[xb]? = some (.cells #[.int .i64 k0, .int .i64 k1, .int .i64 (n1 : Int), .int .i64 (n2 : Int), .string bo] 27 (0, 0))) := blk_set HX4.out 4 _
          obtain ⟨⟨y0, y1, y2, y3, y4⟩, f0, f1, f2, f3, f4⟩ := fiveM HX5.out
          skip
          go_wp2_with fail
          generalize (w3.setCell ⟨xb, 3, none⟩ (.int .i64 (n2 : Int))).setCell ⟨xb, 4, none⟩ (.string bo) = W6 at *
          refine (CM.out _).mono ?_
          rintro e w7 ⟨rfl, hb7⟩
          have HM7 := hidOfT (HM5.out.below hb7)
          have HX7 := hidOfT ((hb7.block _ (blk_lt HX5.out)).trans HX5.out)
          clear hb7 HM5 HX5 CM HM4 HX4 y0 y1 y2 y3 y4 f0 f1 f2 f3 f4 c1 c2 g4 h4 hsr
          obtain ⟨⟨r0, r1, r2, r3, r4⟩, q0, q1, q2, q3, q4⟩ := fiveM HM7.out.res
          cases hok : mm.ok with
          | false =>
            have HN : Hid (∀ m : Ms, m.ok = true → m.raw ≠ U) := fun m hm hr => by
              have := HSM.out m hm hr
              rw [this, hok] at hm
              cases hm
            rw [Ms.text_no hok]
            clear hok
            go_wp2_with fail
            refine bodyPost_ret (res_msg rfl _ _ w.heap.size _ _ _ _ _ rfl (setM HM7.out.res _ _ _ _ _)) rfl ?_
            exact ⟨.inr ⟨fun m _ hm hr => HN.out m hm (hr.trans HS.out.2.symm), rfl⟩, belowM HM7.out.env _ _ _ _ _⟩
          | true =>
            have HY : Hid (mm.ok = true) := hok
            rw [Ms.seal_back HS.out.1 hok (HRW.out.trans HS.out.2)]
            have nq : (!(s.data.toList == s.data.toList)) = false := by simp
            have nq2 : (!(s.toList == s.toList)) = false := by simp
            clear hok
            obtain ⟨⟨y0, y1, y2, y3, y4⟩, f0, f1, f2, f3, f4⟩ := fiveM HX7.out
            go_wp2_with fail
            refine bodyPost_ret (res_msg rfl _ _ w.heap.size _ _ _ _ _ rfl (setM HM7.out.res _ _ _ _ _)) rfl ?_
            exact ⟨.inl ⟨mm, HS.out.1, HY.out, HRW.out.trans HS.out.2, by rw [HMM.out]; rfl⟩, belowM HM7.out.env _ _ _ _ _⟩
      · go_simp
        refine hK.out _ _ trivial (fun _ => ?_)
        clear hK K
        (try simp only [Act.put]); (try simp only [List.setIfInBounds_toArray]); (try simp only [List.set_cons_succ, List.set_cons_zero])
        refine wpAnyH_ready (rs := [7]) (by kernel_rfl) (by simp) ?_
        refine AllReadyH.cons rfl (fun K hK => ?_) AllReadyH.nil
        go_simp
        go_at_call 22
        have hxx : Cu7 (W1.drew.alloc (.cells #[.int .i64 0, .int .i64 0, .int .i64 0, .int .i64 0, .string ⟨#[]⟩] 27)) g u 2 false := (Lib.alloc_old W1 _ _ hx).trans H0.out.rd
        refine (CN.out (W1.drew.alloc (.cells #[.int .i64 0, .int .i64 0, .int .i64 0, .int .i64 0, .string ⟨#[]⟩] 27)) g 2 false hxx hle).mono ?_
        rintro e w2 ⟨n1, a1, b1, rfl, hg2, hr2, hn1, ha1, hgood1, hbad1⟩
        have H1 : Hid (MX w w2 g u a1 b1) := MX.call (W := W1.drew.alloc (.cells #[.int .i64 0, .int .i64 0, .int .i64 0, .int .i64 0, .string ⟨#[]⟩] 27)) (MX.below (W := W1.drew) ⟨H0.out.env.drew, H0.out.res, H0.out.rd, H0.out.lt⟩ ((Below.refl _ _).alloc (Nat.le_refl _) _)) hg2 hr2
        have qx := (hg2.block W1.heap.size (by simp) (by simp; omega)).trans (heap_alloc_new W1 (.cells #[.int .i64 0, .int .i64 0, .int .i64 0, .int .i64 0, .string ⟨#[]⟩] 27))
        obtain ⟨⟨y0, y1, y2, y3, y4⟩, f0, f1, f2, f3, f4⟩ := fiveM qx
        have HQX := hidOfT qx
        clear hg2 hr2 hxx qx
        try dsimp only
        refine hK.out _ _ trivial (fun _ => ?_)
        clear hK K
        try show wpAnyH _ _ _ _ _ _ _ (Act.put _ (some 33) _) _
        (try simp only [Act.put]); (try simp only [List.setIfInBounds_toArray]); (try simp only [List.set_cons_succ, List.set_cons_zero])
        refine wpAnyH_take (i := 8) (v := ?_) rfl (by kernel_rfl) (by kernel_rfl) (by kernel_rfl) (fun _ _ _ h => h) (Or.inl ⟨by kernel_rfl, ?_⟩) trivial ?_
        rotate_left
        · (intro u9 hSw; (try dsimp only at hSw); go_simp; try with_reducible rfl)
        show wpAnyH _ _ _ _ _ _ _ (Act.put _ (some 34) _) _
        (try simp only [Act.put]); (try simp only [List.setIfInBounds_toArray]); (try simp only [List.set_cons_succ, List.set_cons_zero])
        refine wpAnyH_ready (rs := [10]) (by kernel_rfl) (by simp) ?_
        refine AllReadyH.cons rfl (fun K hK => ?_) AllReadyH.nil
        go_simp
        refine hK.out _ _ trivial (fun _ => ?_)
        clear hK K
        refine wpAnyH_done (by kernel_rfl) ?_ _
        refine NoPanic.normal ?_
        clear y0 y1 y2 y3 y4 f0 f1 f2 f3 f4
        obtain ⟨xb, hxb⟩ : ∃ xb, xb = W1.heap.size := ⟨_, rfl⟩
        have HM : Hid (MX w ((((((w2.setCell ⟨xb, 0, none⟩ (.int .i64 (IntKind.i64.wrap ((u[0]'g0).toNat : Int)))).setCell ⟨xb, 1, none⟩ (.int .i64 (IntKind.i64.wrap ((u[1]'g1).toNat : Int)))).setCell ⟨xb, 2, none⟩ (.int .i64 (n1 : Int))).setCell ⟨xb, 3, none⟩ (.int .i64 0)).setCell ⟨xb, 4, none⟩ (.string ⟨#[]⟩))) g u a1 b1) := by (try rw [hxb]); exact ((((H1.out.far _ 0 _ (by omega) (by have := H0.out.lt; omega)).far _ 1 _ (by omega) (by have := H0.out.lt; omega)).far _ 2 _ (by omega) (by have := H0.out.lt; omega)).far _ 3 _ (by omega) (by have := H0.out.lt; omega)).far _ 4 _ (by omega) (by have := H0.out.lt; omega)
        have HX : Hid (((((((w2.setCell ⟨xb, 0, none⟩ (.int .i64 (IntKind.i64.wrap ((u[0]'g0).toNat : Int)))).setCell ⟨xb, 1, none⟩ (.int .i64 (IntKind.i64.wrap ((u[1]'g1).toNat : Int)))).setCell ⟨xb, 2, none⟩ (.int .i64 (n1 : Int))).setCell ⟨xb, 3, none⟩ (.int .i64 0)).setCell ⟨xb, 4, none⟩ (.string ⟨#[]⟩))).heap[xb]? = some (.cells #[.int .i64 (IntKind.i64.wrap ((u[0]'g0).toNat : Int)), .int .i64 (IntKind.i64.wrap ((u[1]'g1).toNat : Int)), .int .i64 (n1 : Int), .int .i64 0, .string ⟨#[]⟩] 27 (0, 0))) := by rw [hxb]; exact setM HQX.out _ _ _ _ _
        have hxg : xb ≠ g := by omega
        have hxw : w.heap.size < xb := by have := H0.out.lt; omega
        rw [← hxb]
        clear hxb
        generalize (((((w2.setCell ⟨xb, 0, none⟩ (.int .i64 (IntKind.i64.wrap ((u[0]'g0).toNat : Int)))).setCell ⟨xb, 1, none⟩ (.int .i64 (IntKind.i64.wrap ((u[1]'g1).toNat : Int)))).setCell ⟨xb, 2, none⟩ (.int .i64 (n1 : Int))).setCell ⟨xb, 3, none⟩ (.int .i64 0)).setCell ⟨xb, 4, none⟩ (.string ⟨#[]⟩)) = Wf at *
        clear H1 HQX
        have HG1 := hidOfT (And.intro (fun e => (hgood1 e).2) (fun e => (hbad1 e).resolve_left (by simp)))
        have E0 := byteAtM u 0 g0
        have E1 := byteAtM u 1 g1
        generalize IntKind.i64.wrap ((u[0]'g0).toNat : Int) = k0 at *
        generalize IntKind.i64.wrap ((u[1]'g1).toNat : Int) = k1 at *
        have HE := hidOfT (And.intro E0 E1)
        clear E0 E1 hgood1 hbad1 H0 hx hle
        skip
        go_wp2_with fail
        refine (CN.out _ g a1 b1 HM.out.rd ha1).mono ?_
        rintro e w3 ⟨n2, a2, b2, rfl, hg3, hr3, hn2, ha2, hgood2, hbad2⟩
        have HM3 := hidOfT (HM.out.call hg3 hr3)
        have HX3 := hidOfT ((hg3.block _ (blk_lt HX.out) (by simp; omega)).trans HX.out)
        have HG2 := hidOfT (And.intro hgood2 hbad2)
        clear hg3 hr3 hgood2 hbad2 HM HX CN ha1
        obtain ⟨⟨y0, y1, y2, y3, y4⟩, f0, f1, f2, f3, f4⟩ := fiveM HX3.out
        have hgx : g ≠ xb := fun e => hxg e.symm
        have hwx : w.heap.size ≠ xb := by omega
        have hxw2 : xb ≠ w.heap.size := by omega
        have d1 := (blk_cell HM3.out.rd 1).trans rfl
        have d2x := (blk_cell HM3.out.rd 2).trans rfl
        obtain ⟨⟨s0, s1, s2, s3, s4⟩, t0, t1, t2, t3, t4⟩ := fiveM HM3.out.res
        have HM4 := hidOfT (HM3.out.far xb 3 (.int .i64 (n2 : Int)) hxg hxw)
        have HX4 := hidOfT (blk_set HX3.out 3 (.int .i64 (n2 : Int)))
        have c1 := (blk_cell HM4.out.rd 1).trans rfl
        have c2 := (blk_cell HM4.out.rd 2).trans rfl
        obtain ⟨⟨r0, r1, r2, r3, r4⟩, q0, q1, q2, q3, q4⟩ := fiveM HM4.out.res
        cases b2 with
        | true =>
          have HN : Hid (∀ m : Ms, m.ok = true → m.raw ≠ U) := fun m hm hr => by
            obtain ⟨-, -, -, p1, p2, c1, c2, -, -, -, -, r1, r2, -, -⟩ := Ms.of_raw hm hr
            rw [HUU.out] at r1 r2
            cases b1 with
            | true => have h := HG1.out.2 (by simp); rw [h] at r1; cases r1
            | false =>
              have h := HG1.out.1 (by simp)
              rw [h] at r1
              simp only [Option.some.injEq, Prod.mk.injEq] at r1
              obtain ⟨rfl, rfl⟩ := r1
              have h := (HG2.out.2 (by simp)).resolve_left (by simp)
              rw [h] at r2
              cases r2
          clear HG1 HG2 HX3 HX4 HM3
          go_wp2_with fail
          refine bodyPost_ret (res_msg rfl _ _ w.heap.size _ _ _ _ _ rfl (setM HM4.out.res _ _ _ _ _)) rfl ?_
          exact ⟨.inr ⟨fun m _ hm hr => HN.out m hm (hr.trans HS.out.2.symm), rfl⟩, belowM HM4.out.env _ _ _ _ _⟩
        | false =>
          obtain ⟨bo, hbo⟩ : ∃ bo : ByteArray, bo = ⟨(u.data.toList.drop a2).toArray⟩ := ⟨_, rfl⟩
          have hsr : ∀ wx, (Instr.slice 9 (.string u) (some (.int .i64 (a2 : Int))) none none).run Tryd.prog wx = .ok (.string bo) wx := by
            intro wx
            rw [run_slice_string_from_if wx 9 u .i64 (a2 : Int) Tryd.underlying9, if_pos (by omega), hbo]
            have : u.extract a2 u.size = ⟨(u.data.toList.drop a2).toArray⟩ := by
              apply ByteArray.ext
              apply Array.toList_inj.1
              rw [Ps.extract_tail]
            rw [← this]
            simp
          obtain ⟨mm, hmm⟩ : ∃ mm : Ms, mm = ⟨k0, k1, (n1 : Int), (n2 : Int), bo⟩ := ⟨_, rfl⟩
          have hb1 : b1 = false := (HG2.out.1 (by simp)).1
          have R1 := HG1.out.1 hb1
          have R2 := (HG2.out.1 (by simp)).2
          have HRW : Hid (mm.raw = U) := by
            show _ = _
            rw [hmm, hbo, ← HE.out.1, ← HE.out.2, HUU.out]
            exact Ms.raw_of (by have := HUL.out; omega) R1 R2
          have HSM : Hid (∀ m : Ms, m.ok = true → m.raw = U → m = mm) := fun m hm hr => by
            rw [HUU.out] at hr
            have := Ms.raw_same R1 R2 hm hr
            rw [this, hmm, hbo, ← HE.out.1, ← HE.out.2]
          have CM : Hid (∀ W, Calls Tryd.prog 6 #[.agg #[.int .i64 k0, .int .i64 k1, .int .i64 (n1 : Int), .int .i64 (n2 : Int), .string bo]] W fun e w' => e = .returned mm.text? ∧ Below W.heap.size W w') := fun W => by
            have := spMessageText mm W
            rw [hmm] at this ⊢
            exact this
          have HMM := hidOfT hmm
          clear hmm hbo hb1 R1 R2 HG1 HG2 HX3 HM3 HE y0 y1 y2 r0 r1 r2 r3 r4 q0 q1 q2 q3 q4
          have g4 := (blk_cell HX4.out 4).trans rfl
          have h4 := blk_free HX4.out 4
          have HM5 := hidOfT (HM4.out.far xb 4 (.string bo) hxg hxw)
          have HX5 : Hid (((w3.setCell ⟨xb, 3, none⟩ (.int .i64 (n2 : Int))).setCell ⟨xb, 4, none⟩ (.string bo)).heap[xb]? = some (.cells #[.int .i64 k0, .int .i64 k1, .int .i64 (n1 : Int), .int .i64 (n2 : Int), .string bo] 27 (0, 0))) := blk_set HX4.out 4 _
          obtain ⟨⟨y0, y1, y2, y3, y4⟩, f0, f1, f2, f3, f4⟩ := fiveM HX5.out
          skip
          go_wp2_with fail
          generalize (w3.setCell ⟨xb, 3, none⟩ (.int .i64 (n2 : Int))).setCell ⟨xb, 4, none⟩ (.string bo) = W6 at *
          refine (CM.out _).mono ?_
          rintro e w7 ⟨rfl, hb7⟩
          have HM7 := hidOfT (HM5.out.below hb7)
          have HX7 := hidOfT ((hb7.block _ (blk_lt HX5.out)).trans HX5.out)
          clear hb7 HM5 HX5 CM HM4 HX4 y0 y1 y2 y3 y4 f0 f1 f2 f3 f4 c1 c2 g4 h4 hsr
          obtain ⟨⟨r0, r1, r2, r3, r4⟩, q0, q1, q2, q3, q4⟩ := fiveM HM7.out.res
          cases hok : mm.ok with
          | false =>
            have HN : Hid (∀ m : Ms, m.ok = true → m.raw ≠ U) := fun m hm hr => by
              have := HSM.out m hm hr
              rw [this, hok] at hm
              cases hm
            rw [Ms.text_no hok]
            clear hok
            go_wp2_with fail
            refine bodyPost_ret (res_msg rfl _ _ w.heap.size _ _ _ _ _ rfl (setM HM7.out.res _ _ _ _ _)) rfl ?_
            exact ⟨.inr ⟨fun m _ hm hr => HN.out m hm (hr.trans HS.out.2.symm), rfl⟩, belowM HM7.out.env _ _ _ _ _⟩
          | true =>
            have HY : Hid (mm.ok = true) := hok
            rw [Ms.seal_back HS.out.1 hok (HRW.out.trans HS.out.2)]
            have nq : (!(s.data.toList == s.data.toList)) = false := by simp
            have nq2 : (!(s.toList == s.toList)) = false := by simp
            clear hok
            obtain ⟨⟨y0, y1, y2, y3, y4⟩, f0, f1, f2, f3, f4⟩ := fiveM HX7.out
            go_wp2_with fail
            refine bodyPost_ret (res_msg rfl _ _ w.heap.size _ _ _ _ _ rfl (setM HM7.out.res _ _ _ _ _)) rfl ?_
            exact ⟨.inl ⟨mm, HS.out.1, HY.out, HRW.out.trans HS.out.2, by rw [HMM.out]; rfl⟩, belowM HM7.out.env _ _ _ _ _⟩
  · rw [unsRes_no s hS] at CU
    have HN : Hid (¬ Ps.isS s) := hS
    clear hS
    go_enter Tryd.func9, Tryd.ntmps9
    go_wp2_with fail
    generalize w.alloc (.cells #[.int .i64 0, .int .i64 0, .int .i64 0, .int .i64 0, .string ⟨#[]⟩] 27) = W0 at *
    refine (CU.out _).mono ?_
    rintro e w1 ⟨rfl, hb1⟩
    have HR1 := hidOfT ((hb1.block _ (blk_lt HR0.out)).trans HR0.out)
    have HA1 := hidOfT (HA.out.trans (hb1.mono HA.out.size))
    clear hb1 CU HR0 HA
    obtain ⟨⟨r0, r1, r2, r3, r4⟩, q0, q1, q2, q3, q4⟩ := fiveM HR1.out
    go_wp2_with fail
    refine bodyPost_ret (res_msg rfl _ _ w.heap.size _ _ _ _ _ rfl (setM HR1.out _ _ _ _ _)) rfl ?_
    exact ⟨.inr ⟨fun m h => absurd h HN.out, rfl⟩, belowM HA1.out _ _ _ _ _⟩
end Go.Proofs.YtdkenmpdgadcpaaDoor
