/- What is read of the bytes of a message: the program's ReadMessage. -/
import Derived.Test.YtdkenmpdgadcpaaDoorMPRmZax
import Derived.Test.YtdkenmpdgadcpaaDoorMPRmZay
import Derived.Test.YtdkenmpdgadcpaaDoorMPRmImUns
import Derived.Deep.RegionHeld3
namespace Go.Proofs.YtdkenmpdgadcpaaDoor
open Go.RowKit

set_option maxHeartbeats 800000 in
theorem imWholeM (g : Nat) (s : ByteArray) (a : Nat) (bad : Bool) (w : World) (h : Br7 w g s a bad) :
    Calls Tryd.prog 27 #[.pointer (some ⟨g, 0, none⟩)] w fun e w' => e = .returned (.bool (!bad && decide (a = s.size))) ∧ Below w.heap.size w w' := by
  have c0 : w.cell? ⟨g, 0, none⟩ = some (.string s) := (blk_cell h 0).trans rfl
  have c1 : w.cell? ⟨g, 1, none⟩ = some (.int .i64 (a : Int)) := (blk_cell h 1).trans rfl
  have c2 : w.cell? ⟨g, 2, none⟩ = some (.bool bad) := (blk_cell h 2).trans rfl
  clear h
  have hd : ((a : Int) == (s.size : Int)) = decide (a = s.size) := by
    by_cases e : a = s.size
    · subst e; simp
    · rw [decide_eq_false e]; simp; omega
  cases bad with
  | true =>
    go_enter Tryd.func27, Tryd.ntmps27
    go_wp2_with fail
    go_quiet (fail)
    go_wp2
    go_ret
    exact ⟨rfl, below_drewN (Below.refl _ _) _⟩
  | false =>
    go_enter Tryd.func27, Tryd.ntmps27
    go_wp2_with fail
    go_quiet (fail)
    go_wp2
    go_ret
    exact ⟨rfl, below_drewN (Below.refl _ _) _⟩

set_option maxHeartbeats 800000 in
set_option maxRecDepth 100000 in
theorem imRest (g : Nat) (s : ByteArray) (a : Nat) (bad : Bool) (w : World) (h : Br7 w g s a bad) (ha : a ≤ s.size) :
    Calls Tryd.prog 26 #[.pointer (some ⟨g, 0, none⟩)] w fun e w' => e = .returned (.string ⟨(s.data.toList.drop a).toArray⟩) ∧ w.grownBy w' (some g) ∧ Br7 w' g s s.size bad := by
  have c0 : w.cell? ⟨g, 0, none⟩ = some (.string s) := (blk_cell h 0).trans rfl
  have c1 : w.cell? ⟨g, 1, none⟩ = some (.int .i64 (a : Int)) := (blk_cell h 1).trans rfl
  have f1 := blk_free h 1
  obtain ⟨X, hX⟩ : ∃ X : ByteArray, X = ⟨(s.data.toList.drop a).toArray⟩ := ⟨_, rfl⟩
  have hsr : ∀ wx, (Instr.slice 9 (.string s) (some (.int .i64 (a : Int))) none none).run Tryd.prog wx = .ok (.string X) wx := by
    intro wx
    rw [run_slice_string_from_if wx 9 s .i64 (a : Int) Tryd.underlying9, if_pos (by omega), hX]
    have : s.extract a s.size = ⟨(s.data.toList.drop a).toArray⟩ := by
      apply ByteArray.ext
      apply Array.toList_inj.1
      rw [Ps.extract_tail]
    rw [← this]
    simp
  rw [← hX]
  have HK : Hid (∀ n : Nat, w.grownBy ((w.drewN n).setCell ⟨g, 1, none⟩ (.int .i64 (s.size : Int))) (some g) ∧ Br7 ((w.drewN n).setCell ⟨g, 1, none⟩ (.int .i64 (s.size : Int))) g s s.size bad) := fun n => by
    have hz : ((w.drewN n).setCell ⟨g, 1, none⟩ (.int .i64 (s.size : Int))).heap.size = w.heap.size := by
      have e : (w.drewN n).heap.size = w.heap.size := rfl
      rw [← e]
      simp [World.setCell]
    refine ⟨⟨rfl, rfl, rfl, Nat.le_of_eq hz.symm, fun k _ hk => Below.heap_setCell _ _ _ _ (fun e => hk (by simp [e]))⟩, ?_⟩
    have h2 : (w.drewN n).heap[g]? = some (.cells #[.string s, .int .i64 (a : Int), .bool bad] 53 (0, 0)) := h
    exact blk_set h2 1 _
  clear h hX
  go_enter Tryd.func26, Tryd.ntmps26
  go_wp2_with fail
  go_quiet (fail)
  go_wp2
  go_ret
  exact ⟨rfl, (HK.out _).1, (HK.out _).2⟩
/-- What the walk holds: the answer's box, the reader's box g. -/
structure MW (w W : World) (g : Nat) (u : ByteArray) (a : Nat) (bad : Bool) : Prop where
  env : Below w.heap.size w W
  res : W.heap[w.heap.size]? = some (.cells #[.int .i64 0, .int .i64 0, .int .i64 0, .int .i64 0, .string ⟨#[]⟩] 27 (0, 0))
  rd : Br7 W g u a bad
  lt : w.heap.size < g
theorem MW.call {w W W' : World} {g : Nat} {u : ByteArray} {a a' : Nat} {bad bad' : Bool} (h : MW w W g u a bad) (hg : W.grownBy W' (some g)) (h2 : Br7 W' g u a' bad') : MW w W' g u a' bad' :=
  ⟨h.env.grown hg h.env.size (fun k hk => by simp at hk; have := h.lt; omega), (hg.block _ (blk_lt h.res) (by simp; have := h.lt; omega)).trans h.res, h2, h.lt⟩
theorem MW.below {w W W' : World} {g : Nat} {u : ByteArray} {a : Nat} {bad : Bool} (h : MW w W g u a bad) (hb : Below W.heap.size W W') : MW w W' g u a bad :=
  ⟨h.env.trans (hb.mono h.env.size), (hb.block _ (blk_lt h.res)).trans h.res, (hb.block _ (blk_lt h.rd)).trans h.rd, h.lt⟩
theorem setM {W : World} {g : Nat} {u0 u1 u2 u3 u4 : Value} (h : W.heap[g]? = some (.cells #[u0, u1, u2, u3, u4] 27 (0, 0))) (v0 v1 v2 v3 v4 : Value) :
    (((((W.setCell ⟨g, 0, none⟩ v0).setCell ⟨g, 1, none⟩ v1).setCell ⟨g, 2, none⟩ v2).setCell ⟨g, 3, none⟩ v3).setCell ⟨g, 4, none⟩ v4).heap[g]? = some (.cells #[v0, v1, v2, v3, v4] 27 (0, 0)) :=
  blk_set (blk_set (blk_set (blk_set (blk_set h 0 v0) 1 v1) 2 v2) 3 v3) 4 v4
theorem belowM {w W : World} (h : Below w.heap.size w W) (v0 v1 v2 v3 v4 : Value) :
    Below w.heap.size w (((((W.setCell ⟨w.heap.size, 0, none⟩ v0).setCell ⟨w.heap.size, 1, none⟩ v1).setCell ⟨w.heap.size, 2, none⟩ v2).setCell ⟨w.heap.size, 3, none⟩ v3).setCell ⟨w.heap.size, 4, none⟩ v4) :=
  ((((h.setCell (by exact Nat.le_refl _) _).setCell (by exact Nat.le_refl _) _).setCell (by exact Nat.le_refl _) _).setCell (by exact Nat.le_refl _) _).setCell (by exact Nat.le_refl _) _
set_option maxRecDepth 100000 in
theorem res_msg {fn : Func} {p u : Tmp} (h : fn.results = #[.cell p 27, .tmp u]) (tmps : Array Value) (w : World) (g : Nat) (v0 v1 v2 v3 v4 : Value) (hp : tmps.getD p undef = .pointer (some ⟨g, 0, none⟩)) (hg : w.heap[g]? = some (.cells #[v0, v1, v2, v3, v4] 27 (0, 0))) :
    (results fn tmps).run Tryd.prog w = .ok (.tuple #[.agg #[v0, v1, v2, v3, v4], tmps.getD u undef]) w := by
  rw [results_cell_tmp h, hp]
  simp only [asAddr, Sem.run_pure, Result.andThen_ok, run_loadVar_row w g 27 27 #[v0, v1, v2, v3, v4] (0, 0) _ hg Tryd.underlying27 rfl (by kernel_rfl)]

theorem Ms.chain {u : ByteArray} {x0 x1 n1 n2 a1 a2 a3 a4 : Nat} {b1 b2 b3 b4 : Bool}
    (g1 : b1 = false → a1 = 0 + 1 ∧ x0 = (u.data.toList.getD 0 0).toNat) (d1 : b1 = true → u.size ≤ 0)
    (g2 : b2 = false → b1 = false ∧ a2 = a1 + 1 ∧ x1 = (u.data.toList.getD a1 0).toNat) (d2 : b2 = true → b1 = true ∨ u.size ≤ a1) (h2 : a2 ≤ u.size)
    (g3 : b3 = false → b2 = false ∧ Rc.rv u.data.toList a2 = some (n1, a3)) (d3 : b3 = true → b2 = true ∨ Rc.rv u.data.toList a2 = none ∨ ∃ m k, Rc.rv u.data.toList a2 = some (m, k) ∧ 20 < m)
    (g4 : b4 = false → b3 = false ∧ Rc.rv u.data.toList a3 = some (n2, a4)) (d4 : b4 = true → b3 = true ∨ Rc.rv u.data.toList a3 = none ∨ ∃ m k, Rc.rv u.data.toList a3 = some (m, k) ∧ 1000000000 < m) :
    (b4 = false → Ms.raw ⟨(x0 : Int), (x1 : Int), (n1 : Int), (n2 : Int), ⟨(u.data.toList.drop a4).toArray⟩⟩ = u.data.toList ∧ ∀ m : Ms, m.ok = true → m.raw = u.data.toList → m = ⟨(x0 : Int), (x1 : Int), (n1 : Int), (n2 : Int), ⟨(u.data.toList.drop a4).toArray⟩⟩) ∧
    (b4 = true → ∀ m : Ms, m.ok = true → m.raw ≠ u.data.toList) := by
  have hul : u.data.toList.length = u.size := by simp
  refine ⟨fun e4 => ?_, fun e4 m hm hr => ?_⟩
  · obtain ⟨e3, r2⟩ := g4 e4
    obtain ⟨e2, r1⟩ := g3 e3
    obtain ⟨e1, rfl, rfl⟩ := g2 e2
    obtain ⟨rfl, rfl⟩ := g1 e1
    exact ⟨Ms.raw_of (by omega) r1 r2, fun m hm hr => Ms.raw_same r1 r2 hm hr⟩
  · obtain ⟨k0, -, -, q1, q2, c1, c2, -, -, l1, l2, r1, r2, -, -⟩ := Ms.of_raw hm hr
    have e1 : b1 = false := by
      cases b1 with
      | false => rfl
      | true => have := d1 rfl; omega
    obtain ⟨rfl, -⟩ := g1 e1
    have e2 : b2 = false := by
      cases b2 with
      | false => rfl
      | true =>
        rcases d2 rfl with h | h
        · rw [e1] at h; cases h
        · omega
    obtain ⟨-, rfl, -⟩ := g2 e2
    have e3 : b3 = false := by
      cases b3 with
      | false => rfl
      | true =>
        rcases d3 rfl with h | h | ⟨m, k, h, hm⟩
        · rw [e2] at h; cases h
        · rw [h] at r1; cases r1
        · rw [h] at r1
          simp only [Option.some.injEq, Prod.mk.injEq] at r1
          omega
    obtain ⟨-, r1'⟩ := g3 e3
    rw [r1'] at r1
    simp only [Option.some.injEq, Prod.mk.injEq] at r1
    obtain ⟨rfl, rfl⟩ := r1
    rcases d4 e4 with h | h | ⟨m, k, h, hm⟩
    · rw [e3] at h; cases h
    · rw [h] at r2; cases r2
    · rw [h] at r2
      simp only [Option.some.injEq, Prod.mk.injEq] at r2
      omega

set_option maxHeartbeats 8000000 in
set_option maxRecDepth 100000 in
theorem imReadMessage (s : ByteArray) (w : World) (hs : s.size ≤ 1048576) (ht : Tabd w) :
    Calls Tryd.prog 10 #[.string s] w fun e w' => Ms.Ans s e ∧ Below w.heap.size w w' := by
  have CU : Hid (∀ W, Below w.heap.size w W → Calls Tryd.prog 23 #[.string s] W fun e w' => e = .returned (unsRes s) ∧ Below W.heap.size W w') := fun W hb => implUnsealed_any s W hs (ht.keep hb)
  have HA : Hid (Below w.heap.size w (w.alloc (.cells #[.int .i64 0, .int .i64 0, .int .i64 0, .int .i64 0, .string ⟨#[]⟩] 27))) := (Below.refl _ _).alloc (Nat.le_refl _) _
  have HR0 : Hid ((w.alloc (.cells #[.int .i64 0, .int .i64 0, .int .i64 0, .int .i64 0, .string ⟨#[]⟩] 27)).heap[w.heap.size]? = some (.cells #[.int .i64 0, .int .i64 0, .int .i64 0, .int .i64 0, .string ⟨#[]⟩] 27 (0, 0))) := heap_alloc_new _ _
  clear ht
  by_cases hS : Ps.isS s
  · obtain ⟨u, hu⟩ : ∃ u : ByteArray, u = ⟨(s.data.toList.take (s.size - 4)).toArray⟩ := ⟨_, rfl⟩
    rw [unsRes_yes s hS, ← hu] at CU
    have hU : u.data.toList = s.data.toList.take (s.size - 4) := by rw [hu]
    have hus : u.size ≤ 1048576 := by rw [hu]; show (s.data.toList.take (s.size - 4)).toArray.size ≤ 1048576; simp; omega
    have hul : u.data.toList.length = u.size := by simp
    have HUL := hidOfT hul
    obtain ⟨U, hUU⟩ : ∃ U, U = u.data.toList := ⟨_, rfl⟩
    have HS := hidOfT (And.intro hS (hUU.trans hU))
    have HUU := hidOfT hUU
    clear hu hU hul hUU hS
    go_enter Tryd.func10, Tryd.ntmps10
    go_wp2_with fail
    generalize w.alloc (.cells #[.int .i64 0, .int .i64 0, .int .i64 0, .int .i64 0, .string ⟨#[]⟩] 27) = W0 at *
    refine (CU.out _ HA.out).mono ?_
    rintro e w1 ⟨rfl, hb1⟩
    have HR1 := hidOfT ((hb1.block _ (blk_lt HR0.out)).trans HR0.out)
    have HA1 := hidOfT (HA.out.trans (hb1.mono HA.out.size))
    clear hb1 CU HR0 HA
    obtain ⟨g, hg⟩ : ∃ g, g = w1.heap.size := ⟨_, rfl⟩
    have H0 : Hid (MW w (w1.alloc (.cells #[.string u, .int .i64 0, .bool false] 53)) g u 0 false) := by
      rw [hg]
      exact ⟨HA1.out.alloc HA1.out.size _, (Lib.alloc_old w1 _ _ (blk_lt HR1.out)).trans HR1.out, heap_alloc_new w1 _, blk_lt HR1.out⟩
    have CB : Hid (∀ (W : World) (a : Nat) (bad : Bool), Br7 W g u a bad → a ≤ u.size → Calls Tryd.prog 24 #[.pointer (some ⟨g, 0, none⟩)] W fun e w' => ∃ (x a' : Nat) (bad' : Bool), e = .returned (.int .i64 (x : Int)) ∧ W.grownBy w' (some g) ∧ Br7 w' g u a' bad' ∧ x ≤ 255 ∧ a' ≤ u.size ∧
        (bad' = false → bad = false ∧ a' = a + 1 ∧ x = (u.data.toList.getD a 0).toNat) ∧ (bad' = true → bad = true ∨ u.size ≤ a)) := fun W a bad h ha => imByte1 g u a bad W h ha hus
    have CN : Hid (∀ (W : World) (a most : Nat) (bad : Bool), Br7 W g u a bad → a ≤ u.size → Calls Tryd.prog 25 #[.pointer (some ⟨g, 0, none⟩), .int .i64 (most : Int)] W fun e w' => ∃ (n a' : Nat) (bad' : Bool), e = .returned (.int .i64 (n : Int)) ∧ W.grownBy w' (some g) ∧ Br7 w' g u a' bad' ∧ n ≤ most ∧ a' ≤ u.size ∧
        (bad' = false → bad = false ∧ Rc.rv u.data.toList a = some (n, a')) ∧ (bad' = true → bad = true ∨ Rc.rv u.data.toList a = none ∨ ∃ m k, Rc.rv u.data.toList a = some (m, k) ∧ most < m)) := fun W a most bad h ha => imNumber1 g u a most bad W h ha hus
    go_wp2_with fail
    rw [← hg] at *
    generalize w1.alloc (.cells #[.string u, .int .i64 0, .bool false] 53) = W1 at *
    clear HR1 HA1
    refine (CB.out _ 0 false H0.out.rd (Nat.zero_le _)).mono ?_
    rintro e w2 ⟨x0, a1, b1, rfl, hg2, hr2, hx0, ha1, hgood1, hbad1⟩
    have H1 := hidOfT (H0.out.call hg2 hr2)
    have HG1 := hidOfT (And.intro hgood1 hbad1)
    clear hg2 hr2 hgood1 hbad1 H0
    go_wp2_with fail
    refine (CB.out _ a1 b1 H1.out.rd ha1).mono ?_
    rintro e w3 ⟨x1, a2, b2, rfl, hg3, hr3, hx1, ha2, hgood2, hbad2⟩
    have H2 := hidOfT (H1.out.call hg3 hr3)
    have HG2 := hidOfT (And.intro hgood2 hbad2)
    clear hg3 hr3 hgood2 hbad2 H1
    go_wp2_with fail
    refine (CN.out _ a2 20 b2 H2.out.rd ha2).mono ?_
    rintro e w4 ⟨n1, a3, b3, rfl, hg4, hr4, hn1, ha3, hgood3, hbad3⟩
    have H3 := hidOfT (H2.out.call hg4 hr4)
    have HG3 := hidOfT (And.intro hgood3 hbad3)
    clear hg4 hr4 hgood3 hbad3 H2
    go_wp2_with fail
    refine (CN.out _ a3 1000000000 b3 H3.out.rd ha3).mono ?_
    rintro e w5 ⟨n2, a4, b4, rfl, hg5, hr5, hn2, ha4, hgood4, hbad4⟩
    have H4 := hidOfT (H3.out.call hg5 hr5)
    have HG4 := hidOfT (And.intro hgood4 hbad4)
    clear hg5 hr5 hgood4 hbad4 H3
    have CR := hidOfT (imRest g u a4 b4 w5 H4.out.rd ha4)
    go_wp2_with fail
    refine CR.out.mono ?_
    rintro e w6 ⟨rfl, hg6, hr6⟩
    have H5 := hidOfT (H4.out.call hg6 hr6)
    clear hg6 hr6 H4 CR CB CN
    obtain ⟨k1, k2⟩ := Ms.chain (fun e => (HG1.out.1 e).2) (fun e => (HG1.out.2 e).resolve_left (by simp)) HG2.out.1 HG2.out.2 ha2 HG3.out.1 HG3.out.2 HG4.out.1 HG4.out.2
    rw [HUU.out.symm] at k1 k2
    have K1 := hidOfT k1
    have K2 := hidOfT k2
    clear HG1 HG2 HG3 HG4 k1 k2 ha1 ha2 ha3 ha4 hx0 hx1 hn1 hn2
    have hbz : (⟨(u.data.toList.drop a4).toArray⟩ : ByteArray).size ≤ 1048576 := by show (u.data.toList.drop a4).toArray.size ≤ 1048576; simp; omega
    rw [HUU.out.symm] at hbz ⊢
    obtain ⟨bo, hbo⟩ : ∃ bo : ByteArray, bo = ⟨(U.drop a4).toArray⟩ := ⟨_, rfl⟩
    rw [← hbo] at K1 hbz ⊢
    clear hbo
    obtain ⟨mm, hmm⟩ : ∃ mm : Ms, mm = ⟨(x0 : Int), (x1 : Int), (n1 : Int), (n2 : Int), bo⟩ := ⟨_, rfl⟩
    have CM : Hid (∀ W, Calls Tryd.prog 15 #[.agg #[.int .i64 (x0 : Int), .int .i64 (x1 : Int), .int .i64 (n1 : Int), .int .i64 (n2 : Int), .string bo]] W fun e w' => e = .returned (.bool mm.ok) ∧ Below W.heap.size W w') := fun W => by
      have := imMessageOk mm W (by rw [hmm]; exact hbz)
      rw [hmm] at this ⊢
      exact this
    rw [← hmm] at K1
    have HMM := hidOfT hmm
    have H6 : Hid (MW w (w6.alloc (.cells #[.int .i64 (x0 : Int), .int .i64 (x1 : Int), .int .i64 (n1 : Int), .int .i64 (n2 : Int), .string bo] 27)) g u u.size b4) := H5.out.below ((Below.refl _ _).alloc (Nat.le_refl _) _)
    have HX : Hid ((w6.alloc (.cells #[.int .i64 (x0 : Int), .int .i64 (x1 : Int), .int .i64 (n1 : Int), .int .i64 (n2 : Int), .string bo] 27)).heap[w6.heap.size]? = some (.cells #[.int .i64 (x0 : Int), .int .i64 (x1 : Int), .int .i64 (n1 : Int), .int .i64 (n2 : Int), .string bo] 27 (0, 0))) := heap_alloc_new _ _
    have CW : Hid (∀ W, Br7 W g u u.size b4 → Calls Tryd.prog 27 #[.pointer (some ⟨g, 0, none⟩)] W fun e w' => e = .returned (.bool (!b4)) ∧ Below W.heap.size W w') := fun W h => by
      have := imWholeM g u u.size b4 W h
      rwa [show (!b4 && decide (u.size = u.size)) = !b4 by simp] at this
    clear hmm hbz H5
    go_wp2_with fail
    generalize w6.alloc (.cells #[.int .i64 (x0 : Int), .int .i64 (x1 : Int), .int .i64 (n1 : Int), .int .i64 (n2 : Int), .string bo] 27) = W6 at *
    refine (CW.out _ H6.out.rd).mono ?_
    rintro e w7 ⟨rfl, hb7⟩
    have H7 := hidOfT (H6.out.below hb7)
    have HX7 := hidOfT ((hb7.block _ (blk_lt HX.out)).trans HX.out)
    clear hb7 H6 HX CW
    have r0 := (blk_cell H7.out.res 0).trans rfl
    have r1 := (blk_cell H7.out.res 1).trans rfl
    have r2 := (blk_cell H7.out.res 2).trans rfl
    have r3 := (blk_cell H7.out.res 3).trans rfl
    have r4 := (blk_cell H7.out.res 4).trans rfl
    have e0 := blk_free H7.out.res 0
    have e1 := blk_free H7.out.res 1
    have e2 := blk_free H7.out.res 2
    have e3 := blk_free H7.out.res 3
    have e4 := blk_free H7.out.res 4
    cases b4 with
    | true =>
      clear CM
      go_wp2_with fail
      refine bodyPost_ret (res_msg rfl _ _ w.heap.size _ _ _ _ _ rfl (setM H7.out.res _ _ _ _ _)) rfl ?_
      exact ⟨.inr ⟨fun m _ hm hr => K2.out (by simp) m hm (hr.trans HS.out.2.symm), rfl⟩, belowM H7.out.env _ _ _ _ _⟩
    | false =>
      obtain ⟨y0, y1, y2, y3, y4⟩ : _ ∧ _ ∧ _ ∧ _ ∧ _ := ⟨(blk_cell HX7.out 0).trans rfl, (blk_cell HX7.out 1).trans rfl, (blk_cell HX7.out 2).trans rfl, (blk_cell HX7.out 3).trans rfl, (blk_cell HX7.out 4).trans rfl⟩
      go_wp2_with fail
      refine (CM.out _).mono ?_
      rintro e w8 ⟨rfl, hb8⟩
      have H8 := hidOfT (H7.out.below hb8)
      have HX8 := hidOfT ((hb8.block _ (blk_lt HX7.out)).trans HX7.out)
      clear hb8 H7 HX7 CM r0 r1 r2 r3 r4 e0 e1 e2 e3 e4 y0 y1 y2 y3 y4
      have r0 := (blk_cell H8.out.res 0).trans rfl
      have r1 := (blk_cell H8.out.res 1).trans rfl
      have r2 := (blk_cell H8.out.res 2).trans rfl
      have r3 := (blk_cell H8.out.res 3).trans rfl
      have r4 := (blk_cell H8.out.res 4).trans rfl
      have e0 := blk_free H8.out.res 0
      have e1 := blk_free H8.out.res 1
      have e2 := blk_free H8.out.res 2
      have e3 := blk_free H8.out.res 3
      have e4 := blk_free H8.out.res 4
      cases hok : mm.ok with
      | false =>
        have HN : Hid (∀ m : Ms, m.ok = true → m.raw ≠ U) := fun m hm hr => by
          have := (K1.out (by simp)).2 m hm hr
          rw [this, hok] at hm
          cases hm
        clear hok
        go_wp2_with fail
        refine bodyPost_ret (res_msg rfl _ _ w.heap.size _ _ _ _ _ rfl (setM H8.out.res _ _ _ _ _)) rfl ?_
        exact ⟨.inr ⟨fun m _ hm hr => HN.out m hm (hr.trans HS.out.2.symm), rfl⟩, belowM H8.out.env _ _ _ _ _⟩
      | true =>
        have HY : Hid (mm.ok = true) := hok
        obtain ⟨y0, y1, y2, y3, y4⟩ : _ ∧ _ ∧ _ ∧ _ ∧ _ := ⟨(blk_cell HX8.out 0).trans rfl, (blk_cell HX8.out 1).trans rfl, (blk_cell HX8.out 2).trans rfl, (blk_cell HX8.out 3).trans rfl, (blk_cell HX8.out 4).trans rfl⟩
        clear hok
        go_wp2_with fail
        refine bodyPost_ret (res_msg rfl _ _ w.heap.size _ _ _ _ _ rfl (setM H8.out.res _ _ _ _ _)) rfl ?_
        exact ⟨.inl ⟨mm, HS.out.1, HY.out, (K1.out (by simp)).1.trans HS.out.2, by rw [HMM.out]; rfl⟩, belowM H8.out.env _ _ _ _ _⟩
  · rw [unsRes_no s hS] at CU
    have HN : Hid (¬ Ps.isS s) := hS
    clear hS
    go_enter Tryd.func10, Tryd.ntmps10
    go_wp2_with fail
    generalize w.alloc (.cells #[.int .i64 0, .int .i64 0, .int .i64 0, .int .i64 0, .string ⟨#[]⟩] 27) = W0 at *
    refine (CU.out _ HA.out).mono ?_
    rintro e w1 ⟨rfl, hb1⟩
    have HR1 := hidOfT ((hb1.block _ (blk_lt HR0.out)).trans HR0.out)
    have HA1 := hidOfT (HA.out.trans (hb1.mono HA.out.size))
    clear hb1 CU HR0 HA
    have r0 := (blk_cell HR1.out 0).trans rfl
    have r1 := (blk_cell HR1.out 1).trans rfl
    have r2 := (blk_cell HR1.out 2).trans rfl
    have r3 := (blk_cell HR1.out 3).trans rfl
    have r4 := (blk_cell HR1.out 4).trans rfl
    have e0 := blk_free HR1.out 0
    have e1 := blk_free HR1.out 1
    have e2 := blk_free HR1.out 2
    have e3 := blk_free HR1.out 3
    have e4 := blk_free HR1.out 4
    go_wp2_with fail
    refine bodyPost_ret (res_msg rfl _ _ w.heap.size _ _ _ _ _ rfl (setM HR1.out _ _ _ _ _)) rfl ?_
    exact ⟨.inr ⟨fun m h => absurd h HN.out, rfl⟩, belowM HA1.out _ _ _ _ _⟩
end Go.Proofs.YtdkenmpdgadcpaaDoor
