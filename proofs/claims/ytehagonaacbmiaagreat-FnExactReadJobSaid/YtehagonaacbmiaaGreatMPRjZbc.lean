/- What is read of the bytes of a store, in two cases. A job: when it is right; the program's JobOk. What ReadCode answers, in one form; what the walk of the program's ReadJob holds. What ReadCode and ReadStore answer lies in memory of their own, and stays though another block is written: for the walk of ReadJob. -/
import Derived.Test.YtehagonaacbmiaaGreatMPRjRvH
import Derived.Test.YtehagonaacbmiaaGreatMPRjZap
import Derived.Test.YtehagonaacbmiaaGreatMPRjCdI
import Derived.Test.YtehagonaacbmiaaGreatMPRjZbb
import Derived.Test.YtehagonaacbmiaaGreatMPRjZau
import Derived.Test.YtehagonaacbmiaaGreatMPRjZar
import Derived.Test.YtehagonaacbmiaaGreatMPRjRvI
import Derived.Test.YtehagonaacbmiaaGreatMPRjZax
namespace Go.Proofs.YtehagonaacbmiaaGreat
section PartRvF
open Go.RowKit

theorem Rs.isOf_one9 {L : List UInt8} {vs us : List Vr} {cs ds : List Cl} {o p : ByteArray} (h1 : Rs.isOf L vs cs o) (h2 : Rs.isOf L us ds p) : us = vs ∧ ds = cs ∧ p = o := by
  have sm : ∀ {vs : List Vr} {cs : List Cl} {o : ByteArray}, Rs.isOf L vs cs o → StSmall vs cs o := fun {vs cs o} h => by
    obtain ⟨s1, s2, s3, s4, s5⟩ := St.ok_sizes h.1
    refine ⟨by omega, fun i hi => ?_, by omega, fun i hi => ?_, by omega⟩
    · have := s4 i hi; omega
    · have := s5 i hi; omega
  obtain ⟨e1, e2, e3⟩ := St.bytes_free (sm h2) (sm h1) (h2.2.trans h1.2.symm)
  exact ⟨e1, e2, e3⟩
theorem Rs.isOf_small {L : List UInt8} {vs : List Vr} {cs : List Cl} {o : ByteArray} (h : Rs.isOf L vs cs o) : StSmall vs cs o := by
  obtain ⟨s1, s2, s3, s4, s5⟩ := St.ok_sizes h.1
  refine ⟨by omega, fun i hi => ?_, by omega, fun i hi => ?_, by omega⟩
  · have := s4 i hi; omega
  · have := s5 i hi; omega
end PartRvF
section PartJbI
open Go.RowKit

set_option maxHeartbeats 4000000 in
set_option maxRecDepth 100000 in
theorem imJobOk (tv lv u x nv mv : Value) (j : Jb) (w : World) (h : Jb.At w tv lv u x nv mv j) (hs : Jb.Sm j) :
    Calls Tryz.prog 8 #[.agg (Jb.cells tv lv u x nv mv j)] w fun e w' => e = .returned (.bool j.ok) ∧ Below w.heap.size w w' := by
  have HA : Hid (∀ W, Below w.heap.size w W → Jb.At W tv lv u x nv mv j) := fun W hb => h.keep hb
  have HS : Hid (Jb.Sm j) := hs
  have CC : Hid (∀ W, Below w.heap.size w W → Calls Tryz.prog 23 #[.agg #[tv, lv, .int .i64 j.bg, .int .i64 j.ln, .int .i64 j.en]] W fun e w' => e = .returned (.bool (Cd.ok j.ts j.xs j.bg j.ln j.en)) ∧ Below W.heap.size W w') := fun W hb => implCodeOk tv lv j.bg j.ln j.en j.ts j.xs W (h.t.keep hb) (h.l.keep hb) hs.t hs.tl hs.xl
  have CT : Hid (∀ W, Below w.heap.size w W → Calls Tryz.prog 24 #[.agg #[u, x, .string j.o]] W fun e w' => e = .returned (.bool (St.ok j.vs j.cs j.o)) ∧ Below W.heap.size W w') := fun W hb => imStoreOk u x j.o j.vs j.cs W (h.u.keep hb) (h.x.keep hb) hs.s
  obtain ⟨A, hA⟩ : ∃ A, A = Cd.ok j.ts j.xs j.bg j.ln j.en := ⟨_, rfl⟩
  obtain ⟨B, hB⟩ : ∃ B, B = St.ok j.vs j.cs j.o := ⟨_, rfl⟩
  have HOK : Hid ((∀ i, i < j.ns.length → j.okN i = true) → (∀ i, i < j.ls.length → j.okL i = true) → j.ok = (A && (B && (decide (j.ns.length ≤ 20) && decide (j.ls.length ≤ 20))))) := by
    rw [hA, hB]
    exact Jb.ok_rest
  have HNO : Hid ((A && (B && (decide (j.ns.length ≤ 20) && decide (j.ls.length ≤ 20)))) = false → j.ok = false) := by
    rw [hA, hB]
    intro h
    unfold Jb.ok
    rw [h]
    simp
  rw [← hA] at CC
  rw [← hB] at CT
  clear hA hB
  obtain ⟨na, nc, rfl, -⟩ := h.n
  obtain ⟨ma, mc, rfl, -⟩ := h.m
  obtain ⟨ta, tc, rfl, -⟩ := h.t
  obtain ⟨la, lc, rfl, -⟩ := h.l
  obtain ⟨ua, uc, rfl, -⟩ := h.u
  obtain ⟨xa, xc, rfl, -⟩ := h.x
  obtain ⟨n, hn⟩ : ∃ n, n = j.ns.length := ⟨_, rfl⟩
  obtain ⟨m, hm⟩ : ∃ m, m = j.ls.length := ⟨_, rfl⟩
  have HN : Hid (n = j.ns.length ∧ m = j.ls.length) := ⟨hn, hm⟩
  have hn9 : n ≤ 1048576 := by rw [hn]; exact hs.nl
  have hm9 : m ≤ 1048576 := by rw [hm]; exact hs.ml
  rw [← hn, ← hm] at HOK HNO
  unfold Jb.cells
  rw [← hn, ← hm]
  obtain ⟨V, hV⟩ : ∃ V, V = j.ok := ⟨_, rfl⟩
  have HV : Hid (V = j.ok) := hV
  rw [← hV] at HNO
  rw [← hV]
  clear hn hm h hs hV
  obtain ⟨CL, hCL⟩ : ∃ CL : Array Value, CL = #[.slice ta j.ts.length tc, .slice la j.xs.length lc, .int .i64 j.bg, .int .i64 j.ln, .int .i64 j.en, .slice ua j.vs.length uc, .slice xa j.cs.length xc, .string j.o, .slice na n nc, .slice ma m mc] := ⟨_, rfl⟩
  have HB0 : Hid (Below w.heap.size w (w.alloc (.cells CL 42))) := (Below.refl _ _).alloc (Nat.le_refl _) _
  have HR0 : Hid ((w.alloc (.cells CL 42)).heap[w.heap.size]? = some (.cells CL 42 (0, 0))) := heap_alloc_new _ _
  have hz : w.heap.size < (w.alloc (.cells CL 42)).heap.size := by simp
  rw [hCL] at HB0 HR0 hz
  clear hCL CL
  generalize j.ts.length = tn at *
  generalize j.xs.length = xn at *
  generalize j.vs.length = vn at *
  generalize j.cs.length = cn at *
  generalize j.bg = bg at *
  generalize j.ln = ln at *
  generalize j.en = en at *
  generalize j.o = o at *
  go_enter Tryz.func8, Tryz.ntmps8
  go_wp2_with fail
  generalize w.alloc (.cells #[.slice ta tn tc, .slice la xn lc, .int .i64 bg, .int .i64 ln, .int .i64 en, .slice ua vn uc, .slice xa cn xc, .string o, .slice na n nc, .slice ma m mc] 42) = W0 at *
  have HQ : Hid (∀ W, Below W0.heap.size W0 W → W.heap[w.heap.size]? = some (.cells #[.slice ta tn tc, .slice la xn lc, .int .i64 bg, .int .i64 ln, .int .i64 en, .slice ua vn uc, .slice xa cn xc, .string o, .slice na n nc, .slice ma m mc] 42 (0, 0)) ∧ Below w.heap.size w W) := fun W hb => ⟨(hb.block _ hz).trans HR0.out, HB0.out.trans (hb.mono HB0.out.size)⟩
  clear HR0 HB0 hz
  have HCS : Hid (∀ W, Below W0.heap.size W0 W → (W.cell? ⟨w.heap.size, 0, none⟩ = some (.slice ta tn tc) ∧ W.cell? ⟨w.heap.size, 1, none⟩ = some (.slice la xn lc) ∧ W.cell? ⟨w.heap.size, 2, none⟩ = some (.int .i64 bg) ∧ W.cell? ⟨w.heap.size, 3, none⟩ = some (.int .i64 ln) ∧ W.cell? ⟨w.heap.size, 4, none⟩ = some (.int .i64 en)) ∧ (W.cell? ⟨w.heap.size, 5, none⟩ = some (.slice ua vn uc) ∧ W.cell? ⟨w.heap.size, 6, none⟩ = some (.slice xa cn xc) ∧ W.cell? ⟨w.heap.size, 7, none⟩ = some (.string o)) ∧ W.cell? ⟨w.heap.size, 8, none⟩ = some (.slice na n nc) ∧ W.cell? ⟨w.heap.size, 9, none⟩ = some (.slice ma m mc)) := fun W hb => by
    have R := (HQ.out W hb).1
    exact ⟨⟨(blk_cell R 0).trans rfl, (blk_cell R 1).trans rfl, (blk_cell R 2).trans rfl, (blk_cell R 3).trans rfl, (blk_cell R 4).trans rfl⟩, ⟨(blk_cell R 5).trans rfl, (blk_cell R 6).trans rfl, (blk_cell R 7).trans rfl⟩, (blk_cell R 8).trans rfl, (blk_cell R 9).trans rfl⟩
  obtain ⟨⟨q0, q1, q2, q3, q4⟩, -, -, -⟩ := HCS.out _ (Below.refl _ _)
  go_wp2_with fail
  refine (CC.out _ (HQ.out _ (Below.refl _ _)).2).mono ?_
  rintro e w1 ⟨rfl, hb1⟩
  have H1 : Hid (Below W0.heap.size W0 w1) := hb1
  clear hb1 CC q0 q1 q2 q3 q4
  cases A with
  | false =>
    have HF := hidOfJ (HNO.out rfl)
    go_wp2_with fail
    go_ret
    exact ⟨by rw [HF.out]; rfl, (HQ.out _ H1.out).2⟩
  | true =>
  obtain ⟨-, ⟨q5, q6, q7⟩, -, -⟩ := HCS.out _ H1.out
  go_wp2_with fail
  refine (CT.out _ (HQ.out _ H1.out).2).mono ?_
  rintro e w2 ⟨rfl, hb2⟩
  have H2 : Hid (Below W0.heap.size W0 w2) := H1.out.trans (hb2.mono H1.out.size)
  clear hb2 CT q5 q6 q7 H1
  cases B with
  | false =>
    have HF := hidOfJ (HNO.out rfl)
    go_wp2_with fail
    go_ret
    exact ⟨by rw [HF.out]; rfl, (HQ.out _ H2.out).2⟩
  | true =>
  obtain ⟨-, -, q8, q9⟩ := HCS.out _ H2.out
  by_cases hn20 : 20 < n
  · have d0 : decide ((20 : Int) < (n : Int)) = true := decide_eq_true (by omega)
    have HF := hidOfJ (HNO.out (by simp; omega))
    go_wp2_with fail
    go_ret
    exact ⟨by rw [HF.out]; rfl, (HQ.out _ H2.out).2⟩
  have d20 : decide ((20 : Int) < (n : Int)) = false := decide_eq_false (by omega)
  by_cases hm20 : 20 < m
  · have d0 : decide ((20 : Int) < (m : Int)) = true := decide_eq_true (by omega)
    have HF := hidOfJ (HNO.out (by simp; omega))
    go_wp2_with fail
    go_ret
    exact ⟨by rw [HF.out]; rfl, (HQ.out _ H2.out).2⟩
  have d21 : decide ((20 : Int) < (m : Int)) = false := decide_eq_false (by omega)
  go_wp2_with fail
  clear q8 q9 d20 d21
  go_loopw [4, 32] (fun _ i wr => ∃ k : Nat, i = .int .i64 (k : Int) ∧ k ≤ n ∧ Hid (Below W0.heap.size W0 wr) ∧ Hid (∀ q, q < k → j.okN q = true)) (fun _ i _ => n - (intOf i).toNat)
  case atStart => exact ⟨0, rfl, by omega, H2.out, fun q hq => by omega⟩
  case round =>
    clear H2
    obtain ⟨k, rfl, hk, HW, HJ⟩ := hrel
    by_cases hlt : k < n
    · have d0 : decide ((k : Int) < (n : Int)) = true := decide_eq_true (by omega)
      have hk1 : (k : Int) < (n : Int) := by omega
      have hat := (HA.out _ (HQ.out _ HW.out).2).n
      rw [← HN.out.1] at hat
      obtain ⟨b, p, rfl, c0⟩ := TsAt.cell hat HN.out.1 hlt
      obtain ⟨Y, hY⟩ : ∃ Y, Y = j.okN k := ⟨_, rfl⟩
      have HYH : Hid (Y = j.okN k) := hY
      unfold Jb.okN at hY
      have CNm : Hid (∀ W, Calls Tryz.prog 25 #[.string (j.ns.getD k ByteArray.empty)] W fun e w' => e = .returned (.bool Y) ∧ Below W.heap.size W w') := fun W => by rw [hY]; exact isOf_any _ W
      generalize j.ns.getD k ByteArray.empty = t at *
      clear hat hY
      cases Y with
      | false =>
        have HF : Hid (V = false) := by show _ = _; rw [HV.out]; exact Jb.ok_noN (by rw [← HN.out.1]; exact hlt) HYH.out.symm
        go_wp2_with fail
        refine (CNm.out _).mono ?_
        rintro e w3 ⟨rfl, hb3⟩
        have H3 := hidOfJ (HW.out.trans (hb3.mono HW.out.size))
        clear hb3 CNm c0
        go_wp2_with fail
        go_ret
        exact ⟨by rw [HF.out]; rfl, (HQ.out _ H3.out).2⟩
      | true =>
        have HJ2 : Hid (∀ q, q < k + 1 → j.okN q = true) := fun q hq => by
          by_cases e : q = k
          · rw [e]; exact HYH.out.symm
          · exact HJ.out q (by omega)
        go_wp2_with fail
        refine (CNm.out _).mono ?_
        rintro e w3 ⟨rfl, hb3⟩
        have H3 := hidOfJ (HW.out.trans (hb3.mono HW.out.size))
        clear hb3 CNm c0
        go_wp2_with fail
        go_roundw
        case rel => exact ⟨k + 1, by go_num, by omega, H3.out, HJ2.out⟩
        case measure => simp [intOf]; omega
    · have d0 : decide ((k : Int) < (n : Int)) = false := decide_eq_false (by omega)
      have HJN : Hid (∀ q, q < n → j.okN q = true) := fun q hq => HJ.out q (by omega)
      clear HJ
      obtain ⟨-, -, -, q9⟩ := HCS.out _ HW.out
      go_wp2_with fail
      clear q9
      obtain ⟨W1, hW1⟩ : ∃ W1, W1 = wr := ⟨_, rfl⟩
      subst hW1
      go_loopw [6, 43] (fun _ i wr => ∃ k : Nat, i = .int .i64 (k : Int) ∧ k ≤ m ∧ Hid (Below W0.heap.size W0 wr) ∧ Hid (∀ q, q < k → j.okL q = true)) (fun _ i _ => m - (intOf i).toNat)
      case atStart => exact ⟨0, rfl, by omega, HW.out, fun q hq => by omega⟩
      case round =>
        clear HW
        obtain ⟨k2, rfl, hk2, HW, HJ⟩ := hrel
        by_cases hlt2 : k2 < m
        · have d1 : decide ((k2 : Int) < (m : Int)) = true := decide_eq_true (by omega)
          have hk3 : (k2 : Int) < (m : Int) := by omega
          have hat := (HA.out _ (HQ.out _ HW.out).2).m
          rw [← HN.out.2] at hat
          obtain ⟨b, p, rfl, c0⟩ := TsAt.cell hat HN.out.2 hlt2
          have HYH : Hid (j.okL k2 = decide ((j.ls.getD k2 ByteArray.empty).size ≤ 200)) := rfl
          generalize j.ls.getD k2 ByteArray.empty = t at *
          clear hat
          by_cases h200 : t.size ≤ 200
          · have d2 : decide ((200 : Int) < (t.size : Int)) = false := decide_eq_false (by omega)
            have HJ2 : Hid (∀ q, q < k2 + 1 → j.okL q = true) := fun q hq => by
              by_cases e : q = k2
              · rw [e, HYH.out]; exact decide_eq_true h200
              · exact HJ.out q (by omega)
            go_wp2_with fail
            go_roundw
            case rel => exact ⟨k2 + 1, by go_num, by omega, HW.out, HJ2.out⟩
            case measure => simp [intOf]; omega
          · have d2 : decide ((200 : Int) < (t.size : Int)) = true := decide_eq_true (by omega)
            have HF : Hid (V = false) := by show _ = _; rw [HV.out]; exact Jb.ok_noL (by rw [← HN.out.2]; exact hlt2) (by rw [HYH.out]; exact decide_eq_false h200)
            go_wp2_with fail
            go_ret
            exact ⟨by rw [HF.out]; rfl, (HQ.out _ HW.out).2⟩
        · have d1 : decide ((k2 : Int) < (m : Int)) = false := decide_eq_false (by omega)
          have HVE : Hid (V = true) := by
            show _ = _
            rw [HV.out, HOK.out (fun i hi => HJN.out i hi) (fun i hi => HJ.out i (by omega))]
            simp
            omega
          go_wp2_with fail
          go_ret
          exact ⟨by rw [HVE.out]; rfl, (HQ.out _ HW.out).2⟩
end PartJbI
section PartRjF
open Go.RowKit

/-- What ReadCode answers, in one form. -/
def CF (W w' : World) (L : List UInt8) (e : Ending) (tv lv : Value) (ts : List ByteArray) (xs : List Ins) (l u : Nat) (ok : Bool) : Prop :=
  e = .returned (.tuple #[.agg #[tv, lv, .int .i64 0, .int .i64 (l : Int), .int .i64 (u : Int)], .bool ok]) ∧ TsAt w' tv ts ∧ InsAt w' lv xs ∧ Below W.heap.size W w' ∧ (ok = true → Rc.ans L = some (ts, xs, l, u)) ∧ ∀ q, Rc.ans L = some q → ok = true ∧ q = (ts, xs, l, u)
/-- What the walk of ReadJob holds: the answer's box, the reader's. -/
structure IW (w W : World) (s : ByteArray) (a : Nat) (bad : Bool) : Prop where
  res : W.heap[w.heap.size]? = some (.cells #[.slice none 0 0, .slice none 0 0, .int .i64 0, .int .i64 0, .int .i64 0, .slice none 0 0, .slice none 0 0, .string ⟨#[]⟩, .slice none 0 0, .slice none 0 0] 42 (0, 0))
  rd : Br7 W (w.heap.size + 1) s a bad
  env : Below w.heap.size w W
theorem IW.size {w W : World} {s : ByteArray} {a : Nat} {bad : Bool} (h : IW w W s a bad) : w.heap.size + 2 ≤ W.heap.size := by
  have := blk_lt h.rd
  omega
theorem IW.start (w : World) (s : ByteArray) : IW w ((w.alloc (.cells #[.slice none 0 0, .slice none 0 0, .int .i64 0, .int .i64 0, .int .i64 0, .slice none 0 0, .slice none 0 0, .string ⟨#[]⟩, .slice none 0 0, .slice none 0 0] 42)).alloc (.cells #[.string s, .int .i64 0, .bool false] 74)) s 0 false := by
  have e1 : (w.alloc (.cells #[.slice none 0 0, .slice none 0 0, .int .i64 0, .int .i64 0, .int .i64 0, .slice none 0 0, .slice none 0 0, .string ⟨#[]⟩, .slice none 0 0, .slice none 0 0] 42)).heap.size = w.heap.size + 1 := by simp
  have h1 := (Below.refl w.heap.size w).alloc (Nat.le_refl _) (.cells #[.slice none 0 0, .slice none 0 0, .int .i64 0, .int .i64 0, .int .i64 0, .slice none 0 0, .slice none 0 0, .string ⟨#[]⟩, .slice none 0 0, .slice none 0 0] 42)
  have r1 := heap_alloc_new w (.cells #[.slice none 0 0, .slice none 0 0, .int .i64 0, .int .i64 0, .int .i64 0, .slice none 0 0, .slice none 0 0, .string ⟨#[]⟩, .slice none 0 0, .slice none 0 0] 42)
  generalize w.alloc (.cells #[.slice none 0 0, .slice none 0 0, .int .i64 0, .int .i64 0, .int .i64 0, .slice none 0 0, .slice none 0 0, .string ⟨#[]⟩, .slice none 0 0, .slice none 0 0] 42) = V at *
  have h2 : Below V.heap.size V (V.alloc (.cells #[.string s, .int .i64 0, .bool false] 74)) := (Below.refl _ _).alloc (Nat.le_refl _) _
  have r2 := heap_alloc_new V (.cells #[.string s, .int .i64 0, .bool false] 74)
  rw [e1] at r2
  exact ⟨(h2.block _ (blk_lt r1)).trans r1, r2, h1.trans (h2.mono (by omega))⟩
theorem IW.call {w W W' : World} {s : ByteArray} {a a' : Nat} {bad bad' : Bool} (h : IW w W s a bad) (hg : W.grownBy W' (some (w.heap.size + 1))) (hr : Br7 W' (w.heap.size + 1) s a' bad') : IW w W' s a' bad' := by
  have hz := h.size
  exact ⟨(hg.block _ (by omega) (by simp)).trans h.res, hr, h.env.grown hg (by omega) (fun k hk => by cases hk; omega)⟩
theorem IW.up {w W W' : World} {s : ByteArray} {a : Nat} {bad : Bool} (h : IW w W s a bad) (hb : Below W.heap.size W W') : IW w W' s a bad := by
  have hz := h.size
  exact ⟨(hb.block _ (by omega)).trans h.res, (hb.block _ (by omega)).trans h.rd, h.env.trans (hb.mono (by omega))⟩
end PartRjF
section PartRjV
open Go.RowKit

theorem hidOfV {p : Prop} (h : p) : Hid p := h
theorem ob_two {S B B2 : Nat} {W : World} {t t' : TypeId} {c c' n n' : Nat} {v v' : Value} {xs xs' : List Value} (h : W.ownsRow B t c v n xs) (h' : W.ownsRow B2 t' c' v' n' xs') (h3 : ∀ q, v.ownBlock = some q → q < B2) (hS : S ≤ B ∧ B ≤ B2) (hW : S ≤ W.heap.size) :
    ∃ c1, S ≤ c1 ∧ c1 ≤ W.heap.size ∧ OB v S c1 ∧ OB v' c1 W.heap.size := by
  refine ⟨min B2 W.heap.size, by omega, by omega, fun q hq => ?_, fun q hq => ?_⟩
  · have h1 := World.ownsRow.lt h q hq
    have h2 := h3 q hq
    omega
  · have h1 := World.ownsRow.lt h' q hq
    omega
/-- What ReadCode answers. -/
theorem code_own (s : ByteArray) (W : World) (hs : s.size ≤ 1048576) :
    Calls Tryz.prog 34 #[.string s] W fun e w' => ∃ (tv lv : Value) (ts : List ByteArray) (xs : List Ins) (l u : Nat) (ok : Bool), e = .returned (.tuple #[.agg #[tv, lv, .int .i64 0, .int .i64 (l : Int), .int .i64 (u : Int)], .bool ok]) ∧ TR W.heap.size w' tv ts ∧ IR W.heap.size w' lv xs ∧ Below W.heap.size W w' ∧ (ok = true → Rc.ans s.data.toList = some (ts, xs, l, u)) ∧ (∀ q, Rc.ans s.data.toList = some q → ok = true ∧ q = (ts, xs, l, u)) ∧ ∃ c1, W.heap.size ≤ c1 ∧ c1 ≤ w'.heap.size ∧ OB tv W.heap.size c1 ∧ OB lv c1 w'.heap.size := by
  refine (implReadCode s W hs).mono ?_
  intro e w' h
  obtain ⟨hb, h⟩ := h
  cases hr : Rc.ans s.data.toList with
  | none =>
    rw [hr] at h
    exact ⟨_, _, [], [], 0, 0, false, h, TR.nil _ w', IR.nil _ w', hb, fun e => by simp at e, fun q hq => (by cases hq), W.heap.size, Nat.le_refl _, hb.size, OB.none _ _ _, OB.none _ _ _⟩
  | some q =>
    obtain ⟨ts, xs, l, u⟩ := q
    rw [hr] at h
    obtain ⟨tv, lv, B2, he, ht, hi, h2, h3⟩ := h
    exact ⟨tv, lv, ts, xs, l, u, true, he, row_mono ht (by omega), row_mono hi (by omega), hb, fun _ => rfl, fun q hq => ⟨rfl, (Option.some.inj hq).symm⟩, ob_two ht hi h3 (by omega) hb.size⟩
/-- What ReadStore answers, whoever reads. -/
theorem rd_own (L : List UInt8) : ∃ (P : List Vr) (R : List Cl) (O : ByteArray) (ok : Bool), (ok = true → Rs.isOf L P R O) ∧ (∀ vs cs o, Rs.isOf L vs cs o → ok = true ∧ P = vs ∧ R = cs ∧ O = o) ∧ ∀ w w' e, RdO w w' L e →
    ∃ u x, e = .returned (.tuple #[.agg #[u, x, .string O], .bool ok]) ∧ VrRow w.heap.size w' u P ∧ ClRow w.heap.size w' x R ∧ Below w.heap.size w w' ∧ ∃ c1, w.heap.size ≤ c1 ∧ c1 ≤ w'.heap.size ∧ OB u w.heap.size c1 ∧ OB x c1 w'.heap.size := by
  by_cases h : ∃ vs cs o, Rs.isOf L vs cs o
  · obtain ⟨vs, cs, o, hi⟩ := h
    refine ⟨vs, cs, o, true, fun _ => hi, fun us ds p h2 => ?_, fun w w' e hr => ?_⟩
    · obtain ⟨e1, e2, e3⟩ := Rs.isOf_one9 h2 hi
      exact ⟨rfl, e1, e2, e3⟩
    · obtain ⟨hb, hr⟩ := hr
      rcases hr with ⟨u, x, us, ds, p, B2, h1, he, h3, h4, h5, h6⟩ | ⟨h1, -⟩
      · obtain ⟨rfl, rfl, rfl⟩ := Rs.isOf_one9 hi h1
        exact ⟨u, x, he, row_mono h3 (by omega), row_mono h4 (by omega), hb, ob_two h3 h4 h6 (by omega) hb.size⟩
      · exact absurd hi (h1 _ _ _)
  · have h' : ∀ vs cs o, ¬ Rs.isOf L vs cs o := fun vs cs o hi => h ⟨vs, cs, o, hi⟩
    refine ⟨[], [], ⟨#[]⟩, false, fun e => by simp at e, fun vs cs o hi => absurd hi (h' vs cs o), fun w w' e hr => ?_⟩
    obtain ⟨hb, hr⟩ := hr
    rcases hr with ⟨u, x, us, ds, p, B2, h1, -⟩ | ⟨-, h2⟩
    · exact absurd h1 (h' _ _ _)
    · exact ⟨_, _, h2, World.ownsRow_nil _ _ _ _, World.ownsRow_nil _ _ _ _, hb, w.heap.size, Nat.le_refl _, hb.size, OB.none _ _ _, OB.none _ _ _⟩
end PartRjV
end Go.Proofs.YtehagonaacbmiaaGreat
