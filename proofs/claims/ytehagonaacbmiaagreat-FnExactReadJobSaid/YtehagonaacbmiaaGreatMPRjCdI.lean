/- The program's CodeOk, whole. -/
import Derived.Test.YtehagonaacbmiaaGreatMPRjCdG
namespace Go.Proofs.YtehagonaacbmiaaGreat
open Go.RowKit

namespace Cd
theorem allI_next {ts : List ByteArray} {xs : List Ins} {to a : Nat} (h : a < to) : allI ts xs to (to - a) a = (ins ts (xs.getD a Ins.no) (a : Int) (to : Int) && allI ts xs to (to - (a + 1)) (a + 1)) := by
  rw [show to - a = (to - (a + 1)) + 1 by omega]
  rfl
theorem allI_end {ts : List ByteArray} {xs : List Ins} {to : Nat} : allI ts xs to (to - to) to = true := by
  rw [Nat.sub_self]; rfl
end Cd

set_option maxHeartbeats 2000000 in
set_option maxRecDepth 100000 in
theorem partOk_any (tv lv : Value) (bg ln en : Int) (ts : List ByteArray) (xs : List Ins) (fr to : Nat) (w : World) (h : TsAt w tv ts) (hl : InsAt w lv xs) (hs : TsSmall ts ts.length) (hk : ts.length ≤ 60) (hxl : xs.length ≤ 250) (hft : fr ≤ to) (hto : to ≤ xs.length) :
    Calls Tryz.prog 57 #[.agg #[tv, lv, .int .i64 bg, .int .i64 ln, .int .i64 en], .int .i64 (fr : Int), .int .i64 (to : Int)] w fun e w' => e = .returned (.bool (Cd.partI ts xs fr to)) ∧ Below w.heap.size w w' := by
  obtain ⟨V, hV⟩ : ∃ V, V = Cd.partI ts xs fr to := ⟨_, rfl⟩
  rw [← hV]
  have HV : Hid (V = (Cd.allI ts xs to (to - fr) fr && Cd.loopI xs to (to - fr) fr (Cd.start fr to))) := hV
  clear hV
  have CI : Hid (∀ W (a : Nat), Below w.heap.size w W → a < to → Calls Tryz.prog 88 #[.agg #[tv, lv, .int .i64 bg, .int .i64 ln, .int .i64 en], .int .i64 (a : Int), .int .i64 (to : Int)] W fun e w' => e = .returned (.bool (Cd.ins ts (xs.getD a Ins.no) (a : Int) (to : Int))) ∧ Below W.heap.size W w') :=
    fun W a hb ha => instrOk_any tv lv bg ln en ts xs a to W (h.keep hb) (hl.keep hb) hs hk (by omega) (by omega)
  have CH : Hid (∀ W, Below w.heap.size w W → (∀ a, fr ≤ a → a < to → Cd.ins ts (xs.getD a Ins.no) (a : Int) (to : Int) = true) → Calls Tryz.prog 89 #[lv, .int .i64 (fr : Int), .int .i64 (to : Int)] W fun e w' => e = .returned (.bool (Cd.loopI xs to (to - fr) fr (Cd.start fr to))) ∧ Below W.heap.size W w') :=
    fun W hb ha => heightsOk_any lv ts xs fr to W (hl.keep hb) hxl hft hto ha
  obtain ⟨ta, tc, rfl, -⟩ := h
  obtain ⟨la, lc, rfl, -⟩ := hl
  obtain ⟨m, hm⟩ : ∃ m, m = xs.length := ⟨_, rfl⟩
  obtain ⟨n, hn⟩ : ∃ n, n = ts.length := ⟨_, rfl⟩
  rw [← hm] at hxl hto
  rw [← hn] at hk
  rw [← hm, ← hn] at CI ⊢
  rw [← hm] at CH
  clear hm hn hs
  have HB0 : Hid (Below w.heap.size w (w.alloc (.cells #[.slice ta n tc, .slice la m lc, .int .i64 bg, .int .i64 ln, .int .i64 en] 36))) := (Below.refl _ _).alloc (Nat.le_refl _) _
  have HR0 : Hid ((w.alloc (.cells #[.slice ta n tc, .slice la m lc, .int .i64 bg, .int .i64 ln, .int .i64 en] 36)).heap[w.heap.size]? = some (.cells #[.slice ta n tc, .slice la m lc, .int .i64 bg, .int .i64 ln, .int .i64 en] 36 (0, 0))) := heap_alloc_new _ _
  have hz : w.heap.size < (w.alloc (.cells #[.slice ta n tc, .slice la m lc, .int .i64 bg, .int .i64 ln, .int .i64 en] 36)).heap.size := by simp
  go_enter Tryz.func57, Tryz.ntmps57
  go_wp2
  generalize w.alloc (.cells #[.slice ta n tc, .slice la m lc, .int .i64 bg, .int .i64 ln, .int .i64 en] 36) = W0 at *
  have HC : Hid (∀ W, Below W0.heap.size W0 W → W.heap[w.heap.size]? = some (.cells #[.slice ta n tc, .slice la m lc, .int .i64 bg, .int .i64 ln, .int .i64 en] 36 (0, 0)) ∧ Below w.heap.size w W) := fun W hb => ⟨(hb.block _ hz).trans HR0.out, HB0.out.trans (hb.mono HB0.out.size)⟩
  clear HR0 HB0
  go_loopw [7] (fun i wr => ∃ a : Nat, i = .int .i64 (a : Int) ∧ fr ≤ a ∧ a ≤ to ∧ Hid (Below W0.heap.size W0 wr) ∧ Hid (∀ k, fr ≤ k → k < a → Cd.ins ts (xs.getD k Ins.no) (k : Int) (to : Int) = true) ∧ Hid (V = (Cd.allI ts xs to (to - a) a && Cd.loopI xs to (to - fr) fr (Cd.start fr to)))) (fun i _ => to - (intOf i).toNat)
  case atStart => exact ⟨fr, rfl, by omega, hft, Below.refl _ _, fun k h1 h2 => by omega, HV.out⟩
  case round =>
    clear HV
    obtain ⟨a, rfl, hfa, ha, HB, HA, HV⟩ := hrel
    obtain ⟨R, hbw⟩ := HC.out _ HB.out
    have HBW : Hid (Below w.heap.size w wr) := hbw
    have q0 := blk_cell R 0
    have q1 := blk_cell R 1
    have q2 := blk_cell R 2
    have q3 := blk_cell R 3
    have q4 := blk_cell R 4
    simp only [List.getElem?_toArray, List.getElem?_cons_zero, List.getElem?_cons_succ] at q0 q1 q2 q3 q4
    clear R hbw
    by_cases hlt : a < to
    · have d0 : decide ((a : Int) < (to : Int)) = true := decide_eq_true (by omega)
      have HV2 : Hid _ := HV.out.trans (by rw [Cd.allI_next hlt])
      have C := CI.out wr a HBW.out hlt
      obtain ⟨Z, hZ⟩ : ∃ Z, Z = Cd.ins ts (xs.getD a Ins.no) (a : Int) (to : Int) := ⟨_, rfl⟩
      rw [← hZ] at C HV2
      have HZ : Hid (Cd.ins ts (xs.getD a Ins.no) (a : Int) (to : Int) = Z) := hZ.symm
      have HCC : Hid (Calls Tryz.prog 88 #[.agg #[.slice ta n tc, .slice la m lc, .int .i64 bg, .int .i64 ln, .int .i64 en], .int .i64 (a : Int), .int .i64 (to : Int)] wr fun e w' => e = .returned (.bool Z) ∧ Below wr.heap.size wr w') := C
      clear C hZ HV
      go_wp2_with fail
      refine HCC.out.mono ?_
      rintro e w2 ⟨rfl, hb2⟩
      have HB2 : Hid (Below W0.heap.size W0 w2) := HB.out.trans (hb2.mono HB.out.size)
      clear hb2 HCC q0 q1 q2 q3 q4
      cases Z
      · have HF : Hid (V = false) := by rw [Bool.false_and, Bool.false_and] at HV2; exact HV2
        clear HV2 HA
        go_wp2
        go_ret
        exact ⟨by rw [HF.out]; rfl, (HC.out _ HB2.out).2⟩
      · have HV3 : Hid (V = (Cd.allI ts xs to (to - (a + 1)) (a + 1) && Cd.loopI xs to (to - fr) fr (Cd.start fr to))) := by rw [Bool.true_and] at HV2; exact HV2
        have HA2 : Hid (∀ k, fr ≤ k → k < a + 1 → Cd.ins ts (xs.getD k Ins.no) (k : Int) (to : Int) = true) := fun k h1 h2 => by
          by_cases e : k = a
          · subst e; exact HZ.out
          · exact HA.out k h1 (by omega)
        clear HV2 HA HZ
        go_wp2
        go_roundw
        case rel => exact ⟨a + 1, by go_num, by omega, by omega, HB2.out, HA2.out, HV3.out⟩
        case measure => simp [intOf]; omega
    · obtain rfl : a = to := by omega
      have d0 : decide ((a : Int) < (a : Int)) = false := decide_eq_false (by omega)
      have HCC := CH.out wr HBW.out HA.out
      obtain ⟨Z, hZ⟩ : ∃ Z, Z = Cd.loopI xs a (a - fr) fr (Cd.start fr a) := ⟨_, rfl⟩
      rw [← hZ] at HCC HV
      have HV2 : Hid (V = Z) := by rw [Cd.allI_end, Bool.true_and] at HV; exact HV
      have HC2 : Hid (Calls Tryz.prog 89 #[.slice la m lc, .int .i64 (fr : Int), .int .i64 (a : Int)] wr fun e w' => e = .returned (.bool Z) ∧ Below wr.heap.size wr w') := HCC
      clear HCC hZ HV HA CH CI
      go_wp2_with fail
      refine HC2.out.mono ?_
      rintro e w2 ⟨rfl, hb2⟩
      go_wp2
      go_ret
      exact ⟨by rw [HV2.out]; rfl, HBW.out.trans (hb2.mono HBW.out.size)⟩

set_option maxHeartbeats 20000000 in
set_option maxRecDepth 100000 in
theorem implCodeOk (tv lv : Value) (bg ln en : Int) (ts : List ByteArray) (xs : List Ins) (w : World) (h : TsAt w tv ts) (hl : InsAt w lv xs) (hs : TsSmall ts ts.length) (hk : ts.length ≤ 1048576) (hx : xs.length ≤ 1048576) :
    Calls Tryz.prog 23 #[.agg #[tv, lv, .int .i64 bg, .int .i64 ln, .int .i64 en]] w fun e w' => e = .returned (.bool (Cd.ok ts xs bg ln en)) ∧ Below w.heap.size w w' := by
  obtain ⟨V, hV⟩ : ∃ V, V = Cd.ok ts xs bg ln en := ⟨_, rfl⟩
  rw [← hV]
  have HV : Hid (V = Cd.ok ts xs bg ln en) := hV
  clear hV
  have HT : Hid (∀ W, Below w.heap.size w W → TsAt W tv ts ∧ InsAt W lv xs) := fun W hb => ⟨h.keep hb, hl.keep hb⟩
  have HS : Hid (TsSmall ts ts.length) := hs
  obtain ⟨ta, tc, rfl, -⟩ := h
  obtain ⟨la, lc, rfl, -⟩ := hl
  clear hs
  obtain ⟨m, hm⟩ : ∃ m, m = xs.length := ⟨_, rfl⟩
  obtain ⟨n, hn⟩ : ∃ n, n = ts.length := ⟨_, rfl⟩
  have HM : Hid (m = xs.length ∧ n = ts.length) := ⟨hm, hn⟩
  rw [← hm] at hx
  rw [← hn] at hk
  rw [← hm, ← hn] at HT ⊢
  clear hm hn
  have HB0 : Hid (Below w.heap.size w (w.alloc (.cells #[.slice ta n tc, .slice la m lc, .int .i64 bg, .int .i64 ln, .int .i64 en] 36))) := (Below.refl _ _).alloc (Nat.le_refl _) _
  have HR0 : Hid ((w.alloc (.cells #[.slice ta n tc, .slice la m lc, .int .i64 bg, .int .i64 ln, .int .i64 en] 36)).heap[w.heap.size]? = some (.cells #[.slice ta n tc, .slice la m lc, .int .i64 bg, .int .i64 ln, .int .i64 en] 36 (0, 0))) := heap_alloc_new _ _
  have hz : w.heap.size < (w.alloc (.cells #[.slice ta n tc, .slice la m lc, .int .i64 bg, .int .i64 ln, .int .i64 en] 36)).heap.size := by simp
  have CE : Hid (∀ W, Calls Tryz.prog 55 #[.agg #[.slice ta n tc, .slice la m lc, .int .i64 bg, .int .i64 ln, .int .i64 en]] W fun e w' => e = .returned (.agg #[.int .i64 bg, .int .i64 ln, .int .i64 en, .int .i64 (m : Int)]) ∧ Below W.heap.size W w') := fun W => partEnds_any ta n tc la m lc bg ln en W
  go_enter Tryz.func23, Tryz.ntmps23
  go_wp2_with fail
  generalize w.alloc (.cells #[.slice ta n tc, .slice la m lc, .int .i64 bg, .int .i64 ln, .int .i64 en] 36) = W0 at *
  refine (CE.out _).mono ?_
  rintro e w1 ⟨rfl, hb1⟩
  have HB1 : Hid (Below w.heap.size w w1) := HB0.out.trans (hb1.mono HB0.out.size)
  have HR1 : Hid (w1.heap[w.heap.size]? = some (.cells #[.slice ta n tc, .slice la m lc, .int .i64 bg, .int .i64 ln, .int .i64 en] 36 (0, 0))) := (hb1.block _ hz).trans HR0.out
  have hz1 : w.heap.size < w1.heap.size := Nat.lt_of_lt_of_le hz hb1.size
  clear hb1 CE HB0 HR0 hz
  have HB2 : Hid (Below w.heap.size w (w1.alloc (.cells #[.int .i64 bg, .int .i64 ln, .int .i64 en, .int .i64 (m : Int)] 94))) := HB1.out.alloc (by omega) _
  have HBL : Hid (Below w1.heap.size w1 (w1.alloc (.cells #[.int .i64 bg, .int .i64 ln, .int .i64 en, .int .i64 (m : Int)] 94))) := (Below.refl _ _).alloc (Nat.le_refl _) _
  have HR2 : Hid ((w1.alloc (.cells #[.int .i64 bg, .int .i64 ln, .int .i64 en, .int .i64 (m : Int)] 94)).heap[w.heap.size]? = some (.cells #[.slice ta n tc, .slice la m lc, .int .i64 bg, .int .i64 ln, .int .i64 en] 36 (0, 0))) := (HBL.out.block _ hz1).trans HR1.out
  have HA2 : Hid ((w1.alloc (.cells #[.int .i64 bg, .int .i64 ln, .int .i64 en, .int .i64 (m : Int)] 94)).heap[w1.heap.size]? = some (.cells #[.int .i64 bg, .int .i64 ln, .int .i64 en, .int .i64 (m : Int)] 94 (0, 0))) := heap_alloc_new _ _
  have hz2 : w1.heap.size < (w1.alloc (.cells #[.int .i64 bg, .int .i64 ln, .int .i64 en, .int .i64 (m : Int)] 94)).heap.size := by simp
  have q0 := blk_cell HR2.out 0
  have q1 := blk_cell HR2.out 1
  have q2 := blk_cell HR2.out 2
  simp only [List.getElem?_toArray, List.getElem?_cons_zero, List.getElem?_cons_succ] at q0 q1 q2
  clear HR1 HB1 HBL
  by_cases h60 : ¬ n ≤ 60
  · have HF : Hid (V = false) := by
      show _ = _
      rw [HV.out]
      unfold Cd.ok
      rw [← HM.out.2, decide_eq_false h60, Bool.false_and, Bool.and_false]
    have e60 : decide ((60 : Int) < (n : Int)) = true := decide_eq_true (by omega)
    clear HV
    go_wp2
    go_ret
    exact ⟨by rw [HF.out]; rfl, HB2.out⟩
  have h60 : n ≤ 60 := by omega
  have e60 : decide ((60 : Int) < (n : Int)) = false := decide_eq_false (by omega)
  by_cases h250 : ¬ m ≤ 250
  · have HF : Hid (V = false) := by
      show _ = _
      rw [HV.out]
      unfold Cd.ok
      rw [← HM.out.1, decide_eq_false h250, Bool.false_and, Bool.and_false, Bool.and_false]
    have e250 : decide ((250 : Int) < (m : Int)) = true := decide_eq_true (by omega)
    clear HV
    go_wp2
    go_ret
    exact ⟨by rw [HF.out]; rfl, HB2.out⟩
  have h250 : m ≤ 250 := by omega
  have e250 : decide ((250 : Int) < (m : Int)) = false := decide_eq_false (by omega)
  by_cases hbg : ¬ bg = 0
  · have HF : Hid (V = false) := by
      show _ = _
      rw [HV.out]
      unfold Cd.ok
      rw [decide_eq_false hbg, Bool.false_and, Bool.and_false, Bool.and_false, Bool.and_false]
    have e0 : (bg != 0) = true := by simpa using hbg
    clear HV hbg
    go_wp2
    go_ret
    exact ⟨by rw [HF.out]; rfl, HB2.out⟩
  obtain rfl : bg = 0 := Classical.not_not.1 hbg
  clear hbg
  obtain ⟨S, hS⟩ : ∃ S, S = decide ((0 : Int) ≤ ln ∧ ln ≤ en ∧ en ≤ (m : Int)) := ⟨_, rfl⟩
  have CS : Hid (Calls Tryz.prog 56 #[.slice (some ⟨w1.heap.size, 0, none⟩) 4 4] (w1.alloc (.cells #[.int .i64 0, .int .i64 ln, .int .i64 en, .int .i64 (m : Int)] 94)) fun e w' => e = .returned (.bool S) ∧ Below (w1.alloc (.cells #[.int .i64 0, .int .i64 ln, .int .i64 en, .int .i64 (m : Int)] 94)).heap.size (w1.alloc (.cells #[.int .i64 0, .int .i64 ln, .int .i64 en, .int .i64 (m : Int)] 94)) w') := by
    rw [hS]
    refine isSorted4_any w1.heap.size (fun j => match j with | 0 => 0 | 1 => ln | 2 => en | _ => (m : Int)) _ (fun j hj => ?_)
    rw [blk_cell HA2.out]
    match j, hj with
    | 0, _ => rfl
    | 1, _ => rfl
    | 2, _ => rfl
    | 3, _ => rfl
  have HSS : Hid ((S = false → V = false) ∧ (S = true → (0 : Int) ≤ ln ∧ ln ≤ en ∧ en ≤ (m : Int))) := by
    refine ⟨fun hq => ?_, fun hq => of_decide_eq_true (hS.symm.trans hq)⟩
    have hn := of_decide_eq_false (hS.symm.trans hq)
    rw [HV.out]
    unfold Cd.ok
    rw [← HM.out.1]
    by_cases h1 : 0 ≤ ln ∧ ln ≤ (m : Int)
    · rw [decide_eq_false (show ¬ (ln ≤ en ∧ en ≤ (m : Int)) by omega)]; simp
    · rw [decide_eq_false h1]; simp
  clear hS
  go_wp2_with fail
  refine CS.out.mono ?_
  rintro e w2 ⟨rfl, hb2⟩
  have HBW : Hid (Below w.heap.size w w2) := HB2.out.trans (hb2.mono HB2.out.size)
  have HRW : Hid (w2.heap[w.heap.size]? = some (.cells #[.slice ta n tc, .slice la m lc, .int .i64 0, .int .i64 ln, .int .i64 en] 36 (0, 0))) := (hb2.block _ (by omega)).trans HR2.out
  have HAW : Hid (w2.heap[w1.heap.size]? = some (.cells #[.int .i64 0, .int .i64 ln, .int .i64 en, .int .i64 (m : Int)] 94 (0, 0))) := (hb2.block _ hz2).trans HA2.out
  have hz3 : w1.heap.size < w2.heap.size := Nat.lt_of_lt_of_le hz2 hb2.size
  clear hb2 CS HB2 HR2 HA2 q0 q1 q2 hz2
  cases S
  · have HF : Hid (V = false) := HSS.out.1 rfl
    clear HV HSS
    go_wp2
    go_ret
    exact ⟨by rw [HF.out]; rfl, HBW.out⟩
  obtain ⟨s1, s2, s3⟩ := HSS.out.2 rfl
  obtain ⟨l, rfl⟩ : ∃ l : Nat, ln = (l : Int) := ⟨ln.toNat, by omega⟩
  obtain ⟨u, rfl⟩ : ∃ u : Nat, en = (u : Int) := ⟨en.toNat, by omega⟩
  have q0 := blk_cell HRW.out 0
  simp only [List.getElem?_toArray, List.getElem?_cons_zero] at q0
  clear HSS
  go_wp2
  clear q0
  go_loop [5, 32] (fun _ i => ∃ j : Nat, i = .int .i64 (j : Int) ∧ j ≤ n ∧ Hid (∀ k, k < j → (ts.getD k ByteArray.empty).size ≤ 30)) (fun _ i => n - (intOf i).toNat)
  case atStart => exact ⟨0, rfl, by omega, fun k hk => by omega⟩
  case round =>
    obtain ⟨j, rfl, hj, HJ⟩ := hrel
    by_cases hlt : j < n
    · have d0 : decide ((j : Int) < (n : Int)) = true := decide_eq_true (by omega)
      have hj1 : (j : Int) < (n : Int) := by omega
      obtain ⟨b, o, rfl, c0⟩ := (HT.out _ HBW.out).1.cell HM.out.2 hlt
      have hsm := HS.out j (by rw [← HM.out.2]; exact hlt)
      have HTX : Hid (30 < (ts.getD j ByteArray.empty).size → V = false) := fun h => HV.out.trans (Cd.ok_text (by rw [← HM.out.2]; exact hlt) h)
      have HJ2 : Hid ((ts.getD j ByteArray.empty).size ≤ 30 → ∀ k, k < j + 1 → (ts.getD k ByteArray.empty).size ≤ 30) := fun h k hk => by
        by_cases e : k = j
        · subst e; exact h
        · exact HJ.out k (by omega)
      clear HJ
      generalize ts.getD j ByteArray.empty = t at *
      by_cases h30 : 30 < t.size
      · have d1 : decide ((30 : Int) < (t.size : Int)) = true := decide_eq_true (by omega)
        have HF : Hid (V = false) := HTX.out h30
        clear HTX HJ2
        go_wp2
        go_ret
        exact ⟨by rw [HF.out]; rfl, HBW.out⟩
      · have d1 : decide ((30 : Int) < (t.size : Int)) = false := decide_eq_false (by omega)
        have HJ3 : Hid _ := HJ2.out (by omega)
        clear HTX HJ2
        go_wp2
        go_round
        case rel => exact ⟨j + 1, by go_num, by omega, HJ3.out⟩
        case measure => simp [intOf]; omega
    · have HKK : Hid (j = n) := (by omega : j = n)
      have d0 : decide ((j : Int) < (n : Int)) = false := decide_eq_false (by omega)
      obtain ⟨E, hE⟩ : ∃ E : Nat → Nat, E = fun k => match k with | 0 => 0 | 1 => l | 2 => u | _ => m := ⟨_, rfl⟩
      have HV2 : Hid (V = (List.range' 0 3).all fun k => Cd.partI ts xs (E k) (E (k + 1))) := by
        show _ = _
        rw [HV.out, Cd.ok_rest (fun i hi => HJ.out i (by rw [HKK.out, HM.out.2]; exact hi)), ← HM.out.1, ← HM.out.2, decide_eq_true h60, decide_eq_true h250, decide_eq_true rfl, decide_eq_true (show (0 : Int) ≤ (l : Int) ∧ (l : Int) ≤ (m : Int) by omega), decide_eq_true (show (l : Int) ≤ (u : Int) ∧ (u : Int) ≤ (m : Int) by omega), Int.toNat_natCast, Int.toNat_natCast, Cd.part_same _ _ 0 l (by omega), Cd.part_same _ _ l u (by omega), Cd.part_same _ _ u m (by omega), hE]
        simp [List.range']
      have HEM : Hid (∀ k, k < 3 → E k ≤ E (k + 1) ∧ E (k + 1) ≤ m) := by
        intro k hk
        rw [hE]
        match k, hk with
        | 0, _ => exact ⟨Nat.zero_le _, by show l ≤ m; omega⟩
        | 1, _ => exact ⟨by show l ≤ u; omega, by show u ≤ m; omega⟩
        | 2, _ => exact ⟨by show u ≤ m; omega, by show m ≤ m; omega⟩
      have HEC : Hid (∀ (W : World) (k : Nat), W.heap[w1.heap.size]? = some (.cells #[.int .i64 0, .int .i64 (l : Int), .int .i64 (u : Int), .int .i64 (m : Int)] 94 (0, 0)) → k < 4 → W.cell? ⟨w1.heap.size, k, none⟩ = some (.int .i64 (E k : Int))) := by
        intro W k hW hk
        rw [blk_cell hW, hE]
        match k, hk with
        | 0, _ => rfl
        | 1, _ => rfl
        | 2, _ => rfl
        | 3, _ => rfl
      clear HV HJ hE
      have CP : Hid (∀ W (k : Nat), Below w.heap.size w W → k < 3 → Calls Tryz.prog 57 #[.agg #[.slice ta n tc, .slice la m lc, .int .i64 0, .int .i64 (l : Int), .int .i64 (u : Int)], .int .i64 (E k : Int), .int .i64 (E (k + 1) : Int)] W fun e w' => e = .returned (.bool (Cd.partI ts xs (E k) (E (k + 1)))) ∧ Below W.heap.size W w') := fun W k hb hk =>
        partOk_any _ _ 0 l u ts xs (E k) (E (k + 1)) W (HT.out W hb).1 (HT.out W hb).2 HS.out (by rw [← HM.out.2]; exact h60) (by rw [← HM.out.1]; exact h250) (HEM.out k hk).1 (by rw [← HM.out.1]; exact (HEM.out k hk).2)
      clear HT HS HM HEM
      go_wp2
      go_loopw [6, 40] (fun _ i wr => ∃ k : Nat, i = .int .i64 (k : Int) ∧ k ≤ 3 ∧ Hid (Below w2.heap.size w2 wr) ∧ Hid (V = (List.range' k (3 - k)).all fun k => Cd.partI ts xs (E k) (E (k + 1)))) (fun _ i _ => 3 - (intOf i).toNat)
      case atStart => exact ⟨0, rfl, by omega, Below.refl _ _, HV2.out⟩
      case round =>
        clear HV2
        obtain ⟨k, rfl, hk3, HB, HVK⟩ := hrel
        by_cases hlt3 : k < 3
        · have f0 : decide ((k : Int) < 3) = true := decide_eq_true (by omega)
          have HVN : Hid (V = (Cd.partI ts xs (E k) (E (k + 1)) && (List.range' (k + 1) (3 - (k + 1))).all fun k => Cd.partI ts xs (E k) (E (k + 1)))) := by
            show _ = _
            rw [HVK.out, show 3 - k = (3 - (k + 1)) + 1 by omega, List.range'_succ, List.all_cons]
          obtain ⟨T, hT⟩ : ∃ T, T = (List.range' (k + 1) (3 - (k + 1))).all fun k => Cd.partI ts xs (E k) (E (k + 1)) := ⟨_, rfl⟩
          have HTT : Hid (T = (List.range' (k + 1) (3 - (k + 1))).all fun k => Cd.partI ts xs (E k) (E (k + 1))) := hT
          rw [← hT] at HVN
          clear hT
          have RA := (HB.out.block _ hz3).trans HAW.out
          have RC := (HB.out.block w.heap.size (by omega)).trans HRW.out
          have a0 := HEC.out wr k RA (by omega)
          have a1 := HEC.out wr (k + 1) RA (by omega)
          have q0 := blk_cell RC 0
          have q1 := blk_cell RC 1
          have q2 := blk_cell RC 2
          have q3 := blk_cell RC 3
          have q4 := blk_cell RC 4
          simp only [List.getElem?_toArray, List.getElem?_cons_zero, List.getElem?_cons_succ] at q0 q1 q2 q3 q4
          have HBK : Hid (Below w.heap.size w wr) := HBW.out.trans (HB.out.mono HBW.out.size)
          have CPK : Hid (∀ W, Below w.heap.size w W → _) := fun W hb => CP.out W k hb hlt3
          clear RA RC HVK
          generalize Cd.partI ts xs (E k) (E (k + 1)) = Z at HVN CPK
          generalize E k = ek at a0 CPK
          generalize E (k + 1) = ek1 at a1 CPK
          rcases (show k = 0 ∨ k = 1 ∨ k = 2 by omega) with rfl | rfl | rfl
          all_goals
            have CPL : Hid (Calls Tryz.prog 57 #[.agg #[.slice ta n tc, .slice la m lc, .int .i64 0, .int .i64 (l : Int), .int .i64 (u : Int)], .int .i64 (ek : Int), .int .i64 (ek1 : Int)] wr.drew fun e w' => e = .returned (.bool Z) ∧ Below wr.drew.heap.size wr.drew w') := CPK.out _ HBK.out.drew
            cases Z
            · have HF : Hid (V = false) := by rw [Bool.false_and] at HVN; exact HVN
              clear HVN CPK
              go_wp2_with fail
              go_region_with ((go_at_call 57; refine CPL.out.mono ?_; rintro e w3 ⟨rfl, hb3⟩))
              all_goals
                go_wp2
                go_ret
                exact ⟨by rw [HF.out]; rfl, HBK.out.trans (((Below.refl _ _).drew.trans hb3).mono HBK.out.size)⟩
            · have HV3 : Hid (V = T) := by rw [Bool.true_and] at HVN; exact HVN
              clear HVN CPK
              go_wp2_with fail
              go_region_with ((go_at_call 57; refine CPL.out.mono ?_; rintro e w3 ⟨rfl, hb3⟩))
              all_goals
                go_wp2
                go_roundw
                case rel => exact ⟨_, by go_num, by omega, HB.out.trans (((Below.refl _ _).drew.trans hb3).mono HB.out.size), HV3.out.trans HTT.out⟩
                case measure => simp [intOf]
        · have HK3 : Hid (k = 3) := (by omega : k = 3)
          have f0 : decide ((k : Int) < 3) = false := decide_eq_false (by omega)
          have HF : Hid (V = true) := by show _ = _; rw [HVK.out, HK3.out]; rfl
          clear HVK
          go_wp2
          go_ret
          exact ⟨by rw [HF.out]; rfl, HBW.out.trans (HB.out.mono HBW.out.size)⟩
end Go.Proofs.YtehagonaacbmiaaGreat
