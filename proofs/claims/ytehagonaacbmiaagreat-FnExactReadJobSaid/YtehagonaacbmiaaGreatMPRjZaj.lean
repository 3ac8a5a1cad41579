/- The specification of CodeOk. The contract of the library's Clone, laid at this program: the same bytes, in memory of its own. Plain facts, without the program: what a number read at a place of a text is, byte by byte. What spec.l01Var and both VarText answer, at every number. -/
import Derived.Test.YtehagonaacbmiaaGreatMPRjCdB
import Derived.Shelf.LaysM
import Derived.Shelf.Strconv.Clone
import Derived.Test.YtehagonaacbmiaaGreatProg
import Derived.WalkKit
import Derived.Test.YtehagonaacbmiaaGreatMPRjZac
import Derived.Test.YtehagonaacbmiaaGreatMPRjZad
namespace Go.Proofs.YtehagonaacbmiaaGreat
section PartCdH
open Go.RowKit

namespace Cd
theorem ok_text {ts : List ByteArray} {xs : List Ins} {bg ln en : Int} {i : Nat} (hi : i < ts.length) (h : 30 < (ts.getD i ByteArray.empty).size) : ok ts xs bg ln en = false := by
  unfold ok
  have : ts.all (fun t => decide (t.size ≤ 30)) = false := by
    rw [List.all_eq_false]
    refine ⟨ts[i], List.getElem_mem _, ?_⟩
    rw [List.getD_eq_getElem?_getD, List.getElem?_eq_getElem hi] at h
    simpa using h
  rw [this, Bool.false_and]
theorem ok_rest {ts : List ByteArray} {xs : List Ins} {bg ln en : Int} (h : ∀ i, i < ts.length → (ts.getD i ByteArray.empty).size ≤ 30) : ok ts xs bg ln en =
    (decide (ts.length ≤ 60) && (decide (xs.length ≤ 250) && (decide (bg = 0) && (decide (0 ≤ ln ∧ ln ≤ (xs.length : Int)) && (decide (ln ≤ en ∧ en ≤ (xs.length : Int)) &&
  (part ts xs 0 ln.toNat && (part ts xs ln.toNat en.toNat && part ts xs en.toNat xs.length))))))) := by
  unfold ok
  have : ts.all (fun t => decide (t.size ≤ 30)) = true := by
    rw [List.all_eq_true]
    intro t ht
    obtain ⟨i, hi, e⟩ := List.mem_iff_getElem.1 ht
    have := h i hi
    rw [List.getD_eq_getElem?_getD, List.getElem?_eq_getElem hi] at this
    rw [← e]
    simpa using this
  rw [this, Bool.true_and]
end Cd

set_option maxHeartbeats 2000000 in
set_option maxRecDepth 100000 in
theorem spCodeOk (tv lv : Value) (bg ln en : Int) (ts : List ByteArray) (xs : List Ins) (w : World) (h : TsAt w tv ts) (hl : InsAt w lv xs) (hs : TsSmall ts ts.length) (hk : ts.length ≤ 1048576) (hx : xs.length ≤ 1048576) :
    Calls Tryz.prog 18 #[.agg #[tv, lv, .int .i64 bg, .int .i64 ln, .int .i64 en]] w fun e w' => e = .returned (.bool (Cd.ok ts xs bg ln en)) ∧ Below w.heap.size w w' := by
  obtain ⟨V, hV⟩ : ∃ V, V = Cd.ok ts xs bg ln en := ⟨_, rfl⟩
  rw [← hV]
  have HV : Hid (V = Cd.ok ts xs bg ln en) := hV
  clear hV
  have HT : Hid (∀ W, Below w.heap.size w W → TsAt W tv ts ∧ InsAt W lv xs) := fun W hb => ⟨h.keep hb, hl.keep hb⟩
  have HS : Hid (TsSmall ts ts.length) := hs
  obtain ⟨ta, tc, rfl, -⟩ := h
  obtain ⟨la, lc, rfl, -⟩ := hl
  clear hs
  obtain ⟨m, hm⟩ : ∃ m, m = xs.length := ⟨_, rfl⟩
  obtain ⟨n, hn⟩ : ∃ n, n = ts.length := ⟨_, rfl⟩
  have HM : Hid (m = xs.length ∧ n = ts.length) := ⟨hm, hn⟩
  rw [← hm] at hx
  rw [← hn] at hk
  rw [← hm, ← hn] at HT ⊢
  clear hm hn
  have HB0 : Hid (Below w.heap.size w (w.alloc (.cells #[.slice ta n tc, .slice la m lc, .int .i64 bg, .int .i64 ln, .int .i64 en] 36))) := (Below.refl _ _).alloc (Nat.le_refl _) _
  have HR0 : Hid ((w.alloc (.cells #[.slice ta n tc, .slice la m lc, .int .i64 bg, .int .i64 ln, .int .i64 en] 36)).heap[w.heap.size]? = some (.cells #[.slice ta n tc, .slice la m lc, .int .i64 bg, .int .i64 ln, .int .i64 en] 36 (0, 0))) := heap_alloc_new _ _
  have hz : w.heap.size < (w.alloc (.cells #[.slice ta n tc, .slice la m lc, .int .i64 bg, .int .i64 ln, .int .i64 en] 36)).heap.size := by simp
  go_enter Tryz.func18, Tryz.ntmps18
  go_wp2
  generalize w.alloc (.cells #[.slice ta n tc, .slice la m lc, .int .i64 bg, .int .i64 ln, .int .i64 en] 36) = W0 at *
  have q0 := blk_cell HR0.out 0
  have q1 := blk_cell HR0.out 1
  have q2 := blk_cell HR0.out 2
  have q3 := blk_cell HR0.out 3
  have q4 := blk_cell HR0.out 4
  simp only [List.getElem?_toArray, List.getElem?_cons_zero, List.getElem?_cons_succ] at q0 q1 q2 q3 q4
  go_loop [3] (fun i => ∃ j : Nat, i = .int .i64 (j : Int) ∧ j ≤ n ∧ Hid (∀ k, k < j → (ts.getD k ByteArray.empty).size ≤ 30)) (fun i => n - (intOf i).toNat)
  case atStart => exact ⟨0, rfl, by omega, fun k hk => by omega⟩
  case round =>
    obtain ⟨j, rfl, hj, HJ⟩ := hrel
    by_cases hlt : j < n
    · have d0 : decide ((j : Int) < (n : Int)) = true := decide_eq_true (by omega)
      have hj1 : (j : Int) < (n : Int) := by omega
      obtain ⟨b, o, rfl, c0⟩ := (HT.out _ HB0.out).1.cell HM.out.2 hlt
      have hsm := HS.out j (by rw [← HM.out.2]; exact hlt)
      have HTX : Hid (30 < (ts.getD j ByteArray.empty).size → V = false) := fun h => HV.out.trans (Cd.ok_text (by rw [← HM.out.2]; exact hlt) h)
      have HJ2 : Hid ((ts.getD j ByteArray.empty).size ≤ 30 → ∀ k, k < j + 1 → (ts.getD k ByteArray.empty).size ≤ 30) := fun h k hk => by
        by_cases e : k = j
        · subst e; exact h
        · exact HJ.out k (by omega)
      clear HJ
      generalize ts.getD j ByteArray.empty = t at *
      by_cases h30 : 30 < t.size
      · have d1 : decide ((30 : Int) < (t.size : Int)) = true := decide_eq_true (by omega)
        have HF : Hid (V = false) := HTX.out h30
        clear HTX HJ2
        go_wp2
        go_ret
        exact ⟨by rw [HF.out]; rfl, HB0.out⟩
      · have d1 : decide ((30 : Int) < (t.size : Int)) = false := decide_eq_false (by omega)
        have HJ3 : Hid _ := HJ2.out (by omega)
        clear HTX HJ2
        go_wp2
        go_round
        case rel => exact ⟨j + 1, by go_num, by omega, HJ3.out⟩
        case measure => simp [intOf]; omega
    · obtain rfl : j = n := by omega
      have d0 : decide ((j : Int) < (j : Int)) = false := decide_eq_false (by omega)
      have HV2 : Hid (V = (decide (j ≤ 60) && (decide (m ≤ 250) && (decide (bg = 0) && (decide (0 ≤ ln ∧ ln ≤ (m : Int)) && (decide (ln ≤ en ∧ en ≤ (m : Int)) &&
          (Cd.part ts xs 0 ln.toNat && (Cd.part ts xs ln.toNat en.toNat && Cd.part ts xs en.toNat m)))))))) := by
        show _ = _
        rw [HV.out, HM.out.1, HM.out.2]
        exact Cd.ok_rest (fun i hi => HJ.out i (by rw [HM.out.2]; exact hi))
      clear HV HJ
      by_cases h60 : j ≤ 60
      · have e60 : decide ((60 : Int) < (j : Int)) = false := decide_eq_false (by omega)
        rw [decide_eq_true h60, Bool.true_and] at HV2
        by_cases h250 : m ≤ 250
        · have e250 : decide ((250 : Int) < (m : Int)) = false := decide_eq_false (by omega)
          rw [decide_eq_true h250, Bool.true_and] at HV2
          by_cases hbg : bg = 0
          · subst hbg
            rw [decide_eq_true rfl, Bool.true_and] at HV2
            obtain ⟨A, hA⟩ : ∃ A, A = decide (0 ≤ ln ∧ ln ≤ (m : Int)) := ⟨_, rfl⟩
            obtain ⟨B, hB⟩ : ∃ B, B = decide (ln ≤ en ∧ en ≤ (m : Int)) := ⟨_, rfl⟩
            rw [← hA, ← hB] at HV2
            have CA : Hid (∀ W, Calls Tryz.prog 49 #[.int .i64 ln, .int .i64 0, .int .i64 (m : Int)] W fun e w' => e = .returned (.bool A) ∧ w' = W) := fun W => by rw [hA]; exact sIn_any _ _ _ W
            have CB : Hid (∀ W, Calls Tryz.prog 49 #[.int .i64 en, .int .i64 ln, .int .i64 (m : Int)] W fun e w' => e = .returned (.bool B) ∧ w' = W) := fun W => by rw [hB]; exact sIn_any _ _ _ W
            have HAB : Hid (A = true → B = true → 0 ≤ ln ∧ ln ≤ en ∧ en ≤ (m : Int)) := fun h1 h2 => by
              have a1 := of_decide_eq_true (hA.symm.trans h1)
              have a2 := of_decide_eq_true (hB.symm.trans h2)
              omega
            clear hA hB
            go_wp2_with fail
            refine (CA.out _).mono ?_
            rintro e w2 ⟨rfl, hw2⟩
            rw [hw2]
            clear hw2 CA w2
            cases A
            · have HF : Hid (V = false) := by rw [Bool.false_and] at HV2; exact HV2
              clear HV2 HAB CB
              go_wp2
              go_ret
              exact ⟨by rw [HF.out]; rfl, HB0.out⟩
            rw [Bool.true_and] at HV2
            go_wp2_with fail
            refine (CB.out _).mono ?_
            rintro e w2 ⟨rfl, hw2⟩
            rw [hw2]
            clear hw2 CB w2
            cases B
            · have HF : Hid (V = false) := by rw [Bool.false_and] at HV2; exact HV2
              clear HV2 HAB
              go_wp2
              go_ret
              exact ⟨by rw [HF.out]; rfl, HB0.out⟩
            rw [Bool.true_and] at HV2
            obtain ⟨h1, h2, h3⟩ := HAB.out (by simp) (by simp)
            obtain ⟨l, rfl⟩ : ∃ l : Nat, ln = (l : Int) := ⟨ln.toNat, by omega⟩
            obtain ⟨u, rfl⟩ : ∃ u : Nat, en = (u : Int) := ⟨en.toNat, by omega⟩
            rw [Int.toNat_natCast, Int.toNat_natCast] at HV2
            have CP : Hid (∀ W (f t : Nat), Below w.heap.size w W → f ≤ t → t ≤ m → Calls Tryz.prog 50 #[.agg #[.slice ta j tc, .slice la m lc, .int .i64 0, .int .i64 (l : Int), .int .i64 (u : Int)], .int .i64 (f : Int), .int .i64 (t : Int)] W fun e w' => e = .returned (.bool (Cd.part ts xs f t)) ∧ Below W.heap.size W w') := fun W f t hb hf ht =>
              spPart _ _ 0 l u ts xs f t W (HT.out W hb).1 (HT.out W hb).2 HS.out (by rw [← HM.out.2]; exact h60) (by rw [← HM.out.1]; exact h250) hf (by rw [← HM.out.1]; exact ht)
            have P0 : Hid (∀ W, Below w.heap.size w W → Calls Tryz.prog 50 #[.agg #[.slice ta j tc, .slice la m lc, .int .i64 0, .int .i64 (l : Int), .int .i64 (u : Int)], .int .i64 0, .int .i64 (l : Int)] W fun e w' => e = .returned (.bool (Cd.part ts xs 0 l)) ∧ Below W.heap.size W w') := fun W hb => CP.out W 0 l hb (by omega) (by omega)
            have P1 : Hid (∀ W, Below w.heap.size w W → Calls Tryz.prog 50 #[.agg #[.slice ta j tc, .slice la m lc, .int .i64 0, .int .i64 (l : Int), .int .i64 (u : Int)], .int .i64 (l : Int), .int .i64 (u : Int)] W fun e w' => e = .returned (.bool (Cd.part ts xs l u)) ∧ Below W.heap.size W w') := fun W hb => CP.out W l u hb (by omega) (by omega)
            have P2 : Hid (∀ W, Below w.heap.size w W → Calls Tryz.prog 50 #[.agg #[.slice ta j tc, .slice la m lc, .int .i64 0, .int .i64 (l : Int), .int .i64 (u : Int)], .int .i64 (u : Int), .int .i64 (m : Int)] W fun e w' => e = .returned (.bool (Cd.part ts xs u m)) ∧ Below W.heap.size W w') := fun W hb => CP.out W u m hb (by omega) (by omega)
            generalize Cd.part ts xs 0 l = V0 at *
            generalize Cd.part ts xs l u = V1 at *
            generalize Cd.part ts xs u m = V2 at *
            clear CP HAB HM HS HT
            go_wp2_with fail
            refine (P0.out _ HB0.out).mono ?_
            rintro e w2 ⟨rfl, hb2⟩
            have HB2 : Hid (Below w.heap.size w w2) := HB0.out.trans (hb2.mono HB0.out.size)
            have R2 := (hb2.block _ hz).trans HR0.out
            have hz2 : w.heap.size < w2.heap.size := Nat.lt_of_lt_of_le hz hb2.size
            have HR2 : Hid _ := R2
            clear q0 q1 q2 q3 q4 hb2 P0 HR0 HB0 hz R2
            cases V0
            · have HF : Hid (V = false) := by rw [Bool.false_and] at HV2; exact HV2
              clear HV2 P1 P2
              go_wp2
              go_ret
              exact ⟨by rw [HF.out]; rfl, HB2.out⟩
            rw [Bool.true_and] at HV2
            have q0 := blk_cell HR2.out 0
            have q1 := blk_cell HR2.out 1
            have q2 := blk_cell HR2.out 2
            have q3 := blk_cell HR2.out 3
            have q4 := blk_cell HR2.out 4
            simp only [List.getElem?_toArray, List.getElem?_cons_zero, List.getElem?_cons_succ] at q0 q1 q2 q3 q4
            go_wp2_with fail
            refine (P1.out _ HB2.out).mono ?_
            rintro e w3 ⟨rfl, hb3⟩
            have HB3 : Hid (Below w.heap.size w w3) := HB2.out.trans (hb3.mono HB2.out.size)
            have R3 := (hb3.block _ hz2).trans HR2.out
            have HR3 : Hid _ := R3
            clear q0 q1 q2 q3 q4 hb3 P1 HR2 HB2 hz2 R3
            cases V1
            · have HF : Hid (V = false) := by rw [Bool.false_and] at HV2; exact HV2
              clear HV2 P2
              go_wp2
              go_ret
              exact ⟨by rw [HF.out]; rfl, HB3.out⟩
            rw [Bool.true_and] at HV2
            have q0 := blk_cell HR3.out 0
            have q1 := blk_cell HR3.out 1
            have q2 := blk_cell HR3.out 2
            have q3 := blk_cell HR3.out 3
            have q4 := blk_cell HR3.out 4
            simp only [List.getElem?_toArray, List.getElem?_cons_zero, List.getElem?_cons_succ] at q0 q1 q2 q3 q4
            go_wp2_with fail
            refine (P2.out _ HB3.out).mono ?_
            rintro e w4 ⟨rfl, hb4⟩
            have HB4 : Hid (Below w.heap.size w w4) := HB3.out.trans (hb4.mono HB3.out.size)
            clear q0 q1 q2 q3 q4 hb4 P2
            go_wp2
            go_ret
            exact ⟨by rw [HV2.out]; rfl, HB4.out⟩
          · have HF : Hid (V = false) := by rw [decide_eq_false hbg, Bool.false_and] at HV2; exact HV2
            have e0 : (bg != 0) = true := by simpa using hbg
            clear HV2 hbg
            go_wp2
            go_ret
            exact ⟨by rw [HF.out]; rfl, HB0.out⟩
        · have HF : Hid (V = false) := by rw [decide_eq_false h250, Bool.false_and] at HV2; exact HV2
          have e250 : decide ((250 : Int) < (m : Int)) = true := decide_eq_true (by omega)
          clear HV2
          go_wp2
          go_ret
          exact ⟨by rw [HF.out]; rfl, HB0.out⟩
      · have HF : Hid (V = false) := by rw [decide_eq_false h60, Bool.false_and] at HV2; exact HV2
        have e60 : decide ((60 : Int) < (j : Int)) = true := decide_eq_true (by omega)
        clear HV2
        go_wp2
        go_ret
        exact ⟨by rw [HF.out]; rfl, HB0.out⟩
end PartCdH
section PartShelfC
open Go.Shelf
def Tryz.laysM316_ren : Go.Shelf.Ren := ⟨fun | 316 => 107 | n => n, fun | 9 => 9 | 3 => 3 | 4 => 4 | 37 => 139 | 0 => 0 | 127 => 160 | 5 => 5 | n => n, fun | n => n⟩
theorem Tryz.laysM316 : Go.Proofs.LaysM.n316 Tryz.prog Tryz.laysM316_ren := {
  mixed := by kernel_rfl
  f316 := Tryz.func107.trans (congrArg some (by kernel_rfl))
  t0 := Tryz.underlying0
  a0 := Tryz.isAgg0
  z0 := Tryz.sizeOf0
  v0 := Tryz.zeroValue0
  t3 := Tryz.underlying3
  a3 := Tryz.isAgg3
  z3 := Tryz.sizeOf3
  v3 := Tryz.zeroValue3
  t4 := Tryz.underlying4
  a4 := Tryz.isAgg4
  z4 := Tryz.sizeOf4
  v4 := Tryz.zeroValue4
  t9 := Tryz.underlying9
  a9 := Tryz.isAgg9
  z9 := Tryz.sizeOf9
  v9 := Tryz.zeroValue9
  t37 := Tryz.underlying139
  a37 := Tryz.isAgg139
  z37 := Tryz.sizeOf139
  v37 := Tryz.zeroValue139
  t127 := Tryz.underlying160
  a127 := Tryz.isAgg160
  z127 := Tryz.sizeOf160
  v127 := Tryz.zeroValue160
  t5 := Tryz.underlying5
  a5 := Tryz.isAgg5
  z5 := Tryz.sizeOf5
  v5 := Tryz.zeroValue5
  i0 := by kernel_rfl
  i3 := by kernel_rfl
  i4 := by kernel_rfl
  i5 := by kernel_rfl
  i9 := by kernel_rfl
  i37 := by kernel_rfl
  i127 := by kernel_rfl }
open Go.RowKit in
theorem Tryz.stringslite_Clone (s : ByteArray) (w : World) (hlim : s.size ≤ 281474976710656) :
    Calls Tryz.prog 107 #[.string s] w fun e w' => e = .returned (.string s) ∧ Below w.heap.size w w' := Any.stringslite_Clone Tryz.laysM316 s w hlim
open Go.RowKit in
set_option maxHeartbeats 400000 in
theorem clone_any (s : ByteArray) (w : World) (hs : s.size ≤ 281474976710656) :
    Calls Tryz.prog 96 #[.string s] w fun e w' => e = .returned (.string s) ∧ Below w.heap.size w w' := by
  go_enter Tryz.func96, Tryz.ntmps96
  go_wp2_with (go_at_call 107; refine (Tryz.stringslite_Clone s _ hs).mono ?_; rintro e w' ⟨rfl, hb⟩)
  go_ret
  exact ⟨rfl, hb⟩
end PartShelfC
section PartPlainB
namespace Pl

/-- pre: the bytes read so far; the third: those that follow; at most f more are read. The number, and how many bytes. -/
def rvF : Nat → List UInt8 → List UInt8 → Option (Nat × Nat)
  | 0, _, _ => none
  | _ + 1, _, [] => none
  | f + 1, pre, b :: r => if b.toNat < 128 then (if (b.toNat = 0 ∧ 0 < pre.length) ∨ 1000000000 < val (pre ++ [b]) then none else some (val (pre ++ [b]), pre.length + 1)) else rvF f (pre ++ [b]) r

theorem rvF_nil (f : Nat) (pre : List UInt8) : rvF f pre [] = none := by cases f <;> rfl
theorem rvF_on (f : Nat) (pre : List UInt8) (b : UInt8) (r : List UInt8) (h : 128 ≤ b.toNat) : rvF (f + 1) pre (b :: r) = rvF f (pre ++ [b]) r := by
  rw [rvF, if_neg (by omega)]
theorem rvF_bad (f : Nat) (pre : List UInt8) (b : UInt8) (r : List UInt8) (h : b.toNat < 128) (h2 : (b.toNat = 0 ∧ 0 < pre.length) ∨ 1000000000 < val (pre ++ [b])) : rvF (f + 1) pre (b :: r) = none := by
  rw [rvF, if_pos h, if_pos h2]
theorem rvF_end (f : Nat) (pre : List UInt8) (b : UInt8) (r : List UInt8) (h : b.toNat < 128) (h2 : ¬ ((b.toNat = 0 ∧ 0 < pre.length) ∨ 1000000000 < val (pre ++ [b]))) : rvF (f + 1) pre (b :: r) = some (val (pre ++ [b]), pre.length + 1) := by
  rw [rvF, if_pos h, if_neg h2]

/-- Of what is read: the number is at most MaxNumber, and the bytes are there. -/
theorem rvF_some (f : Nat) (pre r : List UInt8) (n k : Nat) (h : rvF f pre r = some (n, k)) : n ≤ 1000000000 ∧ k ≤ pre.length + r.length := by
  induction f generalizing pre r with
  | zero => simp [rvF] at h
  | succ f ih =>
    cases r with
    | nil => simp [rvF] at h
    | cons b r =>
      by_cases hb : b.toNat < 128
      · by_cases h2 : (b.toNat = 0 ∧ 0 < pre.length) ∨ 1000000000 < val (pre ++ [b])
        · rw [rvF_bad f pre b r hb h2] at h; cases h
        · rw [rvF_end f pre b r hb h2] at h
          simp only [Option.some.injEq, Prod.mk.injEq] at h
          obtain ⟨rfl, rfl⟩ := h
          simp; omega
      · rw [rvF_on f pre b r (by omega)] at h
        have := ih _ _ h
        simp at this ⊢; omega

theorem drop_cons (l : List UInt8) (k : Nat) (h : k < l.length) : l.drop k = l[k] :: l.drop (k + 1) := by
  rw [List.drop_eq_getElem_cons h]

theorem Goes.snoc {l : List UInt8} {b : UInt8} (h : Goes l) (hb : 128 ≤ b.toNat) : Goes (l ++ [b]) := by
  intro c hc
  simp at hc
  rcases hc with hc | rfl
  · exact h c hc
  · exact hb

theorem mul_bound (c sc : Nat) (hc : c < 128) (hs : sc ≤ 268435456) : c * sc ≤ 34359738368 := by
  have := Nat.mul_le_mul (show c ≤ 128 by omega) hs
  omega
theorem mul_int (b c : Nat) : ((b % 128 * c : Nat) : Int) = (b : Int) % 128 * (c : Int) := by rw [Int.natCast_mul, Int.natCast_emod]; rfl
end Pl
end PartPlainB
section PartVrA
open Go.RowKit

theorem vb_round (n f m : Nat) (xs : List UInt8) (hf : m < 128 ^ (f + 1)) (he : xs ++ Pl.vb f m = Pl.vb 8 n) (h : 127 < m) :
    ∃ g, f = g + 1 ∧ m / 128 < 128 ^ (g + 1) ∧ (xs ++ [Pl.hb m]) ++ Pl.vb g (m / 128) = Pl.vb 8 n := by
  cases f with
  | zero => simp at hf; omega
  | succ g =>
    refine ⟨g, rfl, ?_, ?_⟩
    · rw [Nat.pow_succ] at hf; omega
    · rw [Pl.vb_more g m h] at he; simpa using he

set_option maxHeartbeats 400000 in
theorem l01Var_any (n : Nat) (w : World) (hn : n < 9223372036854775808) :
    Calls Tryz.prog 69 #[.int .i64 n] w fun e w' => e = .returned (.string ⟨(Pl.vb 8 n).toArray⟩) ∧ Below w.heap.size w w' := by
  go_enter Tryz.func69, Tryz.ntmps69
  go_wp2
  go_loopw [0, 3] (fun i v wr => ∃ (m f : Nat) (xs : List UInt8), i = .int .i64 m ∧ m < 9223372036854775808 ∧ Row w.heap.size wr v xs ∧ Below w.heap.size w wr ∧ Hid (m < 128 ^ (f + 1)) ∧ Hid (xs.length + f = 8) ∧ Hid (xs ++ Pl.vb f m = Pl.vb 8 n)) (fun i _ _ => (intOf i).toNat)
  case atStart => exact ⟨n, 8, [], rfl, hn, Row.made w #[] 0 (Nat.le_refl _) (by decide) rfl, (Below.refl _ _).alloc (Nat.le_refl _) _, hn, rfl, rfl⟩
  case round =>
    obtain ⟨m, f, xs, rfl, hm, hrow, hbel, H1, H2, H3⟩ := hrel
    have hsz := hbel.size
    have hxl : xs.length ≤ 8 := by have := H2.out; omega
    by_cases hlt : 127 < m
    · obtain ⟨g, hg, hq, hv⟩ := vb_round n f m xs H1.out H3.out hlt
      have HG : Hid (f = g + 1) := hg
      have HQ : Hid (m / 128 < 128 ^ (g + 1)) := hq
      have HV : Hid ((xs ++ [Pl.hb m]) ++ Pl.vb g (m / 128) = Pl.vb 8 n) := hv
      clear hg hq hv
      go_wp2_with (at_builtin; go_must (refine hrow.push rfl (.tmp 7) (.tmp 12) rfl rfl _ (Pl.hb m) ?hz rfl ?hl ?hb ?_))
      case hz => have := Pl.hb_nat m; omega
      case hl => omega
      case hb => omega
      · intro v' w1 hrow' hbel'
        go_wp2
        go_roundw
        case rel => exact ⟨m / 128, g, _, by go_num, by omega, hrow', hbel.trans hbel', HQ.out, by have h1 := H2.out; have h2 := HG.out; show _ = 8; simp; omega, HV.out⟩
        case measure => simp [intOf]; omega
    · go_wp2_with (at_builtin; go_must (refine hrow.push rfl (.tmp 16) (.tmp 19) rfl rfl _ (UInt8.ofNat m) ?hz2 rfl ?hl2 ?hb2 ?_))
      case hz2 => have := Pl.small m (by omega); omega
      case hl2 => omega
      case hb2 => omega
      · intro v' w1 hrow' hbel'
        have hst := hrow'.str
        go_wp2
        go_ret
        refine ⟨?_, hbel.trans hbel'⟩
        have h3 := H3.out
        rw [Pl.vb_last f m hlt] at h3
        rw [h3]
        rfl

theorem l01Var_int (z : Int) (w : World) (h0 : 0 ≤ z) (h1 : z < 9223372036854775808) :
    Calls Tryz.prog 69 #[.int .i64 z] w fun e w' => e = .returned (.string ⟨(Pl.vb 8 z.toNat).toArray⟩) ∧ Below w.heap.size w w' := by
  obtain ⟨n, rfl⟩ := Int.eq_ofNat_of_zero_le h0
  rw [Int.toNat_natCast]
  exact l01Var_any n w (by omega)

set_option maxHeartbeats 400000 in
theorem l01In_yes (x a b : Int) (w : World) (h1 : a ≤ x) (h2 : x ≤ b) :
    Calls Tryz.prog 49 #[.int .i64 x, .int .i64 a, .int .i64 b] w fun e w' => e = .returned (.bool true) ∧ w' = w := by
  have d2 : decide (x ≤ b) = true := by simpa using h2
  go_enter Tryz.func49, Tryz.ntmps49
  go_wp2
  go_ret
  exact ⟨rfl, rfl⟩
set_option maxHeartbeats 400000 in
theorem l01In_no (x a b : Int) (w : World) (h : x < a ∨ b < x) :
    Calls Tryz.prog 49 #[.int .i64 x, .int .i64 a, .int .i64 b] w fun e w' => e = .returned (.bool false) ∧ w' = w := by
  by_cases h1 : x < a
  · have d1 : decide (a ≤ x) = false := by simpa using h1
    clear h
    go_enter Tryz.func49, Tryz.ntmps49
    go_wp2
    go_ret
    exact ⟨rfl, rfl⟩
  · have h2 : b < x := by omega
    have d2 : decide (x ≤ b) = false := by simpa using h2
    clear h
    go_enter Tryz.func49, Tryz.ntmps49
    go_wp2
    go_ret
    exact ⟨rfl, rfl⟩

end PartVrA
end Go.Proofs.YtehagonaacbmiaaGreat
