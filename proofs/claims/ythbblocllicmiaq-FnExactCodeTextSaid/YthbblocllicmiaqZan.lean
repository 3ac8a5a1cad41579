/- The specification of CodeOk. The contract of the library's IndexByte, laid at this program; Index and Cut at one byte. -/
import Derived.Test.YthbblocllicmiaqCdB
import Derived.Shelf.Strings.Search1
import Derived.Test.YthbblocllicmiaqProg
import Derived.WalkKit
import Derived.WalkSpells
import Derived.WalkLawsBesides
import Derived.Handy
import Derived.Lib.Strings
import Derived.Lib.IndexLaws
import Derived.BigQuiet
import Derived.Deep.QuietTactic
import Derived.OwnWalk
namespace Go.Proofs.Ythbblocllicmiaq
section PartCdH
open Go.RowKit

namespace Cd
theorem ok_text {ts : List ByteArray} {xs : List Ins} {bg ln en : Int} {i : Nat} (hi : i < ts.length) (h : 30 < (ts.getD i ByteArray.empty).size) : ok ts xs bg ln en = false := by
  unfold ok
  have : ts.all (fun t => decide (t.size ≤ 30)) = false := by
    rw [List.all_eq_false]
    refine ⟨ts[i], List.getElem_mem _, ?_⟩
    rw [List.getD_eq_getElem?_getD, List.getElem?_eq_getElem hi] at h
    simpa using h
  rw [this, Bool.false_and]
theorem ok_rest {ts : List ByteArray} {xs : List Ins} {bg ln en : Int} (h : ∀ i, i < ts.length → (ts.getD i ByteArray.empty).size ≤ 30) : ok ts xs bg ln en =
    (decide (ts.length ≤ 60) && (decide (xs.length ≤ 250) && (decide (bg = 0) && (decide (0 ≤ ln ∧ ln ≤ (xs.length : Int)) && (decide (ln ≤ en ∧ en ≤ (xs.length : Int)) &&
  (part ts xs 0 ln.toNat && (part ts xs ln.toNat en.toNat && part ts xs en.toNat xs.length))))))) := by
  unfold ok
  have : ts.all (fun t => decide (t.size ≤ 30)) = true := by
    rw [List.all_eq_true]
    intro t ht
    obtain ⟨i, hi, e⟩ := List.mem_iff_getElem.1 ht
    have := h i hi
    rw [List.getD_eq_getElem?_getD, List.getElem?_eq_getElem hi] at this
    rw [← e]
    simpa using this
  rw [this, Bool.true_and]
end Cd

set_option maxHeartbeats 2000000 in
set_option maxRecDepth 100000 in
theorem spCodeOk (tv lv : Value) (bg ln en : Int) (ts : List ByteArray) (xs : List Ins) (w : World) (h : TsAt w tv ts) (hl : InsAt w lv xs) (hs : TsSmall ts ts.length) (hk : ts.length ≤ 1048576) (hx : xs.length ≤ 1048576) :
    Calls Try.prog 7 #[.agg #[tv, lv, .int .i64 bg, .int .i64 ln, .int .i64 en]] w fun e w' => e = .returned (.bool (Cd.ok ts xs bg ln en)) ∧ Below w.heap.size w w' := by
  obtain ⟨V, hV⟩ : ∃ V, V = Cd.ok ts xs bg ln en := ⟨_, rfl⟩
  rw [← hV]
  have HV : Hid (V = Cd.ok ts xs bg ln en) := hV
  clear hV
  have HT : Hid (∀ W, Below w.heap.size w W → TsAt W tv ts ∧ InsAt W lv xs) := fun W hb => ⟨h.keep hb, hl.keep hb⟩
  have HS : Hid (TsSmall ts ts.length) := hs
  obtain ⟨ta, tc, rfl, -⟩ := h
  obtain ⟨la, lc, rfl, -⟩ := hl
  clear hs
  obtain ⟨m, hm⟩ : ∃ m, m = xs.length := ⟨_, rfl⟩
  obtain ⟨n, hn⟩ : ∃ n, n = ts.length := ⟨_, rfl⟩
  have HM : Hid (m = xs.length ∧ n = ts.length) := ⟨hm, hn⟩
  rw [← hm] at hx
  rw [← hn] at hk
  rw [← hm, ← hn] at HT ⊢
  clear hm hn
  have HB0 : Hid (Below w.heap.size w (w.alloc (.cells #[.slice ta n tc, .slice la m lc, .int .i64 bg, .int .i64 ln, .int .i64 en] 30))) := (Below.refl _ _).alloc (Nat.le_refl _) _
  have HR0 : Hid ((w.alloc (.cells #[.slice ta n tc, .slice la m lc, .int .i64 bg, .int .i64 ln, .int .i64 en] 30)).heap[w.heap.size]? = some (.cells #[.slice ta n tc, .slice la m lc, .int .i64 bg, .int .i64 ln, .int .i64 en] 30 (0, 0))) := heap_alloc_new _ _
  have hz : w.heap.size < (w.alloc (.cells #[.slice ta n tc, .slice la m lc, .int .i64 bg, .int .i64 ln, .int .i64 en] 30)).heap.size := by simp
  go_enter Try.func7, Try.ntmps7
  go_wp2
  generalize w.alloc (.cells #[.slice ta n tc, .slice la m lc, .int .i64 bg, .int .i64 ln, .int .i64 en] 30) = W0 at *
  have q0 := blk_cell HR0.out 0
  have q1 := blk_cell HR0.out 1
  have q2 := blk_cell HR0.out 2
  have q3 := blk_cell HR0.out 3
  have q4 := blk_cell HR0.out 4
  simp only [List.getElem?_toArray, List.getElem?_cons_zero, List.getElem?_cons_succ] at q0 q1 q2 q3 q4
  go_loop [3] (fun i => ∃ j : Nat, i = .int .i64 (j : Int) ∧ j ≤ n ∧ Hid (∀ k, k < j → (ts.getD k ByteArray.empty).size ≤ 30)) (fun i => n - (intOf i).toNat)
  case atStart => exact ⟨0, rfl, by omega, fun k hk => by omega⟩
  case round =>
    obtain ⟨j, rfl, hj, HJ⟩ := hrel
    by_cases hlt : j < n
    · have d0 : decide ((j : Int) < (n : Int)) = true := decide_eq_true (by omega)
      have hj1 : (j : Int) < (n : Int) := by omega
      obtain ⟨b, o, rfl, c0⟩ := (HT.out _ HB0.out).1.cell HM.out.2 hlt
      have hsm := HS.out j (by rw [← HM.out.2]; exact hlt)
      have HTX : Hid (30 < (ts.getD j ByteArray.empty).size → V = false) := fun h => HV.out.trans (Cd.ok_text (by rw [← HM.out.2]; exact hlt) h)
      have HJ2 : Hid ((ts.getD j ByteArray.empty).size ≤ 30 → ∀ k, k < j + 1 → (ts.getD k ByteArray.empty).size ≤ 30) := fun h k hk => by
        by_cases e : k = j
        · subst e; exact h
        · exact HJ.out k (by omega)
      clear HJ
      generalize ts.getD j ByteArray.empty = t at *
      by_cases h30 : 30 < t.size
      · have d1 : decide ((30 : Int) < (t.size : Int)) = true := decide_eq_true (by omega)
        have HF : Hid (V = false) := HTX.out h30
        clear HTX HJ2
        go_wp2
        go_ret
        exact ⟨by rw [HF.out]; rfl, HB0.out⟩
      · have d1 : decide ((30 : Int) < (t.size : Int)) = false := decide_eq_false (by omega)
        have HJ3 : Hid _ := HJ2.out (by omega)
        clear HTX HJ2
        go_wp2
        go_round
        case rel => exact ⟨j + 1, by go_num, by omega, HJ3.out⟩
        case measure => simp [intOf]; omega
    · obtain rfl : j = n := by omega
      have d0 : decide ((j : Int) < (j : Int)) = false := decide_eq_false (by omega)
      have HV2 : Hid (V = (decide (j ≤ 60) && (decide (m ≤ 250) && (decide (bg = 0) && (decide (0 ≤ ln ∧ ln ≤ (m : Int)) && (decide (ln ≤ en ∧ en ≤ (m : Int)) &&
          (Cd.part ts xs 0 ln.toNat && (Cd.part ts xs ln.toNat en.toNat && Cd.part ts xs en.toNat m)))))))) := by
        show _ = _
        rw [HV.out, HM.out.1, HM.out.2]
        exact Cd.ok_rest (fun i hi => HJ.out i (by rw [HM.out.2]; exact hi))
      clear HV HJ
      by_cases h60 : j ≤ 60
      · have e60 : decide ((60 : Int) < (j : Int)) = false := decide_eq_false (by omega)
        rw [decide_eq_true h60, Bool.true_and] at HV2
        by_cases h250 : m ≤ 250
        · have e250 : decide ((250 : Int) < (m : Int)) = false := decide_eq_false (by omega)
          rw [decide_eq_true h250, Bool.true_and] at HV2
          by_cases hbg : bg = 0
          · subst hbg
            rw [decide_eq_true rfl, Bool.true_and] at HV2
            obtain ⟨A, hA⟩ : ∃ A, A = decide (0 ≤ ln ∧ ln ≤ (m : Int)) := ⟨_, rfl⟩
            obtain ⟨B, hB⟩ : ∃ B, B = decide (ln ≤ en ∧ en ≤ (m : Int)) := ⟨_, rfl⟩
            rw [← hA, ← hB] at HV2
            have CA : Hid (∀ W, Calls Try.prog 19 #[.int .i64 ln, .int .i64 0, .int .i64 (m : Int)] W fun e w' => e = .returned (.bool A) ∧ w' = W) := fun W => by rw [hA]; exact sIn_any _ _ _ W
            have CB : Hid (∀ W, Calls Try.prog 19 #[.int .i64 en, .int .i64 ln, .int .i64 (m : Int)] W fun e w' => e = .returned (.bool B) ∧ w' = W) := fun W => by rw [hB]; exact sIn_any _ _ _ W
            have HAB : Hid (A = true → B = true → 0 ≤ ln ∧ ln ≤ en ∧ en ≤ (m : Int)) := fun h1 h2 => by
              have a1 := of_decide_eq_true (hA.symm.trans h1)
              have a2 := of_decide_eq_true (hB.symm.trans h2)
              omega
            clear hA hB
            go_wp2_with fail
            refine (CA.out _).mono ?_
            rintro e w2 ⟨rfl, hw2⟩
            rw [hw2]
            clear hw2 CA w2
            cases A
            · have HF : Hid (V = false) := by rw [Bool.false_and] at HV2; exact HV2
              clear HV2 HAB CB
              go_wp2
              go_ret
              exact ⟨by rw [HF.out]; rfl, HB0.out⟩
            rw [Bool.true_and] at HV2
            go_wp2_with fail
            refine (CB.out _).mono ?_
            rintro e w2 ⟨rfl, hw2⟩
            rw [hw2]
            clear hw2 CB w2
            cases B
            · have HF : Hid (V = false) := by rw [Bool.false_and] at HV2; exact HV2
              clear HV2 HAB
              go_wp2
              go_ret
              exact ⟨by rw [HF.out]; rfl, HB0.out⟩
            rw [Bool.true_and] at HV2
            obtain ⟨h1, h2, h3⟩ := HAB.out (by simp) (by simp)
            obtain ⟨l, rfl⟩ : ∃ l : Nat, ln = (l : Int) := ⟨ln.toNat, by omega⟩
            obtain ⟨u, rfl⟩ : ∃ u : Nat, en = (u : Int) := ⟨en.toNat, by omega⟩
            rw [Int.toNat_natCast, Int.toNat_natCast] at HV2
            have CP : Hid (∀ W (f t : Nat), Below w.heap.size w W → f ≤ t → t ≤ m → Calls Try.prog 20 #[.agg #[.slice ta j tc, .slice la m lc, .int .i64 0, .int .i64 (l : Int), .int .i64 (u : Int)], .int .i64 (f : Int), .int .i64 (t : Int)] W fun e w' => e = .returned (.bool (Cd.part ts xs f t)) ∧ Below W.heap.size W w') := fun W f t hb hf ht =>
              spPart _ _ 0 l u ts xs f t W (HT.out W hb).1 (HT.out W hb).2 HS.out (by rw [← HM.out.2]; exact h60) (by rw [← HM.out.1]; exact h250) hf (by rw [← HM.out.1]; exact ht)
            have P0 : Hid (∀ W, Below w.heap.size w W → Calls Try.prog 20 #[.agg #[.slice ta j tc, .slice la m lc, .int .i64 0, .int .i64 (l : Int), .int .i64 (u : Int)], .int .i64 0, .int .i64 (l : Int)] W fun e w' => e = .returned (.bool (Cd.part ts xs 0 l)) ∧ Below W.heap.size W w') := fun W hb => CP.out W 0 l hb (by omega) (by omega)
            have P1 : Hid (∀ W, Below w.heap.size w W → Calls Try.prog 20 #[.agg #[.slice ta j tc, .slice la m lc, .int .i64 0, .int .i64 (l : Int), .int .i64 (u : Int)], .int .i64 (l : Int), .int .i64 (u : Int)] W fun e w' => e = .returned (.bool (Cd.part ts xs l u)) ∧ Below W.heap.size W w') := fun W hb => CP.out W l u hb (by omega) (by omega)
            have P2 : Hid (∀ W, Below w.heap.size w W → Calls Try.prog 20 #[.agg #[.slice ta j tc, .slice la m lc, .int .i64 0, .int .i64 (l : Int), .int .i64 (u : Int)], .int .i64 (u : Int), .int .i64 (m : Int)] W fun e w' => e = .returned (.bool (Cd.part ts xs u m)) ∧ Below W.heap.size W w') := fun W hb => CP.out W u m hb (by omega) (by omega)
            generalize Cd.part ts xs 0 l = V0 at *
            generalize Cd.part ts xs l u = V1 at *
            generalize Cd.part ts xs u m = V2 at *
            clear CP HAB HM HS HT
            go_wp2_with fail
            refine (P0.out _ HB0.out).mono ?_
            rintro e w2 ⟨rfl, hb2⟩
            have HB2 : Hid (Below w.heap.size w w2) := HB0.out.trans (hb2.mono HB0.out.size)
            have R2 := (hb2.block _ hz).trans HR0.out
            have hz2 : w.heap.size < w2.heap.size := Nat.lt_of_lt_of_le hz hb2.size
            have HR2 : Hid _ := R2
            clear q0 q1 q2 q3 q4 hb2 P0 HR0 HB0 hz R2
            cases V0
            · have HF : Hid (V = false) := by rw [Bool.false_and] at HV2; exact HV2
              clear HV2 P1 P2
              go_wp2
              go_ret
              exact ⟨by rw [HF.out]; rfl, HB2.out⟩
            rw [Bool.true_and] at HV2
            have q0 := blk_cell HR2.out 0
            have q1 := blk_cell HR2.out 1
            have q2 := blk_cell HR2.out 2
            have q3 := blk_cell HR2.out 3
            have q4 := blk_cell HR2.out 4
            simp only [List.getElem?_toArray, List.getElem?_cons_zero, List.getElem?_cons_succ] at q0 q1 q2 q3 q4
            go_wp2_with fail
            refine (P1.out _ HB2.out).mono ?_
            rintro e w3 ⟨rfl, hb3⟩
            have HB3 : Hid (Below w.heap.size w w3) := HB2.out.trans (hb3.mono HB2.out.size)
            have R3 := (hb3.block _ hz2).trans HR2.out
            have HR3 : Hid _ := R3
            clear q0 q1 q2 q3 q4 hb3 P1 HR2 HB2 hz2 R3
            cases V1
            · have HF : Hid (V = false) := by rw [Bool.false_and] at HV2; exact HV2
              clear HV2 P2
              go_wp2
              go_ret
              exact ⟨by rw [HF.out]; rfl, HB3.out⟩
            rw [Bool.true_and] at HV2
            have q0 := blk_cell HR3.out 0
            have q1 := blk_cell HR3.out 1
            have q2 := blk_cell HR3.out 2
            have q3 := blk_cell HR3.out 3
            have q4 := blk_cell HR3.out 4
            simp only [List.getElem?_toArray, List.getElem?_cons_zero, List.getElem?_cons_succ] at q0 q1 q2 q3 q4
            go_wp2_with fail
            refine (P2.out _ HB3.out).mono ?_
            rintro e w4 ⟨rfl, hb4⟩
            have HB4 : Hid (Below w.heap.size w w4) := HB3.out.trans (hb4.mono HB3.out.size)
            clear q0 q1 q2 q3 q4 hb4 P2
            go_wp2
            go_ret
            exact ⟨by rw [HV2.out]; rfl, HB4.out⟩
          · have HF : Hid (V = false) := by rw [decide_eq_false hbg, Bool.false_and] at HV2; exact HV2
            have e0 : (bg != 0) = true := by simpa using hbg
            clear HV2 hbg
            go_wp2
            go_ret
            exact ⟨by rw [HF.out]; rfl, HB0.out⟩
        · have HF : Hid (V = false) := by rw [decide_eq_false h250, Bool.false_and] at HV2; exact HV2
          have e250 : decide ((250 : Int) < (m : Int)) = true := decide_eq_true (by omega)
          clear HV2
          go_wp2
          go_ret
          exact ⟨by rw [HF.out]; rfl, HB0.out⟩
      · have HF : Hid (V = false) := by rw [decide_eq_false h60, Bool.false_and] at HV2; exact HV2
        have e60 : decide ((60 : Int) < (j : Int)) = true := decide_eq_true (by omega)
        clear HV2
        go_wp2
        go_ret
        exact ⟨by rw [HF.out]; rfl, HB0.out⟩
end PartCdH
section PartShelfP
open Go.Shelf
def Try.lays217_ren : Go.Shelf.Ren := ⟨fun | 217 => 99 | 266 => 105 | n => n, fun | 9 => 9 | 5 => 5 | 3 => 3 | n => n, fun | n => n⟩
set_option maxRecDepth 100000 in
theorem Try.lays217 : Go.Proofs.Lays.n217 Try.prog Try.lays217_ren := {
  mixed := by kernel_rfl
  f217 := Try.func99.trans (congrArg some (by kernel_rfl))
  f266 := Try.func105.trans (congrArg some (by kernel_rfl))
  t3 := Try.underlying3
  a3 := Try.isAgg3
  z3 := Try.sizeOf3
  v3 := Try.zeroValue3
  t5 := Try.underlying5
  a5 := Try.isAgg5
  z5 := Try.sizeOf5
  v5 := Try.zeroValue5
  t9 := Try.underlying9
  a9 := Try.isAgg9
  z9 := Try.sizeOf9
  v9 := Try.zeroValue9 }
set_option maxRecDepth 100000 in
open Go.RowKit Go.Lib in
theorem Try.stringslite_IndexByte (s : ByteArray) (c : Int) (w : World) :
    Calls Try.prog 99 #[.string s, .int .u8 c] w fun e w' => e = .returned (.int .i64 (Lib.indexByte s.data.toList c.toNat.toUInt8)) ∧ w' = w := Any.stringslite_IndexByte Try.lays217 s c w
open Go.RowKit

theorem toU8 (c : UInt8) : ((c.toNat : Int)).toNat.toUInt8 = c := by simp

set_option maxRecDepth 100000 in
set_option maxHeartbeats 400000 in
theorem indexByte_any (s : ByteArray) (c : UInt8) (w : World) :
    Calls Try.prog 93 #[.string s, .int .u8 (c.toNat : Int)] w fun e w' => e = .returned (.int .i64 (Lib.indexByte s.data.toList c)) ∧ w' = w := by
  have C : Hid (∀ w, Calls Try.prog 99 #[.string s, .int .u8 (c.toNat : Int)] w fun e w' => e = .returned (.int .i64 (Lib.indexByte s.data.toList c)) ∧ w' = w) := by
    intro w
    have := Try.stringslite_IndexByte s (c.toNat : Int) w
    rwa [toU8] at this
  go_enter Try.func93, Try.ntmps93
  go_wp2_with (go_at_call 99; refine (C.out _).mono ?_; rintro e w' ⟨rfl, rfl⟩)
  go_ret
  exact ⟨rfl, rfl⟩

set_option maxRecDepth 100000 in
set_option maxHeartbeats 400000 in
theorem index93_any (s : ByteArray) (w : World) :
    Calls Try.prog 108 #[.string s, .string ⟨#[93]⟩] w fun e w' => e = .returned (.int .i64 (Lib.indexByte s.data.toList 93)) ∧ w' = w := by
  have C : Hid (∀ w, Calls Try.prog 99 #[.string s, .int .u8 93] w fun e w' => e = .returned (.int .i64 (Lib.indexByte s.data.toList 93)) ∧ w' = w) := fun w => Try.stringslite_IndexByte s 93 w
  go_enter Try.func108, Try.ntmps108
  go_wp2_with (go_at_call 99; refine (C.out _).mono ?_; rintro e w' ⟨rfl, rfl⟩)
  · have h : ([93] == s.toList) = true := by assumption
    go_ret
    refine ⟨?_, rfl⟩
    have e : s.data.toList = [93] := by rw [← Lib.toList_data]; exact (beq_iff_eq.1 h).symm
    rw [e]
    simp [Lib.indexByte]
  · go_ret
    exact ⟨rfl, rfl⟩

set_option maxRecDepth 100000 in
set_option maxHeartbeats 400000 in
/-- Cut at the sign that closes a set. -/
theorem cut93_any (s : ByteArray) (w : World) (hs : s.size ≤ 1000000) :
    Calls Try.prog 106 #[.string s, .string ⟨#[93]⟩] w fun e w' => (∃ k, w' = w.drewN k) ∧
      ((Lib.indexByte s.data.toList 93 = -1 ∧ e = .returned (.tuple #[.string s, .string ⟨#[]⟩, .bool false])) ∨
       ∃ i : Nat, Lib.indexByte s.data.toList 93 = (i : Int) ∧ i < s.size ∧ e = .returned (.tuple #[.string (s.extract 0 i), .string (s.extract (i + 1) s.size), .bool true])) := by
  obtain ⟨z, hz⟩ : ∃ z, z = Lib.indexByte s.data.toList 93 := ⟨_, rfl⟩
  have C : Hid (∀ w, Calls Try.prog 108 #[.string s, .string ⟨#[93]⟩] w fun e w' => e = .returned (.int .i64 z) ∧ w' = w) := fun w => by rw [hz]; exact index93_any s w
  have HZ : Hid (z = Lib.indexByte s.data.toList 93) := hz
  have hge := Lib.indexByte_ge s.data.toList 93
  rw [← hz] at hge
  by_cases hm : z = -1
  · have HM : Hid (Lib.indexByte s.data.toList 93 = -1) := by show _ = _; rw [← hz]; exact hm
    clear hz
    subst hm
    have D : Hid (∀ w, Calls Try.prog 107 #[.string s, .string ⟨#[93]⟩] w fun e w' => e = .returned (.tuple #[.string s, .string ⟨#[]⟩, .bool false]) ∧ ∃ k, w' = w.drewN k) := by
      intro w
      go_enter Try.func107, Try.ntmps107
      go_wp2_with fail
      refine (C.out _).mono ?_
      rintro e w1 ⟨rfl, rfl⟩
      go_wp2
      (try simp only [Exit.inBlock, Exit.then])
      refine bodyPost_ret (results_tmp3 rfl _ _ _) rfl ?_
      exact ⟨rfl, 0, rfl⟩
    go_enter Try.func106, Try.ntmps106
    go_wp2_with fail
    refine (D.out _).mono ?_
    rintro e w1 ⟨rfl, k, rfl⟩
    go_wp2
    (try simp only [Exit.inBlock, Exit.then])
    refine bodyPost_ret (results_tmp3 rfl _ _ _) rfl ?_
    exact ⟨⟨k, rfl⟩, .inl ⟨HM.out, rfl⟩⟩
  · obtain ⟨i, hi⟩ : ∃ i : Nat, z = (i : Int) := ⟨z.toNat, by omega⟩
    have hlt : i < s.size := by
      have := (Lib.indexByte_some (hz.symm.trans hi)).1
      have := (List.getElem?_eq_some_iff.1 this).1
      simpa using this
    have HI : Hid (Lib.indexByte s.data.toList 93 = (i : Int)) := hz.symm.trans hi
    clear hz hm HZ hge
    subst hi
    have i1 : (i : Int) ≤ (s.size : Int) := by omega
    have i2 : (i : Int) + 1 ≤ (s.size : Int) := by omega
    have D : Hid (∀ w, Calls Try.prog 107 #[.string s, .string ⟨#[93]⟩] w fun e w' => e = .returned (.tuple #[.string (s.extract 0 i), .string (s.extract (i + 1) s.size), .bool true]) ∧ ∃ k, w' = w.drewN k) := by
      intro w
      go_enter Try.func107, Try.ntmps107
      go_wp2_with fail
      refine (C.out _).mono ?_
      rintro e w1 ⟨rfl, rfl⟩
      go_wp2_with fail
      go_quiet (fail)
      go_wp2
      (try simp only [Exit.inBlock, Exit.then])
      refine bodyPost_ret (results_tmp3 rfl _ _ _) rfl ?_
      exact ⟨rfl, _, rfl⟩
    go_enter Try.func106, Try.ntmps106
    go_wp2_with fail
    refine (D.out _).mono ?_
    rintro e w1 ⟨rfl, k, rfl⟩
    go_wp2
    (try simp only [Exit.inBlock, Exit.then])
    refine bodyPost_ret (results_tmp3 rfl _ _ _) rfl ?_
    exact ⟨⟨k, rfl⟩, .inr ⟨i, HI.out, hlt, rfl⟩⟩
end PartShelfP
end Go.Proofs.Ythbblocllicmiaq
