/- The program's CodeOk: is an instruction right? bits.Mul and cmp.Less slices.Repeat of one number. The program's CodeOk: heights of the stack. -/
import Derived.Test.YtehagonaacbmiaaGreatMPRjZav
import Derived.Shelf.Small.Utf8
import Derived.Shelf.Small.Strs
import Derived.Shelf.LaysM
import Derived.Shelf.Strconv.Clone
import Derived.Shelf.Strings.Search1
import Derived.Shelf.Strings.Search2
import Derived.Shelf.Strings.Cut
import Derived.Shelf.Strings.Shaped
import Derived.Shelf.Strings.Runes
import Derived.Shelf.Bits.Mul64
import Derived.Ground.Names2Prog
import Derived.Shelf.Slices.SearchI
import Derived.Test.YtehagonaacbmiaaGreatProg
import Derived.Test.YtehagonaacbmiaaGreatMPRjZaa
import Derived.Laws.CopyOwn
import Derived.Deep.RegionLaw
import Derived.Test.YtehagonaacbmiaaGreatMPRjCdB
namespace Go.Proofs.YtehagonaacbmiaaGreat
section PartCdE
open Go.RowKit

namespace Cd
theorem ins_named {ts : List ByteArray} {x : Ins} {a to : Int} (h : named x.op = true) (h1 : ts.length ≤ 255) :
    ins ts x a to = (decide (0 ≤ x.arg) && (decide (x.arg < (ts.length : Int)) && fits x.op (text ts x.arg).data.toList)) := by
  have h := of_decide_eq_true h
  unfold ins
  rw [decide_eq_true (by omega), Bool.true_and]
  by_cases hr : 0 ≤ x.arg ∧ x.arg < (ts.length : Int)
  · rw [decide_eq_true (by omega), decide_eq_true hr.1, Bool.true_and, Bool.true_and]
    unfold arg fits
    by_cases e1 : x.op = 1
    · rw [if_pos e1, if_pos e1, Bool.and_true]
    · rw [if_neg e1, if_neg e1]
      by_cases e2 : x.op = 15
      · rw [if_pos e2, if_pos e2]
      · rw [if_neg e2, if_neg e2, if_pos (by omega)]
  · have hR : (decide (0 ≤ x.arg) && (decide (x.arg < (ts.length : Int)) && fits x.op (text ts x.arg).data.toList)) = false := by
      by_cases h0 : 0 ≤ x.arg
      · rw [decide_eq_false (show ¬ x.arg < (ts.length : Int) by omega), Bool.false_and, Bool.and_false]
      · rw [decide_eq_false h0, Bool.false_and]
    rw [hR]
    by_cases h0 : 0 ≤ x.arg
    · have hlt : decide (x.arg < (ts.length : Int)) = false := decide_eq_false (by omega)
      unfold arg
      rw [hlt, Bool.false_and, Bool.false_and]
      split
      · exact Bool.and_false _
      · split
        · exact Bool.and_false _
        · rw [if_pos (by omega)]; exact Bool.and_false _
    · rw [decide_eq_false (by omega), Bool.false_and]
theorem ins_print {ts : List ByteArray} {x : Ins} {a to : Int} (h : x.op = 16) : ins ts x a to = (decide (1 ≤ x.arg) && decide (x.arg ≤ 4)) := by
  unfold ins arg
  rw [decide_eq_true (by omega), Bool.true_and, if_neg (by omega), if_neg (by omega), if_neg (by omega), if_pos h]
  by_cases h1 : 1 ≤ x.arg <;> by_cases h2 : x.arg ≤ 4
  · rw [decide_eq_true (by omega), decide_eq_true (by omega), decide_eq_true (by omega), decide_eq_true (by omega)]
  · rw [decide_eq_false (show ¬ (1 ≤ x.arg ∧ x.arg ≤ 4) by omega), decide_eq_false h2, Bool.and_false, Bool.and_false]
  · rw [decide_eq_false (show ¬ (1 ≤ x.arg ∧ x.arg ≤ 4) by omega), decide_eq_false h1, Bool.and_false, Bool.false_and]
  · rw [decide_eq_false (show ¬ (1 ≤ x.arg ∧ x.arg ≤ 4) by omega), decide_eq_false h1, Bool.and_false, Bool.false_and]
theorem ins_jump {ts : List ByteArray} {x : Ins} {a to : Int} (h : x.op = 21 ∨ x.op = 22) (h2 : 0 ≤ a) (h3 : to ≤ 255) : ins ts x a to = (decide (a < x.arg) && decide (x.arg ≤ to)) := by
  unfold ins arg
  rw [decide_eq_true (by omega), Bool.true_and, if_neg (by omega), if_neg (by omega), if_neg (by omega), if_neg (by omega), if_pos h]
  by_cases h4 : a < x.arg <;> by_cases h5 : x.arg ≤ to
  · rw [decide_eq_true (by omega), decide_eq_true (by omega), decide_eq_true (by omega)]; rfl
  · rw [decide_eq_false h5, Bool.and_false, Bool.and_false]
  · rw [decide_eq_false h4, Bool.false_and, Bool.and_false]
  · rw [decide_eq_false h4, Bool.false_and, Bool.and_false]
theorem ins_else {ts : List ByteArray} {x : Ins} {a to : Int} (h : named x.op = false) (h1 : x.op ≠ 16) (h2 : x.op ≠ 21) (h3 : x.op ≠ 22) :
    ins ts x a to = (decide (1 ≤ x.op) && (decide (x.op ≤ 24) && decide (x.arg = 0))) := by
  have h := of_decide_eq_false h
  unfold ins arg
  rw [if_neg (by omega), if_neg (by omega), if_neg (by omega), if_neg (by omega), if_neg (by omega)]
  by_cases h4 : 1 ≤ x.op <;> by_cases h5 : x.op ≤ 24
  · rw [decide_eq_true (by omega), decide_eq_true h4, decide_eq_true h5]
    by_cases h6 : x.arg = 0
    · rw [decide_eq_true (by omega), decide_eq_true h6]; rfl
    · rw [decide_eq_false h6]; simp
  · rw [decide_eq_false (show ¬ (1 ≤ x.op ∧ x.op ≤ 24) by omega), decide_eq_false h5]; simp
  · rw [decide_eq_false (show ¬ (1 ≤ x.op ∧ x.op ≤ 24) by omega), decide_eq_false h4]; simp
  · rw [decide_eq_false (show ¬ (1 ≤ x.op ∧ x.op ≤ 24) by omega), decide_eq_false h4]; simp
end Cd

set_option maxHeartbeats 8000000 in
set_option maxRecDepth 100000 in
theorem instrOk_any (tv lv : Value) (bg ln en : Int) (ts : List ByteArray) (xs : List Ins) (a to : Nat) (w : World) (h : TsAt w tv ts) (hl : InsAt w lv xs) (hs : TsSmall ts ts.length) (hk : ts.length ≤ 60) (ha : a < xs.length) (hto : to ≤ 250) :
    Calls Tryz.prog 88 #[.agg #[tv, lv, .int .i64 bg, .int .i64 ln, .int .i64 en], .int .i64 (a : Int), .int .i64 (to : Int)] w fun e w' => e = .returned (.bool (Cd.ins ts (xs.getD a Ins.no) (a : Int) (to : Int))) ∧ Below w.heap.size w w' := by
  have HT : Hid (∀ z, z < ts.length → ∃ b o, (∃ c, tv = .slice (some ⟨b, o, none⟩) ts.length c) ∧ b < w.heap.size ∧ w.cell? ⟨b, o + z, none⟩ = some (.string (ts.getD z ByteArray.empty)) ∧ (ts.getD z ByteArray.empty).size ≤ 1048576) := by
    intro z hz
    have h2 := h
    obtain ⟨ad, c, rfl, -⟩ := h
    obtain ⟨b, o, rfl, hc⟩ := h2.cell rfl hz
    exact ⟨b, o, ⟨c, rfl⟩, World.block_lt_of_cell? w _ hc, hc, hs z hz⟩
  have hl2 := hl
  obtain ⟨ta, tc, rfl, -⟩ := h
  obtain ⟨la, lc, rfl, -⟩ := hl
  obtain ⟨lb, lo, rfl, hlb, x0, x1⟩ := hl2.cell rfl ha
  clear hl2 hs
  obtain ⟨n, hn⟩ : ∃ n, n = ts.length := ⟨_, rfl⟩
  obtain ⟨m, hm⟩ : ∃ m, m = xs.length := ⟨_, rfl⟩
  have HN : Hid (n = ts.length) := hn
  rw [← hn] at HT hk ⊢
  rw [← hm] at ha ⊢
  clear hn hm
  generalize xs.getD a Ins.no = x at *
  obtain ⟨V, hV⟩ : ∃ V, V = Cd.ins ts x (a : Int) (to : Int) := ⟨_, rfl⟩
  rw [← hV]
  have HV : Hid (V = Cd.ins ts x (a : Int) (to : Int)) := hV
  clear hV
  obtain ⟨op, arg⟩ := x
  simp only at x0 x1
  have HA : Hid (Below w.heap.size w (w.alloc (.cells #[.slice ta n tc, .slice (some ⟨lb, lo, none⟩) m lc, .int .i64 bg, .int .i64 ln, .int .i64 en] 36))) := (Below.refl _ _).alloc (Nat.le_refl _) _
  have y0 : (w.alloc (.cells #[.slice ta n tc, .slice (some ⟨lb, lo, none⟩) m lc, .int .i64 bg, .int .i64 ln, .int .i64 en] 36)).cell? ⟨lb, lo + a * 2, none⟩ = some (.int .i64 op) := (HA.out.cell hlb).trans x0
  have y1 : (w.alloc (.cells #[.slice ta n tc, .slice (some ⟨lb, lo, none⟩) m lc, .int .i64 bg, .int .i64 ln, .int .i64 en] 36)).cell? ⟨lb, lo + a * 2 + 1, none⟩ = some (.int .i64 arg) := (HA.out.cell hlb).trans x1
  have ha1 : (a : Int) < (m : Int) := by omega
  obtain ⟨N, hN⟩ : ∃ N, N = Cd.named op := ⟨_, rfl⟩
  have CN : Hid (∀ w, Calls Tryz.prog 99 #[.int .i64 op] w fun e w' => e = .returned (.bool N) ∧ w' = w) := fun w => by rw [hN]; exact namesText_any op w
  clear x0 x1
  cases N
  · by_cases h16 : op = 16
    · subst h16
      obtain ⟨A, hA⟩ : ∃ A, A = decide ((1 : Int) ≤ arg) := ⟨_, rfl⟩
      obtain ⟨B, hB⟩ : ∃ B, B = decide (arg ≤ (4 : Int)) := ⟨_, rfl⟩
      have HV2 : Hid (V = (A && B)) := by show _ = _; rw [HV.out, Cd.ins_print rfl, hA, hB]
      have hA2 := hA.symm
      have hB2 := hB.symm
      clear hA hB HV HT hN
      cases A <;> cases B
      all_goals
        go_enter Tryz.func88, Tryz.ntmps88
        go_wp2_with fail
        go_quiet (fail)
        go_wp2_with (go_at_call 99; refine (CN.out _).mono ?_; rintro e w2 ⟨rfl, rfl⟩)
        go_ret
        exact ⟨by rw [HV2.out]; rfl, below_drewN HA.out _⟩
    · by_cases hj : op = 21 ∨ op = 22
      · obtain ⟨A, hA⟩ : ∃ A, A = decide ((a : Int) < arg) := ⟨_, rfl⟩
        obtain ⟨B, hB⟩ : ∃ B, B = decide (arg ≤ (to : Int)) := ⟨_, rfl⟩
        have HV2 : Hid (V = (A && B)) := by show _ = _; rw [HV.out, Cd.ins_jump hj (by omega) (by omega), hA, hB]
        have hA2 := hA.symm
        have hB2 := hB.symm
        clear hA hB HV HT hN h16
        rcases hj with rfl | rfl
        all_goals
          cases A <;> cases B
          all_goals
            go_enter Tryz.func88, Tryz.ntmps88
            go_wp2_with fail
            go_quiet (fail)
            go_wp2_with (go_at_call 99; refine (CN.out _).mono ?_; rintro e w2 ⟨rfl, rfl⟩)
            go_ret
            exact ⟨by rw [HV2.out]; rfl, below_drewN HA.out _⟩
      · obtain ⟨A, hA⟩ : ∃ A, A = decide ((1 : Int) ≤ op) := ⟨_, rfl⟩
        obtain ⟨B, hB⟩ : ∃ B, B = decide (op ≤ (24 : Int)) := ⟨_, rfl⟩
        obtain ⟨C, hC⟩ : ∃ C, C = (arg == 0) := ⟨_, rfl⟩
        have HV2 : Hid (V = (A && (B && C))) := by
          show _ = _
          rw [HV.out, Cd.ins_else hN.symm h16 (by simp only; omega) (by simp only; omega), hA, hB, hC]
          simp only
          rw [show decide (arg = 0) = (arg == 0) by rw [Bool.eq_iff_iff]; simp]
        have hA2 := hA.symm
        have hB2 := hB.symm
        have hC2 := hC.symm
        have e16 : (op == 16) = false := beq_eq_false_iff_ne.2 h16
        have e21 : (op == 21) = false := beq_eq_false_iff_ne.2 (by omega)
        have e22 : (op == 22) = false := beq_eq_false_iff_ne.2 (by omega)
        clear hA hB hC HV HT hN h16 hj
        cases A <;> cases B <;> cases C
        all_goals
          go_enter Tryz.func88, Tryz.ntmps88
          go_wp2_with fail
          go_quiet (fail)
          go_wp2_with (go_at_call 99; refine (CN.out _).mono ?_; rintro e w2 ⟨rfl, rfl⟩)
          go_ret
          exact ⟨by rw [HV2.out]; rfl, below_drewN HA.out _⟩
  · have HV2 : Hid (V = (decide (0 ≤ arg) && (decide (arg < (n : Int)) && Cd.fits op (Cd.text ts arg).data.toList))) := by
      show _ = _
      rw [HV.out, Cd.ins_named hN.symm (by rw [← HN.out]; omega), HN.out]
    clear HV hN
    by_cases h0 : 0 ≤ arg
    · obtain ⟨z, rfl⟩ : ∃ z : Nat, arg = (z : Int) := ⟨arg.toNat, by omega⟩
      by_cases hz : z < n
      · obtain ⟨b, o, ⟨c, e⟩, hb, hc, hsz⟩ := HT.out z hz
        simp only [Value.slice.injEq] at e
        obtain ⟨rfl, -, rfl⟩ := e
        have HV3 : Hid (V = Cd.fits op (ts.getD z ByteArray.empty).data.toList) := by
          show _ = _
          rw [HV2.out, decide_eq_true h0, decide_eq_true (by omega), Bool.true_and, Bool.true_and, Cd.text, Int.toNat_natCast]
        generalize ts.getD z ByteArray.empty = t at *
        have CF : Hid (∀ w, Calls Tryz.prog 100 #[.int .i64 op, .string t] w fun e w' => e = .returned (.bool V) ∧ Below w.heap.size w w') := fun w => by rw [HV3.out]; exact textFits_any op t w hsz
        have d1 : decide ((z : Int) < (n : Int)) = true := decide_eq_true (by omega)
        have d0 : decide ((0 : Int) ≤ (z : Int)) = true := decide_eq_true h0
        have hz1 : (z : Int) < (n : Int) := by omega
        have y2 := (HA.out.cell hb).trans hc
        clear HV2 HV3 HT hc
        go_enter Tryz.func88, Tryz.ntmps88
        go_wp2_with fail
        go_quiet (fail)
        go_wp2_with (first | (go_at_call 99; refine (CN.out _).mono ?_; rintro e w2 ⟨rfl, rfl⟩) | (go_at_call 100; refine (CF.out _).mono ?_; rintro e w3 ⟨rfl, b3⟩))
        go_ret
        exact ⟨rfl, (below_drewN HA.out _).trans (b3.mono (below_drewN HA.out _).size)⟩
      · have HV3 : Hid (V = false) := by show _ = _; rw [HV2.out, decide_eq_false (show ¬ (z : Int) < (n : Int) by omega), Bool.false_and, Bool.and_false]
        have d1 : decide ((z : Int) < (n : Int)) = false := decide_eq_false (by omega)
        have d0 : decide ((0 : Int) ≤ (z : Int)) = true := decide_eq_true h0
        clear HV2 HT
        go_enter Tryz.func88, Tryz.ntmps88
        go_wp2_with fail
        go_quiet (fail)
        go_wp2_with (go_at_call 99; refine (CN.out _).mono ?_; rintro e w2 ⟨rfl, rfl⟩)
        go_ret
        exact ⟨by rw [HV3.out]; rfl, below_drewN HA.out _⟩
    · have HV3 : Hid (V = false) := by show _ = _; rw [HV2.out, decide_eq_false h0, Bool.false_and]
      have d0 : decide ((0 : Int) ≤ arg) = false := decide_eq_false h0
      clear HV2 HT
      go_enter Tryz.func88, Tryz.ntmps88
      go_wp2_with fail
      go_quiet (fail)
      go_wp2_with (go_at_call 99; refine (CN.out _).mono ?_; rintro e w2 ⟨rfl, rfl⟩)
      go_ret
      exact ⟨by rw [HV3.out]; rfl, below_drewN HA.out _⟩
end PartCdE
section PartShelfM
open Go.Shelf Go.Proofs
def Tryz.lays212_ren : Go.Shelf.Ren := ⟨fun | 212 => 110 | 263 => 120 | 264 => 121 | n => n, fun | 46 => 155 | 51 => 169 | 146 => 170 | 53 => 172 | 148 => 173 | n => n, fun | n => n⟩
theorem Tryz.lays212 : Go.Proofs.Lays.n212 Tryz.prog Tryz.lays212_ren := {
  mixed := by kernel_rfl
  f212 := Tryz.func110.trans (congrArg some (by kernel_rfl))
  f263 := Tryz.func120.trans (congrArg some (by kernel_rfl))
  f264 := Tryz.func121.trans (congrArg some (by kernel_rfl))
  t46 := Tryz.underlying155
  a46 := Tryz.isAgg155
  z46 := Tryz.sizeOf155
  v46 := Tryz.zeroValue155
  t51 := Tryz.underlying169
  a51 := Tryz.isAgg169
  z51 := Tryz.sizeOf169
  v51 := Tryz.zeroValue169
  t53 := Tryz.underlying172
  a53 := Tryz.isAgg172
  z53 := Tryz.sizeOf172
  v53 := Tryz.zeroValue172
  t146 := Tryz.underlying170
  a146 := Tryz.isAgg170
  z146 := Tryz.sizeOf170
  v146 := Tryz.zeroValue170
  t148 := Tryz.underlying173
  a148 := Tryz.isAgg173
  z148 := Tryz.sizeOf173
  v148 := Tryz.zeroValue173 }
open Go.RowKit Go.Lib in
theorem Tryz.bits_Mul (x y : Nat) (hx : x < 18446744073709551616) (hy : y < 18446744073709551616) (w : World) :
    Calls Tryz.prog 110 #[.int .u64 x, .int .u64 y] w fun e w' => e = .returned (.tuple #[.int .u64 ((x * y / 18446744073709551616 : Nat) : Int), .int .u64 ((x * y % 18446744073709551616 : Nat) : Int)]) ∧ w' = w := Any.bits_Mul Tryz.lays212 x y hx hy w
def Tryz.laysNm231_ren : Go.Shelf.Ren := ⟨fun | 31 => 87 | 37 => 98 | n => n, fun | 3 => 3 | 4 => 4 | n => n, fun | n => n⟩
theorem Tryz.laysNm231 : Go.Proofs.Lays2.n31 Tryz.prog Tryz.laysNm231_ren := {
  mixed := by kernel_rfl
  f31 := Tryz.func87.trans (congrArg some (by kernel_rfl))
  f37 := Tryz.func98.trans (congrArg some (by kernel_rfl))
  t3 := Tryz.underlying3
  a3 := Tryz.isAgg3
  z3 := Tryz.sizeOf3
  v3 := Tryz.zeroValue3
  t4 := Tryz.underlying4
  a4 := Tryz.isAgg4
  z4 := Tryz.sizeOf4
  v4 := Tryz.zeroValue4 }
open Go.RowKit Go.Lib in
theorem Tryz.cmp_Less_int2 (x y : Int) (w : World) :
    Calls Tryz.prog 87 #[.int .i64 x, .int .i64 y] w fun e w' => e = .returned (.bool (decide (x < y))) ∧ w' = w := Any.cmp_Less_int2 Tryz.laysNm231 x y w
end PartShelfM
section PartCdR
open Go.RowKit

/-- The first k are -1, the others nought. -/
def reps (n k : Nat) : List Int := List.replicate k (-1) ++ List.replicate (n - k) 0
theorem reps_len (n k : Nat) (h : k ≤ n) : (reps n k).length = n := by simp [reps]; omega
theorem reps_splice (n k m : Nat) (h1 : k + m ≤ n) : splice ((reps n k).map iv) k ((List.replicate m (-1)).map iv) = (reps n (k + m)).map iv := by
  unfold splice reps
  simp only [List.map_append, List.map_replicate, List.length_replicate]
  rw [List.take_left' (by simp), List.drop_append, List.length_replicate, List.drop_eq_nil_of_le (by simp), List.nil_append, List.drop_replicate, ← List.append_assoc, List.replicate_append_replicate]
  congr 2
  omega

set_option maxHeartbeats 1000000 in
set_option maxRecDepth 100000 in
theorem repeat_any (b n : Nat) (w : World) (hn1 : 1 ≤ n) (hn : n ≤ 1000) (hc : w.cell? ⟨b, 0, none⟩ = some (.int .i64 (-1))) :
    Calls Tryz.prog 101 #[.slice (some ⟨b, 0, none⟩) 1 1, .int .i64 (n : Int)] w fun e w' => ∃ g, e = .returned (.slice (some ⟨g, 0, none⟩) n n) ∧ w.heap.size ≤ g ∧ g < w'.heap.size ∧ Below w.heap.size w w' ∧ KidsBlk w' g (List.replicate n (-1)) := by
  have CM : Hid (∀ W, Calls Tryz.prog 110 #[.int .u64 1, .int .u64 (n : Int)] W fun e w' => e = .returned (.tuple #[.int .u64 0, .int .u64 (n : Int)]) ∧ w' = W) := fun W => by
    have := Tryz.bits_Mul 1 n (by omega) (by omega) W
    rw [Nat.one_mul, Nat.div_eq_of_lt (by omega), Nat.mod_eq_of_lt (by omega)] at this
    exact this
  have u1 : IntKind.u64.wrap (n : Int) = (n : Int) := by unfold IntKind.wrap; simp [IntKind.bits, IntKind.signed]; omega
  have d0 : decide ((n : Int) < 0) = false := decide_eq_false (by omega)
  have d1 : decide ((9223372036854775807 : Int) < (n : Int)) = false := decide_eq_false (by omega)
  obtain ⟨M, hM, hmk⟩ := makeI_run n (by omega)
  have hM2 : M = ((reps n 0).map iv).toArray := by rw [hM]; simp [reps]
  have hMs : M.size = n := by rw [hM]; simp
  have HG : Hid ((w.alloc (.cells M 3)).heap[w.heap.size]? = some (.cells ((reps n 0).map iv).toArray 3 (0, 0))) := by
    show _ = _
    rw [heap_alloc_new, hM2]
  have HB : Hid (Below w.heap.size w (w.alloc (.cells M 3))) := (Below.refl _ _).alloc (Nat.le_refl _) _
  have hsz : w.heap.size < (w.alloc (.cells M 3)).heap.size := by simp
  have hc2 : (w.alloc (.cells M 3)).cell? ⟨b, 0, none⟩ = some (.int .i64 (-1)) := (HB.out.cell (World.block_lt_of_cell? w _ hc)).trans hc
  have hcp := run_copy_row (P := Tryz.prog) (w.alloc (.cells M 3)) 97 97 3 3 w.heap.size 0 n n ⟨b, 0, none⟩ 1 1 ((reps n 0).map iv).toArray 3 ((List.replicate 1 (-1)).map iv) Tryz.underlying97 (by kernel_rfl) HG.out (by rw [List.length_map, List.length_replicate]; exact (Nat.min_eq_left hn1).symm) (fun j v hj => by
    match j, hj with
    | 0, hj => simp [iv] at hj; rw [← hj]; exact hc2
    | j + 1, hj => simp at hj) (by simp [reps]; omega) (by simp [iv, Value.oneCell'])
  obtain ⟨w3, hw3⟩ : ∃ w3, w3 = (w.alloc (.cells M 3)).setRow w.heap.size (((reps n 0).map iv).toArray.toList.take 0 ++ (List.replicate 1 (-1)).map iv ++ ((reps n 0).map iv).toArray.toList.drop (0 + ((List.replicate 1 (-1 : Int)).map iv).length)).toArray := ⟨_, rfl⟩
  have HG3 : Hid (w3.heap[w.heap.size]? = some (.cells ((reps n 1).map iv).toArray 3 (0, 0))) := by
    show _ = _
    rw [hw3, setRow_heap _ _ _ _ _ _ HG.out, ← reps_splice n 0 1 (by omega)]
    simp [splice]
  have HB3 : Hid (Below w.heap.size w w3) := by rw [hw3]; exact below_setRow HB.out (Nat.le_refl _) _
  rw [← hw3] at hcp
  clear hw3 HG HB hc2 hM hM2 hMs hc hsz
  have hcp2 : (Builtin.copy_ #[97, 97] 3 #[.slice (some ⟨w.heap.size, 0, none⟩) n n, .slice (some ⟨b, 0, none⟩) 1 1]).run Tryz.prog (w.alloc (.cells M 3)) = .ok (.int .i64 1) w3 := hcp
  clear hcp
  go_enter Tryz.func101, Tryz.ntmps101
  go_wp2_with fail
  refine (CM.out _).mono ?_
  rintro e w2 ⟨rfl, hw2⟩
  rw [hw2]
  clear hw2 CM
  go_wp2
  clear hmk hcp2
  go_loopw [8] (fun i wr => ∃ k : Nat, i = .int .i64 (k : Int) ∧ 1 ≤ k ∧ k ≤ n ∧ Hid (Below w.heap.size w wr) ∧ Hid (wr.heap[w.heap.size]? = some (.cells ((reps n k).map iv).toArray 3 (0, 0)))) (fun i _ => n - (intOf i).toNat)
  case atStart => exact ⟨1, rfl, by omega, by omega, HB3.out, HG3.out⟩
  case round =>
    clear HB3 HG3
    obtain ⟨k, rfl, hk1, hk2, HB, HG⟩ := hrel
    by_cases hlt : k < n
    · have dk : decide ((k : Int) < (n : Int)) = true := decide_eq_true (by omega)
      have hkn : (k : Int) ≤ (n : Int) := by omega
      have dz : decide ((0 : Int) ≤ (k : Int)) = true := decide_eq_true (by omega)
      obtain ⟨m, hm⟩ : ∃ m, m = Nat.min k (n - k) := ⟨_, rfl⟩
      have hm1 : m ≤ n - k := by rw [hm]; exact Nat.min_le_right _ _
      have hm2 : m ≤ k := by rw [hm]; exact Nat.min_le_left _ _
      have hm3 : 1 ≤ m := by rw [hm]; exact Nat.le_min.2 ⟨hk1, by omega⟩
      have hsrc : Hid (∀ W : World, W.heap[w.heap.size]? = some (.cells ((reps n k).map iv).toArray 3 (0, 0)) → ∀ j v, ((List.replicate m (-1 : Int)).map iv)[j]? = some v → W.cell? ((⟨w.heap.size, 0, none⟩ : Addr).add j) = some v) := by
        intro W hW j v hj
        have hjm : j < m := by
          have := (List.getElem?_eq_some_iff.1 hj).1
          simpa using this
        rw [show (⟨w.heap.size, 0, none⟩ : Addr).add j = ⟨w.heap.size, j, none⟩ by unfold Addr.add; split <;> simp_all, blk_cell hW, ← hj]
        simp [reps, List.getElem?_append, hjm, show j < k by omega]
      have HL : Hid (∀ W : World, W.heap[w.heap.size]? = some (.cells (splice ((reps n k).map iv) k ((List.replicate m (-1 : Int)).map iv)).toArray 3 (0, 0)) → W.heap[w.heap.size]? = some (.cells ((reps n (k + m)).map iv).toArray 3 (0, 0))) := fun W h => by rwa [reps_splice n k m (by omega)] at h
      have HM : Hid (m = Nat.min k (n - k)) := hm
      have hnk : ¬ n = k := by omega
      have hwr : IntKind.i64.wrap ((k : Int) + (m : Int)) = ((k + m : Nat) : Int) := by rw [show (k : Int) + (m : Int) = ((k + m : Nat) : Int) by omega]; exact IntWalk.i64_in _ (by omega)
      clear hm
      go_wp2_with fail
      go_region_law (refine step_copy_splice rfl (.tmp 41) (.tmp 44) 97 97 rfl 3 Tryz.underlying97 (by kernel_rfl) (some ⟨w.heap.size, k, none⟩) (some ⟨w.heap.size, 0, none⟩) (n - k) (n - k) k n (by simp [Act.eval, Act.put]) (by simp [Act.eval, Act.put]) w.heap.size k ((reps n k).map iv) 3 HG.out ((List.replicate m (-1 : Int)).map iv) (by rw [List.length_map, List.length_replicate]; exact HM.out) (fun _ => ⟨rfl, _, rfl, hsrc.out _ HG.out⟩) (by rw [List.length_map, List.length_map, List.length_replicate, reps_len n k hk2]; omega) (by simp [iv, Value.oneCell']) w.heap.size w HB.out.drew (Nat.le_refl _) ?_; intro w4 hg4 hb4)
      all_goals
        have HG4 : Hid (w4.heap[w.heap.size]? = some (.cells ((reps n (k + m)).map iv).toArray 3 (0, 0))) := HL.out _ hg4.out
        have HB4 : Hid (Below w.heap.size w w4) := hb4
        clear hg4 hb4 HL hsrc HM HG HB
        try go_simp
        try go_wp2
        go_roundw
        case rel => exact ⟨k + m, by first | go_num | (rw [hwr]) | simp [hwr] | (simp; omega), by omega, by omega, HB4.out, HG4.out⟩
        case measure => simp [intOf]; omega
    · obtain rfl : k = n := by omega
      have dk : decide ((k : Int) < (k : Int)) = false := decide_eq_false (by omega)
      have HK : Hid (KidsBlk wr w.heap.size (List.replicate k (-1))) := by
        have := HG.out
        unfold reps at this
        rwa [Nat.sub_self, List.replicate_zero, List.append_nil] at this
      have hlt2 : w.heap.size < wr.heap.size := blk_lt HK.out
      clear HG
      go_wp2
      go_ret
      exact ⟨w.heap.size, rfl, Nat.le_refl _, hlt2, HB.out, HK.out⟩
end PartCdR
section PartCdF
open Go.RowKit

namespace Cd
theorem loopI_end {xs : List Ins} {to : Nat} (hs : List Int) : loopI xs to (to - to) to hs = decide (hs.getD to (-1) = -1 ∨ hs.getD to (-1) = 0) := by
  rw [Nat.sub_self]; rfl
theorem loopI_next {xs : List Ins} {to a : Nat} (h : a < to) (hs : List Int) : loopI xs to (to - a) a hs =
    if hs.getD a (-1) = -1 then loopI xs to (to - (a + 1)) (a + 1) hs
    else if hs.getD a (-1) < (needs (xs.getD a Ins.no)).1 ∨ 20 < hs.getD a (-1) then false
    else match mark hs (hs.getD a (-1) - (needs (xs.getD a Ins.no)).1 + (needs (xs.getD a Ins.no)).2) (next (xs.getD a Ins.no) a) with
      | none => false
      | some hs' => loopI xs to (to - (a + 1)) (a + 1) hs' := by
  rw [show to - a = (to - (a + 1)) + 1 by omega]
  rfl
end Cd

/-- The slice leads to these numbers, in memory from B on. -/
def NxAt (B : Nat) (w : World) (sa : Option Addr) (L : List Nat) : Prop := ∀ j, j < L.length → ∃ sg, sa = some ⟨sg, 0, none⟩ ∧ B ≤ sg ∧ sg < w.heap.size ∧ w.cell? ⟨sg, j, none⟩ = some (.int .i64 ((L.getD j 0 : Nat) : Int))

set_option maxHeartbeats 2000000 in
set_option maxRecDepth 100000 in
theorem nextPlaces_any (op : Int) (z a : Nat) (w : World) (ha : a ≤ 1000) :
    Calls Tryz.prog 103 #[.agg #[.int .i64 op, .int .i64 (z : Int)], .int .i64 (a : Int)] w fun e w' => ∃ sa sc, e = .returned (.slice sa (Cd.next ⟨op, (z : Int)⟩ a).length sc) ∧ Below w.heap.size w w' ∧ NxAt w.heap.size w' sa (Cd.next ⟨op, (z : Int)⟩ a) := by
  have HA : Hid (Below w.heap.size w (w.alloc (.cells #[.int .i64 op, .int .i64 (z : Int)] 105))) := (Below.refl _ _).alloc (Nat.le_refl _) _
  have HN1 : Hid (∀ (U : World) (y : Nat), w.heap.size ≤ U.heap.size → NxAt w.heap.size (U.alloc (.cells #[.int .i64 (y : Int)] 3)) (some ⟨U.heap.size, 0, none⟩) [y]) := by
    intro U y hU j hj
    obtain rfl : j = 0 := by simpa using hj
    refine ⟨_, rfl, hU, by simp, ?_⟩
    rw [blk_cell (heap_alloc_new U _)]
    rfl
  have HN2 : Hid (∀ (U : World) (x y : Nat), w.heap.size ≤ U.heap.size → NxAt w.heap.size (U.alloc (.cells #[.int .i64 (x : Int), .int .i64 (y : Int)] 3)) (some ⟨U.heap.size, 0, none⟩) [x, y]) := by
    intro U x y hU j hj
    refine ⟨_, rfl, hU, by simp, ?_⟩
    rw [blk_cell (heap_alloc_new U _)]
    match j, hj with
    | 0, _ => rfl
    | 1, _ => rfl
  have hs : w.heap.size ≤ (w.alloc (.cells #[.int .i64 op, .int .i64 (z : Int)] 105)).heap.size := HA.out.size
  by_cases o23 : op = 23
  · subst o23
    have HL : Hid (Cd.next ⟨23, (z : Int)⟩ a = []) := by show _ = _; simp [Cd.next]
    go_enter Tryz.func103, Tryz.ntmps103
    go_wp2
    go_ret
    rw [HL.out]
    exact ⟨_, _, rfl, HA.out, fun j hj => by simp at hj⟩
  by_cases o22 : op = 22
  · subst o22
    have HL : Hid (Cd.next ⟨22, (z : Int)⟩ a = [z]) := by show _ = _; simp [Cd.next]
    have HF : Hid _ := HN1.out (w.alloc (.cells #[.int .i64 22, .int .i64 (z : Int)] 105)) z hs
    go_enter Tryz.func103, Tryz.ntmps103
    go_wp2
    go_ret
    rw [HL.out]
    exact ⟨_, _, rfl, HA.out.alloc hs _, by have := HF.out; rw [World.size_alloc] at this; exact this⟩
  by_cases o21 : op = 21
  · subst o21
    have HL : Hid (Cd.next ⟨21, (z : Int)⟩ a = [a + 1, z]) := by show _ = _; simp [Cd.next]
    have HF : Hid _ := HN2.out (w.alloc (.cells #[.int .i64 21, .int .i64 (z : Int)] 105)) (a + 1) z hs
    go_enter Tryz.func103, Tryz.ntmps103
    go_wp2
    go_ret
    rw [HL.out]
    exact ⟨_, _, rfl, HA.out.alloc hs _, by have := HF.out; rw [World.size_alloc] at this; exact this⟩
  · have HL : Hid (Cd.next ⟨op, (z : Int)⟩ a = [a + 1]) := by show _ = _; simp [Cd.next, o23, o22, o21]
    have HF : Hid _ := HN1.out (w.alloc (.cells #[.int .i64 op, .int .i64 (z : Int)] 105)) (a + 1) hs
    have f23 : (op == 23) = false := beq_eq_false_iff_ne.2 o23
    have f22 : (op == 22) = false := beq_eq_false_iff_ne.2 o22
    have f21 : (op == 21) = false := beq_eq_false_iff_ne.2 o21
    clear o23 o22 o21
    go_enter Tryz.func103, Tryz.ntmps103
    go_wp2
    go_ret
    rw [HL.out]
    exact ⟨_, _, rfl, HA.out.alloc hs _, by have := HF.out; rw [World.size_alloc] at this; exact this⟩

set_option maxHeartbeats 2000000 in
set_option maxRecDepth 100000 in
theorem heightsOk_any (lv : Value) (ts : List ByteArray) (xs : List Ins) (fr to : Nat) (w : World) (hl : InsAt w lv xs) (hxl : xs.length ≤ 250) (hft : fr ≤ to) (hto : to ≤ xs.length) (hall : ∀ a, fr ≤ a → a < to → Cd.ins ts (xs.getD a Ins.no) (a : Int) (to : Int) = true) :
    Calls Tryz.prog 89 #[lv, .int .i64 (fr : Int), .int .i64 (to : Int)] w fun e w' => e = .returned (.bool (Cd.loopI xs to (to - fr) fr (Cd.start fr to))) ∧ Below w.heap.size w w' := by
  obtain ⟨V, hV⟩ : ∃ V, V = Cd.loopI xs to (to - fr) fr (Cd.start fr to) := ⟨_, rfl⟩
  rw [← hV]
  have HV : Hid (V = Cd.loopI xs to (to - fr) fr (Cd.start fr to)) := hV
  clear hV
  have HT : Hid (∀ W, Below w.heap.size w W → InsAt W lv xs) := fun W hb => hl.keep hb
  have HALL : Hid (∀ a, fr ≤ a → a < to → Cd.ins ts (xs.getD a Ins.no) (a : Int) (to : Int) = true) := hall
  obtain ⟨la, lc, rfl, -⟩ := hl
  clear hall
  obtain ⟨m, hm⟩ : ∃ m, m = xs.length := ⟨_, rfl⟩
  have HM : Hid (m = xs.length) := hm
  rw [← hm] at hxl hto
  rw [← hm] at HT ⊢
  clear hm
  have HB0 : Hid (Below w.heap.size w (w.alloc (.cells #[.int .i64 (-1)] 3))) := (Below.refl _ _).alloc (Nat.le_refl _) _
  have CR : Hid (Calls Tryz.prog 101 #[.slice (some ⟨w.heap.size, 0, none⟩) 1 1, .int .i64 ((to : Int) + 1)] (w.alloc (.cells #[.int .i64 (-1)] 3)) fun e w' => ∃ g, e = .returned (.slice (some ⟨g, 0, none⟩) (to + 1) (to + 1)) ∧ (w.alloc (.cells #[.int .i64 (-1)] 3)).heap.size ≤ g ∧ g < w'.heap.size ∧ Below (w.alloc (.cells #[.int .i64 (-1)] 3)).heap.size (w.alloc (.cells #[.int .i64 (-1)] 3)) w' ∧ KidsBlk w' g (List.replicate (to + 1) (-1))) :=
    repeat_any w.heap.size (to + 1) _ (by omega) (by omega) (by rw [blk_cell (heap_alloc_new w _)]; rfl)
  go_enter Tryz.func89, Tryz.ntmps89
  go_wp2_with fail
  refine CR.out.mono ?_
  rintro e w1 ⟨g, rfl, hg0, hg1, hb1, hk1⟩
  have HK1 : Hid (KidsBlk w1 g (List.replicate (to + 1) (-1))) := hk1
  have HB1 : Hid (Below w.heap.size w w1) := HB0.out.trans (hb1.mono HB0.out.size)
  have hgw : w.heap.size ≤ g := Nat.le_trans HB0.out.size hg0
  clear hb1 hk1 CR HB0 hg0
  have c0 := HK1.out.cell (j := fr) (by simp; omega) 0
  have f0 := blk_free HK1.out fr
  have hfr1 : (fr : Int) < (to : Int) + 1 := by omega
  have HK2 : Hid (KidsBlk (w1.setCell ⟨g, fr, none⟩ (.int .i64 0)) g (Cd.start fr to)) := HK1.out.set fr 0
  have HB2 : Hid (Below w.heap.size w (w1.setCell ⟨g, fr, none⟩ (.int .i64 0))) := HB1.out.setCell hgw _
  have hg2 : g < (w1.setCell ⟨g, fr, none⟩ (.int .i64 0)).heap.size := by simpa [World.setCell] using hg1
  clear HK1 HB1 hg1
  go_wp2
  generalize w1.setCell ⟨g, fr, none⟩ (.int .i64 0) = W2 at *
  clear c0 f0
  have HI0 : Hid (Cd.Inv (Cd.start fr to) (-1) 21 ∧ (Cd.start fr to).length = to + 1) := ⟨fun j => by have := Cd.start_inv fr to j; omega, Cd.start_len fr to⟩
  go_loopw [8, 9, 10, 11, 13] (fun i _ _ _ _ wr => ∃ (a : Nat) (hs : List Int), i = .int .i64 (a : Int) ∧ fr ≤ a ∧ a ≤ to ∧ g < wr.heap.size ∧ Hid (Cd.Inv hs (-1) 21 ∧ hs.length = to + 1) ∧ Hid (Below w.heap.size w wr) ∧ Hid (KidsBlk wr g hs) ∧ Hid (V = Cd.loopI xs to (to - a) a hs)) (fun i _ _ _ _ _ => to - (intOf i).toNat)
  case atStart => exact ⟨fr, _, rfl, by omega, hft, hg2, HI0.out, HB2.out, HK2.out, HV.out⟩
  case round =>
    clear HI0 HB2 HK2 HV hg2
    obtain ⟨a, hs, rfl, hfa, ha, hgr, HI, HB, HK, HV⟩ := hrel
    by_cases hlt : a < to
    · have hi : (a : Int) < (to : Int) := by omega
      have d0 : decide ((a : Int) < (to : Int)) = true := decide_eq_true hi
      have ha1 : (a : Int) < (m : Int) := by omega
      have ha2 : (a : Int) < (to : Int) + 1 := by omega
      obtain ⟨lb, lo, rfl, hlb, x0, x1⟩ := (HT.out _ HB.out).cell HM.out (show a < m by omega)
      have hins := HALL.out a hfa hlt
      have HV2 : Hid _ := HV.out.trans (Cd.loopI_next hlt hs)
      have HNK : Hid (∀ k ∈ Cd.next (xs.getD a Ins.no) a, a < k ∧ k ≤ to) := Cd.next_ok hins hlt
      obtain ⟨t1, t2, t3, t4, -⟩ := Cd.needs_ok hins
      have HAR : 0 ≤ (xs.getD a Ins.no).arg := by
        unfold Cd.ins at hins
        simp only [Bool.and_eq_true, decide_eq_true_eq] at hins
        omega
      have c0 := HK.out.cell (j := a) (by rw [HI.out.2]; omega) (-1)
      have hyi := HI.out.1 a
      clear HV hins
      generalize xs.getD a Ins.no = x at *
      obtain ⟨op, arg⟩ := x
      simp only at x0 x1 HAR
      obtain ⟨z, rfl⟩ : ∃ z : Nat, arg = (z : Int) := ⟨arg.toNat, by omega⟩
      generalize hs.getD a (-1) = y at *
      by_cases hy0 : y = -1
      · have dy : (y == -1) = true := by simpa using hy0
        have HV4 : Hid (V = Cd.loopI xs to (to - (a + 1)) (a + 1) hs) := by show _ = _; rw [HV2.out, if_pos hy0]
        clear HV2 HNK hy0
        go_wp2
        go_roundw
        case rel => exact ⟨a + 1, hs, by go_num, by omega, by omega, hgr, HI.out, HB.out, HK.out, HV4.out⟩
        case measure => simp [intOf]; omega
      have dy : (y == -1) = false := beq_eq_false_iff_ne.2 hy0
      have HV4 : Hid _ := HV2.out.trans (if_neg hy0)
      have CN : Hid (∀ W, Calls Tryz.prog 102 #[.agg #[.int .i64 op, .int .i64 (z : Int)]] W fun e w' => e = .returned (.tuple #[.int .i64 (Cd.needs ⟨op, (z : Int)⟩).1, .int .i64 (Cd.needs ⟨op, (z : Int)⟩).2]) ∧ Below W.heap.size W w') := fun W => stackUse_any op z W
      have CP : Hid (∀ W, Calls Tryz.prog 103 #[.agg #[.int .i64 op, .int .i64 (z : Int)], .int .i64 (a : Int)] W fun e w' => ∃ sa sc, e = .returned (.slice sa (Cd.next ⟨op, (z : Int)⟩ a).length sc) ∧ Below W.heap.size W w' ∧ NxAt W.heap.size w' sa (Cd.next ⟨op, (z : Int)⟩ a)) := fun W => nextPlaces_any op z a W (by omega)
      have hnl := Cd.next_len ⟨op, (z : Int)⟩ a
      generalize (Cd.needs ⟨op, (z : Int)⟩).1 = tk at *
      generalize (Cd.needs ⟨op, (z : Int)⟩).2 = pt at *
      generalize Cd.next ⟨op, (z : Int)⟩ a = L at *
      clear HV2
      go_wp2_with fail
      refine (CN.out _).mono ?_
      rintro e w3 ⟨rfl, hb3⟩
      have HB3 : Hid (Below w.heap.size w w3) := HB.out.trans (hb3.mono HB.out.size)
      have HK3 : Hid (KidsBlk w3 g hs) := (hb3.block _ hgr).trans HK.out
      have hg3 : g < w3.heap.size := Nat.lt_of_lt_of_le hgr hb3.size
      have v0 := (hb3.cell hlb).trans x0
      have v1 := (hb3.cell hlb).trans x1
      clear hb3 CN HB HK hgr c0 x0 x1
      by_cases htk : y < tk
      · have HF : Hid (V = false) := by show _ = _; rw [HV4.out, if_pos (.inl htk)]
        have d1 : decide (y < tk) = true := decide_eq_true htk
        clear HV4 HNK CP
        go_wp2
        go_ret
        exact ⟨by rw [HF.out]; rfl, HB3.out⟩
      have d1 : decide (y < tk) = false := decide_eq_false htk
      by_cases hbig : 20 < y
      · have HF : Hid (V = false) := by show _ = _; rw [HV4.out, if_pos (.inr hbig)]
        have d2 : decide ((20 : Int) < y) = true := decide_eq_true hbig
        clear HV4 HNK CP
        go_wp2
        go_ret
        exact ⟨by rw [HF.out]; rfl, HB3.out⟩
      have d2 : decide ((20 : Int) < y) = false := decide_eq_false hbig
      have HV5 : Hid _ := HV4.out.trans (if_neg (by rintro (h | h) <;> contradiction))
      obtain ⟨N, hN⟩ : ∃ N, N = y + (pt - tk) := ⟨_, rfl⟩
      have hN0 : -1 ≤ N := by omega
      have hN20 : N ≤ 21 := by omega
      have HMK : Hid (V = match Cd.mark hs N (L.drop 0) with | none => false | some hs' => Cd.loopI xs to (to - (a + 1)) (a + 1) hs') := by
        show _ = _
        rw [HV5.out, hN, show y + (pt - tk) = y - tk + pt by omega]
        rfl
      have hNe : y + (pt - tk) = N := hN.symm
      clear HV4 HV5 htk hbig hy0 hN
      go_wp2_with fail
      refine (CP.out _).mono ?_
      rintro e w4 ⟨sa, sc, rfl, hb4, hnx⟩
      have HB4 : Hid (Below w.heap.size w w4) := HB3.out.trans (hb4.mono HB3.out.size)
      have HK4 : Hid (KidsBlk w4 g hs) := (hb4.block _ hg3).trans HK3.out
      have hg4 : g < w4.heap.size := Nat.lt_of_lt_of_le hg3 hb4.size
      have HNL : Hid (∀ j, j < L.length → ∃ sg, sa = some ⟨sg, 0, none⟩ ∧ w4.cell? ⟨sg, j, none⟩ = some (.int .i64 ((L.getD j 0 : Nat) : Int)) ∧ sg ≠ g ∧ L.getD j 0 ≤ to) := by
        intro j hj
        obtain ⟨sg, e1, e2, e3, e4⟩ := hnx j hj
        refine ⟨sg, e1, e4, by omega, ?_⟩
        refine (HNK.out _ ?_).2
        rw [List.getD_eq_getElem?_getD, List.getElem?_eq_getElem hj]
        exact List.getElem_mem _
      clear hb4 hnx HB3 HK3 hg3 v0 v1 CP HNK
      obtain ⟨q, hq⟩ : ∃ q, q = L.length := ⟨_, rfl⟩
      have HQ : Hid (q = L.length) := hq
      rw [← hq] at HNL hnl ⊢
      clear hq
      go_wp2
      go_loopw [13, 60] (fun _ kk wq => ∃ (k : Nat) (h2 : List Int), kk = .int .i64 (k : Int) ∧ k ≤ q ∧ g < wq.heap.size ∧ Hid (Cd.Inv h2 (-1) 21 ∧ h2.length = to + 1) ∧ Hid (Below w.heap.size w wq) ∧ Hid (KidsBlk wq g h2) ∧ Hid (∀ j, j < q → ∃ sg, sa = some ⟨sg, 0, none⟩ ∧ wq.cell? ⟨sg, j, none⟩ = some (.int .i64 ((L.getD j 0 : Nat) : Int)) ∧ sg ≠ g ∧ L.getD j 0 ≤ to) ∧ Hid (V = match Cd.mark h2 N (L.drop k) with | none => false | some hs' => Cd.loopI xs to (to - (a + 1)) (a + 1) hs')) (fun _ kk _ => q - (intOf kk).toNat)
      case atStart => exact ⟨0, hs, rfl, by omega, hg4, HI.out, HB4.out, HK4.out, HNL.out, HMK.out⟩
      case round =>
        clear HNL HMK HK4 HB4 hg4
        obtain ⟨k, h2, rfl, hkq, hgq, HI2, HBq, HKq, HNq, HVq⟩ := hrel
        by_cases hlq : k < q
        · have e0 : decide ((k : Int) < (q : Int)) = true := decide_eq_true (by omega)
          have hk1 : (k : Int) < (q : Int) := by omega
          obtain ⟨sg, rfl, c1, hne, hK⟩ := HNq.out k hlq
          have HMN := Cd.mark_next (hs := h2) (n := N) (nx := L) (k := k) (by rw [← HQ.out]; exact hlq)
          have HKS := fun z => HKq.out.set (L.getD k 0) z
          have HIS := Cd.Inv.set HI2.out.1 hN0 hN20 (L.getD k 0)
          generalize L.getD k 0 = K at *
          have c2 := HKq.out.cell (j := K) (by rw [HI2.out.2]; omega) (-1)
          have f2 := blk_free HKq.out K
          have hK1 : (K : Int) < (to : Int) + 1 := by omega
          have hy2 := HI2.out.1 K
          have HVM : Hid (V = match (if 0 ≤ h2.getD K (-1) ∧ h2.getD K (-1) ≠ N then none else Cd.mark (h2.set K N) N (L.drop (k + 1))) with | none => false | some hs' => Cd.loopI xs to (to - (a + 1)) (a + 1) hs') := by show _ = _; rw [HVq.out, HMN]
          clear HMN HVq
          generalize h2.getD K (-1) = y2 at *
          by_cases hc : 0 ≤ y2 ∧ y2 ≠ N
          · have HF : Hid (V = false) := by show _ = _; rw [HVM.out, if_pos hc]
            have e1 : (y2 != -1) = true := by have : y2 ≠ -1 := by omega
                                              simpa using this
            have e2 : (y2 != N) = true := by simpa using hc.2
            clear HVM HKS HIS hc
            go_wp2
            go_ret
            exact ⟨by rw [HF.out]; rfl, HBq.out⟩
          · have HVN : Hid (V = match Cd.mark (h2.set K N) N (L.drop (k + 1)) with | none => false | some hs' => Cd.loopI xs to (to - (a + 1)) (a + 1) hs') := by show _ = _; rw [HVM.out, if_neg hc]
            have HKN : Hid (KidsBlk (wr.setCell ⟨g, K, none⟩ (.int .i64 N)) g (h2.set K N)) := HKS N
            have HNN : Hid (∀ j, j < q → ∃ sg', (some ⟨sg, 0, none⟩ : Option Addr) = some ⟨sg', 0, none⟩ ∧ (wr.setCell ⟨g, K, none⟩ (.int .i64 N)).cell? ⟨sg', j, none⟩ = some (.int .i64 ((L.getD j 0 : Nat) : Int)) ∧ sg' ≠ g ∧ L.getD j 0 ≤ to) := by
              intro j hj
              obtain ⟨s2, e1, e2, e3, e4⟩ := HNq.out j hj
              refine ⟨s2, e1, ?_, e3, e4⟩
              rw [← e2]
              unfold World.cell?
              rw [Below.heap_setCell _ _ _ _ (by exact e3)]
            have HIN2 : Hid (Cd.Inv (h2.set K N) (-1) 21 ∧ (h2.set K N).length = to + 1) := ⟨HIS, by rw [List.length_set]; exact HI2.out.2⟩
            clear HVM HKS HIS HKq HNq
            by_cases hy : y2 < 0
            · have e1 : (y2 != -1) = false := by
                have : y2 = -1 := by omega
                rw [this]; rfl
              clear hc
              go_wp2
              go_roundw
              case rel => exact ⟨k + 1, h2.set K N, by go_num, by omega, by simpa [World.setCell] using hgq, HIN2.out, HBq.out.setCell hgw _, HKN.out, HNN.out, HVN.out⟩
              case measure => simp [intOf]; omega
            · have e1 : (y2 != -1) = true := by
                have : y2 ≠ -1 := by omega
                simpa using this
              have e2 : (y2 != N) = false := by
                have : y2 = N := by omega
                rw [this]; simp
              clear hc hy
              go_wp2
              go_roundw
              case rel => exact ⟨k + 1, h2.set K N, by go_num, by omega, by simpa [World.setCell] using hgq, HIN2.out, HBq.out.setCell hgw _, HKN.out, HNN.out, HVN.out⟩
              case measure => simp [intOf]; omega
        · obtain rfl : k = q := by omega
          have e0 : decide ((k : Int) < (k : Int)) = false := decide_eq_false (by omega)
          have HVE : Hid (V = Cd.loopI xs to (to - (a + 1)) (a + 1) h2) := by
            show _ = _
            rw [HVq.out, HQ.out, List.drop_length]
            rfl
          clear HVq HNq
          go_wp2
          go_roundw
          case rel => exact ⟨a + 1, h2, by go_num, by omega, by omega, hgq, HI2.out, HBq.out, HKq.out, HVE.out⟩
          case measure => simp [intOf]; omega
    · obtain rfl : a = to := by omega
      have d0 : decide ((a : Int) < (a : Int)) = false := decide_eq_false (by omega)
      have c0 := HK.out.cell (j := a) (by rw [HI.out.2]; omega) (-1)
      have HV2 : Hid (V = decide (hs.getD a (-1) = -1 ∨ hs.getD a (-1) = 0)) := HV.out.trans (Cd.loopI_end hs)
      clear HV HK
      generalize hs.getD a (-1) = y at *
      by_cases h1 : y = -1
      · have HF : Hid (V = true) := HV2.out.trans (decide_eq_true (.inl h1))
        have e1 : (y == -1) = true := by simpa using h1
        clear HV2 h1
        go_wp2
        go_ret
        exact ⟨by rw [HF.out]; rfl, HB.out⟩
      · have HF : Hid (V = (y == 0)) := HV2.out.trans (by rw [Bool.eq_iff_iff]; simp [h1])
        have e1 : (y == -1) = false := beq_eq_false_iff_ne.2 h1
        clear HV2 h1
        go_wp2
        go_ret
        exact ⟨by rw [HF.out]; rfl, HB.out⟩
end PartCdF
end Go.Proofs.YtehagonaacbmiaaGreat
