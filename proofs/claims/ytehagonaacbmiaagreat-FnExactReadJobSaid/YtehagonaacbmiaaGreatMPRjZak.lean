/- What both ReadVar answer, at every text and place. What the specification's ReadVar answers, at every text and place. What ShortText and ReadShort answer, the program's and the specification's, and that the laws on ReadVar, ShortText and ReadShort answer true. The program's writer of bytes: a strings.Builder that lies within a struct of the program's own. -/
import Derived.Test.YtehagonaacbmiaaGreatMPRjZaj
import Derived.Lib.Strings
import Derived.BigQuiet
import Derived.BigRegion
import Derived.Deep.RegionWith
import Derived.Deep.QuietTactic
import Derived.Deep.RegionHeld3
import Derived.Test.YtehagonaacbmiaaGreatMPRjZaa
import Derived.Lib.Builder
import Derived.Lib.AppendStr
import Derived.Lib.AppendIntMem
import Derived.Shelf.Strings.Builder1
namespace Go.Proofs.YtehagonaacbmiaaGreat
section PartVrB
open Go.RowKit

def rvVal (at_ : Int) : Option (Nat × Nat) → Value
  | some (n, k) => .tuple #[.int .i64 n, .int .i64 (at_ + k), .bool true]
  | none => .tuple #[.int .i64 0, .int .i64 0, .bool false]
/-- What ReadVar answers. -/
def rvRes (s : ByteArray) (at_ : Int) : Value := rvVal at_ (if 0 ≤ at_ ∧ at_ ≤ s.size then Pl.rvF 5 [] (s.data.toList.drop at_.toNat) else none)

/-- What is held at a round's head: the bytes pre from place a on are read, each goes on; m is their number, c the weight of the next. -/
structure RvAt (s : ByteArray) (a k m c : Nat) (pre : List UInt8) : Prop where
  num : m = Pl.val pre
  weight : c = 128 ^ pre.length
  place : a + pre.length = k
  goes : Pl.Goes pre
  rest : Pl.rvF (5 - pre.length) pre (s.data.toList.drop k) = Pl.rvF 5 [] (s.data.toList.drop a)
  ahead : (s.data.toList.drop a).take pre.length = pre

theorem RvAt.start (s : ByteArray) (a : Nat) : RvAt s a a 0 1 [] := ⟨rfl, rfl, rfl, (fun _ h => by cases h), rfl, rfl⟩

theorem vdrop_at (s : ByteArray) (k : Nat) (h : k < s.size) : s.data.toList.drop k = s[k] :: s.data.toList.drop (k + 1) := by
  exact Pl.drop_cons s.data.toList k (by simpa using h)

theorem RvAt.ahead_more {s : ByteArray} {a k m c : Nat} {pre : List UInt8} (h : RvAt s a k m c pre) (hk : k < s.size) :
    (s.data.toList.drop a).take (pre ++ [s[k]]).length = pre ++ [s[k]] := by
  have h1 := h.ahead
  have h2 := h.place
  rw [List.length_append, List.length_singleton, List.take_add_one, h1]
  congr 1
  rw [List.getElem?_drop, h2]
  simp [hk]
  rfl

theorem RvAt.on {s : ByteArray} {a k m c : Nat} {pre : List UInt8} (h : RvAt s a k m c pre) (hk : k < s.size) (h5 : k < a + 5) (hb : 128 ≤ s[k].toNat) :
    RvAt s a (k + 1) (m + s[k].toNat % 128 * c) (c * 128) (pre ++ [s[k]]) := by
  have hl := h.place
  refine ⟨?_, ?_, ?_, h.goes.snoc hb, ?_, h.ahead_more hk⟩
  · rw [Pl.val_snoc, ← h.num, ← h.weight, Nat.mul_comm]
  · rw [h.weight, List.length_append, List.length_singleton, Nat.pow_succ]
  · simp; omega
  · rw [← h.rest, vdrop_at s k hk]
    have e : 5 - pre.length = (5 - (pre ++ [s[k]]).length) + 1 := by simp; omega
    rw [e, Pl.rvF_on _ _ _ _ hb]

theorem RvAt.done {s : ByteArray} {a k m c : Nat} {pre : List UInt8} (h : RvAt s a k m c pre) (hk : k < s.size) (h5 : k < a + 5) (hb : s[k].toNat < 128) :
    ((s[k].toNat = 0 ∧ a < k) ∨ 1000000000 < m + s[k].toNat % 128 * c) ∧ Pl.rvF 5 [] (s.data.toList.drop a) = none ∨
    ¬ ((s[k].toNat = 0 ∧ a < k) ∨ 1000000000 < m + s[k].toNat % 128 * c) ∧ Pl.rvF 5 [] (s.data.toList.drop a) = some (m + s[k].toNat % 128 * c, k + 1 - a) := by
  have hl := h.place
  have hv : Pl.val (pre ++ [s[k]]) = m + s[k].toNat % 128 * c := by rw [Pl.val_snoc, ← h.num, ← h.weight, Nat.mul_comm]
  have e : 5 - pre.length = (4 - pre.length) + 1 := by omega
  have hr := h.rest
  rw [vdrop_at s k hk, e] at hr
  rw [← hr, ← hv]
  by_cases hbad : (s[k].toNat = 0 ∧ a < k) ∨ 1000000000 < Pl.val (pre ++ [s[k]])
  · exact .inl ⟨hbad, Pl.rvF_bad _ _ _ _ hb (by omega)⟩
  · refine .inr ⟨hbad, ?_⟩
    rw [Pl.rvF_end _ _ _ _ hb (by omega)]
    congr 2
    omega

theorem RvAt.yes {s : ByteArray} {a k m c : Nat} {pre : List UInt8} (h : RvAt s a k m c pre) (hk : k < s.size) (h5 : k < a + 5) (hb : s[k].toNat < 128)
    (h1 : ¬ (s[k].toNat = 0 ∧ a < k)) (z : Int) (hz : z = (m : Int) + (s[k].toNat : Int) % 128 * (c : Int)) (h2 : z ≤ 1000000000) :
    rvVal a (Pl.rvF 5 [] (s.data.toList.drop a)) = .tuple #[.int .i64 z, .int .i64 ((k : Int) + 1), .bool true] := by
  have hl := h.place
  rw [← Pl.mul_int] at hz
  rcases h.done hk h5 hb with ⟨hbad, _⟩ | ⟨_, e⟩
  · omega
  · rw [e]
    show Value.tuple #[.int .i64 ((m + s[k].toNat % 128 * c : Nat) : Int), .int .i64 ((a : Int) + ((k + 1 - a : Nat) : Int)), .bool true] = _
    have e1 : ((m + s[k].toNat % 128 * c : Nat) : Int) = z := by omega
    have e2 : (a : Int) + ((k + 1 - a : Nat) : Int) = (k : Int) + 1 := by omega
    rw [e1, e2]

theorem RvAt.no {s : ByteArray} {a k m c : Nat} {pre : List UInt8} (h : RvAt s a k m c pre) (hk : k < s.size) (h5 : k < a + 5) (hb : s[k].toNat < 128)
    (h1 : (s[k].toNat = 0 ∧ a < k) ∨ 1000000000 < (m : Int) + (s[k].toNat : Int) % 128 * (c : Int)) :
    Pl.rvF 5 [] (s.data.toList.drop a) = none := by
  rw [← Pl.mul_int] at h1
  rcases h.done hk h5 hb with ⟨_, e⟩ | ⟨hbad, _⟩
  · exact e
  · omega

theorem RvAt.cmp {s : ByteArray} {a k m c : Nat} {pre : List UInt8} (h : RvAt s a k m c pre) (hk : k < s.size) (h5 : k < a + 5) (hb : s[k].toNat < 128) :
    (Pl.vb 8 ((m : Int) + (s[k].toNat : Int) % 128 * (c : Int)).toNat == (s.extract a (k + 1)).toList) = true ↔ ¬ (s[k].toNat = 0 ∧ a < k) := by
  have hl := h.place
  have hv : ((m : Int) + (s[k].toNat : Int) % 128 * (c : Int)).toNat = Pl.val (pre ++ [s[k]]) := by
    rw [← Pl.mul_int, Pl.val_snoc, ← h.num, ← h.weight, Nat.mul_comm]; omega
  have he : (s.extract a (k + 1)).toList = pre ++ [s[k]] := by
    rw [Lib.extract_toList, ← h.ahead_more hk]
    simp; omega
  rw [hv, he, beq_iff_eq, Pl.vb_val 8 pre s[k] h.goes hb (by omega)]
  omega

theorem RvAt.out {s : ByteArray} {a k m c : Nat} {pre : List UInt8} (h : RvAt s a k m c pre) (hk : ¬ (k < s.size ∧ k < a + 5)) : Pl.rvF 5 [] (s.data.toList.drop a) = none := by
  rw [← h.rest]
  have hl := h.place
  by_cases h1 : k < s.size
  · rw [show 5 - pre.length = 0 by omega]; rfl
  · rw [List.drop_of_length_le (by simp; omega)]
    exact Pl.rvF_nil _ _

theorem RvAt.small {s : ByteArray} {a k m c : Nat} {pre : List UInt8} (h : RvAt s a k m c pre) (h5 : k < a + 5) : m < 268435456 ∧ c ≤ 268435456 := by
  have hl := h.place
  have h4 : (128 : Nat) ^ pre.length ≤ 128 ^ 4 := Nat.pow_le_pow_right (by omega) (by omega)
  have h3 := Pl.val_lt pre
  rw [h.num, h.weight]
  simp at h4
  omega

set_option maxHeartbeats 400000 in
theorem implRv_any (s : ByteArray) (at_ : Int) (w : World) (hs : s.size ≤ 1048576) :
    Calls Tryz.prog 95 #[.string s, .int .i64 at_] w fun e w' => e = .returned (rvRes s at_) ∧ w' = w := by
  by_cases h0 : at_ < 0
  · have hres : rvRes s at_ = .tuple #[.int .i64 0, .int .i64 0, .bool false] := by unfold rvRes; rw [if_neg (by omega)]; rfl
    rw [hres]
    clear hres
    go_enter Tryz.func95, Tryz.ntmps95
    go_wp2
    go_ret3
    exact ⟨rfl, rfl⟩
  by_cases h1 : (s.size : Int) < at_
  · have hres : rvRes s at_ = .tuple #[.int .i64 0, .int .i64 0, .bool false] := by unfold rvRes; rw [if_neg (by omega)]; rfl
    rw [hres]
    clear hres
    go_enter Tryz.func95, Tryz.ntmps95
    go_wp2
    go_ret3
    exact ⟨rfl, rfl⟩
  obtain ⟨a, rfl⟩ := Int.eq_ofNat_of_zero_le (by omega : 0 ≤ at_)
  have ha : a ≤ s.size := by omega
  have hres : rvRes s a = rvVal a (Pl.rvF 5 [] (s.data.toList.drop a)) := by unfold rvRes; rw [if_pos (by omega)]; rfl
  rw [hres]
  clear hres h0 h1
  go_enter Tryz.func95, Tryz.ntmps95
  go_wp2
  all_goals
    go_loop [8, 9, 10] (fun nn sc i => ∃ (k m c : Nat) (pre : List UInt8), i = .int .i64 k ∧ nn = .int .i64 m ∧ sc = .int .i64 c ∧ a ≤ k ∧ k ≤ s.size ∧ k ≤ a + 5 ∧ Hid (RvAt s a k m c pre)) (fun _ _ i => s.size - (intOf i).toNat)
    case atStart => exact ⟨a, 0, 1, [], rfl, rfl, rfl, by omega, by omega, by omega, RvAt.start s a⟩
    case round =>
      obtain ⟨k, m, c, pre, rfl, rfl, rfl, hak, hks, hk5, H⟩ := hrel
      by_cases hlt : k < s.size ∧ k < a + 5
      · obtain ⟨hlt, h5⟩ := hlt
        obtain ⟨hm, hc⟩ := H.out.small h5
        have hmul := Pl.mul_bound (s[k].toNat % 128) c (by omega) hc
        have hq1 : ((s[k].toNat : Int) % 128) * (c : Int) ≤ 34359738368 := by rw [← Pl.mul_int]; omega
        have hq0 : 0 ≤ ((s[k].toNat : Int) % 128) * (c : Int) := by rw [← Pl.mul_int]; omega
        have h256 : s[k].toNat < 256 := s[k].toNat_lt
        clear hmul
        by_cases hb : 128 ≤ s[k].toNat
        · have HN : Hid (RvAt s a (k + 1) (m + s[k].toNat % 128 * c) (c * 128) (pre ++ [s[k]])) := H.out.on hlt h5 hb
          go_wp2
          go_round
          case rel => exact ⟨k + 1, m + s[k].toNat % 128 * c, c * 128, _, by go_num, by rw [Int.natCast_add, Pl.mul_int], by go_num, by omega, by omega, by omega, HN.out⟩
          case measure => simp [intOf]; omega
        · go_wp2
          all_goals go_ret3
          · have hz : s[k].toNat = 0 := by assumption
            exact ⟨by rw [H.out.yes hlt h5 (by omega) (by omega) m (by rw [hz]; simp) (by omega)]; rfl, rfl⟩
          · have hz : s[k].toNat = 0 := by assumption
            have hk2 : ¬ k ≤ a := by assumption
            exact ⟨by rw [H.out.no hlt h5 (by omega) (.inl (by omega))]; rfl, rfl⟩
          · have hz : 1000000000 < (m : Int) + (s[k].toNat : Int) % 128 * (c : Int) := by assumption
            exact ⟨by rw [H.out.no hlt h5 (by omega) (.inr hz)]; rfl, rfl⟩
          · have hz : (m : Int) + (s[k].toNat : Int) % 128 * (c : Int) ≤ 1000000000 := by assumption
            exact ⟨by rw [H.out.yes hlt h5 (by omega) (by omega) _ rfl hz]; rfl, rfl⟩
      · go_wp2
        go_ret3
        exact ⟨by rw [H.out.out hlt]; rfl, rfl⟩
end PartVrB
section PartVrC
open Go.RowKit

set_option maxHeartbeats 800000 in
set_option maxRecDepth 100000 in
theorem specRv_any (s : ByteArray) (at_ : Int) (w : World) (hs : s.size ≤ 1048576) :
    Calls Tryz.prog 67 #[.string s, .int .i64 at_] w fun e w' => e = .returned (rvRes s at_) ∧ Below w.heap.size w w' := by
  by_cases h0 : at_ < 0 ∨ (s.size : Int) < at_
  · have hres : rvRes s at_ = .tuple #[.int .i64 0, .int .i64 0, .bool false] := by unfold rvRes; rw [if_neg (by omega)]; rfl
    rw [hres]
    clear hres
    go_enter Tryz.func67, Tryz.ntmps67
    go_wp2_with (go_at_call 49; refine (l01In_no _ _ _ _ (by omega)).mono ?_; rintro e w' ⟨rfl, rfl⟩)
    go_ret3
    exact ⟨rfl, Below.refl _ _⟩
  obtain ⟨a, rfl⟩ := Int.eq_ofNat_of_zero_le (by omega : 0 ≤ at_)
  have ha : a ≤ s.size := by omega
  have hres : rvRes s a = rvVal a (Pl.rvF 5 [] (s.data.toList.drop a)) := by unfold rvRes; rw [if_pos (by omega)]; rfl
  rw [hres]
  clear hres h0
  go_enter Tryz.func67, Tryz.ntmps67
  go_wp2_with (go_at_call 49; refine (l01In_yes _ _ _ _ (by omega) (by omega)).mono ?_; rintro e w' ⟨rfl, rfl⟩)
  go_loop [7, 8, 9] (fun nn sc i => ∃ (k m c : Nat) (pre : List UInt8), i = .int .i64 k ∧ nn = .int .i64 m ∧ sc = .int .i64 c ∧ a ≤ k ∧ k ≤ s.size ∧ k ≤ a + 5 ∧ Hid (RvAt s a k m c pre)) (fun _ _ i => s.size - (intOf i).toNat)
  case atStart => exact ⟨a, 0, 1, [], rfl, rfl, rfl, by omega, by omega, by omega, RvAt.start s a⟩
  case round =>
    obtain ⟨k, m, c, pre, rfl, rfl, rfl, hak, hks, hk5, H⟩ := hrel
    by_cases hlt : k < s.size
    · by_cases h5 : k < a + 5
      · obtain ⟨hm, hc⟩ := H.out.small h5
        have hmul := Pl.mul_bound (s[k].toNat % 128) c (by omega) hc
        have hq1 : ((s[k].toNat : Int) % 128) * (c : Int) ≤ 34359738368 := by rw [← Pl.mul_int]; omega
        have hq0 : 0 ≤ ((s[k].toNat : Int) % 128) * (c : Int) := by rw [← Pl.mul_int]; omega
        have h256 : s[k].toNat < 256 := s[k].toNat_lt
        clear hmul
        have hd5 : decide ((k : Int) < (a : Int) + 5) = true := by simp; omega
        by_cases hb : 128 ≤ s[k].toNat
        · have HN : Hid (RvAt s a (k + 1) (m + s[k].toNat % 128 * c) (c * 128) (pre ++ [s[k]])) := H.out.on hlt h5 hb
          go_wp2
          go_round
          case rel => exact ⟨k + 1, m + s[k].toNat % 128 * c, c * 128, _, by go_num, by rw [Int.natCast_add, Pl.mul_int], by go_num, by omega, by omega, by omega, HN.out⟩
          case measure => simp [intOf]; omega
        · by_cases hbig : 1000000000 < (m : Int) + (s[k].toNat : Int) % 128 * (c : Int)
          · go_wp2_with fail
            go_quiet (fail)
            go_wp2
            go_ret3
            exact ⟨by rw [H.out.no hlt h5 (by omega) (.inr hbig)]; rfl, below_drewN (Below.refl _ _) _⟩
          · have hbd : decide (1000000000 < (m : Int) + (s[k].toNat : Int) % 128 * (c : Int)) = false := by simp; omega
            go_wp2_with fail
            have hi1 : (a : Int) ≤ (k : Int) + 1 := by omega
            have hi2 : (k : Int) + 1 ≤ (s.size : Int) := by omega
            have hi3 : (0 : Int) ≤ (k : Int) + 1 := by omega
            have hwr : IntKind.i64.wrap ((k : Int) + 1) = (k : Int) + 1 := IntWalk.i64_in _ (by omega)
            have hsl : ∀ wx, (Instr.slice 9 (.string s) (some (.int .i64 (a : Int))) (some (.int .i64 ((k : Int) + 1))) none).run Tryz.prog wx = .ok (.string (s.extract a (k + 1))) wx := by
              intro wx
              rw [run_slice_string wx 9 s .i64 .i64 (a : Int) ((k : Int) + 1) Tryz.underlying9 (by omega) (by omega) (by omega)]
              rfl
            go_region_held3 (fun _ => True) (go_keep) ((go_at_call 69; refine (l01Var_int _ _ (by omega) (by omega)).mono ?_; rintro e w1 ⟨rfl, hb1⟩))
            go_wp2
            · have hne : (!Pl.vb 8 ((m : Int) + (s[k].toNat : Int) % 128 * (c : Int)).toNat == (s.extract a (k + 1)).toList) = true := by assumption
              have hz : s[k].toNat = 0 ∧ a < k := by
                refine Classical.byContradiction fun hn => ?_
                rw [(H.out.cmp hlt h5 (by omega)).2 hn] at hne
                cases hne
              go_ret3
              exact ⟨by rw [H.out.no hlt h5 (by omega) (.inl hz)]; rfl, (Below.refl _ _).drew.trans hb1⟩
            · have hne : (!Pl.vb 8 ((m : Int) + (s[k].toNat : Int) % 128 * (c : Int)).toNat == (s.extract a (k + 1)).toList) = false := by assumption
              have hz := (H.out.cmp hlt h5 (by omega)).1 (by simpa using hne)
              go_ret3
              exact ⟨by rw [H.out.yes hlt h5 (by omega) hz _ rfl (by omega)]; rfl, (Below.refl _ _).drew.trans hb1⟩
      · have hd5 : decide ((k : Int) < (a : Int) + 5) = false := by simp; omega
        go_wp2
        go_ret3
        exact ⟨by rw [H.out.out (by omega)]; rfl, Below.refl _ _⟩
    · go_wp2
      go_ret3
      exact ⟨by rw [H.out.out (by omega)]; rfl, Below.refl _ _⟩

end PartVrC
section PartVrD
open Go.RowKit

set_option maxHeartbeats 400000 in
theorem vclone_any (s : ByteArray) (w : World) (h : s.size ≤ 1048576) :
    Calls Tryz.prog 96 #[.string s] w fun e w' => e = .returned (.string s) ∧ Below w.heap.size w w' := by
  go_enter Tryz.func96, Tryz.ntmps96
  go_wp2_with (go_at_call 107; refine (Tryz.stringslite_Clone s _ (by omega)).mono ?_; rintro e w' ⟨rfl, hb⟩)
  go_ret
  exact ⟨rfl, hb⟩

set_option maxHeartbeats 800000 in
set_option maxRecDepth 100000 in
theorem specReadShort_no (s : ByteArray) (n : Int) (w : World) (hs : s.size ≤ 1048576) (hr : rvRes s n = .tuple #[.int .i64 0, .int .i64 0, .bool false]) :
    Calls Tryz.prog 65 #[.string s, .int .i64 n] w fun e w' => e = .returned (.tuple #[.string ⟨#[]⟩, .int .i64 0, .bool false]) ∧ Below w.heap.size w w' := by
  have c1 := fun w => specRv_any s n w hs
  rw [hr] at c1
  have C1 : Hid (∀ w, Calls Tryz.prog 67 #[.string s, .int .i64 n] w fun e w' => e = .returned (.tuple #[.int .i64 0, .int .i64 0, .bool false]) ∧ Below w.heap.size w w') := c1
  clear c1 hr
  go_enter Tryz.func65, Tryz.ntmps65
  go_wp2_with (go_at_call 67; refine (C1.out _).mono ?_; rintro e w1 ⟨rfl, hb1⟩)
  go_ret3
  exact ⟨rfl, hb1⟩

set_option maxHeartbeats 800000 in
set_option maxRecDepth 100000 in
theorem specReadShort_much (s : ByteArray) (n : Int) (w : World) (hs : s.size ≤ 1048576) (m k : Nat) (hm : m ≤ 1000000000) (_hk : k ≤ s.size) (hr : rvRes s n = .tuple #[.int .i64 m, .int .i64 k, .bool true]) (h : 20000 < m) :
    Calls Tryz.prog 65 #[.string s, .int .i64 n] w fun e w' => e = .returned (.tuple #[.string ⟨#[]⟩, .int .i64 0, .bool false]) ∧ Below w.heap.size w w' := by
  have c1 := fun w => specRv_any s n w hs
  rw [hr] at c1
  have C1 : Hid (∀ w, Calls Tryz.prog 67 #[.string s, .int .i64 n] w fun e w' => e = .returned (.tuple #[.int .i64 m, .int .i64 k, .bool true]) ∧ Below w.heap.size w w') := c1
  clear c1 hr
  have hd : decide ((20000 : Int) < (m : Int)) = true := by simp; omega
  go_enter Tryz.func65, Tryz.ntmps65
  go_wp2_with (go_at_call 67; refine (C1.out _).mono ?_; rintro e w1 ⟨rfl, hb1⟩)
  go_ret3
  exact ⟨rfl, hb1⟩

set_option maxHeartbeats 800000 in
set_option maxRecDepth 100000 in
theorem specReadShort_short (s : ByteArray) (n : Int) (w : World) (hs : s.size ≤ 1048576) (m k : Nat) (hm : m ≤ 20000) (hk : k ≤ s.size) (hr : rvRes s n = .tuple #[.int .i64 m, .int .i64 k, .bool true]) (h : s.size < k + m) :
    Calls Tryz.prog 65 #[.string s, .int .i64 n] w fun e w' => e = .returned (.tuple #[.string ⟨#[]⟩, .int .i64 0, .bool false]) ∧ Below w.heap.size w w' := by
  have c1 := fun w => specRv_any s n w hs
  rw [hr] at c1
  have C1 : Hid (∀ w, Calls Tryz.prog 67 #[.string s, .int .i64 n] w fun e w' => e = .returned (.tuple #[.int .i64 m, .int .i64 k, .bool true]) ∧ Below w.heap.size w w') := c1
  clear c1 hr
  have hd : decide ((20000 : Int) < (m : Int)) = false := by simp; omega
  have hd2 : decide ((s.size : Int) - (k : Int) < (m : Int)) = true := by simp; omega
  go_enter Tryz.func65, Tryz.ntmps65
  go_wp2_with (go_at_call 67; refine (C1.out _).mono ?_; rintro e w1 ⟨rfl, hb1⟩)
  go_ret3
  exact ⟨rfl, hb1⟩

set_option maxHeartbeats 800000 in
set_option maxRecDepth 100000 in
theorem specReadShort_yes (s : ByteArray) (n : Int) (w : World) (hs : s.size ≤ 1048576) (m k : Nat) (hm : m ≤ 20000) (hk : k + m ≤ s.size) (hr : rvRes s n = .tuple #[.int .i64 m, .int .i64 k, .bool true]) :
    Calls Tryz.prog 65 #[.string s, .int .i64 n] w fun e w' => e = .returned (.tuple #[.string (s.extract k (k + m)), .int .i64 ((k : Int) + (m : Int)), .bool true]) ∧ Below w.heap.size w w' := by
  have c1 := fun w => specRv_any s n w hs
  rw [hr] at c1
  have C1 : Hid (∀ w, Calls Tryz.prog 67 #[.string s, .int .i64 n] w fun e w' => e = .returned (.tuple #[.int .i64 m, .int .i64 k, .bool true]) ∧ Below w.heap.size w w') := c1
  clear c1 hr
  have hd : decide ((20000 : Int) < (m : Int)) = false := by simp; omega
  have hd2 : decide ((s.size : Int) - (k : Int) < (m : Int)) = false := by simp; omega
  have hto : ((k : Int) + (m : Int)).toNat = k + m := by omega
  go_enter Tryz.func65, Tryz.ntmps65
  go_wp2_with (go_at_call 67; refine (C1.out _).mono ?_; rintro e w1 ⟨rfl, hb1⟩)
  go_ret3
  exact ⟨rfl, hb1⟩

set_option maxHeartbeats 800000 in
set_option maxRecDepth 100000 in
theorem implReadShort_no (s : ByteArray) (n : Int) (w : World) (hs : s.size ≤ 1048576) (hr : rvRes s n = .tuple #[.int .i64 0, .int .i64 0, .bool false]) :
    Calls Tryz.prog 72 #[.string s, .int .i64 n] w fun e w' => e = .returned (.tuple #[.string ⟨#[]⟩, .int .i64 0, .bool false]) ∧ Below w.heap.size w w' := by
  have c1 := fun w => implRv_any s n w hs
  rw [hr] at c1
  have C1 : Hid (∀ w, Calls Tryz.prog 95 #[.string s, .int .i64 n] w fun e w' => e = .returned (.tuple #[.int .i64 0, .int .i64 0, .bool false]) ∧ w' = w) := c1
  clear c1 hr
  go_enter Tryz.func72, Tryz.ntmps72
  go_wp2_with (go_at_call 95; refine (C1.out _).mono ?_; rintro e w1 ⟨rfl, rfl⟩)
  go_ret3
  exact ⟨rfl, Below.refl _ _⟩

set_option maxHeartbeats 800000 in
set_option maxRecDepth 100000 in
theorem implReadShort_much (s : ByteArray) (n : Int) (w : World) (hs : s.size ≤ 1048576) (m k : Nat) (hm : m ≤ 1000000000) (_hk : k ≤ s.size) (hr : rvRes s n = .tuple #[.int .i64 m, .int .i64 k, .bool true]) (h : 20000 < m) :
    Calls Tryz.prog 72 #[.string s, .int .i64 n] w fun e w' => e = .returned (.tuple #[.string ⟨#[]⟩, .int .i64 0, .bool false]) ∧ Below w.heap.size w w' := by
  have c1 := fun w => implRv_any s n w hs
  rw [hr] at c1
  have C1 : Hid (∀ w, Calls Tryz.prog 95 #[.string s, .int .i64 n] w fun e w' => e = .returned (.tuple #[.int .i64 m, .int .i64 k, .bool true]) ∧ w' = w) := c1
  clear c1 hr
  have hd : decide ((20000 : Int) < (m : Int)) = true := by simp; omega
  go_enter Tryz.func72, Tryz.ntmps72
  go_wp2_with (go_at_call 95; refine (C1.out _).mono ?_; rintro e w1 ⟨rfl, rfl⟩)
  go_ret3
  exact ⟨rfl, Below.refl _ _⟩

set_option maxHeartbeats 800000 in
set_option maxRecDepth 100000 in
theorem implReadShort_short (s : ByteArray) (n : Int) (w : World) (hs : s.size ≤ 1048576) (m k : Nat) (hm : m ≤ 20000) (hk : k ≤ s.size) (hr : rvRes s n = .tuple #[.int .i64 m, .int .i64 k, .bool true]) (h : s.size < k + m) :
    Calls Tryz.prog 72 #[.string s, .int .i64 n] w fun e w' => e = .returned (.tuple #[.string ⟨#[]⟩, .int .i64 0, .bool false]) ∧ Below w.heap.size w w' := by
  have c1 := fun w => implRv_any s n w hs
  rw [hr] at c1
  have C1 : Hid (∀ w, Calls Tryz.prog 95 #[.string s, .int .i64 n] w fun e w' => e = .returned (.tuple #[.int .i64 m, .int .i64 k, .bool true]) ∧ w' = w) := c1
  clear c1 hr
  have hd : decide ((20000 : Int) < (m : Int)) = false := by simp; omega
  have hd2 : decide ((s.size : Int) - (k : Int) < (m : Int)) = true := by simp; omega
  go_enter Tryz.func72, Tryz.ntmps72
  go_wp2_with (go_at_call 95; refine (C1.out _).mono ?_; rintro e w1 ⟨rfl, rfl⟩)
  go_ret3
  exact ⟨rfl, Below.refl _ _⟩

set_option maxHeartbeats 800000 in
set_option maxRecDepth 100000 in
theorem implReadShort_yes (s : ByteArray) (n : Int) (w : World) (hs : s.size ≤ 1048576) (m k : Nat) (hm : m ≤ 20000) (hk : k + m ≤ s.size) (hr : rvRes s n = .tuple #[.int .i64 m, .int .i64 k, .bool true]) :
    Calls Tryz.prog 72 #[.string s, .int .i64 n] w fun e w' => e = .returned (.tuple #[.string (s.extract k (k + m)), .int .i64 ((k : Int) + (m : Int)), .bool true]) ∧ Below w.heap.size w w' := by
  have c1 := fun w => implRv_any s n w hs
  rw [hr] at c1
  have C1 : Hid (∀ w, Calls Tryz.prog 95 #[.string s, .int .i64 n] w fun e w' => e = .returned (.tuple #[.int .i64 m, .int .i64 k, .bool true]) ∧ w' = w) := c1
  clear c1 hr
  have hd : decide ((20000 : Int) < (m : Int)) = false := by simp; omega
  have hd2 : decide ((s.size : Int) - (k : Int) < (m : Int)) = false := by simp; omega
  have hto : ((k : Int) + (m : Int)).toNat = k + m := by omega
  go_enter Tryz.func72, Tryz.ntmps72
  go_wp2_with (first | (go_at_call 95; refine (C1.out _).mono ?_; rintro e w1 ⟨rfl, rfl⟩) | (go_at_call 96; refine (vclone_any _ _ (by simp; omega)).mono ?_; rintro e w2 ⟨rfl, hb2⟩))
  go_ret3
  exact ⟨rfl, hb2⟩

end PartVrD
section PartBwA
open Go.RowKit

/-- What lies in rows of another kind than bytes, but for block b, is as it was. -/
def Ok5 (b : Nat) (w w' : World) : Prop := ∀ (j : Nat) (arr : Array Value) (t : TypeId) (fr : Nat × Nat), w.heap[j]? = some (.cells arr t fr) → t ≠ 5 → j ≠ b → w'.heap[j]? = some (.cells arr t fr)
theorem Ok5.refl (b : Nat) (w : World) : Ok5 b w w := fun _ _ _ _ h _ _ => h
theorem Ok5.set {b : Nat} {w w' : World} (h : Ok5 b w w') (k : Nat) (u : Value) : Ok5 b w (w'.setCell ⟨b, k, none⟩ u) := fun j arr t fr h1 h2 h3 => by
  rw [Below.heap_setCell _ _ _ _ (by exact h3)]
  exact h j arr t fr h1 h2 h3
theorem Ok5.trans {b : Nat} {w w1 w2 : World} (h : Ok5 b w w1) (h' : Ok5 b w1 w2) : Ok5 b w w2 := fun j arr t fr h1 h2 h3 => h' j arr t fr (h j arr t fr h1 h2 h3) h2 h3
theorem Ok5.below {b : Nat} {w w1 : World} (h : Below w.heap.size w w1) : Ok5 b w w1 := fun j _ _ _ h1 _ _ => (h.block j (blk_lt h1)).trans h1

theorem cat_list (a : List UInt8) (s : ByteArray) : (⟨a.toArray⟩ ++ s : ByteArray) = ⟨(a ++ s.data.toList).toArray⟩ := by
  apply ByteArray.ext
  simp
theorem l01_bytes (n : Nat) : (Pl.vb 8 n).length ≤ 9 := by
  suffices h : ∀ f n, (Pl.vb f n).length ≤ f + 1 from h 8 n
  intro f
  induction f with
  | zero => intro n; simp [Pl.vb]
  | succ f ih =>
    intro n
    by_cases h : 127 < n
    · rw [Pl.vb_more f n h]
      have := ih (n / 128)
      simp
      omega
    · rw [Pl.vb_last (f + 1) n h]
      simp

end PartBwA
end Go.Proofs.YtehagonaacbmiaaGreat
