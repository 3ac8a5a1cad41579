/- Plain facts, without the program: what a number read at a place of a text is, byte by byte. What spec.l01Var and both VarText answer, at every number. What both ReadVar answer, at every text and place. -/
import Derived.Test.YtbghghflepjdkaaZac
import Derived.Lib.Strings
import Derived.BigQuiet
import Derived.BigRegion
import Derived.Deep.RegionWith
import Derived.Deep.QuietTactic
namespace Go.Proofs.Ytbghghflepjdkaa
section PartPlainB
namespace Pl

/-- pre: the bytes read so far; the third: those that follow; at most f more are read. The number, and how many bytes. -/
def rvF : Nat → List UInt8 → List UInt8 → Option (Nat × Nat)
  | 0, _, _ => none
  | _ + 1, _, [] => none
  | f + 1, pre, b :: r => if b.toNat < 128 then (if (b.toNat = 0 ∧ 0 < pre.length) ∨ 1000000000 < val (pre ++ [b]) then none else some (val (pre ++ [b]), pre.length + 1)) else rvF f (pre ++ [b]) r

theorem rvF_nil (f : Nat) (pre : List UInt8) : rvF f pre [] = none := by cases f <;> rfl
theorem rvF_on (f : Nat) (pre : List UInt8) (b : UInt8) (r : List UInt8) (h : 128 ≤ b.toNat) : rvF (f + 1) pre (b :: r) = rvF f (pre ++ [b]) r := by
  rw [rvF, if_neg (by omega)]
theorem rvF_bad (f : Nat) (pre : List UInt8) (b : UInt8) (r : List UInt8) (h : b.toNat < 128) (h2 : (b.toNat = 0 ∧ 0 < pre.length) ∨ 1000000000 < val (pre ++ [b])) : rvF (f + 1) pre (b :: r) = none := by
  rw [rvF, if_pos h, if_pos h2]
theorem rvF_end (f : Nat) (pre : List UInt8) (b : UInt8) (r : List UInt8) (h : b.toNat < 128) (h2 : ¬ ((b.toNat = 0 ∧ 0 < pre.length) ∨ 1000000000 < val (pre ++ [b]))) : rvF (f + 1) pre (b :: r) = some (val (pre ++ [b]), pre.length + 1) := by
  rw [rvF, if_pos h, if_neg h2]

/-- Of what is read: the number is at most MaxNumber, and the bytes are there. -/
theorem rvF_some (f : Nat) (pre r : List UInt8) (n k : Nat) (h : rvF f pre r = some (n, k)) : n ≤ 1000000000 ∧ k ≤ pre.length + r.length := by
  induction f generalizing pre r with
  | zero => simp [rvF] at h
  | succ f ih =>
    cases r with
    | nil => simp [rvF] at h
    | cons b r =>
      by_cases hb : b.toNat < 128
      · by_cases h2 : (b.toNat = 0 ∧ 0 < pre.length) ∨ 1000000000 < val (pre ++ [b])
        · rw [rvF_bad f pre b r hb h2] at h; cases h
        · rw [rvF_end f pre b r hb h2] at h
          simp only [Option.some.injEq, Prod.mk.injEq] at h
          obtain ⟨rfl, rfl⟩ := h
          simp; omega
      · rw [rvF_on f pre b r (by omega)] at h
        have := ih _ _ h
        simp at this ⊢; omega

theorem drop_cons (l : List UInt8) (k : Nat) (h : k < l.length) : l.drop k = l[k] :: l.drop (k + 1) := by
  rw [List.drop_eq_getElem_cons h]

theorem Goes.snoc {l : List UInt8} {b : UInt8} (h : Goes l) (hb : 128 ≤ b.toNat) : Goes (l ++ [b]) := by
  intro c hc
  simp at hc
  rcases hc with hc | rfl
  · exact h c hc
  · exact hb

theorem mul_bound (c sc : Nat) (hc : c < 128) (hs : sc ≤ 268435456) : c * sc ≤ 34359738368 := by
  have := Nat.mul_le_mul (show c ≤ 128 by omega) hs
  omega
theorem mul_int (b c : Nat) : ((b % 128 * c : Nat) : Int) = (b : Int) % 128 * (c : Int) := by rw [Int.natCast_mul, Int.natCast_emod]; rfl
end Pl
end PartPlainB
section PartVrA
open Go.RowKit

theorem vb_round (n f m : Nat) (xs : List UInt8) (hf : m < 128 ^ (f + 1)) (he : xs ++ Pl.vb f m = Pl.vb 8 n) (h : 127 < m) :
    ∃ g, f = g + 1 ∧ m / 128 < 128 ^ (g + 1) ∧ (xs ++ [Pl.hb m]) ++ Pl.vb g (m / 128) = Pl.vb 8 n := by
  cases f with
  | zero => simp at hf; omega
  | succ g =>
    refine ⟨g, rfl, ?_, ?_⟩
    · rw [Nat.pow_succ] at hf; omega
    · rw [Pl.vb_more g m h] at he; simpa using he

set_option maxHeartbeats 400000 in
theorem l01Var_any (n : Nat) (w : World) (hn : n < 9223372036854775808) :
    Calls Try.prog 26 #[.int .i64 n] w fun e w' => e = .returned (.string ⟨(Pl.vb 8 n).toArray⟩) ∧ Below w.heap.size w w' := by
  go_enter Try.func26, Try.ntmps26
  go_wp2
  go_loopw [0, 3] (fun i v wr => ∃ (m f : Nat) (xs : List UInt8), i = .int .i64 m ∧ m < 9223372036854775808 ∧ Row w.heap.size wr v xs ∧ Below w.heap.size w wr ∧ Hid (m < 128 ^ (f + 1)) ∧ Hid (xs.length + f = 8) ∧ Hid (xs ++ Pl.vb f m = Pl.vb 8 n)) (fun i _ _ => (intOf i).toNat)
  case atStart => exact ⟨n, 8, [], rfl, hn, Row.made w #[] 0 (Nat.le_refl _) (by decide) rfl, (Below.refl _ _).alloc (Nat.le_refl _) _, hn, rfl, rfl⟩
  case round =>
    obtain ⟨m, f, xs, rfl, hm, hrow, hbel, H1, H2, H3⟩ := hrel
    have hsz := hbel.size
    have hxl : xs.length ≤ 8 := by have := H2.out; omega
    by_cases hlt : 127 < m
    · obtain ⟨g, hg, hq, hv⟩ := vb_round n f m xs H1.out H3.out hlt
      have HG : Hid (f = g + 1) := hg
      have HQ : Hid (m / 128 < 128 ^ (g + 1)) := hq
      have HV : Hid ((xs ++ [Pl.hb m]) ++ Pl.vb g (m / 128) = Pl.vb 8 n) := hv
      clear hg hq hv
      go_wp2_with (at_builtin; go_must (refine hrow.push rfl (.tmp 7) (.tmp 12) rfl rfl _ (Pl.hb m) ?hz rfl ?hl ?hb ?_))
      case hz => have := Pl.hb_nat m; omega
      case hl => omega
      case hb => omega
      · intro v' w1 hrow' hbel'
        go_wp2
        go_roundw
        case rel => exact ⟨m / 128, g, _, by go_num, by omega, hrow', hbel.trans hbel', HQ.out, by have h1 := H2.out; have h2 := HG.out; show _ = 8; simp; omega, HV.out⟩
        case measure => simp [intOf]; omega
    · go_wp2_with (at_builtin; go_must (refine hrow.push rfl (.tmp 16) (.tmp 19) rfl rfl _ (UInt8.ofNat m) ?hz2 rfl ?hl2 ?hb2 ?_))
      case hz2 => have := Pl.small m (by omega); omega
      case hl2 => omega
      case hb2 => omega
      · intro v' w1 hrow' hbel'
        have hst := hrow'.str
        go_wp2
        go_ret
        refine ⟨?_, hbel.trans hbel'⟩
        have h3 := H3.out
        rw [Pl.vb_last f m hlt] at h3
        rw [h3]
        rfl

theorem l01Var_int (z : Int) (w : World) (h0 : 0 ≤ z) (h1 : z < 9223372036854775808) :
    Calls Try.prog 26 #[.int .i64 z] w fun e w' => e = .returned (.string ⟨(Pl.vb 8 z.toNat).toArray⟩) ∧ Below w.heap.size w w' := by
  obtain ⟨n, rfl⟩ := Int.eq_ofNat_of_zero_le h0
  rw [Int.toNat_natCast]
  exact l01Var_any n w (by omega)

set_option maxHeartbeats 400000 in
theorem l01In_yes (x a b : Int) (w : World) (h1 : a ≤ x) (h2 : x ≤ b) :
    Calls Try.prog 35 #[.int .i64 x, .int .i64 a, .int .i64 b] w fun e w' => e = .returned (.bool true) ∧ w' = w := by
  have d2 : decide (x ≤ b) = true := by simpa using h2
  go_enter Try.func35, Try.ntmps35
  go_wp2
  go_ret
  exact ⟨rfl, rfl⟩
set_option maxHeartbeats 400000 in
theorem l01In_no (x a b : Int) (w : World) (h : x < a ∨ b < x) :
    Calls Try.prog 35 #[.int .i64 x, .int .i64 a, .int .i64 b] w fun e w' => e = .returned (.bool false) ∧ w' = w := by
  by_cases h1 : x < a
  · have d1 : decide (a ≤ x) = false := by simpa using h1
    clear h
    go_enter Try.func35, Try.ntmps35
    go_wp2
    go_ret
    exact ⟨rfl, rfl⟩
  · have h2 : b < x := by omega
    have d2 : decide (x ≤ b) = false := by simpa using h2
    clear h
    go_enter Try.func35, Try.ntmps35
    go_wp2
    go_ret
    exact ⟨rfl, rfl⟩

end PartVrA
section PartVrB
open Go.RowKit

def rvVal (at_ : Int) : Option (Nat × Nat) → Value
  | some (n, k) => .tuple #[.int .i64 n, .int .i64 (at_ + k), .bool true]
  | none => .tuple #[.int .i64 0, .int .i64 0, .bool false]
/-- What ReadVar answers. -/
def rvRes (s : ByteArray) (at_ : Int) : Value := rvVal at_ (if 0 ≤ at_ ∧ at_ ≤ s.size then Pl.rvF 5 [] (s.data.toList.drop at_.toNat) else none)

/-- What is held at a round's head: the bytes pre from place a on are read, each goes on; m is their number, c the weight of the next. -/
structure RvAt (s : ByteArray) (a k m c : Nat) (pre : List UInt8) : Prop where
  num : m = Pl.val pre
  weight : c = 128 ^ pre.length
  place : a + pre.length = k
  goes : Pl.Goes pre
  rest : Pl.rvF (5 - pre.length) pre (s.data.toList.drop k) = Pl.rvF 5 [] (s.data.toList.drop a)
  ahead : (s.data.toList.drop a).take pre.length = pre

theorem RvAt.start (s : ByteArray) (a : Nat) : RvAt s a a 0 1 [] := ⟨rfl, rfl, rfl, (fun _ h => by cases h), rfl, rfl⟩

theorem vdrop_at (s : ByteArray) (k : Nat) (h : k < s.size) : s.data.toList.drop k = s[k] :: s.data.toList.drop (k + 1) := by
  exact Pl.drop_cons s.data.toList k (by simpa using h)

theorem RvAt.ahead_more {s : ByteArray} {a k m c : Nat} {pre : List UInt8} (h : RvAt s a k m c pre) (hk : k < s.size) :
    (s.data.toList.drop a).take (pre ++ [s[k]]).length = pre ++ [s[k]] := by
  have h1 := h.ahead
  have h2 := h.place
  rw [List.length_append, List.length_singleton, List.take_add_one, h1]
  congr 1
  rw [List.getElem?_drop, h2]
  simp [hk]
  rfl

theorem RvAt.on {s : ByteArray} {a k m c : Nat} {pre : List UInt8} (h : RvAt s a k m c pre) (hk : k < s.size) (h5 : k < a + 5) (hb : 128 ≤ s[k].toNat) :
    RvAt s a (k + 1) (m + s[k].toNat % 128 * c) (c * 128) (pre ++ [s[k]]) := by
  have hl := h.place
  refine ⟨?_, ?_, ?_, h.goes.snoc hb, ?_, h.ahead_more hk⟩
  · rw [Pl.val_snoc, ← h.num, ← h.weight, Nat.mul_comm]
  · rw [h.weight, List.length_append, List.length_singleton, Nat.pow_succ]
  · simp; omega
  · rw [← h.rest, vdrop_at s k hk]
    have e : 5 - pre.length = (5 - (pre ++ [s[k]]).length) + 1 := by simp; omega
    rw [e, Pl.rvF_on _ _ _ _ hb]

theorem RvAt.done {s : ByteArray} {a k m c : Nat} {pre : List UInt8} (h : RvAt s a k m c pre) (hk : k < s.size) (h5 : k < a + 5) (hb : s[k].toNat < 128) :
    ((s[k].toNat = 0 ∧ a < k) ∨ 1000000000 < m + s[k].toNat % 128 * c) ∧ Pl.rvF 5 [] (s.data.toList.drop a) = none ∨
    ¬ ((s[k].toNat = 0 ∧ a < k) ∨ 1000000000 < m + s[k].toNat % 128 * c) ∧ Pl.rvF 5 [] (s.data.toList.drop a) = some (m + s[k].toNat % 128 * c, k + 1 - a) := by
  have hl := h.place
  have hv : Pl.val (pre ++ [s[k]]) = m + s[k].toNat % 128 * c := by rw [Pl.val_snoc, ← h.num, ← h.weight, Nat.mul_comm]
  have e : 5 - pre.length = (4 - pre.length) + 1 := by omega
  have hr := h.rest
  rw [vdrop_at s k hk, e] at hr
  rw [← hr, ← hv]
  by_cases hbad : (s[k].toNat = 0 ∧ a < k) ∨ 1000000000 < Pl.val (pre ++ [s[k]])
  · exact .inl ⟨hbad, Pl.rvF_bad _ _ _ _ hb (by omega)⟩
  · refine .inr ⟨hbad, ?_⟩
    rw [Pl.rvF_end _ _ _ _ hb (by omega)]
    congr 2
    omega

theorem RvAt.yes {s : ByteArray} {a k m c : Nat} {pre : List UInt8} (h : RvAt s a k m c pre) (hk : k < s.size) (h5 : k < a + 5) (hb : s[k].toNat < 128)
    (h1 : ¬ (s[k].toNat = 0 ∧ a < k)) (z : Int) (hz : z = (m : Int) + (s[k].toNat : Int) % 128 * (c : Int)) (h2 : z ≤ 1000000000) :
    rvVal a (Pl.rvF 5 [] (s.data.toList.drop a)) = .tuple #[.int .i64 z, .int .i64 ((k : Int) + 1), .bool true] := by
  have hl := h.place
  rw [← Pl.mul_int] at hz
  rcases h.done hk h5 hb with ⟨hbad, _⟩ | ⟨_, e⟩
  · omega
  · rw [e]
    show Value.tuple #[.int .i64 ((m + s[k].toNat % 128 * c : Nat) : Int), .int .i64 ((a : Int) + ((k + 1 - a : Nat) : Int)), .bool true] = _
    have e1 : ((m + s[k].toNat % 128 * c : Nat) : Int) = z := by omega
    have e2 : (a : Int) + ((k + 1 - a : Nat) : Int) = (k : Int) + 1 := by omega
    rw [e1, e2]

theorem RvAt.no {s : ByteArray} {a k m c : Nat} {pre : List UInt8} (h : RvAt s a k m c pre) (hk : k < s.size) (h5 : k < a + 5) (hb : s[k].toNat < 128)
    (h1 : (s[k].toNat = 0 ∧ a < k) ∨ 1000000000 < (m : Int) + (s[k].toNat : Int) % 128 * (c : Int)) :
    Pl.rvF 5 [] (s.data.toList.drop a) = none := by
  rw [← Pl.mul_int] at h1
  rcases h.done hk h5 hb with ⟨_, e⟩ | ⟨hbad, _⟩
  · exact e
  · omega

theorem RvAt.cmp {s : ByteArray} {a k m c : Nat} {pre : List UInt8} (h : RvAt s a k m c pre) (hk : k < s.size) (h5 : k < a + 5) (hb : s[k].toNat < 128) :
    (Pl.vb 8 ((m : Int) + (s[k].toNat : Int) % 128 * (c : Int)).toNat == (s.extract a (k + 1)).toList) = true ↔ ¬ (s[k].toNat = 0 ∧ a < k) := by
  have hl := h.place
  have hv : ((m : Int) + (s[k].toNat : Int) % 128 * (c : Int)).toNat = Pl.val (pre ++ [s[k]]) := by
    rw [← Pl.mul_int, Pl.val_snoc, ← h.num, ← h.weight, Nat.mul_comm]; omega
  have he : (s.extract a (k + 1)).toList = pre ++ [s[k]] := by
    rw [Lib.extract_toList, ← h.ahead_more hk]
    simp; omega
  rw [hv, he, beq_iff_eq, Pl.vb_val 8 pre s[k] h.goes hb (by omega)]
  omega

theorem RvAt.out {s : ByteArray} {a k m c : Nat} {pre : List UInt8} (h : RvAt s a k m c pre) (hk : ¬ (k < s.size ∧ k < a + 5)) : Pl.rvF 5 [] (s.data.toList.drop a) = none := by
  rw [← h.rest]
  have hl := h.place
  by_cases h1 : k < s.size
  · rw [show 5 - pre.length = 0 by omega]; rfl
  · rw [List.drop_of_length_le (by simp; omega)]
    exact Pl.rvF_nil _ _

theorem RvAt.small {s : ByteArray} {a k m c : Nat} {pre : List UInt8} (h : RvAt s a k m c pre) (h5 : k < a + 5) : m < 268435456 ∧ c ≤ 268435456 := by
  have hl := h.place
  have h4 : (128 : Nat) ^ pre.length ≤ 128 ^ 4 := Nat.pow_le_pow_right (by omega) (by omega)
  have h3 := Pl.val_lt pre
  rw [h.num, h.weight]
  simp at h4
  omega

set_option maxHeartbeats 400000 in
theorem implRv_any (s : ByteArray) (at_ : Int) (w : World) (hs : s.size ≤ 1048576) :
    Calls Try.prog 28 #[.string s, .int .i64 at_] w fun e w' => e = .returned (rvRes s at_) ∧ w' = w := by
  by_cases h0 : at_ < 0
  · have hres : rvRes s at_ = .tuple #[.int .i64 0, .int .i64 0, .bool false] := by unfold rvRes; rw [if_neg (by omega)]; rfl
    rw [hres]
    clear hres
    go_enter Try.func28, Try.ntmps28
    go_wp2
    go_ret3
    exact ⟨rfl, rfl⟩
  by_cases h1 : (s.size : Int) < at_
  · have hres : rvRes s at_ = .tuple #[.int .i64 0, .int .i64 0, .bool false] := by unfold rvRes; rw [if_neg (by omega)]; rfl
    rw [hres]
    clear hres
    go_enter Try.func28, Try.ntmps28
    go_wp2
    go_ret3
    exact ⟨rfl, rfl⟩
  obtain ⟨a, rfl⟩ := Int.eq_ofNat_of_zero_le (by omega : 0 ≤ at_)
  have ha : a ≤ s.size := by omega
  have hres : rvRes s a = rvVal a (Pl.rvF 5 [] (s.data.toList.drop a)) := by unfold rvRes; rw [if_pos (by omega)]; rfl
  rw [hres]
  clear hres h0 h1
  go_enter Try.func28, Try.ntmps28
  go_wp2
  all_goals
    go_loop [8, 9, 10] (fun nn sc i => ∃ (k m c : Nat) (pre : List UInt8), i = .int .i64 k ∧ nn = .int .i64 m ∧ sc = .int .i64 c ∧ a ≤ k ∧ k ≤ s.size ∧ k ≤ a + 5 ∧ Hid (RvAt s a k m c pre)) (fun _ _ i => s.size - (intOf i).toNat)
    case atStart => exact ⟨a, 0, 1, [], rfl, rfl, rfl, by omega, by omega, by omega, RvAt.start s a⟩
    case round =>
      obtain ⟨k, m, c, pre, rfl, rfl, rfl, hak, hks, hk5, H⟩ := hrel
      by_cases hlt : k < s.size ∧ k < a + 5
      · obtain ⟨hlt, h5⟩ := hlt
        obtain ⟨hm, hc⟩ := H.out.small h5
        have hmul := Pl.mul_bound (s[k].toNat % 128) c (by omega) hc
        have hq1 : ((s[k].toNat : Int) % 128) * (c : Int) ≤ 34359738368 := by rw [← Pl.mul_int]; omega
        have hq0 : 0 ≤ ((s[k].toNat : Int) % 128) * (c : Int) := by rw [← Pl.mul_int]; omega
        have h256 : s[k].toNat < 256 := s[k].toNat_lt
        clear hmul
        by_cases hb : 128 ≤ s[k].toNat
        · have HN : Hid (RvAt s a (k + 1) (m + s[k].toNat % 128 * c) (c * 128) (pre ++ [s[k]])) := H.out.on hlt h5 hb
          go_wp2
          go_round
          case rel => exact ⟨k + 1, m + s[k].toNat % 128 * c, c * 128, _, by go_num, by rw [Int.natCast_add, Pl.mul_int], by go_num, by omega, by omega, by omega, HN.out⟩
          case measure => simp [intOf]; omega
        · go_wp2
          all_goals go_ret3
          · have hz : s[k].toNat = 0 := by assumption
            exact ⟨by rw [H.out.yes hlt h5 (by omega) (by omega) m (by rw [hz]; simp) (by omega)]; rfl, rfl⟩
          · have hz : s[k].toNat = 0 := by assumption
            have hk2 : ¬ k ≤ a := by assumption
            exact ⟨by rw [H.out.no hlt h5 (by omega) (.inl (by omega))]; rfl, rfl⟩
          · have hz : 1000000000 < (m : Int) + (s[k].toNat : Int) % 128 * (c : Int) := by assumption
            exact ⟨by rw [H.out.no hlt h5 (by omega) (.inr hz)]; rfl, rfl⟩
          · have hz : (m : Int) + (s[k].toNat : Int) % 128 * (c : Int) ≤ 1000000000 := by assumption
            exact ⟨by rw [H.out.yes hlt h5 (by omega) (by omega) _ rfl hz]; rfl, rfl⟩
      · go_wp2
        go_ret3
        exact ⟨by rw [H.out.out hlt]; rfl, rfl⟩
end PartVrB
end Go.Proofs.Ytbghghflepjdkaa
