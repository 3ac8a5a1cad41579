/- What both ReadVar answer, at every text and place. -/
import Derived.Test.YtmofljfffcnlbaaMPSxZar
import Derived.Lib.Strings
import Derived.BigQuiet
import Derived.BigRegion
import Derived.Deep.RegionWith
import Derived.Deep.QuietTactic
namespace Go.Proofs.Ytmofljfffcnlbaa
open Go.RowKit

def rvVal (at_ : Int) : Option (Nat × Nat) → Value
  | some (n, k) => .tuple #[.int .i64 n, .int .i64 (at_ + k), .bool true]
  | none => .tuple #[.int .i64 0, .int .i64 0, .bool false]
/-- What ReadVar answers. -/
def rvRes (s : ByteArray) (at_ : Int) : Value := rvVal at_ (if 0 ≤ at_ ∧ at_ ≤ s.size then Pl.rvF 5 [] (s.data.toList.drop at_.toNat) else none)

/-- What is held at a round's head: the bytes pre from place a on are read, each goes on; m is their number, c the weight of the next. -/
structure RvAt (s : ByteArray) (a k m c : Nat) (pre : List UInt8) : Prop where
  num : m = Pl.val pre
  weight : c = 128 ^ pre.length
  place : a + pre.length = k
  goes : Pl.Goes pre
  rest : Pl.rvF (5 - pre.length) pre (s.data.toList.drop k) = Pl.rvF 5 [] (s.data.toList.drop a)
  ahead : (s.data.toList.drop a).take pre.length = pre

theorem RvAt.start (s : ByteArray) (a : Nat) : RvAt s a a 0 1 [] := ⟨rfl, rfl, rfl, (fun _ h => by cases h), rfl, rfl⟩

theorem vdrop_at (s : ByteArray) (k : Nat) (h : k < s.size) : s.data.toList.drop k = s[k] :: s.data.toList.drop (k + 1) := by
  exact Pl.drop_cons s.data.toList k (by simpa using h)

theorem RvAt.ahead_more {s : ByteArray} {a k m c : Nat} {pre : List UInt8} (h : RvAt s a k m c pre) (hk : k < s.size) :
    (s.data.toList.drop a).take (pre ++ [s[k]]).length = pre ++ [s[k]] := by
  have h1 := h.ahead
  have h2 := h.place
  rw [List.length_append, List.length_singleton, List.take_add_one, h1]
  congr 1
  rw [List.getElem?_drop, h2]
  simp [hk]
  rfl

theorem RvAt.on {s : ByteArray} {a k m c : Nat} {pre : List UInt8} (h : RvAt s a k m c pre) (hk : k < s.size) (h5 : k < a + 5) (hb : 128 ≤ s[k].toNat) :
    RvAt s a (k + 1) (m + s[k].toNat % 128 * c) (c * 128) (pre ++ [s[k]]) := by
  have hl := h.place
  refine ⟨?_, ?_, ?_, h.goes.snoc hb, ?_, h.ahead_more hk⟩
  · rw [Pl.val_snoc, ← h.num, ← h.weight, Nat.mul_comm]
  · rw [h.weight, List.length_append, List.length_singleton, Nat.pow_succ]
  · simp; omega
  · rw [← h.rest, vdrop_at s k hk]
    have e : 5 - pre.length = (5 - (pre ++ [s[k]]).length) + 1 := by simp; omega
    rw [e, Pl.rvF_on _ _ _ _ hb]

theorem RvAt.done {s : ByteArray} {a k m c : Nat} {pre : List UInt8} (h : RvAt s a k m c pre) (hk : k < s.size) (h5 : k < a + 5) (hb : s[k].toNat < 128) :
    ((s[k].toNat = 0 ∧ a < k) ∨ 1000000000 < m + s[k].toNat % 128 * c) ∧ Pl.rvF 5 [] (s.data.toList.drop a) = none ∨
    ¬ ((s[k].toNat = 0 ∧ a < k) ∨ 1000000000 < m + s[k].toNat % 128 * c) ∧ Pl.rvF 5 [] (s.data.toList.drop a) = some (m + s[k].toNat % 128 * c, k + 1 - a) := by
  have hl := h.place
  have hv : Pl.val (pre ++ [s[k]]) = m + s[k].toNat % 128 * c := by rw [Pl.val_snoc, ← h.num, ← h.weight, Nat.mul_comm]
  have e : 5 - pre.length = (4 - pre.length) + 1 := by omega
  have hr := h.rest
  rw [vdrop_at s k hk, e] at hr
  rw [← hr, ← hv]
  by_cases hbad : (s[k].toNat = 0 ∧ a < k) ∨ 1000000000 < Pl.val (pre ++ [s[k]])
  · exact .inl ⟨hbad, Pl.rvF_bad _ _ _ _ hb (by omega)⟩
  · refine .inr ⟨hbad, ?_⟩
    rw [Pl.rvF_end _ _ _ _ hb (by omega)]
    congr 2
    omega

theorem RvAt.yes {s : ByteArray} {a k m c : Nat} {pre : List UInt8} (h : RvAt s a k m c pre) (hk : k < s.size) (h5 : k < a + 5) (hb : s[k].toNat < 128)
    (h1 : ¬ (s[k].toNat = 0 ∧ a < k)) (z : Int) (hz : z = (m : Int) + (s[k].toNat : Int) % 128 * (c : Int)) (h2 : z ≤ 1000000000) :
    rvVal a (Pl.rvF 5 [] (s.data.toList.drop a)) = .tuple #[.int .i64 z, .int .i64 ((k : Int) + 1), .bool true] := by
  have hl := h.place
  rw [← Pl.mul_int] at hz
  rcases h.done hk h5 hb with ⟨hbad, _⟩ | ⟨_, e⟩
  · omega
  · rw [e]
    show Value.tuple #[.int .i64 ((m + s[k].toNat % 128 * c : Nat) : Int), .int .i64 ((a : Int) + ((k + 1 - a : Nat) : Int)), .bool true] = _
    have e1 : ((m + s[k].toNat % 128 * c : Nat) : Int) = z := by omega
    have e2 : (a : Int) + ((k + 1 - a : Nat) : Int) = (k : Int) + 1 := by omega
    rw [e1, e2]

theorem RvAt.no {s : ByteArray} {a k m c : Nat} {pre : List UInt8} (h : RvAt s a k m c pre) (hk : k < s.size) (h5 : k < a + 5) (hb : s[k].toNat < 128)
    (h1 : (s[k].toNat = 0 ∧ a < k) ∨ 1000000000 < (m : Int) + (s[k].toNat : Int) % 128 * (c : Int)) :
    Pl.rvF 5 [] (s.data.toList.drop a) = none := by
  rw [← Pl.mul_int] at h1
  rcases h.done hk h5 hb with ⟨_, e⟩ | ⟨hbad, _⟩
  · exact e
  · omega

theorem RvAt.cmp {s : ByteArray} {a k m c : Nat} {pre : List UInt8} (h : RvAt s a k m c pre) (hk : k < s.size) (h5 : k < a + 5) (hb : s[k].toNat < 128) :
    (Pl.vb 8 ((m : Int) + (s[k].toNat : Int) % 128 * (c : Int)).toNat == (s.extract a (k + 1)).toList) = true ↔ ¬ (s[k].toNat = 0 ∧ a < k) := by
  have hl := h.place
  have hv : ((m : Int) + (s[k].toNat : Int) % 128 * (c : Int)).toNat = Pl.val (pre ++ [s[k]]) := by
    rw [← Pl.mul_int, Pl.val_snoc, ← h.num, ← h.weight, Nat.mul_comm]; omega
  have he : (s.extract a (k + 1)).toList = pre ++ [s[k]] := by
    rw [Lib.extract_toList, ← h.ahead_more hk]
    simp; omega
  rw [hv, he, beq_iff_eq, Pl.vb_val 8 pre s[k] h.goes hb (by omega)]
  omega

theorem RvAt.out {s : ByteArray} {a k m c : Nat} {pre : List UInt8} (h : RvAt s a k m c pre) (hk : ¬ (k < s.size ∧ k < a + 5)) : Pl.rvF 5 [] (s.data.toList.drop a) = none := by
  rw [← h.rest]
  have hl := h.place
  by_cases h1 : k < s.size
  · rw [show 5 - pre.length = 0 by omega]; rfl
  · rw [List.drop_of_length_le (by simp; omega)]
    exact Pl.rvF_nil _ _

theorem RvAt.small {s : ByteArray} {a k m c : Nat} {pre : List UInt8} (h : RvAt s a k m c pre) (h5 : k < a + 5) : m < 268435456 ∧ c ≤ 268435456 := by
  have hl := h.place
  have h4 : (128 : Nat) ^ pre.length ≤ 128 ^ 4 := Nat.pow_le_pow_right (by omega) (by omega)
  have h3 := Pl.val_lt pre
  rw [h.num, h.weight]
  simp at h4
  omega

set_option maxHeartbeats 400000 in
theorem implRv_any (s : ByteArray) (at_ : Int) (w : World) (hs : s.size ≤ 1048576) :
    Calls Try.prog 40 #[.string s, .int .i64 at_] w fun e w' => e = .returned (rvRes s at_) ∧ w' = w := by
  by_cases h0 : at_ < 0
  · have hres : rvRes s at_ = .tuple #[.int .i64 0, .int .i64 0, .bool false] := by unfold rvRes; rw [if_neg (by omega)]; rfl
    rw [hres]
    clear hres
    go_enter Try.func40, Try.ntmps40
    go_wp2
    go_ret3
    exact ⟨rfl, rfl⟩
  by_cases h1 : (s.size : Int) < at_
  · have hres : rvRes s at_ = .tuple #[.int .i64 0, .int .i64 0, .bool false] := by unfold rvRes; rw [if_neg (by omega)]; rfl
    rw [hres]
    clear hres
    go_enter Try.func40, Try.ntmps40
    go_wp2
    go_ret3
    exact ⟨rfl, rfl⟩
  obtain ⟨a, rfl⟩ := Int.eq_ofNat_of_zero_le (by omega : 0 ≤ at_)
  have ha : a ≤ s.size := by omega
  have hres : rvRes s a = rvVal a (Pl.rvF 5 [] (s.data.toList.drop a)) := by unfold rvRes; rw [if_pos (by omega)]; rfl
  rw [hres]
  clear hres h0 h1
  go_enter Try.func40, Try.ntmps40
  go_wp2
  all_goals
    go_loop [8, 9, 10] (fun nn sc i => ∃ (k m c : Nat) (pre : List UInt8), i = .int .i64 k ∧ nn = .int .i64 m ∧ sc = .int .i64 c ∧ a ≤ k ∧ k ≤ s.size ∧ k ≤ a + 5 ∧ Hid (RvAt s a k m c pre)) (fun _ _ i => s.size - (intOf i).toNat)
    case atStart => exact ⟨a, 0, 1, [], rfl, rfl, rfl, by omega, by omega, by omega, RvAt.start s a⟩
    case round =>
      obtain ⟨k, m, c, pre, rfl, rfl, rfl, hak, hks, hk5, H⟩ := hrel
      by_cases hlt : k < s.size ∧ k < a + 5
      · obtain ⟨hlt, h5⟩ := hlt
        obtain ⟨hm, hc⟩ := H.out.small h5
        have hmul := Pl.mul_bound (s[k].toNat % 128) c (by omega) hc
        have hq1 : ((s[k].toNat : Int) % 128) * (c : Int) ≤ 34359738368 := by rw [← Pl.mul_int]; omega
        have hq0 : 0 ≤ ((s[k].toNat : Int) % 128) * (c : Int) := by rw [← Pl.mul_int]; omega
        have h256 : s[k].toNat < 256 := s[k].toNat_lt
        clear hmul
        by_cases hb : 128 ≤ s[k].toNat
        · have HN : Hid (RvAt s a (k + 1) (m + s[k].toNat % 128 * c) (c * 128) (pre ++ [s[k]])) := H.out.on hlt h5 hb
          go_wp2
          go_round
          case rel => exact ⟨k + 1, m + s[k].toNat % 128 * c, c * 128, _, by go_num, by rw [Int.natCast_add, Pl.mul_int], by go_num, by omega, by omega, by omega, HN.out⟩
          case measure => simp [intOf]; omega
        · go_wp2
          all_goals go_ret3
          · have hz : s[k].toNat = 0 := by assumption
            exact ⟨by rw [H.out.yes hlt h5 (by omega) (by omega) m (by rw [hz]; simp) (by omega)]; rfl, rfl⟩
          · have hz : s[k].toNat = 0 := by assumption
            have hk2 : ¬ k ≤ a := by assumption
            exact ⟨by rw [H.out.no hlt h5 (by omega) (.inl (by omega))]; rfl, rfl⟩
          · have hz : 1000000000 < (m : Int) + (s[k].toNat : Int) % 128 * (c : Int) := by assumption
            exact ⟨by rw [H.out.no hlt h5 (by omega) (.inr hz)]; rfl, rfl⟩
          · have hz : (m : Int) + (s[k].toNat : Int) % 128 * (c : Int) ≤ 1000000000 := by assumption
            exact ⟨by rw [H.out.yes hlt h5 (by omega) (by omega) _ rfl hz]; rfl, rfl⟩
      · go_wp2
        go_ret3
        exact ⟨by rw [H.out.out hlt]; rfl, rfl⟩
end Go.Proofs.Ytmofljfffcnlbaa
