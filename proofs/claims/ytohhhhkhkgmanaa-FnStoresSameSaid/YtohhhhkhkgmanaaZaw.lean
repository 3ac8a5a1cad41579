/- What spec.l01Var and both VarText answer, at every number. What both ReadVar answer, at every text and place. What the specification's ReadVar answers, at every text and place. -/
import Derived.Test.YtohhhhkhkgmanaaZai
import Derived.Test.YtohhhhkhkgmanaaZav
import Derived.Lib.Strings
import Derived.BigQuiet
import Derived.BigRegion
import Derived.Deep.RegionWith
import Derived.Deep.QuietTactic
import Derived.Deep.RegionHeld3
namespace Go.Proofs.Ytohhhhkhkgmanaa
section PartVrA
open Go.RowKit

theorem vb_round (n f m : Nat) (xs : List UInt8) (hf : m < 128 ^ (f + 1)) (he : xs ++ Pl.vb f m = Pl.vb 8 n) (h : 127 < m) :
    ∃ g, f = g + 1 ∧ m / 128 < 128 ^ (g + 1) ∧ (xs ++ [Pl.hb m]) ++ Pl.vb g (m / 128) = Pl.vb 8 n := by
  cases f with
  | zero => simp at hf; omega
  | succ g =>
    refine ⟨g, rfl, ?_, ?_⟩
    · rw [Nat.pow_succ] at hf; omega
    · rw [Pl.vb_more g m h] at he; simpa using he

set_option maxHeartbeats 400000 in
theorem l01Var_any (n : Nat) (w : World) (hn : n < 9223372036854775808) :
    Calls Try.prog 50 #[.int .i64 n] w fun e w' => e = .returned (.string ⟨(Pl.vb 8 n).toArray⟩) ∧ Below w.heap.size w w' := by
  go_enter Try.func50, Try.ntmps50
  go_wp2
  go_loopw [0, 3] (fun i v wr => ∃ (m f : Nat) (xs : List UInt8), i = .int .i64 m ∧ m < 9223372036854775808 ∧ Row w.heap.size wr v xs ∧ Below w.heap.size w wr ∧ Hid (m < 128 ^ (f + 1)) ∧ Hid (xs.length + f = 8) ∧ Hid (xs ++ Pl.vb f m = Pl.vb 8 n)) (fun i _ _ => (intOf i).toNat)
  case atStart => exact ⟨n, 8, [], rfl, hn, Row.made w #[] 0 (Nat.le_refl _) (by decide) rfl, (Below.refl _ _).alloc (Nat.le_refl _) _, hn, rfl, rfl⟩
  case round =>
    obtain ⟨m, f, xs, rfl, hm, hrow, hbel, H1, H2, H3⟩ := hrel
    have hsz := hbel.size
    have hxl : xs.length ≤ 8 := by have := H2.out; omega
    by_cases hlt : 127 < m
    · obtain ⟨g, hg, hq, hv⟩ := vb_round n f m xs H1.out H3.out hlt
      have HG : Hid (f = g + 1) := hg
      have HQ : Hid (m / 128 < 128 ^ (g + 1)) := hq
      have HV : Hid ((xs ++ [Pl.hb m]) ++ Pl.vb g (m / 128) = Pl.vb 8 n) := hv
      clear hg hq hv
      go_wp2_with (at_builtin; go_must (refine hrow.push rfl (.tmp 7) (.tmp 12) rfl rfl _ (Pl.hb m) ?hz rfl ?hl ?hb ?_))
      case hz => have := Pl.hb_nat m; omega
      case hl => omega
      case hb => omega
      · intro v' w1 hrow' hbel'
        go_wp2
        go_roundw
        case rel => exact ⟨m / 128, g, _, by go_num, by omega, hrow', hbel.trans hbel', HQ.out, by have h1 := H2.out; have h2 := HG.out; show _ = 8; simp; omega, HV.out⟩
        case measure => simp [intOf]; omega
    · go_wp2_with (at_builtin; go_must (refine hrow.push rfl (.tmp 16) (.tmp 19) rfl rfl _ (UInt8.ofNat m) ?hz2 rfl ?hl2 ?hb2 ?_))
      case hz2 => have := Pl.small m (by omega); omega
      case hl2 => omega
      case hb2 => omega
      · intro v' w1 hrow' hbel'
        have hst := hrow'.str
        go_wp2
        go_ret
        refine ⟨?_, hbel.trans hbel'⟩
        have h3 := H3.out
        rw [Pl.vb_last f m hlt] at h3
        rw [h3]
        rfl

end PartVrA
section PartVrB
open Go.RowKit

/-- What is held at a round's head: the bytes pre from place a on are read, each goes on; m is their number, c the weight of the next. -/
structure RvAt (s : ByteArray) (a k m c : Nat) (pre : List UInt8) : Prop where
  num : m = Pl.val pre
  weight : c = 128 ^ pre.length
  place : a + pre.length = k
  goes : Pl.Goes pre
  rest : Pl.rvF (5 - pre.length) pre (s.data.toList.drop k) = Pl.rvF 5 [] (s.data.toList.drop a)
  ahead : (s.data.toList.drop a).take pre.length = pre

theorem RvAt.start (s : ByteArray) (a : Nat) : RvAt s a a 0 1 [] := ⟨rfl, rfl, rfl, (fun _ h => by cases h), rfl, rfl⟩

theorem vdrop_at (s : ByteArray) (k : Nat) (h : k < s.size) : s.data.toList.drop k = s[k] :: s.data.toList.drop (k + 1) := by
  exact Pl.drop_cons s.data.toList k (by simpa using h)

theorem RvAt.ahead_more {s : ByteArray} {a k m c : Nat} {pre : List UInt8} (h : RvAt s a k m c pre) (hk : k < s.size) :
    (s.data.toList.drop a).take (pre ++ [s[k]]).length = pre ++ [s[k]] := by
  have h1 := h.ahead
  have h2 := h.place
  rw [List.length_append, List.length_singleton, List.take_add_one, h1]
  congr 1
  rw [List.getElem?_drop, h2]
  simp [hk]
  rfl

theorem RvAt.on {s : ByteArray} {a k m c : Nat} {pre : List UInt8} (h : RvAt s a k m c pre) (hk : k < s.size) (h5 : k < a + 5) (hb : 128 ≤ s[k].toNat) :
    RvAt s a (k + 1) (m + s[k].toNat % 128 * c) (c * 128) (pre ++ [s[k]]) := by
  have hl := h.place
  refine ⟨?_, ?_, ?_, h.goes.snoc hb, ?_, h.ahead_more hk⟩
  · rw [Pl.val_snoc, ← h.num, ← h.weight, Nat.mul_comm]
  · rw [h.weight, List.length_append, List.length_singleton, Nat.pow_succ]
  · simp; omega
  · rw [← h.rest, vdrop_at s k hk]
    have e : 5 - pre.length = (5 - (pre ++ [s[k]]).length) + 1 := by simp; omega
    rw [e, Pl.rvF_on _ _ _ _ hb]

theorem RvAt.done {s : ByteArray} {a k m c : Nat} {pre : List UInt8} (h : RvAt s a k m c pre) (hk : k < s.size) (h5 : k < a + 5) (hb : s[k].toNat < 128) :
    ((s[k].toNat = 0 ∧ a < k) ∨ 1000000000 < m + s[k].toNat % 128 * c) ∧ Pl.rvF 5 [] (s.data.toList.drop a) = none ∨
    ¬ ((s[k].toNat = 0 ∧ a < k) ∨ 1000000000 < m + s[k].toNat % 128 * c) ∧ Pl.rvF 5 [] (s.data.toList.drop a) = some (m + s[k].toNat % 128 * c, k + 1 - a) := by
  have hl := h.place
  have hv : Pl.val (pre ++ [s[k]]) = m + s[k].toNat % 128 * c := by rw [Pl.val_snoc, ← h.num, ← h.weight, Nat.mul_comm]
  have e : 5 - pre.length = (4 - pre.length) + 1 := by omega
  have hr := h.rest
  rw [vdrop_at s k hk, e] at hr
  rw [← hr, ← hv]
  by_cases hbad : (s[k].toNat = 0 ∧ a < k) ∨ 1000000000 < Pl.val (pre ++ [s[k]])
  · exact .inl ⟨hbad, Pl.rvF_bad _ _ _ _ hb (by omega)⟩
  · refine .inr ⟨hbad, ?_⟩
    rw [Pl.rvF_end _ _ _ _ hb (by omega)]
    congr 2
    omega

theorem RvAt.no {s : ByteArray} {a k m c : Nat} {pre : List UInt8} (h : RvAt s a k m c pre) (hk : k < s.size) (h5 : k < a + 5) (hb : s[k].toNat < 128)
    (h1 : (s[k].toNat = 0 ∧ a < k) ∨ 1000000000 < (m : Int) + (s[k].toNat : Int) % 128 * (c : Int)) :
    Pl.rvF 5 [] (s.data.toList.drop a) = none := by
  rw [← Pl.mul_int] at h1
  rcases h.done hk h5 hb with ⟨_, e⟩ | ⟨hbad, _⟩
  · exact e
  · omega

theorem RvAt.out {s : ByteArray} {a k m c : Nat} {pre : List UInt8} (h : RvAt s a k m c pre) (hk : ¬ (k < s.size ∧ k < a + 5)) : Pl.rvF 5 [] (s.data.toList.drop a) = none := by
  rw [← h.rest]
  have hl := h.place
  by_cases h1 : k < s.size
  · rw [show 5 - pre.length = 0 by omega]; rfl
  · rw [List.drop_of_length_le (by simp; omega)]
    exact Pl.rvF_nil _ _

theorem RvAt.small {s : ByteArray} {a k m c : Nat} {pre : List UInt8} (h : RvAt s a k m c pre) (h5 : k < a + 5) : m < 268435456 ∧ c ≤ 268435456 := by
  have hl := h.place
  have h4 : (128 : Nat) ^ pre.length ≤ 128 ^ 4 := Nat.pow_le_pow_right (by omega) (by omega)
  have h3 := Pl.val_lt pre
  rw [h.num, h.weight]
  simp at h4
  omega

end PartVrB
section PartVrC
open Go.RowKit

end PartVrC
end Go.Proofs.Ytohhhhkhkgmanaa
