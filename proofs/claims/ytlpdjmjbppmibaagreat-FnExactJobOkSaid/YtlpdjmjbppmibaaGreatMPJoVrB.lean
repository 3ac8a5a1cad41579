/- What both ReadVar answer, at every text and place. -/
import Derived.Test.YtlpdjmjbppmibaaGreatMPJoZal
import Derived.Test.YtlpdjmjbppmibaaGreatMPJoVrA
import Derived.Lib.Strings
import Derived.BigQuiet
import Derived.BigRegion
import Derived.Deep.RegionWith
import Derived.Deep.QuietTactic
namespace Go.Proofs.YtlpdjmjbppmibaaGreat
open Go.RowKit

/-- What is held at a round's head: the bytes pre from place a on are read, each goes on; m is their number, c the weight of the next. -/
structure RvAt (s : ByteArray) (a k m c : Nat) (pre : List UInt8) : Prop where
  num : m = Pl.val pre
  weight : c = 128 ^ pre.length
  place : a + pre.length = k
  goes : Pl.Goes pre
  rest : Pl.rvF (5 - pre.length) pre (s.data.toList.drop k) = Pl.rvF 5 [] (s.data.toList.drop a)
  ahead : (s.data.toList.drop a).take pre.length = pre

theorem RvAt.start (s : ByteArray) (a : Nat) : RvAt s a a 0 1 [] := ⟨rfl, rfl, rfl, (fun _ h => by cases h), rfl, rfl⟩

theorem vdrop_at (s : ByteArray) (k : Nat) (h : k < s.size) : s.data.toList.drop k = s[k] :: s.data.toList.drop (k + 1) := by
  exact Pl.drop_cons s.data.toList k (by simpa using h)

theorem RvAt.done {s : ByteArray} {a k m c : Nat} {pre : List UInt8} (h : RvAt s a k m c pre) (hk : k < s.size) (h5 : k < a + 5) (hb : s[k].toNat < 128) :
    ((s[k].toNat = 0 ∧ a < k) ∨ 1000000000 < m + s[k].toNat % 128 * c) ∧ Pl.rvF 5 [] (s.data.toList.drop a) = none ∨
    ¬ ((s[k].toNat = 0 ∧ a < k) ∨ 1000000000 < m + s[k].toNat % 128 * c) ∧ Pl.rvF 5 [] (s.data.toList.drop a) = some (m + s[k].toNat % 128 * c, k + 1 - a) := by
  have hl := h.place
  have hv : Pl.val (pre ++ [s[k]]) = m + s[k].toNat % 128 * c := by rw [Pl.val_snoc, ← h.num, ← h.weight, Nat.mul_comm]
  have e : 5 - pre.length = (4 - pre.length) + 1 := by omega
  have hr := h.rest
  rw [vdrop_at s k hk, e] at hr
  rw [← hr, ← hv]
  by_cases hbad : (s[k].toNat = 0 ∧ a < k) ∨ 1000000000 < Pl.val (pre ++ [s[k]])
  · exact .inl ⟨hbad, Pl.rvF_bad _ _ _ _ hb (by omega)⟩
  · refine .inr ⟨hbad, ?_⟩
    rw [Pl.rvF_end _ _ _ _ hb (by omega)]
    congr 2
    omega

theorem RvAt.no {s : ByteArray} {a k m c : Nat} {pre : List UInt8} (h : RvAt s a k m c pre) (hk : k < s.size) (h5 : k < a + 5) (hb : s[k].toNat < 128)
    (h1 : (s[k].toNat = 0 ∧ a < k) ∨ 1000000000 < (m : Int) + (s[k].toNat : Int) % 128 * (c : Int)) :
    Pl.rvF 5 [] (s.data.toList.drop a) = none := by
  rw [← Pl.mul_int] at h1
  rcases h.done hk h5 hb with ⟨_, e⟩ | ⟨hbad, _⟩
  · exact e
  · omega

theorem RvAt.out {s : ByteArray} {a k m c : Nat} {pre : List UInt8} (h : RvAt s a k m c pre) (hk : ¬ (k < s.size ∧ k < a + 5)) : Pl.rvF 5 [] (s.data.toList.drop a) = none := by
  rw [← h.rest]
  have hl := h.place
  by_cases h1 : k < s.size
  · rw [show 5 - pre.length = 0 by omega]; rfl
  · rw [List.drop_of_length_le (by simp; omega)]
    exact Pl.rvF_nil _ _

end Go.Proofs.YtlpdjmjbppmibaaGreat
