/- Plain facts, without the program: what a figure of sixteen is worth, and bytes out of pairs of such. Plain facts, without the program: a number in decimal figures, and when a text of figures is that of its number. Plain facts, without the program: what VarText, ShortText, Hex and Decimal write is read back. Are two stores the same: the library's Equal at Vars and at Cells, the program's SameStore. -/
import Derived.Test.YtehagonaacbmiaaGreatMPRjZal
import Derived.Test.YtehagonaacbmiaaGreatMPRjZaj
import Derived.Test.YtehagonaacbmiaaGreatMPRjZag
import Derived.WalkLawsBesides
import Derived.Laws.StructEq
namespace Go.Proofs.YtehagonaacbmiaaGreat
section PartPlainE
namespace Pl

end Pl
end PartPlainE
section PartPlainF
namespace Pl

/-- The byte of a decimal figure. -/
def ch (d : Nat) : UInt8 := UInt8.ofNat (48 + d)
theorem ch_nat (d : Nat) (h : d < 200) : (ch d).toNat = 48 + d := small _ (by omega)

/-- The figures of n, none of nought; at most f of them. -/
def dg : Nat → Nat → List UInt8
  | 0, _ => []
  | f + 1, n => if n = 0 then [] else dg f (n / 10) ++ [ch (n % 10)]
theorem dg_zero (f : Nat) : dg f 0 = [] := by cases f <;> rfl
theorem dg_more (f n : Nat) (h : n ≠ 0) : dg (f + 1) n = dg f (n / 10) ++ [ch (n % 10)] := by rw [dg, if_neg h]

/-- The text of a list of worths. -/
def txt (vs : List UInt8) : List UInt8 := vs.map fun v => ch v.toNat

end Pl
end PartPlainF
section PartPlainH
namespace Pl

theorem rvF_vb (g f m : Nat) (pre r : List UInt8) (hp : Goes pre) (hg : m < 128 ^ (g + 1)) (hf : m < 128 ^ f) (h1 : 1 ≤ f) (h0 : m = 0 → pre = []) (ht : val pre + 128 ^ pre.length * m ≤ 1000000000) :
    rvF f pre (vb g m ++ r) = some (val pre + 128 ^ pre.length * m, pre.length + (vb g m).length) := by
  induction g generalizing f m pre with
  | zero =>
    obtain ⟨f, rfl⟩ : ∃ k, f = k + 1 := ⟨f - 1, by omega⟩
    have hm : m < 128 := by simpa using hg
    have hb : (UInt8.ofNat m).toNat = m := small m (by omega)
    have hv : val (pre ++ [UInt8.ofNat m]) = val pre + 128 ^ pre.length * m := by rw [val_snoc, hb, Nat.mod_eq_of_lt hm]
    rw [vb_last 0 m (by omega), List.singleton_append, rvF_end f pre _ r (by omega) ?_, hv]
    · simp
    · rw [hv, hb]
      rintro (⟨e, hl⟩ | h)
      · rw [h0 e] at hl; simp at hl
      · omega
  | succ g ih =>
    obtain ⟨f, rfl⟩ : ∃ k, f = k + 1 := ⟨f - 1, by omega⟩
    by_cases hm : 127 < m
    · have hbn := hb_nat m
      have hd : m / 128 ≠ 0 := by omega
      have hf2 : m / 128 < 128 ^ f := by rw [Nat.pow_succ] at hf; omega
      have hf1 : 1 ≤ f := by
        rcases Nat.eq_zero_or_pos f with e | e
        · subst e; simp at hf2; omega
        · exact e
      have hval : val (pre ++ [hb m]) = val pre + 128 ^ pre.length * (m % 128) := by rw [val_snoc, hb_nat, Nat.add_mod_right, Nat.mod_mod]
      have htot : val (pre ++ [hb m]) + 128 ^ (pre ++ [hb m]).length * (m / 128) = val pre + 128 ^ pre.length * m := by
        rw [hval, List.length_append, List.length_singleton, Nat.pow_succ, Nat.mul_assoc, Nat.add_assoc, ← Nat.mul_add, Nat.add_comm (m % 128), Nat.div_add_mod]
      rw [vb_more g m hm, List.cons_append, rvF_on f pre _ _ (by omega), ih f (m / 128) (pre ++ [hb m]) (hp.snoc (by omega)) (by rw [Nat.pow_succ] at hg; omega) hf2 hf1 (fun e => absurd e hd) (by rw [htot]; exact ht), htot]
      simp
      omega
    · have hb : (UInt8.ofNat m).toNat = m := small m (by omega)
      have hv : val (pre ++ [UInt8.ofNat m]) = val pre + 128 ^ pre.length * m := by rw [val_snoc, hb, Nat.mod_eq_of_lt (by omega)]
      rw [vb_last _ m hm, List.singleton_append, rvF_end f pre _ r (by omega) ?_, hv]
      · simp
      · rw [hv, hb]
        rintro (⟨e, hl⟩ | h)
        · rw [h0 e] at hl; simp at hl
        · omega
theorem rv_back (m : Nat) (r : List UInt8) (h : m ≤ 1000000000) : rvF 5 [] (vb 8 m ++ r) = some (m, (vb 8 m).length) := by
  have := rvF_vb 8 5 m [] r (fun _ h => by cases h) (by show m < 128 ^ 9; omega) (by show m < 128 ^ 5; omega) (by omega) (fun _ => rfl) (by simp [val]; exact h)
  simpa [val] using this

end Pl
end PartPlainH
section PartEqA
open Go.RowKit

namespace St
theorem all_yes {n : Nat} {p : Nat → Bool} (h : ∀ q, q < n → p q = true) : (List.range n).all p = true := List.all_eq_true.2 fun q hq => h q (List.mem_range.1 hq)
theorem all_no {n k : Nat} {p : Nat → Bool} (hk : k < n) (h : p k = false) : (List.range n).all p = false := List.all_eq_false.2 ⟨k, List.mem_range.2 hk, by rw [h]; simp⟩
end St

end PartEqA
end Go.Proofs.YtehagonaacbmiaaGreat
