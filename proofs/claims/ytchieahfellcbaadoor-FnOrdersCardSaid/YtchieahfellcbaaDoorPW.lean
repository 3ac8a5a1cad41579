/- Plain facts, without the program: a number in decimal figures is a number among texts, and its own; what is less of two texts; fields put together with a blank ahead of each are the same fields. -/
import Derived.Test.YtchieahfellcbaaDoorPV
import Derived.Test.YtchieahfellcbaaDoorPlainF
import GoSem.Op.String
namespace Go.Proofs.YtchieahfellcbaaDoor
namespace Pv
open Pl (ch dg decL)

theorem fg_ch (d : Nat) (h : d < 10) : fg (ch d) = true := by
  have := Pl.ch_nat d (by omega)
  simp [fg]; omega
theorem fg_dg (f n : Nat) : ∀ b ∈ dg f n, fg b = true := by
  induction f generalizing n with
  | zero => simp [dg]
  | succ f ih =>
    by_cases h : n = 0
    · subst h; simp [Pl.dg_zero]
    · rw [Pl.dg_more f n h]
      intro b hb
      rw [List.mem_append, List.mem_singleton] at hb
      rcases hb with hb | rfl
      · exact ih _ b hb
      · exact fg_ch _ (by omega)
theorem dg_ne (f n : Nat) (h : n ≠ 0) : dg (f + 1) n ≠ [] := by
  rw [Pl.dg_more f n h]; simp
theorem decL_nat (n : Nat) : decL (n : Int) = if n = 0 then [48] else dg 20 n := by
  unfold decL
  by_cases h : n = 0
  · subst h; simp
  · rw [if_neg (by omega), if_neg (by omega), if_neg h]
    simp
theorem fg_decL (n : Nat) : ∀ b ∈ decL (n : Int), fg b = true := by
  rw [decL_nat]
  split
  · intro b hb
    rw [List.mem_singleton] at hb
    subst hb; decide
  · exact fg_dg 20 n
theorem decL_ne (n : Nat) : decL (n : Int) ≠ [] := by
  rw [decL_nat]
  split
  · simp
  · rename_i h; exact dg_ne 19 n h
theorem decL_len (n k : Nat) (h : n < 10 ^ k) (hk : 1 ≤ k) : (decL (n : Int)).length ≤ k := by
  rw [decL_nat]
  split
  · simpa using hk
  · exact Pl.dg_len 20 n k h
theorem isn_decL (n : Nat) (h : n < 1000000) : isn (decL (n : Int)) = true := by
  have h1 := decL_len n 6 (by omega) (by omega)
  have h2 : 1 ≤ (decL (n : Int)).length := by
    cases e : decL (n : Int) with
    | nil => exact absurd e (decL_ne n)
    | cons a l => simp
  unfold isn
  rw [Bool.and_eq_true]
  refine ⟨?_, by simp; omega⟩
  rw [List.all_eq_true]
  exact fg_decL n
theorem isn_bad (l : List UInt8) (b : UInt8) (hb : b ∈ l) (h : fg b = false) : isn l = false := by
  have : l.all fg = false := by
    rw [List.all_eq_false]
    exact ⟨b, hb, by rw [h]; decide⟩
  simp [isn, this]

theorem num_dg (f m : Nat) (r : List UInt8) (hf : m < 10 ^ f) (h : m < 1000000) : num 0 (dg f m ++ r) = num m r := by
  induction f generalizing m r with
  | zero =>
    obtain rfl : m = 0 := by simp at hf; omega
    rfl
  | succ f ih =>
    by_cases hm : m = 0
    · subst hm; rw [Pl.dg_zero]; rfl
    · rw [Pl.dg_more f m hm, List.append_assoc, ih (m / 10) _ (by rw [Nat.pow_succ] at hf; omega) (by omega), List.singleton_append]
      have hc := Pl.ch_nat (m % 10) (by omega)
      rw [num_fig _ _ _ (by omega) (by omega), hc]
      congr 1
      omega
theorem num_decL (n : Nat) (r : List UInt8) (h : n < 1000000) : num 0 (decL (n : Int) ++ r) = num n r := by
  rw [decL_nat]
  split
  · rename_i e
    subst e
    rw [List.singleton_append, num_fig _ _ _ (by decide) (by decide)]
    rfl
  · exact num_dg 20 n r (by omega) h
theorem skip_fig (b : UInt8) (l : List UInt8) (h : fg b = true) : skip (b :: l) = b :: l := by
  apply skip_sign
  intro e
  simp [fg, e] at h
theorem skip_decL (n : Nat) (r : List UInt8) : skip (decL (n : Int) ++ r) = decL (n : Int) ++ r := by
  cases e : decL (n : Int) with
  | nil => exact absurd e (decL_ne n)
  | cons b l =>
    have := fg_decL n b (by rw [e]; simp)
    rw [List.cons_append, skip_fig b _ this]
theorem nof_decL (n : Nat) (r : List UInt8) (h : n < 1000000) : nof (decL (n : Int) ++ r) = num n r := by
  unfold nof
  rw [skip_decL, num_decL n r h]
theorem nof_dec (n : Nat) (h : n < 1000000) : nof (decL (n : Int)) = n := by
  have := nof_decL n [] h
  rwa [List.append_nil] at this
theorem nof_blanks (n : Nat) (h : n < 1000000) : nof ([32, 32] ++ decL (n : Int)) = n := by
  unfold nof
  rw [List.cons_append, skip_blank _ _ rfl, List.cons_append, skip_blank _ _ rfl, List.nil_append]
  exact nof_dec n h
theorem nof_behind (n : Nat) (h : n < 1000000) : nof (decL (n : Int) ++ [120, 57]) = n := by
  rw [nof_decL n _ h, num_stop _ _ _ (by decide)]
theorem nof_sign (l : List UInt8) : nof (120 :: l) = 0 := by
  unfold nof
  rw [skip_sign _ _ (by decide), num_stop _ _ _ (by decide)]
theorem nof_noughts (n : Nat) (h : n < 1000000) : nof (decL (n : Int) ++ [48, 48, 48, 48, 48, 48]) = 0 := by
  rw [nof_decL n _ h]
  have z : ∀ m r, num m (48 :: r) = num ((m * 10) % 1000000) r := by
    intro m r
    rw [num_fig _ _ _ (by decide) (by decide)]
    rfl
  rw [z, z, z, z, z, z]
  show _ = 0
  simp only [num]
  omega

/-- Of two texts one is less, or they are the same: never two of these three. -/
theorem less_three (x y : List UInt8) : (Op.bytesLess x y = true ∧ Op.bytesLess y x = false ∧ (x == y) = false) ∨ (Op.bytesLess x y = false ∧ Op.bytesLess y x = true ∧ (x == y) = false) ∨ (Op.bytesLess x y = false ∧ Op.bytesLess y x = false ∧ (x == y) = true) := by
  induction x generalizing y with
  | nil =>
    cases y with
    | nil => right; right; exact ⟨rfl, rfl, rfl⟩
    | cons b y => left; exact ⟨rfl, rfl, rfl⟩
  | cons a x ih =>
    cases y with
    | nil => right; left; exact ⟨rfl, rfl, rfl⟩
    | cons b y =>
      rcases Nat.lt_trichotomy a.toNat b.toNat with h | h | h
      · left
        have h1 : a < b := UInt8.lt_iff_toNat_lt.2 h
        have h2 : ¬ b < a := by rw [UInt8.lt_iff_toNat_lt]; omega
        have h3 : ¬ a = b := by intro e; rw [e] at h; omega
        have h4 : ¬ b = a := fun e => h3 e.symm
        simp [Op.bytesLess, h1, h2, h3, h4]
      · have e : a = b := UInt8.toNat_inj.1 h
        subst e
        have h1 : ¬ a < a := by rw [UInt8.lt_iff_toNat_lt]; omega
        rcases ih y with ⟨i1, i2, i3⟩ | ⟨i1, i2, i3⟩ | ⟨i1, i2, i3⟩
        · left; simp_all [Op.bytesLess]
        · right; left; simp_all [Op.bytesLess]
        · right; right; simp_all [Op.bytesLess]
      · right; left
        have h1 : b < a := UInt8.lt_iff_toNat_lt.2 h
        have h2 : ¬ a < b := by rw [UInt8.lt_iff_toNat_lt]; omega
        have h3 : ¬ a = b := by intro e; rw [e] at h; omega
        simp [Op.bytesLess, h1, h2, h3]
#print axioms less_three
#print axioms nof_noughts
end Pv
end Go.Proofs.YtchieahfellcbaaDoor
