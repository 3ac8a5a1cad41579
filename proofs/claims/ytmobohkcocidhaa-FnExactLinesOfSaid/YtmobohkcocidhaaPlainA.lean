/- Plain facts, without the program: the bytes that a number is written as (least seven bits first), and that a text of such bytes is the shortest one just when its last byte is no needless nought. -/
namespace Go.Proofs.Ytmobohkcocidhaa
namespace Pl

/-- The byte of n's least seven bits, marked as one that goes on. -/
def hb (n : Nat) : UInt8 := UInt8.ofNat (n % 128 + 128)

/-- The bytes of n, with room for f + 1 of them. -/
def vb : Nat → Nat → List UInt8
  | 0, n => [UInt8.ofNat n]
  | f + 1, n => if 127 < n then hb n :: vb f (n / 128) else [UInt8.ofNat n]

theorem vb_more (f n : Nat) (h : 127 < n) : vb (f + 1) n = hb n :: vb f (n / 128) := by
  rw [vb, if_pos h]
theorem vb_last (f n : Nat) (h : ¬ 127 < n) : vb f n = [UInt8.ofNat n] := by
  cases f with
  | zero => rfl
  | succ f => rw [vb, if_neg h]

theorem vb_len (f n : Nat) : (vb f n).length ≤ f + 1 := by
  induction f generalizing n with
  | zero => simp [vb]
  | succ f ih =>
    by_cases h : 127 < n
    · rw [vb_more f n h]; have := ih (n / 128); simp; omega
    · rw [vb_last _ n h]; simp

/-- The number of a text of bytes, seven bits of each, the least first. -/
def val : List UInt8 → Nat
  | [] => 0
  | b :: l => b.toNat % 128 + 128 * val l

theorem val_snoc (l : List UInt8) (b : UInt8) : val (l ++ [b]) = val l + 128 ^ l.length * (b.toNat % 128) := by
  induction l with
  | nil => simp [val]
  | cons a l ih =>
    simp only [List.cons_append, val, ih, List.length_cons, Nat.pow_succ]
    have : 128 * (128 ^ l.length * (b.toNat % 128)) = 128 ^ l.length * 128 * (b.toNat % 128) := by
      rw [Nat.mul_comm (128 ^ l.length) 128, Nat.mul_assoc]
    omega

theorem val_lt (l : List UInt8) : val l < 128 ^ l.length := by
  induction l with
  | nil => simp [val]
  | cons a l ih => simp only [val, List.length_cons, Nat.pow_succ]; omega

/-- Every byte of l goes on (is 128 or more). -/
def Goes (l : List UInt8) : Prop := ∀ b ∈ l, 128 ≤ b.toNat

theorem val_zero_last (l : List UInt8) (c : UInt8) (hc : c.toNat < 128) (h : val (l ++ [c]) = 0) : c.toNat = 0 := by
  rw [val_snoc] at h
  have h2 : 128 ^ l.length * (c.toNat % 128) = 0 := by omega
  rcases Nat.mul_eq_zero.1 h2 with h3 | h3
  · exact absurd h3 (Nat.ne_of_gt (Nat.pow_pos (by omega)))
  · omega

theorem small (k : Nat) (h : k < 256) : (UInt8.ofNat k).toNat = k := by simp [UInt8.toNat_ofNat']; omega

theorem hb_nat (n : Nat) : (hb n).toNat = n % 128 + 128 := small _ (by omega)
theorem ofNat_toNat (b : UInt8) (n : Nat) (h : n = b.toNat) : UInt8.ofNat n = b := by subst h; simp

/-- A text of bytes that go on and a last one that does not is what its number is written as, just when the last one is no nought behind others. -/
theorem vb_val (f : Nat) (l : List UInt8) (c : UInt8) (hl : Goes l) (hc : c.toNat < 128) (hf : l.length ≤ f) :
    vb f (val (l ++ [c])) = l ++ [c] ↔ ¬ (c.toNat = 0 ∧ 0 < l.length) := by
  induction l generalizing f with
  | nil =>
    have e : val ([] ++ [c]) = c.toNat := by simp [val]; omega
    rw [e, vb_last f _ (by omega)]
    simp
  | cons a l ih =>
    have ha : 128 ≤ a.toNat := hl a (by simp)
    have ha2 : a.toNat < 256 := a.toNat_lt
    obtain ⟨g, rfl⟩ : ∃ g, f = g + 1 := ⟨f - 1, by simp at hf; omega⟩
    have hi := ih g (fun b hb => hl b (by simp [hb])) (by simp at hf; omega)
    have e : val (a :: l ++ [c]) = a.toNat % 128 + 128 * val (l ++ [c]) := by simp [val]
    rw [e]
    by_cases hz : val (l ++ [c]) = 0
    · have h0 := val_zero_last l c hc hz
      rw [vb_last _ _ (by omega)]
      simp [h0]
    · rw [vb_more _ _ (by omega)]
      have e1 : (a.toNat % 128 + 128 * val (l ++ [c])) / 128 = val (l ++ [c]) := by omega
      have e2 : (a.toNat % 128 + 128 * val (l ++ [c])) % 128 + 128 = a.toNat := by omega
      rw [e1, show hb (a.toNat % 128 + 128 * val (l ++ [c])) = a from ofNat_toNat a _ e2]
      simp only [List.cons_append, List.cons.injEq, true_and, hi, List.length_cons]
      constructor
      · rintro h ⟨h0, _⟩
        apply h
        refine ⟨h0, ?_⟩
        cases l with
        | nil => simp [val] at hz; omega
        | cons => simp
      · rintro h ⟨h0, _⟩
        exact h ⟨h0, by omega⟩

#print axioms vb_val
end Pl
end Go.Proofs.Ytmobohkcocidhaa
