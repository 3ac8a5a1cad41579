/- Plain facts, without the program: what a figure of sixteen is worth, and bytes out of pairs of such. -/
import Derived.Test.YtnckjnkbpdfjpaaDoorPlainD
namespace Go.Proofs.YtnckjnkbpdfjpaaDoor
namespace Pl

/-- What a figure of sixteen is worth; -1 of another sign. -/
def valI (n : Nat) : Int := if 48 ≤ n ∧ n ≤ 57 then (n : Int) - 48 else if 97 ≤ n ∧ n ≤ 102 then (n : Int) - 97 + 10 else -1
theorem fnd_all : ∀ n : Fin 256, fnd figures.data.toList (UInt8.ofNat n.val) = if 0 ≤ valI n.val then some (valI n.val).toNat else none := by decide +kernel
theorem fnd_val (b : UInt8) : fnd figures.data.toList b = if 0 ≤ valI b.toNat then some (valI b.toNat).toNat else none := by
  have := fnd_all ⟨b.toNat, b.toNat_lt⟩
  rwa [show UInt8.ofNat (⟨b.toNat, b.toNat_lt⟩ : Fin 256).val = b from ofNat_toNat b _ rfl] at this
theorem valI_lt (n : Nat) : valI n < 16 ∧ -1 ≤ valI n := by
  unfold valI
  split
  · omega
  · split <;> omega

/-- The byte of two worths. -/
def pb (p q : Nat) : UInt8 := UInt8.ofNat (16 * p + q)
theorem pb_nat (p q : Nat) (h : 16 * p + q < 256) : (pb p q).toNat = 16 * p + q := small _ h
/-- Bytes out of pairs of worths. -/
def prs : List UInt8 → List UInt8
  | h :: l :: r => pb h.toNat l.toNat :: prs r
  | _ => []
theorem prs_snoc (vs : List UInt8) (j : Nat) (h : vs.length = 2 * j) (a b : UInt8) : prs (vs ++ [a, b]) = prs vs ++ [pb a.toNat b.toNat] := by
  induction j generalizing vs with
  | zero =>
    obtain rfl : vs = [] := by simpa using h
    rfl
  | succ j ih =>
    match vs, h with
    | x :: y :: r, h => simp [prs, ih r (by simp at h; omega)]
theorem prs_len (vs : List UInt8) (j : Nat) (h : vs.length = 2 * j) : (prs vs).length = j := by
  induction j generalizing vs with
  | zero =>
    obtain rfl : vs = [] := by simpa using h
    rfl
  | succ j ih =>
    match vs, h with
    | x :: y :: r, h => simp [prs, ih r (by simp at h; omega)]
theorem prs_at (vs : List UInt8) (j i : Nat) (h : vs.length = 2 * j) (hi : i < j) : (prs vs)[i]? = some (pb (vs.getD (2 * i) 0).toNat (vs.getD (2 * i + 1) 0).toNat) := by
  induction j generalizing vs i with
  | zero => omega
  | succ j ih =>
    match vs, h with
    | x :: y :: r, h =>
      cases i with
      | zero => simp [prs]
      | succ i =>
        have := ih r i (by simp at h; omega) (by omega)
        simp only [prs, List.getElem?_cons_succ, this]
        rfl

theorem vals_len (f acc r vs : List UInt8) (h : vals f acc r = some vs) : vs.length = acc.length + r.length := by
  induction r generalizing acc with
  | nil => simp [vals] at h; subst h; simp
  | cons b r ih =>
    cases hf : fnd f b with
    | none => rw [vals_miss _ _ _ _ hf] at h; cases h
    | some m =>
      rw [vals_hit _ _ _ _ _ hf] at h
      have := ih _ h
      simp at this ⊢; omega
theorem vals_small (f acc r vs : List UInt8) (hf16 : f.length ≤ 16) (hacc : ∀ b ∈ acc, b.toNat < 16) (h : vals f acc r = some vs) : ∀ b ∈ vs, b.toNat < 16 := by
  induction r generalizing acc with
  | nil => simp [vals] at h; subst h; exact hacc
  | cons b r ih =>
    cases hf : fnd f b with
    | none => rw [vals_miss _ _ _ _ hf] at h; cases h
    | some m =>
      rw [vals_hit _ _ _ _ _ hf] at h
      refine ih _ ?_ h
      intro c hc
      simp at hc
      rcases hc with hc | rfl
      · exact hacc c hc
      · have := fnd_lt _ _ _ hf
        rw [small m (by omega)]; omega
theorem take_set (bs l : List UInt8) (k : Nat) (c : UInt8) (h : bs.take k = l.take k) (hk : k < bs.length) (hc : l[k]? = some c) : (bs.set k c).take (k + 1) = l.take (k + 1) := by
  rw [List.take_add_one, List.take_add_one, hc, List.take_set_of_le (Nat.le_refl _), h]
  simp [hk]
#print axioms fnd_val
end Pl
end Go.Proofs.YtnckjnkbpdfjpaaDoor
