/- Plain facts, without the program: what VarText, ShortText, Hex and Decimal write is read back. -/
import Derived.Test.YtnckjnkbpdfjpaaDoorPlainB
import Derived.Test.YtnckjnkbpdfjpaaDoorPlainE
import Derived.Test.YtnckjnkbpdfjpaaDoorPlainF
namespace Go.Proofs.YtnckjnkbpdfjpaaDoor
namespace Pl

theorem rvF_vb (g f m : Nat) (pre r : List UInt8) (hp : Goes pre) (hg : m < 128 ^ (g + 1)) (hf : m < 128 ^ f) (h1 : 1 ≤ f) (h0 : m = 0 → pre = []) (ht : val pre + 128 ^ pre.length * m ≤ 1000000000) :
    rvF f pre (vb g m ++ r) = some (val pre + 128 ^ pre.length * m, pre.length + (vb g m).length) := by
  induction g generalizing f m pre with
  | zero =>
    obtain ⟨f, rfl⟩ : ∃ k, f = k + 1 := ⟨f - 1, by omega⟩
    have hm : m < 128 := by simpa using hg
    have hb : (UInt8.ofNat m).toNat = m := small m (by omega)
    have hv : val (pre ++ [UInt8.ofNat m]) = val pre + 128 ^ pre.length * m := by rw [val_snoc, hb, Nat.mod_eq_of_lt hm]
    rw [vb_last 0 m (by omega), List.singleton_append, rvF_end f pre _ r (by omega) ?_, hv]
    · simp
    · rw [hv, hb]
      rintro (⟨e, hl⟩ | h)
      · rw [h0 e] at hl; simp at hl
      · omega
  | succ g ih =>
    obtain ⟨f, rfl⟩ : ∃ k, f = k + 1 := ⟨f - 1, by omega⟩
    by_cases hm : 127 < m
    · have hbn := hb_nat m
      have hd : m / 128 ≠ 0 := by omega
      have hf2 : m / 128 < 128 ^ f := by rw [Nat.pow_succ] at hf; omega
      have hf1 : 1 ≤ f := by
        rcases Nat.eq_zero_or_pos f with e | e
        · subst e; simp at hf2; omega
        · exact e
      have hval : val (pre ++ [hb m]) = val pre + 128 ^ pre.length * (m % 128) := by rw [val_snoc, hb_nat, Nat.add_mod_right, Nat.mod_mod]
      have htot : val (pre ++ [hb m]) + 128 ^ (pre ++ [hb m]).length * (m / 128) = val pre + 128 ^ pre.length * m := by
        rw [hval, List.length_append, List.length_singleton, Nat.pow_succ, Nat.mul_assoc, Nat.add_assoc, ← Nat.mul_add, Nat.add_comm (m % 128), Nat.div_add_mod]
      rw [vb_more g m hm, List.cons_append, rvF_on f pre _ _ (by omega), ih f (m / 128) (pre ++ [hb m]) (hp.snoc (by omega)) (by rw [Nat.pow_succ] at hg; omega) hf2 hf1 (fun e => absurd e hd) (by rw [htot]; exact ht), htot]
      simp
      omega
    · have hb : (UInt8.ofNat m).toNat = m := small m (by omega)
      have hv : val (pre ++ [UInt8.ofNat m]) = val pre + 128 ^ pre.length * m := by rw [val_snoc, hb, Nat.mod_eq_of_lt (by omega)]
      rw [vb_last _ m hm, List.singleton_append, rvF_end f pre _ r (by omega) ?_, hv]
      · simp
      · rw [hv, hb]
        rintro (⟨e, hl⟩ | h)
        · rw [h0 e] at hl; simp at hl
        · omega
theorem rv_back (m : Nat) (r : List UInt8) (h : m ≤ 1000000000) : rvF 5 [] (vb 8 m ++ r) = some (m, (vb 8 m).length) := by
  have := rvF_vb 8 5 m [] r (fun _ h => by cases h) (by show m < 128 ^ 9; omega) (by show m < 128 ^ 5; omega) (by omega) (fun _ => rfl) (by simp [val]; exact h)
  simpa [val] using this

theorem fnd_ch (v : UInt8) (h : v.toNat < 10) : fnd digits.data.toList (ch v.toNat) = some v.toNat := by
  rw [fnd10, ch_nat _ (by omega), if_pos (by omega)]
  congr 1
  omega
theorem vals_txt (ws acc : List UInt8) (h : ∀ v ∈ ws, v.toNat < 10) : vals digits.data.toList acc (txt ws) = some (acc ++ ws) := by
  induction ws generalizing acc with
  | nil => simp [txt, vals]
  | cons v ws ih =>
    have hv := h v (by simp)
    show vals _ acc (ch v.toNat :: txt ws) = _
    rw [vals_hit _ _ _ _ _ (fnd_ch v hv), ih _ (fun x hx => h x (by simp [hx])), ofNat_toNat v _ rfl]
    simp
theorem dg_ws (f m : Nat) (h : m < 10 ^ f) : ∃ ws, dg f m = txt ws ∧ pvv ws = m ∧ ∀ v ∈ ws, v.toNat < 10 := by
  induction f generalizing m with
  | zero => exact ⟨[], rfl, by simp at h; subst h; rfl, by simp⟩
  | succ f ih =>
    by_cases hm : m = 0
    · subst hm; exact ⟨[], by rw [dg_zero]; rfl, rfl, by simp⟩
    · obtain ⟨ws, e1, e2, e3⟩ := ih (m / 10) (by rw [Nat.pow_succ] at h; omega)
      have hs : (UInt8.ofNat (m % 10)).toNat = m % 10 := small _ (by omega)
      refine ⟨ws ++ [UInt8.ofNat (m % 10)], ?_, ?_, ?_⟩
      · rw [dg_more f m hm, e1]
        simp only [txt, List.map_append, List.map_cons, List.map_nil, hs]
      · rw [pvv_snoc, e2, hs]; omega
      · intro v hv
        simp only [List.mem_append, List.mem_singleton] at hv
        rcases hv with hv | rfl
        · exact e3 v hv
        · omega
theorem dec_back (m : Nat) (h : m ≤ 1000000000) : ∃ vs, vals digits.data.toList [] (decL (m : Int)) = some vs ∧ pvv vs = m ∧ (decL (m : Int)).length ≤ 10 := by
  unfold decL
  by_cases h0 : m = 0
  · subst h0
    exact ⟨[0], by decide, rfl, by decide⟩
  · rw [if_neg (by omega), if_neg (by omega)]
    obtain ⟨ws, e1, e2, e3⟩ := dg_ws 20 m (by omega)
    have hn : (m : Int).natAbs = m := by omega
    rw [hn]
    refine ⟨ws, by rw [e1, vals_txt ws [] e3]; simp, e2, dg_len 20 m 10 (by omega)⟩

/-- The halves of each byte. -/
def nib : List UInt8 → List UInt8
  | [] => []
  | b :: l => UInt8.ofNat (b.toNat / 16) :: UInt8.ofNat (b.toNat % 16) :: nib l
theorem fig_all : ∀ n : Fin 16, fnd figures.data.toList (fig n.val) = some n.val := by decide +kernel
theorem fnd_fig (n : Nat) (h : n < 16) : fnd figures.data.toList (fig n) = some n := fig_all ⟨n, h⟩
theorem vals_hex (l acc : List UInt8) : vals figures.data.toList acc (hexL l) = some (acc ++ nib l) := by
  induction l generalizing acc with
  | nil => simp [hexL, nib, vals]
  | cons b l ih =>
    have hb : b.toNat < 256 := b.toNat_lt
    rw [hexL, vals_hit _ _ _ _ _ (fnd_fig (b.toNat / 16) (by omega)), vals_hit _ _ _ _ _ (fnd_fig (b.toNat % 16) (by omega)), ih]
    simp [nib]
theorem prs_nib (l : List UInt8) : prs (nib l) = l := by
  induction l with
  | nil => rfl
  | cons b l ih =>
    have hb : b.toNat < 256 := b.toNat_lt
    rw [nib, prs, ih, small _ (by omega), small _ (by omega)]
    congr 1
    exact ofNat_toNat b _ (by omega)
theorem hex_back (l : List UInt8) : ∃ vs, vals figures.data.toList [] (hexL l) = some vs ∧ prs vs = l := ⟨nib l, by rw [vals_hex]; simp, prs_nib l⟩
#print axioms rv_back
#print axioms dec_back
#print axioms hex_back
end Pl
end Go.Proofs.YtnckjnkbpdfjpaaDoor
