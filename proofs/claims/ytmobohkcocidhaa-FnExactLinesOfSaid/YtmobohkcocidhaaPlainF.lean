/- Plain facts, without the program: a number in decimal figures, and when a text of figures is that of its number. -/
import Derived.Test.YtmobohkcocidhaaPlainD
namespace Go.Proofs.Ytmobohkcocidhaa
namespace Pl

/-- The byte of a decimal figure. -/
def ch (d : Nat) : UInt8 := UInt8.ofNat (48 + d)
theorem ch_nat (d : Nat) (h : d < 200) : (ch d).toNat = 48 + d := small _ (by omega)

/-- The figures of n, none of nought; at most f of them. -/
def dg : Nat → Nat → List UInt8
  | 0, _ => []
  | f + 1, n => if n = 0 then [] else dg f (n / 10) ++ [ch (n % 10)]
theorem dg_zero (f : Nat) : dg f 0 = [] := by cases f <;> rfl
theorem dg_more (f n : Nat) (h : n ≠ 0) : dg (f + 1) n = dg f (n / 10) ++ [ch (n % 10)] := by rw [dg, if_neg h]

/-- What Decimal answers. -/
def decL (n : Int) : List UInt8 := if n = 0 then [48] else if n < 0 then 45 :: dg 20 n.natAbs else dg 20 n.natAbs

theorem dg_len (f n k : Nat) (h : n < 10 ^ k) : (dg f n).length ≤ k := by
  induction f generalizing n k with
  | zero => simp [dg]
  | succ f ih =>
    by_cases hn : n = 0
    · subst hn; rw [dg_zero]; simp
    · rw [dg_more f n hn]
      cases k with
      | zero => simp at h; omega
      | succ k =>
        have := ih (n / 10) k (by rw [Nat.pow_succ] at h; omega)
        simp; omega

theorem snoc_ind {P : List UInt8 → Prop} (h0 : P []) (h1 : ∀ l b, P l → P (l ++ [b])) (l : List UInt8) : P l := by
  have : ∀ r : List UInt8, P r.reverse := by
    intro r
    induction r with
    | nil => exact h0
    | cons b r ih => rw [List.reverse_cons]; exact h1 _ _ ih
  have h := this l.reverse
  rwa [List.reverse_reverse] at h

/-- The number of a list of worths. -/
def pvv (vs : List UInt8) : Nat := vs.foldl (fun n v => 10 * n + v.toNat) 0
theorem pvv_snoc (vs : List UInt8) (v : UInt8) : pvv (vs ++ [v]) = 10 * pvv vs + v.toNat := by simp [pvv]
theorem pvv_lt (vs : List UInt8) (h : ∀ v ∈ vs, v.toNat < 10) : pvv vs < 10 ^ vs.length := by
  revert h
  refine snoc_ind (P := fun vs => (∀ v ∈ vs, v.toNat < 10) → pvv vs < 10 ^ vs.length) ?_ ?_ vs
  · intro _; simp [pvv]
  · intro vs v ih h
    have h1 := ih (fun v hv => h v (by simp [hv]))
    have h2 := h v (by simp)
    rw [pvv_snoc, List.length_append, List.length_singleton, Nat.pow_succ]
    omega
theorem pvv_cons_zero (vs : List UInt8) : pvv (0 :: vs) = pvv vs := by simp [pvv]

/-- The text of a list of worths. -/
def txt (vs : List UInt8) : List UInt8 := vs.map fun v => ch v.toNat

/-- With no nought ahead, the text is that of its number. -/
theorem dg_txt (vs : List UInt8) (f : Nat) (hf : vs.length ≤ f) (h : ∀ v ∈ vs, v.toNat < 10) (hne : vs ≠ []) (h0 : vs.head? ≠ some 0) : dg f (pvv vs) = txt vs ∧ 0 < pvv vs := by
  revert f
  revert h hne h0
  refine snoc_ind (P := fun vs => (∀ v ∈ vs, v.toNat < 10) → vs ≠ [] → vs.head? ≠ some 0 → ∀ f, vs.length ≤ f → dg f (pvv vs) = txt vs ∧ 0 < pvv vs) ?_ ?_ vs
  · intro _ hne; exact absurd rfl hne
  · intro vs v ih h _ h0 f hf
    have hv := h v (by simp)
    obtain ⟨g, rfl⟩ : ∃ g, f = g + 1 := ⟨f - 1, by simp at hf; omega⟩
    rw [pvv_snoc]
    by_cases hvs : vs = []
    · subst hvs
      have hv0 : v.toNat ≠ 0 := by
        intro e
        apply h0
        have : v = 0 := UInt8.toNat_inj.1 (by simpa using e)
        simp [this]
      refine ⟨?_, by omega⟩
      rw [show pvv [] = 0 from rfl, dg_more _ _ (by omega)]
      have e1 : (10 * 0 + v.toNat) / 10 = 0 := by omega
      have e2 : (10 * 0 + v.toNat) % 10 = v.toNat := by omega
      rw [e1, e2, dg_zero]
      rfl
    · have hh : vs.head? ≠ some 0 := by
        cases vs with
        | nil => exact absurd rfl hvs
        | cons a r => simpa using h0
      obtain ⟨i1, i2⟩ := ih (fun v hv => h v (by simp [hv])) hvs hh g (by simp at hf; omega)
      refine ⟨?_, by omega⟩
      rw [dg_more _ _ (by omega)]
      have e1 : (10 * pvv vs + v.toNat) / 10 = pvv vs := by omega
      have e2 : (10 * pvv vs + v.toNat) % 10 = v.toNat := by omega
      rw [e1, e2, i1]
      simp [txt]

/-- The text is that of its number just when it isn't empty and has no needless nought ahead. -/
theorem dec_iff (vs : List UInt8) (hl : vs.length ≤ 10) (h : ∀ v ∈ vs, v.toNat < 10) :
    decL (pvv vs : Int) = txt vs ↔ vs ≠ [] ∧ ¬ (vs.head? = some 0 ∧ vs ≠ [0]) := by
  cases vs with
  | nil => simp [decL, pvv, txt]
  | cons a r =>
    by_cases ha : a = 0
    · subst ha
      cases r with
      | nil => simp [decL, pvv, txt]; rfl
      | cons b r =>
        have hlt := pvv_lt (b :: r) (fun v hv => h v (by simp [hv]))
        have hd := dg_len 20 (pvv (b :: r)) (b :: r).length hlt
        constructor
        · intro e
          exfalso
          have el := congrArg List.length e
          rw [pvv_cons_zero] at el
          unfold decL at el
          split at el
          · simp [txt] at el
          · rw [if_neg (by omega)] at el
            simp [txt] at el hd
            omega
        · rintro ⟨_, h2⟩
          exact absurd ⟨rfl, by simp⟩ h2
    · have hh : (a :: r).head? ≠ some 0 := by simpa using ha
      obtain ⟨i1, i2⟩ := dg_txt (a :: r) 20 (by omega) h (by simp) hh
      constructor
      · intro _
        exact ⟨by simp, fun hc => hh hc.1⟩
      · intro _
        unfold decL
        rw [if_neg (by omega), if_neg (by omega)]
        simpa using i1

def digits : ByteArray := ⟨#[48, 49, 50, 51, 52, 53, 54, 55, 56, 57]⟩
theorem fnd10_all : ∀ n : Fin 256, fnd digits.data.toList (UInt8.ofNat n.val) = if 48 ≤ n.val ∧ n.val ≤ 57 then some (n.val - 48) else none := by decide +kernel
theorem fnd10 (b : UInt8) : fnd digits.data.toList b = if 48 ≤ b.toNat ∧ b.toNat ≤ 57 then some (b.toNat - 48) else none := by
  have := fnd10_all ⟨b.toNat, b.toNat_lt⟩
  rwa [show UInt8.ofNat (⟨b.toNat, b.toNat_lt⟩ : Fin 256).val = b from ofNat_toNat b _ rfl] at this

theorem vals10 (acc r vs : List UInt8) (h : vals digits.data.toList acc r = some vs) : ∃ ws, vs = acc ++ ws ∧ r = txt ws ∧ ∀ v ∈ ws, v.toNat < 10 := by
  induction r generalizing acc with
  | nil => simp [vals] at h; exact ⟨[], by simp [h], rfl, by simp⟩
  | cons b r ih =>
    cases hf : fnd digits.data.toList b with
    | none => rw [vals_miss _ _ _ _ hf] at h; cases h
    | some m =>
      rw [vals_hit _ _ _ _ _ hf] at h
      obtain ⟨ws, e1, e2, e3⟩ := ih _ h
      rw [fnd10] at hf
      split at hf
      · rename_i hb
        simp only [Option.some.injEq] at hf
        have hm : (UInt8.ofNat m).toNat = m := small m (by omega)
        refine ⟨UInt8.ofNat m :: ws, by simp [e1], ?_, ?_⟩
        · simp only [txt, List.map_cons, hm]
          rw [e2]
          congr 1
          exact (ofNat_toNat b _ (by omega)).symm
        · intro v hv
          simp at hv
          rcases hv with rfl | hv
          · rw [hm]; omega
          · exact e3 v hv
      · cases hf
#print axioms dec_iff
#print axioms vals10
end Pl
end Go.Proofs.Ytmobohkcocidhaa
