/- Plain facts, without the program: every field is there, has no blank and is no longer than forty bytes; fields put together with a blank ahead of each are the same fields. -/
import Derived.Test.YtchieahfellcbabPV
namespace Go.Proofs.Ytchieahfellcbab
namespace Pv

/-- A field: not empty, no blank in it, at most forty bytes. -/
def Fld (f : List UInt8) : Prop := f ≠ [] ∧ (∀ b ∈ f, gap b = false) ∧ f.length ≤ 40
theorem cut_fld (cur : List UInt8) (h : cur ≠ []) (hg : ∀ b ∈ cur, gap b = false) : Fld (cut cur) := by
  refine ⟨?_, ?_, cut_len cur⟩
  · cases cur with
    | nil => exact absurd rfl h
    | cons a r => simp [cut]
  · intro b hb
    exact hg b (List.mem_of_mem_take hb)
theorem fld_all (cur r : List UInt8) (hg : ∀ b ∈ cur, gap b = false) : ∀ f ∈ fld cur r, Fld f := by
  induction r generalizing cur with
  | nil =>
    intro f hf
    by_cases h : cur = []
    · subst h; simp [fld] at hf
    · rw [fld_end cur h, List.mem_singleton] at hf
      subst hf
      exact cut_fld cur h hg
  | cons b r ih =>
    intro f hf
    cases hb : gap b with
    | true =>
      by_cases h : cur = []
      · subst h
        rw [fld_gap0 b hb] at hf
        exact ih [] (by simp) f hf
      · rw [fld_gap cur h b hb, List.mem_cons] at hf
        rcases hf with rfl | hf
        · exact cut_fld cur h hg
        · exact ih [] (by simp) f hf
    | false =>
      rw [fld_sign cur b hb] at hf
      refine ih (cur ++ [b]) ?_ f hf
      intro c hc
      rw [List.mem_append, List.mem_singleton] at hc
      rcases hc with hc | rfl
      · exact hg c hc
      · exact hb
theorem flds_all (l : List UInt8) : ∀ f ∈ flds l, Fld f := fun f hf => fld_all [] l (by simp) f (List.mem_of_mem_take hf)

/-- Fields put together, a blank ahead of each. -/
def join : List (List UInt8) → List UInt8
  | [] => []
  | f :: r => 32 :: (f ++ join r)
theorem join_snoc (ws : List (List UInt8)) (f : List UInt8) : join (ws ++ [f]) = join ws ++ (32 :: f) := by
  induction ws with
  | nil => simp [join]
  | cons a r ih => simp [join, ih]
theorem join_len (ws : List (List UInt8)) (h : ∀ f ∈ ws, Fld f) : (join ws).length ≤ 41 * ws.length := by
  induction ws with
  | nil => simp [join]
  | cons a r ih =>
    have h1 := (h a (by simp)).2.2
    have h2 := ih (fun f hf => h f (by simp [hf]))
    simp [join]; omega
theorem fld_over (cur p r : List UInt8) (h : ∀ b ∈ p, gap b = false) : fld cur (p ++ r) = fld (cur ++ p) r := by
  induction p generalizing cur with
  | nil => simp
  | cons b p ih =>
    rw [List.cons_append, fld_sign cur b (h b (by simp)), ih _ (fun c hc => h c (by simp [hc]))]
    simp
theorem fld_join (ws : List (List UInt8)) (h : ∀ f ∈ ws, Fld f) : fld [] (join ws) = ws := by
  induction ws with
  | nil => rfl
  | cons a r ih =>
    obtain ⟨h1, h2, h3⟩ := h a (by simp)
    have ih2 := ih (fun f hf => h f (by simp [hf]))
    rw [join, fld_gap0 32 (by decide), fld_over [] a _ h2, List.nil_append]
    cases r with
    | nil =>
      rw [show join [] = [] from rfl, fld_end a h1, cut_short a h3]
    | cons c r =>
      rw [show join (c :: r) = 32 :: (c ++ join r) from rfl] at ih2 ⊢
      rw [fld_gap0 32 (by decide)] at ih2
      rw [fld_gap a h1 32 (by decide), cut_short a h3, ih2]
/-- Fields put together with a blank ahead of each are the same fields. -/
theorem flds_join (l : List UInt8) : flds (join (flds l)) = flds l := by
  have h := fld_join (flds l) (flds_all l)
  show (fld [] (join (flds l))).take 20 = flds l
  rw [h]
  exact List.take_of_length_le (flds_len l)
#print axioms flds_join
end Pv
end Go.Proofs.Ytchieahfellcbab
