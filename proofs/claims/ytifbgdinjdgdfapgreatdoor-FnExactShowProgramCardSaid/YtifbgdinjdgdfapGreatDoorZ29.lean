/- What is shown of a right statement: every one. How long what is shown is: at most sixty bytes a node. How long what is shown of a right expression or statement is. -/
import Derived.Test.YtifbgdinjdgdfapGreatDoorZ28
import Derived.Test.YtifbgdinjdgdfapGreatDoorZ21
namespace Go.Proofs.YtifbgdinjdgdfapGreatDoor
section PartShL
open Go.RowKit

namespace Sh
theorem len_mid (a b c : List UInt8) : b.length ≤ (a ++ b ++ c).length := by simp only [List.length_append]; omega
theorem ex_le {ps : List Pi} {i : Nat} (h : Pg.node ps i = true) (he : Pg.ex (ps.getD i Pi.no).op = false) (k : Nat) (hk : k < (ps.getD i Pi.no).kids.length) (hx : Pg.ex (ps.getD (kid (ps.getD i Pi.no) k) Pi.no).op = true) : (exC ps (kid (ps.getD i Pi.no) k)).length ≤ (st ps (i + 1) i).length := by
  obtain ⟨h1, h2, hm, hk0⟩ := node_st h he
  have h3 := (hk0 k hk).2.2
  rw [hx] at h3
  obtain c | c | c | c | c | c | c | c | c : (ps.getD i Pi.no).op = 17 ∨ (ps.getD i Pi.no).op = 18 ∨ (ps.getD i Pi.no).op = 19 ∨ (ps.getD i Pi.no).op = 20 ∨ (ps.getD i Pi.no).op = 21 ∨ (ps.getD i Pi.no).op = 22 ∨ (ps.getD i Pi.no).op = 23 ∨ (ps.getD i Pi.no).op = 24 ∨ (ps.getD i Pi.no).op = 25 := by omega
  · have n : ∀ z : Int, z ≠ 17 → ¬ (ps.getD i Pi.no).op = z := fun z hz => by omega
    have hm2 : Pg.many (ps.getD i Pi.no).op = (1, 4) := by rw [c]; rfl
    rw [hm2] at hm
    have hm3 : 1 ≤ (ps.getD i Pi.no).kids.length ∧ (ps.getD i Pi.no).kids.length ≤ 4 := hm
    rw [st, if_pos c]
    refine Nat.le_trans (el_le [44, 32] (fun k => exC ps k.toNat) _ k hk) ?_
    simp only [List.length_append]; omega
  · have n : ∀ z : Int, z ≠ 18 → ¬ (ps.getD i Pi.no).op = z := fun z hz => by omega
    have hm2 : Pg.many (ps.getD i Pi.no).op = (1, 1) := by rw [c]; rfl
    rw [hm2] at hm
    have hm3 : 1 ≤ (ps.getD i Pi.no).kids.length ∧ (ps.getD i Pi.no).kids.length ≤ 1 := hm
    rw [st, if_neg (n 17 (by decide)), if_pos c]
    have k0 : k = 0 := by omega
    subst k0
    simp only [List.length_append]; omega
  · have n : ∀ z : Int, z ≠ 19 → ¬ (ps.getD i Pi.no).op = z := fun z hz => by omega
    have hm2 : Pg.many (ps.getD i Pi.no).op = (1, 1) := by rw [c]; rfl
    rw [hm2] at hm
    have hm3 : 1 ≤ (ps.getD i Pi.no).kids.length ∧ (ps.getD i Pi.no).kids.length ≤ 1 := hm
    rw [st, if_neg (n 17 (by decide)), if_neg (n 18 (by decide)), if_pos c]
    have k0 : k = 0 := by omega
    subst k0
    simp only [List.length_append]; omega
  · have n : ∀ z : Int, z ≠ 20 → ¬ (ps.getD i Pi.no).op = z := fun z hz => by omega
    have hm2 : Pg.many (ps.getD i Pi.no).op = (2, 2) := by rw [c]; rfl
    rw [hm2] at hm
    have hm3 : 2 ≤ (ps.getD i Pi.no).kids.length ∧ (ps.getD i Pi.no).kids.length ≤ 2 := hm
    rw [st, if_neg (n 17 (by decide)), if_neg (n 18 (by decide)), if_neg (n 19 (by decide)), if_pos c]
    obtain k0 | k0 : k = 0 ∨ k = 1 := by omega
    · subst k0; simp only [List.length_append]; omega
    · subst k0; simp only [List.length_append]; omega
  · have n : ∀ z : Int, z ≠ 21 → ¬ (ps.getD i Pi.no).op = z := fun z hz => by omega
    have hm2 : Pg.many (ps.getD i Pi.no).op = (2, 2) := by rw [c]; rfl
    rw [hm2] at hm
    have hm3 : 2 ≤ (ps.getD i Pi.no).kids.length ∧ (ps.getD i Pi.no).kids.length ≤ 2 := hm
    rw [st, if_neg (n 17 (by decide)), if_neg (n 18 (by decide)), if_neg (n 19 (by decide)), if_neg (n 20 (by decide)), if_pos c]
    obtain k0 | k0 : k = 0 ∨ k = 1 := by omega
    · subst k0; simp only [List.length_append]; omega
    · subst k0; simp only [List.length_append]; omega
  · have n : ∀ z : Int, z ≠ 22 → ¬ (ps.getD i Pi.no).op = z := fun z hz => by omega
    have hm2 : Pg.many (ps.getD i Pi.no).op = (2, 3) := by rw [c]; rfl
    rw [hm2] at hm
    have hm3 : 2 ≤ (ps.getD i Pi.no).kids.length ∧ (ps.getD i Pi.no).kids.length ≤ 3 := hm
    have k0 : k = 0 := by rw [c] at h3; simp at h3; exact h3
    subst k0
    rw [st, if_neg (n 17 (by decide)), if_neg (n 18 (by decide)), if_neg (n 19 (by decide)), if_neg (n 20 (by decide)), if_neg (n 21 (by decide)), if_pos c]
    simp only [List.length_append]; omega
  · have n : ∀ z : Int, z ≠ 23 → ¬ (ps.getD i Pi.no).op = z := fun z hz => by omega
    have hm2 : Pg.many (ps.getD i Pi.no).op = (0, 0) := by rw [c]; rfl
    rw [hm2] at hm
    have hm3 : 0 ≤ (ps.getD i Pi.no).kids.length ∧ (ps.getD i Pi.no).kids.length ≤ 0 := hm
    omega
  · have n : ∀ z : Int, z ≠ 24 → ¬ (ps.getD i Pi.no).op = z := fun z hz => by omega
    have hm2 : Pg.many (ps.getD i Pi.no).op = (0, 20) := by rw [c]; rfl
    rw [hm2] at hm
    have hm3 : 0 ≤ (ps.getD i Pi.no).kids.length ∧ (ps.getD i Pi.no).kids.length ≤ 20 := hm
    rw [c] at h3; simp at h3
  · have n : ∀ z : Int, z ≠ 25 → ¬ (ps.getD i Pi.no).op = z := fun z hz => by omega
    have hm2 : Pg.many (ps.getD i Pi.no).op = (0, 0) := by rw [c]; rfl
    rw [hm2] at hm
    have hm3 : 0 ≤ (ps.getD i Pi.no).kids.length ∧ (ps.getD i Pi.no).kids.length ≤ 0 := hm
    omega
theorem st_le {ps : List Pi} {i : Nat} (h : Pg.node ps i = true) (he : Pg.ex (ps.getD i Pi.no).op = false) (k : Nat) (hk : k < (ps.getD i Pi.no).kids.length) (hx : Pg.ex (ps.getD (kid (ps.getD i Pi.no) k) Pi.no).op = false) : (st ps i (kid (ps.getD i Pi.no) k)).length ≤ (st ps (i + 1) i).length := by
  obtain ⟨h1, h2, hm, hk0⟩ := node_st h he
  have h3 := (hk0 k hk).2.2
  rw [hx] at h3
  have h4 : (ps.getD i Pi.no).op = 24 ∨ ((ps.getD i Pi.no).op = 22 ∧ 0 < k) := by
    by_cases a : (ps.getD i Pi.no).op = 24
    · exact Or.inl a
    · by_cases b : (ps.getD i Pi.no).op = 22
      · by_cases d : 0 < k
        · exact Or.inr ⟨b, d⟩
        · rw [decide_eq_false a, decide_eq_false d] at h3; simp at h3
      · rw [decide_eq_false a, decide_eq_false b] at h3; simp at h3
  obtain c | ⟨c, d⟩ := h4
  · have n : ∀ z : Int, z ≠ 24 → ¬ (ps.getD i Pi.no).op = z := fun z hz => by omega
    have e : st ps (i + 1) i = [123, 32] ++ sep [59, 32] ((ps.getD i Pi.no).kids.map fun k => st ps i k.toNat) ++ (if 0 < (ps.getD i Pi.no).kids.length then [32] else []) ++ [125] := by
      rw [st, if_neg (n 17 (by decide)), if_neg (n 18 (by decide)), if_neg (n 19 (by decide)), if_neg (n 20 (by decide)), if_neg (n 21 (by decide)), if_neg (n 22 (by decide)), if_neg (n 23 (by decide)), if_neg (n 25 (by decide))]
    rw [e]
    refine Nat.le_trans (el_le [59, 32] (fun k => st ps i k.toNat) _ k hk) ?_
    simp only [List.length_append]; omega
  · have n : ∀ z : Int, z ≠ 22 → ¬ (ps.getD i Pi.no).op = z := fun z hz => by omega
    have hm2 : Pg.many (ps.getD i Pi.no).op = (2, 3) := by rw [c]; rfl
    rw [hm2] at hm
    have hm3 : 2 ≤ (ps.getD i Pi.no).kids.length ∧ (ps.getD i Pi.no).kids.length ≤ 3 := hm
    obtain k0 | k0 : k = 1 ∨ k = 2 := by omega
    · subst k0
      conv => rhs; rw [st, if_neg (n 17 (by decide)), if_neg (n 18 (by decide)), if_neg (n 19 (by decide)), if_neg (n 20 (by decide)), if_neg (n 21 (by decide)), if_pos c]
      simp only [List.length_append]; omega
    · subst k0
      conv => rhs; rw [st, if_neg (n 17 (by decide)), if_neg (n 18 (by decide)), if_neg (n 19 (by decide)), if_neg (n 20 (by decide)), if_neg (n 21 (by decide)), if_pos c]
      rw [if_pos (by omega)]
      simp only [List.length_append]; omega
end Sh
theorem spShowSt (v : Value) (ps : List Pi) (ra : Option Addr) (rn rc : Nat) (w : World) (h : PcsAt w v ps) (hl : ps.length ≤ 200) (hn : ∀ i, i < ps.length → Pg.node ps i = true) :
    ∀ i, i < ps.length → Pg.ex (ps.getD i Pi.no).op = false → (Sh.st ps (i + 1) i).length ≤ 1000000 → ∀ W, Below w.heap.size w W → Calls Tryz.prog 35 #[.agg #[v, .slice ra rn rc], .int .i64 (i : Int)] W fun e w' => e = .returned (.string ⟨(Sh.st ps (i + 1) i).toArray⟩) ∧ Below W.heap.size W w' := by
  intro i
  induction i using Nat.strongRecOn with
  | ind i ih =>
    intro hi he htl W hW
    have hP := h.keep hW
    obtain ⟨h1, h2, hm, hk⟩ := Sh.node_st (hn i hi) he
    have hX : ∀ k, k < (ps.getD i Pi.no).kids.length → Pg.ex (ps.getD (Sh.kid (ps.getD i Pi.no) k) Pi.no).op = true → ∀ W', Below W.heap.size W W' → Calls Tryz.prog 34 #[.agg #[v, .slice ra rn rc], .int .i64 (Sh.kid (ps.getD i Pi.no) k : Int)] W' fun e w' => e = .returned (.string ⟨(Sh.exC ps (Sh.kid (ps.getD i Pi.no) k)).toArray⟩) ∧ Below W'.heap.size W' w' := by
      intro k hk2 b2 W' hW'
      obtain ⟨-, b1, -⟩ := hk k hk2
      have hle := Sh.ex_le (hn i hi) he k hk2 b2
      exact spShowEx v ps ra rn rc w h hl hn _ (by omega) b2 (Nat.le_trans hle htl) W' (hW.trans (hW'.mono hW.size))
    have hS : ∀ k, k < (ps.getD i Pi.no).kids.length → Pg.ex (ps.getD (Sh.kid (ps.getD i Pi.no) k) Pi.no).op = false → ∀ W', Below W.heap.size W W' → Calls Tryz.prog 35 #[.agg #[v, .slice ra rn rc], .int .i64 (Sh.kid (ps.getD i Pi.no) k : Int)] W' fun e w' => e = .returned (.string ⟨(Sh.st ps i (Sh.kid (ps.getD i Pi.no) k)).toArray⟩) ∧ Below W'.heap.size W' w' := by
      intro k hk2 b2 W' hW'
      obtain ⟨-, b1, -⟩ := hk k hk2
      have e := Sh.st_fuel hn (Sh.kid (ps.getD i Pi.no) k) i (by omega) b1 b2
      have hle := Sh.st_le (hn i hi) he k hk2 b2
      rw [e] at hle ⊢
      exact ih _ b1 (by omega) b2 (by omega) W' (hW.trans (hW'.mono hW.size))
    have kz : ∀ k, k < (ps.getD i Pi.no).kids.length → ((Sh.kid (ps.getD i Pi.no) k : Nat) : Int) = (ps.getD i Pi.no).kids.getD k 0 := fun k hk2 => Int.toNat_of_nonneg (hk k hk2).1
    obtain c | c | c | c | c | c | c | c | c : (ps.getD i Pi.no).op = 17 ∨ (ps.getD i Pi.no).op = 18 ∨ (ps.getD i Pi.no).op = 19 ∨ (ps.getD i Pi.no).op = 20 ∨ (ps.getD i Pi.no).op = 21 ∨ (ps.getD i Pi.no).op = 22 ∨ (ps.getD i Pi.no).op = 23 ∨ (ps.getD i Pi.no).op = 24 ∨ (ps.getD i Pi.no).op = 25 := by omega
    · have hm2 : Pg.many (ps.getD i Pi.no).op = (1, 4) := by rw [c]; rfl
      rw [hm2] at hm
      have hm3 : 1 ≤ (ps.getD i Pi.no).kids.length ∧ (ps.getD i Pi.no).kids.length ≤ 4 := hm
      have ax : ∀ k, k < (ps.getD i Pi.no).kids.length → Pg.ex (ps.getD (Sh.kid (ps.getD i Pi.no) k) Pi.no).op = true := fun k hk2 => by rw [(hk k hk2).2.2, c]; simp
      refine showSt_print v ps ra rn rc i W hP hi hl c hm3.1 hm3.2 (fun k hk2 => ?_) htl
      rw [← kz k hk2]
      exact hX k hk2 (ax k hk2)
    · have hm2 : Pg.many (ps.getD i Pi.no).op = (1, 1) := by rw [c]; rfl
      rw [hm2] at hm
      have hm3 : 1 ≤ (ps.getD i Pi.no).kids.length ∧ (ps.getD i Pi.no).kids.length ≤ 1 := hm
      have ax : ∀ k, k < (ps.getD i Pi.no).kids.length → Pg.ex (ps.getD (Sh.kid (ps.getD i Pi.no) k) Pi.no).op = true := fun k hk2 => by rw [(hk k hk2).2.2, c]; simp
      exact showSt_set v ps ra rn rc i W hP hi hl c (by omega) (hk 0 (by omega)).1 (hX 0 (by omega) (ax 0 (by omega))) htl
    · have hm2 : Pg.many (ps.getD i Pi.no).op = (1, 1) := by rw [c]; rfl
      rw [hm2] at hm
      have hm3 : 1 ≤ (ps.getD i Pi.no).kids.length ∧ (ps.getD i Pi.no).kids.length ≤ 1 := hm
      have ax : ∀ k, k < (ps.getD i Pi.no).kids.length → Pg.ex (ps.getD (Sh.kid (ps.getD i Pi.no) k) Pi.no).op = true := fun k hk2 => by rw [(hk k hk2).2.2, c]; simp
      exact showSt_add v ps ra rn rc i W hP hi hl c (by omega) (hk 0 (by omega)).1 (hX 0 (by omega) (ax 0 (by omega))) htl
    · have hm2 : Pg.many (ps.getD i Pi.no).op = (2, 2) := by rw [c]; rfl
      rw [hm2] at hm
      have hm3 : 2 ≤ (ps.getD i Pi.no).kids.length ∧ (ps.getD i Pi.no).kids.length ≤ 2 := hm
      have ax : ∀ k, k < (ps.getD i Pi.no).kids.length → Pg.ex (ps.getD (Sh.kid (ps.getD i Pi.no) k) Pi.no).op = true := fun k hk2 => by rw [(hk k hk2).2.2, c]; simp
      exact showSt_setCell v ps ra rn rc i W hP hi hl c (by omega) (hk 0 (by omega)).1 (hX 0 (by omega) (ax 0 (by omega))) (hk 1 (by omega)).1 (hX 1 (by omega) (ax 1 (by omega))) htl
    · have hm2 : Pg.many (ps.getD i Pi.no).op = (2, 2) := by rw [c]; rfl
      rw [hm2] at hm
      have hm3 : 2 ≤ (ps.getD i Pi.no).kids.length ∧ (ps.getD i Pi.no).kids.length ≤ 2 := hm
      have ax : ∀ k, k < (ps.getD i Pi.no).kids.length → Pg.ex (ps.getD (Sh.kid (ps.getD i Pi.no) k) Pi.no).op = true := fun k hk2 => by rw [(hk k hk2).2.2, c]; simp
      exact showSt_addCell v ps ra rn rc i W hP hi hl c (by omega) (hk 0 (by omega)).1 (hX 0 (by omega) (ax 0 (by omega))) (hk 1 (by omega)).1 (hX 1 (by omega) (ax 1 (by omega))) htl
    · have hm2 : Pg.many (ps.getD i Pi.no).op = (2, 3) := by rw [c]; rfl
      rw [hm2] at hm
      have hm3 : 2 ≤ (ps.getD i Pi.no).kids.length ∧ (ps.getD i Pi.no).kids.length ≤ 3 := hm
      have ax : Pg.ex (ps.getD (Sh.kid (ps.getD i Pi.no) 0) Pi.no).op = true := by rw [(hk 0 (by omega)).2.2, c]; simp
      have bx : ∀ k, k < (ps.getD i Pi.no).kids.length → 0 < k → Pg.ex (ps.getD (Sh.kid (ps.getD i Pi.no) k) Pi.no).op = false := fun k hk2 h0 => by rw [(hk k hk2).2.2, c]; simp [h0]
      obtain c2 | c2 : (ps.getD i Pi.no).kids.length = 2 ∨ (ps.getD i Pi.no).kids.length = 3 := by omega
      · exact showSt_if2 v ps ra rn rc i W hP hi hl c c2 (hk 0 (by omega)).1 (hX 0 (by omega) ax) (hk 1 (by omega)).1 (hS 1 (by omega) (bx 1 (by omega) (by omega))) htl
      · exact showSt_if3 v ps ra rn rc i W hP hi hl c c2 (hk 0 (by omega)).1 (hX 0 (by omega) ax) (hk 1 (by omega)).1 (hS 1 (by omega) (bx 1 (by omega) (by omega))) (hk 2 (by omega)).1 (hS 2 (by omega) (bx 2 (by omega) (by omega))) htl
    · have hm2 : Pg.many (ps.getD i Pi.no).op = (0, 0) := by rw [c]; rfl
      rw [hm2] at hm
      have hm3 : 0 ≤ (ps.getD i Pi.no).kids.length ∧ (ps.getD i Pi.no).kids.length ≤ 0 := hm
      exact showSt_next v ps ra rn rc i W hP hi hl c (by omega)
    · have hm2 : Pg.many (ps.getD i Pi.no).op = (0, 20) := by rw [c]; rfl
      rw [hm2] at hm
      have hm3 : 0 ≤ (ps.getD i Pi.no).kids.length ∧ (ps.getD i Pi.no).kids.length ≤ 20 := hm
      have bx : ∀ k, k < (ps.getD i Pi.no).kids.length → Pg.ex (ps.getD (Sh.kid (ps.getD i Pi.no) k) Pi.no).op = false := fun k hk2 => by rw [(hk k hk2).2.2, c]; simp
      obtain c2 | c2 : (ps.getD i Pi.no).kids.length = 0 ∨ 1 ≤ (ps.getD i Pi.no).kids.length := by omega
      · exact showSt_block0 v ps ra rn rc i W hP hi hl c c2
      · refine showSt_block v ps ra rn rc i W hP hi hl c c2 hm3.2 (fun k hk2 => ?_) htl
        rw [← kz k hk2]
        exact hS k hk2 (bx k hk2)
    · have hm2 : Pg.many (ps.getD i Pi.no).op = (0, 0) := by rw [c]; rfl
      rw [hm2] at hm
      have hm3 : 0 ≤ (ps.getD i Pi.no).kids.length ∧ (ps.getD i Pi.no).kids.length ≤ 0 := hm
      exact showSt_dump v ps ra rn rc i W hP hi hl c (by omega) htl
end PartShL
section PartShM

namespace Sh
theorem szs_pre (ps : List Pi) (m : Nat) : ∀ d j, j < m → (Pg.szs ps (m + d)).getD j 0 = (Pg.szs ps m).getD j 0 := by
  intro d
  induction d with
  | zero => intro j _; rfl
  | succ d ih =>
    intro j hj
    rw [← ih j hj]
    show (Pg.szs ps (m + d + 1)).getD j 0 = _
    unfold Pg.szs
    rw [List.getD_eq_getElem?_getD, List.getD_eq_getElem?_getD, List.getElem?_append_left (by rw [Pg.szs_len]; omega)]
    cases h : m + d with
    | zero => omega
    | succ q => rfl
theorem szs_last (ps : List Pi) (j : Nat) : (Pg.szs ps (j + 1)).getD j 0 = min 2001 (1 + ((ps.getD j Pi.no).kids.map fun k => (Pg.szs ps j).getD k.toNat 0).sum) := by
  unfold Pg.szs
  rw [List.getD_eq_getElem?_getD, List.getElem?_append_right (by rw [Pg.szs_len]; omega), Pg.szs_len]
  simp only [Nat.sub_self, List.getElem?_cons_zero, Option.getD_some]
  cases j <;> rfl
/-- How many nodes a node comes to. -/
def sz (ps : List Pi) (j : Nat) : Nat := (Pg.szs ps ps.length).getD j 0
theorem sz_eq {ps : List Pi} {j : Nat} (hj : j < ps.length) (h : Pg.node ps j = true) (hs : sz ps j ≤ 2000) : sz ps j = 1 + ((ps.getD j Pi.no).kids.map fun k => sz ps k.toNat).sum := by
  have e1 : sz ps j = (Pg.szs ps (j + 1)).getD j 0 := by
    have := szs_pre ps (j + 1) (ps.length - (j + 1)) j (by omega)
    rw [show j + 1 + (ps.length - (j + 1)) = ps.length by omega] at this
    exact this
  have e2 : ((ps.getD j Pi.no).kids.map fun k => (Pg.szs ps j).getD k.toNat 0) = ((ps.getD j Pi.no).kids.map fun k => sz ps k.toNat) := by
    refine List.map_congr_left fun z hz => ?_
    obtain ⟨k, hk2, rfl⟩ := List.getElem_of_mem hz
    have hb := (Pg.node_kids h).2 k hk2
    have e : (ps.getD j Pi.no).kids[k] = (ps.getD j Pi.no).kids.getD k 0 := by
      generalize (ps.getD j Pi.no).kids = l at hk2
      rw [List.getD_eq_getElem?_getD, List.getElem?_eq_getElem hk2]; rfl
    rw [e]
    have := szs_pre ps j (ps.length - j) ((ps.getD j Pi.no).kids.getD k 0).toNat (by omega)
    rw [show j + (ps.length - j) = ps.length by omega] at this
    exact this.symm
  rw [szs_last, e2] at e1
  omega
theorem sum1 (f : Int → Nat) (ks : List Int) (h : 1 ≤ ks.length) : f (ks.getD 0 0) ≤ (ks.map f).sum := by
  match ks, h with
  | a :: r, _ => simp only [List.map_cons, List.sum_cons, List.getD_cons_zero]; omega
theorem sum2 (f : Int → Nat) (ks : List Int) (h : 2 ≤ ks.length) : f (ks.getD 0 0) + f (ks.getD 1 0) ≤ (ks.map f).sum := by
  match ks, h with
  | a :: b :: r, _ => simp only [List.map_cons, List.sum_cons, List.getD_cons_zero, List.getD_cons_succ]; omega
theorem sum3 (f : Int → Nat) (ks : List Int) (h : 3 ≤ ks.length) : f (ks.getD 0 0) + f (ks.getD 1 0) + f (ks.getD 2 0) ≤ (ks.map f).sum := by
  match ks, h with
  | a :: b :: c :: r, _ => simp only [List.map_cons, List.sum_cons, List.getD_cons_zero, List.getD_cons_succ]; omega
theorem sum_at (f : Int → Nat) : ∀ (ks : List Int) (k : Nat), k < ks.length → f (ks.getD k 0) ≤ (ks.map f).sum := by
  intro ks
  induction ks with
  | nil => intro k h; exact absurd h (Nat.not_lt_zero _)
  | cons a r ih =>
    intro k h
    cases k with
    | zero => exact sum1 f (a :: r) (by simp)
    | succ k =>
      have := ih k (by simpa using h)
      simp only [List.map_cons, List.sum_cons, List.getD_cons_succ]; omega
theorem sep_len (s : List UInt8) (f : Int → List UInt8) (g : Int → Nat) : ∀ ks : List Int, (∀ k, k < ks.length → (f (ks.getD k 0)).length ≤ 60 * g (ks.getD k 0)) → (sep s (ks.map f)).length ≤ 60 * (ks.map g).sum + s.length * ks.length := by
  intro ks
  induction ks with
  | nil => intro _; simp [sep]
  | cons a r ih =>
    intro h
    have h0 := h 0 (by simp)
    rw [List.getD_cons_zero] at h0
    have hr := ih (fun k hk => by have := h (k + 1) (by simpa using hk); rwa [List.getD_cons_succ] at this)
    cases r with
    | nil => simp [sep]; omega
    | cons b r =>
      simp only [List.map_cons, sep, List.length_append, List.sum_cons, List.length_cons, Nat.mul_add, Nat.mul_one] at hr ⊢
      omega
/-- What a right node's text is at most. -/
theorem text_le {ps : List Pi} {j : Nat} (h : Pg.node ps j = true) : (ps.getD j Pi.no).text.data.toList.length ≤ 30 := by
  unfold Pg.node at h
  simp only [Bool.and_eq_true] at h
  have h2 := h.1.1.2
  revert h2
  generalize (ps.getD j Pi.no).text.data.toList = t
  unfold Pg.text Pv.isn Pg.plain Pg.name
  intro h2
  split at h2
  · simp only [Bool.and_eq_true, decide_eq_true_eq] at h2; omega
  split at h2
  · simp only [Bool.and_eq_true, decide_eq_true_eq] at h2; omega
  split at h2
  · simp only [Bool.and_eq_true, decide_eq_true_eq] at h2; omega
  split at h2
  · simp only [Bool.and_eq_true, decide_eq_true_eq] at h2; omega
  · rw [List.isEmpty_iff] at h2; subst h2; simp
theorem sgn_le (op : Int) : (sgn op).length ≤ 2 := by
  unfold sgn
  repeat' split
  all_goals simp
end Sh
end PartShM
section PartShN

namespace Sh
theorem ex_sz {ps : List Pi} (hn : ∀ i, i < ps.length → Pg.node ps i = true) : ∀ j, j < ps.length → Pg.ex (ps.getD j Pi.no).op = true → sz ps j ≤ 2000 → (exC ps j).length ≤ 60 * sz ps j := by
  intro j
  induction j using Nat.strongRecOn with
  | ind j ih =>
    intro hj he hs
    obtain ⟨h1, h2, hm, hk⟩ := node_ex (hn j hj) he
    have e := sz_eq hj (hn j hj) hs
    have ht := text_le (hn j hj)
    have key : ∀ k, k < (ps.getD j Pi.no).kids.length → (ex ps j (kid (ps.getD j Pi.no) k)).length ≤ 60 * sz ps (kid (ps.getD j Pi.no) k) := fun k hk2 => by
      obtain ⟨-, b1, b2⟩ := hk k hk2
      have b3 : sz ps (kid (ps.getD j Pi.no) k) ≤ _ := sum_at (fun k => sz ps k.toNat) _ k hk2
      rw [ex_fuel hn (kid (ps.getD j Pi.no) k) j (by omega) b1 b2]
      exact ih _ b1 (by omega) b2 (by omega)
    have s1 : 1 ≤ (ps.getD j Pi.no).kids.length → sz ps (kid (ps.getD j Pi.no) 0) ≤ ((ps.getD j Pi.no).kids.map fun k => sz ps k.toNat).sum := fun h => sum1 (fun k => sz ps k.toNat) _ h
    have s2 : 2 ≤ (ps.getD j Pi.no).kids.length → sz ps (kid (ps.getD j Pi.no) 0) + sz ps (kid (ps.getD j Pi.no) 1) ≤ ((ps.getD j Pi.no).kids.map fun k => sz ps k.toNat).sum := fun h => sum2 (fun k => sz ps k.toNat) _ h
    have hg := sgn_le (ps.getD j Pi.no).op
    have one : ∀ op, (ps.getD j Pi.no).op = op → Pg.many op = (1, 1) → (ps.getD j Pi.no).kids.length = 1 := fun op e1 e2 => by rw [e1, e2] at hm; have a := hm.1; have b := hm.2; simp at a b; omega
    unfold exC
    rw [ex]
    by_cases c1 : (ps.getD j Pi.no).op = 1 ∨ (ps.getD j Pi.no).op = 3
    · rw [if_pos c1]; omega
    rw [if_neg c1]
    by_cases c2 : (ps.getD j Pi.no).op = 2
    · rw [if_pos c2]; simp only [List.length_append, List.length_cons, List.length_nil]; omega
    rw [if_neg c2]
    by_cases c4 : (ps.getD j Pi.no).op = 4
    · have o := one 4 c4 rfl
      have a := key 0 (by omega)
      have b := s1 (by omega)
      rw [if_pos c4]; simp only [List.length_append, List.length_cons, List.length_nil]; omega
    rw [if_neg c4]
    by_cases c5 : (ps.getD j Pi.no).op = 5
    · have o := one 5 c5 rfl
      have a := key 0 (by omega)
      have b := s1 (by omega)
      rw [if_pos c5]; simp only [List.length_append, List.length_cons, List.length_nil]; omega
    rw [if_neg c5]
    by_cases c6 : (ps.getD j Pi.no).op = 6
    · rw [if_pos c6]; simp only [List.length_cons, List.length_nil]; omega
    rw [if_neg c6]
    by_cases c7 : (ps.getD j Pi.no).op = 7
    · rw [if_pos c7]; simp only [List.length_cons, List.length_nil]; omega
    rw [if_neg c7]
    by_cases c8 : (ps.getD j Pi.no).op = 8
    · have o := one 8 c8 rfl
      have a := key 0 (by omega)
      have b := s1 (by omega)
      rw [if_pos c8]; simp only [List.length_append, List.length_cons, List.length_nil]; omega
    rw [if_neg c8]
    by_cases c16 : (ps.getD j Pi.no).op = 16
    · have o := one 16 c16 rfl
      have a := key 0 (by omega)
      have b := s1 (by omega)
      rw [if_pos c16]; simp only [List.length_append, List.length_cons, List.length_nil]; omega
    rw [if_neg c16]
    have hm2 := many2 (op := (ps.getD j Pi.no).op) (by omega) (by omega)
    rw [hm2] at hm
    have hm3 : 2 ≤ (ps.getD j Pi.no).kids.length := hm.1
    have a := key 0 (by omega)
    have a2 := key 1 (by omega)
    have b := s2 (by omega)
    simp only [List.length_append, List.length_cons, List.length_nil]; omega
theorem st_sz {ps : List Pi} (hn : ∀ i, i < ps.length → Pg.node ps i = true) : ∀ j, j < ps.length → Pg.ex (ps.getD j Pi.no).op = false → sz ps j ≤ 2000 → (st ps (j + 1) j).length ≤ 60 * sz ps j := by
  intro j
  induction j using Nat.strongRecOn with
  | ind j ih =>
    intro hj he hs
    obtain ⟨h1, h2, hm, hk⟩ := node_st (hn j hj) he
    have e := sz_eq hj (hn j hj) hs
    have ht := text_le (hn j hj)
    have kx : ∀ k, k < (ps.getD j Pi.no).kids.length → Pg.ex (ps.getD (kid (ps.getD j Pi.no) k) Pi.no).op = true → (exC ps (kid (ps.getD j Pi.no) k)).length ≤ 60 * sz ps (kid (ps.getD j Pi.no) k) := fun k hk2 b2 => by
      obtain ⟨-, b1, -⟩ := hk k hk2
      have b3 : sz ps (kid (ps.getD j Pi.no) k) ≤ _ := sum_at (fun k => sz ps k.toNat) _ k hk2
      exact ex_sz hn _ (by omega) b2 (by omega)
    have ks : ∀ k, k < (ps.getD j Pi.no).kids.length → Pg.ex (ps.getD (kid (ps.getD j Pi.no) k) Pi.no).op = false → (st ps j (kid (ps.getD j Pi.no) k)).length ≤ 60 * sz ps (kid (ps.getD j Pi.no) k) := fun k hk2 b2 => by
      obtain ⟨-, b1, -⟩ := hk k hk2
      have b3 : sz ps (kid (ps.getD j Pi.no) k) ≤ _ := sum_at (fun k => sz ps k.toNat) _ k hk2
      rw [st_fuel hn (kid (ps.getD j Pi.no) k) j (by omega) b1 b2]
      exact ih _ b1 (by omega) b2 (by omega)
    have s1 : 1 ≤ (ps.getD j Pi.no).kids.length → sz ps (kid (ps.getD j Pi.no) 0) ≤ ((ps.getD j Pi.no).kids.map fun k => sz ps k.toNat).sum := fun h => sum1 (fun k => sz ps k.toNat) _ h
    have s2 : 2 ≤ (ps.getD j Pi.no).kids.length → sz ps (kid (ps.getD j Pi.no) 0) + sz ps (kid (ps.getD j Pi.no) 1) ≤ ((ps.getD j Pi.no).kids.map fun k => sz ps k.toNat).sum := fun h => sum2 (fun k => sz ps k.toNat) _ h
    have s3 : 3 ≤ (ps.getD j Pi.no).kids.length → sz ps (kid (ps.getD j Pi.no) 0) + sz ps (kid (ps.getD j Pi.no) 1) + sz ps (kid (ps.getD j Pi.no) 2) ≤ ((ps.getD j Pi.no).kids.map fun k => sz ps k.toNat).sum := fun h => sum3 (fun k => sz ps k.toNat) _ h
    obtain c | c | c | c | c | c | c | c | c : (ps.getD j Pi.no).op = 17 ∨ (ps.getD j Pi.no).op = 18 ∨ (ps.getD j Pi.no).op = 19 ∨ (ps.getD j Pi.no).op = 20 ∨ (ps.getD j Pi.no).op = 21 ∨ (ps.getD j Pi.no).op = 22 ∨ (ps.getD j Pi.no).op = 23 ∨ (ps.getD j Pi.no).op = 24 ∨ (ps.getD j Pi.no).op = 25 := by omega
    · have n : ∀ z : Int, z ≠ 17 → ¬ (ps.getD j Pi.no).op = z := fun z hz => by omega
      have hm2 : Pg.many (ps.getD j Pi.no).op = (1, 4) := by rw [c]; rfl
      rw [hm2] at hm
      have hm3 : 1 ≤ (ps.getD j Pi.no).kids.length ∧ (ps.getD j Pi.no).kids.length ≤ 4 := hm
      have ax : ∀ k, k < (ps.getD j Pi.no).kids.length → Pg.ex (ps.getD (kid (ps.getD j Pi.no) k) Pi.no).op = true := fun k hk2 => by rw [(hk k hk2).2.2, c]; simp
      have a := sep_len [44, 32] (fun k => exC ps k.toNat) (fun k => sz ps k.toNat) _ (fun k hk2 => kx k hk2 (ax k hk2))
      rw [show ([44, 32] : List UInt8).length = 2 from rfl] at a
      rw [st, if_pos c]
      simp only [List.length_append, List.length_cons, List.length_nil]; omega
    · have n : ∀ z : Int, z ≠ 18 → ¬ (ps.getD j Pi.no).op = z := fun z hz => by omega
      have hm2 : Pg.many (ps.getD j Pi.no).op = (1, 1) := by rw [c]; rfl
      rw [hm2] at hm
      have hm3 : 1 ≤ (ps.getD j Pi.no).kids.length ∧ (ps.getD j Pi.no).kids.length ≤ 1 := hm
      have ax : ∀ k, k < (ps.getD j Pi.no).kids.length → Pg.ex (ps.getD (kid (ps.getD j Pi.no) k) Pi.no).op = true := fun k hk2 => by rw [(hk k hk2).2.2, c]; simp
      have a := kx 0 (by omega) (ax 0 (by omega))
      have b := s1 (by omega)
      rw [st, if_neg (n 17 (by decide)), if_pos c]
      simp only [List.length_append, List.length_cons, List.length_nil]; omega
    · have n : ∀ z : Int, z ≠ 19 → ¬ (ps.getD j Pi.no).op = z := fun z hz => by omega
      have hm2 : Pg.many (ps.getD j Pi.no).op = (1, 1) := by rw [c]; rfl
      rw [hm2] at hm
      have hm3 : 1 ≤ (ps.getD j Pi.no).kids.length ∧ (ps.getD j Pi.no).kids.length ≤ 1 := hm
      have ax : ∀ k, k < (ps.getD j Pi.no).kids.length → Pg.ex (ps.getD (kid (ps.getD j Pi.no) k) Pi.no).op = true := fun k hk2 => by rw [(hk k hk2).2.2, c]; simp
      have a := kx 0 (by omega) (ax 0 (by omega))
      have b := s1 (by omega)
      rw [st, if_neg (n 17 (by decide)), if_neg (n 18 (by decide)), if_pos c]
      simp only [List.length_append, List.length_cons, List.length_nil]; omega
    · have n : ∀ z : Int, z ≠ 20 → ¬ (ps.getD j Pi.no).op = z := fun z hz => by omega
      have hm2 : Pg.many (ps.getD j Pi.no).op = (2, 2) := by rw [c]; rfl
      rw [hm2] at hm
      have hm3 : 2 ≤ (ps.getD j Pi.no).kids.length ∧ (ps.getD j Pi.no).kids.length ≤ 2 := hm
      have ax : ∀ k, k < (ps.getD j Pi.no).kids.length → Pg.ex (ps.getD (kid (ps.getD j Pi.no) k) Pi.no).op = true := fun k hk2 => by rw [(hk k hk2).2.2, c]; simp
      have a := kx 0 (by omega) (ax 0 (by omega))
      have a2 := kx 1 (by omega) (ax 1 (by omega))
      have b := s2 (by omega)
      rw [st, if_neg (n 17 (by decide)), if_neg (n 18 (by decide)), if_neg (n 19 (by decide)), if_pos c]
      simp only [List.length_append, List.length_cons, List.length_nil]; omega
    · have n : ∀ z : Int, z ≠ 21 → ¬ (ps.getD j Pi.no).op = z := fun z hz => by omega
      have hm2 : Pg.many (ps.getD j Pi.no).op = (2, 2) := by rw [c]; rfl
      rw [hm2] at hm
      have hm3 : 2 ≤ (ps.getD j Pi.no).kids.length ∧ (ps.getD j Pi.no).kids.length ≤ 2 := hm
      have ax : ∀ k, k < (ps.getD j Pi.no).kids.length → Pg.ex (ps.getD (kid (ps.getD j Pi.no) k) Pi.no).op = true := fun k hk2 => by rw [(hk k hk2).2.2, c]; simp
      have a := kx 0 (by omega) (ax 0 (by omega))
      have a2 := kx 1 (by omega) (ax 1 (by omega))
      have b := s2 (by omega)
      rw [st, if_neg (n 17 (by decide)), if_neg (n 18 (by decide)), if_neg (n 19 (by decide)), if_neg (n 20 (by decide)), if_pos c]
      simp only [List.length_append, List.length_cons, List.length_nil]; omega
    · have n : ∀ z : Int, z ≠ 22 → ¬ (ps.getD j Pi.no).op = z := fun z hz => by omega
      have hm2 : Pg.many (ps.getD j Pi.no).op = (2, 3) := by rw [c]; rfl
      rw [hm2] at hm
      have hm3 : 2 ≤ (ps.getD j Pi.no).kids.length ∧ (ps.getD j Pi.no).kids.length ≤ 3 := hm
      have a := kx 0 (by omega) (by rw [(hk 0 (by omega)).2.2, c]; simp)
      have a2 := ks 1 (by omega) (by rw [(hk 1 (by omega)).2.2, c]; simp)
      rw [st, if_neg (n 17 (by decide)), if_neg (n 18 (by decide)), if_neg (n 19 (by decide)), if_neg (n 20 (by decide)), if_neg (n 21 (by decide)), if_pos c]
      by_cases c3 : 2 < (ps.getD j Pi.no).kids.length
      · have a3 := ks 2 c3 (by rw [(hk 2 c3).2.2, c]; simp)
        have b := s3 c3
        rw [if_pos c3]; simp only [List.length_append, List.length_cons, List.length_nil]; omega
      · have b := s2 (by omega)
        rw [if_neg c3]; simp only [List.length_append, List.length_cons, List.length_nil]; omega
    · have n : ∀ z : Int, z ≠ 23 → ¬ (ps.getD j Pi.no).op = z := fun z hz => by omega
      have hm2 : Pg.many (ps.getD j Pi.no).op = (0, 0) := by rw [c]; rfl
      rw [hm2] at hm
      have hm3 : 0 ≤ (ps.getD j Pi.no).kids.length ∧ (ps.getD j Pi.no).kids.length ≤ 0 := hm
      rw [st, if_neg (n 17 (by decide)), if_neg (n 18 (by decide)), if_neg (n 19 (by decide)), if_neg (n 20 (by decide)), if_neg (n 21 (by decide)), if_neg (n 22 (by decide)), if_pos c]
      simp only [List.length_cons, List.length_nil]; omega
    · have n : ∀ z : Int, z ≠ 24 → ¬ (ps.getD j Pi.no).op = z := fun z hz => by omega
      have hm2 : Pg.many (ps.getD j Pi.no).op = (0, 20) := by rw [c]; rfl
      rw [hm2] at hm
      have hm3 : 0 ≤ (ps.getD j Pi.no).kids.length ∧ (ps.getD j Pi.no).kids.length ≤ 20 := hm
      have bx : ∀ k, k < (ps.getD j Pi.no).kids.length → Pg.ex (ps.getD (kid (ps.getD j Pi.no) k) Pi.no).op = false := fun k hk2 => by rw [(hk k hk2).2.2, c]; simp
      have a := sep_len [59, 32] (fun k => st ps j k.toNat) (fun k => sz ps k.toNat) _ (fun k hk2 => ks k hk2 (bx k hk2))
      rw [show ([59, 32] : List UInt8).length = 2 from rfl] at a
      have q : (if 0 < (ps.getD j Pi.no).kids.length then ([32] : List UInt8) else []).length ≤ 1 := by split <;> simp
      rw [st, if_neg (n 17 (by decide)), if_neg (n 18 (by decide)), if_neg (n 19 (by decide)), if_neg (n 20 (by decide)), if_neg (n 21 (by decide)), if_neg (n 22 (by decide)), if_neg (n 23 (by decide)), if_neg (n 25 (by decide))]
      simp only [List.length_append, List.length_cons, List.length_nil] at q ⊢; omega
    · have n : ∀ z : Int, z ≠ 25 → ¬ (ps.getD j Pi.no).op = z := fun z hz => by omega
      have hm2 : Pg.many (ps.getD j Pi.no).op = (0, 0) := by rw [c]; rfl
      rw [hm2] at hm
      have hm3 : 0 ≤ (ps.getD j Pi.no).kids.length ∧ (ps.getD j Pi.no).kids.length ≤ 0 := hm
      rw [st, if_neg (n 17 (by decide)), if_neg (n 18 (by decide)), if_neg (n 19 (by decide)), if_neg (n 20 (by decide)), if_neg (n 21 (by decide)), if_neg (n 22 (by decide)), if_neg (n 23 (by decide)), if_pos c]
      simp only [List.length_append, List.length_cons, List.length_nil]; omega
end Sh
end PartShN
end Go.Proofs.YtifbgdinjdgdfapGreatDoor
