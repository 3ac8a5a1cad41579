/- What is shown of a right statement. What is shown of a right statement: every one. How long what is shown is: at most sixty bytes a node. -/
import Derived.Test.YtknojhmnadmilaaGreatDoorZan
import Derived.Test.YtknojhmnadmilaaGreatDoorZal
namespace Go.Proofs.YtknojhmnadmilaaGreatDoor
section PartShK
open Go.RowKit

namespace Sh
/-- What a right statement has: its kids, ahead of it, expressions or statements. -/
theorem node_st {ps : List Pi} {i : Nat} (h : Pg.node ps i = true) (he : Pg.ex (ps.getD i Pi.no).op = false) :
    17 ≤ (ps.getD i Pi.no).op ∧ (ps.getD i Pi.no).op ≤ 25 ∧ ((Pg.many (ps.getD i Pi.no).op).1 ≤ (ps.getD i Pi.no).kids.length ∧ (ps.getD i Pi.no).kids.length ≤ (Pg.many (ps.getD i Pi.no).op).2) ∧
    ∀ k, k < (ps.getD i Pi.no).kids.length → 0 ≤ (ps.getD i Pi.no).kids.getD k 0 ∧ kid (ps.getD i Pi.no) k < i ∧ Pg.ex (ps.getD (kid (ps.getD i Pi.no) k) Pi.no).op = !(decide ((ps.getD i Pi.no).op = 24) || (decide ((ps.getD i Pi.no).op = 22) && decide (0 < k))) := by
  unfold Pg.node at h
  simp only [Bool.and_eq_true, decide_eq_true_eq, List.all_eq_true, List.mem_range] at h
  obtain ⟨⟨⟨hr, -⟩, hm⟩, hk⟩ := h
  unfold Pg.ex at he
  simp only [decide_eq_false_iff_not] at he
  refine ⟨by omega, hr.2, hm, fun k hk2 => ?_⟩
  have := hk k hk2
  unfold Pg.kid at this
  rw [Bool.and_eq_true] at this
  obtain ⟨h1, h3⟩ := this
  have h1 := of_decide_eq_true h1
  refine ⟨h1.1, by unfold kid; omega, ?_⟩
  unfold kid
  rw [Bool.not_eq_true', Bool.or_eq_false_iff] at h3
  have h4 := h3.1
  revert h4
  generalize (decide ((ps.getD i Pi.no).op = 24) || (decide ((ps.getD i Pi.no).op = 22) && decide (0 < k))) = a
  generalize Pg.ex (ps.getD ((ps.getD i Pi.no).kids.getD k 0).toNat Pi.no).op = b
  cases a <;> cases b <;> simp
theorem el_le (s : List UInt8) (f : Int → List UInt8) (ks : List Int) (k : Nat) (h : k < ks.length) : (f (ks.getD k 0)).length ≤ (sep s (ks.map f)).length := by
  refine Nat.le_trans ?_ (sep_mono s f ks (k + 1) h)
  rw [sep_take s f ks k h]
  split
  · exact Nat.le_refl _
  · simp only [List.length_append]; omega
theorem st_fuel {ps : List Pi} (hn : ∀ i, i < ps.length → Pg.node ps i = true) : ∀ j f, j < ps.length → j < f → Pg.ex (ps.getD j Pi.no).op = false → st ps f j = st ps (j + 1) j := by
  intro j
  induction j using Nat.strongRecOn with
  | ind j ih =>
    intro f hj hf he
    obtain ⟨g, rfl⟩ : ∃ g, f = g + 1 := ⟨f - 1, by omega⟩
    obtain ⟨h1, h2, hm, hk⟩ := node_st (hn j hj) he
    have key : ∀ k, k < (ps.getD j Pi.no).kids.length → Pg.ex (ps.getD (kid (ps.getD j Pi.no) k) Pi.no).op = false → st ps g (kid (ps.getD j Pi.no) k) = st ps j (kid (ps.getD j Pi.no) k) := fun k hk2 b2 => by
      obtain ⟨-, b1, -⟩ := hk k hk2
      rw [ih _ b1 g (by omega) (by omega) b2, ih _ b1 j (by omega) b1 b2]
    rw [st, st]
    by_cases c22 : (ps.getD j Pi.no).op = 22
    · have n : ∀ z : Int, z ≠ 22 → ¬ (ps.getD j Pi.no).op = z := fun z hz => by omega
      have hm2 : Pg.many (ps.getD j Pi.no).op = (2, 3) := by rw [c22]; rfl
      rw [hm2] at hm
      have hm1 : 2 ≤ (ps.getD j Pi.no).kids.length := hm.1
      rw [if_neg (n 17 (by decide)), if_neg (n 18 (by decide)), if_neg (n 19 (by decide)), if_neg (n 20 (by decide)), if_neg (n 21 (by decide)), if_pos c22,
        if_neg (n 17 (by decide)), if_neg (n 18 (by decide)), if_neg (n 19 (by decide)), if_neg (n 20 (by decide)), if_neg (n 21 (by decide)), if_pos c22]
      have fk : ∀ k, k < (ps.getD j Pi.no).kids.length → 0 < k → st ps g (kid (ps.getD j Pi.no) k) = st ps j (kid (ps.getD j Pi.no) k) := fun k hk2 h0 => key k hk2 (by rw [(hk k hk2).2.2, c22]; simp [h0])
      rw [fk 1 (by omega) (by omega)]
      by_cases c3 : 2 < (ps.getD j Pi.no).kids.length
      · rw [if_pos c3, if_pos c3, fk 2 c3 (by omega)]
      · rw [if_neg c3, if_neg c3]
    by_cases c24 : (ps.getD j Pi.no).op = 24
    · have n : ∀ z : Int, z ≠ 24 → ¬ (ps.getD j Pi.no).op = z := fun z hz => by omega
      have hmap : ((ps.getD j Pi.no).kids.map fun k => st ps g k.toNat) = ((ps.getD j Pi.no).kids.map fun k => st ps j k.toNat) := by
        refine List.map_congr_left fun z hz => ?_
        obtain ⟨k, hk2, rfl⟩ := List.getElem_of_mem hz
        have e : (ps.getD j Pi.no).kids[k] = (ps.getD j Pi.no).kids.getD k 0 := by
          generalize (ps.getD j Pi.no).kids = l at hk2
          rw [List.getD_eq_getElem?_getD, List.getElem?_eq_getElem hk2]; rfl
        rw [e]
        exact key k hk2 (by rw [(hk k hk2).2.2, c24]; simp)
      rw [if_neg (n 17 (by decide)), if_neg (n 18 (by decide)), if_neg (n 19 (by decide)), if_neg (n 20 (by decide)), if_neg (n 21 (by decide)), if_neg (n 22 (by decide)), if_neg (n 23 (by decide)), if_neg (n 25 (by decide)), if_neg (n 17 (by decide)), if_neg (n 18 (by decide)), if_neg (n 19 (by decide)), if_neg (n 20 (by decide)), if_neg (n 21 (by decide)), if_neg (n 22 (by decide)), if_neg (n 23 (by decide)), if_neg (n 25 (by decide)), hmap]
    · by_cases c17 : (ps.getD j Pi.no).op = 17
      · rw [if_pos c17, if_pos c17]
      rw [if_neg c17, if_neg c17]
      by_cases c18 : (ps.getD j Pi.no).op = 18
      · rw [if_pos c18, if_pos c18]
      rw [if_neg c18, if_neg c18]
      by_cases c19 : (ps.getD j Pi.no).op = 19
      · rw [if_pos c19, if_pos c19]
      rw [if_neg c19, if_neg c19]
      by_cases c20 : (ps.getD j Pi.no).op = 20
      · rw [if_pos c20, if_pos c20]
      rw [if_neg c20, if_neg c20]
      by_cases c21 : (ps.getD j Pi.no).op = 21
      · rw [if_pos c21, if_pos c21]
      rw [if_neg c21, if_neg c21, if_neg c22, if_neg c22]
      by_cases c23 : (ps.getD j Pi.no).op = 23
      · rw [if_pos c23, if_pos c23]
      rw [if_neg c23, if_neg c23]
      have c25 : (ps.getD j Pi.no).op = 25 := by omega
      rw [if_pos c25, if_pos c25]
end Sh
end PartShK
section PartShL
open Go.RowKit

namespace Sh
theorem len_mid (a b c : List UInt8) : b.length ≤ (a ++ b ++ c).length := by simp only [List.length_append]; omega
theorem ex_le {ps : List Pi} {i : Nat} (h : Pg.node ps i = true) (he : Pg.ex (ps.getD i Pi.no).op = false) (k : Nat) (hk : k < (ps.getD i Pi.no).kids.length) (hx : Pg.ex (ps.getD (kid (ps.getD i Pi.no) k) Pi.no).op = true) : (exC ps (kid (ps.getD i Pi.no) k)).length ≤ (st ps (i + 1) i).length := by
  obtain ⟨h1, h2, hm, hk0⟩ := node_st h he
  have h3 := (hk0 k hk).2.2
  rw [hx] at h3
  obtain c | c | c | c | c | c | c | c | c : (ps.getD i Pi.no).op = 17 ∨ (ps.getD i Pi.no).op = 18 ∨ (ps.getD i Pi.no).op = 19 ∨ (ps.getD i Pi.no).op = 20 ∨ (ps.getD i Pi.no).op = 21 ∨ (ps.getD i Pi.no).op = 22 ∨ (ps.getD i Pi.no).op = 23 ∨ (ps.getD i Pi.no).op = 24 ∨ (ps.getD i Pi.no).op = 25 := by omega
  · have n : ∀ z : Int, z ≠ 17 → ¬ (ps.getD i Pi.no).op = z := fun z hz => by omega
    have hm2 : Pg.many (ps.getD i Pi.no).op = (1, 4) := by rw [c]; rfl
    rw [hm2] at hm
    have hm3 : 1 ≤ (ps.getD i Pi.no).kids.length ∧ (ps.getD i Pi.no).kids.length ≤ 4 := hm
    rw [st, if_pos c]
    refine Nat.le_trans (el_le [44, 32] (fun k => exC ps k.toNat) _ k hk) ?_
    simp only [List.length_append]; omega
  · have n : ∀ z : Int, z ≠ 18 → ¬ (ps.getD i Pi.no).op = z := fun z hz => by omega
    have hm2 : Pg.many (ps.getD i Pi.no).op = (1, 1) := by rw [c]; rfl
    rw [hm2] at hm
    have hm3 : 1 ≤ (ps.getD i Pi.no).kids.length ∧ (ps.getD i Pi.no).kids.length ≤ 1 := hm
    rw [st, if_neg (n 17 (by decide)), if_pos c]
    have k0 : k = 0 := by omega
    subst k0
    simp only [List.length_append]; omega
  · have n : ∀ z : Int, z ≠ 19 → ¬ (ps.getD i Pi.no).op = z := fun z hz => by omega
    have hm2 : Pg.many (ps.getD i Pi.no).op = (1, 1) := by rw [c]; rfl
    rw [hm2] at hm
    have hm3 : 1 ≤ (ps.getD i Pi.no).kids.length ∧ (ps.getD i Pi.no).kids.length ≤ 1 := hm
    rw [st, if_neg (n 17 (by decide)), if_neg (n 18 (by decide)), if_pos c]
    have k0 : k = 0 := by omega
    subst k0
    simp only [List.length_append]; omega
  · have n : ∀ z : Int, z ≠ 20 → ¬ (ps.getD i Pi.no).op = z := fun z hz => by omega
    have hm2 : Pg.many (ps.getD i Pi.no).op = (2, 2) := by rw [c]; rfl
    rw [hm2] at hm
    have hm3 : 2 ≤ (ps.getD i Pi.no).kids.length ∧ (ps.getD i Pi.no).kids.length ≤ 2 := hm
    rw [st, if_neg (n 17 (by decide)), if_neg (n 18 (by decide)), if_neg (n 19 (by decide)), if_pos c]
    obtain k0 | k0 : k = 0 ∨ k = 1 := by omega
    · subst k0; simp only [List.length_append]; omega
    · subst k0; simp only [List.length_append]; omega
  · have n : ∀ z : Int, z ≠ 21 → ¬ (ps.getD i Pi.no).op = z := fun z hz => by omega
    have hm2 : Pg.many (ps.getD i Pi.no).op = (2, 2) := by rw [c]; rfl
    rw [hm2] at hm
    have hm3 : 2 ≤ (ps.getD i Pi.no).kids.length ∧ (ps.getD i Pi.no).kids.length ≤ 2 := hm
    rw [st, if_neg (n 17 (by decide)), if_neg (n 18 (by decide)), if_neg (n 19 (by decide)), if_neg (n 20 (by decide)), if_pos c]
    obtain k0 | k0 : k = 0 ∨ k = 1 := by omega
    · subst k0; simp only [List.length_append]; omega
    · subst k0; simp only [List.length_append]; omega
  · have n : ∀ z : Int, z ≠ 22 → ¬ (ps.getD i Pi.no).op = z := fun z hz => by omega
    have hm2 : Pg.many (ps.getD i Pi.no).op = (2, 3) := by rw [c]; rfl
    rw [hm2] at hm
    have hm3 : 2 ≤ (ps.getD i Pi.no).kids.length ∧ (ps.getD i Pi.no).kids.length ≤ 3 := hm
    have k0 : k = 0 := by rw [c] at h3; simp at h3; exact h3
    subst k0
    rw [st, if_neg (n 17 (by decide)), if_neg (n 18 (by decide)), if_neg (n 19 (by decide)), if_neg (n 20 (by decide)), if_neg (n 21 (by decide)), if_pos c]
    simp only [List.length_append]; omega
  · have n : ∀ z : Int, z ≠ 23 → ¬ (ps.getD i Pi.no).op = z := fun z hz => by omega
    have hm2 : Pg.many (ps.getD i Pi.no).op = (0, 0) := by rw [c]; rfl
    rw [hm2] at hm
    have hm3 : 0 ≤ (ps.getD i Pi.no).kids.length ∧ (ps.getD i Pi.no).kids.length ≤ 0 := hm
    omega
  · have n : ∀ z : Int, z ≠ 24 → ¬ (ps.getD i Pi.no).op = z := fun z hz => by omega
    have hm2 : Pg.many (ps.getD i Pi.no).op = (0, 20) := by rw [c]; rfl
    rw [hm2] at hm
    have hm3 : 0 ≤ (ps.getD i Pi.no).kids.length ∧ (ps.getD i Pi.no).kids.length ≤ 20 := hm
    rw [c] at h3; simp at h3
  · have n : ∀ z : Int, z ≠ 25 → ¬ (ps.getD i Pi.no).op = z := fun z hz => by omega
    have hm2 : Pg.many (ps.getD i Pi.no).op = (0, 0) := by rw [c]; rfl
    rw [hm2] at hm
    have hm3 : 0 ≤ (ps.getD i Pi.no).kids.length ∧ (ps.getD i Pi.no).kids.length ≤ 0 := hm
    omega
theorem st_le {ps : List Pi} {i : Nat} (h : Pg.node ps i = true) (he : Pg.ex (ps.getD i Pi.no).op = false) (k : Nat) (hk : k < (ps.getD i Pi.no).kids.length) (hx : Pg.ex (ps.getD (kid (ps.getD i Pi.no) k) Pi.no).op = false) : (st ps i (kid (ps.getD i Pi.no) k)).length ≤ (st ps (i + 1) i).length := by
  obtain ⟨h1, h2, hm, hk0⟩ := node_st h he
  have h3 := (hk0 k hk).2.2
  rw [hx] at h3
  have h4 : (ps.getD i Pi.no).op = 24 ∨ ((ps.getD i Pi.no).op = 22 ∧ 0 < k) := by
    by_cases a : (ps.getD i Pi.no).op = 24
    · exact Or.inl a
    · by_cases b : (ps.getD i Pi.no).op = 22
      · by_cases d : 0 < k
        · exact Or.inr ⟨b, d⟩
        · rw [decide_eq_false a, decide_eq_false d] at h3; simp at h3
      · rw [decide_eq_false a, decide_eq_false b] at h3; simp at h3
  obtain c | ⟨c, d⟩ := h4
  · have n : ∀ z : Int, z ≠ 24 → ¬ (ps.getD i Pi.no).op = z := fun z hz => by omega
    have e : st ps (i + 1) i = [123, 32] ++ sep [59, 32] ((ps.getD i Pi.no).kids.map fun k => st ps i k.toNat) ++ (if 0 < (ps.getD i Pi.no).kids.length then [32] else []) ++ [125] := by
      rw [st, if_neg (n 17 (by decide)), if_neg (n 18 (by decide)), if_neg (n 19 (by decide)), if_neg (n 20 (by decide)), if_neg (n 21 (by decide)), if_neg (n 22 (by decide)), if_neg (n 23 (by decide)), if_neg (n 25 (by decide))]
    rw [e]
    refine Nat.le_trans (el_le [59, 32] (fun k => st ps i k.toNat) _ k hk) ?_
    simp only [List.length_append]; omega
  · have n : ∀ z : Int, z ≠ 22 → ¬ (ps.getD i Pi.no).op = z := fun z hz => by omega
    have hm2 : Pg.many (ps.getD i Pi.no).op = (2, 3) := by rw [c]; rfl
    rw [hm2] at hm
    have hm3 : 2 ≤ (ps.getD i Pi.no).kids.length ∧ (ps.getD i Pi.no).kids.length ≤ 3 := hm
    obtain k0 | k0 : k = 1 ∨ k = 2 := by omega
    · subst k0
      conv => rhs; rw [st, if_neg (n 17 (by decide)), if_neg (n 18 (by decide)), if_neg (n 19 (by decide)), if_neg (n 20 (by decide)), if_neg (n 21 (by decide)), if_pos c]
      simp only [List.length_append]; omega
    · subst k0
      conv => rhs; rw [st, if_neg (n 17 (by decide)), if_neg (n 18 (by decide)), if_neg (n 19 (by decide)), if_neg (n 20 (by decide)), if_neg (n 21 (by decide)), if_pos c]
      rw [if_pos (by omega)]
      simp only [List.length_append]; omega
end Sh
theorem spShowSt (v : Value) (ps : List Pi) (ra : Option Addr) (rn rc : Nat) (w : World) (h : PcsAt w v ps) (hl : ps.length ≤ 200) (hn : ∀ i, i < ps.length → Pg.node ps i = true) :
    ∀ i, i < ps.length → Pg.ex (ps.getD i Pi.no).op = false → (Sh.st ps (i + 1) i).length ≤ 1000000 → ∀ W, Below w.heap.size w W → Calls Tryz.prog 14 #[.agg #[v, .slice ra rn rc], .int .i64 (i : Int)] W fun e w' => e = .returned (.string ⟨(Sh.st ps (i + 1) i).toArray⟩) ∧ Below W.heap.size W w' := by
  intro i
  induction i using Nat.strongRecOn with
  | ind i ih =>
    intro hi he htl W hW
    have hP := h.keep hW
    obtain ⟨h1, h2, hm, hk⟩ := Sh.node_st (hn i hi) he
    have hX : ∀ k, k < (ps.getD i Pi.no).kids.length → Pg.ex (ps.getD (Sh.kid (ps.getD i Pi.no) k) Pi.no).op = true → ∀ W', Below W.heap.size W W' → Calls Tryz.prog 13 #[.agg #[v, .slice ra rn rc], .int .i64 (Sh.kid (ps.getD i Pi.no) k : Int)] W' fun e w' => e = .returned (.string ⟨(Sh.exC ps (Sh.kid (ps.getD i Pi.no) k)).toArray⟩) ∧ Below W'.heap.size W' w' := by
      intro k hk2 b2 W' hW'
      obtain ⟨-, b1, -⟩ := hk k hk2
      have hle := Sh.ex_le (hn i hi) he k hk2 b2
      exact spShowEx v ps ra rn rc w h hl hn _ (by omega) b2 (Nat.le_trans hle htl) W' (hW.trans (hW'.mono hW.size))
    have hS : ∀ k, k < (ps.getD i Pi.no).kids.length → Pg.ex (ps.getD (Sh.kid (ps.getD i Pi.no) k) Pi.no).op = false → ∀ W', Below W.heap.size W W' → Calls Tryz.prog 14 #[.agg #[v, .slice ra rn rc], .int .i64 (Sh.kid (ps.getD i Pi.no) k : Int)] W' fun e w' => e = .returned (.string ⟨(Sh.st ps i (Sh.kid (ps.getD i Pi.no) k)).toArray⟩) ∧ Below W'.heap.size W' w' := by
      intro k hk2 b2 W' hW'
      obtain ⟨-, b1, -⟩ := hk k hk2
      have e := Sh.st_fuel hn (Sh.kid (ps.getD i Pi.no) k) i (by omega) b1 b2
      have hle := Sh.st_le (hn i hi) he k hk2 b2
      rw [e] at hle ⊢
      exact ih _ b1 (by omega) b2 (by omega) W' (hW.trans (hW'.mono hW.size))
    have kz : ∀ k, k < (ps.getD i Pi.no).kids.length → ((Sh.kid (ps.getD i Pi.no) k : Nat) : Int) = (ps.getD i Pi.no).kids.getD k 0 := fun k hk2 => Int.toNat_of_nonneg (hk k hk2).1
    obtain c | c | c | c | c | c | c | c | c : (ps.getD i Pi.no).op = 17 ∨ (ps.getD i Pi.no).op = 18 ∨ (ps.getD i Pi.no).op = 19 ∨ (ps.getD i Pi.no).op = 20 ∨ (ps.getD i Pi.no).op = 21 ∨ (ps.getD i Pi.no).op = 22 ∨ (ps.getD i Pi.no).op = 23 ∨ (ps.getD i Pi.no).op = 24 ∨ (ps.getD i Pi.no).op = 25 := by omega
    · have hm2 : Pg.many (ps.getD i Pi.no).op = (1, 4) := by rw [c]; rfl
      rw [hm2] at hm
      have hm3 : 1 ≤ (ps.getD i Pi.no).kids.length ∧ (ps.getD i Pi.no).kids.length ≤ 4 := hm
      have ax : ∀ k, k < (ps.getD i Pi.no).kids.length → Pg.ex (ps.getD (Sh.kid (ps.getD i Pi.no) k) Pi.no).op = true := fun k hk2 => by rw [(hk k hk2).2.2, c]; simp
      refine showSt_print v ps ra rn rc i W hP hi hl c hm3.1 hm3.2 (fun k hk2 => ?_) htl
      rw [← kz k hk2]
      exact hX k hk2 (ax k hk2)
    · have hm2 : Pg.many (ps.getD i Pi.no).op = (1, 1) := by rw [c]; rfl
      rw [hm2] at hm
      have hm3 : 1 ≤ (ps.getD i Pi.no).kids.length ∧ (ps.getD i Pi.no).kids.length ≤ 1 := hm
      have ax : ∀ k, k < (ps.getD i Pi.no).kids.length → Pg.ex (ps.getD (Sh.kid (ps.getD i Pi.no) k) Pi.no).op = true := fun k hk2 => by rw [(hk k hk2).2.2, c]; simp
      exact showSt_set v ps ra rn rc i W hP hi hl c (by omega) (hk 0 (by omega)).1 (hX 0 (by omega) (ax 0 (by omega))) htl
    · have hm2 : Pg.many (ps.getD i Pi.no).op = (1, 1) := by rw [c]; rfl
      rw [hm2] at hm
      have hm3 : 1 ≤ (ps.getD i Pi.no).kids.length ∧ (ps.getD i Pi.no).kids.length ≤ 1 := hm
      have ax : ∀ k, k < (ps.getD i Pi.no).kids.length → Pg.ex (ps.getD (Sh.kid (ps.getD i Pi.no) k) Pi.no).op = true := fun k hk2 => by rw [(hk k hk2).2.2, c]; simp
      exact showSt_add v ps ra rn rc i W hP hi hl c (by omega) (hk 0 (by omega)).1 (hX 0 (by omega) (ax 0 (by omega))) htl
    · have hm2 : Pg.many (ps.getD i Pi.no).op = (2, 2) := by rw [c]; rfl
      rw [hm2] at hm
      have hm3 : 2 ≤ (ps.getD i Pi.no).kids.length ∧ (ps.getD i Pi.no).kids.length ≤ 2 := hm
      have ax : ∀ k, k < (ps.getD i Pi.no).kids.length → Pg.ex (ps.getD (Sh.kid (ps.getD i Pi.no) k) Pi.no).op = true := fun k hk2 => by rw [(hk k hk2).2.2, c]; simp
      exact showSt_setCell v ps ra rn rc i W hP hi hl c (by omega) (hk 0 (by omega)).1 (hX 0 (by omega) (ax 0 (by omega))) (hk 1 (by omega)).1 (hX 1 (by omega) (ax 1 (by omega))) htl
    · have hm2 : Pg.many (ps.getD i Pi.no).op = (2, 2) := by rw [c]; rfl
      rw [hm2] at hm
      have hm3 : 2 ≤ (ps.getD i Pi.no).kids.length ∧ (ps.getD i Pi.no).kids.length ≤ 2 := hm
      have ax : ∀ k, k < (ps.getD i Pi.no).kids.length → Pg.ex (ps.getD (Sh.kid (ps.getD i Pi.no) k) Pi.no).op = true := fun k hk2 => by rw [(hk k hk2).2.2, c]; simp
      exact showSt_addCell v ps ra rn rc i W hP hi hl c (by omega) (hk 0 (by omega)).1 (hX 0 (by omega) (ax 0 (by omega))) (hk 1 (by omega)).1 (hX 1 (by omega) (ax 1 (by omega))) htl
    · have hm2 : Pg.many (ps.getD i Pi.no).op = (2, 3) := by rw [c]; rfl
      rw [hm2] at hm
      have hm3 : 2 ≤ (ps.getD i Pi.no).kids.length ∧ (ps.getD i Pi.no).kids.length ≤ 3 := hm
      have ax : Pg.ex (ps.getD (Sh.kid (ps.getD i Pi.no) 0) Pi.no).op = true := by rw [(hk 0 (by omega)).2.2, c]; simp
      have bx : ∀ k, k < (ps.getD i Pi.no).kids.length → 0 < k → Pg.ex (ps.getD (Sh.kid (ps.getD i Pi.no) k) Pi.no).op = false := fun k hk2 h0 => by rw [(hk k hk2).2.2, c]; simp [h0]
      obtain c2 | c2 : (ps.getD i Pi.no).kids.length = 2 ∨ (ps.getD i Pi.no).kids.length = 3 := by omega
      · exact showSt_if2 v ps ra rn rc i W hP hi hl c c2 (hk 0 (by omega)).1 (hX 0 (by omega) ax) (hk 1 (by omega)).1 (hS 1 (by omega) (bx 1 (by omega) (by omega))) htl
      · exact showSt_if3 v ps ra rn rc i W hP hi hl c c2 (hk 0 (by omega)).1 (hX 0 (by omega) ax) (hk 1 (by omega)).1 (hS 1 (by omega) (bx 1 (by omega) (by omega))) (hk 2 (by omega)).1 (hS 2 (by omega) (bx 2 (by omega) (by omega))) htl
    · have hm2 : Pg.many (ps.getD i Pi.no).op = (0, 0) := by rw [c]; rfl
      rw [hm2] at hm
      have hm3 : 0 ≤ (ps.getD i Pi.no).kids.length ∧ (ps.getD i Pi.no).kids.length ≤ 0 := hm
      exact showSt_next v ps ra rn rc i W hP hi hl c (by omega)
    · have hm2 : Pg.many (ps.getD i Pi.no).op = (0, 20) := by rw [c]; rfl
      rw [hm2] at hm
      have hm3 : 0 ≤ (ps.getD i Pi.no).kids.length ∧ (ps.getD i Pi.no).kids.length ≤ 20 := hm
      have bx : ∀ k, k < (ps.getD i Pi.no).kids.length → Pg.ex (ps.getD (Sh.kid (ps.getD i Pi.no) k) Pi.no).op = false := fun k hk2 => by rw [(hk k hk2).2.2, c]; simp
      obtain c2 | c2 : (ps.getD i Pi.no).kids.length = 0 ∨ 1 ≤ (ps.getD i Pi.no).kids.length := by omega
      · exact showSt_block0 v ps ra rn rc i W hP hi hl c c2
      · refine showSt_block v ps ra rn rc i W hP hi hl c c2 hm3.2 (fun k hk2 => ?_) htl
        rw [← kz k hk2]
        exact hS k hk2 (bx k hk2)
    · have hm2 : Pg.many (ps.getD i Pi.no).op = (0, 0) := by rw [c]; rfl
      rw [hm2] at hm
      have hm3 : 0 ≤ (ps.getD i Pi.no).kids.length ∧ (ps.getD i Pi.no).kids.length ≤ 0 := hm
      exact showSt_dump v ps ra rn rc i W hP hi hl c (by omega) htl
end PartShL
section PartShM

namespace Sh
theorem szs_pre (ps : List Pi) (m : Nat) : ∀ d j, j < m → (Pg.szs ps (m + d)).getD j 0 = (Pg.szs ps m).getD j 0 := by
  intro d
  induction d with
  | zero => intro j _; rfl
  | succ d ih =>
    intro j hj
    rw [← ih j hj]
    show (Pg.szs ps (m + d + 1)).getD j 0 = _
    unfold Pg.szs
    rw [List.getD_eq_getElem?_getD, List.getD_eq_getElem?_getD, List.getElem?_append_left (by rw [Pg.szs_len]; omega)]
    cases h : m + d with
    | zero => omega
    | succ q => rfl
theorem szs_last (ps : List Pi) (j : Nat) : (Pg.szs ps (j + 1)).getD j 0 = min 2001 (1 + ((ps.getD j Pi.no).kids.map fun k => (Pg.szs ps j).getD k.toNat 0).sum) := by
  unfold Pg.szs
  rw [List.getD_eq_getElem?_getD, List.getElem?_append_right (by rw [Pg.szs_len]; omega), Pg.szs_len]
  simp only [Nat.sub_self, List.getElem?_cons_zero, Option.getD_some]
  cases j <;> rfl
/-- How many nodes a node comes to. -/
def sz (ps : List Pi) (j : Nat) : Nat := (Pg.szs ps ps.length).getD j 0
theorem sz_eq {ps : List Pi} {j : Nat} (hj : j < ps.length) (h : Pg.node ps j = true) (hs : sz ps j ≤ 2000) : sz ps j = 1 + ((ps.getD j Pi.no).kids.map fun k => sz ps k.toNat).sum := by
  have e1 : sz ps j = (Pg.szs ps (j + 1)).getD j 0 := by
    have := szs_pre ps (j + 1) (ps.length - (j + 1)) j (by omega)
    rw [show j + 1 + (ps.length - (j + 1)) = ps.length by omega] at this
    exact this
  have e2 : ((ps.getD j Pi.no).kids.map fun k => (Pg.szs ps j).getD k.toNat 0) = ((ps.getD j Pi.no).kids.map fun k => sz ps k.toNat) := by
    refine List.map_congr_left fun z hz => ?_
    obtain ⟨k, hk2, rfl⟩ := List.getElem_of_mem hz
    have hb := (Pg.node_kids h).2 k hk2
    have e : (ps.getD j Pi.no).kids[k] = (ps.getD j Pi.no).kids.getD k 0 := by
      generalize (ps.getD j Pi.no).kids = l at hk2
      rw [List.getD_eq_getElem?_getD, List.getElem?_eq_getElem hk2]; rfl
    rw [e]
    have := szs_pre ps j (ps.length - j) ((ps.getD j Pi.no).kids.getD k 0).toNat (by omega)
    rw [show j + (ps.length - j) = ps.length by omega] at this
    exact this.symm
  rw [szs_last, e2] at e1
  omega
theorem sum1 (f : Int → Nat) (ks : List Int) (h : 1 ≤ ks.length) : f (ks.getD 0 0) ≤ (ks.map f).sum := by
  match ks, h with
  | a :: r, _ => simp only [List.map_cons, List.sum_cons, List.getD_cons_zero]; omega
theorem sum2 (f : Int → Nat) (ks : List Int) (h : 2 ≤ ks.length) : f (ks.getD 0 0) + f (ks.getD 1 0) ≤ (ks.map f).sum := by
  match ks, h with
  | a :: b :: r, _ => simp only [List.map_cons, List.sum_cons, List.getD_cons_zero, List.getD_cons_succ]; omega
theorem sum3 (f : Int → Nat) (ks : List Int) (h : 3 ≤ ks.length) : f (ks.getD 0 0) + f (ks.getD 1 0) + f (ks.getD 2 0) ≤ (ks.map f).sum := by
  match ks, h with
  | a :: b :: c :: r, _ => simp only [List.map_cons, List.sum_cons, List.getD_cons_zero, List.getD_cons_succ]; omega
theorem sum_at (f : Int → Nat) : ∀ (ks : List Int) (k : Nat), k < ks.length → f (ks.getD k 0) ≤ (ks.map f).sum := by
  intro ks
  induction ks with
  | nil => intro k h; exact absurd h (Nat.not_lt_zero _)
  | cons a r ih =>
    intro k h
    cases k with
    | zero => exact sum1 f (a :: r) (by simp)
    | succ k =>
      have := ih k (by simpa using h)
      simp only [List.map_cons, List.sum_cons, List.getD_cons_succ]; omega
theorem sep_len (s : List UInt8) (f : Int → List UInt8) (g : Int → Nat) : ∀ ks : List Int, (∀ k, k < ks.length → (f (ks.getD k 0)).length ≤ 60 * g (ks.getD k 0)) → (sep s (ks.map f)).length ≤ 60 * (ks.map g).sum + s.length * ks.length := by
  intro ks
  induction ks with
  | nil => intro _; simp [sep]
  | cons a r ih =>
    intro h
    have h0 := h 0 (by simp)
    rw [List.getD_cons_zero] at h0
    have hr := ih (fun k hk => by have := h (k + 1) (by simpa using hk); rwa [List.getD_cons_succ] at this)
    cases r with
    | nil => simp [sep]; omega
    | cons b r =>
      simp only [List.map_cons, sep, List.length_append, List.sum_cons, List.length_cons, Nat.mul_add, Nat.mul_one] at hr ⊢
      omega
/-- What a right node's text is at most. -/
theorem text_le {ps : List Pi} {j : Nat} (h : Pg.node ps j = true) : (ps.getD j Pi.no).text.data.toList.length ≤ 30 := by
  unfold Pg.node at h
  simp only [Bool.and_eq_true] at h
  have h2 := h.1.1.2
  revert h2
  generalize (ps.getD j Pi.no).text.data.toList = t
  unfold Pg.text Pv.isn Pg.plain Pg.name
  intro h2
  split at h2
  · simp only [Bool.and_eq_true, decide_eq_true_eq] at h2; omega
  split at h2
  · simp only [Bool.and_eq_true, decide_eq_true_eq] at h2; omega
  split at h2
  · simp only [Bool.and_eq_true, decide_eq_true_eq] at h2; omega
  split at h2
  · simp only [Bool.and_eq_true, decide_eq_true_eq] at h2; omega
  · rw [List.isEmpty_iff] at h2; subst h2; simp
theorem sgn_le (op : Int) : (sgn op).length ≤ 2 := by
  unfold sgn
  repeat' split
  all_goals simp
end Sh
end PartShM
end Go.Proofs.YtknojhmnadmilaaGreatDoor
