/- Plain facts: what is shown of a right expression. What is shown of a right expression. -/
import Derived.Test.YtknojhmnadmilaaGreatDoorShB
import Derived.Test.YtknojhmnadmilaaGreatDoorShD
namespace Go.Proofs.YtknojhmnadmilaaGreatDoor
section PartShE
namespace Sh
/-- What a right expression has: its kids, ahead of it, expressions too. -/
theorem node_ex {ps : List Pi} {i : Nat} (h : Pg.node ps i = true) (he : Pg.ex (ps.getD i Pi.no).op = true) :
    1 ≤ (ps.getD i Pi.no).op ∧ (ps.getD i Pi.no).op ≤ 16 ∧ ((Pg.many (ps.getD i Pi.no).op).1 ≤ (ps.getD i Pi.no).kids.length ∧ (ps.getD i Pi.no).kids.length ≤ (Pg.many (ps.getD i Pi.no).op).2) ∧
    ∀ k, k < (ps.getD i Pi.no).kids.length → 0 ≤ (ps.getD i Pi.no).kids.getD k 0 ∧ kid (ps.getD i Pi.no) k < i ∧ Pg.ex (ps.getD (kid (ps.getD i Pi.no) k) Pi.no).op = true := by
  unfold Pg.node at h
  simp only [Bool.and_eq_true, decide_eq_true_eq, List.all_eq_true, List.mem_range] at h
  obtain ⟨⟨⟨-, -⟩, hm⟩, hk⟩ := h
  have he2 := he
  unfold Pg.ex at he2
  simp only [decide_eq_true_eq] at he2
  refine ⟨he2.1, he2.2, hm, fun k hk2 => ?_⟩
  have := hk k hk2
  unfold Pg.kid at this
  have n24 : (ps.getD i Pi.no).op ≠ 24 := by omega
  have n22 : (ps.getD i Pi.no).op ≠ 22 := by omega
  rw [decide_eq_false n24, decide_eq_false n22] at this
  simp only [Bool.false_and, Bool.or_false, Bool.and_eq_true, decide_eq_true_eq] at this
  obtain ⟨⟨h1, h2⟩, h3⟩ := this
  refine ⟨h1, by unfold kid; omega, ?_⟩
  unfold kid
  cases hx : Pg.ex (ps.getD ((ps.getD i Pi.no).kids.getD k 0).toNat Pi.no).op with
  | true => rfl
  | false => rw [hx] at h3; simp at h3
theorem many1 {op : Int} (h : op = 4 ∨ op = 5 ∨ op = 8 ∨ op = 16) : Pg.many op = (1, 1) := by rcases h with rfl | rfl | rfl | rfl <;> rfl
theorem many2 {op : Int} (h : 9 ≤ op) (h2 : op ≤ 15) : Pg.many op = (2, 2) := by
  obtain rfl | rfl | rfl | rfl | rfl | rfl | rfl : op = 9 ∨ op = 10 ∨ op = 11 ∨ op = 12 ∨ op = 13 ∨ op = 14 ∨ op = 15 := by omega
  all_goals rfl
/-- However far it may go on, what is shown is the same. -/
theorem ex_fuel {ps : List Pi} (hn : ∀ i, i < ps.length → Pg.node ps i = true) : ∀ j f, j < ps.length → j < f → Pg.ex (ps.getD j Pi.no).op = true → ex ps f j = ex ps (j + 1) j := by
  intro j
  induction j using Nat.strongRecOn with
  | ind j ih =>
    intro f hj hf he
    obtain ⟨g, rfl⟩ : ∃ g, f = g + 1 := ⟨f - 1, by omega⟩
    obtain ⟨h1, h2, hm, hk⟩ := node_ex (hn j hj) he
    have key : ∀ k, k < (ps.getD j Pi.no).kids.length → ex ps g (kid (ps.getD j Pi.no) k) = ex ps j (kid (ps.getD j Pi.no) k) := fun k hk2 => by
      obtain ⟨-, b1, b2⟩ := hk k hk2
      rw [ih _ b1 g (by omega) (by omega) b2, ih _ b1 j (by omega) b1 b2]
    rw [ex, ex]
    by_cases c1 : (ps.getD j Pi.no).op = 1 ∨ (ps.getD j Pi.no).op = 3
    · rw [if_pos c1, if_pos c1]
    rw [if_neg c1, if_neg c1]
    by_cases c2 : (ps.getD j Pi.no).op = 2
    · rw [if_pos c2, if_pos c2]
    rw [if_neg c2, if_neg c2]
    by_cases c4 : (ps.getD j Pi.no).op = 4
    · rw [if_pos c4, if_pos c4, key 0 (by rw [many1 (.inl c4)] at hm; exact hm.1)]
    rw [if_neg c4, if_neg c4]
    by_cases c5 : (ps.getD j Pi.no).op = 5
    · rw [if_pos c5, if_pos c5, key 0 (by rw [many1 (.inr (.inl c5))] at hm; exact hm.1)]
    rw [if_neg c5, if_neg c5]
    by_cases c6 : (ps.getD j Pi.no).op = 6
    · rw [if_pos c6, if_pos c6]
    rw [if_neg c6, if_neg c6]
    by_cases c7 : (ps.getD j Pi.no).op = 7
    · rw [if_pos c7, if_pos c7]
    rw [if_neg c7, if_neg c7]
    by_cases c8 : (ps.getD j Pi.no).op = 8
    · rw [if_pos c8, if_pos c8, key 0 (by rw [many1 (.inr (.inr (.inl c8)))] at hm; exact hm.1)]
    rw [if_neg c8, if_neg c8]
    by_cases c16 : (ps.getD j Pi.no).op = 16
    · rw [if_pos c16, if_pos c16, key 0 (by rw [many1 (.inr (.inr (.inr c16)))] at hm; exact hm.1)]
    rw [if_neg c16, if_neg c16]
    have hm2 := many2 (op := (ps.getD j Pi.no).op) (by omega) (by omega)
    rw [hm2] at hm
    rw [key 0 (by have := hm.1; simp at this; omega), key 1 (by have := hm.1; simp at this; omega)]
end Sh
end PartShE
section PartShF
open Go.RowKit

namespace Sh
/-- What is shown of a kid is a part of what is shown. -/
theorem kid_le {ps : List Pi} {i : Nat} (hn : Pg.node ps i = true) (he : Pg.ex (ps.getD i Pi.no).op = true) (k : Nat) (hk : k < (ps.getD i Pi.no).kids.length) : (ex ps i (kid (ps.getD i Pi.no) k)).length ≤ (ex ps (i + 1) i).length := by
  obtain ⟨h1, h2, hm, -⟩ := node_ex hn he
  have k0 : ∀ op, (ps.getD i Pi.no).op = op → Pg.many op = (1, 1) → k = 0 := fun op e1 e2 => by rw [e1, e2] at hm; have := hm.2; simp at this; omega
  have no : ∀ op, (ps.getD i Pi.no).op = op → Pg.many op = (0, 0) → False := fun op e1 e2 => by rw [e1, e2] at hm; have := hm.2; simp at this; omega
  rw [show ex ps (i + 1) i = _ from rfl, ex]
  by_cases c1 : (ps.getD i Pi.no).op = 1 ∨ (ps.getD i Pi.no).op = 3
  · exact (c1.elim (fun e => no 1 e rfl) (fun e => no 3 e rfl)).elim
  rw [if_neg c1]
  by_cases c2 : (ps.getD i Pi.no).op = 2
  · exact (no 2 c2 rfl).elim
  rw [if_neg c2]
  by_cases c4 : (ps.getD i Pi.no).op = 4
  · obtain rfl := k0 4 c4 rfl
    rw [if_pos c4]; simp only [List.length_append]; omega
  rw [if_neg c4]
  by_cases c5 : (ps.getD i Pi.no).op = 5
  · obtain rfl := k0 5 c5 rfl
    rw [if_pos c5]; simp only [List.length_append]; omega
  rw [if_neg c5]
  by_cases c6 : (ps.getD i Pi.no).op = 6
  · exact (no 6 c6 rfl).elim
  rw [if_neg c6]
  by_cases c7 : (ps.getD i Pi.no).op = 7
  · exact (no 7 c7 rfl).elim
  rw [if_neg c7]
  by_cases c8 : (ps.getD i Pi.no).op = 8
  · obtain rfl := k0 8 c8 rfl
    rw [if_pos c8]; simp only [List.length_append]; omega
  rw [if_neg c8]
  by_cases c16 : (ps.getD i Pi.no).op = 16
  · obtain rfl := k0 16 c16 rfl
    rw [if_pos c16]; simp only [List.length_append]; omega
  rw [if_neg c16]
  have hm2 := many2 (op := (ps.getD i Pi.no).op) (by omega) (by omega)
  rw [hm2] at hm
  have hk2 : k = 0 ∨ k = 1 := by have := hm.2; simp at this; omega
  rcases hk2 with rfl | rfl
  · simp only [List.length_append]; omega
  · simp only [List.length_append]; omega
end Sh

/-- l06ShowEx at every right expression. -/
theorem spShowEx (v : Value) (ps : List Pi) (ra : Option Addr) (rn rc : Nat) (w : World) (h : PcsAt w v ps) (hl : ps.length ≤ 200) (hn : ∀ i, i < ps.length → Pg.node ps i = true) :
    ∀ i, i < ps.length → Pg.ex (ps.getD i Pi.no).op = true → (Sh.ex ps (i + 1) i).length ≤ 1000000 → ∀ W, Below w.heap.size w W → Calls Tryz.prog 13 #[.agg #[v, .slice ra rn rc], .int .i64 (i : Int)] W fun e w' => e = .returned (.string ⟨(Sh.ex ps (i + 1) i).toArray⟩) ∧ Below W.heap.size W w' := by
  intro i
  induction i using Nat.strongRecOn with
  | ind i ih =>
    intro hi he htl W hW
    have hP := h.keep hW
    obtain ⟨h1, h2, hm, hk⟩ := Sh.node_ex (hn i hi) he
    have hC : ∀ k, k < (ps.getD i Pi.no).kids.length → ∀ W', Below W.heap.size W W' → Calls Tryz.prog 13 #[.agg #[v, .slice ra rn rc], .int .i64 (Sh.kid (ps.getD i Pi.no) k : Int)] W' fun e w' => e = .returned (.string ⟨(Sh.ex ps i (Sh.kid (ps.getD i Pi.no) k)).toArray⟩) ∧ Below W'.heap.size W' w' := by
      intro k hk2 W' hW'
      obtain ⟨-, b1, b2⟩ := hk k hk2
      have e := Sh.ex_fuel hn (Sh.kid (ps.getD i Pi.no) k) i (by omega) b1 b2
      have hle := Sh.kid_le (hn i hi) he k hk2
      rw [e] at hle ⊢
      exact ih _ b1 (by omega) b2 (by omega) W' (hW.trans (hW'.mono hW.size))
    have one : ∀ op, (ps.getD i Pi.no).op = op → Pg.many op = (1, 1) → (ps.getD i Pi.no).kids.length = 1 := fun op e1 e2 => by rw [e1, e2] at hm; have a := hm.1; have b := hm.2; simp at a b; omega
    have none' : ∀ op, (ps.getD i Pi.no).op = op → Pg.many op = (0, 0) → (ps.getD i Pi.no).kids.length = 0 := fun op e1 e2 => by rw [e1, e2] at hm; have b := hm.2; simp at b; omega
    have two : ∀ op, (ps.getD i Pi.no).op = op → Pg.many op = (2, 2) → (ps.getD i Pi.no).kids.length = 2 := fun op e1 e2 => by rw [e1, e2] at hm; have a := hm.1; have b := hm.2; simp at a b; omega
    obtain c | c | c | c | c | c | c | c | c | c | c | c | c | c | c | c : (ps.getD i Pi.no).op = 1 ∨ (ps.getD i Pi.no).op = 2 ∨ (ps.getD i Pi.no).op = 3 ∨ (ps.getD i Pi.no).op = 4 ∨ (ps.getD i Pi.no).op = 5 ∨ (ps.getD i Pi.no).op = 6 ∨ (ps.getD i Pi.no).op = 7 ∨ (ps.getD i Pi.no).op = 8 ∨ (ps.getD i Pi.no).op = 9 ∨ (ps.getD i Pi.no).op = 10 ∨ (ps.getD i Pi.no).op = 11 ∨ (ps.getD i Pi.no).op = 12 ∨ (ps.getD i Pi.no).op = 13 ∨ (ps.getD i Pi.no).op = 14 ∨ (ps.getD i Pi.no).op = 15 ∨ (ps.getD i Pi.no).op = 16 := by omega
    · exact showEx_num v ps ra rn rc i W hP hi hl c (none' 1 c rfl)
    · exact showEx_text v ps ra rn rc i W hP hi hl c (none' 2 c rfl) htl
    · exact showEx_name v ps ra rn rc i W hP hi hl c (none' 3 c rfl)
    · have hk1 := one 4 c rfl
      exact showEx_cell v ps ra rn rc i W hP hi hl c hk1 (hk 0 (by omega)).1 (hC 0 (by omega)) htl
    · have hk1 := one 5 c rfl
      exact showEx_field v ps ra rn rc i W hP hi hl c hk1 (hk 0 (by omega)).1 (hC 0 (by omega)) htl
    · exact showEx_fields v ps ra rn rc i W hP hi hl c (none' 6 c rfl)
    · exact showEx_line v ps ra rn rc i W hP hi hl c (none' 7 c rfl)
    · have hk1 := one 8 c rfl
      exact showEx_long v ps ra rn rc i W hP hi hl c hk1 (hk 0 (by omega)).1 (hC 0 (by omega)) htl
    · have hk2 := two 9 c rfl
      exact showEx_add v ps ra rn rc i W hP hi hl c hk2 (hk 0 (by omega)).1 (hC 0 (by omega)) (hk 1 (by omega)).1 (hC 1 (by omega)) htl
    · have hk2 := two 10 c rfl
      exact showEx_sub v ps ra rn rc i W hP hi hl c hk2 (hk 0 (by omega)).1 (hC 0 (by omega)) (hk 1 (by omega)).1 (hC 1 (by omega)) htl
    · have hk2 := two 11 c rfl
      exact showEx_mul v ps ra rn rc i W hP hi hl c hk2 (hk 0 (by omega)).1 (hC 0 (by omega)) (hk 1 (by omega)).1 (hC 1 (by omega)) htl
    · have hk2 := two 12 c rfl
      exact showEx_mod v ps ra rn rc i W hP hi hl c hk2 (hk 0 (by omega)).1 (hC 0 (by omega)) (hk 1 (by omega)).1 (hC 1 (by omega)) htl
    · have hk2 := two 13 c rfl
      exact showEx_join v ps ra rn rc i W hP hi hl c hk2 (hk 0 (by omega)).1 (hC 0 (by omega)) (hk 1 (by omega)).1 (hC 1 (by omega)) htl
    · have hk2 := two 14 c rfl
      exact showEx_less v ps ra rn rc i W hP hi hl c hk2 (hk 0 (by omega)).1 (hC 0 (by omega)) (hk 1 (by omega)).1 (hC 1 (by omega)) htl
    · have hk2 := two 15 c rfl
      exact showEx_same v ps ra rn rc i W hP hi hl c hk2 (hk 0 (by omega)).1 (hC 0 (by omega)) (hk 1 (by omega)).1 (hC 1 (by omega)) htl
    · have hk1 := one 16 c rfl
      exact showEx_has v ps ra rn rc i W hP hi hl c hk1 (hk 0 (by omega)).1 (hC 0 (by omega)) htl
end PartShF
end Go.Proofs.YtknojhmnadmilaaGreatDoor
