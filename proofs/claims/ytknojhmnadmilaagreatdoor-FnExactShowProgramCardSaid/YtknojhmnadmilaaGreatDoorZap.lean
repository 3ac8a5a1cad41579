/- How long what is shown of a right expression or statement is. What is shown of a program, and how long it is. Trees: what is shown of a node's tree is what is shown of the node. -/
import Derived.Test.YtknojhmnadmilaaGreatDoorZao
import Derived.Test.YtknojhmnadmilaaGreatDoorTrB
import Derived.Test.YtknojhmnadmilaaGreatDoorTrE
import Derived.Test.YtknojhmnadmilaaGreatDoorTrF
namespace Go.Proofs.YtknojhmnadmilaaGreatDoor
section PartShN

namespace Sh
theorem ex_sz {ps : List Pi} (hn : ∀ i, i < ps.length → Pg.node ps i = true) : ∀ j, j < ps.length → Pg.ex (ps.getD j Pi.no).op = true → sz ps j ≤ 2000 → (exC ps j).length ≤ 60 * sz ps j := by
  intro j
  induction j using Nat.strongRecOn with
  | ind j ih =>
    intro hj he hs
    obtain ⟨h1, h2, hm, hk⟩ := node_ex (hn j hj) he
    have e := sz_eq hj (hn j hj) hs
    have ht := text_le (hn j hj)
    have key : ∀ k, k < (ps.getD j Pi.no).kids.length → (ex ps j (kid (ps.getD j Pi.no) k)).length ≤ 60 * sz ps (kid (ps.getD j Pi.no) k) := fun k hk2 => by
      obtain ⟨-, b1, b2⟩ := hk k hk2
      have b3 : sz ps (kid (ps.getD j Pi.no) k) ≤ _ := sum_at (fun k => sz ps k.toNat) _ k hk2
      rw [ex_fuel hn (kid (ps.getD j Pi.no) k) j (by omega) b1 b2]
      exact ih _ b1 (by omega) b2 (by omega)
    have s1 : 1 ≤ (ps.getD j Pi.no).kids.length → sz ps (kid (ps.getD j Pi.no) 0) ≤ ((ps.getD j Pi.no).kids.map fun k => sz ps k.toNat).sum := fun h => sum1 (fun k => sz ps k.toNat) _ h
    have s2 : 2 ≤ (ps.getD j Pi.no).kids.length → sz ps (kid (ps.getD j Pi.no) 0) + sz ps (kid (ps.getD j Pi.no) 1) ≤ ((ps.getD j Pi.no).kids.map fun k => sz ps k.toNat).sum := fun h => sum2 (fun k => sz ps k.toNat) _ h
    have hg := sgn_le (ps.getD j Pi.no).op
    have one : ∀ op, (ps.getD j Pi.no).op = op → Pg.many op = (1, 1) → (ps.getD j Pi.no).kids.length = 1 := fun op e1 e2 => by rw [e1, e2] at hm; have a := hm.1; have b := hm.2; simp at a b; omega
    unfold exC
    rw [ex]
    by_cases c1 : (ps.getD j Pi.no).op = 1 ∨ (ps.getD j Pi.no).op = 3
    · rw [if_pos c1]; omega
    rw [if_neg c1]
    by_cases c2 : (ps.getD j Pi.no).op = 2
    · rw [if_pos c2]; simp only [List.length_append, List.length_cons, List.length_nil]; omega
    rw [if_neg c2]
    by_cases c4 : (ps.getD j Pi.no).op = 4
    · have o := one 4 c4 rfl
      have a := key 0 (by omega)
      have b := s1 (by omega)
      rw [if_pos c4]; simp only [List.length_append, List.length_cons, List.length_nil]; omega
    rw [if_neg c4]
    by_cases c5 : (ps.getD j Pi.no).op = 5
    · have o := one 5 c5 rfl
      have a := key 0 (by omega)
      have b := s1 (by omega)
      rw [if_pos c5]; simp only [List.length_append, List.length_cons, List.length_nil]; omega
    rw [if_neg c5]
    by_cases c6 : (ps.getD j Pi.no).op = 6
    · rw [if_pos c6]; simp only [List.length_cons, List.length_nil]; omega
    rw [if_neg c6]
    by_cases c7 : (ps.getD j Pi.no).op = 7
    · rw [if_pos c7]; simp only [List.length_cons, List.length_nil]; omega
    rw [if_neg c7]
    by_cases c8 : (ps.getD j Pi.no).op = 8
    · have o := one 8 c8 rfl
      have a := key 0 (by omega)
      have b := s1 (by omega)
      rw [if_pos c8]; simp only [List.length_append, List.length_cons, List.length_nil]; omega
    rw [if_neg c8]
    by_cases c16 : (ps.getD j Pi.no).op = 16
    · have o := one 16 c16 rfl
      have a := key 0 (by omega)
      have b := s1 (by omega)
      rw [if_pos c16]; simp only [List.length_append, List.length_cons, List.length_nil]; omega
    rw [if_neg c16]
    have hm2 := many2 (op := (ps.getD j Pi.no).op) (by omega) (by omega)
    rw [hm2] at hm
    have hm3 : 2 ≤ (ps.getD j Pi.no).kids.length := hm.1
    have a := key 0 (by omega)
    have a2 := key 1 (by omega)
    have b := s2 (by omega)
    simp only [List.length_append, List.length_cons, List.length_nil]; omega
theorem st_sz {ps : List Pi} (hn : ∀ i, i < ps.length → Pg.node ps i = true) : ∀ j, j < ps.length → Pg.ex (ps.getD j Pi.no).op = false → sz ps j ≤ 2000 → (st ps (j + 1) j).length ≤ 60 * sz ps j := by
  intro j
  induction j using Nat.strongRecOn with
  | ind j ih =>
    intro hj he hs
    obtain ⟨h1, h2, hm, hk⟩ := node_st (hn j hj) he
    have e := sz_eq hj (hn j hj) hs
    have ht := text_le (hn j hj)
    have kx : ∀ k, k < (ps.getD j Pi.no).kids.length → Pg.ex (ps.getD (kid (ps.getD j Pi.no) k) Pi.no).op = true → (exC ps (kid (ps.getD j Pi.no) k)).length ≤ 60 * sz ps (kid (ps.getD j Pi.no) k) := fun k hk2 b2 => by
      obtain ⟨-, b1, -⟩ := hk k hk2
      have b3 : sz ps (kid (ps.getD j Pi.no) k) ≤ _ := sum_at (fun k => sz ps k.toNat) _ k hk2
      exact ex_sz hn _ (by omega) b2 (by omega)
    have ks : ∀ k, k < (ps.getD j Pi.no).kids.length → Pg.ex (ps.getD (kid (ps.getD j Pi.no) k) Pi.no).op = false → (st ps j (kid (ps.getD j Pi.no) k)).length ≤ 60 * sz ps (kid (ps.getD j Pi.no) k) := fun k hk2 b2 => by
      obtain ⟨-, b1, -⟩ := hk k hk2
      have b3 : sz ps (kid (ps.getD j Pi.no) k) ≤ _ := sum_at (fun k => sz ps k.toNat) _ k hk2
      rw [st_fuel hn (kid (ps.getD j Pi.no) k) j (by omega) b1 b2]
      exact ih _ b1 (by omega) b2 (by omega)
    have s1 : 1 ≤ (ps.getD j Pi.no).kids.length → sz ps (kid (ps.getD j Pi.no) 0) ≤ ((ps.getD j Pi.no).kids.map fun k => sz ps k.toNat).sum := fun h => sum1 (fun k => sz ps k.toNat) _ h
    have s2 : 2 ≤ (ps.getD j Pi.no).kids.length → sz ps (kid (ps.getD j Pi.no) 0) + sz ps (kid (ps.getD j Pi.no) 1) ≤ ((ps.getD j Pi.no).kids.map fun k => sz ps k.toNat).sum := fun h => sum2 (fun k => sz ps k.toNat) _ h
    have s3 : 3 ≤ (ps.getD j Pi.no).kids.length → sz ps (kid (ps.getD j Pi.no) 0) + sz ps (kid (ps.getD j Pi.no) 1) + sz ps (kid (ps.getD j Pi.no) 2) ≤ ((ps.getD j Pi.no).kids.map fun k => sz ps k.toNat).sum := fun h => sum3 (fun k => sz ps k.toNat) _ h
    obtain c | c | c | c | c | c | c | c | c : (ps.getD j Pi.no).op = 17 ∨ (ps.getD j Pi.no).op = 18 ∨ (ps.getD j Pi.no).op = 19 ∨ (ps.getD j Pi.no).op = 20 ∨ (ps.getD j Pi.no).op = 21 ∨ (ps.getD j Pi.no).op = 22 ∨ (ps.getD j Pi.no).op = 23 ∨ (ps.getD j Pi.no).op = 24 ∨ (ps.getD j Pi.no).op = 25 := by omega
    · have n : ∀ z : Int, z ≠ 17 → ¬ (ps.getD j Pi.no).op = z := fun z hz => by omega
      have hm2 : Pg.many (ps.getD j Pi.no).op = (1, 4) := by rw [c]; rfl
      rw [hm2] at hm
      have hm3 : 1 ≤ (ps.getD j Pi.no).kids.length ∧ (ps.getD j Pi.no).kids.length ≤ 4 := hm
      have ax : ∀ k, k < (ps.getD j Pi.no).kids.length → Pg.ex (ps.getD (kid (ps.getD j Pi.no) k) Pi.no).op = true := fun k hk2 => by rw [(hk k hk2).2.2, c]; simp
      have a := sep_len [44, 32] (fun k => exC ps k.toNat) (fun k => sz ps k.toNat) _ (fun k hk2 => kx k hk2 (ax k hk2))
      rw [show ([44, 32] : List UInt8).length = 2 from rfl] at a
      rw [st, if_pos c]
      simp only [List.length_append, List.length_cons, List.length_nil]; omega
    · have n : ∀ z : Int, z ≠ 18 → ¬ (ps.getD j Pi.no).op = z := fun z hz => by omega
      have hm2 : Pg.many (ps.getD j Pi.no).op = (1, 1) := by rw [c]; rfl
      rw [hm2] at hm
      have hm3 : 1 ≤ (ps.getD j Pi.no).kids.length ∧ (ps.getD j Pi.no).kids.length ≤ 1 := hm
      have ax : ∀ k, k < (ps.getD j Pi.no).kids.length → Pg.ex (ps.getD (kid (ps.getD j Pi.no) k) Pi.no).op = true := fun k hk2 => by rw [(hk k hk2).2.2, c]; simp
      have a := kx 0 (by omega) (ax 0 (by omega))
      have b := s1 (by omega)
      rw [st, if_neg (n 17 (by decide)), if_pos c]
      simp only [List.length_append, List.length_cons, List.length_nil]; omega
    · have n : ∀ z : Int, z ≠ 19 → ¬ (ps.getD j Pi.no).op = z := fun z hz => by omega
      have hm2 : Pg.many (ps.getD j Pi.no).op = (1, 1) := by rw [c]; rfl
      rw [hm2] at hm
      have hm3 : 1 ≤ (ps.getD j Pi.no).kids.length ∧ (ps.getD j Pi.no).kids.length ≤ 1 := hm
      have ax : ∀ k, k < (ps.getD j Pi.no).kids.length → Pg.ex (ps.getD (kid (ps.getD j Pi.no) k) Pi.no).op = true := fun k hk2 => by rw [(hk k hk2).2.2, c]; simp
      have a := kx 0 (by omega) (ax 0 (by omega))
      have b := s1 (by omega)
      rw [st, if_neg (n 17 (by decide)), if_neg (n 18 (by decide)), if_pos c]
      simp only [List.length_append, List.length_cons, List.length_nil]; omega
    · have n : ∀ z : Int, z ≠ 20 → ¬ (ps.getD j Pi.no).op = z := fun z hz => by omega
      have hm2 : Pg.many (ps.getD j Pi.no).op = (2, 2) := by rw [c]; rfl
      rw [hm2] at hm
      have hm3 : 2 ≤ (ps.getD j Pi.no).kids.length ∧ (ps.getD j Pi.no).kids.length ≤ 2 := hm
      have ax : ∀ k, k < (ps.getD j Pi.no).kids.length → Pg.ex (ps.getD (kid (ps.getD j Pi.no) k) Pi.no).op = true := fun k hk2 => by rw [(hk k hk2).2.2, c]; simp
      have a := kx 0 (by omega) (ax 0 (by omega))
      have a2 := kx 1 (by omega) (ax 1 (by omega))
      have b := s2 (by omega)
      rw [st, if_neg (n 17 (by decide)), if_neg (n 18 (by decide)), if_neg (n 19 (by decide)), if_pos c]
      simp only [List.length_append, List.length_cons, List.length_nil]; omega
    · have n : ∀ z : Int, z ≠ 21 → ¬ (ps.getD j Pi.no).op = z := fun z hz => by omega
      have hm2 : Pg.many (ps.getD j Pi.no).op = (2, 2) := by rw [c]; rfl
      rw [hm2] at hm
      have hm3 : 2 ≤ (ps.getD j Pi.no).kids.length ∧ (ps.getD j Pi.no).kids.length ≤ 2 := hm
      have ax : ∀ k, k < (ps.getD j Pi.no).kids.length → Pg.ex (ps.getD (kid (ps.getD j Pi.no) k) Pi.no).op = true := fun k hk2 => by rw [(hk k hk2).2.2, c]; simp
      have a := kx 0 (by omega) (ax 0 (by omega))
      have a2 := kx 1 (by omega) (ax 1 (by omega))
      have b := s2 (by omega)
      rw [st, if_neg (n 17 (by decide)), if_neg (n 18 (by decide)), if_neg (n 19 (by decide)), if_neg (n 20 (by decide)), if_pos c]
      simp only [List.length_append, List.length_cons, List.length_nil]; omega
    · have n : ∀ z : Int, z ≠ 22 → ¬ (ps.getD j Pi.no).op = z := fun z hz => by omega
      have hm2 : Pg.many (ps.getD j Pi.no).op = (2, 3) := by rw [c]; rfl
      rw [hm2] at hm
      have hm3 : 2 ≤ (ps.getD j Pi.no).kids.length ∧ (ps.getD j Pi.no).kids.length ≤ 3 := hm
      have a := kx 0 (by omega) (by rw [(hk 0 (by omega)).2.2, c]; simp)
      have a2 := ks 1 (by omega) (by rw [(hk 1 (by omega)).2.2, c]; simp)
      rw [st, if_neg (n 17 (by decide)), if_neg (n 18 (by decide)), if_neg (n 19 (by decide)), if_neg (n 20 (by decide)), if_neg (n 21 (by decide)), if_pos c]
      by_cases c3 : 2 < (ps.getD j Pi.no).kids.length
      · have a3 := ks 2 c3 (by rw [(hk 2 c3).2.2, c]; simp)
        have b := s3 c3
        rw [if_pos c3]; simp only [List.length_append, List.length_cons, List.length_nil]; omega
      · have b := s2 (by omega)
        rw [if_neg c3]; simp only [List.length_append, List.length_cons, List.length_nil]; omega
    · have n : ∀ z : Int, z ≠ 23 → ¬ (ps.getD j Pi.no).op = z := fun z hz => by omega
      have hm2 : Pg.many (ps.getD j Pi.no).op = (0, 0) := by rw [c]; rfl
      rw [hm2] at hm
      have hm3 : 0 ≤ (ps.getD j Pi.no).kids.length ∧ (ps.getD j Pi.no).kids.length ≤ 0 := hm
      rw [st, if_neg (n 17 (by decide)), if_neg (n 18 (by decide)), if_neg (n 19 (by decide)), if_neg (n 20 (by decide)), if_neg (n 21 (by decide)), if_neg (n 22 (by decide)), if_pos c]
      simp only [List.length_cons, List.length_nil]; omega
    · have n : ∀ z : Int, z ≠ 24 → ¬ (ps.getD j Pi.no).op = z := fun z hz => by omega
      have hm2 : Pg.many (ps.getD j Pi.no).op = (0, 20) := by rw [c]; rfl
      rw [hm2] at hm
      have hm3 : 0 ≤ (ps.getD j Pi.no).kids.length ∧ (ps.getD j Pi.no).kids.length ≤ 20 := hm
      have bx : ∀ k, k < (ps.getD j Pi.no).kids.length → Pg.ex (ps.getD (kid (ps.getD j Pi.no) k) Pi.no).op = false := fun k hk2 => by rw [(hk k hk2).2.2, c]; simp
      have a := sep_len [59, 32] (fun k => st ps j k.toNat) (fun k => sz ps k.toNat) _ (fun k hk2 => ks k hk2 (bx k hk2))
      rw [show ([59, 32] : List UInt8).length = 2 from rfl] at a
      have q : (if 0 < (ps.getD j Pi.no).kids.length then ([32] : List UInt8) else []).length ≤ 1 := by split <;> simp
      rw [st, if_neg (n 17 (by decide)), if_neg (n 18 (by decide)), if_neg (n 19 (by decide)), if_neg (n 20 (by decide)), if_neg (n 21 (by decide)), if_neg (n 22 (by decide)), if_neg (n 23 (by decide)), if_neg (n 25 (by decide))]
      simp only [List.length_append, List.length_cons, List.length_nil] at q ⊢; omega
    · have n : ∀ z : Int, z ≠ 25 → ¬ (ps.getD j Pi.no).op = z := fun z hz => by omega
      have hm2 : Pg.many (ps.getD j Pi.no).op = (0, 0) := by rw [c]; rfl
      rw [hm2] at hm
      have hm3 : 0 ≤ (ps.getD j Pi.no).kids.length ∧ (ps.getD j Pi.no).kids.length ≤ 0 := hm
      rw [st, if_neg (n 17 (by decide)), if_neg (n 18 (by decide)), if_neg (n 19 (by decide)), if_neg (n 20 (by decide)), if_neg (n 21 (by decide)), if_neg (n 22 (by decide)), if_neg (n 23 (by decide)), if_pos c]
      simp only [List.length_append, List.length_cons, List.length_nil]; omega
end Sh
end PartShN
section PartShO

namespace Sh
/-- What stands ahead of a rule's block. -/
def head (ps : List Pi) (r : Pg.Rl) : List UInt8 :=
  if r.when = 1 then [66, 69, 71, 73, 78, 32]
  else if r.when = 3 then [69, 78, 68, 32]
  else if 0 ≤ r.cond then exC ps r.cond.toNat ++ [32] else []
def rule (ps : List Pi) (r : Pg.Rl) : List UInt8 := head ps r ++ (st ps (r.act.toNat + 1) r.act.toNat ++ [10])
def prog (ps : List Pi) (rs : List Pg.Rl) : List UInt8 := (rs.map (rule ps)).flatten
theorem prog_take (ps : List Pi) (rs : List Pg.Rl) (q : Nat) (h : q < rs.length) : prog ps (rs.take (q + 1)) = prog ps (rs.take q) ++ rule ps (rs.getD q Pg.Rl.no) := by
  have e : rs.take (q + 1) = rs.take q ++ [rs.getD q Pg.Rl.no] := by
    rw [List.take_add_one, List.getElem?_eq_getElem h]
    simp [h]
  unfold prog
  rw [e, List.map_append, List.flatten_append]
  simp
/-- A right rule: what it names. -/
theorem rule_has {ps : List Pi} {r : Pg.Rl} (h : Pg.rule ps r = true) : (1 ≤ r.when ∧ r.when ≤ 3) ∧ 0 ≤ r.act ∧ r.act.toNat < ps.length ∧ Pg.ex (ps.getD r.act.toNat Pi.no).op = false ∧ (0 ≤ r.cond → r.when = 2 ∧ r.cond.toNat < ps.length ∧ Pg.ex (ps.getD r.cond.toNat Pi.no).op = true) := by
  unfold Pg.rule at h
  simp only [Bool.and_eq_true, Bool.or_eq_true, decide_eq_true_eq] at h
  obtain ⟨⟨⟨h1, h2⟩, h3⟩, h4⟩ := h
  refine ⟨h1, h2.1, by omega, by rw [h3]; rfl, fun h0 => ?_⟩
  rcases h4 with h4 | h4
  · omega
  · exact ⟨h4.1.1, by omega, h4.2⟩
theorem rule_len {ps : List Pi} (hn : ∀ i, i < ps.length → Pg.node ps i = true) {r : Pg.Rl} (h : Pg.rule ps r = true) (hs : Pg.ruleSz (Pg.szs ps ps.length) r ≤ 2000) :
    (rule ps r).length ≤ 60 * Pg.ruleSz (Pg.szs ps ps.length) r + 7 ∧ (st ps (r.act.toNat + 1) r.act.toNat).length ≤ 120000 ∧ (0 ≤ r.cond → (exC ps r.cond.toNat).length ≤ 120000) := by
  obtain ⟨-, -, b1, b2, b3⟩ := rule_has h
  have e : Pg.ruleSz (Pg.szs ps ps.length) r = sz ps r.act.toNat + if 0 ≤ r.cond then sz ps r.cond.toNat else 0 := rfl
  rw [e] at hs ⊢
  have a := st_sz hn _ b1 b2 (by omega)
  refine ⟨?_, by omega, fun h0 => ?_⟩
  · unfold rule head
    rw [List.length_append, List.length_append]
    by_cases c1 : r.when = 1
    · rw [if_pos c1]; simp only [List.length_cons, List.length_nil]; omega
    rw [if_neg c1]
    by_cases c3 : r.when = 3
    · rw [if_pos c3]; simp only [List.length_cons, List.length_nil]; omega
    rw [if_neg c3]
    by_cases c0 : 0 ≤ r.cond
    · obtain ⟨-, d1, d2⟩ := b3 c0
      rw [if_pos c0] at hs
      have a2 := ex_sz hn _ d1 d2 (by omega)
      rw [if_pos c0, if_pos c0, List.length_append]; simp only [List.length_cons, List.length_nil]; omega
    · rw [if_neg c0, if_neg c0]; simp only [List.length_cons, List.length_nil]; omega
  · obtain ⟨-, d1, d2⟩ := b3 h0
    rw [if_pos h0] at hs
    have a2 := ex_sz hn _ d1 d2 (by omega)
    omega
theorem sz_in (ps : List Pi) : ∀ (rs : List Pg.Rl) r, r ∈ rs → Pg.ruleSz (Pg.szs ps ps.length) r ≤ Pg.total ps rs := by
  intro rs
  induction rs with
  | nil => intro r h; cases h
  | cons a l ih =>
    intro r h
    unfold Pg.total
    rw [List.map_cons, List.sum_cons]
    rcases List.mem_cons.1 h with rfl | h
    · omega
    · have := ih r h
      unfold Pg.total at this
      omega
theorem prog_len {ps : List Pi} (hn : ∀ i, i < ps.length → Pg.node ps i = true) : ∀ rs : List Pg.Rl, (∀ r ∈ rs, Pg.rule ps r = true) → Pg.total ps rs ≤ 2000 → (prog ps rs).length ≤ 60 * Pg.total ps rs + 7 * rs.length := by
  intro rs
  induction rs with
  | nil => intro _ _; simp [prog]
  | cons a l ih =>
    intro h hs
    have e : Pg.total ps (a :: l) = Pg.ruleSz (Pg.szs ps ps.length) a + Pg.total ps l := by unfold Pg.total; rw [List.map_cons, List.sum_cons]
    have b := ih (fun r hr => h r (List.mem_cons_of_mem _ hr)) (by omega)
    have c := (rule_len hn (h a List.mem_cons_self) (by omega)).1
    have e2 : prog ps (a :: l) = rule ps a ++ prog ps l := by unfold prog; rw [List.map_cons, List.flatten_cons]
    rw [e2, e, List.length_append, List.length_cons]
    omega
theorem prog_mono (ps : List Pi) (rs : List Pg.Rl) (q : Nat) : (prog ps (rs.take q)).length ≤ (prog ps rs).length := by
  have e : prog ps rs = prog ps (rs.take q) ++ prog ps (rs.drop q) := by
    unfold prog
    rw [← List.flatten_append, ← List.map_append, List.take_append_drop]
  rw [e, List.length_append]
  omega
end Sh
end PartShO
section PartTrG
open Go.RowKit

namespace Sh
/-- What is shown of node j. -/
def txt (ps : List Pi) (j : Nat) : List UInt8 := if Pg.ex (ps.getD j Pi.no).op = true then exC ps j else st ps (j + 1) j
theorem join_sep (s : List UInt8) : ∀ l : List (List UInt8), Lib.join l s = sep s l
  | [] => rfl
  | [a] => by rw [Lib.join_one]; rfl
  | a :: b :: r => by
    rw [sep, ← join_sep s (b :: r), Lib.join_cons, Lib.join_cons, Lib.joinTail, List.map_cons, List.flatten_cons, Lib.joinTail]
    simp [List.append_assoc]
theorem map_get (f : Int → List UInt8) (ks : List Int) (j : Nat) (h : j < ks.length) : (ks.map f).getD j [] = f (ks.getD j 0) := by simp [h]
end Sh
/-- The tree k shows what is shown of node j (where that is not too long). -/
def Good (X : Nat) (w : World) (ps : List Pi) (j : Nat) (k : TypeId × Value) : Prop := (Sh.txt ps j).length ≤ 1000000 → Shows X w (tv k) (Sh.txt ps j)
theorem Good.keep {X : Nat} {w w' : World} {ps : List Pi} {j : Nat} {k : TypeId × Value} (h : Good X w ps j k) (hb : But X w w') : Good X w' ps j k := fun hl => (h hl).keep hb
theorem pair_get (k : TypeId × Value) : ∃ T x, k = (T, x) := ⟨_, _, rfl⟩

theorem goodEx {X : Nat} {w : World} {ps : List Pi} (hn : ∀ i, i < ps.length → Pg.node ps i = true) (hX : X ≠ 0) (h2 : TwoS w) {i : Nat} (hi : i < ps.length) (he : Pg.ex (ps.getD i Pi.no).op = true) (kt : List (TypeId × Value))
    (hk : ∀ j, j < (ps.getD i Pi.no).kids.length → Good X w ps (Sh.kid (ps.getD i Pi.no) j) (kt.getD j tno)) : Good X w ps i (exTree (ps.getD i Pi.no).op (ps.getD i Pi.no).text kt) := by
  intro hl
  obtain ⟨o1, o16, hm, hkk⟩ := Sh.node_ex (hn i hi) he
  have ht := Sh.text_le (hn i hi)
  have hts : (ps.getD i Pi.no).text.data.toList.length = (ps.getD i Pi.no).text.size := by simp
  rw [hts] at ht
  have key : ∀ k, k < (ps.getD i Pi.no).kids.length → Sh.txt ps (Sh.kid (ps.getD i Pi.no) k) = Sh.ex ps i (Sh.kid (ps.getD i Pi.no) k) := fun k hk2 => by
    obtain ⟨-, b1, b2⟩ := hkk k hk2
    rw [Sh.txt, if_pos b2, Sh.exC, Sh.ex_fuel hn _ i (by omega) b1 b2]
  have e : Sh.txt ps i = Sh.ex ps (i + 1) i := by rw [Sh.txt, if_pos he]; rfl
  rw [e] at hl ⊢
  clear e
  rw [Sh.ex] at hl ⊢
  generalize (ps.getD i Pi.no).text = t at *
  have hop : (ps.getD i Pi.no).op = 1 ∨ (ps.getD i Pi.no).op = 2 ∨ (ps.getD i Pi.no).op = 3 ∨ (ps.getD i Pi.no).op = 4 ∨ (ps.getD i Pi.no).op = 5 ∨ (ps.getD i Pi.no).op = 6 ∨ (ps.getD i Pi.no).op = 7 ∨ (ps.getD i Pi.no).op = 8 ∨ (ps.getD i Pi.no).op = 9 ∨ (ps.getD i Pi.no).op = 10 ∨ (ps.getD i Pi.no).op = 11 ∨ (ps.getD i Pi.no).op = 12 ∨ (ps.getD i Pi.no).op = 13 ∨ (ps.getD i Pi.no).op = 14 ∨ (ps.getD i Pi.no).op = 15 ∨ (ps.getD i Pi.no).op = 16 := by omega

  rcases hop with c | c | c | c | c | c | c | c | c | c | c | c | c | c | c | c
  · rw [if_pos (by rw [c]; decide)] at hl ⊢
    rw [c]
    exact shows_num t w
  · rw [if_neg (by rw [c]; decide), if_pos c] at hl ⊢
    rw [c]
    exact shows_text t w (by omega)
  · rw [if_pos (by rw [c]; decide)] at hl ⊢
    rw [c]
    exact shows_name t w
  · rw [if_neg (by rw [c]; decide), if_neg (by rw [c]; decide), if_pos c] at hl ⊢
    have hm2 := hm
    rw [c] at hm2
    have hm3 : 1 ≤ (ps.getD i Pi.no).kids.length := hm2.1
    have hg := hk 0 (by omega)
    unfold Good at hg
    rw [key 0 (by omega)] at hg
    obtain ⟨T, x, hT⟩ := pair_get (kt.getD 0 tno)
    rw [hT] at hg
    generalize Sh.ex ps i (Sh.kid (ps.getD i Pi.no) 0) = E at *
    have hE : E.length ≤ 1000000 := by simp only [List.length_append, List.length_cons, List.length_nil] at hl; omega
    rw [c]
    have eT : exTree 4 t kt = (84, .agg #[.string t, .iface T x]) := by simp only [exTree, hT, tv]; rfl
    rw [eT]
    exact shows_cell t T x E w (hg hE) hE (by omega)
  · rw [if_neg (by rw [c]; decide), if_neg (by rw [c]; decide), if_neg (by rw [c]; decide), if_pos c] at hl ⊢
    have hm2 := hm
    rw [c] at hm2
    have hm3 : 1 ≤ (ps.getD i Pi.no).kids.length := hm2.1
    have hg := hk 0 (by omega)
    unfold Good at hg
    rw [key 0 (by omega)] at hg
    obtain ⟨T, x, hT⟩ := pair_get (kt.getD 0 tno)
    rw [hT] at hg
    generalize Sh.ex ps i (Sh.kid (ps.getD i Pi.no) 0) = E at *
    have hE : E.length ≤ 1000000 := by simp only [List.length_append, List.length_cons, List.length_nil] at hl; omega
    rw [c]
    have eT : exTree 5 t kt = (87, .agg #[.iface T x]) := by simp only [exTree, hT, tv]; rfl
    rw [eT]
    exact shows_field T x E w (hg hE) hE
  · rw [if_neg (by rw [c]; decide), if_neg (by rw [c]; decide), if_neg (by rw [c]; decide), if_neg (by rw [c]; decide), if_pos c] at hl ⊢
    rw [c]
    exact shows_fields w
  · rw [if_neg (by rw [c]; decide), if_neg (by rw [c]; decide), if_neg (by rw [c]; decide), if_neg (by rw [c]; decide), if_neg (by rw [c]; decide), if_pos c] at hl ⊢
    rw [c]
    exact shows_line w
  · rw [if_neg (by rw [c]; decide), if_neg (by rw [c]; decide), if_neg (by rw [c]; decide), if_neg (by rw [c]; decide), if_neg (by rw [c]; decide), if_neg (by rw [c]; decide), if_pos c] at hl ⊢
    have hm2 := hm
    rw [c] at hm2
    have hm3 : 1 ≤ (ps.getD i Pi.no).kids.length := hm2.1
    have hg := hk 0 (by omega)
    unfold Good at hg
    rw [key 0 (by omega)] at hg
    obtain ⟨T, x, hT⟩ := pair_get (kt.getD 0 tno)
    rw [hT] at hg
    generalize Sh.ex ps i (Sh.kid (ps.getD i Pi.no) 0) = E at *
    have hE : E.length ≤ 1000000 := by simp only [List.length_append, List.length_cons, List.length_nil] at hl; omega
    rw [c]
    have eT : exTree 8 t kt = (91, .agg #[.iface T x]) := by simp only [exTree, hT, tv]; rfl
    rw [eT]
    exact shows_long T x E w (hg hE) hE
  · rw [if_neg (by rw [c]; decide), if_neg (by rw [c]; decide), if_neg (by rw [c]; decide), if_neg (by rw [c]; decide), if_neg (by rw [c]; decide), if_neg (by rw [c]; decide), if_neg (by rw [c]; decide), if_neg (by rw [c]; decide)] at hl ⊢
    have hm2 := hm
    rw [c] at hm2
    have hm3 : 2 ≤ (ps.getD i Pi.no).kids.length := hm2.1
    have hg := hk 0 (by omega)
    have hg1 := hk 1 (by omega)
    unfold Good at hg hg1
    rw [key 0 (by omega)] at hg
    rw [key 1 (by omega)] at hg1
    obtain ⟨T0, x0, hT0⟩ := pair_get (kt.getD 0 tno)
    obtain ⟨T1, x1, hT1⟩ := pair_get (kt.getD 1 tno)
    rw [hT0] at hg
    rw [hT1] at hg1
    generalize Sh.ex ps i (Sh.kid (ps.getD i Pi.no) 0) = E at *
    generalize Sh.ex ps i (Sh.kid (ps.getD i Pi.no) 1) = D at *
    have hE : E.length ≤ 1000000 := by simp only [List.length_append, List.length_cons, List.length_nil] at hl; omega
    have hD : D.length ≤ 1000000 := by simp only [List.length_append, List.length_cons, List.length_nil] at hl; omega
    rw [c]
    have eT : exTree 9 t kt = (93, .agg #[.int .i64 9, .iface T0 x0, .iface T1 x1]) := by simp only [exTree, hT0, hT1, tv]; rfl
    rw [eT]
    exact shows_two9 T0 T1 x0 x1 E D w h2 hX (hg hE) (hg1 hD) hE hD
  · rw [if_neg (by rw [c]; decide), if_neg (by rw [c]; decide), if_neg (by rw [c]; decide), if_neg (by rw [c]; decide), if_neg (by rw [c]; decide), if_neg (by rw [c]; decide), if_neg (by rw [c]; decide), if_neg (by rw [c]; decide)] at hl ⊢
    have hm2 := hm
    rw [c] at hm2
    have hm3 : 2 ≤ (ps.getD i Pi.no).kids.length := hm2.1
    have hg := hk 0 (by omega)
    have hg1 := hk 1 (by omega)
    unfold Good at hg hg1
    rw [key 0 (by omega)] at hg
    rw [key 1 (by omega)] at hg1
    obtain ⟨T0, x0, hT0⟩ := pair_get (kt.getD 0 tno)
    obtain ⟨T1, x1, hT1⟩ := pair_get (kt.getD 1 tno)
    rw [hT0] at hg
    rw [hT1] at hg1
    generalize Sh.ex ps i (Sh.kid (ps.getD i Pi.no) 0) = E at *
    generalize Sh.ex ps i (Sh.kid (ps.getD i Pi.no) 1) = D at *
    have hE : E.length ≤ 1000000 := by simp only [List.length_append, List.length_cons, List.length_nil] at hl; omega
    have hD : D.length ≤ 1000000 := by simp only [List.length_append, List.length_cons, List.length_nil] at hl; omega
    rw [c]
    have eT : exTree 10 t kt = (93, .agg #[.int .i64 10, .iface T0 x0, .iface T1 x1]) := by simp only [exTree, hT0, hT1, tv]; rfl
    rw [eT]
    exact shows_two10 T0 T1 x0 x1 E D w h2 hX (hg hE) (hg1 hD) hE hD
  · rw [if_neg (by rw [c]; decide), if_neg (by rw [c]; decide), if_neg (by rw [c]; decide), if_neg (by rw [c]; decide), if_neg (by rw [c]; decide), if_neg (by rw [c]; decide), if_neg (by rw [c]; decide), if_neg (by rw [c]; decide)] at hl ⊢
    have hm2 := hm
    rw [c] at hm2
    have hm3 : 2 ≤ (ps.getD i Pi.no).kids.length := hm2.1
    have hg := hk 0 (by omega)
    have hg1 := hk 1 (by omega)
    unfold Good at hg hg1
    rw [key 0 (by omega)] at hg
    rw [key 1 (by omega)] at hg1
    obtain ⟨T0, x0, hT0⟩ := pair_get (kt.getD 0 tno)
    obtain ⟨T1, x1, hT1⟩ := pair_get (kt.getD 1 tno)
    rw [hT0] at hg
    rw [hT1] at hg1
    generalize Sh.ex ps i (Sh.kid (ps.getD i Pi.no) 0) = E at *
    generalize Sh.ex ps i (Sh.kid (ps.getD i Pi.no) 1) = D at *
    have hE : E.length ≤ 1000000 := by simp only [List.length_append, List.length_cons, List.length_nil] at hl; omega
    have hD : D.length ≤ 1000000 := by simp only [List.length_append, List.length_cons, List.length_nil] at hl; omega
    rw [c]
    have eT : exTree 11 t kt = (93, .agg #[.int .i64 11, .iface T0 x0, .iface T1 x1]) := by simp only [exTree, hT0, hT1, tv]; rfl
    rw [eT]
    exact shows_two11 T0 T1 x0 x1 E D w h2 hX (hg hE) (hg1 hD) hE hD
  · rw [if_neg (by rw [c]; decide), if_neg (by rw [c]; decide), if_neg (by rw [c]; decide), if_neg (by rw [c]; decide), if_neg (by rw [c]; decide), if_neg (by rw [c]; decide), if_neg (by rw [c]; decide), if_neg (by rw [c]; decide)] at hl ⊢
    have hm2 := hm
    rw [c] at hm2
    have hm3 : 2 ≤ (ps.getD i Pi.no).kids.length := hm2.1
    have hg := hk 0 (by omega)
    have hg1 := hk 1 (by omega)
    unfold Good at hg hg1
    rw [key 0 (by omega)] at hg
    rw [key 1 (by omega)] at hg1
    obtain ⟨T0, x0, hT0⟩ := pair_get (kt.getD 0 tno)
    obtain ⟨T1, x1, hT1⟩ := pair_get (kt.getD 1 tno)
    rw [hT0] at hg
    rw [hT1] at hg1
    generalize Sh.ex ps i (Sh.kid (ps.getD i Pi.no) 0) = E at *
    generalize Sh.ex ps i (Sh.kid (ps.getD i Pi.no) 1) = D at *
    have hE : E.length ≤ 1000000 := by simp only [List.length_append, List.length_cons, List.length_nil] at hl; omega
    have hD : D.length ≤ 1000000 := by simp only [List.length_append, List.length_cons, List.length_nil] at hl; omega
    rw [c]
    have eT : exTree 12 t kt = (93, .agg #[.int .i64 12, .iface T0 x0, .iface T1 x1]) := by simp only [exTree, hT0, hT1, tv]; rfl
    rw [eT]
    exact shows_two12 T0 T1 x0 x1 E D w h2 hX (hg hE) (hg1 hD) hE hD
  · rw [if_neg (by rw [c]; decide), if_neg (by rw [c]; decide), if_neg (by rw [c]; decide), if_neg (by rw [c]; decide), if_neg (by rw [c]; decide), if_neg (by rw [c]; decide), if_neg (by rw [c]; decide), if_neg (by rw [c]; decide)] at hl ⊢
    have hm2 := hm
    rw [c] at hm2
    have hm3 : 2 ≤ (ps.getD i Pi.no).kids.length := hm2.1
    have hg := hk 0 (by omega)
    have hg1 := hk 1 (by omega)
    unfold Good at hg hg1
    rw [key 0 (by omega)] at hg
    rw [key 1 (by omega)] at hg1
    obtain ⟨T0, x0, hT0⟩ := pair_get (kt.getD 0 tno)
    obtain ⟨T1, x1, hT1⟩ := pair_get (kt.getD 1 tno)
    rw [hT0] at hg
    rw [hT1] at hg1
    generalize Sh.ex ps i (Sh.kid (ps.getD i Pi.no) 0) = E at *
    generalize Sh.ex ps i (Sh.kid (ps.getD i Pi.no) 1) = D at *
    have hE : E.length ≤ 1000000 := by simp only [List.length_append, List.length_cons, List.length_nil] at hl; omega
    have hD : D.length ≤ 1000000 := by simp only [List.length_append, List.length_cons, List.length_nil] at hl; omega
    rw [c]
    have eT : exTree 13 t kt = (93, .agg #[.int .i64 13, .iface T0 x0, .iface T1 x1]) := by simp only [exTree, hT0, hT1, tv]; rfl
    rw [eT]
    exact shows_two13 T0 T1 x0 x1 E D w h2 hX (hg hE) (hg1 hD) hE hD
  · rw [if_neg (by rw [c]; decide), if_neg (by rw [c]; decide), if_neg (by rw [c]; decide), if_neg (by rw [c]; decide), if_neg (by rw [c]; decide), if_neg (by rw [c]; decide), if_neg (by rw [c]; decide), if_neg (by rw [c]; decide)] at hl ⊢
    have hm2 := hm
    rw [c] at hm2
    have hm3 : 2 ≤ (ps.getD i Pi.no).kids.length := hm2.1
    have hg := hk 0 (by omega)
    have hg1 := hk 1 (by omega)
    unfold Good at hg hg1
    rw [key 0 (by omega)] at hg
    rw [key 1 (by omega)] at hg1
    obtain ⟨T0, x0, hT0⟩ := pair_get (kt.getD 0 tno)
    obtain ⟨T1, x1, hT1⟩ := pair_get (kt.getD 1 tno)
    rw [hT0] at hg
    rw [hT1] at hg1
    generalize Sh.ex ps i (Sh.kid (ps.getD i Pi.no) 0) = E at *
    generalize Sh.ex ps i (Sh.kid (ps.getD i Pi.no) 1) = D at *
    have hE : E.length ≤ 1000000 := by simp only [List.length_append, List.length_cons, List.length_nil] at hl; omega
    have hD : D.length ≤ 1000000 := by simp only [List.length_append, List.length_cons, List.length_nil] at hl; omega
    rw [c]
    have eT : exTree 14 t kt = (93, .agg #[.int .i64 14, .iface T0 x0, .iface T1 x1]) := by simp only [exTree, hT0, hT1, tv]; rfl
    rw [eT]
    exact shows_two14 T0 T1 x0 x1 E D w h2 hX (hg hE) (hg1 hD) hE hD
  · rw [if_neg (by rw [c]; decide), if_neg (by rw [c]; decide), if_neg (by rw [c]; decide), if_neg (by rw [c]; decide), if_neg (by rw [c]; decide), if_neg (by rw [c]; decide), if_neg (by rw [c]; decide), if_neg (by rw [c]; decide)] at hl ⊢
    have hm2 := hm
    rw [c] at hm2
    have hm3 : 2 ≤ (ps.getD i Pi.no).kids.length := hm2.1
    have hg := hk 0 (by omega)
    have hg1 := hk 1 (by omega)
    unfold Good at hg hg1
    rw [key 0 (by omega)] at hg
    rw [key 1 (by omega)] at hg1
    obtain ⟨T0, x0, hT0⟩ := pair_get (kt.getD 0 tno)
    obtain ⟨T1, x1, hT1⟩ := pair_get (kt.getD 1 tno)
    rw [hT0] at hg
    rw [hT1] at hg1
    generalize Sh.ex ps i (Sh.kid (ps.getD i Pi.no) 0) = E at *
    generalize Sh.ex ps i (Sh.kid (ps.getD i Pi.no) 1) = D at *
    have hE : E.length ≤ 1000000 := by simp only [List.length_append, List.length_cons, List.length_nil] at hl; omega
    have hD : D.length ≤ 1000000 := by simp only [List.length_append, List.length_cons, List.length_nil] at hl; omega
    rw [c]
    have eT : exTree 15 t kt = (93, .agg #[.int .i64 15, .iface T0 x0, .iface T1 x1]) := by simp only [exTree, hT0, hT1, tv]; rfl
    rw [eT]
    exact shows_two15 T0 T1 x0 x1 E D w h2 hX (hg hE) (hg1 hD) hE hD
  · rw [if_neg (by rw [c]; decide), if_neg (by rw [c]; decide), if_neg (by rw [c]; decide), if_neg (by rw [c]; decide), if_neg (by rw [c]; decide), if_neg (by rw [c]; decide), if_neg (by rw [c]; decide), if_pos c] at hl ⊢
    have hm2 := hm
    rw [c] at hm2
    have hm3 : 1 ≤ (ps.getD i Pi.no).kids.length := hm2.1
    have hg := hk 0 (by omega)
    unfold Good at hg
    rw [key 0 (by omega)] at hg
    obtain ⟨T, x, hT⟩ := pair_get (kt.getD 0 tno)
    rw [hT] at hg
    generalize Sh.ex ps i (Sh.kid (ps.getD i Pi.no) 0) = E at *
    have hE : E.length ≤ 1000000 := by simp only [List.length_append, List.length_cons, List.length_nil] at hl; omega
    rw [c]
    have eT : exTree 16 t kt = (96, .agg #[.iface T x, .string t]) := by simp only [exTree, hT, tv]; rfl
    rw [eT]
    exact shows_has t T x E w (hg hE) hE (by omega)


theorem goodSt {X : Nat} {w : World} {ps : List Pi} (hn : ∀ i, i < ps.length → Pg.node ps i = true) {i : Nat} (hi : i < ps.length) (he : Pg.ex (ps.getD i Pi.no).op = false) (v : Value) (kt : List (TypeId × Value)) (hv : TreesAt X w v kt) (hkl : kt.length = (ps.getD i Pi.no).kids.length)
    (hk : ∀ j, j < (ps.getD i Pi.no).kids.length → Good X w ps (Sh.kid (ps.getD i Pi.no) j) (kt.getD j tno)) : Good X w ps i (stTree (ps.getD i Pi.no).op (ps.getD i Pi.no).text v kt) := by
  intro hl
  obtain ⟨o1, o25, hm, hkk⟩ := Sh.node_st (hn i hi) he
  have ht := Sh.text_le (hn i hi)
  have hts : (ps.getD i Pi.no).text.data.toList.length = (ps.getD i Pi.no).text.size := by simp
  rw [hts] at ht
  have keyE : ∀ k, k < (ps.getD i Pi.no).kids.length → Pg.ex (ps.getD (Sh.kid (ps.getD i Pi.no) k) Pi.no).op = true → Sh.txt ps (Sh.kid (ps.getD i Pi.no) k) = Sh.exC ps (Sh.kid (ps.getD i Pi.no) k) := fun k hk2 hx => by
    rw [Sh.txt, if_pos hx]
  have keyS : ∀ k, k < (ps.getD i Pi.no).kids.length → Pg.ex (ps.getD (Sh.kid (ps.getD i Pi.no) k) Pi.no).op = false → Sh.txt ps (Sh.kid (ps.getD i Pi.no) k) = Sh.st ps i (Sh.kid (ps.getD i Pi.no) k) := fun k hk2 hx => by
    obtain ⟨-, b1, -⟩ := hkk k hk2
    rw [Sh.txt, if_neg (by rw [hx]; decide), Sh.st_fuel hn _ i (by omega) b1 hx]
  have e : Sh.txt ps i = Sh.st ps (i + 1) i := by rw [Sh.txt, if_neg (by rw [he]; decide)]
  rw [e] at hl ⊢
  clear e
  rw [Sh.st] at hl ⊢
  generalize (ps.getD i Pi.no).text = t at *
  have hop : (ps.getD i Pi.no).op = 17 ∨ (ps.getD i Pi.no).op = 18 ∨ (ps.getD i Pi.no).op = 19 ∨ (ps.getD i Pi.no).op = 20 ∨ (ps.getD i Pi.no).op = 21 ∨ (ps.getD i Pi.no).op = 22 ∨ (ps.getD i Pi.no).op = 23 ∨ (ps.getD i Pi.no).op = 24 ∨ (ps.getD i Pi.no).op = 25 := by omega

  rcases hop with c | c | c | c | c | c | c | c | c
  · rw [if_pos c] at hl ⊢
    have hm2 := hm
    rw [c] at hm2
    have hm3 : 1 ≤ (ps.getD i Pi.no).kids.length ∧ (ps.getD i Pi.no).kids.length ≤ 4 := hm2
    rw [c]
    have eT : stTree 17 t v kt = (108, .agg #[v]) := rfl
    rw [eT]
    rw [← Sh.join_sep] at hl ⊢
    have hj : (Lib.join ((ps.getD i Pi.no).kids.map fun k => Sh.exC ps k.toNat) [44, 32]).length ≤ 1000000 := by simp only [List.length_append, List.length_cons, List.length_nil] at hl; omega
    refine shows_print v kt _ w hv (by rw [List.length_map, hkl]) (fun j hj2 => ?_) (by omega) (by omega) hj
    rw [hkl] at hj2
    have hx := (hkk j hj2).2.2
    rw [c] at hx
    have hg := hk j hj2
    unfold Good at hg
    rw [keyE j hj2 (hx.trans (by simp))] at hg
    rw [Sh.map_get _ _ _ hj2]
    refine hg ?_
    rw [Sh.join_sep] at hj
    exact Nat.le_trans (Sh.el_le [44, 32] (fun k => Sh.exC ps k.toNat) _ j hj2) hj
  · rw [if_neg (by rw [c]; decide), if_pos c] at hl ⊢
    have hm2 := hm
    rw [c] at hm2
    have hm3 : 1 ≤ (ps.getD i Pi.no).kids.length := hm2.1
    have hx := (hkk 0 (by omega)).2.2
    rw [c] at hx
    have hg := hk 0 (by omega)
    unfold Good at hg
    rw [keyE 0 (by omega) (hx.trans (by decide))] at hg
    obtain ⟨T, x, hT⟩ := pair_get (kt.getD 0 tno)
    rw [hT] at hg
    generalize Sh.exC ps (Sh.kid (ps.getD i Pi.no) 0) = E at *
    have hE : E.length ≤ 1000000 := by simp only [List.length_append, List.length_cons, List.length_nil] at hl; omega
    rw [c]
    have eT : stTree 18 t v kt = (110, .agg #[.int .i64 18, .string t, .iface T x]) := by simp only [stTree, hT, tv]; rfl
    rw [eT]
    exact shows_set18 t T x E w (hg hE) hE (by omega)
  · rw [if_neg (by rw [c]; decide), if_neg (by rw [c]; decide), if_pos c] at hl ⊢
    have hm2 := hm
    rw [c] at hm2
    have hm3 : 1 ≤ (ps.getD i Pi.no).kids.length := hm2.1
    have hx := (hkk 0 (by omega)).2.2
    rw [c] at hx
    have hg := hk 0 (by omega)
    unfold Good at hg
    rw [keyE 0 (by omega) (hx.trans (by decide))] at hg
    obtain ⟨T, x, hT⟩ := pair_get (kt.getD 0 tno)
    rw [hT] at hg
    generalize Sh.exC ps (Sh.kid (ps.getD i Pi.no) 0) = E at *
    have hE : E.length ≤ 1000000 := by simp only [List.length_append, List.length_cons, List.length_nil] at hl; omega
    rw [c]
    have eT : stTree 19 t v kt = (110, .agg #[.int .i64 19, .string t, .iface T x]) := by simp only [stTree, hT, tv]; rfl
    rw [eT]
    exact shows_set19 t T x E w (hg hE) hE (by omega)
  · rw [if_neg (by rw [c]; decide), if_neg (by rw [c]; decide), if_neg (by rw [c]; decide), if_pos c] at hl ⊢
    have hm2 := hm
    rw [c] at hm2
    have hm3 : 2 ≤ (ps.getD i Pi.no).kids.length := hm2.1
    have hx := (hkk 0 (by omega)).2.2
    have hx1 := (hkk 1 (by omega)).2.2
    rw [c] at hx hx1
    have hg := hk 0 (by omega)
    have hg1 := hk 1 (by omega)
    unfold Good at hg hg1
    rw [keyE 0 (by omega) (hx.trans (by decide))] at hg
    rw [keyE 1 (by omega) (hx1.trans (by decide))] at hg1
    obtain ⟨T0, x0, hT0⟩ := pair_get (kt.getD 0 tno)
    obtain ⟨T1, x1, hT1⟩ := pair_get (kt.getD 1 tno)
    rw [hT0] at hg
    rw [hT1] at hg1
    generalize Sh.exC ps (Sh.kid (ps.getD i Pi.no) 0) = E at *
    generalize Sh.exC ps (Sh.kid (ps.getD i Pi.no) 1) = D at *
    have hE : E.length ≤ 1000000 := by simp only [List.length_append, List.length_cons, List.length_nil] at hl; omega
    have hD : D.length ≤ 1000000 := by simp only [List.length_append, List.length_cons, List.length_nil] at hl; omega
    rw [c]
    have eT : stTree 20 t v kt = (112, .agg #[.int .i64 20, .string t, .iface T0 x0, .iface T1 x1]) := by simp only [stTree, hT0, hT1, tv]; rfl
    rw [eT]
    have := shows_setCell20 t T0 T1 x0 x1 E D w (hg hE) (hg1 hD) hE hD (by omega)
    simpa only [List.append_assoc, List.cons_append, List.nil_append, tv] using this
  · rw [if_neg (by rw [c]; decide), if_neg (by rw [c]; decide), if_neg (by rw [c]; decide), if_neg (by rw [c]; decide), if_pos c] at hl ⊢
    have hm2 := hm
    rw [c] at hm2
    have hm3 : 2 ≤ (ps.getD i Pi.no).kids.length := hm2.1
    have hx := (hkk 0 (by omega)).2.2
    have hx1 := (hkk 1 (by omega)).2.2
    rw [c] at hx hx1
    have hg := hk 0 (by omega)
    have hg1 := hk 1 (by omega)
    unfold Good at hg hg1
    rw [keyE 0 (by omega) (hx.trans (by decide))] at hg
    rw [keyE 1 (by omega) (hx1.trans (by decide))] at hg1
    obtain ⟨T0, x0, hT0⟩ := pair_get (kt.getD 0 tno)
    obtain ⟨T1, x1, hT1⟩ := pair_get (kt.getD 1 tno)
    rw [hT0] at hg
    rw [hT1] at hg1
    generalize Sh.exC ps (Sh.kid (ps.getD i Pi.no) 0) = E at *
    generalize Sh.exC ps (Sh.kid (ps.getD i Pi.no) 1) = D at *
    have hE : E.length ≤ 1000000 := by simp only [List.length_append, List.length_cons, List.length_nil] at hl; omega
    have hD : D.length ≤ 1000000 := by simp only [List.length_append, List.length_cons, List.length_nil] at hl; omega
    rw [c]
    have eT : stTree 21 t v kt = (112, .agg #[.int .i64 21, .string t, .iface T0 x0, .iface T1 x1]) := by simp only [stTree, hT0, hT1, tv]; rfl
    rw [eT]
    have := shows_setCell21 t T0 T1 x0 x1 E D w (hg hE) (hg1 hD) hE hD (by omega)
    simpa only [List.append_assoc, List.cons_append, List.nil_append, tv] using this
  · rw [if_neg (by rw [c]; decide), if_neg (by rw [c]; decide), if_neg (by rw [c]; decide), if_neg (by rw [c]; decide), if_neg (by rw [c]; decide), if_pos c] at hl ⊢
    have hm2 := hm
    rw [c] at hm2
    have hm3 : 2 ≤ (ps.getD i Pi.no).kids.length ∧ (ps.getD i Pi.no).kids.length ≤ 3 := hm2
    have hx := (hkk 0 (by omega)).2.2
    have hx1 := (hkk 1 (by omega)).2.2
    rw [c] at hx hx1
    have hg := hk 0 (by omega)
    have hg1 := hk 1 (by omega)
    unfold Good at hg hg1
    rw [keyE 0 (by omega) (hx.trans (by decide))] at hg
    rw [keyS 1 (by omega) (hx1.trans (by decide))] at hg1
    obtain ⟨T0, x0, hT0⟩ := pair_get (kt.getD 0 tno)
    obtain ⟨T1, x1, hT1⟩ := pair_get (kt.getD 1 tno)
    rw [hT0] at hg
    rw [hT1] at hg1
    generalize Sh.exC ps (Sh.kid (ps.getD i Pi.no) 0) = E at *
    generalize Sh.st ps i (Sh.kid (ps.getD i Pi.no) 1) = D at *
    have hE : E.length ≤ 1000000 := by simp only [List.length_append, List.length_cons, List.length_nil] at hl; omega
    have hD : D.length ≤ 1000000 := by simp only [List.length_append, List.length_cons, List.length_nil] at hl; omega
    rw [c]
    by_cases h3 : 2 < (ps.getD i Pi.no).kids.length
    · rw [if_pos h3] at hl ⊢
      have hx2 := (hkk 2 (by omega)).2.2
      rw [c] at hx2
      have hg2 := hk 2 (by omega)
      unfold Good at hg2
      rw [keyS 2 (by omega) (hx2.trans (by decide))] at hg2
      obtain ⟨T2, x2, hT2⟩ := pair_get (kt.getD 2 tno)
      rw [hT2] at hg2
      generalize Sh.st ps i (Sh.kid (ps.getD i Pi.no) 2) = F at *
      have hF : F.length ≤ 1000000 := by simp only [List.length_append, List.length_cons, List.length_nil] at hl; omega
      have eT : stTree 22 t v kt = (114, .agg #[.iface T0 x0, .iface T1 x1, .iface T2 x2]) := by
        simp only [stTree, hT0, hT1, hT2, tv, if_pos (show 2 < kt.length by omega)]; rfl
      rw [eT]
      exact shows_if3 T0 T1 T2 x0 x1 x2 E D F w (hg hE) (hg1 hD) (hg2 hF) hE hD hF
    · rw [if_neg h3] at hl ⊢
      have eT : stTree 22 t v kt = (114, .agg #[.iface T0 x0, .iface T1 x1, .nilIface]) := by
        simp only [stTree, hT0, hT1, tv, if_neg (show ¬ 2 < kt.length by omega)]; rfl
      rw [eT, List.append_nil]
      exact shows_if2 T0 T1 x0 x1 E D w (hg hE) (hg1 hD) hE hD
  · rw [if_neg (by rw [c]; decide), if_neg (by rw [c]; decide), if_neg (by rw [c]; decide), if_neg (by rw [c]; decide), if_neg (by rw [c]; decide), if_neg (by rw [c]; decide), if_pos c] at hl ⊢
    rw [c]
    exact shows_next w
  · rw [if_neg (by rw [c]; decide), if_neg (by rw [c]; decide), if_neg (by rw [c]; decide), if_neg (by rw [c]; decide), if_neg (by rw [c]; decide), if_neg (by rw [c]; decide), if_neg (by rw [c]; decide), if_neg (by rw [c]; decide)] at hl ⊢
    have hm2 := hm
    rw [c] at hm2
    have hm3 : (ps.getD i Pi.no).kids.length ≤ 20 := hm2.2
    rw [c]
    have eT : stTree 24 t v kt = (116, .agg #[v]) := rfl
    rw [eT]
    by_cases h0 : 0 < (ps.getD i Pi.no).kids.length
    · rw [if_pos h0] at hl ⊢
      rw [← Sh.join_sep] at hl ⊢
      have hj : (Lib.join ((ps.getD i Pi.no).kids.map fun k => Sh.st ps i k.toNat) [59, 32]).length ≤ 1000000 := by simp only [List.length_append, List.length_cons, List.length_nil] at hl; omega
      have := shows_block (X := X) v kt ((ps.getD i Pi.no).kids.map fun k => Sh.st ps i k.toNat) w hv (by rw [List.length_map, hkl]) (fun j hj2 => by
        rw [hkl] at hj2
        have hx := (hkk j hj2).2.2
        rw [c] at hx
        have hg := hk j hj2
        unfold Good at hg
        rw [keyS j hj2 (hx.trans (by simp))] at hg
        rw [Sh.map_get _ _ _ hj2]
        refine hg ?_
        rw [Sh.join_sep] at hj
        exact Nat.le_trans (Sh.el_le [59, 32] (fun k => Sh.st ps i k.toNat) _ j hj2) hj) (by omega) (by omega) hj
      simpa only [List.append_assoc, List.cons_append, List.nil_append, tv] using this
    · rw [if_neg h0] at hl ⊢
      have hz : (ps.getD i Pi.no).kids = [] := List.eq_nil_of_length_eq_zero (by omega)
      rw [hz]
      obtain ⟨a, cc, rfl, -⟩ := hv
      rw [show kt.length = 0 by omega]
      exact shows_block0 a cc w
  · rw [if_neg (by rw [c]; decide), if_neg (by rw [c]; decide), if_neg (by rw [c]; decide), if_neg (by rw [c]; decide), if_neg (by rw [c]; decide), if_neg (by rw [c]; decide), if_neg (by rw [c]; decide), if_pos c] at hl ⊢
    rw [c]
    exact shows_dump t w (by omega)
end PartTrG
end Go.Proofs.YtknojhmnadmilaaGreatDoor
