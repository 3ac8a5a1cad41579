/- What a store answers: VarOf and CellOf of the program. -/
import Derived.Test.YtjbodcakhnkggaqFbA
import Derived.Test.YtjbodcakhnkggaqVCut
import Derived.Test.YtjbodcakhnkggaqFx
namespace Go.Proofs.Ytjbodcakhnkggaq
open Go.RowKit

theorem St.first_mem {α : Type} (p : α → Bool) (no : α) : ∀ xs : List α, St.first p no xs = no ∨ St.first p no xs ∈ xs
  | [] => .inl rfl
  | x :: r => by
    unfold St.first
    split
    · exact .inr (List.mem_cons_self ..)
    · rcases St.first_mem p no r with h | h
      · exact .inl h
      · exact .inr (List.mem_cons_of_mem _ h)
theorem St.var_small (vs : List Vr) (name : ByteArray) (h : VrSmall vs vs.length) : (St.var vs name).size ≤ 1048576 := by
  unfold St.var
  rcases St.first_mem (fun x : Vr => x.name.toList == name.toList) Vr.no vs with h1 | h1
  · rw [h1]; decide
  · obtain ⟨i, hi, e⟩ := List.getElem_of_mem h1
    have := (h i hi).2
    rw [show vs.getD i Vr.no = vs[i] by simp [hi], e] at this
    exact this
theorem St.cell_small (cs : List Cl) (name key : ByteArray) (h : ClSmall cs cs.length) : (St.cell cs name key).size ≤ 1048576 := by
  unfold St.cell
  rcases St.first_mem (fun x : Cl => (x.name.toList == name.toList) && (x.key.toList == key.toList)) Cl.no cs with h1 | h1
  · rw [h1]; decide
  · obtain ⟨i, hi, e⟩ := List.getElem_of_mem h1
    have := (h i hi).2.2
    rw [show cs.getD i Cl.no = cs[i] by simp [hi], e] at this
    exact this

set_option maxRecDepth 100000 in
set_option maxHeartbeats 1600000 in
theorem imVarOf (v rv : Value) (o name : ByteArray) (vs : List Vr) (w : World) (h : VrAt w v vs) (hr : ∃ a b c, rv = .slice a b c) (hl : vs.length ≤ 1048576) (hsm : VrSmall vs vs.length) :
    Calls Try.prog 25 #[.agg #[v, rv, .string o], .string name] w fun e w' => e = .returned (.string (St.var vs name)) ∧ Below w.heap.size w w' := by
  have C1 : Hid (∀ W, Below w.heap.size w W → _) := fun W hb => firstVar v name vs W (h.keep hb) hl
  obtain ⟨x, hx⟩ : ∃ x, x = St.first (fun x : Vr => x.name.toList == name.toList) Vr.no vs := ⟨_, rfl⟩
  have hv : St.var vs name = x.val := by rw [hx]; rfl
  have C2 : Hid (∀ W, Calls Try.prog 64 #[.string x.val] W fun e w' => e = .returned (.string x.val) ∧ Below W.heap.size W w') := fun W => clone_any _ W (by have := St.var_small vs name hsm; rw [hv] at this; omega)
  rw [hv]
  rw [← hx] at C1
  clear hx hv
  obtain ⟨ad, c, rfl, -⟩ := h
  obtain ⟨ra, rb, rc, rfl⟩ := hr
  obtain ⟨x0, x1⟩ := x
  simp only at C1 C2 ⊢
  have HB : Hid (Below w.heap.size w (w.alloc (.cells #[.slice ad vs.length c, .slice ra rb rc, .string o] 49))) := (Below.refl _ _).alloc (Nat.le_refl _) _
  have F1 := fieldVal x0 x1
  go_enter Try.func25, Try.ntmps25
  go_wp2_with fail
  refine (C1.out _ HB.out).mono ?_
  rintro e w1 ⟨rfl, hb1⟩
  have HB1 : Hid (Below w.heap.size w w1) := HB.out.trans (hb1.mono HB.out.size)
  clear hb1 C1
  go_wp2_with fail
  refine (C2.out _).mono ?_
  rintro e w2 ⟨rfl, hb2⟩
  have HB2 : Hid (Below w.heap.size w w2) := HB1.out.trans (hb2.mono HB1.out.size)
  clear hb2 C2
  go_wp2
  go_ret
  exact ⟨rfl, HB2.out⟩

#print axioms imVarOf
end Go.Proofs.Ytjbodcakhnkggaq
