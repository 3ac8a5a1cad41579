/- What a store answers: VarOf and CellOf of the program. -/
import Derived.Test.YtjbodcakhnkggarFbA
import Derived.Test.YtjbodcakhnkggarVCut
import Derived.Test.YtjbodcakhnkggarFx
namespace Go.Proofs.Ytjbodcakhnkggar
open Go.RowKit

theorem St.first_mem {α : Type} (p : α → Bool) (no : α) : ∀ xs : List α, St.first p no xs = no ∨ St.first p no xs ∈ xs
  | [] => .inl rfl
  | x :: r => by
    unfold St.first
    split
    · exact .inr (List.mem_cons_self ..)
    · rcases St.first_mem p no r with h | h
      · exact .inl h
      · exact .inr (List.mem_cons_of_mem _ h)
theorem St.var_small (vs : List Vr) (name : ByteArray) (h : VrSmall vs vs.length) : (St.var vs name).size ≤ 1048576 := by
  unfold St.var
  rcases St.first_mem (fun x : Vr => x.name.toList == name.toList) Vr.no vs with h1 | h1
  · rw [h1]; decide
  · obtain ⟨i, hi, e⟩ := List.getElem_of_mem h1
    have := (h i hi).2
    rw [show vs.getD i Vr.no = vs[i] by simp [hi], e] at this
    exact this
theorem St.cell_small (cs : List Cl) (name key : ByteArray) (h : ClSmall cs cs.length) : (St.cell cs name key).size ≤ 1048576 := by
  unfold St.cell
  rcases St.first_mem (fun x : Cl => (x.name.toList == name.toList) && (x.key.toList == key.toList)) Cl.no cs with h1 | h1
  · rw [h1]; decide
  · obtain ⟨i, hi, e⟩ := List.getElem_of_mem h1
    have := (h i hi).2.2
    rw [show cs.getD i Cl.no = cs[i] by simp [hi], e] at this
    exact this

set_option maxRecDepth 100000 in
set_option maxHeartbeats 1600000 in
theorem imCellOf (rv v : Value) (o name key : ByteArray) (vs : List Cl) (w : World) (h : ClAt w v vs) (hr : ∃ a b c, rv = .slice a b c) (hl : vs.length ≤ 1048576) (hsm : ClSmall vs vs.length) (hks : key.size ≤ 2097152) :
    Calls Try.prog 10 #[.agg #[rv, v, .string o], .string name, .string key] w fun e w' => e = .returned (.string (St.cell vs name ⟨(Pv.cut key.data.toList).toArray⟩)) ∧ Below w.heap.size w w' := by
  have C0 : Hid (∀ W, Calls Try.prog 27 #[.string key] W fun e w' => e = .returned (.string ⟨(Pv.cut key.data.toList).toArray⟩) ∧ Below W.heap.size W w') := fun W => implCut_any key W hks
  obtain ⟨K, hK⟩ : ∃ K : ByteArray, K = ⟨(Pv.cut key.data.toList).toArray⟩ := ⟨_, rfl⟩
  rw [← hK] at C0 ⊢
  clear hK
  have C1 : Hid (∀ W, Below w.heap.size w W → _) := fun W hb => firstCell v name K vs W (h.keep hb) hl
  obtain ⟨x, hx⟩ : ∃ x, x = St.first (fun x : Cl => (x.name.toList == name.toList) && (x.key.toList == K.toList)) Cl.no vs := ⟨_, rfl⟩
  have hv : St.cell vs name K = x.val := by rw [hx]; rfl
  have C2 : Hid (∀ W, Calls Try.prog 25 #[.string x.val] W fun e w' => e = .returned (.string x.val) ∧ Below W.heap.size W w') := fun W => clone_any _ W (by have := St.cell_small vs name K hsm; rw [hv] at this; omega)
  rw [hv]
  rw [← hx] at C1
  clear hx hv
  obtain ⟨ad, c, rfl, -⟩ := h
  obtain ⟨ra, rb, rc, rfl⟩ := hr
  obtain ⟨x0, x1, x2⟩ := x
  simp only at C1 C2 ⊢
  have HB : Hid (Below w.heap.size w (w.alloc (.cells #[.slice ra rb rc, .slice ad vs.length c, .string o] 31))) := (Below.refl _ _).alloc (Nat.le_refl _) _
  have q0 := heap_alloc_new w (.cells #[.slice ra rb rc, .slice ad vs.length c, .string o] 31)
  have z1 := blk_cell q0 1
  simp only [List.getElem?_toArray, List.getElem?_cons_zero, List.getElem?_cons_succ] at z1
  have hz : w.heap.size < (w.alloc (.cells #[.slice ra rb rc, .slice ad vs.length c, .string o] 31)).heap.size := by simp
  clear q0
  have F1 := fieldVal3 x0 x1 x2
  go_enter Try.func10, Try.ntmps10
  go_wp2_with fail
  generalize w.alloc (.cells #[.slice ra rb rc, .slice ad vs.length c, .string o] 31) = W0 at *
  have C1b : Hid (∀ W, Below W0.heap.size W0 W → _) := fun W hb => C1.out W (HB.out.trans (hb.mono HB.out.size))
  clear C1
  go_region_with ((first | (go_at_call 27; refine (C0.out _).mono ?_; rintro e w1 ⟨rfl, hb1⟩; have y1 := (hb1.cell (p := ⟨w.heap.size, 1, none⟩) (by exact hz)).trans z1) | (go_at_call 26; refine (C1b.out _ ((Below.refl _ _).drew.trans hb1)).mono ?_; rintro e w2 ⟨rfl, hb2⟩) | (go_at_call 25; refine (C2.out _).mono ?_; rintro e w3 ⟨rfl, hb3⟩)))
  all_goals
    have HB3 : Hid (Below w.heap.size w w3) := HB.out.trans (((Below.refl W0.heap.size W0).drew.trans (hb1.trans ((hb2.trans (hb3.mono hb2.size)).mono hb1.size))).mono HB.out.size)
    clear hb1 hb2 hb3 C0 C1b C2 y1
    go_wp2
    go_ret
    exact ⟨rfl, HB3.out⟩
#print axioms imCellOf
end Go.Proofs.Ytjbodcakhnkggar
