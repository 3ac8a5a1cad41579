/- What a store answers: CellOf of the specification. -/
import Derived.Test.YtjbodcakhnkggarSvP
import Derived.Test.YtjbodcakhnkggarVCut
namespace Go.Proofs.Ytjbodcakhnkggar
open Go.RowKit

set_option maxHeartbeats 800000 in
theorem spCellOf (rv v : Value) (o name key : ByteArray) (vs : List Cl) (w : World) (h : ClAt w v vs) (hr : ∃ a b c, rv = .slice a b c) (hl : vs.length ≤ 1048576) :
    Calls Try.prog 8 #[.agg #[rv, v, .string o], .string name, .string key] w fun e w' => e = .returned (.string (St.cell vs name ⟨(Pv.cut key.data.toList).toArray⟩)) ∧ Below w.heap.size w w' := by
  obtain ⟨ad, c, rfl, f⟩ := h
  obtain ⟨ra, rb, rc, rfl⟩ := hr
  obtain ⟨n, hn⟩ : ∃ n, n = vs.length := ⟨_, rfl⟩
  have CK : Hid (∀ W, Calls Try.prog 22 #[.string key] W fun e w' => e = .returned (.string ⟨(Pv.cut key.data.toList).toArray⟩) ∧ w' = W) := fun W => specCut_any key W
  obtain ⟨K, hK⟩ : ∃ K : ByteArray, K = ⟨(Pv.cut key.data.toList).toArray⟩ := ⟨_, rfl⟩
  rw [← hK] at CK ⊢
  clear hK
  obtain ⟨R, hR⟩ : ∃ R, R = St.cell vs name K := ⟨_, rfl⟩
  have HR : Hid (R = (St.first (fun x : Cl => (x.name.toList == name.toList) && (x.key.toList == K.toList)) Cl.no (vs.drop 0)).val) := hR
  have HN : Hid (n = vs.length) := hn
  rw [← hR]
  rw [← hn] at f hl ⊢
  have HB : Hid (Below w.heap.size w (w.alloc (.cells #[.slice ra rb rc, .slice ad n c, .string o] 31))) := (Below.refl _ _).alloc (Nat.le_refl _) _
  have q0 := heap_alloc_new w (.cells #[.slice ra rb rc, .slice ad n c, .string o] 31)
  have z0 := blk_cell q0 1
  simp only [List.getElem?_toArray, List.getElem?_cons_zero, List.getElem?_cons_succ] at z0
  have HF : Hid (0 < n → ∃ b o, ad = some ⟨b, o, none⟩ ∧ b < w.heap.size ∧ ∀ i, i < n → w.cell? ⟨b, o + i * 3, none⟩ = some (.string (vs.getD i Cl.no).name) ∧ w.cell? ⟨b, o + i * 3 + 1, none⟩ = some (.string (vs.getD i Cl.no).key) ∧ w.cell? ⟨b, o + i * 3 + 2, none⟩ = some (.string (vs.getD i Cl.no).val)) := f
  clear f hR hn
  go_enter Try.func8, Try.ntmps8
  go_wp2_with fail
  refine (CK.out _).mono ?_
  rintro e w0 ⟨rfl, rfl⟩
  go_wp2
  clear q0
  generalize w.alloc (.cells #[.slice ra rb rc, .slice ad n c, .string o] 31) = W0 at *
  go_loopw [7] (fun j wr => wr = W0 ∧ ∃ q : Nat, j = .int .i64 (q : Int) ∧ q ≤ n ∧ Hid (R = (St.first (fun x : Cl => (x.name.toList == name.toList) && (x.key.toList == K.toList)) Cl.no (vs.drop q)).val)) (fun j _ => n - (intOf j).toNat)
  case atStart => exact ⟨rfl, 0, rfl, by omega, HR⟩
  case round =>
    clear HR
    obtain ⟨rfl, q, rfl, hq, HR⟩ := hrel
    by_cases hlt : q < n
    · have i1 : (q : Int) < (n : Int) := by omega
      obtain ⟨b, of, rfl, hb, hc⟩ := HF.out (by omega)
      obtain ⟨c0, c1, c2⟩ := hc q hlt
      have e0 := (HB.out.cell hb).trans c0
      have e1 := (HB.out.cell hb).trans c1
      have e2 := (HB.out.cell hb).trans c2
      have HRS : Hid _ := HR.out.trans (congrArg Cl.val (St.first_drop (fun x : Cl => (x.name.toList == name.toList) && (x.key.toList == K.toList)) Cl.no vs q (by rw [← HN.out]; exact hlt)))
      obtain ⟨p, hp⟩ : ∃ p, p = vs.getD q Cl.no := ⟨_, rfl⟩
      rw [← hp] at e0 e1 e2 HRS
      clear hp hc c0 c1 c2 HR
      obtain ⟨x0, x1, x2⟩ := p
      simp only at e0 e1 e2 HRS
      cases ht : (x0.toList == name.toList) with
      | true =>
        cases hu : (x1.toList == K.toList) with
        | true =>
          have HE : Hid (R = x2) := by have := HRS.out; simp only [ht, hu, Bool.and_self, if_true] at this; exact this
          clear HRS
          go_wp2
          go_ret
          exact ⟨by rw [HE.out]; rfl, HB.out⟩
        | false =>
          have HE : Hid (R = (St.first (fun x : Cl => (x.name.toList == name.toList) && (x.key.toList == K.toList)) Cl.no (vs.drop (q + 1))).val) := by have := HRS.out; simp only [ht, hu, Bool.and_false] at this; exact this
          clear HRS
          go_wp2
          go_roundw
          case rel => exact ⟨trivial, q + 1, by go_num, by omega, HE⟩
          case measure => simp [intOf]; omega
      | false =>
        have HE : Hid (R = (St.first (fun x : Cl => (x.name.toList == name.toList) && (x.key.toList == K.toList)) Cl.no (vs.drop (q + 1))).val) := by have := HRS.out; simp only [ht, Bool.false_and] at this; exact this
        clear HRS
        go_wp2
        go_roundw
        case rel => exact ⟨trivial, q + 1, by go_num, by omega, HE⟩
        case measure => simp [intOf]; omega
    · have HE : Hid (R = ByteArray.empty) := by have := HR.out; rw [St.first_end _ _ _ _ (by rw [← HN.out]; omega)] at this; exact this
      go_wp2
      go_ret
      exact ⟨by rw [HE.out]; rfl, HB.out⟩
#print axioms spCellOf
end Go.Proofs.Ytjbodcakhnkggar
