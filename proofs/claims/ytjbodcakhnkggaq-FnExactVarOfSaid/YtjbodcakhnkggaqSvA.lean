/- What a store answers: VarOf of the specification. -/
import Derived.Test.YtjbodcakhnkggaqSvP
namespace Go.Proofs.Ytjbodcakhnkggaq
open Go.RowKit

set_option maxHeartbeats 800000 in
theorem spVarOf (v rv : Value) (o name : ByteArray) (vs : List Vr) (w : World) (h : VrAt w v vs) (hr : ∃ a b c, rv = .slice a b c) (hl : vs.length ≤ 1048576) :
    Calls Try.prog 24 #[.agg #[v, rv, .string o], .string name] w fun e w' => e = .returned (.string (St.var vs name)) ∧ Below w.heap.size w w' := by
  obtain ⟨ad, c, rfl, f⟩ := h
  obtain ⟨ra, rb, rc, rfl⟩ := hr
  obtain ⟨n, hn⟩ : ∃ n, n = vs.length := ⟨_, rfl⟩
  obtain ⟨R, hR⟩ : ∃ R, R = St.var vs name := ⟨_, rfl⟩
  have HR : Hid (R = (St.first (fun x : Vr => x.name.toList == name.toList) Vr.no (vs.drop 0)).val) := hR
  have HN : Hid (n = vs.length) := hn
  rw [← hR]
  rw [← hn] at f hl ⊢
  have HB : Hid (Below w.heap.size w (w.alloc (.cells #[.slice ad n c, .slice ra rb rc, .string o] 49))) := (Below.refl _ _).alloc (Nat.le_refl _) _
  have q0 := heap_alloc_new w (.cells #[.slice ad n c, .slice ra rb rc, .string o] 49)
  have z0 := blk_cell q0 0
  simp only [List.getElem?_toArray, List.getElem?_cons_zero] at z0
  have HF : Hid (0 < n → ∃ b o, ad = some ⟨b, o, none⟩ ∧ b < w.heap.size ∧ ∀ i, i < n → w.cell? ⟨b, o + i * 2, none⟩ = some (.string (vs.getD i Vr.no).name) ∧ w.cell? ⟨b, o + i * 2 + 1, none⟩ = some (.string (vs.getD i Vr.no).val)) := f
  clear f hR hn
  go_enter Try.func24, Try.ntmps24
  go_wp2
  clear q0
  generalize w.alloc (.cells #[.slice ad n c, .slice ra rb rc, .string o] 49) = W0 at *
  go_loopw [5] (fun j wr => wr = W0 ∧ ∃ q : Nat, j = .int .i64 (q : Int) ∧ q ≤ n ∧ Hid (R = (St.first (fun x : Vr => x.name.toList == name.toList) Vr.no (vs.drop q)).val)) (fun j _ => n - (intOf j).toNat)
  case atStart => exact ⟨rfl, 0, rfl, by omega, HR⟩
  case round =>
    clear HR
    obtain ⟨rfl, q, rfl, hq, HR⟩ := hrel
    by_cases hlt : q < n
    · have i1 : (q : Int) < (n : Int) := by omega
      obtain ⟨b, of, rfl, hb, hc⟩ := HF.out (by omega)
      have c0 := hc q hlt
      obtain ⟨c0, c1⟩ := hc q hlt
      have e0 := (HB.out.cell hb).trans c0
      have e1 := (HB.out.cell hb).trans c1
      have HRS : Hid _ := HR.out.trans (congrArg Vr.val (St.first_drop (fun x : Vr => x.name.toList == name.toList) Vr.no vs q (by rw [← HN.out]; exact hlt)))
      obtain ⟨p, hp⟩ : ∃ p, p = vs.getD q Vr.no := ⟨_, rfl⟩
      rw [← hp] at e0 e1 HRS
      clear hp hc c0 c1 HR
      obtain ⟨x0, x1⟩ := p
      simp only at e0 e1 HRS
      cases ht : (x0.toList == name.toList) with
      | true =>
        have HE : Hid (R = x1) := by have := HRS.out; simp only [ht, if_true] at this; exact this
        clear HRS
        go_wp2
        go_ret
        exact ⟨by rw [HE.out]; rfl, HB.out⟩
      | false =>
        have HE : Hid (R = (St.first (fun x : Vr => x.name.toList == name.toList) Vr.no (vs.drop (q + 1))).val) := by have := HRS.out; simp only [ht] at this; exact this
        clear HRS
        go_wp2
        go_roundw
        case rel => exact ⟨trivial, q + 1, by go_num, by omega, HE⟩
        case measure => simp [intOf]; omega
    · have HE : Hid (R = ByteArray.empty) := by have := HR.out; rw [St.first_end _ _ _ _ (by rw [← HN.out]; omega)] at this; exact this
      go_wp2
      go_ret
      exact ⟨by rw [HE.out]; rfl, HB.out⟩
#print axioms spVarOf
end Go.Proofs.Ytjbodcakhnkggaq
