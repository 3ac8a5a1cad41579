/- What is found by: foundBy of a Var and of a Cell; the first one of a list. -/
import Derived.Test.YtjbodcakhnkggaqZac
import Derived.Laws.StructEq
import Derived.Deep.RegionWith
namespace Go.Proofs.Ytjbodcakhnkggaq
open Go.RowKit

set_option maxHeartbeats 800000 in
theorem foundVar (x0 x1 : ByteArray) (w : World) :
    Calls Try.prog 158 #[.agg #[.string x0, .string x1]] w fun e w' => e = .returned (.agg #[.string x0, .string ByteArray.empty]) ∧ Below w.heap.size w w' := by
  go_enter Try.func158, Try.ntmps158
  go_wp2_with fail
  refine bodyPost_ret (results_cell_row (p := 2) (ty := 108) rfl _ _ (w.heap.size + 1) 108 _ (0, 0) _ rfl (s2_1 _ _ _) Try.underlying108 rfl (by kernel_rfl)) rfl ?_
  exact ⟨rfl, ((Below.refl _ _).alloc (Nat.le_refl _) _).alloc (by simp) _⟩
set_option maxHeartbeats 800000 in
theorem foundCell (x0 x1 x2 : ByteArray) (w : World) :
    Calls Try.prog 160 #[.agg #[.string x0, .string x1, .string x2]] w fun e w' => e = .returned (.agg #[.string x0, .string x1]) ∧ Below w.heap.size w w' := by
  go_enter Try.func160, Try.ntmps160
  go_wp2_with fail
  refine bodyPost_ret (results_cell_row (p := 2) (ty := 108) rfl _ _ (w.heap.size + 1) 108 _ (0, 0) _ rfl (s2_1 _ _ _) Try.underlying108 rfl (by kernel_rfl)) rfl ?_
  exact ⟨rfl, ((Below.refl _ _).alloc (Nat.le_refl _) _).alloc (by simp) _⟩

set_option maxHeartbeats 4000000 in
theorem firstVar (v : Value) (name : ByteArray) (vs : List Vr) (w : World) (h : VrAt w v vs) (hl : vs.length ≤ 1048576) :
    Calls Try.prog 65 #[v, .agg #[.string name, .string ByteArray.empty]] w fun e w' => e = .returned (.agg #[.string (St.first (fun x : Vr => (x.name.toList == name.toList)) Vr.no vs).name, .string (St.first (fun x : Vr => (x.name.toList == name.toList)) Vr.no vs).val]) ∧ Below w.heap.size w w' := by
  obtain ⟨ad, c, rfl, f⟩ := h
  obtain ⟨n, hn⟩ : ∃ n, n = vs.length := ⟨_, rfl⟩
  obtain ⟨R, hR⟩ : ∃ R, R = St.first (fun x : Vr => (x.name.toList == name.toList)) Vr.no vs := ⟨_, rfl⟩
  have HR0 : Hid (R = St.first (fun x : Vr => (x.name.toList == name.toList)) Vr.no (vs.drop 0)) := hR
  rw [← hR]
  have HN : Hid (n = vs.length) := hn
  rw [← hn] at f hl ⊢
  have HF : Hid (0 < n → ∃ b o, ad = some ⟨b, o, none⟩ ∧ b < w.heap.size ∧ ∀ i, i < n → w.cell? ⟨b, o + i * 2, none⟩ = some (.string (vs.getD i Vr.no).name) ∧ w.cell? ⟨b, o + i * 2 + 1, none⟩ = some (.string (vs.getD i Vr.no).val)) := f
  clear f hn hR
  have HB : Hid (Below w.heap.size w ((w.alloc (.cells #[.string name, .string ByteArray.empty] 108)).alloc (.cells #[.string ByteArray.empty, .string ByteArray.empty] 96))) := ((Below.refl _ _).alloc (Nat.le_refl _) _).alloc (by simp) _
  have k0 := blk_cell (s2_0 w (.cells #[.string name, .string ByteArray.empty] 108) (.cells #[.string ByteArray.empty, .string ByteArray.empty] 96)) 0
  have k1 := blk_cell (s2_0 w (.cells #[.string name, .string ByteArray.empty] 108) (.cells #[.string ByteArray.empty, .string ByteArray.empty] 96)) 1
  simp only [List.getElem?_toArray, List.getElem?_cons_zero, List.getElem?_cons_succ] at k0 k1
  have HQ : Hid (((w.alloc (.cells #[.string name, .string ByteArray.empty] 108)).alloc (.cells #[.string ByteArray.empty, .string ByteArray.empty] 96)).heap[w.heap.size + 1]? = some (.cells #[.string ByteArray.empty, .string ByteArray.empty] 96 (0, 0))) := s2_1 _ _ _
  have hz : w.heap.size + 2 ≤ ((w.alloc (.cells #[.string name, .string ByteArray.empty] 108)).alloc (.cells #[.string ByteArray.empty, .string ByteArray.empty] 96)).heap.size := by simp
  have hee : (ByteArray.empty.toList == ByteArray.empty.toList) = true := by simp
  go_enter Try.func65, Try.ntmps65
  go_wp2
  change Code.wp _ _ _ _ ((w.alloc (.cells #[.string name, .string ByteArray.empty] 108)).alloc (.cells #[.string ByteArray.empty, .string ByteArray.empty] 96))
  generalize ((w.alloc (.cells #[.string name, .string ByteArray.empty] 108)).alloc (.cells #[.string ByteArray.empty, .string ByteArray.empty] 96)) = W0 at *
  go_loopw [10] (fun j wr => ∃ q : Nat, j = .int .i64 (q : Int) ∧ q ≤ n ∧ Hid (Below W0.heap.size W0 wr) ∧ Hid (R = St.first (fun x : Vr => (x.name.toList == name.toList)) Vr.no (vs.drop q))) (fun j _ => n - (intOf j).toNat)
  case atStart => exact ⟨0, rfl, by omega, Below.refl _ _, HR0⟩
  case round =>
    clear HR0
    obtain ⟨q, rfl, hq, HW, HR⟩ := hrel
    have R0 := (HW.out.block (w.heap.size + 1) (by omega)).trans HQ.out
    have HS0 : Hid _ := R0
    have r0 := blk_cell R0 0
    have g0 := blk_free R0 0
    have r1 := blk_cell R0 1
    have g1 := blk_free R0 1
    simp only [List.getElem?_toArray, List.getElem?_cons_zero, List.getElem?_cons_succ] at r0 r1
    clear R0
    have HWW : Hid (Below w.heap.size w wr) := HB.out.trans (HW.out.mono (by omega))
    by_cases hlt : q < n
    · have i1 : (q : Int) < (n : Int) := by omega
      obtain ⟨b, of, rfl, hb, hc⟩ := HF.out (by omega)
      obtain ⟨c0, c1⟩ := hc q hlt
      have e0 := (HWW.out.cell hb).trans c0
      have e1 := (HWW.out.cell hb).trans c1
      have y0 := (HW.out.cell (p := ⟨w.heap.size, 0, none⟩) (by show w.heap.size < _; omega)).trans k0
      have y1 := (HW.out.cell (p := ⟨w.heap.size, 1, none⟩) (by show w.heap.size < _; omega)).trans k1
      have HRS : Hid _ := HR.out.trans (St.first_drop (fun x : Vr => (x.name.toList == name.toList)) Vr.no vs q (by rw [← HN.out]; exact hlt))
      obtain ⟨p, hp⟩ : ∃ p, p = vs.getD q Vr.no := ⟨_, rfl⟩
      rw [← hp] at e0 e1 HRS
      clear hp hc c0 c1 k0 k1 HR
      obtain ⟨x0, x1⟩ := p
      simp only at e0 e1 HRS
      have hzr : w.heap.size + 1 < wr.heap.size := World.block_lt_of_cell? wr _ r0
      have v1 : ∀ o : Obj, (wr.alloc o).cell? ⟨w.heap.size, 0, none⟩ = some (.string name) := fun o => (((Below.refl wr.heap.size wr).alloc (Nat.le_refl _) o).cell (p := ⟨w.heap.size, 0, none⟩) (by show w.heap.size < _; omega)).trans y0
      have v2 : ∀ o : Obj, (wr.alloc o).cell? ⟨w.heap.size, 1, none⟩ = some (.string ByteArray.empty) := fun o => (((Below.refl wr.heap.size wr).alloc (Nat.le_refl _) o).cell (p := ⟨w.heap.size, 1, none⟩) (by show w.heap.size < _; omega)).trans y1
      have HX : Hid (∀ w1, Below (wr.alloc (.cells #[.string x0, .string x1] 96)).heap.size (wr.alloc (.cells #[.string x0, .string x1] 96)) w1 → w1.heap[wr.heap.size]? = some (.cells #[.string x0, .string x1] 96 (0, 0)) ∧ w1.heap[w.heap.size + 1]? = some (.cells #[.string ByteArray.empty, .string ByteArray.empty] 96 (0, 0)) ∧ Below w.heap.size w w1 ∧ Below W0.heap.size W0 w1) := by
        intro w1 hb1
        refine ⟨(hb1.block _ (by simp)).trans (heap_alloc_new wr _), (hb1.block _ (by simp; omega)).trans ((((Below.refl wr.heap.size wr).alloc (Nat.le_refl _) _).block _ hzr).trans HS0.out), ?_, ?_⟩
        · exact HWW.out.trans ((((Below.refl wr.heap.size wr).alloc (Nat.le_refl _) _).trans (hb1.mono (by simp))).mono HWW.out.size)
        · exact HW.out.trans ((((Below.refl wr.heap.size wr).alloc (Nat.le_refl _) _).trans (hb1.mono (by simp))).mono HW.out.size)
      cases ht : (x0.toList == name.toList) with
      | true =>
        have HE : Hid (R = ⟨x0, x1⟩) := by have := HRS.out; simp only [ht, if_true] at this; exact this
        clear HRS
        go_wp2_with fail
        go_region_with ((go_at_call 158; refine (foundVar _ _ _).mono ?_; rintro e w1 ⟨rfl, hb1⟩; have t0 := (hb1.cell (p := ⟨w.heap.size, 0, none⟩) (by simp; omega)).trans (v1 _); have t1 := (hb1.cell (p := ⟨w.heap.size, 1, none⟩) (by simp; omega)).trans (v2 _)))
        all_goals
          have HX1 : Hid _ := HX.out w1 ((Below.refl _ _).drew.trans hb1)
          have S0 := HX1.out.1
          have S1 := HX1.out.2.1
          have s0 := blk_cell S0 0
          have d0 := blk_cell S1 0
          have z0 := blk_free S1 0
          have s1 := blk_cell S0 1
          have d1 := blk_cell S1 1
          have z1 := blk_free S1 1
          simp only [List.getElem?_toArray, List.getElem?_cons_zero, List.getElem?_cons_succ] at s0 d0 s1 d1
          have HS1 : Hid _ := S1
          clear S0 S1 t0 t1 hb1 v1 v2 y0 y1
          go_wp2_with fail
          refine bodyPost_ret (results_cell_row (p := 4) (ty := 96) rfl _ _ (w.heap.size + 1) 96 _ (0, 0) _ rfl (blk_set (blk_set (HS1.out) 0 (.string x0)) 1 (.string x1)) Try.underlying96 rfl (by kernel_rfl)) rfl ?_
          exact ⟨by rw [HE.out]; rfl, ((HX1.out.2.2.1.setCell (by show _ ≤ w.heap.size + 1; omega) _).setCell (by show _ ≤ w.heap.size + 1; omega) _)⟩
      | false =>
        have HE : Hid (R = St.first (fun x : Vr => (x.name.toList == name.toList)) Vr.no (vs.drop (q + 1))) := by have := HRS.out; simp only [ht] at this; exact this
        clear HRS
        go_wp2_with fail
        go_region_with ((go_at_call 158; refine (foundVar _ _ _).mono ?_; rintro e w1 ⟨rfl, hb1⟩; have t0 := (hb1.cell (p := ⟨w.heap.size, 0, none⟩) (by simp; omega)).trans (v1 _); have t1 := (hb1.cell (p := ⟨w.heap.size, 1, none⟩) (by simp; omega)).trans (v2 _)))
        all_goals
          have HX1 : Hid _ := (HX.out w1 ((Below.refl _ _).drew.trans hb1)).2.2.2
          clear t0 t1 hb1 v1 v2 y0 y1
          go_wp2
          go_roundw
          case rel => exact ⟨q + 1, by go_num, by omega, HX1, HE⟩
          case measure => simp [intOf]; omega
    · have HE : Hid (R = Vr.no) := by have := HR.out; rw [St.first_end _ _ _ _ (by rw [← HN.out]; omega)] at this; exact this
      have HAL : Hid (∀ o : Obj, (wr.alloc o).heap[w.heap.size + 1]? = some (.cells #[.string ByteArray.empty, .string ByteArray.empty] 96 (0, 0))) := fun o => (((Below.refl wr.heap.size wr).alloc (Nat.le_refl _) o).block _ (World.block_lt_of_cell? wr _ r0)).trans HS0.out
      have d0 : ∀ o : Obj, (wr.alloc o).cell? ⟨w.heap.size + 1, 0, none⟩ = some (.string ⟨#[]⟩) := fun o => (blk_cell (HAL.out o) 0).trans rfl
      have z0 : ∀ o : Obj, (wr.alloc o).frozen? ⟨w.heap.size + 1, 0, none⟩ = false := fun o => blk_free (HAL.out o) 0
      have d1 : ∀ o : Obj, (wr.alloc o).cell? ⟨w.heap.size + 1, 1, none⟩ = some (.string ⟨#[]⟩) := fun o => (blk_cell (HAL.out o) 1).trans rfl
      have z1 : ∀ o : Obj, (wr.alloc o).frozen? ⟨w.heap.size + 1, 1, none⟩ = false := fun o => blk_free (HAL.out o) 1
      clear k0 k1
      go_wp2_with fail
      refine bodyPost_ret (results_cell_row (p := 4) (ty := 96) rfl _ _ (w.heap.size + 1) 96 _ (0, 0) _ rfl (blk_set (blk_set (HAL.out _) 0 _) 1 _) Try.underlying96 rfl (by kernel_rfl)) rfl ?_
      exact ⟨by rw [HE.out]; rfl, (((HWW.out.alloc HWW.out.size _).setCell (by show _ ≤ w.heap.size + 1; omega) _).setCell (by show _ ≤ w.heap.size + 1; omega) _)⟩
#print axioms firstVar

end Go.Proofs.Ytjbodcakhnkggaq
