/- A message in bytes: the specification of MessageText. -/
import Derived.Test.YtdkenmpdgadcpaaDoorMPRmZat
import Derived.Deep.RegionHeld3
namespace Go.Proofs.YtdkenmpdgadcpaaDoor
open Go.RowKit

set_option maxHeartbeats 8000000 in
set_option maxRecDepth 100000 in
theorem spMessageText (m : Ms) (w : World) :
    Calls Tryd.prog 6 #[m.val] w fun e w' => e = .returned m.text? ∧ Below w.heap.size w w' := by
  have CO := hidOfT (fun W => spMessageOk m W)
  obtain ⟨V, hV⟩ : ∃ V, V = m.ok := ⟨_, rfl⟩
  rw [← hV] at CO
  cases V
  · rw [Ms.text_no hV.symm]
    obtain ⟨kd, wk, tk, tr, bo⟩ := m
    unfold Ms.val at *
    simp only at *
    have HA : Hid (Below w.heap.size w (w.alloc (.cells #[.int .i64 kd, .int .i64 wk, .int .i64 tk, .int .i64 tr, .string bo] 27))) := (Below.refl _ _).alloc (Nat.le_refl _) _
    clear hV
    go_enter Tryd.func6, Tryd.ntmps6
    go_wp2_with fail
    refine (CO.out _).mono ?_
    rintro e w1 ⟨rfl, hb1⟩
    have HB1 := hidOfT (HA.out.trans (hb1.mono HA.out.size))
    clear hb1 CO
    go_wp2_with fail
    go_ret2
    exact ⟨rfl, HB1.out⟩
  obtain ⟨h1, h2, h3, h4, h5, -⟩ := Ms.ok_facts hV.symm
  obtain ⟨Y, hY1, hY2⟩ := Ms.text_yes hV.symm
  have HRL := hidOfT (Ms.raw_len hV.symm)
  have HY := hidOfT hY2
  rw [hY1]
  obtain ⟨kd, wk, tk, tr, bo⟩ := m
  simp only at h1 h2 h3 h4 h5
  obtain ⟨kd, rfl⟩ : ∃ n : Nat, kd = (n : Int) := ⟨kd.toNat, by omega⟩
  obtain ⟨wk, rfl⟩ : ∃ n : Nat, wk = (n : Int) := ⟨wk.toNat, by omega⟩
  obtain ⟨tk, rfl⟩ : ∃ n : Nat, tk = (n : Int) := ⟨tk.toNat, by omega⟩
  obtain ⟨tr, rfl⟩ : ∃ n : Nat, tr = (n : Int) := ⟨tr.toNat, by omega⟩
  unfold Ms.val at *
  simp only at *
  obtain ⟨A, hA⟩ : ∃ A : ByteArray, A = ⟨#[UInt8.ofNat kd, UInt8.ofNat wk]⟩ := ⟨_, rfl⟩
  obtain ⟨B, hB⟩ : ∃ B : ByteArray, B = ⟨(Pl.vb 8 tk).toArray⟩ := ⟨_, rfl⟩
  obtain ⟨C, hC⟩ : ∃ C : ByteArray, C = ⟨(Pl.vb 8 tr).toArray⟩ := ⟨_, rfl⟩
  have HCV : Hid (∀ (W : World) (b : Nat), W.cell? ⟨b, 0, none⟩ = some (.int .u8 (kd : Int)) → W.cell? ⟨b, 1, none⟩ = some (.int .u8 (wk : Int)) → (convert 36 9 (.slice (some ⟨b, 0, none⟩) 2 2)).run Tryd.prog W = .ok (.string A) W) := fun W b k0 k1 => by rw [hA]; exact two_str W b kd wk k0 k1
  have CV1 : Hid (∀ W, Calls Tryd.prog 14 #[.int .i64 (tk : Int)] W fun e w' => e = .returned (.string B) ∧ Below W.heap.size W w') := fun W => by rw [hB]; exact l01Var_any tk W (by omega)
  have CV2 : Hid (∀ W, Calls Tryd.prog 14 #[.int .i64 (tr : Int)] W fun e w' => e = .returned (.string C) ∧ Below W.heap.size W w') := fun W => by rw [hC]; exact l01Var_any tr W (by omega)
  have hX : (A ++ B ++ C ++ bo : ByteArray) = ⟨(Ms.raw ⟨(kd : Int), (wk : Int), (tk : Int), (tr : Int), bo⟩).toArray⟩ := by
    apply ByteArray.ext
    apply Array.toList_inj.1
    rw [hA, hB, hC]
    simp [Ms.raw, Ms.head]
  have CSE : Hid (∀ W, Calls Tryd.prog 13 #[.string (A ++ B ++ C ++ bo)] W fun e w' => e = .returned (.tuple #[.string Y, .bool true]) ∧ Below W.heap.size W w') := fun W => by
    rw [hX, ← HY.out]
    exact specSealed_any _ W (by show (Ms.raw _).toArray.size ≤ 1048576; have := HRL.out; simp; omega)
  have hAs : A.size = 2 := by rw [hA]; rfl
  have hBs : B.size ≤ 9 := by rw [hB]; show (Pl.vb 8 tk).toArray.size ≤ 9; have := l01_bytes tk; simpa using this
  have hCs : C.size ≤ 9 := by rw [hC]; show (Pl.vb 8 tr).toArray.size ≤ 9; have := l01_bytes tr; simpa using this
  have z1 : ¬ 9223372036854775807 < A.size + B.size := by omega
  have z2 : ¬ 9223372036854775807 < A.size + B.size + C.size := by omega
  have z3 : ¬ 9223372036854775807 < A.size + B.size + C.size + bo.size := by omega
  have u1 : IntKind.u8.wrap (kd : Int) = (kd : Int) := by unfold IntKind.wrap; simp [IntKind.bits, IntKind.signed]; omega
  have u2 : IntKind.u8.wrap (wk : Int) = (wk : Int) := by unfold IntKind.wrap; simp [IntKind.bits, IntKind.signed]; omega
  have hbw : Below w.heap.size w (w.alloc (.cells #[.int .i64 (kd : Int), .int .i64 (wk : Int), .int .i64 (tk : Int), .int .i64 (tr : Int), .string bo] 27)) := (Below.refl _ _).alloc (Nat.le_refl _) _
  have q0 := heap_alloc_new w (.cells #[.int .i64 (kd : Int), .int .i64 (wk : Int), .int .i64 (tk : Int), .int .i64 (tr : Int), .string bo] 27)
  have HQ := hidOfT (And.intro hbw q0)
  clear hV hY1 hY2 hA hB hC hX hAs hBs hCs h1 h2 h3 h4 h5 hbw q0
  go_enter Tryd.func6, Tryd.ntmps6
  go_wp2_with fail
  generalize w.alloc (.cells #[.int .i64 (kd : Int), .int .i64 (wk : Int), .int .i64 (tk : Int), .int .i64 (tr : Int), .string bo] 27) = W0 at *
  refine (CO.out _).mono ?_
  rintro e w1 ⟨rfl, hb1⟩
  have q1 := (hb1.block _ (blk_lt HQ.out.2)).trans HQ.out.2
  have HE : Hid (∀ W, Below W0.heap.size W0 W → Below w.heap.size w W) := fun W hb => HQ.out.1.trans (hb.mono HQ.out.1.size)
  have HSS0 : Hid ((w1.drew.cell? ⟨w.heap.size, 0, none⟩ = some (.int .i64 (kd : Int)) ∧ w1.drew.cell? ⟨w.heap.size, 1, none⟩ = some (.int .i64 (wk : Int)) ∧ w1.drew.cell? ⟨w.heap.size, 2, none⟩ = some (.int .i64 (tk : Int)) ∧ w1.drew.cell? ⟨w.heap.size, 3, none⟩ = some (.int .i64 (tr : Int)) ∧ w1.drew.cell? ⟨w.heap.size, 4, none⟩ = some (.string bo)) ∧ Hid (Below W0.heap.size W0 w1.drew)) := ⟨⟨(blk_cell q1 0).trans rfl, (blk_cell q1 1).trans rfl, (blk_cell q1 2).trans rfl, (blk_cell q1 3).trans rfl, (blk_cell q1 4).trans rfl⟩, hb1.drew⟩
  clear hb1 q1 CO HQ
  go_wp2_with fail
  refine wp_region_noPanic ?_
  refine wp_region_held_drew (S := (fun W' => (W'.cell? ⟨w.heap.size, 0, none⟩ = some (.int .i64 (kd : Int)) ∧ W'.cell? ⟨w.heap.size, 1, none⟩ = some (.int .i64 (wk : Int)) ∧ W'.cell? ⟨w.heap.size, 2, none⟩ = some (.int .i64 (tk : Int)) ∧ W'.cell? ⟨w.heap.size, 3, none⟩ = some (.int .i64 (tr : Int)) ∧ W'.cell? ⟨w.heap.size, 4, none⟩ = some (.string bo)) ∧ Hid (Below W0.heap.size W0 W'))) (by kernel_rfl) HSS0.out (fun _ => ?_)
  have HSS := hidOfT HSS0.out
  clear HSS0
  refine wpAnyH_take (i := 0) (v := ?_) rfl (by kernel_rfl) (by kernel_rfl) (by kernel_rfl) (fun _ _ _ h => h) (Or.inl ⟨by kernel_rfl, ?_⟩) HSS.out ?_
  rotate_left
  · (intro u9 hSw; (try dsimp only at hSw); go_simp; try with_reducible rfl)
  show wpAnyH _ _ _ _ _ _ _ (Act.put _ (some 7) _) _
  (try simp only [Act.put]); (try simp only [List.setIfInBounds_toArray]); (try simp only [List.set_cons_succ, List.set_cons_zero])
  refine wpAnyH_take (i := 1) (v := ?_) rfl (by kernel_rfl) (by kernel_rfl) (by kernel_rfl) (fun _ _ _ h => h) (Or.inl ⟨by kernel_rfl, ?_⟩) HSS.out ?_
  rotate_left
  · (intro u9 hSw; (try dsimp only at hSw); go_simp; try with_reducible rfl)
  show wpAnyH _ _ _ _ _ _ _ (Act.put _ (some 8) _) _
  (try simp only [Act.put]); (try simp only [List.setIfInBounds_toArray]); (try simp only [List.set_cons_succ, List.set_cons_zero])
  refine wpAnyH_take (i := 2) (v := ?_) rfl (by kernel_rfl) (by kernel_rfl) (by kernel_rfl) (fun _ _ _ h => h) (Or.inl ⟨by kernel_rfl, ?_⟩) HSS.out ?_
  rotate_left
  · (intro u9 hSw; (try dsimp only at hSw); go_simp; try with_reducible rfl)
  show wpAnyH _ _ _ _ _ _ _ (Act.put _ (some 9) _) _
  (try simp only [Act.put]); (try simp only [List.setIfInBounds_toArray]); (try simp only [List.set_cons_succ, List.set_cons_zero])
  refine wpAnyH_take (i := 3) (v := ?_) rfl (by kernel_rfl) (by kernel_rfl) (by kernel_rfl) (fun _ _ _ h => h) (Or.inl ⟨by kernel_rfl, ?_⟩) HSS.out ?_
  rotate_left
  · (intro u9 hSw; (try dsimp only at hSw); go_simp; try with_reducible rfl)
  show wpAnyH _ _ _ _ _ _ _ (Act.put _ (some 10) _) _
  (try simp only [Act.put]); (try simp only [List.setIfInBounds_toArray]); (try simp only [List.set_cons_succ, List.set_cons_zero])
  refine wpAnyH_take (i := 4) (v := ?_) rfl (by kernel_rfl) (by kernel_rfl) (by kernel_rfl) (fun _ _ _ h => h) (Or.inl ⟨by kernel_rfl, ?_⟩) HSS.out ?_
  rotate_left
  · (intro u9 hSw; (try dsimp only at hSw); go_simp; try with_reducible rfl)
  show wpAnyH _ _ _ _ _ _ _ (Act.put _ (some 11) _) _
  (try simp only [Act.put]); (try simp only [List.setIfInBounds_toArray]); (try simp only [List.set_cons_succ, List.set_cons_zero])
  refine wpAnyH_take (i := 5) (v := ?_) rfl (by kernel_rfl) (by kernel_rfl) (by kernel_rfl) (fun _ _ _ h => h) (Or.inl ⟨by kernel_rfl, ?_⟩) HSS.out ?_
  rotate_left
  · (intro u9 hSw; (try dsimp only at hSw); go_simp; try with_reducible rfl)
  show wpAnyH _ _ _ _ _ _ _ (Act.put _ (some 12) _) _
  (try simp only [Act.put]); (try simp only [List.setIfInBounds_toArray]); (try simp only [List.set_cons_succ, List.set_cons_zero])
  refine wpAnyH_take (i := 8) (v := ?_) rfl (by kernel_rfl) (by kernel_rfl) (by kernel_rfl) (fun _ _ _ h => h) (Or.inl ⟨by kernel_rfl, ?_⟩) HSS.out ?_
  rotate_left
  · (intro u9 hSw; (try dsimp only at hSw); go_simp; try with_reducible rfl)
  show wpAnyH _ _ _ _ _ _ _ (Act.put _ (some 15) _) _
  (try simp only [Act.put]); (try simp only [List.setIfInBounds_toArray]); (try simp only [List.set_cons_succ, List.set_cons_zero])
  refine wpAnyH_take (i := 9) (v := ?_) rfl (by kernel_rfl) (by kernel_rfl) (by kernel_rfl) (fun _ _ _ h => h) (Or.inl ⟨by kernel_rfl, ?_⟩) HSS.out ?_
  rotate_left
  · (intro u9 hSw; (try dsimp only at hSw); go_simp; try with_reducible rfl)
  show wpAnyH _ _ _ _ _ _ _ (Act.put _ (some 16) _) _
  (try simp only [Act.put]); (try simp only [List.setIfInBounds_toArray]); (try simp only [List.set_cons_succ, List.set_cons_zero])
  refine wpAnyH_take (i := 12) (v := ?_) rfl (by kernel_rfl) (by kernel_rfl) (by kernel_rfl) (fun _ _ _ h => h) (Or.inl ⟨by kernel_rfl, ?_⟩) HSS.out ?_
  rotate_left
  · (intro u9 hSw; (try dsimp only at hSw); go_simp; try with_reducible rfl)
  show wpAnyH _ _ _ _ _ _ _ (Act.put _ (some 19) _) _
  (try simp only [Act.put]); (try simp only [List.setIfInBounds_toArray]); (try simp only [List.set_cons_succ, List.set_cons_zero])
  refine wpAnyH_take (i := 13) (v := ?_) rfl (by kernel_rfl) (by kernel_rfl) (by kernel_rfl) (fun _ _ _ h => h) (Or.inl ⟨by kernel_rfl, ?_⟩) HSS.out ?_
  rotate_left
  · (intro u9 hSw; (try dsimp only at hSw); go_simp; try with_reducible rfl)
  show wpAnyH _ _ _ _ _ _ _ (Act.put _ (some 20) _) _
  (try simp only [Act.put]); (try simp only [List.setIfInBounds_toArray]); (try simp only [List.set_cons_succ, List.set_cons_zero])
  refine wpAnyH_take (i := 16) (v := ?_) rfl (by kernel_rfl) (by kernel_rfl) (by kernel_rfl) (fun _ _ _ h => h) (Or.inl ⟨by kernel_rfl, ?_⟩) HSS.out ?_
  rotate_left
  · (intro u9 hSw; (try dsimp only at hSw); go_simp; try with_reducible rfl)
  show wpAnyH _ _ _ _ _ _ _ (Act.put _ (some 23) _) _
  (try simp only [Act.put]); (try simp only [List.setIfInBounds_toArray]); (try simp only [List.set_cons_succ, List.set_cons_zero])
  refine wpAnyH_take (i := 17) (v := ?_) rfl (by kernel_rfl) (by kernel_rfl) (by kernel_rfl) (fun _ _ _ h => h) (Or.inl ⟨by kernel_rfl, ?_⟩) HSS.out ?_
  rotate_left
  · (intro u9 hSw; (try dsimp only at hSw); go_simp; try with_reducible rfl)
  show wpAnyH _ _ _ _ _ _ _ (Act.put _ (some 24) _) _
  (try simp only [Act.put]); (try simp only [List.setIfInBounds_toArray]); (try simp only [List.set_cons_succ, List.set_cons_zero])
  refine wpAnyH_ready (rs := [6, 10]) (by kernel_rfl) (by simp) ?_
  refine AllReadyH.cons rfl (fun K hK => ?_) (AllReadyH.cons rfl (fun K hK => ?_) AllReadyH.nil)
  · go_simp
    have HAL : Hid (Below w1.drew.heap.size w1.drew (w1.alloc (.cells #[.int .u8 (kd : Int), .int .u8 (wk : Int)] 5)).drew) := (show Below w1.drew.heap.size w1.drew (w1.drew.alloc (.cells #[.int .u8 (kd : Int), .int .u8 (wk : Int)] 5)) from (Below.refl _ _).alloc (Nat.le_refl _) _)
    have HSN : Hid (((w1.alloc (.cells #[.int .u8 (kd : Int), .int .u8 (wk : Int)] 5)).drew.cell? ⟨w.heap.size, 0, none⟩ = some (.int .i64 (kd : Int)) ∧ (w1.alloc (.cells #[.int .u8 (kd : Int), .int .u8 (wk : Int)] 5)).drew.cell? ⟨w.heap.size, 1, none⟩ = some (.int .i64 (wk : Int)) ∧ (w1.alloc (.cells #[.int .u8 (kd : Int), .int .u8 (wk : Int)] 5)).drew.cell? ⟨w.heap.size, 2, none⟩ = some (.int .i64 (tk : Int)) ∧ (w1.alloc (.cells #[.int .u8 (kd : Int), .int .u8 (wk : Int)] 5)).drew.cell? ⟨w.heap.size, 3, none⟩ = some (.int .i64 (tr : Int)) ∧ (w1.alloc (.cells #[.int .u8 (kd : Int), .int .u8 (wk : Int)] 5)).drew.cell? ⟨w.heap.size, 4, none⟩ = some (.string bo)) ∧ Hid (Below W0.heap.size W0 (w1.alloc (.cells #[.int .u8 (kd : Int), .int .u8 (wk : Int)] 5)).drew)) := ⟨⟨cell_upT HAL.out HSS.out.1.1, cell_upT HAL.out HSS.out.1.2.1, cell_upT HAL.out HSS.out.1.2.2.1, cell_upT HAL.out HSS.out.1.2.2.2.1, cell_upT HAL.out HSS.out.1.2.2.2.2⟩, HSS.out.2.out.trans (HAL.out.mono HSS.out.2.out.size)⟩
    refine hK.out _ _ HSN.out (fun _ => ?_)
    clear hK K
    obtain ⟨gq, hgq⟩ : ∃ gq, gq = w1.heap.size := ⟨_, rfl⟩
    have HSS2 : Hid ((((w1.alloc (.cells #[.int .u8 (kd : Int), .int .u8 (wk : Int)] 5)).drew.cell? ⟨w.heap.size, 0, none⟩ = some (.int .i64 (kd : Int)) ∧ (w1.alloc (.cells #[.int .u8 (kd : Int), .int .u8 (wk : Int)] 5)).drew.cell? ⟨w.heap.size, 1, none⟩ = some (.int .i64 (wk : Int)) ∧ (w1.alloc (.cells #[.int .u8 (kd : Int), .int .u8 (wk : Int)] 5)).drew.cell? ⟨w.heap.size, 2, none⟩ = some (.int .i64 (tk : Int)) ∧ (w1.alloc (.cells #[.int .u8 (kd : Int), .int .u8 (wk : Int)] 5)).drew.cell? ⟨w.heap.size, 3, none⟩ = some (.int .i64 (tr : Int)) ∧ (w1.alloc (.cells #[.int .u8 (kd : Int), .int .u8 (wk : Int)] 5)).drew.cell? ⟨w.heap.size, 4, none⟩ = some (.string bo)) ∧ Hid (Below W0.heap.size W0 (w1.alloc (.cells #[.int .u8 (kd : Int), .int .u8 (wk : Int)] 5)).drew)) ∧ (w1.alloc (.cells #[.int .u8 (kd : Int), .int .u8 (wk : Int)] 5)).drew.cell? ⟨gq, 0, none⟩ = some (.int .u8 (kd : Int)) ∧ (w1.alloc (.cells #[.int .u8 (kd : Int), .int .u8 (wk : Int)] 5)).drew.cell? ⟨gq, 1, none⟩ = some (.int .u8 (wk : Int)) ∧ gq < (w1.alloc (.cells #[.int .u8 (kd : Int), .int .u8 (wk : Int)] 5)).drew.heap.size) := ⟨HSN.out, by rw [hgq]; exact (blk_cell (heap_alloc_new w1 (.cells #[.int .u8 (kd : Int), .int .u8 (wk : Int)] 5)) 0).trans rfl, by rw [hgq]; exact (blk_cell (heap_alloc_new w1 (.cells #[.int .u8 (kd : Int), .int .u8 (wk : Int)] 5)) 1).trans rfl, by rw [hgq]; exact blk_lt (heap_alloc_new w1 (.cells #[.int .u8 (kd : Int), .int .u8 (wk : Int)] 5))⟩
    clear HSS HSN HAL
    rw [← hgq]
    clear hgq
    generalize (w1.alloc (.cells #[.int .u8 (kd : Int), .int .u8 (wk : Int)] 5)).drew = wy at *
    have HSS := hidOfT HSS2.out
    clear HSS2
    refine wpAnyH_less (S' := (fun W' => ((W'.cell? ⟨w.heap.size, 0, none⟩ = some (.int .i64 (kd : Int)) ∧ W'.cell? ⟨w.heap.size, 1, none⟩ = some (.int .i64 (wk : Int)) ∧ W'.cell? ⟨w.heap.size, 2, none⟩ = some (.int .i64 (tk : Int)) ∧ W'.cell? ⟨w.heap.size, 3, none⟩ = some (.int .i64 (tr : Int)) ∧ W'.cell? ⟨w.heap.size, 4, none⟩ = some (.string bo)) ∧ Hid (Below W0.heap.size W0 W')) ∧ W'.cell? ⟨gq, 0, none⟩ = some (.int .u8 (kd : Int)) ∧ W'.cell? ⟨gq, 1, none⟩ = some (.int .u8 (wk : Int)) ∧ gq < W'.heap.size)) (fun W hW => hW.1) _ _ _ _ ?_
    (try simp only [Act.put]); (try simp only [List.setIfInBounds_toArray]); (try simp only [List.set_cons_succ, List.set_cons_zero])
    refine wpAnyH_take (i := 7) (v := .string A) rfl (by kernel_rfl) (by kernel_rfl) (by kernel_rfl) (fun _ _ _ h => h) (Or.inl ⟨by kernel_rfl, ?_⟩) HSS.out ?_
    · (intro u9 hSw; have hcv9 := HCV.out u9 gq hSw.2.1 hSw.2.2.1; clear hSw; go_simp)
    show wpAnyH _ _ _ _ _ _ _ (Act.put _ (some 14) _) _
    (try simp only [Act.put]); (try simp only [List.setIfInBounds_toArray]); (try simp only [List.set_cons_succ, List.set_cons_zero])
    refine wpAnyH_ready (rs := [10]) (by kernel_rfl) (by simp) ?_
    refine AllReadyH.cons rfl (fun K hK => ?_) AllReadyH.nil
    go_simp
    go_at_call 14
    refine (CV1.out _).mono ?_
    rintro e wz ⟨rfl, hb9⟩
    have HS2 : Hid (((wz.cell? ⟨w.heap.size, 0, none⟩ = some (.int .i64 (kd : Int)) ∧ wz.cell? ⟨w.heap.size, 1, none⟩ = some (.int .i64 (wk : Int)) ∧ wz.cell? ⟨w.heap.size, 2, none⟩ = some (.int .i64 (tk : Int)) ∧ wz.cell? ⟨w.heap.size, 3, none⟩ = some (.int .i64 (tr : Int)) ∧ wz.cell? ⟨w.heap.size, 4, none⟩ = some (.string bo)) ∧ Hid (Below W0.heap.size W0 wz)) ∧ wz.cell? ⟨gq, 0, none⟩ = some (.int .u8 (kd : Int)) ∧ wz.cell? ⟨gq, 1, none⟩ = some (.int .u8 (wk : Int)) ∧ gq < wz.heap.size) := ⟨⟨⟨cell_upT hb9 HSS.out.1.1.1, cell_upT hb9 HSS.out.1.1.2.1, cell_upT hb9 HSS.out.1.1.2.2.1, cell_upT hb9 HSS.out.1.1.2.2.2.1, cell_upT hb9 HSS.out.1.1.2.2.2.2⟩, HSS.out.1.2.out.trans (hb9.mono HSS.out.1.2.out.size)⟩, cell_upT hb9 HSS.out.2.1, cell_upT hb9 HSS.out.2.2.1, Nat.lt_of_lt_of_le HSS.out.2.2.2 hb9.size⟩
    dsimp only
    refine hK.out _ _ HS2.out (fun _ => ?_)
    clear hK K hb9 HSS
    have HSS := hidOfT HS2.out
    clear HS2
    try show wpAnyH _ _ _ _ _ _ _ (Act.put _ (some 17) _) _
    (try simp only [Act.put]); (try simp only [List.setIfInBounds_toArray]); (try simp only [List.set_cons_succ, List.set_cons_zero])
    refine wpAnyH_take (i := 11) (v := ?_) rfl (by kernel_rfl) (by kernel_rfl) (by kernel_rfl) (fun _ _ _ h => h) (Or.inl ⟨by kernel_rfl, ?_⟩) HSS.out ?_
    rotate_left
    · (intro u9 hSw; (try dsimp only at hSw); go_simp; try with_reducible rfl)
    show wpAnyH _ _ _ _ _ _ _ (Act.put _ (some 18) _) _
    (try simp only [Act.put]); (try simp only [List.setIfInBounds_toArray]); (try simp only [List.set_cons_succ, List.set_cons_zero])
    refine wpAnyH_ready (rs := [14]) (by kernel_rfl) (by simp) ?_
    refine AllReadyH.cons rfl (fun K hK => ?_) AllReadyH.nil
    go_simp
    go_at_call 14
    refine (CV2.out _).mono ?_
    rintro e wz ⟨rfl, hb9⟩
    have HS2 : Hid (((wz.cell? ⟨w.heap.size, 0, none⟩ = some (.int .i64 (kd : Int)) ∧ wz.cell? ⟨w.heap.size, 1, none⟩ = some (.int .i64 (wk : Int)) ∧ wz.cell? ⟨w.heap.size, 2, none⟩ = some (.int .i64 (tk : Int)) ∧ wz.cell? ⟨w.heap.size, 3, none⟩ = some (.int .i64 (tr : Int)) ∧ wz.cell? ⟨w.heap.size, 4, none⟩ = some (.string bo)) ∧ Hid (Below W0.heap.size W0 wz)) ∧ wz.cell? ⟨gq, 0, none⟩ = some (.int .u8 (kd : Int)) ∧ wz.cell? ⟨gq, 1, none⟩ = some (.int .u8 (wk : Int)) ∧ gq < wz.heap.size) := ⟨⟨⟨cell_upT hb9 HSS.out.1.1.1, cell_upT hb9 HSS.out.1.1.2.1, cell_upT hb9 HSS.out.1.1.2.2.1, cell_upT hb9 HSS.out.1.1.2.2.2.1, cell_upT hb9 HSS.out.1.1.2.2.2.2⟩, HSS.out.1.2.out.trans (hb9.mono HSS.out.1.2.out.size)⟩, cell_upT hb9 HSS.out.2.1, cell_upT hb9 HSS.out.2.2.1, Nat.lt_of_lt_of_le HSS.out.2.2.2 hb9.size⟩
    dsimp only
    refine hK.out _ _ HS2.out (fun _ => ?_)
    clear hK K hb9 HSS
    have HSS := hidOfT HS2.out
    clear HS2
    try show wpAnyH _ _ _ _ _ _ _ (Act.put _ (some 21) _) _
    (try simp only [Act.put]); (try simp only [List.setIfInBounds_toArray]); (try simp only [List.set_cons_succ, List.set_cons_zero])
    refine wpAnyH_take (i := 15) (v := ?_) rfl (by kernel_rfl) (by kernel_rfl) (by kernel_rfl) (fun _ _ _ h => h) (Or.inl ⟨by kernel_rfl, ?_⟩) HSS.out ?_
    rotate_left
    · (intro u9 hSw; (try dsimp only at hSw); go_simp; try with_reducible rfl)
    show wpAnyH _ _ _ _ _ _ _ (Act.put _ (some 22) _) _
    (try simp only [Act.put]); (try simp only [List.setIfInBounds_toArray]); (try simp only [List.set_cons_succ, List.set_cons_zero])
    refine wpAnyH_take (i := 18) (v := ?_) rfl (by kernel_rfl) (by kernel_rfl) (by kernel_rfl) (fun _ _ _ h => h) (Or.inl ⟨by kernel_rfl, ?_⟩) HSS.out ?_
    rotate_left
    · (intro u9 hSw; (try dsimp only at hSw); go_simp; try with_reducible rfl)
    show wpAnyH _ _ _ _ _ _ _ (Act.put _ (some 25) _) _
    (try simp only [Act.put]); (try simp only [List.setIfInBounds_toArray]); (try simp only [List.set_cons_succ, List.set_cons_zero])
    refine wpAnyH_ready (rs := [19]) (by kernel_rfl) (by simp) ?_
    refine AllReadyH.cons rfl (fun K hK => ?_) AllReadyH.nil
    go_simp
    go_at_call 13
    refine (CSE.out _).mono ?_
    rintro e wz ⟨rfl, hb9⟩
    have HS2 : Hid (((wz.cell? ⟨w.heap.size, 0, none⟩ = some (.int .i64 (kd : Int)) ∧ wz.cell? ⟨w.heap.size, 1, none⟩ = some (.int .i64 (wk : Int)) ∧ wz.cell? ⟨w.heap.size, 2, none⟩ = some (.int .i64 (tk : Int)) ∧ wz.cell? ⟨w.heap.size, 3, none⟩ = some (.int .i64 (tr : Int)) ∧ wz.cell? ⟨w.heap.size, 4, none⟩ = some (.string bo)) ∧ Hid (Below W0.heap.size W0 wz)) ∧ wz.cell? ⟨gq, 0, none⟩ = some (.int .u8 (kd : Int)) ∧ wz.cell? ⟨gq, 1, none⟩ = some (.int .u8 (wk : Int)) ∧ gq < wz.heap.size) := ⟨⟨⟨cell_upT hb9 HSS.out.1.1.1, cell_upT hb9 HSS.out.1.1.2.1, cell_upT hb9 HSS.out.1.1.2.2.1, cell_upT hb9 HSS.out.1.1.2.2.2.1, cell_upT hb9 HSS.out.1.1.2.2.2.2⟩, HSS.out.1.2.out.trans (hb9.mono HSS.out.1.2.out.size)⟩, cell_upT hb9 HSS.out.2.1, cell_upT hb9 HSS.out.2.2.1, Nat.lt_of_lt_of_le HSS.out.2.2.2 hb9.size⟩
    dsimp only
    refine hK.out _ _ HS2.out (fun _ => ?_)
    clear hK K hb9 HSS
    have HSS := hidOfT HS2.out
    clear HS2
    try show wpAnyH _ _ _ _ _ _ _ (Act.put _ (some 26) _) _
    (try simp only [Act.put]); (try simp only [List.setIfInBounds_toArray]); (try simp only [List.set_cons_succ, List.set_cons_zero])
    refine wpAnyH_take (i := 20) (v := ?_) rfl (by kernel_rfl) (by kernel_rfl) (by kernel_rfl) (fun _ _ _ h => h) (Or.inl ⟨by kernel_rfl, ?_⟩) HSS.out ?_
    rotate_left
    · (intro u9 hSw; (try dsimp only at hSw); go_simp; try with_reducible rfl)
    show wpAnyH _ _ _ _ _ _ _ (Act.put _ (some 27) _) _
    (try simp only [Act.put]); (try simp only [List.setIfInBounds_toArray]); (try simp only [List.set_cons_succ, List.set_cons_zero])
    refine wpAnyH_take (i := 21) (v := ?_) rfl (by kernel_rfl) (by kernel_rfl) (by kernel_rfl) (fun _ _ _ h => h) (Or.inl ⟨by kernel_rfl, ?_⟩) HSS.out ?_
    rotate_left
    · (intro u9 hSw; (try dsimp only at hSw); go_simp; try with_reducible rfl)
    show wpAnyH _ _ _ _ _ _ _ (Act.put _ (some 28) _) _
    (try simp only [Act.put]); (try simp only [List.setIfInBounds_toArray]); (try simp only [List.set_cons_succ, List.set_cons_zero])
    refine wpAnyH_take (i := 22) (v := ?_) rfl (by kernel_rfl) (by kernel_rfl) (by kernel_rfl) (fun _ _ _ h => h) (Or.inl ⟨by kernel_rfl, ?_⟩) HSS.out ?_
    rotate_left
    · (intro u9 hSw; (try dsimp only at hSw); go_simp; try with_reducible rfl)
    show wpAnyH _ _ _ _ _ _ _ (Act.put _ (some 2) _) _
    (try simp only [Act.put]); (try simp only [List.setIfInBounds_toArray]); (try simp only [List.set_cons_succ, List.set_cons_zero])
    refine wpAnyH_take (i := 23) (v := ?_) rfl (by kernel_rfl) (by kernel_rfl) (by kernel_rfl) (fun _ _ _ h => h) (Or.inl ⟨by kernel_rfl, ?_⟩) HSS.out ?_
    rotate_left
    · (intro u9 hSw; (try dsimp only at hSw); go_simp; try with_reducible rfl)
    show wpAnyH _ _ _ _ _ _ _ (Act.put _ (some 3) _) _
    (try simp only [Act.put]); (try simp only [List.setIfInBounds_toArray]); (try simp only [List.set_cons_succ, List.set_cons_zero])
    refine wpAnyH_done (by kernel_rfl) ?_ _
    refine NoPanic.normal ?_
    go_wp2
    go_ret2
    exact ⟨by first | rfl | kernel_rfl, HE.out _ HSS.out.1.2.out⟩
  · go_simp
    go_at_call 14
    refine (CV1.out _).mono ?_
    rintro e wz ⟨rfl, hb9⟩
    have HS2 : Hid ((wz.cell? ⟨w.heap.size, 0, none⟩ = some (.int .i64 (kd : Int)) ∧ wz.cell? ⟨w.heap.size, 1, none⟩ = some (.int .i64 (wk : Int)) ∧ wz.cell? ⟨w.heap.size, 2, none⟩ = some (.int .i64 (tk : Int)) ∧ wz.cell? ⟨w.heap.size, 3, none⟩ = some (.int .i64 (tr : Int)) ∧ wz.cell? ⟨w.heap.size, 4, none⟩ = some (.string bo)) ∧ Hid (Below W0.heap.size W0 wz)) := ⟨⟨cell_upT hb9 HSS.out.1.1, cell_upT hb9 HSS.out.1.2.1, cell_upT hb9 HSS.out.1.2.2.1, cell_upT hb9 HSS.out.1.2.2.2.1, cell_upT hb9 HSS.out.1.2.2.2.2⟩, HSS.out.2.out.trans (hb9.mono HSS.out.2.out.size)⟩
    dsimp only
    refine hK.out _ _ HS2.out (fun _ => ?_)
    clear hK K hb9 HSS
    have HSS := hidOfT HS2.out
    clear HS2
    try show wpAnyH _ _ _ _ _ _ _ (Act.put _ (some 17) _) _
    (try simp only [Act.put]); (try simp only [List.setIfInBounds_toArray]); (try simp only [List.set_cons_succ, List.set_cons_zero])
    refine wpAnyH_ready (rs := [6, 14]) (by kernel_rfl) (by simp) ?_
    refine AllReadyH.cons rfl (fun K hK => ?_) (AllReadyH.cons rfl (fun K hK => ?_) AllReadyH.nil)
    · go_simp
      have HAL : Hid (Below wz.heap.size wz (wz.alloc (.cells #[.int .u8 (kd : Int), .int .u8 (wk : Int)] 5))) := (show Below wz.heap.size wz (wz.alloc (.cells #[.int .u8 (kd : Int), .int .u8 (wk : Int)] 5)) from (Below.refl _ _).alloc (Nat.le_refl _) _)
      have HSN : Hid (((wz.alloc (.cells #[.int .u8 (kd : Int), .int .u8 (wk : Int)] 5)).cell? ⟨w.heap.size, 0, none⟩ = some (.int .i64 (kd : Int)) ∧ (wz.alloc (.cells #[.int .u8 (kd : Int), .int .u8 (wk : Int)] 5)).cell? ⟨w.heap.size, 1, none⟩ = some (.int .i64 (wk : Int)) ∧ (wz.alloc (.cells #[.int .u8 (kd : Int), .int .u8 (wk : Int)] 5)).cell? ⟨w.heap.size, 2, none⟩ = some (.int .i64 (tk : Int)) ∧ (wz.alloc (.cells #[.int .u8 (kd : Int), .int .u8 (wk : Int)] 5)).cell? ⟨w.heap.size, 3, none⟩ = some (.int .i64 (tr : Int)) ∧ (wz.alloc (.cells #[.int .u8 (kd : Int), .int .u8 (wk : Int)] 5)).cell? ⟨w.heap.size, 4, none⟩ = some (.string bo)) ∧ Hid (Below W0.heap.size W0 (wz.alloc (.cells #[.int .u8 (kd : Int), .int .u8 (wk : Int)] 5)))) := ⟨⟨cell_upT HAL.out HSS.out.1.1, cell_upT HAL.out HSS.out.1.2.1, cell_upT HAL.out HSS.out.1.2.2.1, cell_upT HAL.out HSS.out.1.2.2.2.1, cell_upT HAL.out HSS.out.1.2.2.2.2⟩, HSS.out.2.out.trans (HAL.out.mono HSS.out.2.out.size)⟩
      refine hK.out _ _ HSN.out (fun _ => ?_)
      clear hK K
      obtain ⟨gq, hgq⟩ : ∃ gq, gq = wz.heap.size := ⟨_, rfl⟩
      have HSS2 : Hid ((((wz.alloc (.cells #[.int .u8 (kd : Int), .int .u8 (wk : Int)] 5)).cell? ⟨w.heap.size, 0, none⟩ = some (.int .i64 (kd : Int)) ∧ (wz.alloc (.cells #[.int .u8 (kd : Int), .int .u8 (wk : Int)] 5)).cell? ⟨w.heap.size, 1, none⟩ = some (.int .i64 (wk : Int)) ∧ (wz.alloc (.cells #[.int .u8 (kd : Int), .int .u8 (wk : Int)] 5)).cell? ⟨w.heap.size, 2, none⟩ = some (.int .i64 (tk : Int)) ∧ (wz.alloc (.cells #[.int .u8 (kd : Int), .int .u8 (wk : Int)] 5)).cell? ⟨w.heap.size, 3, none⟩ = some (.int .i64 (tr : Int)) ∧ (wz.alloc (.cells #[.int .u8 (kd : Int), .int .u8 (wk : Int)] 5)).cell? ⟨w.heap.size, 4, none⟩ = some (.string bo)) ∧ Hid (Below W0.heap.size W0 (wz.alloc (.cells #[.int .u8 (kd : Int), .int .u8 (wk : Int)] 5)))) ∧ (wz.alloc (.cells #[.int .u8 (kd : Int), .int .u8 (wk : Int)] 5)).cell? ⟨gq, 0, none⟩ = some (.int .u8 (kd : Int)) ∧ (wz.alloc (.cells #[.int .u8 (kd : Int), .int .u8 (wk : Int)] 5)).cell? ⟨gq, 1, none⟩ = some (.int .u8 (wk : Int)) ∧ gq < (wz.alloc (.cells #[.int .u8 (kd : Int), .int .u8 (wk : Int)] 5)).heap.size) := ⟨HSN.out, by rw [hgq]; exact (blk_cell (heap_alloc_new wz (.cells #[.int .u8 (kd : Int), .int .u8 (wk : Int)] 5)) 0).trans rfl, by rw [hgq]; exact (blk_cell (heap_alloc_new wz (.cells #[.int .u8 (kd : Int), .int .u8 (wk : Int)] 5)) 1).trans rfl, by rw [hgq]; exact blk_lt (heap_alloc_new wz (.cells #[.int .u8 (kd : Int), .int .u8 (wk : Int)] 5))⟩
      clear HSS HSN HAL
      rw [← hgq]
      clear hgq
      generalize (wz.alloc (.cells #[.int .u8 (kd : Int), .int .u8 (wk : Int)] 5)) = wy at *
      have HSS := hidOfT HSS2.out
      clear HSS2
      refine wpAnyH_less (S' := (fun W' => ((W'.cell? ⟨w.heap.size, 0, none⟩ = some (.int .i64 (kd : Int)) ∧ W'.cell? ⟨w.heap.size, 1, none⟩ = some (.int .i64 (wk : Int)) ∧ W'.cell? ⟨w.heap.size, 2, none⟩ = some (.int .i64 (tk : Int)) ∧ W'.cell? ⟨w.heap.size, 3, none⟩ = some (.int .i64 (tr : Int)) ∧ W'.cell? ⟨w.heap.size, 4, none⟩ = some (.string bo)) ∧ Hid (Below W0.heap.size W0 W')) ∧ W'.cell? ⟨gq, 0, none⟩ = some (.int .u8 (kd : Int)) ∧ W'.cell? ⟨gq, 1, none⟩ = some (.int .u8 (wk : Int)) ∧ gq < W'.heap.size)) (fun W hW => hW.1) _ _ _ _ ?_
      (try simp only [Act.put]); (try simp only [List.setIfInBounds_toArray]); (try simp only [List.set_cons_succ, List.set_cons_zero])
      refine wpAnyH_take (i := 7) (v := .string A) rfl (by kernel_rfl) (by kernel_rfl) (by kernel_rfl) (fun _ _ _ h => h) (Or.inl ⟨by kernel_rfl, ?_⟩) HSS.out ?_
      · (intro u9 hSw; have hcv9 := HCV.out u9 gq hSw.2.1 hSw.2.2.1; clear hSw; go_simp)
      show wpAnyH _ _ _ _ _ _ _ (Act.put _ (some 14) _) _
      (try simp only [Act.put]); (try simp only [List.setIfInBounds_toArray]); (try simp only [List.set_cons_succ, List.set_cons_zero])
      refine wpAnyH_take (i := 11) (v := ?_) rfl (by kernel_rfl) (by kernel_rfl) (by kernel_rfl) (fun _ _ _ h => h) (Or.inl ⟨by kernel_rfl, ?_⟩) HSS.out ?_
      rotate_left
      · (intro u9 hSw; (try dsimp only at hSw); go_simp; try with_reducible rfl)
      show wpAnyH _ _ _ _ _ _ _ (Act.put _ (some 18) _) _
      (try simp only [Act.put]); (try simp only [List.setIfInBounds_toArray]); (try simp only [List.set_cons_succ, List.set_cons_zero])
      refine wpAnyH_ready (rs := [14]) (by kernel_rfl) (by simp) ?_
      refine AllReadyH.cons rfl (fun K hK => ?_) AllReadyH.nil
      go_simp
      go_at_call 14
      refine (CV2.out _).mono ?_
      rintro e wz ⟨rfl, hb9⟩
      have HS2 : Hid (((wz.cell? ⟨w.heap.size, 0, none⟩ = some (.int .i64 (kd : Int)) ∧ wz.cell? ⟨w.heap.size, 1, none⟩ = some (.int .i64 (wk : Int)) ∧ wz.cell? ⟨w.heap.size, 2, none⟩ = some (.int .i64 (tk : Int)) ∧ wz.cell? ⟨w.heap.size, 3, none⟩ = some (.int .i64 (tr : Int)) ∧ wz.cell? ⟨w.heap.size, 4, none⟩ = some (.string bo)) ∧ Hid (Below W0.heap.size W0 wz)) ∧ wz.cell? ⟨gq, 0, none⟩ = some (.int .u8 (kd : Int)) ∧ wz.cell? ⟨gq, 1, none⟩ = some (.int .u8 (wk : Int)) ∧ gq < wz.heap.size) := ⟨⟨⟨cell_upT hb9 HSS.out.1.1.1, cell_upT hb9 HSS.out.1.1.2.1, cell_upT hb9 HSS.out.1.1.2.2.1, cell_upT hb9 HSS.out.1.1.2.2.2.1, cell_upT hb9 HSS.out.1.1.2.2.2.2⟩, HSS.out.1.2.out.trans (hb9.mono HSS.out.1.2.out.size)⟩, cell_upT hb9 HSS.out.2.1, cell_upT hb9 HSS.out.2.2.1, Nat.lt_of_lt_of_le HSS.out.2.2.2 hb9.size⟩
      dsimp only
      refine hK.out _ _ HS2.out (fun _ => ?_)
      clear hK K hb9 HSS
      have HSS := hidOfT HS2.out
      clear HS2
      try show wpAnyH _ _ _ _ _ _ _ (Act.put _ (some 21) _) _
      (try simp only [Act.put]); (try simp only [List.setIfInBounds_toArray]); (try simp only [List.set_cons_succ, List.set_cons_zero])
      refine wpAnyH_take (i := 15) (v := ?_) rfl (by kernel_rfl) (by kernel_rfl) (by kernel_rfl) (fun _ _ _ h => h) (Or.inl ⟨by kernel_rfl, ?_⟩) HSS.out ?_
      rotate_left
      · (intro u9 hSw; (try dsimp only at hSw); go_simp; try with_reducible rfl)
      show wpAnyH _ _ _ _ _ _ _ (Act.put _ (some 22) _) _
      (try simp only [Act.put]); (try simp only [List.setIfInBounds_toArray]); (try simp only [List.set_cons_succ, List.set_cons_zero])
      refine wpAnyH_take (i := 18) (v := ?_) rfl (by kernel_rfl) (by kernel_rfl) (by kernel_rfl) (fun _ _ _ h => h) (Or.inl ⟨by kernel_rfl, ?_⟩) HSS.out ?_
      rotate_left
      · (intro u9 hSw; (try dsimp only at hSw); go_simp; try with_reducible rfl)
      show wpAnyH _ _ _ _ _ _ _ (Act.put _ (some 25) _) _
      (try simp only [Act.put]); (try simp only [List.setIfInBounds_toArray]); (try simp only [List.set_cons_succ, List.set_cons_zero])
      refine wpAnyH_ready (rs := [19]) (by kernel_rfl) (by simp) ?_
      refine AllReadyH.cons rfl (fun K hK => ?_) AllReadyH.nil
      go_simp
      go_at_call 13
      refine (CSE.out _).mono ?_
      rintro e wz ⟨rfl, hb9⟩
      have HS2 : Hid (((wz.cell? ⟨w.heap.size, 0, none⟩ = some (.int .i64 (kd : Int)) ∧ wz.cell? ⟨w.heap.size, 1, none⟩ = some (.int .i64 (wk : Int)) ∧ wz.cell? ⟨w.heap.size, 2, none⟩ = some (.int .i64 (tk : Int)) ∧ wz.cell? ⟨w.heap.size, 3, none⟩ = some (.int .i64 (tr : Int)) ∧ wz.cell? ⟨w.heap.size, 4, none⟩ = some (.string bo)) ∧ Hid (Below W0.heap.size W0 wz)) ∧ wz.cell? ⟨gq, 0, none⟩ = some (.int .u8 (kd : Int)) ∧ wz.cell? ⟨gq, 1, none⟩ = some (.int .u8 (wk : Int)) ∧ gq < wz.heap.size) := ⟨⟨⟨cell_upT hb9 HSS.out.1.1.1, cell_upT hb9 HSS.out.1.1.2.1, cell_upT hb9 HSS.out.1.1.2.2.1, cell_upT hb9 HSS.out.1.1.2.2.2.1, cell_upT hb9 HSS.out.1.1.2.2.2.2⟩, HSS.out.1.2.out.trans (hb9.mono HSS.out.1.2.out.size)⟩, cell_upT hb9 HSS.out.2.1, cell_upT hb9 HSS.out.2.2.1, Nat.lt_of_lt_of_le HSS.out.2.2.2 hb9.size⟩
      dsimp only
      refine hK.out _ _ HS2.out (fun _ => ?_)
      clear hK K hb9 HSS
      have HSS := hidOfT HS2.out
      clear HS2
      try show wpAnyH _ _ _ _ _ _ _ (Act.put _ (some 26) _) _
      (try simp only [Act.put]); (try simp only [List.setIfInBounds_toArray]); (try simp only [List.set_cons_succ, List.set_cons_zero])
      refine wpAnyH_take (i := 20) (v := ?_) rfl (by kernel_rfl) (by kernel_rfl) (by kernel_rfl) (fun _ _ _ h => h) (Or.inl ⟨by kernel_rfl, ?_⟩) HSS.out ?_
      rotate_left
      · (intro u9 hSw; (try dsimp only at hSw); go_simp; try with_reducible rfl)
      show wpAnyH _ _ _ _ _ _ _ (Act.put _ (some 27) _) _
      (try simp only [Act.put]); (try simp only [List.setIfInBounds_toArray]); (try simp only [List.set_cons_succ, List.set_cons_zero])
      refine wpAnyH_take (i := 21) (v := ?_) rfl (by kernel_rfl) (by kernel_rfl) (by kernel_rfl) (fun _ _ _ h => h) (Or.inl ⟨by kernel_rfl, ?_⟩) HSS.out ?_
      rotate_left
      · (intro u9 hSw; (try dsimp only at hSw); go_simp; try with_reducible rfl)
      show wpAnyH _ _ _ _ _ _ _ (Act.put _ (some 28) _) _
      (try simp only [Act.put]); (try simp only [List.setIfInBounds_toArray]); (try simp only [List.set_cons_succ, List.set_cons_zero])
      refine wpAnyH_take (i := 22) (v := ?_) rfl (by kernel_rfl) (by kernel_rfl) (by kernel_rfl) (fun _ _ _ h => h) (Or.inl ⟨by kernel_rfl, ?_⟩) HSS.out ?_
      rotate_left
      · (intro u9 hSw; (try dsimp only at hSw); go_simp; try with_reducible rfl)
      show wpAnyH _ _ _ _ _ _ _ (Act.put _ (some 2) _) _
      (try simp only [Act.put]); (try simp only [List.setIfInBounds_toArray]); (try simp only [List.set_cons_succ, List.set_cons_zero])
      refine wpAnyH_take (i := 23) (v := ?_) rfl (by kernel_rfl) (by kernel_rfl) (by kernel_rfl) (fun _ _ _ h => h) (Or.inl ⟨by kernel_rfl, ?_⟩) HSS.out ?_
      rotate_left
      · (intro u9 hSw; (try dsimp only at hSw); go_simp; try with_reducible rfl)
      show wpAnyH _ _ _ _ _ _ _ (Act.put _ (some 3) _) _
      (try simp only [Act.put]); (try simp only [List.setIfInBounds_toArray]); (try simp only [List.set_cons_succ, List.set_cons_zero])
      refine wpAnyH_done (by kernel_rfl) ?_ _
      refine NoPanic.normal ?_
      go_wp2
      go_ret2
      exact ⟨by first | rfl | kernel_rfl, HE.out _ HSS.out.1.2.out⟩
    · go_simp
      go_at_call 14
      refine (CV2.out _).mono ?_
      rintro e wx ⟨rfl, hb9⟩
      have HS2 : Hid ((wx.cell? ⟨w.heap.size, 0, none⟩ = some (.int .i64 (kd : Int)) ∧ wx.cell? ⟨w.heap.size, 1, none⟩ = some (.int .i64 (wk : Int)) ∧ wx.cell? ⟨w.heap.size, 2, none⟩ = some (.int .i64 (tk : Int)) ∧ wx.cell? ⟨w.heap.size, 3, none⟩ = some (.int .i64 (tr : Int)) ∧ wx.cell? ⟨w.heap.size, 4, none⟩ = some (.string bo)) ∧ Hid (Below W0.heap.size W0 wx)) := ⟨⟨cell_upT hb9 HSS.out.1.1, cell_upT hb9 HSS.out.1.2.1, cell_upT hb9 HSS.out.1.2.2.1, cell_upT hb9 HSS.out.1.2.2.2.1, cell_upT hb9 HSS.out.1.2.2.2.2⟩, HSS.out.2.out.trans (hb9.mono HSS.out.2.out.size)⟩
      dsimp only
      refine hK.out _ _ HS2.out (fun _ => ?_)
      clear hK K hb9 HSS
      have HSS := hidOfT HS2.out
      clear HS2
      try show wpAnyH _ _ _ _ _ _ _ (Act.put _ (some 21) _) _
      (try simp only [Act.put]); (try simp only [List.setIfInBounds_toArray]); (try simp only [List.set_cons_succ, List.set_cons_zero])
      refine wpAnyH_ready (rs := [6]) (by kernel_rfl) (by simp) ?_
      refine AllReadyH.cons rfl (fun K hK => ?_) AllReadyH.nil
      go_simp
      have HAL : Hid (Below wx.heap.size wx (wx.alloc (.cells #[.int .u8 (kd : Int), .int .u8 (wk : Int)] 5))) := (show Below wx.heap.size wx (wx.alloc (.cells #[.int .u8 (kd : Int), .int .u8 (wk : Int)] 5)) from (Below.refl _ _).alloc (Nat.le_refl _) _)
      have HSN : Hid (((wx.alloc (.cells #[.int .u8 (kd : Int), .int .u8 (wk : Int)] 5)).cell? ⟨w.heap.size, 0, none⟩ = some (.int .i64 (kd : Int)) ∧ (wx.alloc (.cells #[.int .u8 (kd : Int), .int .u8 (wk : Int)] 5)).cell? ⟨w.heap.size, 1, none⟩ = some (.int .i64 (wk : Int)) ∧ (wx.alloc (.cells #[.int .u8 (kd : Int), .int .u8 (wk : Int)] 5)).cell? ⟨w.heap.size, 2, none⟩ = some (.int .i64 (tk : Int)) ∧ (wx.alloc (.cells #[.int .u8 (kd : Int), .int .u8 (wk : Int)] 5)).cell? ⟨w.heap.size, 3, none⟩ = some (.int .i64 (tr : Int)) ∧ (wx.alloc (.cells #[.int .u8 (kd : Int), .int .u8 (wk : Int)] 5)).cell? ⟨w.heap.size, 4, none⟩ = some (.string bo)) ∧ Hid (Below W0.heap.size W0 (wx.alloc (.cells #[.int .u8 (kd : Int), .int .u8 (wk : Int)] 5)))) := ⟨⟨cell_upT HAL.out HSS.out.1.1, cell_upT HAL.out HSS.out.1.2.1, cell_upT HAL.out HSS.out.1.2.2.1, cell_upT HAL.out HSS.out.1.2.2.2.1, cell_upT HAL.out HSS.out.1.2.2.2.2⟩, HSS.out.2.out.trans (HAL.out.mono HSS.out.2.out.size)⟩
      refine hK.out _ _ HSN.out (fun _ => ?_)
      clear hK K
      obtain ⟨gq, hgq⟩ : ∃ gq, gq = wx.heap.size := ⟨_, rfl⟩
      have HSS2 : Hid ((((wx.alloc (.cells #[.int .u8 (kd : Int), .int .u8 (wk : Int)] 5)).cell? ⟨w.heap.size, 0, none⟩ = some (.int .i64 (kd : Int)) ∧ (wx.alloc (.cells #[.int .u8 (kd : Int), .int .u8 (wk : Int)] 5)).cell? ⟨w.heap.size, 1, none⟩ = some (.int .i64 (wk : Int)) ∧ (wx.alloc (.cells #[.int .u8 (kd : Int), .int .u8 (wk : Int)] 5)).cell? ⟨w.heap.size, 2, none⟩ = some (.int .i64 (tk : Int)) ∧ (wx.alloc (.cells #[.int .u8 (kd : Int), .int .u8 (wk : Int)] 5)).cell? ⟨w.heap.size, 3, none⟩ = some (.int .i64 (tr : Int)) ∧ (wx.alloc (.cells #[.int .u8 (kd : Int), .int .u8 (wk : Int)] 5)).cell? ⟨w.heap.size, 4, none⟩ = some (.string bo)) ∧ Hid (Below W0.heap.size W0 (wx.alloc (.cells #[.int .u8 (kd : Int), .int .u8 (wk : Int)] 5)))) ∧ (wx.alloc (.cells #[.int .u8 (kd : Int), .int .u8 (wk : Int)] 5)).cell? ⟨gq, 0, none⟩ = some (.int .u8 (kd : Int)) ∧ (wx.alloc (.cells #[.int .u8 (kd : Int), .int .u8 (wk : Int)] 5)).cell? ⟨gq, 1, none⟩ = some (.int .u8 (wk : Int)) ∧ gq < (wx.alloc (.cells #[.int .u8 (kd : Int), .int .u8 (wk : Int)] 5)).heap.size) := ⟨HSN.out, by rw [hgq]; exact (blk_cell (heap_alloc_new wx (.cells #[.int .u8 (kd : Int), .int .u8 (wk : Int)] 5)) 0).trans rfl, by rw [hgq]; exact (blk_cell (heap_alloc_new wx (.cells #[.int .u8 (kd : Int), .int .u8 (wk : Int)] 5)) 1).trans rfl, by rw [hgq]; exact blk_lt (heap_alloc_new wx (.cells #[.int .u8 (kd : Int), .int .u8 (wk : Int)] 5))⟩
      clear HSS HSN HAL
      rw [← hgq]
      clear hgq
      generalize (wx.alloc (.cells #[.int .u8 (kd : Int), .int .u8 (wk : Int)] 5)) = wy at *
      have HSS := hidOfT HSS2.out
      clear HSS2
      refine wpAnyH_less (S' := (fun W' => ((W'.cell? ⟨w.heap.size, 0, none⟩ = some (.int .i64 (kd : Int)) ∧ W'.cell? ⟨w.heap.size, 1, none⟩ = some (.int .i64 (wk : Int)) ∧ W'.cell? ⟨w.heap.size, 2, none⟩ = some (.int .i64 (tk : Int)) ∧ W'.cell? ⟨w.heap.size, 3, none⟩ = some (.int .i64 (tr : Int)) ∧ W'.cell? ⟨w.heap.size, 4, none⟩ = some (.string bo)) ∧ Hid (Below W0.heap.size W0 W')) ∧ W'.cell? ⟨gq, 0, none⟩ = some (.int .u8 (kd : Int)) ∧ W'.cell? ⟨gq, 1, none⟩ = some (.int .u8 (wk : Int)) ∧ gq < W'.heap.size)) (fun W hW => hW.1) _ _ _ _ ?_
      (try simp only [Act.put]); (try simp only [List.setIfInBounds_toArray]); (try simp only [List.set_cons_succ, List.set_cons_zero])
      refine wpAnyH_take (i := 7) (v := .string A) rfl (by kernel_rfl) (by kernel_rfl) (by kernel_rfl) (fun _ _ _ h => h) (Or.inl ⟨by kernel_rfl, ?_⟩) HSS.out ?_
      · (intro u9 hSw; have hcv9 := HCV.out u9 gq hSw.2.1 hSw.2.2.1; clear hSw; go_simp)
      show wpAnyH _ _ _ _ _ _ _ (Act.put _ (some 14) _) _
      (try simp only [Act.put]); (try simp only [List.setIfInBounds_toArray]); (try simp only [List.set_cons_succ, List.set_cons_zero])
      refine wpAnyH_take (i := 11) (v := ?_) rfl (by kernel_rfl) (by kernel_rfl) (by kernel_rfl) (fun _ _ _ h => h) (Or.inl ⟨by kernel_rfl, ?_⟩) HSS.out ?_
      rotate_left
      · (intro u9 hSw; (try dsimp only at hSw); go_simp; try with_reducible rfl)
      show wpAnyH _ _ _ _ _ _ _ (Act.put _ (some 18) _) _
      (try simp only [Act.put]); (try simp only [List.setIfInBounds_toArray]); (try simp only [List.set_cons_succ, List.set_cons_zero])
      refine wpAnyH_take (i := 15) (v := ?_) rfl (by kernel_rfl) (by kernel_rfl) (by kernel_rfl) (fun _ _ _ h => h) (Or.inl ⟨by kernel_rfl, ?_⟩) HSS.out ?_
      rotate_left
      · (intro u9 hSw; (try dsimp only at hSw); go_simp; try with_reducible rfl)
      show wpAnyH _ _ _ _ _ _ _ (Act.put _ (some 22) _) _
      (try simp only [Act.put]); (try simp only [List.setIfInBounds_toArray]); (try simp only [List.set_cons_succ, List.set_cons_zero])
      refine wpAnyH_take (i := 18) (v := ?_) rfl (by kernel_rfl) (by kernel_rfl) (by kernel_rfl) (fun _ _ _ h => h) (Or.inl ⟨by kernel_rfl, ?_⟩) HSS.out ?_
      rotate_left
      · (intro u9 hSw; (try dsimp only at hSw); go_simp; try with_reducible rfl)
      show wpAnyH _ _ _ _ _ _ _ (Act.put _ (some 25) _) _
      (try simp only [Act.put]); (try simp only [List.setIfInBounds_toArray]); (try simp only [List.set_cons_succ, List.set_cons_zero])
      refine wpAnyH_ready (rs := [19]) (by kernel_rfl) (by simp) ?_
      refine AllReadyH.cons rfl (fun K hK => ?_) AllReadyH.nil
      go_simp
      go_at_call 13
      refine (CSE.out _).mono ?_
      rintro e wz ⟨rfl, hb9⟩
      have HS2 : Hid (((wz.cell? ⟨w.heap.size, 0, none⟩ = some (.int .i64 (kd : Int)) ∧ wz.cell? ⟨w.heap.size, 1, none⟩ = some (.int .i64 (wk : Int)) ∧ wz.cell? ⟨w.heap.size, 2, none⟩ = some (.int .i64 (tk : Int)) ∧ wz.cell? ⟨w.heap.size, 3, none⟩ = some (.int .i64 (tr : Int)) ∧ wz.cell? ⟨w.heap.size, 4, none⟩ = some (.string bo)) ∧ Hid (Below W0.heap.size W0 wz)) ∧ wz.cell? ⟨gq, 0, none⟩ = some (.int .u8 (kd : Int)) ∧ wz.cell? ⟨gq, 1, none⟩ = some (.int .u8 (wk : Int)) ∧ gq < wz.heap.size) := ⟨⟨⟨cell_upT hb9 HSS.out.1.1.1, cell_upT hb9 HSS.out.1.1.2.1, cell_upT hb9 HSS.out.1.1.2.2.1, cell_upT hb9 HSS.out.1.1.2.2.2.1, cell_upT hb9 HSS.out.1.1.2.2.2.2⟩, HSS.out.1.2.out.trans (hb9.mono HSS.out.1.2.out.size)⟩, cell_upT hb9 HSS.out.2.1, cell_upT hb9 HSS.out.2.2.1, Nat.lt_of_lt_of_le HSS.out.2.2.2 hb9.size⟩
      dsimp only
      refine hK.out _ _ HS2.out (fun _ => ?_)
      clear hK K hb9 HSS
      have HSS := hidOfT HS2.out
      clear HS2
      try show wpAnyH _ _ _ _ _ _ _ (Act.put _ (some 26) _) _
      (try simp only [Act.put]); (try simp only [List.setIfInBounds_toArray]); (try simp only [List.set_cons_succ, List.set_cons_zero])
      refine wpAnyH_take (i := 20) (v := ?_) rfl (by kernel_rfl) (by kernel_rfl) (by kernel_rfl) (fun _ _ _ h => h) (Or.inl ⟨by kernel_rfl, ?_⟩) HSS.out ?_
      rotate_left
      · (intro u9 hSw; (try dsimp only at hSw); go_simp; try with_reducible rfl)
      show wpAnyH _ _ _ _ _ _ _ (Act.put _ (some 27) _) _
      (try simp only [Act.put]); (try simp only [List.setIfInBounds_toArray]); (try simp only [List.set_cons_succ, List.set_cons_zero])
      refine wpAnyH_take (i := 21) (v := ?_) rfl (by kernel_rfl) (by kernel_rfl) (by kernel_rfl) (fun _ _ _ h => h) (Or.inl ⟨by kernel_rfl, ?_⟩) HSS.out ?_
      rotate_left
      · (intro u9 hSw; (try dsimp only at hSw); go_simp; try with_reducible rfl)
      show wpAnyH _ _ _ _ _ _ _ (Act.put _ (some 28) _) _
      (try simp only [Act.put]); (try simp only [List.setIfInBounds_toArray]); (try simp only [List.set_cons_succ, List.set_cons_zero])
      refine wpAnyH_take (i := 22) (v := ?_) rfl (by kernel_rfl) (by kernel_rfl) (by kernel_rfl) (fun _ _ _ h => h) (Or.inl ⟨by kernel_rfl, ?_⟩) HSS.out ?_
      rotate_left
      · (intro u9 hSw; (try dsimp only at hSw); go_simp; try with_reducible rfl)
      show wpAnyH _ _ _ _ _ _ _ (Act.put _ (some 2) _) _
      (try simp only [Act.put]); (try simp only [List.setIfInBounds_toArray]); (try simp only [List.set_cons_succ, List.set_cons_zero])
      refine wpAnyH_take (i := 23) (v := ?_) rfl (by kernel_rfl) (by kernel_rfl) (by kernel_rfl) (fun _ _ _ h => h) (Or.inl ⟨by kernel_rfl, ?_⟩) HSS.out ?_
      rotate_left
      · (intro u9 hSw; (try dsimp only at hSw); go_simp; try with_reducible rfl)
      show wpAnyH _ _ _ _ _ _ _ (Act.put _ (some 3) _) _
      (try simp only [Act.put]); (try simp only [List.setIfInBounds_toArray]); (try simp only [List.set_cons_succ, List.set_cons_zero])
      refine wpAnyH_done (by kernel_rfl) ?_ _
      refine NoPanic.normal ?_
      go_wp2
      go_ret2
      exact ⟨by first | rfl | kernel_rfl, HE.out _ HSS.out.1.2.out⟩
end Go.Proofs.YtdkenmpdgadcpaaDoor
