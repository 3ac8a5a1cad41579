/- Where a piece may end, by the specification: one of two pieces. Where a piece may end, by the specification: two pieces, one behind the other. -/
import Derived.Test.YtlnmbahakdmkgaaZam
namespace Go.Proofs.Ytlnmbahakdmkgaa
section PartSpH
open Go.RowKit

set_option maxHeartbeats 4000000 in
set_option maxRecDepth 100000 in
theorem spAlt (c : Mm) (L : Lie c) (i a0 a1 : Nat) (tx : ByteArray) (kv : Value) (hkv : KidsAt c.wI kv [(a0 : Int), (a1 : Int)]) (hC0 : AtC c a0) (hC1 : AtC c a1) (X : Nat → Prop) (w : World) (hX : ∀ b, X b → c.M1 ≤ b ∧ b < w.heap.size) (h : Memo c X w) (hi : i < c.s.size + 1) :
    Calls Try.prog 42 #[.pointer (some ⟨c.m, 0, none⟩), .agg #[.int .i64 6, .string tx, kv], .int .i64 (i : Int)] w (fun e w' => ∃ q, e = .returned (.slice (some ⟨q, 0, none⟩) (c.s.size + 1) (c.s.size + 1)) ∧ w.heap.size ≤ q ∧ BAt w' q (c.s.size + 1) (fun j => En.Ends c.ps c.s a0 i j ∨ En.Ends c.ps c.s a1 i j) ∧ Memo c (fun b => X b ∨ b = q) w' ∧ FM c.M0 c.M1 w w') := by
  have c1 : w.cell? ⟨c.m, 1, none⟩ = some (.string c.s) := by rw [blk_cell h.1]; rfl
  have hs := L.hs
  obtain ⟨M, ⟨hMs, hMat⟩, hM, hmk⟩ := makeB_run (c.s.size + 1) (by omega)
  have hmk1 : ∀ W : World, (Instr.makeSlice 51 (.int .i64 ((c.s.size : Int) + 1)) (.int .i64 ((c.s.size : Int) + 1))).run Try.prog W = .ok (.slice (some ⟨W.heap.size, 0, none⟩) (c.s.size + 1) (c.s.size + 1)) (W.alloc (.cells M 4)) := hmk
  have HT : Hid (Bt c X w 6 tx kv ((w.alloc (.cells #[.int .i64 6, .string tx, kv] 81)).alloc (.cells M 4)) (fun _ => false)) := Bt.begin c L X w hX h 6 tx kv M hMs hMat
  have hMl : c.M1 ≤ w.heap.size := h.2.2.2.2.2
  have HX : Hid (∀ b, X b → c.M1 ≤ b ∧ b < w.heap.size) := hX
  have HL : Hid (Lie c) := L
  have HC0 : Hid (AtC c a0) := hC0
  have HC1 : Hid (AtC c a1) := hC1
  have hml : c.m < w.heap.size := World.block_lt_of_cell? w _ c1
  have c1' : ∀ o : Obj, (w.alloc o).cell? ⟨c.m, 1, none⟩ = some (.string c.s) := fun o => (((Below.refl w.heap.size w).alloc (Nat.le_refl _) o).cell (p := ⟨c.m, 1, none⟩) hml).trans c1
  obtain ⟨ka, kc, rfl, hf⟩ := hkv
  obtain ⟨kb, ko, rfl, hkl, hkc⟩ := hf (by simp)
  have HKC : Hid (∀ (wr : World) (fo : Nat → Bool), Bt c X w 6 tx (.slice (some ⟨kb, ko, none⟩) 2 kc) wr fo → wr.cell? ⟨kb, ko, none⟩ = some (.int .i64 (a0 : Int)) ∧ wr.cell? ⟨kb, ko + 1, none⟩ = some (.int .i64 (a1 : Int))) := by
    intro wr fo ht
    have hbl := ht.mem.2.2.2.2.1
    rw [L.hI] at hbl
    exact ⟨(hbl.cell (p := ⟨kb, ko, none⟩) hkl).trans (hkc 0 (by simp)), (hbl.cell (p := ⟨kb, ko + 1, none⟩) hkl).trans (hkc 1 (by simp))⟩
  simp only [List.length_cons, List.length_nil, Nat.zero_add, Nat.reduceAdd] at HT ⊢
  clear hmk h hX hC0 hC1 L hM hMat hkc hkl hf
  go_enter Try.func42, Try.ntmps42
  obtain ⟨k0, k1⟩ := HKC.out _ _ HT.out
  obtain ⟨x0, x1, x2⟩ := HT.out.cells
  go_wp2_with fail
  refine (HC0.out _ _ i (HT.out.low hMl HX.out) HT.out.mem hi).mono ?_
  rintro e w1 ⟨q, cc, rfl, hq1, hq2, hq3, hq4, hq5⟩
  obtain ⟨f, hf, hor⟩ := Or.start (HT.out.called hMl hq4 hq5) _ hq3 hq2
  have HF : Hid (∀ j, j < c.s.size + 1 → (f j = true ↔ En.Ends c.ps c.s a0 i j)) := hf
  have HO : Hid (Or c X w 6 tx (.slice (some ⟨kb, ko, none⟩) 2 kc) q f (fun _ => false) 0 w1 (fun _ => false)) := hor
  clear hq1 hq2 hq3 hq4 hq5 hf hor HT k0 k1 x0 x1 x2 c1 c1' hmk1
  go_wp2_with fail
  go_loopw [9] (fun j wr => ∃ (t : Nat) (fo : Nat → Bool), j = .int .i64 (t : Int) ∧ t ≤ c.s.size + 1 ∧ Hid (Or c X w 6 tx (.slice (some ⟨kb, ko, none⟩) 2 kc) q f (fun _ => false) t wr fo)) (fun j _ => c.s.size + 1 - (intOf j).toNat)
  case atStart => exact ⟨0, _, rfl, by omega, HO.out⟩
  case round =>
    obtain ⟨t, fo, rfl, ht, HJ⟩ := hrel
    obtain ⟨x0, x1, x2⟩ := HJ.out.bt.cells
    by_cases hlt : t < c.s.size + 1
    · have l1 := HJ.out.ls t hlt
      obtain ⟨o1, o2⟩ := HJ.out.bt.bo.cell t hlt
      obtain ⟨x, hx⟩ : ∃ x, x = fo t := ⟨_, rfl⟩
      obtain ⟨y, hy⟩ : ∃ y, y = f t := ⟨_, rfl⟩
      rw [← hy] at l1
      rw [← hx] at o1
      have HXX : Hid (x = fo t) := hx
      have HYY : Hid (y = f t) := hy
      clear hx hy HO
      have t1 : (t : Int) < ((c.s.size + 1 : Nat) : Int) := by omega
      cases x with
      | true =>
        have HJ1 : Hid (Or c X w 6 tx (.slice (some ⟨kb, ko, none⟩) 2 kc) q f (fun _ => false) (t + 1) (wr.setCell ⟨w.heap.size + 1, t, none⟩ (.bool true)) (fun j => if j = t then true else fo j)) := HJ.out.step HL.out hMl HX.out hlt true (by rw [← HXX.out]; rfl)
        clear HJ HXX HYY
        go_wp2_with fail
        go_roundw
        case rel => exact ⟨t + 1, _, by go_num, by omega, HJ1.out⟩
        case measure => simp [intOf]; omega
      | false =>
        have HJ1 : Hid (Or c X w 6 tx (.slice (some ⟨kb, ko, none⟩) 2 kc) q f (fun _ => false) (t + 1) (wr.setCell ⟨w.heap.size + 1, t, none⟩ (.bool y)) (fun j => if j = t then y else fo j)) := HJ.out.step HL.out hMl HX.out hlt y (by rw [← HXX.out, ← HYY.out]; rfl)
        clear HJ HXX HYY
        go_wp2_with fail
        go_roundw
        case rel => exact ⟨t + 1, _, by go_num, by omega, HJ1.out⟩
        case measure => simp [intOf]; omega
    · obtain rfl : t = c.s.size + 1 := by omega
      have HB : Hid (Bt c X w 6 tx (.slice (some ⟨kb, ko, none⟩) 2 kc) wr fo) := HJ.out.bt
      have HF1 : Hid (∀ j, j < c.s.size + 1 → (fo j = true ↔ En.Ends c.ps c.s a0 i j)) := fun j hj => (HJ.out.fin j hj).trans (by simpa using HF.out j hj)
      obtain ⟨k0, k1⟩ := HKC.out _ _ HB.out
      clear HJ HF HO
      obtain ⟨wo, hwo⟩ : ∃ wo : World, wo = wr := ⟨_, rfl⟩
      go_wp2_with fail
      refine (HC1.out _ _ i (HB.out.low hMl HX.out) HB.out.mem hi).mono ?_
      rintro e w2 ⟨q2, cc2, rfl, hq1, hq2, hq3, hq4, hq5⟩
      obtain ⟨f2, hf2, hor2⟩ := Or.start (HB.out.called hMl hq4 hq5) _ hq3 hq2
      have HF2 : Hid (∀ j, j < c.s.size + 1 → (f2 j = true ↔ En.Ends c.ps c.s a1 i j)) := hf2
      have HO2 : Hid (Or c X w 6 tx (.slice (some ⟨kb, ko, none⟩) 2 kc) q2 f2 fo 0 w2 fo) := hor2
      clear hq1 hq2 hq3 hq4 hq5 hf2 hor2 HB k0 k1 x0 x1 x2 hwo
      go_wp2_with fail
      go_loopw [13] (fun j wr => ∃ (t : Nat) (fo2 : Nat → Bool), j = .int .i64 (t : Int) ∧ t ≤ c.s.size + 1 ∧ Hid (Or c X w 6 tx (.slice (some ⟨kb, ko, none⟩) 2 kc) q2 f2 fo t wr fo2)) (fun j _ => c.s.size + 1 - (intOf j).toNat)
      case atStart => exact ⟨0, _, rfl, by omega, HO2.out⟩
      case round =>
        obtain ⟨t, fo2, rfl, ht, HJ⟩ := hrel
        by_cases hlt : t < c.s.size + 1
        · have l1 := HJ.out.ls t hlt
          obtain ⟨o1, o2⟩ := HJ.out.bt.bo.cell t hlt
          obtain ⟨x, hx⟩ : ∃ x, x = fo2 t := ⟨_, rfl⟩
          obtain ⟨y, hy⟩ : ∃ y, y = f2 t := ⟨_, rfl⟩
          rw [← hy] at l1
          rw [← hx] at o1
          have HXX : Hid (x = fo2 t) := hx
          have HYY : Hid (y = f2 t) := hy
          clear hx hy HO2
          have t1 : (t : Int) < ((c.s.size + 1 : Nat) : Int) := by omega
          cases x with
          | true =>
            have HJ1 : Hid (Or c X w 6 tx (.slice (some ⟨kb, ko, none⟩) 2 kc) q2 f2 fo (t + 1) (wr.setCell ⟨w.heap.size + 1, t, none⟩ (.bool true)) (fun j => if j = t then true else fo2 j)) := HJ.out.step HL.out hMl HX.out hlt true (by rw [← HXX.out]; rfl)
            clear HJ HXX HYY
            go_wp2_with fail
            go_roundw
            case rel => exact ⟨t + 1, _, by go_num, by omega, HJ1.out⟩
            case measure => simp [intOf]; omega
          | false =>
            have HJ1 : Hid (Or c X w 6 tx (.slice (some ⟨kb, ko, none⟩) 2 kc) q2 f2 fo (t + 1) (wr.setCell ⟨w.heap.size + 1, t, none⟩ (.bool y)) (fun j => if j = t then y else fo2 j)) := HJ.out.step HL.out hMl HX.out hlt y (by rw [← HXX.out, ← HYY.out]; rfl)
            clear HJ HXX HYY
            go_wp2_with fail
            go_roundw
            case rel => exact ⟨t + 1, _, by go_num, by omega, HJ1.out⟩
            case measure => simp [intOf]; omega
        · obtain rfl : t = c.s.size + 1 := by omega
          clear HO2
          go_wp2_with fail
          go_ret
          exact ⟨_, rfl, by omega, HJ.out.bt.bo.at _ (fun j hj => (HJ.out.fin j hj).trans (by rw [HF1.out j hj, HF2.out j hj])), HJ.out.bt.mem, HJ.out.bt.fm⟩
end PartSpH
section PartSpI
open Go.RowKit

/-- What 'both' keeps, behind the ends below t of the first piece. -/
structure Ct (c : Mm) (X : Nat → Prop) (w : World) (tx : ByteArray) (kv : Value) (q i a0 a1 t : Nat) (wr : World) (fo : Nat → Bool) : Prop where
  bt : Bt c X w 5 tx kv wr fo
  ls : BAt wr q (c.s.size + 1) (En.Ends c.ps c.s a0 i)
  nq : ¬ (X q ∨ q = w.heap.size + 1)
  lo : c.M1 ≤ q
  is : ∀ u, u < c.s.size + 1 → (fo u = true ↔ ∃ j, j < t ∧ En.Ends c.ps c.s a0 i j ∧ En.Ends c.ps c.s a1 j u)
section
variable {c : Mm} {X : Nat → Prop} {w wr : World} {tx : ByteArray} {kv : Value} {q i a0 a1 t : Nat} {fo : Nat → Bool}
theorem Ct.skip (h : Ct c X w tx kv q i a0 a1 t wr fo) (hn : ¬ En.Ends c.ps c.s a0 i t) : Ct c X w tx kv q i a0 a1 (t + 1) wr fo := by
  refine ⟨h.bt, h.ls, h.nq, h.lo, fun u hu => (h.is u hu).trans ⟨fun ⟨j, h1, h2⟩ => ⟨j, by omega, h2⟩, fun ⟨j, h1, h2⟩ => ⟨j, ?_, h2⟩⟩⟩
  by_cases hj : j = t
  · subst hj; exact absurd h2.1 hn
  · omega
theorem Ct.took (h : Ct c X w tx kv q i a0 a1 t wr fo) (he : En.Ends c.ps c.s a0 i t) {w2 : World} {fo2 f2 : Nat → Bool} {q2 : Nat} (hor : Or c X w 5 tx kv q2 f2 fo (c.s.size + 1) w2 fo2) (hf : ∀ j, j < c.s.size + 1 → (f2 j = true ↔ En.Ends c.ps c.s a1 t j)) (hl : BAt w2 q (c.s.size + 1) (En.Ends c.ps c.s a0 i)) : Ct c X w tx kv q i a0 a1 (t + 1) w2 fo2 := by
  refine ⟨hor.bt, hl, h.nq, h.lo, fun u hu => ?_⟩
  rw [hor.fin u hu, h.is u hu, hf u hu]
  constructor
  · rintro (⟨j, h1, h2⟩ | h2)
    · exact ⟨j, by omega, h2⟩
    · exact ⟨t, by omega, he, h2⟩
  · rintro ⟨j, h1, h2, h3⟩
    by_cases hj : j = t
    · subst hj; exact .inr h3
    · exact .inl ⟨j, by omega, h2, h3⟩
end

set_option maxHeartbeats 4000000 in
set_option maxRecDepth 100000 in
theorem spCat (c : Mm) (L : Lie c) (i a0 a1 : Nat) (tx : ByteArray) (kv : Value) (hkv : KidsAt c.wI kv [(a0 : Int), (a1 : Int)]) (hC0 : AtC c a0) (hC1 : AtC c a1) (X : Nat → Prop) (w : World) (hX : ∀ b, X b → c.M1 ≤ b ∧ b < w.heap.size) (h : Memo c X w) (hi : i < c.s.size + 1) :
    Calls Try.prog 42 #[.pointer (some ⟨c.m, 0, none⟩), .agg #[.int .i64 5, .string tx, kv], .int .i64 (i : Int)] w (fun e w' => ∃ q, e = .returned (.slice (some ⟨q, 0, none⟩) (c.s.size + 1) (c.s.size + 1)) ∧ w.heap.size ≤ q ∧ BAt w' q (c.s.size + 1) (fun e => ∃ j, En.Ends c.ps c.s a0 i j ∧ En.Ends c.ps c.s a1 j e) ∧ Memo c (fun b => X b ∨ b = q) w' ∧ FM c.M0 c.M1 w w') := by
  have c1 : w.cell? ⟨c.m, 1, none⟩ = some (.string c.s) := by rw [blk_cell h.1]; rfl
  have hs := L.hs
  obtain ⟨M, ⟨hMs, hMat⟩, hM, hmk⟩ := makeB_run (c.s.size + 1) (by omega)
  have hmk1 : ∀ W : World, (Instr.makeSlice 51 (.int .i64 ((c.s.size : Int) + 1)) (.int .i64 ((c.s.size : Int) + 1))).run Try.prog W = .ok (.slice (some ⟨W.heap.size, 0, none⟩) (c.s.size + 1) (c.s.size + 1)) (W.alloc (.cells M 4)) := hmk
  have HT : Hid (Bt c X w 5 tx kv ((w.alloc (.cells #[.int .i64 5, .string tx, kv] 81)).alloc (.cells M 4)) (fun _ => false)) := Bt.begin c L X w hX h 5 tx kv M hMs hMat
  have hMl : c.M1 ≤ w.heap.size := h.2.2.2.2.2
  have HX : Hid (∀ b, X b → c.M1 ≤ b ∧ b < w.heap.size) := hX
  have HL : Hid (Lie c) := L
  have HC0 : Hid (AtC c a0) := hC0
  have HC1 : Hid (AtC c a1) := hC1
  have hml : c.m < w.heap.size := World.block_lt_of_cell? w _ c1
  have c1' : ∀ o : Obj, (w.alloc o).cell? ⟨c.m, 1, none⟩ = some (.string c.s) := fun o => (((Below.refl w.heap.size w).alloc (Nat.le_refl _) o).cell (p := ⟨c.m, 1, none⟩) hml).trans c1
  obtain ⟨ka, kc, rfl, hf⟩ := hkv
  obtain ⟨kb, ko, rfl, hkl, hkc⟩ := hf (by simp)
  have HKC : Hid (∀ (wr : World) (fo : Nat → Bool), Bt c X w 5 tx (.slice (some ⟨kb, ko, none⟩) 2 kc) wr fo → wr.cell? ⟨kb, ko, none⟩ = some (.int .i64 (a0 : Int)) ∧ wr.cell? ⟨kb, ko + 1, none⟩ = some (.int .i64 (a1 : Int))) := by
    intro wr fo ht
    have hbl := ht.mem.2.2.2.2.1
    rw [L.hI] at hbl
    exact ⟨(hbl.cell (p := ⟨kb, ko, none⟩) hkl).trans (hkc 0 (by simp)), (hbl.cell (p := ⟨kb, ko + 1, none⟩) hkl).trans (hkc 1 (by simp))⟩
  simp only [List.length_cons, List.length_nil, Nat.zero_add, Nat.reduceAdd] at HT ⊢
  clear hmk h hX hC0 hC1 L hM hMat hkc hkl hf
  go_enter Try.func42, Try.ntmps42
  obtain ⟨k0, k1⟩ := HKC.out _ _ HT.out
  obtain ⟨x0, x1, x2⟩ := HT.out.cells
  go_wp2_with fail
  refine (HC0.out _ _ i (HT.out.low hMl HX.out) HT.out.mem hi).mono ?_
  rintro e w1 ⟨q, cc, rfl, hq1, hq2, hq3, hq4, hq5⟩
  have HT0 : Hid (Ct c X w tx (.slice (some ⟨kb, ko, none⟩) 2 kc) q i a0 a1 0 w1 (fun _ => false)) := ⟨HT.out.called hMl hq4 hq5, hq3, hq2, hq1, fun u _ => ⟨fun h => (by cases h), fun ⟨j, h1, _⟩ => absurd h1 (by omega)⟩⟩
  clear hq1 hq2 hq3 hq4 hq5 HT k0 k1 x0 x1 x2 c1 c1' hmk1
  go_wp2_with fail
  go_loopw [9] (fun j wr => ∃ (t : Nat) (fo : Nat → Bool), j = .int .i64 (t : Int) ∧ t ≤ c.s.size + 1 ∧ Hid (Ct c X w tx (.slice (some ⟨kb, ko, none⟩) 2 kc) q i a0 a1 t wr fo)) (fun j _ => c.s.size + 1 - (intOf j).toNat)
  case atStart => exact ⟨0, _, rfl, by omega, HT0.out⟩
  case round =>
    obtain ⟨t, fo, rfl, ht, HJ⟩ := hrel
    obtain ⟨x0, x1, x2⟩ := HJ.out.bt.cells
    clear HT0
    by_cases hlt : t < c.s.size + 1
    · obtain ⟨b, hb1, hb2⟩ := HJ.out.ls.2 t hlt
      have t1 : (t : Int) < ((c.s.size + 1 : Nat) : Int) := by omega
      cases b with
      | false =>
        have HJ1 : Hid (Ct c X w tx (.slice (some ⟨kb, ko, none⟩) 2 kc) q i a0 a1 (t + 1) wr fo) := HJ.out.skip (fun he => by have := hb2.2 he; cases this)
        clear HJ hb2
        go_wp2_with fail
        go_roundw
        case rel => exact ⟨t + 1, _, by go_num, by omega, HJ1.out⟩
        case measure => simp [intOf]; omega
      | true =>
        have HE : Hid (En.Ends c.ps c.s a0 i t) := hb2.1 rfl
        obtain ⟨k0, k1⟩ := HKC.out _ _ HJ.out.bt
        clear hb2
        obtain ⟨wo, rfl⟩ : ∃ wo : World, wo = wr := ⟨_, rfl⟩
        go_wp2_with fail
        refine (HC1.out _ _ t (HJ.out.bt.low hMl HX.out) HJ.out.bt.mem hlt).mono ?_
        rintro e w2 ⟨q2, cc2, rfl, hq1, hq2, hq3, hq4, hq5⟩
        obtain ⟨f2, hf2, hor2⟩ := Or.start (HJ.out.bt.called hMl hq4 hq5) _ hq3 hq2
        have HF2 : Hid (∀ j, j < c.s.size + 1 → (f2 j = true ↔ En.Ends c.ps c.s a1 t j)) := hf2
        have HO2 : Hid (Or c X w 5 tx (.slice (some ⟨kb, ko, none⟩) 2 kc) q2 f2 fo 0 w2 fo) := hor2
        have HL2 : Hid (BAt w2 q (c.s.size + 1) (En.Ends c.ps c.s a0 i)) := HJ.out.ls.keep (hq5.2.2 q HJ.out.ls.1 (.inr HJ.out.lo))
        clear hq1 hq2 hq3 hq4 hq5 hf2 hor2 k0 k1 x0 x1 x2 hb1
        go_wp2_with fail
        go_loopw [11] (fun j wr => ∃ (u : Nat) (fo2 : Nat → Bool), j = .int .i64 (u : Int) ∧ u ≤ c.s.size + 1 ∧ Hid (Or c X w 5 tx (.slice (some ⟨kb, ko, none⟩) 2 kc) q2 f2 fo u wr fo2) ∧ Hid (BAt wr q (c.s.size + 1) (En.Ends c.ps c.s a0 i))) (fun j _ => c.s.size + 1 - (intOf j).toNat)
        case atStart => exact ⟨0, _, rfl, by omega, HO2.out, HL2.out⟩
        case round =>
          obtain ⟨u, fo2, rfl, hu, HI, HLL⟩ := hrel
          clear HO2 HL2
          by_cases hlu : u < c.s.size + 1
          · have l1 := HI.out.ls u hlu
            obtain ⟨o1, o2⟩ := HI.out.bt.bo.cell u hlu
            obtain ⟨x, hx⟩ : ∃ x, x = fo2 u := ⟨_, rfl⟩
            obtain ⟨y, hy⟩ : ∃ y, y = f2 u := ⟨_, rfl⟩
            rw [← hy] at l1
            rw [← hx] at o1
            have HXX : Hid (x = fo2 u) := hx
            have HYY : Hid (y = f2 u) := hy
            clear hx hy
            have u1 : (u : Int) < ((c.s.size + 1 : Nat) : Int) := by omega
            have HLX : Hid (∀ z : Bool, BAt (wr.setCell ⟨w.heap.size + 1, u, none⟩ (.bool z)) q (c.s.size + 1) (En.Ends c.ps c.s a0 i)) := fun z => HLL.out.keep (Below.heap_setCell _ _ _ _ (by show q ≠ w.heap.size + 1; exact fun e => HJ.out.nq (.inr e)))
            cases x with
            | true =>
              have HI1 : Hid (Or c X w 5 tx (.slice (some ⟨kb, ko, none⟩) 2 kc) q2 f2 fo (u + 1) (wr.setCell ⟨w.heap.size + 1, u, none⟩ (.bool true)) (fun j => if j = u then true else fo2 j)) := HI.out.step HL.out hMl HX.out hlu true (by rw [← HXX.out]; rfl)
              clear HI HXX HYY
              go_wp2_with fail
              go_roundw
              case rel => exact ⟨u + 1, _, by go_num, by omega, HI1.out, HLX.out _⟩
              case measure => simp [intOf]; omega
            | false =>
              have HI1 : Hid (Or c X w 5 tx (.slice (some ⟨kb, ko, none⟩) 2 kc) q2 f2 fo (u + 1) (wr.setCell ⟨w.heap.size + 1, u, none⟩ (.bool y)) (fun j => if j = u then y else fo2 j)) := HI.out.step HL.out hMl HX.out hlu y (by rw [← HXX.out, ← HYY.out]; rfl)
              clear HI HXX HYY
              go_wp2_with fail
              go_roundw
              case rel => exact ⟨u + 1, _, by go_num, by omega, HI1.out, HLX.out _⟩
              case measure => simp [intOf]; omega
          · obtain rfl : u = c.s.size + 1 := by omega
            have HJ1 : Hid (Ct c X w tx (.slice (some ⟨kb, ko, none⟩) 2 kc) q i a0 a1 (t + 1) wr fo2) := HJ.out.took HE.out HI.out HF2.out HLL.out
            clear HJ HI HE
            go_wp2_with fail
            go_roundw
            case rel => exact ⟨t + 1, _, by go_num, by omega, HJ1.out⟩
            case measure => simp [intOf]; omega
    · obtain rfl : t = c.s.size + 1 := by omega
      go_wp2_with fail
      go_ret
      refine ⟨_, rfl, by omega, HJ.out.bt.bo.at _ (fun j hj => (HJ.out.is j hj).trans ⟨fun ⟨a, _, h⟩ => ⟨a, h⟩, fun ⟨a, h⟩ => ⟨a, ?_, h⟩⟩), HJ.out.bt.mem, HJ.out.bt.fm⟩
      have := h.1.le
      omega
end PartSpI
end Go.Proofs.Ytlnmbahakdmkgaa
