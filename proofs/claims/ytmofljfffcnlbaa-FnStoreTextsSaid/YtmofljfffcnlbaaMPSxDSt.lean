/- A drawn store: some right store of few things. -/
import Derived.Test.YtmofljfffcnlbaaMPSxZal
namespace Go.Proofs.Ytmofljfffcnlbaa
open Go.RowKit

set_option maxHeartbeats 8000000 in
set_option maxRecDepth 100000 in
theorem l08Store_any (B g n cap : Nat) (ad : Option Addr) (w : World) (hd : Drw B w g ad n cap) (hB : B ≤ w.heap.size) :
    Calls Try.prog 30 #[.pointer (some ⟨g, 0, none⟩)] w fun e w' => ∃ u x vs cs o, e = .returned (.agg #[u, x, .string o]) ∧ VrIn B w'.heap.size w' u vs ∧ ClIn B w'.heap.size w' x cs ∧ Dw 8 vs cs o ∧ Drw B w' g ad n cap ∧ w.grownBy w' (some g) := by
  have HL0 : Hid (LS w B g n cap ad ((w.alloc (.cells #[.slice none 0 0, .slice none 0 0, .string ⟨#[]⟩] 27)).alloc (.cells #[.slice none 0 0, .slice none 0 0, .string ⟨#[]⟩] 27)) (.slice none 0 0) (.slice none 0 0) [] [] ⟨#[]⟩ 0) := by
    have hb : Below w.heap.size w ((w.alloc (.cells #[.slice none 0 0, .slice none 0 0, .string ⟨#[]⟩] 27)).alloc (.cells #[.slice none 0 0, .slice none 0 0, .string ⟨#[]⟩] 27)) := ((Below.refl _ _).alloc (Nat.le_refl _) _).alloc (by simp) _
    exact ⟨hB, s2_0 w _ _, s2_1 w _ _, ⟨none, 0, rfl, fun h => by simp at h⟩, ⟨none, 0, rfl, fun h => by simp at h⟩, Dw.none, hd.keep (hb.mono hB), ⟨hb.os, hb.tape, hb.output, hb.size, fun b h _ => hb.block b h⟩⟩
  have HPK : Hid (∀ W, Drw B W g ad n cap → B ≤ W.heap.size → Calls Try.prog 32 #[.pointer (some ⟨g, 0, none⟩), .slice (some ⟨W.heap.size, 0, none⟩) 2 2] (W.alloc (.cells #[.string ⟨#[116]⟩, .string ⟨#[117]⟩] 9))
      fun e w' => ∃ t : List UInt8, t ∈ tabs08 ∧ e = .returned (.string ⟨t.toArray⟩) ∧ Drw B w' g ad n cap ∧ W.grownBy w' (some g)) := fun W hd hB => pickL_any B g n cap ad tabs08 W hd hB (by decide) (by decide)
  clear hd
  go_enter Try.func30, Try.ntmps30
  go_wp2
  go_loopw [4] (fun i wr => ∃ (k : Nat) (u x : Value) (vs : List Vr) (cs : List Cl) (o : ByteArray), i = .int .i64 (k : Int) ∧ k ≤ 8 ∧ Hid (LS w B g n cap ad wr u x vs cs o k)) (fun i _ => 8 - (intOf i).toNat)
  case atStart => exact ⟨0, _, _, _, _, _, rfl, by omega, HL0⟩
  case round =>
    clear HL0
    obtain ⟨k, u, x, vs, cs, o, rfl, hk, L0⟩ := hrel
    go_wp2_with fail
    refine (below_any B g n cap ad 8 wr L0.out.dr (by decide) (by decide)).mono ?_
    rintro e w1 ⟨y, hy, rfl, d1, g1⟩
    have L1 : Hid _ := L0.out.draw d1 g1
    clear d1 g1 L0
    by_cases hlt : k < y
    · have dlt : decide ((k : Int) < (y : Int)) = true := by simp; omega
      have hk8 : k ≤ 68 := by omega
      go_wp2_with fail
      refine (below_any B g n cap ad 3 w1 L1.out.dr (by decide) (by decide)).mono ?_
      rintro e w2 ⟨q, hq, rfl, d1, g1⟩
      have L2 : Hid _ := L1.out.draw d1 g1
      clear d1 g1 L1
      rcases (by omega : q = 0 ∨ q = 1 ∨ q = 2) with rfl | rfl | rfl
      · go_wp2_with fail
        have HL : Hid _ := L2.out.drew
        have HS : Hid _ := HL.out.cells
        refine AnyBut.region (S := (fun W => W.cell? ⟨w.heap.size + 1, 0, none⟩ = some u ∧ W.cell? ⟨w.heap.size + 1, 1, none⟩ = some x ∧ W.cell? ⟨w.heap.size + 1, 2, none⟩ = some (.string o))) (z := 6) (by kernel_rfl) ?_
        refine AnyBut.take (i := 0) (v := ?_) (by kernel_rfl) rfl (by decide) (by kernel_rfl) (by kernel_rfl) (by kernel_rfl) (fun _ _ _ h => h) (Or.inl ⟨by rfl, ?_⟩) HS.out ?_
        rotate_left
        · (intro u9 hSw; (try dsimp only at hSw); go_simp; try with_reducible rfl)
        (try simp only [Act.put]); (try simp only [List.setIfInBounds_toArray]); (try simp only [List.set_cons_succ, List.set_cons_zero])
        refine AnyBut.take (i := 1) (v := ?_) (by kernel_rfl) rfl (by decide) (by kernel_rfl) (by kernel_rfl) (by kernel_rfl) (fun _ _ _ h => h) (Or.inl ⟨by rfl, ?_⟩) HS.out ?_
        rotate_left
        · (intro u9 hSw; (try dsimp only at hSw); go_simp; try with_reducible rfl)
        (try simp only [Act.put]); (try simp only [List.setIfInBounds_toArray]); (try simp only [List.set_cons_succ, List.set_cons_zero])
        refine AnyBut.take (i := 3) (v := ?_) (by kernel_rfl) rfl (by decide) (by kernel_rfl) (by kernel_rfl) (by kernel_rfl) (fun _ _ _ h => h) (Or.inl ⟨by rfl, ?_⟩) HS.out ?_
        rotate_left
        · (intro u9 hSw; (try dsimp only at hSw); go_simp; try with_reducible rfl)
        (try simp only [Act.put]); (try simp only [List.setIfInBounds_toArray]); (try simp only [List.set_cons_succ, List.set_cons_zero])
        refine AnyBut.one (i := 2) rfl (by kernel_rfl) (fun K hK => ?_)
        go_simp
        go_at_call 50
        refine ((l08Name_any B g n cap ad _ HL.out.dr HL.out.le)).mono ?_
        rintro e w5 ⟨t, ht, rfl, d9, g9⟩
        have HL1 : Hid _ := HL.out.draw d9 g9
        clear HL HS d9 g9
        have HL : Hid _ := HL1.out
        have HS : Hid _ := HL.out.cells
        clear HL1
        have HNM : Hid (Cd.nm t = true) := names08_nm t ht
        clear ht
        dsimp only
        refine hK.out _ _ (fun _ => HS.out) ?_
        clear hK K
        (try simp only [Act.put]); (try simp only [List.setIfInBounds_toArray]); (try simp only [List.set_cons_succ, List.set_cons_zero])
        refine AnyBut.one (i := 4) rfl (by kernel_rfl) (fun K hK => ?_)
        go_simp
        go_at_call 51
        refine ((l03Val_any B g n cap ad _ HL.out.dr HL.out.le)).mono ?_
        rintro e w6 ⟨t2, ht2, rfl, d9, g9⟩
        have HL1 : Hid _ := HL.out.draw d9 g9
        clear HL HS d9 g9
        have HL : Hid _ := HL1.out
        have HS : Hid _ := HL.out.cells
        clear HL1
        clear ht2
        dsimp only
        refine hK.out _ _ (fun _ => HS.out) ?_
        clear hK K
        (try simp only [Act.put]); (try simp only [List.setIfInBounds_toArray]); (try simp only [List.set_cons_succ, List.set_cons_zero])
        refine AnyBut.one (i := 5) rfl (by kernel_rfl) (fun K hK => ?_)
        go_simp
        go_at_call 49
        refine (spSetVar u x o _ _ vs cs _ HL.out.vi.at HL.out.ci.at HL.out.dw.rt.small (by have := HL.out.dw.v; omega)).mono ?_
        rintro e w8 ⟨u2, x2, rfl, hu, hx, hb⟩
        have HN : Hid _ := HL.out.next hu hx hb (HL.out.dw.setV HNM.out _)
        have HE : Hid _ := HL.out.over hb
        obtain ⟨ua2, uc2, rfl, -⟩ := hu
        obtain ⟨xa2, xc2, rfl, -⟩ := hx
        clear hb HL HS
        dsimp only
        obtain ⟨q0, q1, q2, f0, f1, f2⟩ := HE.out
        clear HE
        refine hK.out _ _ (fun _ => ⟨q0, q1, q2⟩) ?_
        clear hK K
        (try simp only [Act.put]); (try simp only [List.setIfInBounds_toArray]); (try simp only [List.set_cons_succ, List.set_cons_zero])
        refine AnyBut.one (i := 6) rfl (by kernel_rfl) (fun K hK => ?_)
        go_simp
        refine hK.out _ _ (fun h => absurd rfl h) ?_
        clear hK K
        refine AnyBut.done (by kernel_rfl) ?_ _
        refine NoPanic.normal ?_
        clear q0 q1 q2 f0 f1 f2
        go_wp2
        go_roundw
        case rel => exact ⟨k + 1, _, _, _, _, _, by go_num, by omega, HN⟩
        case measure => simp [intOf]; omega
      · go_wp2_with fail
        have HL : Hid _ := L2.out.drew
        have HS : Hid _ := HL.out.cells
        refine AnyBut.region (S := (fun W => W.cell? ⟨w.heap.size + 1, 0, none⟩ = some u ∧ W.cell? ⟨w.heap.size + 1, 1, none⟩ = some x ∧ W.cell? ⟨w.heap.size + 1, 2, none⟩ = some (.string o))) (z := 9) (by kernel_rfl) ?_
        refine AnyBut.take (i := 0) (v := ?_) (by kernel_rfl) rfl (by decide) (by kernel_rfl) (by kernel_rfl) (by kernel_rfl) (fun _ _ _ h => h) (Or.inl ⟨by rfl, ?_⟩) HS.out ?_
        rotate_left
        · (intro u9 hSw; (try dsimp only at hSw); go_simp; try with_reducible rfl)
        (try simp only [Act.put]); (try simp only [List.setIfInBounds_toArray]); (try simp only [List.set_cons_succ, List.set_cons_zero])
        refine AnyBut.take (i := 1) (v := ?_) (by kernel_rfl) rfl (by decide) (by kernel_rfl) (by kernel_rfl) (by kernel_rfl) (fun _ _ _ h => h) (Or.inl ⟨by rfl, ?_⟩) HS.out ?_
        rotate_left
        · (intro u9 hSw; (try dsimp only at hSw); go_simp; try with_reducible rfl)
        (try simp only [Act.put]); (try simp only [List.setIfInBounds_toArray]); (try simp only [List.set_cons_succ, List.set_cons_zero])
        refine AnyBut.take (i := 4) (v := ?_) (by kernel_rfl) rfl (by decide) (by kernel_rfl) (by kernel_rfl) (by kernel_rfl) (fun _ _ _ h => h) (Or.inl ⟨by rfl, ?_⟩) HS.out ?_
        rotate_left
        · (intro u9 hSw; (try dsimp only at hSw); go_simp; try with_reducible rfl)
        (try simp only [Act.put]); (try simp only [List.setIfInBounds_toArray]); (try simp only [List.set_cons_succ, List.set_cons_zero])
        refine AnyBut.take (i := 6) (v := ?_) (by kernel_rfl) rfl (by decide) (by kernel_rfl) (by kernel_rfl) (by kernel_rfl) (fun _ _ _ h => h) (Or.inl ⟨by rfl, ?_⟩) HS.out ?_
        rotate_left
        · (intro u9 hSw; (try dsimp only at hSw); go_simp; try with_reducible rfl)
        (try simp only [Act.put]); (try simp only [List.setIfInBounds_toArray]); (try simp only [List.set_cons_succ, List.set_cons_zero])
        refine AnyBut.one (i := 2) rfl (by kernel_rfl) (fun K hK => ?_)
        go_simp
        refine hK.out _ _ (fun _ => (HL.out.alloc _).cells) ?_
        clear hK K
        (try simp only [Act.put]); (try simp only [List.setIfInBounds_toArray]); (try simp only [List.set_cons_succ, List.set_cons_zero])
        refine AnyBut.one (i := 3) rfl (by kernel_rfl) (fun K hK => ?_)
        go_simp
        go_at_call 32
        refine ((HPK.out _ HL.out.dr HL.out.le)).mono ?_
        rintro e w5 ⟨t, ht, rfl, d9, g9⟩
        have HL1 : Hid _ := HL.out.draw d9 g9
        clear HL HS d9 g9
        have HL : Hid _ := HL1.out
        have HS : Hid _ := HL.out.cells
        clear HL1
        have HNM : Hid (Cd.nm t = true) := tabs08_nm t ht
        clear ht
        dsimp only
        refine hK.out _ _ (fun _ => HS.out) ?_
        clear hK K
        (try simp only [Act.put]); (try simp only [List.setIfInBounds_toArray]); (try simp only [List.set_cons_succ, List.set_cons_zero])
        refine AnyBut.one (i := 5) rfl (by kernel_rfl) (fun K hK => ?_)
        go_simp
        go_at_call 51
        refine ((l03Val_any B g n cap ad _ HL.out.dr HL.out.le)).mono ?_
        rintro e w6 ⟨t2, ht2, rfl, d9, g9⟩
        have HL1 : Hid _ := HL.out.draw d9 g9
        clear HL HS d9 g9
        have HL : Hid _ := HL1.out
        have HS : Hid _ := HL.out.cells
        clear HL1
        clear ht2
        dsimp only
        refine hK.out _ _ (fun _ => HS.out) ?_
        clear hK K
        (try simp only [Act.put]); (try simp only [List.setIfInBounds_toArray]); (try simp only [List.set_cons_succ, List.set_cons_zero])
        refine AnyBut.one (i := 7) rfl (by kernel_rfl) (fun K hK => ?_)
        go_simp
        go_at_call 51
        refine ((l03Val_any B g n cap ad _ HL.out.dr HL.out.le)).mono ?_
        rintro e w7 ⟨t3, ht3, rfl, d9, g9⟩
        have HL1 : Hid _ := HL.out.draw d9 g9
        clear HL HS d9 g9
        have HL : Hid _ := HL1.out
        have HS : Hid _ := HL.out.cells
        clear HL1
        clear ht3
        dsimp only
        refine hK.out _ _ (fun _ => HS.out) ?_
        clear hK K
        (try simp only [Act.put]); (try simp only [List.setIfInBounds_toArray]); (try simp only [List.set_cons_succ, List.set_cons_zero])
        refine AnyBut.one (i := 8) rfl (by kernel_rfl) (fun K hK => ?_)
        go_simp
        go_at_call 52
        refine (spSetCell u x o _ _ _ vs cs _ HL.out.vi.at HL.out.ci.at HL.out.dw.rt.small (by have := HL.out.dw.c; omega)).mono ?_
        rintro e w8 ⟨u2, x2, rfl, hu, hx, hb⟩
        have HN : Hid _ := HL.out.next hu hx hb (HL.out.dw.setC HNM.out _ _)
        have HE : Hid _ := HL.out.over hb
        obtain ⟨ua2, uc2, rfl, -⟩ := hu
        obtain ⟨xa2, xc2, rfl, -⟩ := hx
        clear hb HL HS
        dsimp only
        obtain ⟨q0, q1, q2, f0, f1, f2⟩ := HE.out
        clear HE
        refine hK.out _ _ (fun _ => ⟨q0, q1, q2⟩) ?_
        clear hK K
        (try simp only [Act.put]); (try simp only [List.setIfInBounds_toArray]); (try simp only [List.set_cons_succ, List.set_cons_zero])
        refine AnyBut.one (i := 9) rfl (by kernel_rfl) (fun K hK => ?_)
        go_simp
        refine hK.out _ _ (fun h => absurd rfl h) ?_
        clear hK K
        refine AnyBut.done (by kernel_rfl) ?_ _
        refine NoPanic.normal ?_
        clear q0 q1 q2 f0 f1 f2
        go_wp2
        go_roundw
        case rel => exact ⟨k + 1, _, _, _, _, _, by go_num, by omega, HN⟩
        case measure => simp [intOf]; omega
      · go_wp2_with fail
        have HL : Hid _ := L2.out.drew
        have HS : Hid _ := HL.out.cells
        refine AnyBut.region (S := (fun W => W.cell? ⟨w.heap.size + 1, 0, none⟩ = some u ∧ W.cell? ⟨w.heap.size + 1, 1, none⟩ = some x ∧ W.cell? ⟨w.heap.size + 1, 2, none⟩ = some (.string o))) (z := 4) (by kernel_rfl) ?_
        refine AnyBut.take (i := 0) (v := ?_) (by kernel_rfl) rfl (by decide) (by kernel_rfl) (by kernel_rfl) (by kernel_rfl) (fun _ _ _ h => h) (Or.inl ⟨by rfl, ?_⟩) HS.out ?_
        rotate_left
        · (intro u9 hSw; (try dsimp only at hSw); go_simp; try with_reducible rfl)
        (try simp only [Act.put]); (try simp only [List.setIfInBounds_toArray]); (try simp only [List.set_cons_succ, List.set_cons_zero])
        refine AnyBut.take (i := 1) (v := ?_) (by kernel_rfl) rfl (by decide) (by kernel_rfl) (by kernel_rfl) (by kernel_rfl) (fun _ _ _ h => h) (Or.inl ⟨by rfl, ?_⟩) HS.out ?_
        rotate_left
        · (intro u9 hSw; (try dsimp only at hSw); go_simp; try with_reducible rfl)
        (try simp only [Act.put]); (try simp only [List.setIfInBounds_toArray]); (try simp only [List.set_cons_succ, List.set_cons_zero])
        refine AnyBut.one (i := 2) rfl (by kernel_rfl) (fun K hK => ?_)
        go_simp
        go_at_call 51
        refine ((l03Val_any B g n cap ad _ HL.out.dr HL.out.le)).mono ?_
        rintro e w6 ⟨t2, ht2, rfl, d9, g9⟩
        have HL1 : Hid _ := HL.out.draw d9 g9
        clear HL HS d9 g9
        have HL : Hid _ := HL1.out
        have HS : Hid _ := HL.out.cells
        clear HL1
        have HT2 : Hid (t2.length ≤ 42) := ht2
        clear ht2
        dsimp only
        refine hK.out _ _ (fun _ => HS.out) ?_
        clear hK K
        (try simp only [Act.put]); (try simp only [List.setIfInBounds_toArray]); (try simp only [List.set_cons_succ, List.set_cons_zero])
        refine AnyBut.one (i := 3) rfl (by kernel_rfl) (fun K hK => ?_)
        go_simp
        go_at_call 53
        refine (spSay u x o _ vs cs _ HL.out.vi.at HL.out.ci.at HL.out.dw.rt.small (by rw [lst8]; have := HT2.out; omega)).mono ?_
        rintro e w8 ⟨u2, x2, rfl, hu, hx, hb⟩
        have HN : Hid _ := HL.out.next hu hx hb (HL.out.dw.say hk8 (by rw [lst8]; exact HT2.out))
        have HE : Hid _ := HL.out.over hb
        obtain ⟨ua2, uc2, rfl, -⟩ := hu
        obtain ⟨xa2, xc2, rfl, -⟩ := hx
        clear hb HL HS
        dsimp only
        obtain ⟨q0, q1, q2, f0, f1, f2⟩ := HE.out
        clear HE
        refine hK.out _ _ (fun _ => ⟨q0, q1, q2⟩) ?_
        clear hK K
        (try simp only [Act.put]); (try simp only [List.setIfInBounds_toArray]); (try simp only [List.set_cons_succ, List.set_cons_zero])
        refine AnyBut.one (i := 4) rfl (by kernel_rfl) (fun K hK => ?_)
        go_simp
        refine hK.out _ _ (fun h => absurd rfl h) ?_
        clear hK K
        refine AnyBut.done (by kernel_rfl) ?_ _
        refine NoPanic.normal ?_
        clear q0 q1 q2 f0 f1 f2
        go_wp2
        go_roundw
        case rel => exact ⟨k + 1, _, _, _, _, _, by go_num, by omega, HN⟩
        case measure => simp [intOf]; omega
    · have dlt : decide ((k : Int) < (y : Int)) = false := by simp; omega
      have hk9 : k ≤ 8 := hk
      have hr := L1.out.cells
      have HRES : Hid _ := L1.out.res
      have y0 : w1.cell? ⟨w.heap.size, 0, none⟩ = some (.slice none 0 0) := (blk_cell HRES.out 0).trans rfl
      have y1 : w1.cell? ⟨w.heap.size, 1, none⟩ = some (.slice none 0 0) := (blk_cell HRES.out 1).trans rfl
      have y2 : w1.cell? ⟨w.heap.size, 2, none⟩ = some (.string ByteArray.empty) := (blk_cell HRES.out 2).trans rfl
      have g0 := blk_free HRES.out 0
      have g1 := blk_free HRES.out 1
      have g2 := blk_free HRES.out 2
      obtain ⟨r0, r1, r2⟩ := hr
      obtain ⟨ua, uc, rfl, -⟩ := L1.out.vi
      obtain ⟨xa, xc, rfl, -⟩ := L1.out.ci
      go_wp2_with fail
      refine bodyPost_ret (results_cell_row (p := 2) (ty := 27) rfl _ _ w.heap.size 27 _ (0, 0) _ rfl (blk_set (blk_set (blk_set HRES.out 0 _) 1 _) 2 _) Try.underlying27 rfl (by kernel_rfl)) rfl ?_
      have hs := L1.out.sz
      have hl := L1.out.low
      have hB2 : Below w.heap.size w1 (((w1.setCell ⟨w.heap.size, 0, none⟩ (.slice ua vs.length uc)).setCell ⟨w.heap.size, 1, none⟩ (.slice xa cs.length xc)).setCell ⟨w.heap.size, 2, none⟩ (.string o)) := ((((Below.refl _ _).setCell (by show w.heap.size ≤ w.heap.size; omega) _).setCell (by show w.heap.size ≤ w.heap.size; omega) _).setCell (by show w.heap.size ≤ w.heap.size; omega) _)
      have hk : ∀ b, w.heap.size + 2 ≤ b → (((w1.setCell ⟨w.heap.size, 0, none⟩ (.slice ua vs.length uc)).setCell ⟨w.heap.size, 1, none⟩ (.slice xa cs.length xc)).setCell ⟨w.heap.size, 2, none⟩ (.string o)).heap[b]? = w1.heap[b]? := fun b hb => by
        rw [Below.heap_setCell _ _ _ _ (by show b ≠ w.heap.size; omega), Below.heap_setCell _ _ _ _ (by show b ≠ w.heap.size; omega), Below.heap_setCell _ _ _ _ (by show b ≠ w.heap.size; omega)]
      refine ⟨.slice ua vs.length uc, .slice xa cs.length xc, vs, cs, o, rfl, ?_, ?_, ?_, ?_, ?_⟩
      · exact (L1.out.vi.keep (fun b h1 _ => hk b h1)).wide (by omega) hB2.size
      · exact (L1.out.ci.keep (fun b h1 _ => hk b h1)).wide (by omega) hB2.size
      · exact L1.out.dw.up hk9
      · exact L1.out.dr.keep (hB2.mono hl)
      · exact ⟨hB2.os.trans L1.out.gr.os, hB2.tape.trans L1.out.gr.tape, hB2.output.trans L1.out.gr.output, Nat.le_trans L1.out.gr.size hB2.size, fun b hb hne => (hB2.block b hb).trans (L1.out.gr.block b hb hne)⟩
end Go.Proofs.Ytmofljfffcnlbaa
