/- The law's own marks: rules, and whole programs that were read. The law's own marks: whole programs that were read. Both readers of a program, plainly: where the program's reads on, the specification's reads the same, or is bad and the nodes are wrong. Both readers of a program, plainly: expressions. Both readers of a program, plainly: expressions at every depth. Both readers of a program, plainly: simple ones and expressions at every depth. -/
import Derived.Test.YtkfkbdgfnopokaaGreatDoorZac
import Derived.Test.YtkfkbdgfnopokaaGreatDoorRsL
import Derived.Test.YtkfkbdgfnopokaaGreatDoorZat
import Derived.Test.YtkfkbdgfnopokaaGreatDoorZas
namespace Go.Proofs.YtkfkbdgfnopokaaGreatDoor
section PartMnC
open Go.RowKit
def WR (w : World) (r n k m : Nat) : Prop := ∃ arr : Array Value, w.heap[r]? = some (.cells arr 48 (0, 0)) ∧ n * 3 ≤ arr.size ∧ ∀ i, i < m → arr[i * 3]? = some (.int .i64 ((k + 3 * i : Nat) : Int)) ∧ arr[i * 3 + 1]? = some (.int .i64 ((k + 3 * i + 1 : Nat) : Int)) ∧ arr[i * 3 + 2]? = some (.int .i64 ((k + 3 * i + 2 : Nat) : Int))
theorem WR.blk {w w' : World} {r n k m : Nat} (h : WR w r n k m) (hk : w'.heap[r]? = w.heap[r]?) : WR w' r n k m := by
 obtain ⟨arr, ha, hs, hm⟩ := h
 exact ⟨arr, hk.trans ha, hs, hm⟩
theorem WR.lt {w : World} {r n k m : Nat} (h : WR w r n k m) : r < w.heap.size := by
 obtain ⟨arr, ha, -⟩ := h
 exact blk_lt ha
theorem WR.next {wr : World} {r n k j : Nat} {a b c : Int} (h : WR wr r n k j) (hj : j < n) (ha : a = ((k + 3 * j : Nat) : Int)) (hb : b = ((k + 3 * j + 1 : Nat) : Int)) (hc : c = ((k + 3 * j + 2 : Nat) : Int)) :
  WR (((wr.setCell ⟨r, j * 3, none⟩ (.int .i64 a)).setCell ⟨r, j * 3 + 1, none⟩ (.int .i64 b)).setCell ⟨r, j * 3 + 2, none⟩ (.int .i64 c)) r n k (j + 1) := by
 subst ha hb hc
 obtain ⟨arr, ha, hs, hm⟩ := h
 refine ⟨_, blk_set (blk_set (blk_set ha (j * 3) _) (j * 3 + 1) _) (j * 3 + 2) _, by simpa using hs, fun i hi => ?_⟩
 by_cases e : i = j
 ·subst e
  refine ⟨?_, ?_, ?_⟩
  ·rw [Array.getElem?_setIfInBounds, if_neg (by omega), Array.getElem?_setIfInBounds, if_neg (by omega), Array.getElem?_setIfInBounds, if_pos rfl, if_pos (by omega)]
  ·rw [Array.getElem?_setIfInBounds, if_neg (by omega), Array.getElem?_setIfInBounds, if_pos rfl, if_pos (by simp; omega)]
  ·rw [Array.getElem?_setIfInBounds, if_pos rfl, if_pos (by simp; omega)]
 ·obtain ⟨m0, m1, m2⟩ := hm i (by omega)
  refine ⟨?_, ?_, ?_⟩
  ·rw [Array.getElem?_setIfInBounds, if_neg (by omega), Array.getElem?_setIfInBounds, if_neg (by omega), Array.getElem?_setIfInBounds, if_neg (by omega)]; exact m0
  ·rw [Array.getElem?_setIfInBounds, if_neg (by omega), Array.getElem?_setIfInBounds, if_neg (by omega), Array.getElem?_setIfInBounds, if_neg (by omega)]; exact m1
  ·rw [Array.getElem?_setIfInBounds, if_neg (by omega), Array.getElem?_setIfInBounds, if_neg (by omega), Array.getElem?_setIfInBounds, if_neg (by omega)]; exact m2
def WRv (S : Nat → Prop) (w : World) (v : Value) (n k m : Nat) : Prop := ∃ ad c, v = .slice ad n c ∧ (0 < n → ∃ r, ad = some ⟨r, 0, none⟩ ∧ S r ∧ WR w r n k m)
set_option maxRecDepth 100000 in
set_option maxHeartbeats 2000000 in
theorem markRls_any (S : Nat → Prop) (n k : Nat) (v : Value) (w : World) (h : WRv S w v n k 0) (hn2 : n ≤ 1000) (hk : k ≤ 10000000) :
  Calls Tryz.prog 28 #[v, .int .i64 (k : Int)] w fun e w' => e = .returned (.int .i64 ((k + 3 * n : Nat) : Int)) ∧ WRv S w' v n k n ∧ FS S w w' := by
 obtain ⟨ad, c, rfl, f⟩ := h
 by_cases h0 : n = 0
 ·subst h0
  clear f
  go_enter Tryz.func28, Tryz.ntmps28
  go_wp2
  refine wp_loop_rounds 1 ?_
  rw [rounds_succ]
  go_wp2
  go_ret
  exact ⟨rfl, ⟨ad, c, rfl, fun h => by omega⟩, FS.refl _ _⟩
 ·obtain ⟨r, rfl, h1, hw⟩ := f (by omega)
  have HW : Hid (WR w r n k 0) := hw
  have HIN : Hid (S r) := h1
  clear f hw h1
  go_enter Tryz.func28, Tryz.ntmps28
  go_wp2
  go_loopw [1, 5] (fun q i wr => ∃ j : Nat, i = .int .i64 (j : Int) ∧ q = .int .i64 ((k : Int) + 3 * (j : Int)) ∧ j ≤ n ∧ Hid (FS S w wr) ∧ Hid (WR wr r n k j)) (fun _ i _ => n - (intOf i).toNat)
  case atStart => exact ⟨0, rfl, by simp, by omega, FS.refl _ _, HW.out⟩
  case round =>
   obtain ⟨j, rfl, rfl, hj, HF, HH⟩ := hrel
   by_cases hlt : j < n
   ·obtain ⟨arr, ha, hs, -⟩ := HH.out
    have i1 : (j : Int) < (n : Int) := by omega
    have x0 := blk_cell ha (j * 3)
    rw [Array.getElem?_eq_getElem (by omega)] at x0
    have y0 := blk_free ha (j * 3)
    have x1 := blk_cell ha (j * 3 + 1)
    rw [Array.getElem?_eq_getElem (by omega)] at x1
    have y1 := blk_free ha (j * 3 + 1)
    have x2 := blk_cell ha (j * 3 + 2)
    rw [Array.getElem?_eq_getElem (by omega)] at x2
    have y2 := blk_free ha (j * 3 + 2)
    have HN := hidOf2 (HH.out.next hlt (a := (k : Int) + 3 * (j : Int)) (b := (k : Int) + 3 * (j : Int) + 1) (c := (k : Int) + 3 * (j : Int) + 1 + 1) (by omega) (by omega) (by omega))
    have HF2 := hidOf2 (((HF.out.set r (j * 3) (.int .i64 ((k : Int) + 3 * (j : Int))) HIN.out).set r (j * 3 + 1) (.int .i64 ((k : Int) + 3 * (j : Int) + 1)) HIN.out).set r (j * 3 + 2) (.int .i64 ((k : Int) + 3 * (j : Int) + 1 + 1)) HIN.out)
    clear HH HF ha
    go_wp2
    go_roundw
    case rel => exact ⟨j + 1, by go_num, by go_num, by omega, HF2.out, HN.out⟩
    case measure => simp [intOf]; omega
   ·obtain rfl : j = n := by omega
    go_wp2
    go_ret
    exact ⟨by go_num, ⟨_, c, rfl, fun _ => ⟨r, rfl, HIN.out, HH.out⟩⟩, HF.out⟩
set_option maxRecDepth 100000 in
set_option maxHeartbeats 2000000 in
theorem heldRls_any (S : Nat → Prop) (n k : Nat) (v : Value) (w : World) (h : WRv S w v n k n) (hn2 : n ≤ 1000) (hk : k ≤ 10000000) :
  Calls Tryz.prog 30 #[v, .int .i64 (k : Int)] w fun e w' => e = .returned (.int .i64 ((k + 3 * n : Nat) : Int)) ∧ w' = w := by
 obtain ⟨ad, c, rfl, f⟩ := h
 by_cases h0 : n = 0
 ·subst h0
  clear f
  go_enter Tryz.func30, Tryz.ntmps30
  go_wp2
  refine wp_loop_rounds 1 ?_
  rw [rounds_succ]
  go_wp2
  go_ret
  exact ⟨rfl, rfl⟩
 ·obtain ⟨r, rfl, h1, arr, ha, hs, hm⟩ := f (by omega)
  have HW : Hid (∀ j, j < n → w.cell? ⟨r, j * 3, none⟩ = some (.int .i64 ((k : Int) + 3 * (j : Int))) ∧ w.cell? ⟨r, j * 3 + 1, none⟩ = some (.int .i64 ((k : Int) + 3 * (j : Int) + 1)) ∧ w.cell? ⟨r, j * 3 + 2, none⟩ = some (.int .i64 ((k : Int) + 3 * (j : Int) + 1 + 1))) := by
   intro j hj
   obtain ⟨m0, m1, m2⟩ := hm j hj
   refine ⟨?_, ?_, ?_⟩
   ·rw [blk_cell ha, m0]; rfl
   ·rw [blk_cell ha, m1]; rfl
   ·rw [blk_cell ha, m2]; rfl
  clear f h1 ha hs hm
  go_enter Tryz.func30, Tryz.ntmps30
  go_wp2
  go_loop [1, 5] (fun q i => ∃ j : Nat, i = .int .i64 (j : Int) ∧ q = .int .i64 ((k : Int) + 3 * (j : Int)) ∧ j ≤ n) (fun _ i => n - (intOf i).toNat)
  case atStart => exact ⟨0, rfl, by simp, by omega⟩
  case round =>
   obtain ⟨j, rfl, rfl, hj⟩ := hrel
   by_cases hlt : j < n
   ·obtain ⟨c0, c1, c2⟩ := HW.out j hlt
    have i1 : (j : Int) < (n : Int) := by omega
    have hq : ∀ z : Int, (z != z) = false := by simp
    go_wp2
    go_round
    case rel => exact ⟨j + 1, by go_num, by go_num, by omega⟩
    case measure => simp [intOf]; omega
   ·obtain rfl : j = n := by omega
    go_wp2
    go_ret
    exact ⟨by go_num, rfl⟩
end PartMnC
section PartMnD
open Go.RowKit
theorem WRv.keep {S : Nat → Prop} {w w' : World} {v : Value} {n k m : Nat} (h : WRv S w v n k m) (hk : ∀ r, 0 < n → v.ownBlock = some r → w'.heap[r]? = w.heap[r]?) : WRv S w' v n k m := by
 obtain ⟨ad, c, rfl, f⟩ := h
 refine ⟨ad, c, rfl, fun h0 => ?_⟩
 obtain ⟨r, rfl, h1, h2⟩ := f h0
 exact ⟨r, rfl, h1, h2.blk (hk r h0 rfl)⟩
theorem WRv.lt {S : Nat → Prop} {w : World} {v : Value} {n k m : Nat} (h : WRv S w v n k m) (h0 : 0 < n) {r : Nat} (e : v.ownBlock = some r) : r < w.heap.size := by
 obtain ⟨ad, c, rfl, f⟩ := h
 obtain ⟨r', rfl, h1, h2⟩ := f h0
 obtain rfl : r' = r := by simpa [Value.ownBlock] using e
 exact h2.lt
def NW (X C : Nat) (w : World) (v : Value) (n : Nat) (K Q : Nat → Nat) (m : Nat) : Prop := ∃ ad c, v = .slice ad n c ∧ (0 < n → ∃ r, ad = some ⟨r, 0, none⟩ ∧ X ≤ r ∧ r < C ∧ (∀ i, i < n → 0 < K i → X ≤ Q i ∧ Q i < C) ∧ WN w r n K Q m)
def NS (v : Value) (n : Nat) (K Q : Nat → Nat) : Nat → Prop := fun x => 0 < n ∧ (v.ownBlock = some x ∨ ∃ i, i < n ∧ 0 < K i ∧ x = Q i)
theorem NW.in {X C : Nat} {w : World} {v : Value} {n : Nat} {K Q : Nat → Nat} {m : Nat} (h : NW X C w v n K Q m) (x : Nat) (hx : NS v n K Q x) : X ≤ x ∧ x < C := by
 obtain ⟨ad, c, rfl, f⟩ := h
 obtain ⟨h0, hx⟩ := hx
 obtain ⟨r, rfl, g1, g2, g3, g4⟩ := f h0
 rcases hx with e | ⟨i, hi, hk, rfl⟩
 ·obtain rfl : r = x := by simpa [Value.ownBlock] using e
  exact ⟨g1, g2⟩
 ·exact g3 i hi hk
set_option maxRecDepth 100000 in
set_option maxHeartbeats 800000 in
theorem markNodes_any (X C n : Nat) (v : Value) (K Q : Nat → Nat) (W : World) (h : NW X C W v n K Q 0) (hn2 : n ≤ 1000) (hK : ∀ i, K i ≤ 1000) :
  Calls Tryz.prog 27 #[v, .int .i64 1] W fun e w' => e = .returned (.int .i64 (cm K n : Int)) ∧ NW X C w' v n K Q n ∧ FS (NS v n K Q) W w' := by
 obtain ⟨ad, c, rfl, f⟩ := h
 by_cases hz : n = 0
 ·subst hz
  clear f
  go_enter Tryz.func27, Tryz.ntmps27
  go_wp2
  refine wp_loop_rounds 1 ?_
  rw [rounds_succ]
  go_wp2
  go_ret
  exact ⟨rfl, ⟨ad, c, rfl, fun h => by omega⟩, FS.refl _ _⟩
 ·obtain ⟨r, rfl, g1, g2, g3, g4⟩ := f (by omega)
  refine (markNds_any (NS (.slice (some ⟨r, 0, none⟩) n c) n K Q) r n c K Q W g4 (by omega) hn2 hK ⟨by omega, .inl rfl⟩ (fun i hi hk => ⟨by omega, .inr ⟨i, hi, hk, rfl⟩⟩)).mono ?_
  rintro e w' ⟨rfl, hw, hb⟩
  exact ⟨rfl, ⟨_, c, rfl, fun _ => ⟨r, rfl, g1, g2, g3, hw⟩⟩, hb⟩
set_option maxRecDepth 100000 in
set_option maxHeartbeats 800000 in
theorem heldNodes_any (X C n : Nat) (v : Value) (K Q : Nat → Nat) (W : World) (h : NW X C W v n K Q n) (hn2 : n ≤ 1000) (hK : ∀ i, K i ≤ 1000) :
  Calls Tryz.prog 29 #[v, .int .i64 1] W fun e w' => e = .returned (.int .i64 (cm K n : Int)) ∧ Below W.heap.size W w' := by
 obtain ⟨ad, c, rfl, f⟩ := h
 by_cases hz : n = 0
 ·subst hz
  clear f
  go_enter Tryz.func29, Tryz.ntmps29
  go_wp2
  refine wp_loop_rounds 1 ?_
  rw [rounds_succ]
  go_wp2
  go_ret
  exact ⟨rfl, Below.refl _ _⟩
 ·obtain ⟨r, rfl, g1, g2, g3, g4⟩ := f (by omega)
  exact heldNds_any r n c K Q W g4 (by omega) hn2 hK
theorem NW.keep {X C : Nat} {w w' : World} {v : Value} {n : Nat} {K Q : Nat → Nat} {m : Nat} (h : NW X C w v n K Q m) (hm : m ≤ n) (hb : Below w.heap.size w w') : NW X C w' v n K Q m := by
 obtain ⟨ad, c, hv, f⟩ := h
 refine ⟨ad, c, hv, fun h0 => ?_⟩
 obtain ⟨r, e, k1, k2, k3, k4⟩ := f h0
 exact ⟨r, e, k1, k2, k3, k4.keep hm hb⟩
theorem NW.form {X C : Nat} {w : World} {v : Value} {n : Nat} {K Q : Nat → Nat} {m : Nat} (h : NW X C w v n K Q m) : ∃ ad c, v = .slice ad n c := by
 obtain ⟨ad, c, hv, -⟩ := h
 exact ⟨ad, c, hv⟩
theorem WN.but {w w' : World} {r n m : Nat} {K Q : Nat → Nat} (h : WN w r n K Q m) (hm : m ≤ n) (h1 : w'.heap[r]? = w.heap[r]?) (h2 : ∀ i, i < n → 0 < K i → w'.heap[Q i]? = w.heap[Q i]?) : WN w' r n K Q m := by
 obtain ⟨⟨arr, ha, hs⟩, k2, k3, k4, k5⟩ := h
 have hc : ∀ o, w'.cell? ⟨r, o, none⟩ = w.cell? ⟨r, o, none⟩ := fun o => cell_blk h1 o
 refine ⟨⟨arr, h1.trans ha, hs⟩, fun i hi => ?_, k3, k4, fun i hi => ?_⟩
 ·obtain ⟨u, q1, q2⟩ := k2 i hi
  exact ⟨u, (hc _).trans q1, q2.blk (h2 i hi)⟩
 ·obtain ⟨q1, q2, q3⟩ := k5 i hi
  exact ⟨(hc _).trans q1, (hc _).trans q2, q3.blk (h2 i (by omega))⟩
theorem NW.but {X C : Nat} {w w' : World} {v : Value} {n : Nat} {K Q : Nat → Nat} {m : Nat} (h : NW X C w v n K Q m) (hm : m ≤ n) (hk : ∀ x, NS v n K Q x → w'.heap[x]? = w.heap[x]?) : NW X C w' v n K Q m := by
 obtain ⟨ad, c, rfl, f⟩ := h
 refine ⟨ad, c, rfl, fun h0 => ?_⟩
 obtain ⟨r, rfl, k1, k2, k3, k4⟩ := f h0
 exact ⟨r, rfl, k1, k2, k3, k4.but hm (hk r ⟨h0, .inl rfl⟩) (fun i hi hi0 => hk _ ⟨h0, .inr ⟨i, hi, hi0, rfl⟩⟩)⟩
theorem NW.lt {X C : Nat} {w : World} {v : Value} {n : Nat} {K Q : Nat → Nat} {m : Nat} (h : NW X C w v n K Q m) (x : Nat) (hx : NS v n K Q x) : x < w.heap.size := by
 obtain ⟨ad, c, rfl, f⟩ := h
 obtain ⟨h0, hx⟩ := hx
 obtain ⟨r, rfl, g1, g2, g3, ⟨arr, ha, -⟩, g4, -⟩ := f h0
 rcases hx with e | ⟨i, hi, hk, rfl⟩
 ·obtain rfl : r = x := by simpa [Value.ownBlock] using e
  exact blk_lt ha
 ·obtain ⟨u, -, hu⟩ := g4 i hi
  exact hu.lt hk
def RSb (rv : Value) (rn : Nat) : Nat → Prop := fun x => 0 < rn ∧ rv.ownBlock = some x
structure PW (X C : Nat) (w : World) (v rv : Value) (n rn : Nat) (K Q : Nat → Nat) (m k : Nat) : Prop where
 nds : NW X C w v n K Q m
 rls : WRv (RSb rv rn) w rv rn (cm K n) k
 inn : ∀ x, RSb rv rn x → X ≤ x ∧ x < C
 far : ∀ x, RSb rv rn x → ¬ NS v n K Q x
 all : m ≤ n
theorem PW.keep {X C : Nat} {w w' : World} {v rv : Value} {n rn : Nat} {K Q : Nat → Nat} {m k : Nat} (h : PW X C w v rv n rn K Q m k) (hb : Below w.heap.size w w') : PW X C w' v rv n rn K Q m k :=
 ⟨h.nds.keep h.all hb, h.rls.keep (fun r h0 e => hb.block r (h.rls.lt h0 e)), h.inn, h.far, h.all⟩
set_option maxRecDepth 100000 in
set_option maxHeartbeats 800000 in
theorem markProg_any (X C n rn : Nat) (v rv : Value) (K Q : Nat → Nat) (w : World) (h0 : PW X C w v rv n rn K Q 0 0) (hC : C ≤ w.heap.size) (hn2 : n ≤ 1000) (hr2 : rn ≤ 1000) (hK : ∀ i, K i ≤ 1000) :
  Calls Tryz.prog 8 #[.agg #[v, rv], .int .i64 1] w fun e w' => e = .returned (.int .i64 ((cm K n + 3 * rn : Nat) : Int)) ∧ PW X C w' v rv n rn K Q n rn ∧ FS (fun x => X ≤ x ∧ x < C) w w' := by
 obtain ⟨hc1, hc2⟩ := cm_le K hK n
 have hb : Below w.heap.size w (w.alloc (.cells #[v, rv] 25)) := (Below.refl _ _).alloc (Nat.le_refl _) _
 have q0 := heap_alloc_new w (.cells #[v, rv] 25)
 have h1 := h0.keep hb
 have HFS : Hid (FS (fun x => X ≤ x ∧ x < C) w (w.alloc (.cells #[v, rv] 25)) ∧ w.heap.size < (w.alloc (.cells #[v, rv] 25)).heap.size) := ⟨FS.ofBelow hb, blk_lt q0⟩
 have HQ0 := hidOf2 q0
 obtain ⟨va, vc, rfl⟩ := h0.nds.form
 obtain ⟨ra, rc, rfl, -⟩ := h0.rls
 have HP := hidOf2 h1
 have HK := hidOf2 hK
 obtain ⟨m, hm⟩ : ∃ m, m = cm K n := ⟨_, rfl⟩
 rw [← hm] at hc1 hc2 ⊢
 have HM := hidOf2 hm
 clear hb q0 h0 h1 hK hm
 go_enter Tryz.func8, Tryz.ntmps8
 go_wp2_with fail
 generalize w.alloc (.cells #[.slice va n vc, .slice ra rn rc] 25) = W at *
 have CN := hidOf2 (markNodes_any X C n _ K Q W HP.out.nds hn2 HK.out)
 rw [← HM.out] at CN
 refine CN.out.mono ?_
 rintro e w1 ⟨rfl, hnw, hfs⟩
 have q1 : w1.heap[w.heap.size]? = some (.cells #[.slice va n vc, .slice ra rn rc] 25 (0, 0)) := (hfs.2.2 _ HFS.out.2 (fun e => by have := HP.out.nds.in _ e; omega)).trans HQ0.out
 have hr1 : WRv (RSb (.slice ra rn rc) rn) w1 (.slice ra rn rc) rn m 0 := by
  rw [HM.out]
  exact HP.out.rls.keep (fun r h0 e => hfs.2.2 r (HP.out.rls.lt h0 e) (HP.out.far r ⟨h0, e⟩))
 have CR := hidOf2 (markRls_any (RSb (.slice ra rn rc) rn) rn m _ w1 hr1 hr2 (by omega))
 have HNW := hidOf2 (And.intro hnw (hfs.sub HP.out.nds.in))
 obtain ⟨k0, k1⟩ := tcells2 q1
 clear hnw hfs hr1 CN q1
 go_wp2_with fail
 refine CR.out.mono ?_
 rintro e w2 ⟨rfl, hr3, hfs2⟩
 have HFIN : Hid (PW X C w2 (.slice va n vc) (.slice ra rn rc) n rn K Q n rn ∧ FS (fun x => X ≤ x ∧ x < C) w w2) := by
  refine ⟨⟨HNW.out.1.but (Nat.le_refl _) (fun x hx => hfs2.2.2 x (HNW.out.1.lt x hx) (fun e => HP.out.far x e hx)), ?_, HP.out.inn, HP.out.far, Nat.le_refl _⟩, (HFS.out.1.trans HNW.out.2).trans (hfs2.sub HP.out.inn)⟩
  rw [← HM.out]
  exact hr3
 clear hr3 hfs2 CR k0 k1
 go_wp2
 go_ret
 exact ⟨by go_num, HFIN.out.1, HFIN.out.2⟩
set_option maxRecDepth 100000 in
set_option maxHeartbeats 800000 in
theorem heldProg_any (X C n rn : Nat) (v rv : Value) (K Q : Nat → Nat) (w : World) (h0 : PW X C w v rv n rn K Q n rn) (hn2 : n ≤ 1000) (hr2 : rn ≤ 1000) (hK : ∀ i, K i ≤ 1000) :
  Calls Tryz.prog 9 #[.agg #[v, rv], .int .i64 1] w fun e w' => e = .returned (.int .i64 ((cm K n + 3 * rn : Nat) : Int)) ∧ Below w.heap.size w w' := by
 obtain ⟨hc1, hc2⟩ := cm_le K hK n
 have hb : Below w.heap.size w (w.alloc (.cells #[v, rv] 25)) := (Below.refl _ _).alloc (Nat.le_refl _) _
 have q0 := heap_alloc_new w (.cells #[v, rv] 25)
 have h1 := h0.keep hb
 have HQ0 := hidOf2 (And.intro q0 hb)
 obtain ⟨va, vc, rfl⟩ := h0.nds.form
 obtain ⟨ra, rc, rfl, -⟩ := h0.rls
 have HP := hidOf2 h1
 have HK := hidOf2 hK
 obtain ⟨m, hm⟩ : ∃ m, m = cm K n := ⟨_, rfl⟩
 rw [← hm] at hc1 hc2 ⊢
 have HM := hidOf2 hm
 clear hb q0 h0 h1 hK hm
 go_enter Tryz.func9, Tryz.ntmps9
 go_wp2_with fail
 generalize w.alloc (.cells #[.slice va n vc, .slice ra rn rc] 25) = W at *
 have CN := hidOf2 (heldNodes_any X C n _ K Q W HP.out.nds hn2 HK.out)
 rw [← HM.out] at CN
 have dm : decide ((m : Int) < 0) = false := decide_eq_false (by omega)
 refine CN.out.mono ?_
 rintro e w1 ⟨rfl, hb1⟩
 have q1 : w1.heap[w.heap.size]? = some (.cells #[.slice va n vc, .slice ra rn rc] 25 (0, 0)) := (hb1.block _ (blk_lt HQ0.out.1)).trans HQ0.out.1
 have hr1 : WRv (RSb (.slice ra rn rc) rn) w1 (.slice ra rn rc) rn m rn := by
  rw [HM.out]
  exact (HP.out.keep hb1).rls
 have CR := hidOf2 (heldRls_any (RSb (.slice ra rn rc) rn) rn m _ w1 hr1 hr2 (by omega))
 have HBB := hidOf2 (HQ0.out.2.trans (hb1.mono HQ0.out.2.size))
 obtain ⟨k0, k1⟩ := tcells2 q1
 have dz : decide (((m + 3 * rn : Nat) : Int) < 0) = false := decide_eq_false (by omega)
 have dz2 : decide ((m : Int) + 3 * (rn : Int) < 0) = false := decide_eq_false (by omega)
 clear hb1 hr1 CN q1
 go_wp2_with fail
 refine CR.out.mono ?_
 rintro e w2 ⟨rfl, rfl⟩
 clear CR k0 k1
 go_wp2
 go_ret
 exact ⟨by go_num, HBB.out⟩
def qOf (cs : List Value) (i : Nat) : Nat := match cs[i * 3 + 2]? with | some (.slice (some a) _ _) => a.block | _ => 0
theorem pw_of {B g : Nat} {X : Nat} {w : World} {v rv : Value} {ps : List Pi} {rs : List Pg.Rl} (hX : X ≤ B) (h : NQ B g (and noX rv) w v ps) (hr : RRow B w rv rs) (hd : ∀ x, rv.ownBlock = some x → v.ownBlock ≠ some x) :
  ∃ Q, PW X w.heap.size w v rv ps.length rs.length (fun i => (ps.getD i Pi.no).kids.length) Q 0 0 := by
 obtain ⟨cs, hn, hl, f, ha1, ha2⟩ := h
 have kid : ∀ i, i < ps.length → 0 < (ps.getD i Pi.no).kids.length → ∃ c, cs[i * 3 + 2]? = some (.slice (some ⟨qOf cs i, 0, none⟩) (ps.getD i Pi.no).kids.length c) ∧ qOf cs i < w.heap.size ∧ v.ownBlock ≠ some (qOf cs i) ∧ rv.ownBlock ≠ some (qOf cs i) ∧ ∀ t, t < (ps.getD i Pi.no).kids.length → ∃ z, w.cell? ⟨qOf cs i, t, none⟩ = some (.int .i64 z) := fun i hi h0 => by
  obtain ⟨-, -, u, h3, ka, kc, rfl, h4⟩ := f i hi
  obtain ⟨b, rfl, k1, k2, k3, k4, k5⟩ := h4 h0
  have hq : qOf cs i = b := by unfold qOf; rw [h3]
  rw [hq]
  exact ⟨kc, h3, k1, k3, fun e => k4 (.inr e), fun t ht => ⟨_, k5 t ht⟩⟩
 have hne : ∀ n, 0 < n → ∃ m, n = m + 1 := fun n h => ⟨n - 1, by omega⟩
 have hlo : ∀ i, i < ps.length → 0 < (ps.getD i Pi.no).kids.length → B ≤ qOf cs i ∧ ∃ arr : Array Value, w.heap[qOf cs i]? = some (.cells arr 3 (0, 0)) := fun i hi h0 => by
  obtain ⟨c, h1, -⟩ := kid i hi h0
  obtain ⟨m, hm⟩ := hne _ h0
  rw [hm] at h1
  exact ha1 i _ _ _ _ h1
 refine ⟨qOf cs, ⟨?_, ?_, ?_, ?_, Nat.zero_le _⟩⟩
 ·rcases hn.2 with ⟨rfl, h0⟩ | ⟨b, cap, cur, rfl, h1, hg, hcap, hmax, hsz, htake⟩
  ·exact ⟨none, 0, by rw [h0], fun h => by omega⟩
  ·have hcl : ∀ o, o < ps.length * 3 → w.cell? ⟨b, o, none⟩ = cs[o]? := fun o ho => by
    rw [blk_cell hg, ← htake, List.getElem?_take_of_lt (by omega)]
    simp
   have hcs : ps.length * 3 ≤ cur.size := by
    have := congrArg List.length htake
    simp at this
    omega
   refine ⟨_, cap, rfl, fun h0 => ⟨b, rfl, by omega, blk_lt hg, fun i hi hk => ⟨by have := (hlo i hi hk).1; omega, (kid i hi hk).choose_spec.2.1⟩, ⟨cur, hg, hcs⟩, fun i hi => ?_, fun i hi hk e => ?_, fun i j hi hj hki hkj e => ?_, fun i hi => by omega⟩⟩
   ·obtain ⟨-, -, u, h3, ka, kc, rfl, h4⟩ := f i hi
    refine ⟨_, (hcl _ (by omega)).trans h3, ka, kc, rfl, fun hk => ?_⟩
    have hk : 0 < (ps.getD i Pi.no).kids.length := hk
    obtain ⟨c, k1, k2, k3, k4, k5⟩ := kid i hi hk
    obtain ⟨q1, arr, q2⟩ := hlo i hi hk
    rw [h3] at k1
    obtain ⟨rfl, -⟩ : ka = some ⟨qOf cs i, 0, none⟩ ∧ kc = c := by simpa using k1
    refine ⟨rfl, arr, q2, ?_⟩
    show (ps.getD i Pi.no).kids.length ≤ arr.size
    obtain ⟨m, hm⟩ := hne _ hk
    obtain ⟨z, hz⟩ := k5 m (by omega)
    rw [blk_cell q2] at hz
    have := (Array.getElem?_eq_some_iff.1 hz).1
    omega
   ·obtain ⟨c, k1, k2, k3, -⟩ := kid i hi hk
    exact k3 (by rw [e]; rfl)
   ·obtain ⟨c, k1, -⟩ := kid i hi hki
    obtain ⟨c', k1', -⟩ := kid j hj hkj
    have hki : 0 < (ps.getD i Pi.no).kids.length := hki
    have hkj : 0 < (ps.getD j Pi.no).kids.length := hkj
    obtain ⟨m, hm⟩ := hne _ hki
    obtain ⟨m', hm'⟩ := hne _ hkj
    rw [hm] at k1
    rw [hm', ← e] at k1'
    exact ha2 i j _ _ _ _ _ _ _ k1 k1'
 ·rcases hr.2 with ⟨rfl, h0⟩ | ⟨b, cap, cur, rfl, h1, hg, hcap, hmax, hsz, htake⟩
  ·exact ⟨none, 0, by rw [h0], fun h => by omega⟩
  ·have hcs : rs.length * 3 ≤ cur.size := by
    have e1 := congrArg List.length htake
    have e2 := hr.1
    simp at e1
    omega
   exact ⟨_, cap, rfl, fun h0 => ⟨b, rfl, ⟨h0, rfl⟩, cur, hg, hcs, fun i hi => by omega⟩⟩
 ·rintro x ⟨h0, hx⟩
  have := World.ownsRow.lt hr x hx
  omega
 ·rintro x ⟨h0, hx⟩ ⟨hn0, e | ⟨i, hi, hk, rfl⟩⟩
  ·exact hd x hx e
  ·exact (kid i hi hk).choose_spec.2.2.2.1 hx
end PartMnD
section PartRsQ
namespace Pr
def Wrong (ps : List Pi) : Prop := 200 < ps.length ∨ ∃ i, i < ps.length ∧ Pg.node ps i = false
theorem getD_app (ps qs : List Pi) (i : Nat) (h : i < ps.length) : (ps ++ qs).getD i Pi.no = ps.getD i Pi.no := by
 simp [List.getD_eq_getElem?_getD, List.getElem?_append_left h]
theorem kid_app (ps qs : List Pi) (i : Nat) (hi : i < ps.length) (x : Pi) (k : Nat) : Pg.kid (ps ++ qs) i x k = Pg.kid ps i x k := by
 unfold Pg.kid
 by_cases h : 0 ≤ x.kids.getD k 0 ∧ x.kids.getD k 0 ≤ (i : Int) - 1
 ·rw [getD_app ps qs _ (by omega)]
 ·rw [decide_eq_false h, Bool.false_and, Bool.false_and]
theorem node_app (ps qs : List Pi) (i : Nat) (hi : i < ps.length) : Pg.node (ps ++ qs) i = Pg.node ps i := by
 unfold Pg.node
 rw [getD_app ps qs i hi]
 congr 1
 have : Pg.kid (ps ++ qs) i (ps.getD i Pi.no) = Pg.kid ps i (ps.getD i Pi.no) := funext fun k => kid_app ps qs i hi _ k
 rw [this]
theorem Wrong.more {ps : List Pi} (h : Wrong ps) (qs : List Pi) : Wrong (ps ++ qs) := by
 rcases h with h | ⟨i, hi, h⟩
 ·exact .inl (by rw [List.length_append]; omega)
 ·exact .inr ⟨i, by rw [List.length_append]; omega, by rw [node_app ps qs i hi]; exact h⟩
section
variable {ts : List Tk.Tok}
theorem dropC {a : Nat} {t : Tk.Tok} {r : List Tk.Tok} (h : ts.drop a = t :: r) : a < ts.length ∧ ts.getD a Tk.no = t ∧ ts.drop (a + 1) = r := by
 have hl : a < ts.length := by
  have := congrArg List.length h
  simp at this
  omega
 rw [List.drop_eq_getElem_cons hl] at h
 obtain ⟨h1, h2⟩ := List.cons.inj h
 exact ⟨hl, by rw [← h1]; simp [hl], h2⟩
theorem dropN {a : Nat} (h : ts.drop a = []) : ts.length ≤ a := by simpa using h
theorem is_drop {st : PS} (hb : st.bad = false) (k : Nat) (x : List UInt8) : st.is ts k x = Rx.is (ts.drop st.a) k x := by
 unfold PS.is Pr.is
 rw [hb]
 cases h : ts.drop st.a with
 | nil =>
  have := dropN h
  rw [decide_eq_false (by omega : ¬ st.a < ts.length)]
  rfl
 | cons t r =>
  obtain ⟨h1, h2, -⟩ := dropC h
  rw [h2, decide_eq_true h1]
  rfl
def Okk (ts : List Tk.Tok) (o X : List Pi) (r : List Tk.Tok) (st : PS) : Prop := (st.bad = true ∧ Wrong (o ++ X)) ∨ (st.bad = false ∧ st.out = o ++ X ∧ ts.drop st.a = r ∧ st.a ≤ ts.length)
def last (o X : List Pi) : Int := ((o.length + X.length : Nat) : Int) - 1
def Agr1 (ts : List Tk.Tok) (o : List Pi) (R : Option ((Nat → List Pi) × List Tk.Tok)) (q : PS × Int) : Prop :=
 match R with
 | none => q.1.bad = true
 | some (G, r) => Okk ts o (G o.length) r q.1 ∧ (q.1.bad = false → q.2 = last o (G o.length))
def Agr (ts : List Tk.Tok) (F : Rf) (I : Ip.Rd) : Prop := ∀ st, st.bad = false → st.a ≤ ts.length → Agr1 ts st.out (I (ts.drop st.a)) (F st)
theorem Okk.start {st : PS} (hb : st.bad = false) (ha : st.a ≤ ts.length) : Okk ts st.out [] (ts.drop st.a) st := .inr ⟨hb, by rw [List.append_nil], rfl, ha⟩
section
variable {o X : List Pi} {r : List Tk.Tok} {st : PS}
theorem Okk.put (h : Okk ts o X r st) {p p' : Pi} (hp : st.bad = false → p = p') : Okk ts o (X ++ [p']) r (st.put p).1 ∧ ((st.put p).1.bad = false → (st.put p).2 = last o (X ++ [p'])) := by
 rcases h with ⟨hb, hw⟩ | ⟨hb, ho, hr, ha⟩
 ·refine ⟨.inl ⟨put_badT hb, by rw [← List.append_assoc]; exact hw.more _⟩, fun h2 => ?_⟩
  rw [put_badT hb] at h2
  cases h2
 ·obtain rfl := hp hb
  refine ⟨?_, fun _ => ?_⟩
  ·by_cases hl : 200 < st.out.length + 1
   ·refine .inl ⟨by simp [PS.put, hb, hl], .inl ?_⟩
    rw [← List.append_assoc, ← ho, List.length_append]
    simpa using hl
   ·exact .inr ⟨by simp [PS.put, hb]; omega, by simp [PS.put, ho], hr, ha⟩
  ·show (st.out.length : Int) = last o (X ++ [p])
   unfold last
   rw [ho]
   simp only [List.length_append, List.length_cons, List.length_nil]
   omega
theorem Okk.want_no (h : Okk ts o X r st) {x : List UInt8} (hw : Ip.want 5 x r = none) : (st.want ts x).bad = true := by
 rcases h with ⟨hb, -⟩ | ⟨hb, -, hr, -⟩
 ·rw [want_bad hb]; exact hb
 ·unfold PS.want
  rw [is_drop hb, hr, want_none hw]
  rfl
theorem Okk.want (h : Okk ts o X r st) {x : List UInt8} {r' : List Tk.Tok} (hw : Ip.want 5 x r = some r') : Okk ts o X r' (st.want ts x) := by
 rcases h with ⟨hb, h2⟩ | ⟨hb, ho, hr, ha⟩
 ·rw [want_bad hb]; exact .inl ⟨hb, h2⟩
 ·obtain ⟨t, e, hi⟩ := want_some hw
  rw [e] at hr
  obtain ⟨h1, -, h3⟩ := dropC hr
  unfold PS.want
  rw [is_drop hb, hr, ← e, hi, if_pos rfl]
  exact .inr ⟨hb, ho, h3, h1⟩
theorem Okk.go (h : Okk ts o X r st) {k : Nat} {x : List UInt8} {r' : List Tk.Tok} (hb : st.bad = false) (hw : Ip.want k x r = some r') : st.is ts k x = true ∧ Okk ts o X r' st.go ∧ st.go.bad = false := by
 rcases h with ⟨hb2, -⟩ | ⟨-, ho, hr, ha⟩
 ·rw [hb] at hb2; cases hb2
 ·obtain ⟨t, e, hi⟩ := want_some hw
  rw [is_drop hb, hr]
  rw [e] at hr
  obtain ⟨h1, -, h3⟩ := dropC hr
  exact ⟨hi, .inr ⟨hb, ho, h3, h1⟩, hb⟩
theorem Okk.isn (h : Okk ts o X r st) {k : Nat} {x : List UInt8} (hw : Ip.want k x r = none) : st.is ts k x = false := by
 rcases h with ⟨hb, -⟩ | ⟨hb, -, hr, -⟩
 ·exact is_bad hb
 ·rw [is_drop hb, hr]; exact want_none hw
theorem Okk.then (h : Okk ts o X r st) {m : Nat} {F : Rf} {I : Ip.Rd} (hF : Fn ts m F) (hA : Agr ts F I) :
  match I r with
  | none => (F st).1.bad = true
  | some (G, r') => Okk ts o (X ++ G (o.length + X.length)) r' (F st).1 ∧ ((F st).1.bad = false → (F st).2 = last o (X ++ G (o.length + X.length))) := by
 rcases h with ⟨hb, hw⟩ | ⟨hb, ho, hr, ha⟩
 ·have e := hF.bad st hb
  cases hI : I r with
  | none => show (F st).1.bad = true; rw [e]; exact hb
  | some q =>
   obtain ⟨G, r'⟩ := q
   show Okk _ _ _ _ _ ∧ _
   rw [e]
   refine ⟨.inl ⟨hb, by rw [← List.append_assoc]; exact hw.more _⟩, fun h2 => ?_⟩
   rw [hb] at h2; cases h2
 ·have h1 := hA st hb ha
  rw [hr] at h1
  cases hI : I r with
  | none => rw [hI] at h1; exact h1
  | some q =>
   obtain ⟨G, r'⟩ := q
   rw [hI] at h1
   obtain ⟨h2, h3⟩ := h1
   have hl : st.out.length = o.length + X.length := by rw [ho, List.length_append]
   have e1 : st.out ++ G st.out.length = o ++ (X ++ G (o.length + X.length)) := by rw [hl, ho, List.append_assoc]
   refine ⟨?_, fun h4 => ?_⟩
   ·rcases h2 with ⟨a, b⟩ | ⟨a, b, c, d⟩
    ·exact .inl ⟨a, by rw [← e1]; exact b⟩
    ·exact .inr ⟨a, by rw [← e1]; exact b, c, d⟩
   ·rw [h3 h4]
    unfold last
    rw [hl, List.length_append]
    omega
end
end
end Pr
end PartRsQ
section PartRsR
namespace Pr
section
variable {ts : List Tk.Tok} {m : Nat} {o : List Pi}
theorem all1 (G : Nat → List Pi) (n : Nat) : Fl.all [G] n = G n := by simp [Fl.all]
theorem all2 (G H : Nat → List Pi) (n : Nat) : Fl.all [G, H] n = G n ++ H (n + (G n).length) := by simp [Fl.all]
theorem node0 (op : Nat) (t : List UInt8) (n : Nat) : Fl.node op t [] n = [nd (op : Int) t []] := by simp [Fl.node, Fl.all, Fl.ids]
theorem node1 (op : Nat) (t : List UInt8) (G : Nat → List Pi) : Fl.node op t [G] o.length = G o.length ++ [nd (op : Int) t [last o (G o.length)]] := by
 simp [Fl.node, all1, Fl.ids, last]
theorem node2 (op : Nat) (t : List UInt8) (G H : Nat → List Pi) : Fl.node op t [G, H] o.length = (G o.length ++ H (o.length + (G o.length).length)) ++ [nd (op : Int) t [last o (G o.length), last o (G o.length ++ H (o.length + (G o.length).length))]] := by
 simp only [Fl.node, all2, Fl.ids, last, List.length_append, Nat.add_assoc]
theorem Agr1.bad {R : Option ((Nat → List Pi) × List Tk.Tok)} {q : PS × Int} (hb : q.1.bad = true) (hw : ∀ G r, R = some (G, r) → Wrong (o ++ G o.length)) : Agr1 ts o R q := by
 cases R with
 | none => exact hb
 | some p =>
  obtain ⟨G, r⟩ := p
  exact ⟨.inl ⟨hb, hw G r rfl⟩, fun h => by rw [hb] at h; cases h⟩
theorem Agr1.none' {R : Option ((Nat → List Pi) × List Tk.Tok)} {q : PS × Int} (hR : R = none) (hb : q.1.bad = true) : Agr1 ts o R q := by rw [hR]; exact hb
theorem Agr1.some' {R : Option ((Nat → List Pi) × List Tk.Tok)} {q : PS × Int} {G : Nat → List Pi} {r : List Tk.Tok} (hR : R = some (G, r)) (h : Okk ts o (G o.length) r q.1) (h2 : q.1.bad = false → q.2 = last o (G o.length)) : Agr1 ts o R q := by rw [hR]; exact ⟨h, h2⟩
theorem rowL_ext {I : Ip.Rd} {a b : Nat} : ∀ (f : Nat) (G : Nat → List Pi) (us : List Tk.Tok) (G' : Nat → List Pi) (r : List Tk.Tok) (n : Nat), Ip.rowL I a b f G us = some (G', r) → ∃ Y, G' n = G n ++ Y
 | 0, G, us, G', r, n, e => by
  simp only [Ip.rowL, Option.some.injEq, Prod.mk.injEq] at e
  obtain ⟨rfl, rfl⟩ := e
  exact ⟨[], by simp⟩
 | f + 1, G, us, G', r, n, e => by
  simp only [Ip.rowL] at e
  split at e
  ·simp only [Option.some.injEq, Prod.mk.injEq] at e
   obtain ⟨rfl, rfl⟩ := e
   exact ⟨[], by simp⟩
  ·rename_i j r1 hop
   simp only [Option.bind_eq_some_iff] at e
   obtain ⟨q, -, h2⟩ := e
   obtain ⟨Y, hY⟩ := rowL_ext f _ _ _ _ n h2
   refine ⟨(q.1 (n + (G n).length) ++ [nd (j : Int) [] (Fl.ids [G, q.1] n)]) ++ Y, ?_⟩
   rw [hY]
   unfold Fl.node
   rw [all2]
   simp only [List.append_assoc]
theorem opOf_cases {a b j : Nat} {us r : List Tk.Tok} (h : Ip.opOf a b us = some (j, r)) : (j = a ∧ Ip.want 5 (Rx.sign a) us = some r) ∨ (j = b ∧ Ip.want 5 (Rx.sign a) us = none ∧ Ip.want 5 (Rx.sign b) us = some r) := by
 unfold Ip.opOf at h
 split at h
 ·rename_i r0 hw
  simp only [Option.some.injEq, Prod.mk.injEq] at h
  obtain ⟨rfl, rfl⟩ := h
  exact .inl ⟨rfl, hw⟩
 ·rename_i hw
  simp only [Option.map_eq_some_iff, Prod.mk.injEq] at h
  obtain ⟨r0, h1, rfl, rfl⟩ := h
  exact .inr ⟨rfl, hw, h1⟩
theorem opOf_none {a b : Nat} {us : List Tk.Tok} (h : Ip.opOf a b us = none) : Ip.want 5 (Rx.sign a) us = none ∧ Ip.want 5 (Rx.sign b) us = none := by
 unfold Ip.opOf at h
 split at h
 ·cases h
 ·rename_i hw
  exact ⟨hw, by simpa using h⟩
theorem two_step {F : Rf} {I : Ip.Rd} (hF : Fn ts m F) (hA : Agr ts F I) {st : PS} {k : Int} {G : Nat → List Pi} {r1 : List Tk.Tok} (h : Okk ts o (G o.length) r1 st) (hk : k = last o (G o.length)) (j : Nat) :
  match I r1 with
  | none => ((F st).1.put (nd (j : Int) [] [k, (F st).2])).1.bad = true
  | some (H, r2) => Okk ts o (Fl.node j [] [G, H] o.length) r2 ((F st).1.put (nd (j : Int) [] [k, (F st).2])).1 ∧ (((F st).1.put (nd (j : Int) [] [k, (F st).2])).1.bad = false → ((F st).1.put (nd (j : Int) [] [k, (F st).2])).2 = last o (Fl.node j [] [G, H] o.length)) := by
 have h1 := h.then hF hA
 cases hI : I r1 with
 | none => rw [hI] at h1; exact put_badT h1
 | some q =>
  obtain ⟨H, r2⟩ := q
  rw [hI] at h1
  obtain ⟨h2, h3⟩ := h1
  show Okk _ _ _ _ _ ∧ _
  rw [node2]
  exact h2.put (fun hb => by rw [hk, h3 hb])
theorem binL_agr {F : Rf} {I : Ip.Rd} (hF : Fn ts m F) (hA : Agr ts F I) (hS : Ip.Shr I) (a b : Nat) (x1 x2 : List UInt8) (hx1 : Rx.sign a = x1) (hx2 : Rx.sign b = x2) :
  ∀ (f2 f1 : Nat) (st : PS) (k : Int) (G : Nat → List Pi) (us : List Tk.Tok), Okk ts o (G o.length) us st → (st.bad = false → k = last o (G o.length)) → us.length ≤ f1 → us.length ≤ f2 → Agr1 ts o (Ip.rowL I a b f2 G us) (binL ts F x1 x2 (a : Int) (b : Int) f1 st k) := by
 intro f2
 induction f2 with
 | zero =>
  intro f1 st k G us h hk h1 h2
  have e : us = [] := List.length_eq_zero_iff.1 (by omega)
  subst e
  have hq : binL ts F x1 x2 (a : Int) (b : Int) f1 st k = (st, k) := by
   cases f1 with
   | zero => rfl
   | succ f1 =>
    unfold binL
    rw [h.isn (k := 5) (x := x1) rfl, h.isn (k := 5) (x := x2) rfl]
    split
    ·rfl
    ·simp
  rw [hq]
  exact ⟨h, hk⟩
 | succ f2 ih =>
  intro f1 st k G us h hk h1 h2
  cases hb : st.bad with
  | true =>
   rw [binL_bad F x1 x2 _ _ f1 k hb]
   refine Agr1.bad hb (fun G' r e => ?_)
   obtain ⟨Y, hY⟩ := rowL_ext _ _ _ _ _ o.length e
   rw [hY, ← List.append_assoc]
   rcases h with ⟨-, hw⟩ | ⟨hb2, -⟩
   ·exact hw.more _
   ·rw [hb] at hb2; cases hb2
  | false =>
   cases hop : Ip.opOf a b us with
   | none =>
    obtain ⟨w1, w2⟩ := opOf_none hop
    rw [hx1] at w1
    rw [hx2] at w2
    have hq : binL ts F x1 x2 (a : Int) (b : Int) f1 st k = (st, k) := by
     cases f1 with
     | zero => rfl
     | succ f1 =>
      unfold binL
      rw [h.isn w1, h.isn w2]
      split
      ·rfl
      ·simp
    rw [hq]
    refine Agr1.some' (G := G) (r := us) ?_ h hk
    rw [Ip.rowL, hop]
   | some q =>
    obtain ⟨j, r1⟩ := q
    have hlen := opOf_shr hop
    obtain ⟨f1, rfl⟩ : ∃ f', f1 = f' + 1 := ⟨f1 - 1, by omega⟩
    have step : ∃ (st' : PS) (hgo : Okk ts o (G o.length) r1 st.go), binL ts F x1 x2 (a : Int) (b : Int) (f1 + 1) st k = binL ts F x1 x2 (a : Int) (b : Int) f1 ((F st.go).1.put (nd (j : Int) [] [k, (F st.go).2])).1 ((F st.go).1.put (nd (j : Int) [] [k, (F st.go).2])).2 := by
     rcases opOf_cases hop with ⟨rfl, w⟩ | ⟨rfl, wn, w⟩
     ·rw [hx1] at w
      obtain ⟨g1, g2, g3⟩ := h.go hb w
      refine ⟨st, g2, ?_⟩
      rw [binL, if_neg (by rw [hb]; decide), if_pos g1]
     ·rw [hx1] at wn
      rw [hx2] at w
      obtain ⟨g1, g2, g3⟩ := h.go hb w
      refine ⟨st, g2, ?_⟩
      rw [binL, if_neg (by rw [hb]; decide), if_neg (by rw [h.isn wn]; decide), if_pos g1]
    obtain ⟨-, hgo, hq⟩ := step
    rw [hq]
    have h3 := two_step hF hA hgo (hk hb) j
    cases hI : I r1 with
    | none =>
     rw [hI] at h3
     refine Agr1.none' ?_ ?_
     ·rw [Ip.rowL, hop]; simp [hI]
     ·rw [binL_bad F x1 x2 _ _ f1 _ h3]; exact h3
    | some p =>
     obtain ⟨H, r2⟩ := p
     rw [hI] at h3
     have hs := hS _ _ _ hI
     have := ih f1 _ _ (Fl.node j [] [G, H]) r2 h3.1 h3.2 (by omega) (by omega)
     have e : Ip.rowL I a b (f2 + 1) G us = Ip.rowL I a b f2 (Fl.node j [] [G, H]) r2 := by
      rw [Ip.rowL, hop]
      simp [hI]
     rw [e]
     exact this
theorem row_agr {F : Rf} {I : Ip.Rd} (hF : Fn ts m F) (hA : Agr ts F I) (hS : Ip.Shr I) (a b : Nat) (x1 x2 : List UInt8) (hx1 : Rx.sign a = x1) (hx2 : Rx.sign b = x2) :
  Agr ts (fun st => binL ts F x1 x2 (a : Int) (b : Int) (ts.length + 1) (F st).1 (F st).2) (Ip.row I a b) := by
 intro st hb ha
 have h := hA st hb ha
 cases hI : I (ts.drop st.a) with
 | none =>
  rw [hI] at h
  refine Agr1.none' (by unfold Ip.row; rw [hI]; rfl) ?_
  show (binL _ _ _ _ _ _ _ _ _).1.bad = true
  rw [binL_bad F x1 x2 _ _ _ _ h]
  exact h
 | some q =>
  obtain ⟨G, r⟩ := q
  rw [hI] at h
  have hs := hS _ _ _ hI
  have hl : (ts.drop st.a).length ≤ ts.length := by simp
  have e : Ip.row I a b (ts.drop st.a) = Ip.rowL I a b r.length G r := by unfold Ip.row; rw [hI]; rfl
  rw [e]
  exact binL_agr hF hA hS a b x1 x2 hx1 hx2 _ _ _ _ G r h.1 h.2 (by omega) (Nat.le_refl _)
end
end Pr
end PartRsR
section PartRsS
namespace Pr
section
variable {ts : List Tk.Tok} {m : Nat} {o : List Pi}
theorem joinL_agr {F : Rf} {I : Ip.Rd} (hF : Fn ts m F) (hA : Agr ts F I) (hS : Ip.Shr I) :
  ∀ (f2 f1 : Nat) (st : PS) (k : Int) (G : Nat → List Pi) (us : List Tk.Tok), Okk ts o (G o.length) us st → (st.bad = false → k = last o (G o.length)) → us.length ≤ f1 → us.length ≤ f2 → Agr1 ts o (Ip.rowL I 13 13 f2 G us) (joinL ts F f1 st k) := by
 intro f2
 induction f2 with
 | zero =>
  intro f1 st k G us h hk h1 h2
  have e : us = [] := List.length_eq_zero_iff.1 (by omega)
  subst e
  have hq : joinL ts F f1 st k = (st, k) := by
   cases f1 with
   | zero => rfl
   | succ f1 => rw [joinL, if_neg (by rw [h.isn (k := 5) (x := [46]) rfl]; decide)]
  rw [hq]
  exact ⟨h, hk⟩
 | succ f2 ih =>
  intro f1 st k G us h hk h1 h2
  cases hb : st.bad with
  | true =>
   rw [joinL_bad F f1 k hb]
   refine Agr1.bad hb (fun G' r e => ?_)
   obtain ⟨Y, hY⟩ := rowL_ext _ _ _ _ _ o.length e
   rw [hY, ← List.append_assoc]
   rcases h with ⟨-, hw⟩ | ⟨hb2, -⟩
   ·exact hw.more _
   ·rw [hb] at hb2; cases hb2
  | false =>
   cases hop : Ip.opOf 13 13 us with
   | none =>
    obtain ⟨w1, -⟩ := opOf_none hop
    have hq : joinL ts F f1 st k = (st, k) := by
     cases f1 with
     | zero => rfl
     | succ f1 =>
      have w1' : st.is ts 5 [46] = false := h.isn w1
      rw [joinL, if_neg (by rw [w1']; decide)]
    rw [hq]
    refine Agr1.some' (G := G) (r := us) ?_ h hk
    rw [Ip.rowL, hop]
   | some q =>
    obtain ⟨j, r1⟩ := q
    have hlen := opOf_shr hop
    obtain ⟨f1, rfl⟩ : ∃ f', f1 = f' + 1 := ⟨f1 - 1, by omega⟩
    obtain ⟨rfl, w⟩ : j = 13 ∧ Ip.want 5 (Rx.sign 13) us = some r1 := by
     rcases opOf_cases hop with ⟨e, w⟩ | ⟨e, -, w⟩
     ·exact ⟨e, w⟩
     ·exact ⟨e, w⟩
    obtain ⟨g1, hgo, -⟩ := h.go hb w
    have hq : joinL ts F (f1 + 1) st k = joinL ts F f1 ((F st.go).1.put (nd ((13 : Nat) : Int) [] [k, (F st.go).2])).1 ((F st.go).1.put (nd ((13 : Nat) : Int) [] [k, (F st.go).2])).2 := by
     have g1' : st.is ts 5 [46] = true := g1
     rw [joinL, if_pos g1']
     rfl
    rw [hq]
    have h3 := two_step hF hA hgo (hk hb) 13
    cases hI : I r1 with
    | none =>
     rw [hI] at h3
     refine Agr1.none' ?_ ?_
     ·rw [Ip.rowL, hop]; simp [hI]
     ·rw [joinL_bad F f1 _ h3]; exact h3
    | some p =>
     obtain ⟨H, r2⟩ := p
     rw [hI] at h3
     have hs := hS _ _ _ hI
     have := ih f1 _ _ (Fl.node 13 [] [G, H]) r2 h3.1 h3.2 (by omega) (by omega)
     have e : Ip.rowL I 13 13 (f2 + 1) G us = Ip.rowL I 13 13 f2 (Fl.node 13 [] [G, H]) r2 := by
      rw [Ip.rowL, hop]
      simp [hI]
     rw [e]
     exact this
theorem product_agr {S : Rf} {I : Ip.Rd} (hF : Fn ts m S) (hA : Agr ts S I) (hS : Ip.Shr I) : Agr ts (product ts S) (Ip.row I 11 12) := row_agr hF hA hS 11 12 [42] [37] rfl rfl
theorem joined_agr {S : Rf} {I : Ip.Rd} (hF : Fn ts m (sum ts S)) (hA : Agr ts (sum ts S) I) (hS : Ip.Shr I) : Agr ts (joined ts S) (Ip.row I 13 13) := by
 intro st hb ha
 have h := hA st hb ha
 unfold joined
 cases hI : I (ts.drop st.a) with
 | none =>
  rw [hI] at h
  refine Agr1.none' (by unfold Ip.row; rw [hI]; rfl) ?_
  rw [joinL_bad _ _ _ h]
  exact h
 | some q =>
  obtain ⟨G, r⟩ := q
  rw [hI] at h
  have hs := hS _ _ _ hI
  have hl : (ts.drop st.a).length ≤ ts.length := by simp
  have e : Ip.row I 13 13 (ts.drop st.a) = Ip.rowL I 13 13 r.length G r := by unfold Ip.row; rw [hI]; rfl
  rw [e]
  exact joinL_agr hF hA hS _ _ _ _ G r h.1 h.2 (by omega) (Nat.le_refl _)
theorem held_agr {J : Rf} {I : Ip.Rd} (hF : Fn ts m J) (hA : Agr ts J I) {st : PS} {k : Int} {G : Nat → List Pi} {us : List Tk.Tok} (h : Okk ts o (G o.length) us st) (hk : st.bad = false → k = last o (G o.length)) : Agr1 ts o (Ip.held I G us) (held ts J st k) := by
 cases hb : st.bad with
 | true =>
  have e : held ts J st k = (st, k) := by
   unfold held
   rw [is_bad hb, is_bad hb, is_bad hb]
   simp
  rw [e]
  refine Agr1.bad hb (fun G' r e => ?_)
  have hw : Wrong (o ++ G o.length) := by
   rcases h with ⟨-, hw⟩ | ⟨hb2, -⟩
   ·exact hw
   ·rw [hb] at hb2; cases hb2
  unfold Ip.held at e
  split at e
  ·simp only [Option.map_eq_some_iff, Prod.mk.injEq] at e
   obtain ⟨q, -, rfl, -⟩ := e
   rw [node2, List.append_assoc, ← List.append_assoc]
   exact hw.more _
  ·split at e
   ·rename_i r1 hw1
    cases r1 with
    | nil => cases e
    | cons t r2 =>
     simp only [Ip.has] at e
     split at e
     ·simp only [Option.some.injEq, Prod.mk.injEq] at e
      obtain ⟨rfl, -⟩ := e
      rw [node1, ← List.append_assoc]
      exact hw.more _
     ·cases e
   ·simp only [Option.some.injEq, Prod.mk.injEq] at e
    obtain ⟨rfl, -⟩ := e
    exact hw
 | false =>
  have hk2 := hk hb
  cases hop : Ip.opOf 14 15 us with
  | some q =>
   obtain ⟨j, r1⟩ := q
   have step : Okk ts o (G o.length) r1 st.go ∧ held ts J st k = (J st.go).1.put (nd (j : Int) [] [k, (J st.go).2]) := by
    rcases opOf_cases hop with ⟨rfl, w⟩ | ⟨rfl, wn, w⟩
    ·obtain ⟨g1, g2, -⟩ := h.go hb w
     have g1' : st.is ts 5 [60] = true := g1
     exact ⟨g2, by unfold held; rw [if_pos g1']; rfl⟩
    ·obtain ⟨g1, g2, -⟩ := h.go hb w
     have g1' : st.is ts 5 [61, 61] = true := g1
     have n1' : st.is ts 5 [60] = false := h.isn wn
     exact ⟨g2, by unfold held; rw [if_neg (by rw [n1']; decide), if_pos g1']; rfl⟩
   rw [step.2]
   have h3 := two_step hF hA step.1 hk2 j
   cases hI : I r1 with
   | none =>
    rw [hI] at h3
    exact Agr1.none' (by unfold Ip.held; rw [hop]; simp [hI]) h3
   | some p =>
    obtain ⟨H, r2⟩ := p
    rw [hI] at h3
    exact Agr1.some' (G := Fl.node j [] [G, H]) (r := r2) (by unfold Ip.held; rw [hop]; simp [hI]) h3.1 h3.2
  | none =>
   obtain ⟨w1, w2⟩ := opOf_none hop
   have n1 : st.is ts 5 [60] = false := h.isn w1
   have n2 : st.is ts 5 [61, 61] = false := h.isn w2
   cases hw : Ip.want 5 [126] us with
   | none =>
    have n3 := h.isn hw
    have e : held ts J st k = (st, k) := by
     unfold held
     rw [n1, n2, n3]
     simp
    rw [e]
    exact Agr1.some' (G := G) (r := us) (by unfold Ip.held; rw [hop]; simp only [hw]) h hk
   | some r1 =>
    obtain ⟨g1, g2, g3⟩ := h.go hb hw
    rcases g2 with ⟨gb, -⟩ | ⟨-, ho, hr, ha⟩
    ·rw [g3] at gb; cases gb
    ·cases r1 with
     | nil =>
      have hov : st.go.over ts = true := by
       have := dropN hr
       simp [PS.over]
       omega
      have e : held ts J st k = (st.go.fail, 0) := by
       unfold held
       rw [n1, n2, g1, hov]
       simp
      rw [e]
      exact Agr1.none' (by unfold Ip.held; rw [hop]; simp only [hw]; rfl) rfl
     | cons t r2 =>
      obtain ⟨c1, c2, c3⟩ := dropC hr
      have htk : st.go.tok ts = t := c2
      have hov : st.go.over ts = false := by simp [PS.over, g3]; omega
      by_cases h4 : t.kind = 4
      ·have e : held ts J st k = st.go.go.put (nd 16 t.text [k]) := by
        unfold held
        rw [n1, n2, g1, hov, htk]
        simp [h4]
       rw [e]
       have h5 : Okk ts o (G o.length) r2 st.go.go := .inr ⟨g3, ho, c3, c1⟩
       have h6 := h5.put (p := nd 16 t.text [k]) (p' := nd 16 t.text [last o (G o.length)]) (fun _ => by rw [hk2])
       refine Agr1.some' (G := Fl.node 16 t.text [G]) (r := r2) ?_ ?_ ?_
       ·unfold Ip.held
        rw [hop]
        simp only [hw, Ip.has, h4, if_true]
       ·rw [node1]; exact h6.1
       ·rw [node1]; exact h6.2
      ·have e : held ts J st k = (st.go.fail, 0) := by
        unfold held
        rw [n1, n2, g1, hov, htk]
        simp [h4]
       rw [e]
       exact Agr1.none' (by unfold Ip.held; rw [hop]; simp only [hw, Ip.has, h4, if_false]) rfl
end
end Pr
end PartRsS
section PartRsT
theorem want_ne {k : Nat} {x : List UInt8} {t : Tk.Tok} {r : List Tk.Tok} (h : t.kind ≠ k) : Ip.want k x (t :: r) = none := by
 simp only [Ip.want, Rx.is, decide_eq_false h, Bool.false_and]
 rfl
theorem want_nil (k : Nat) (x : List UInt8) : Ip.want k x [] = none := rfl
theorem want_rest {k : Nat} {x : List UInt8} {t : Tk.Tok} {r r' : List Tk.Tok} (h : Ip.want k x (t :: r) = some r') : r' = r ∧ t.kind = k ∧ t.text = x := by
 obtain ⟨t', e, hi⟩ := want_some h
 obtain ⟨rfl, rfl⟩ := List.cons.inj e
 simp only [Rx.is, Bool.and_eq_true, decide_eq_true_eq] at hi
 exact ⟨rfl, hi⟩
namespace Pr
def Nm (ts : List Tk.Tok) : Prop := ∀ t ∈ ts, t.kind = 1 → Pg.words.contains t.text = false → Pg.name t.text = true
section
variable {ts : List Tk.Tok} {m : Nat} {o X : List Pi} {r : List Tk.Tok} {st : PS}
theorem exprOne_agr {S : Rf} {I : Ip.Rd} (hF : Fn ts m S) (hA : Agr ts S I) (hS : Ip.Shr I) : Agr ts (exprOne ts S) (Ip.expr (Ip.row (Ip.row (Ip.row I 11 12) 9 10) 13 13)) := by
 have a1 := product_agr hF hA hS
 have a2 : Agr ts (sum ts S) (Ip.row (Ip.row I 11 12) 9 10) := row_agr (fnProduct hF) a1 (Ip.shr_row hS) 9 10 [43] [45] rfl rfl
 have a3 := joined_agr (fnSum hF) a2 (Ip.shr_row (Ip.shr_row hS))
 have hJ := fnJoined hF
 intro st hb ha
 have h := a3 st hb ha
 unfold exprOne
 cases hI : Ip.row (Ip.row (Ip.row I 11 12) 9 10) 13 13 (ts.drop st.a) with
 | none =>
  rw [hI] at h
  refine Agr1.none' (by unfold Ip.expr; rw [hI]; rfl) ?_
  have h' : (joined ts S st).1.bad = true := h
  unfold held
  rw [is_bad h', is_bad h', is_bad h']
  simpa using h'
 | some q =>
  obtain ⟨G, r⟩ := q
  rw [hI] at h
  have e : Ip.expr (Ip.row (Ip.row (Ip.row I 11 12) 9 10) 13 13) (ts.drop st.a) = Ip.held (Ip.row (Ip.row (Ip.row I 11 12) 9 10) 13 13) G r := by unfold Ip.expr; rw [hI]; rfl
  rw [e]
  exact held_agr hJ a3 h.1 h.2
theorem wantGood {x : List UInt8} (h : (st.want ts x).bad = false) : st.bad = false := by
 cases hb : st.bad with
 | false => rfl
 | true => rw [want_bad hb, hb] at h; cases h
theorem Okk.upTo (h : Okk ts o X r st) {E : Rf} {IE : Ip.Rd} (hE : Fn ts m E) (aE : Agr ts E IE) (x : List UInt8) :
  match Ip.upTo IE x r with
  | none => ((E st).1.want ts x).bad = true
  | some (G, r') => Okk ts o (X ++ G (o.length + X.length)) r' ((E st).1.want ts x) ∧ (((E st).1.want ts x).bad = false → (E st).2 = last o (X ++ G (o.length + X.length))) := by
 have h1 := h.then hE aE
 cases hI : IE r with
 | none =>
  rw [hI] at h1
  have e : Ip.upTo IE x r = none := by unfold Ip.upTo; rw [hI]; rfl
  rw [e]
  show ((E st).1.want ts x).bad = true
  rw [want_bad h1]
  exact h1
 | some q =>
  obtain ⟨G, r1⟩ := q
  rw [hI] at h1
  cases hw : Ip.want 5 x r1 with
  | none =>
   have e : Ip.upTo IE x r = none := by unfold Ip.upTo; rw [hI]; simp [hw]
   rw [e]
   exact h1.1.want_no hw
  | some r2 =>
   have e : Ip.upTo IE x r = some (G, r2) := by unfold Ip.upTo; rw [hI]; simp [hw]
   rw [e]
   exact ⟨h1.1.want hw, fun h => h1.2 (wantGood h)⟩
theorem simple_agr {S E : Rf} {IS IE : Ip.Rd} (hS : Fn ts m S) (hE : Fn ts m E) (aS : Agr ts S IS) (aE : Agr ts E IE) (hN : Nm ts) : Agr ts (simpleOne ts S E) (Ip.here IS (Ip.upTo IE [41]) (Ip.upTo IE [93])) := by
 intro st hb ha
 have ok0 := Okk.start hb ha
 cases hd : ts.drop st.a with
 | nil =>
  have hov : st.over ts = true := by
   have := dropN hd
   simp [PS.over]
   omega
  refine Agr1.none' (by simp [Ip.here, want_nil, Ip.ofOne]) ?_
  unfold simpleOne
  rw [if_pos hov]
  rfl
 | cons t r =>
  obtain ⟨c1, c2, c3⟩ := dropC hd
  have htk : st.tok ts = t := c2
  have hmem : t ∈ ts := by rw [← c2]; simp [List.getD_eq_getElem?_getD, c1]
  have hov : st.over ts = false := by simp [PS.over, hb]; omega
  rw [hd] at ok0
  have okg : Okk ts st.out [] r st.go := .inr ⟨hb, by rw [List.append_nil]; rfl, c3, c1⟩
  have nil0 : ([] : List Pi) ++ [] = [] := rfl
  cases w1 : Ip.want 5 [36] (t :: r) with
  | some r1 =>
   obtain ⟨rfl, -⟩ := want_rest w1
   have e1 := (ok0.go hb w1).1
   have eq : simpleOne ts S E st = (S st.go).1.put (nd 5 [] [(S st.go).2]) := by unfold simpleOne; rw [hov, e1]; simp
   rw [eq]
   have h1 := okg.then hS aS
   cases hI : IS r1 with
   | none =>
    rw [hI] at h1
    exact Agr1.none' (by simp [Ip.here, w1, hI]) (put_badT h1)
   | some q =>
    obtain ⟨G, r2⟩ := q
    rw [hI] at h1
    simp only [List.nil_append, List.length_nil, Nat.add_zero] at h1
    have h2 := h1.1.put (p := nd 5 [] [(S st.go).2]) (p' := nd ((5 : Nat) : Int) [] [last st.out (G st.out.length)]) (fun hb => by rw [h1.2 hb]; rfl)
    rw [← node1] at h2
    exact Agr1.some' (G := Fl.node 5 [] [G]) (r := r2) (by simp [Ip.here, w1, hI]) h2.1 h2.2
  | none =>
   have n1 := ok0.isn w1
   cases w2 : Ip.want 5 [40] (t :: r) with
   | some r1 =>
    obtain ⟨rfl, -⟩ := want_rest w2
    have e2 := (ok0.go hb w2).1
    have eq : simpleOne ts S E st = ((E st.go).1.want ts [41], (E st.go).2) := by unfold simpleOne; rw [hov, n1, e2]; simp
    rw [eq]
    have h1 := okg.upTo hE aE [41]
    cases hI : Ip.upTo IE [41] r1 with
    | none =>
     rw [hI] at h1
     exact Agr1.none' (by simp [Ip.here, w1, w2, hI]) h1
    | some q =>
     obtain ⟨G, r2⟩ := q
     rw [hI] at h1
     simp only [List.nil_append, List.length_nil, Nat.add_zero] at h1
     exact Agr1.some' (G := G) (r := r2) (by simp [Ip.here, w1, w2, hI]) h1.1 h1.2
   | none =>
    have n2 := ok0.isn w2
    by_cases k2 : t.kind = 2
    ·have eq : simpleOne ts S E st = st.go.put (nd 1 t.text []) := by unfold simpleOne; rw [hov, n1, n2, htk]; simp [k2]
     rw [eq]
     have h2 := okg.put (p := nd 1 t.text []) (p' := nd ((1 : Nat) : Int) t.text []) (fun _ => rfl)
     rw [List.nil_append, ← node0 1 t.text st.out.length] at h2
     exact Agr1.some' (G := Fl.node 1 t.text []) (r := r) (by simp [Ip.here, w1, w2, want_ne (show t.kind ≠ 1 by omega), Ip.ofOne, k2]) h2.1 h2.2
    ·by_cases k3 : t.kind = 3
     ·have eq : simpleOne ts S E st = st.go.put (nd 2 t.text []) := by unfold simpleOne; rw [hov, n1, n2, htk]; simp [k3]
      rw [eq]
      have h2 := okg.put (p := nd 2 t.text []) (p' := nd ((2 : Nat) : Int) t.text []) (fun _ => rfl)
      rw [List.nil_append, ← node0 2 t.text st.out.length] at h2
      exact Agr1.some' (G := Fl.node 2 t.text []) (r := r) (by simp [Ip.here, w1, w2, want_ne (show t.kind ≠ 1 by omega), Ip.ofOne, k3]) h2.1 h2.2
     ·cases w3 : Ip.want 1 [78, 70] (t :: r) with
      | some r1 =>
       obtain ⟨rfl, -⟩ := want_rest w3
       have e3 := (ok0.go hb w3).1
       have eq : simpleOne ts S E st = st.go.put (nd 6 [] []) := by unfold simpleOne; rw [hov, n1, n2, htk, e3]; simp [k2, k3]
       rw [eq]
       have h2 := okg.put (p := nd 6 [] []) (p' := nd ((6 : Nat) : Int) [] []) (fun _ => rfl)
       rw [List.nil_append, ← node0 6 [] st.out.length] at h2
       exact Agr1.some' (G := Fl.node 6 [] []) (r := r1) (by simp [Ip.here, w1, w2, w3]) h2.1 h2.2
      | none =>
       have n3 := ok0.isn w3
       cases w4 : Ip.want 1 [78, 82] (t :: r) with
       | some r1 =>
        obtain ⟨rfl, -⟩ := want_rest w4
        have e4 := (ok0.go hb w4).1
        have eq : simpleOne ts S E st = st.go.put (nd 7 [] []) := by unfold simpleOne; rw [hov, n1, n2, htk, n3, e4]; simp [k2, k3]
        rw [eq]
        have h2 := okg.put (p := nd 7 [] []) (p' := nd ((7 : Nat) : Int) [] []) (fun _ => rfl)
        rw [List.nil_append, ← node0 7 [] st.out.length] at h2
        exact Agr1.some' (G := Fl.node 7 [] []) (r := r1) (by simp [Ip.here, w1, w2, w3, w4]) h2.1 h2.2
       | none =>
        have n4 := ok0.isn w4
        cases w5 : Ip.want 1 [108, 101, 110, 103, 116, 104] (t :: r) with
        | some r1 =>
         obtain ⟨rfl, -⟩ := want_rest w5
         have e5 := (ok0.go hb w5).1
         have eq : simpleOne ts S E st = ((E (st.go.want ts [40])).1.want ts [41]).put (nd 8 [] [(E (st.go.want ts [40])).2]) := by unfold simpleOne; rw [hov, n1, n2, htk, n3, n4, e5]; simp [k2, k3]
         rw [eq]
         cases w6 : Ip.want 5 [40] r1 with
         | none =>
          have hbad := okg.want_no w6
          refine Agr1.none' (by simp [Ip.here, w1, w2, w3, w4, w5, Ip.long, w6]) (put_badT ?_)
          rw [hE.bad _ hbad, want_bad hbad]
          exact hbad
         | some r2 =>
          have h0 := okg.want w6
          have h1 := h0.upTo hE aE [41]
          cases hI : Ip.upTo IE [41] r2 with
          | none =>
           rw [hI] at h1
           exact Agr1.none' (by simp [Ip.here, w1, w2, w3, w4, w5, Ip.long, w6, hI]) (put_badT h1)
          | some q =>
           obtain ⟨G, r3⟩ := q
           rw [hI] at h1
           simp only [List.nil_append, List.length_nil, Nat.add_zero] at h1
           have h2 := h1.1.put (p := nd 8 [] [(E (st.go.want ts [40])).2]) (p' := nd ((8 : Nat) : Int) [] [last st.out (G st.out.length)]) (fun hb => by rw [h1.2 hb]; rfl)
           rw [← node1] at h2
           exact Agr1.some' (G := Fl.node 8 [] [G]) (r := r3) (by simp [Ip.here, w1, w2, w3, w4, w5, Ip.long, w6, hI]) h2.1 h2.2
        | none =>
         have n5 := ok0.isn w5
         by_cases hk : t.kind = 1 ∧ Pg.words.contains t.text = false
         ·have hnm := hN t hmem hk.1 hk.2
          cases w6 : Ip.want 5 [91] r with
          | none =>
           have n6 := okg.isn w6
           have eq : simpleOne ts S E st = st.go.put (nd 3 t.text []) := by unfold simpleOne; rw [hov, n1, n2, htk, n3, n4, n5, n6, hnm]; simp [hk.1]
           rw [eq]
           have h2 := okg.put (p := nd 3 t.text []) (p' := nd ((3 : Nat) : Int) t.text []) (fun _ => rfl)
           rw [List.nil_append, ← node0 3 t.text st.out.length] at h2
           exact Agr1.some' (G := Fl.node 3 t.text []) (r := r) (by simp only [Ip.here, w1, w2, w3, w4, w5, Ip.ofOne]; rw [if_neg k2, if_neg k3, if_pos hk]; simp only [Ip.named, w6]) h2.1 h2.2
          | some r1 =>
           have hgb : st.go.bad = false := hb
           obtain ⟨e6, okgg, -⟩ := okg.go hgb w6
           have eq : simpleOne ts S E st = ((E st.go.go).1.want ts [93]).put (nd 4 t.text [(E st.go.go).2]) := by unfold simpleOne; rw [hov, n1, n2, htk, n3, n4, n5, e6, hnm]; simp [hk.1]
           rw [eq]
           have h1 := okgg.upTo hE aE [93]
           cases hI : Ip.upTo IE [93] r1 with
           | none =>
            rw [hI] at h1
            exact Agr1.none' (by simp only [Ip.here, w1, w2, w3, w4, w5, Ip.ofOne]; rw [if_neg k2, if_neg k3, if_pos hk]; simp [Ip.named, w6, hI]) (put_badT h1)
           | some q =>
            obtain ⟨G, r3⟩ := q
            rw [hI] at h1
            simp only [List.nil_append, List.length_nil, Nat.add_zero] at h1
            have h2 := h1.1.put (p := nd 4 t.text [(E st.go.go).2]) (p' := nd ((4 : Nat) : Int) t.text [last st.out (G st.out.length)]) (fun hb => by rw [h1.2 hb]; rfl)
            rw [← node1] at h2
            exact Agr1.some' (G := Fl.node 4 t.text [G]) (r := r3) (by simp only [Ip.here, w1, w2, w3, w4, w5, Ip.ofOne]; rw [if_neg k2, if_neg k3, if_pos hk]; simp [Ip.named, w6, hI]) h2.1 h2.2
         ·have hno : ¬ (t.kind = 1 ∧ Pg.name t.text = true) := fun e => hk ⟨e.1, by
           have := e.2
           unfold Pg.name at this
           simp only [Bool.and_eq_true, Bool.not_eq_true'] at this
           exact this.1.1⟩
          have eq : simpleOne ts S E st = (st.fail, 0) := by
           unfold simpleOne
           rw [hov, n1, n2, htk, n3, n4, n5, if_neg hno]
           simp [k2, k3]
          rw [eq]
          exact Agr1.none' (by simp only [Ip.here, w1, w2, w3, w4, w5, Ip.ofOne]; rw [if_neg k2, if_neg k3, if_neg hk]) rfl
theorem SE_agr (ht : Tsm ts) (hN : Nm ts) : ∀ n, Agr ts (SE ts n).1 (Ip.SE n).1 ∧ Agr ts (SE ts n).2 (Ip.SE n).2
 | 0 => by
  refine ⟨fun st _ _ => rfl, fun st _ _ => ?_⟩
  show (exprOne ts stop st.fail).1.bad = true
  rw [(fnExpr fnStop ht).bad st.fail rfl]
  rfl
 | n + 1 => by
  obtain ⟨h1, h2⟩ := SE_agr ht hN n
  exact ⟨simple_agr (fnSE ht n).1 (fnSE ht n).2 h1 h2 hN, exprOne_agr (fnSE ht n).1 h1 (Ip.shr_SE n).1⟩
end
end Pr
end PartRsT
end Go.Proofs.YtkfkbdgfnopokaaGreatDoor
