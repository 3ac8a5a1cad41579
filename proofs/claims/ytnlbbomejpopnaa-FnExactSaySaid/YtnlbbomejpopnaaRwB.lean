/- The law's marks over a store. -/
import Derived.Test.YtnlbbomejpopnaaRwA
namespace Go.Proofs.Ytnlbbomejpopnaa
open Go.RowKit

theorem FM.trans {B C : Nat} {w w1 w2 : World} (h : FM B C w w1) (k : FM B C w1 w2) : FM B C w w2 :=
  ⟨h.1.trans k.1, Nat.le_trans h.2.1 k.2.1, fun q hq hh => (k.2.2 q (Nat.lt_of_lt_of_le hq h.2.1) hh).trans (h.2.2 q hq hh)⟩
theorem FM.wider {B C B' C' : Nat} {w w1 : World} (h : FM B C w w1) (h1 : B' ≤ B) (h2 : C ≤ C') : FM B' C' w w1 :=
  ⟨h.1, h.2.1, fun q hq hh => h.2.2 q hq (by omega)⟩
theorem FM.ofBelow {B C : Nat} {w w1 : World} (h : Below w.heap.size w w1) : FM B C w w1 := ⟨⟨h.os, h.tape, h.output⟩, h.size, fun q hq _ => h.block q hq⟩

set_option maxRecDepth 100000 in
set_option maxHeartbeats 2000000 in
theorem markStore_any (lo mid hi : Nat) (tv lv : Value) (o : ByteArray) (vs : List Vr) (cs : List Cl) (k : Nat) (w : World) (h1 : VrIn lo mid w tv vs) (h2 : ClIn mid hi w lv cs) (hlm : lo ≤ mid) (hmh : mid ≤ hi) (hhw : hi ≤ w.heap.size) (hn : vs.length ≤ 1048576) (hm : cs.length ≤ 1048576) (hk : k ≤ 100) (hk0 : 0 < k) :
    Calls Try.prog 31 #[.agg #[tv, lv, .string o], .int .i64 (k : Int)] w fun e w' => e = .returned (.int .i64 ((k + 2 * vs.length + 3 * cs.length : Nat) : Int)) ∧ VrIn lo mid w' tv (mkVr k vs.length) ∧ ClIn mid hi w' lv (mkCl (k + 2 * vs.length) cs.length) ∧ FM lo hi w w' := by
  have CV : Hid (∀ W : World, (∀ b, lo ≤ b → b < mid → W.heap[b]? = w.heap[b]?) → _) := fun (W : World) hW => markVrs_any lo mid tv vs k W (h1.keep hW) hn (by omega) hk0
  have CC : Hid (∀ W : World, (∀ b, mid ≤ b → b < hi → W.heap[b]? = w.heap[b]?) → _) := fun (W : World) hW => markCls_any mid hi lv cs (k + 2 * vs.length) W (h2.keep hW) hm (by omega) (by omega)
  obtain ⟨ad, c, rfl, -⟩ := h1
  obtain ⟨bd, d, rfl, -⟩ := h2
  obtain ⟨n, hN⟩ : ∃ n, n = vs.length := ⟨_, rfl⟩
  obtain ⟨m, hM⟩ : ∃ m, m = cs.length := ⟨_, rfl⟩
  rw [← hN] at CV CC ⊢
  rw [← hM] at CC ⊢
  clear hN hM hn hm
  have HB : Hid (Below w.heap.size w (w.alloc (.cells #[.slice ad n c, .slice bd m d, .string o] 27))) := (Below.refl _ _).alloc (Nat.le_refl _) _
  have q0 := heap_alloc_new w (.cells #[.slice ad n c, .slice bd m d, .string o] 27)
  have hz : w.heap.size < (w.alloc (.cells #[.slice ad n c, .slice bd m d, .string o] 27)).heap.size := by simp
  have HZ : Hid _ := And.intro q0 hz
  clear q0 hz
  go_enter Try.func31, Try.ntmps31
  go_wp2_with fail
  generalize w.alloc (.cells #[.slice ad n c, .slice bd m d, .string o] 27) = W0 at *
  refine (CV.out _ (fun b hb1 hb2 => HB.out.block b (by omega))).mono ?_
  rintro e w1 ⟨rfl, hv1, hf1⟩
  have R1 := (hf1.2.2 w.heap.size HZ.out.2 (by omega)).trans HZ.out.1
  have x1 : w1.cell? ⟨w.heap.size, 1, none⟩ = some (.slice bd m d) := (blk_cell R1 1).trans rfl
  have HF1 : Hid (FM lo mid W0 w1) := hf1
  have HV1 : Hid (VrIn lo mid w1 (.slice ad n c) (mkVr k n)) := hv1
  clear hf1 hv1 CV R1
  go_wp2_with fail
  refine (CC.out _ (fun b hb1 hb2 => (HF1.out.2.2 b (by have := HB.out.size; omega) (by omega)).trans (HB.out.block b (by omega)))).mono ?_
  rintro e w2 ⟨rfl, hc2, hf2⟩
  have HC2 : Hid (ClIn mid hi w2 (.slice bd m d) (mkCl (k + 2 * n) m)) := hc2
  have HF2 : Hid (FM mid hi w1 w2) := hf2
  clear hf2 hc2 CC x1
  go_wp2
  go_ret
  refine ⟨rfl, HV1.out.keep (fun b hb1 hb2 => HF2.out.2.2 b (by have := HF1.out.2.1; have := HB.out.size; omega) (by omega)), HC2.out, ?_⟩
  exact ((FM.ofBelow HB.out).trans (HF1.out.wider (Nat.le_refl _) hmh)).trans (HF2.out.wider hlm (Nat.le_refl _))

set_option maxRecDepth 100000 in
set_option maxHeartbeats 2000000 in
theorem heldStore_any (tv lv : Value) (o : ByteArray) (n m k : Nat) (w : World) (h1 : VrAt w tv (mkVr k n)) (h2 : ClAt w lv (mkCl (k + 2 * n) m)) (hn : n ≤ 1048576) (hm : m ≤ 1048576) (hk : k ≤ 100) (hk0 : 0 < k) :
    Calls Try.prog 32 #[.agg #[tv, lv, .string o], .int .i64 (k : Int)] w fun e w' => e = .returned (.int .i64 ((k + 2 * n + 3 * m : Nat) : Int)) ∧ Below w.heap.size w w' := by
  have CV : Hid (∀ W, Below w.heap.size w W → _) := fun W hb => heldVrs_any tv n k W (h1.keep hb) hn (by omega) hk0
  have CC : Hid (∀ W, Below w.heap.size w W → _) := fun W hb => heldCls_any lv m (k + 2 * n) W (h2.keep hb) hm (by omega) (by omega)
  obtain ⟨ad, c, rfl, -⟩ := h1
  obtain ⟨bd, d, rfl, -⟩ := h2
  rw [mkVr_len] at CV ⊢
  rw [mkCl_len] at CC ⊢
  have HB : Hid (Below w.heap.size w (w.alloc (.cells #[.slice ad n c, .slice bd m d, .string o] 27))) := (Below.refl _ _).alloc (Nat.le_refl _) _
  have q0 := heap_alloc_new w (.cells #[.slice ad n c, .slice bd m d, .string o] 27)
  have hz : w.heap.size < (w.alloc (.cells #[.slice ad n c, .slice bd m d, .string o] 27)).heap.size := by simp
  have HZ : Hid _ := And.intro q0 hz
  have d1 : decide (((k + 2 * n : Nat) : Int) < 0) = false := decide_eq_false (by omega)
  have d2 : decide (((k + 2 * n + 3 * m : Nat) : Int) < 0) = false := decide_eq_false (by omega)
  obtain ⟨K1, hK1⟩ : ∃ K1, K1 = k + 2 * n := ⟨_, rfl⟩
  obtain ⟨K2, hK2⟩ : ∃ K2, K2 = k + 2 * n + 3 * m := ⟨_, rfl⟩
  rw [← hK1] at CV CC d1
  rw [← hK2] at d2 ⊢
  rw [show K1 + 3 * m = K2 by omega] at CC
  clear q0 hz hK1 hK2
  go_enter Try.func32, Try.ntmps32
  go_wp2_with fail
  generalize w.alloc (.cells #[.slice ad n c, .slice bd m d, .string o] 27) = W0 at *
  refine (CV.out _ HB.out).mono ?_
  rintro e w1 ⟨rfl, hb1⟩
  have x1 : w1.cell? ⟨w.heap.size, 1, none⟩ = some (.slice bd m d) := (blk_cell ((hb1.block _ HZ.out.2).trans HZ.out.1) 1).trans rfl
  have HB1 : Hid (Below w.heap.size w w1) := HB.out.trans (hb1.mono HB.out.size)
  clear hb1 CV
  go_wp2_with fail
  refine (CC.out _ HB1.out).mono ?_
  rintro e w2 ⟨rfl, hb2⟩
  have HB2 : Hid (Below w.heap.size w w2) := HB1.out.trans (hb2.mono HB1.out.size)
  clear hb2 CC x1
  go_wp2
  go_ret
  exact ⟨rfl, HB2.out⟩
#print axioms markStore_any
#print axioms heldStore_any
end Go.Proofs.Ytnlbbomejpopnaa
