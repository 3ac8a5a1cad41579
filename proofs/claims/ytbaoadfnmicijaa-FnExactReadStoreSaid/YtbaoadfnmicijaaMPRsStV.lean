/- Records of 2 fields in memory (Var): how great a row of them is, the law's own copy of it, two of the same. -/
import Derived.Test.YtbaoadfnmicijaaMPRsZaa
import Derived.Deep.SlicePairs
import Derived.Deep.Strs
import Derived.Deep.Fields
import Derived.ProofKit
import Derived.OpenShut
import Derived.ChangeOld
namespace Go.Proofs.Ytbaoadfnmicijaa
open Go.RowKit

structure Vr where
  name : ByteArray
  val : ByteArray
def Vr.no : Vr := ⟨ByteArray.empty, ByteArray.empty⟩
instance : Inhabited Vr := ⟨Vr.no⟩
/-- The slice v leads to the records xs. -/
def VrAt (w : World) (v : Value) (xs : List Vr) : Prop := ∃ (a : Option Addr) (c : Nat), v = .slice a xs.length c ∧
  (0 < xs.length → ∃ b o, a = some ⟨b, o, none⟩ ∧ b < w.heap.size ∧ ∀ i, i < xs.length → w.cell? ⟨b, o + i * 2, none⟩ = some (.string (xs.getD i Vr.no).name) ∧ w.cell? ⟨b, o + i * 2 + 1, none⟩ = some (.string (xs.getD i Vr.no).val))
theorem VrAt.keep {w w' : World} {v : Value} {xs : List Vr} (h : VrAt w v xs) (hb : Below w.heap.size w w') : VrAt w' v xs := by
  obtain ⟨ka, kc, rfl, f⟩ := h
  refine ⟨ka, kc, rfl, fun h0 => ?_⟩
  obtain ⟨b, o, rfl, hl, hc⟩ := f h0
  exact ⟨b, o, rfl, Nat.lt_of_lt_of_le hl hb.size, fun i hi => ⟨(hb.cell hl).trans ((hc i hi).1), (hb.cell hl).trans ((hc i hi).2)⟩⟩

theorem Try.infoVr : (Try.prog.info? 53).map (fun i => (i.zero, i.size, i.bytes)) = some (some (.agg #[.string ByteArray.empty, .string ByteArray.empty]), 2, 32) := by kernel_rfl
/-- The law's own copy of the records xs: its row in block g. -/
def VrCopy (w : World) (g n : Nat) (xs : List Vr) (k : Nat) : Prop :=
  (∃ arr, w.heap[g]? = some (.cells arr 53 (0, 0)) ∧ arr.size = n * 2) ∧
  ∀ i, i < k → w.cell? ⟨g, i * 2, none⟩ = some (.string (xs.getD i Vr.no).name) ∧ w.cell? ⟨g, i * 2 + 1, none⟩ = some (.string (xs.getD i Vr.no).val)
theorem VrCopy.keep {w w' : World} {g n k : Nat} {xs : List Vr} (h : VrCopy w g n xs k) (hb : Below w.heap.size w w') : VrCopy w' g n xs k := by
  obtain ⟨⟨arr, ha, hs⟩, hQ⟩ := h
  have hl := blk_lt ha
  exact ⟨⟨arr, (hb.block g hl).trans ha, hs⟩, fun i hi => ⟨(hb.cell hl).trans ((hQ i hi).1), (hb.cell hl).trans ((hQ i hi).2)⟩⟩
theorem VrCopy.at {w : World} {g : Nat} {xs : List Vr} (h : VrCopy w g xs.length xs xs.length) (c : Nat) : VrAt w (.slice (some ⟨g, 0, none⟩) xs.length c) xs := by
  obtain ⟨⟨arr, ha, hs⟩, hQ⟩ := h
  refine ⟨_, _, rfl, fun _ => ⟨g, 0, rfl, blk_lt ha, fun i hi => ?_⟩⟩
  rw [Nat.zero_add]
  exact hQ i hi
theorem VrCopy.more {w w1 : World} {g n k : Nat} {xs : List Vr} (h : VrCopy w g n xs k) (hk : k < n) (hb : Below w.heap.size w w1) :
    VrCopy ((w1.setCell ⟨g, k * 2, none⟩ (.string (xs.getD k Vr.no).name)).setCell ⟨g, k * 2 + 1, none⟩ (.string (xs.getD k Vr.no).val)) g n xs (k + 1) := by
  obtain ⟨⟨arr, ha, hs⟩, hQ⟩ := h.keep hb
  have R := (blk_set (blk_set ha (k * 2) (.string (xs.getD k Vr.no).name)) (k * 2 + 1) (.string (xs.getD k Vr.no).val))
  obtain ⟨w2, hw2⟩ : ∃ w2, w2 = ((w1.setCell ⟨g, k * 2, none⟩ (.string (xs.getD k Vr.no).name)).setCell ⟨g, k * 2 + 1, none⟩ (.string (xs.getD k Vr.no).val)) := ⟨_, rfl⟩
  rw [← hw2] at R ⊢
  clear hw2
  have hC : ∀ j, j < k * 2 → w2.cell? ⟨g, j, none⟩ = w1.cell? ⟨g, j, none⟩ := by
    intro j hj
    rw [blk_cell R, blk_cell ha]
    simp [Array.getElem?_setIfInBounds]
    rw [if_neg (by omega), if_neg (by omega)]
  refine ⟨⟨_, R, by simpa using hs⟩, fun i hi => ?_⟩
  by_cases hik : i = k
  · subst hik
    refine ⟨?_, ?_⟩
    · rw [blk_cell R]; simp [Array.getElem?_setIfInBounds]; omega
    · rw [blk_cell R]; simp [Array.getElem?_setIfInBounds]; omega
  · obtain ⟨h0, h1⟩ := hQ i (by omega)
    exact ⟨(hC _ (by omega)).trans h0, (hC _ (by omega)).trans h1⟩

set_option maxHeartbeats 800000 in
theorem eqVr_any (x0 : ByteArray) (x1 : ByteArray) (w : World) :
    Calls Try.prog 55 #[.agg #[.string x0, .string x1], .agg #[.string x0, .string x1]] w fun e w' => e = .returned (.bool true) ∧ Below w.heap.size w w' := by

  go_enter Try.func55, Try.ntmps55
  go_wp2
  go_ret
  exact ⟨rfl, ((Below.refl _ _).alloc (Nat.le_refl _) _).alloc (by simp) _⟩

set_option maxHeartbeats 2000000 in
theorem eqVrs_any (v1 v2 : Value) (xs : List Vr) (w : World) (h1 : VrAt w v1 xs) (h2 : VrAt w v2 xs) (hl : xs.length ≤ 1048576) :
    Calls Try.prog 31 #[v1, v2] w fun e w' => e = .returned (.bool true) ∧ Below w.heap.size w w' := by
  obtain ⟨a1, c1, rfl, f1⟩ := h1
  obtain ⟨a2, c2, rfl, f2⟩ := h2
  obtain ⟨n, hn⟩ : ∃ n, n = xs.length := ⟨_, rfl⟩
  rw [← hn] at f1 f2 hl ⊢
  have hq : ((n : Int) != (n : Int)) = false := by simp
  by_cases h0 : n = 0
  · subst h0
    clear f1 f2 hn
    go_enter Try.func31, Try.ntmps31
    go_wp2
    refine wp_loop_rounds 1 ?_
    rw [rounds_succ]
    go_wp2
    go_ret
    exact ⟨rfl, Below.refl _ _⟩
  · obtain ⟨g1, o1, rfl, l1, k1⟩ := f1 (by omega)
    obtain ⟨g2, o2, rfl, l2, k2⟩ := f2 (by omega)
    have K1 : Hid (∀ i, i < n → w.cell? ⟨g1, o1 + i * 2, none⟩ = some (.string (xs.getD i Vr.no).name) ∧ w.cell? ⟨g1, o1 + i * 2 + 1, none⟩ = some (.string (xs.getD i Vr.no).val)) := k1
    have K2 : Hid (∀ i, i < n → w.cell? ⟨g2, o2 + i * 2, none⟩ = some (.string (xs.getD i Vr.no).name) ∧ w.cell? ⟨g2, o2 + i * 2 + 1, none⟩ = some (.string (xs.getD i Vr.no).val)) := k2
    clear k1 k2 f1 f2 hn
    go_enter Try.func31, Try.ntmps31
    go_wp2
    go_loopw [5] (fun i wr => ∃ k : Nat, i = .int .i64 (k : Int) ∧ k ≤ n ∧ Below w.heap.size w wr) (fun i _ => n - (intOf i).toNat)
    case atStart => exact ⟨0, rfl, by omega, Below.refl _ _⟩
    case round =>
      obtain ⟨k, rfl, hk, hbel⟩ := hrel
      have hsz := hbel.size
      by_cases hlt : k < n
      · have q1 := K1.out k hlt
        have q2 := K2.out k hlt
        obtain ⟨p, hp⟩ : ∃ p, p = xs.getD k Vr.no := ⟨_, rfl⟩
        rw [← hp] at q1 q2
        clear hp
        have y0 := (hbel.cell l1).trans q1.1
        have y1 := (hbel.cell l1).trans q1.2
        have z0 := (hbel.cell l2).trans q2.1
        have z1 := (hbel.cell l2).trans q2.2
        obtain ⟨x0, x1⟩ := p
        simp only at y0 z0 y1 z1
        have CC : Hid (∀ w', Calls Try.prog 55 #[.agg #[.string x0, .string x1], .agg #[.string x0, .string x1]] w' fun e w'' => e = .returned (.bool true) ∧ Below w'.heap.size w' w'') := fun w' => eqVr_any x0 x1 w'
        clear q1 q2
        have i1 : (k : Int) < (n : Int) := by omega
        have i0 : (0 : Int) ≤ (k : Int) := by omega
        go_wp2_with fail
        go_region_with ((go_at_call 55; refine (CC.out _).mono ?_; rintro e w1 ⟨rfl, hb1⟩))
        all_goals
          go_wp2
          go_roundw
          case rel => exact ⟨k + 1, by go_num, by omega, hbel.trans (((Below.refl _ _).drew.trans hb1).mono hsz)⟩
          case measure => simp [intOf]; omega
      · go_wp2
        go_ret
        exact ⟨rfl, hbel⟩


/-- The first k records have short texts. -/
def VrSmall (xs : List Vr) (k : Nat) : Prop := ∀ i, i < k → (xs.getD i Vr.no).name.size ≤ 1048576 ∧ (xs.getD i Vr.no).val.size ≤ 1048576
end Go.Proofs.Ytbaoadfnmicijaa
