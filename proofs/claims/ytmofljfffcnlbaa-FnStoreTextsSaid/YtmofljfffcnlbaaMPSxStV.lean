/- Records of 2 fields in memory (Var): how great a row of them is, the law's own copy of it, two of the same. -/
import Derived.Test.YtmofljfffcnlbaaMPSxZaa
import Derived.Deep.SlicePairs
import Derived.Deep.Strs
import Derived.Deep.Fields
import Derived.ProofKit
import Derived.OpenShut
import Derived.ChangeOld
namespace Go.Proofs.Ytmofljfffcnlbaa
open Go.RowKit

structure Vr where
  name : ByteArray
  val : ByteArray
def Vr.no : Vr := ⟨ByteArray.empty, ByteArray.empty⟩
instance : Inhabited Vr := ⟨Vr.no⟩
/-- The slice v leads to the records xs. -/
def VrAt (w : World) (v : Value) (xs : List Vr) : Prop := ∃ (a : Option Addr) (c : Nat), v = .slice a xs.length c ∧
  (0 < xs.length → ∃ b o, a = some ⟨b, o, none⟩ ∧ b < w.heap.size ∧ ∀ i, i < xs.length → w.cell? ⟨b, o + i * 2, none⟩ = some (.string (xs.getD i Vr.no).name) ∧ w.cell? ⟨b, o + i * 2 + 1, none⟩ = some (.string (xs.getD i Vr.no).val))
theorem VrAt.keep {w w' : World} {v : Value} {xs : List Vr} (h : VrAt w v xs) (hb : Below w.heap.size w w') : VrAt w' v xs := by
  obtain ⟨ka, kc, rfl, f⟩ := h
  refine ⟨ka, kc, rfl, fun h0 => ?_⟩
  obtain ⟨b, o, rfl, hl, hc⟩ := f h0
  exact ⟨b, o, rfl, Nat.lt_of_lt_of_le hl hb.size, fun i hi => ⟨(hb.cell hl).trans ((hc i hi).1), (hb.cell hl).trans ((hc i hi).2)⟩⟩

theorem Try.infoVr : (Try.prog.info? 47).map (fun i => (i.zero, i.size, i.bytes)) = some (some (.agg #[.string ByteArray.empty, .string ByteArray.empty]), 2, 32) := by kernel_rfl
/-- The law's own copy of the records xs: its row in block g. -/
def VrCopy (w : World) (g n : Nat) (xs : List Vr) (k : Nat) : Prop :=
  (∃ arr, w.heap[g]? = some (.cells arr 47 (0, 0)) ∧ arr.size = n * 2) ∧
  ∀ i, i < k → w.cell? ⟨g, i * 2, none⟩ = some (.string (xs.getD i Vr.no).name) ∧ w.cell? ⟨g, i * 2 + 1, none⟩ = some (.string (xs.getD i Vr.no).val)
theorem VrCopy.keep {w w' : World} {g n k : Nat} {xs : List Vr} (h : VrCopy w g n xs k) (hb : Below w.heap.size w w') : VrCopy w' g n xs k := by
  obtain ⟨⟨arr, ha, hs⟩, hQ⟩ := h
  have hl := blk_lt ha
  exact ⟨⟨arr, (hb.block g hl).trans ha, hs⟩, fun i hi => ⟨(hb.cell hl).trans ((hQ i hi).1), (hb.cell hl).trans ((hQ i hi).2)⟩⟩
theorem VrCopy.at {w : World} {g : Nat} {xs : List Vr} (h : VrCopy w g xs.length xs xs.length) (c : Nat) : VrAt w (.slice (some ⟨g, 0, none⟩) xs.length c) xs := by
  obtain ⟨⟨arr, ha, hs⟩, hQ⟩ := h
  refine ⟨_, _, rfl, fun _ => ⟨g, 0, rfl, blk_lt ha, fun i hi => ?_⟩⟩
  rw [Nat.zero_add]
  exact hQ i hi
theorem VrCopy.more {w w1 : World} {g n k : Nat} {xs : List Vr} (h : VrCopy w g n xs k) (hk : k < n) (hb : Below w.heap.size w w1) :
    VrCopy ((w1.setCell ⟨g, k * 2, none⟩ (.string (xs.getD k Vr.no).name)).setCell ⟨g, k * 2 + 1, none⟩ (.string (xs.getD k Vr.no).val)) g n xs (k + 1) := by
  obtain ⟨⟨arr, ha, hs⟩, hQ⟩ := h.keep hb
  have R := (blk_set (blk_set ha (k * 2) (.string (xs.getD k Vr.no).name)) (k * 2 + 1) (.string (xs.getD k Vr.no).val))
  obtain ⟨w2, hw2⟩ : ∃ w2, w2 = ((w1.setCell ⟨g, k * 2, none⟩ (.string (xs.getD k Vr.no).name)).setCell ⟨g, k * 2 + 1, none⟩ (.string (xs.getD k Vr.no).val)) := ⟨_, rfl⟩
  rw [← hw2] at R ⊢
  clear hw2
  have hC : ∀ j, j < k * 2 → w2.cell? ⟨g, j, none⟩ = w1.cell? ⟨g, j, none⟩ := by
    intro j hj
    rw [blk_cell R, blk_cell ha]
    simp [Array.getElem?_setIfInBounds]
    rw [if_neg (by omega), if_neg (by omega)]
  refine ⟨⟨_, R, by simpa using hs⟩, fun i hi => ?_⟩
  by_cases hik : i = k
  · subst hik
    refine ⟨?_, ?_⟩
    · rw [blk_cell R]; simp [Array.getElem?_setIfInBounds]; omega
    · rw [blk_cell R]; simp [Array.getElem?_setIfInBounds]; omega
  · obtain ⟨h0, h1⟩ := hQ i (by omega)
    exact ⟨(hC _ (by omega)).trans h0, (hC _ (by omega)).trans h1⟩

/-- The first k records have short texts. -/
def VrSmall (xs : List Vr) (k : Nat) : Prop := ∀ i, i < k → (xs.getD i Vr.no).name.size ≤ 1048576 ∧ (xs.getD i Vr.no).val.size ≤ 1048576
end Go.Proofs.Ytmofljfffcnlbaa
