/- Patterns in memory: what a row of pieces holds; how great a pattern is, as the law measures it. Patterns in memory: the law's own copy of a pattern. Records of 2 fields in memory (Var): how great a row of them is, the law's own copy of it, two of the same. -/
import Derived.Test.YtohhhhkhkgmanaaProg
import Derived.WalkKit
import Derived.WalkSpells
import Derived.WalkLawsBesides
import Derived.Handy
import Derived.Lib.Strings
import Derived.BigQuiet
import Derived.Below
import Derived.Deep.QuietTactic
import Derived.Deep.RegionHeld3
import Derived.OwnWalk
import Derived.Laws.MakeOwn
import Derived.Laws.OwnMore
import Derived.Deep.SlicePairs
import Derived.Deep.Strs
import Derived.Deep.Fields
import Derived.ProofKit
import Derived.OpenShut
import Derived.ChangeOld
namespace Go.Proofs.Ytohhhhkhkgmanaa
section PartPtA
open Go.RowKit

/-- A piece: its kind, its text, its kids. -/
structure Pi where
  op : Int
  text : ByteArray
  kids : List Int
def Pi.no : Pi := ⟨0, ByteArray.empty, []⟩

/-- The slice v leads to the numbers ks. -/
def KidsAt (w : World) (v : Value) (ks : List Int) : Prop := ∃ (ka : Option Addr) (kc : Nat), v = .slice ka ks.length kc ∧
  (0 < ks.length → ∃ b o, ka = some ⟨b, o, none⟩ ∧ b < w.heap.size ∧ ∀ i, i < ks.length → w.cell? ⟨b, o + i, none⟩ = some (.int .i64 (ks.getD i 0)))
/-- Three cells hold the piece p. -/
def PieceAt (w : World) (b o : Nat) (p : Pi) : Prop := ∃ kv, w.cell? ⟨b, o, none⟩ = some (.int .i64 p.op) ∧ w.cell? ⟨b, o + 1, none⟩ = some (.string p.text) ∧ w.cell? ⟨b, o + 2, none⟩ = some kv ∧ KidsAt w kv p.kids
/-- The slice v leads to the pieces ps. -/
def PcsAt (w : World) (v : Value) (ps : List Pi) : Prop := ∃ (a : Option Addr) (c : Nat), v = .slice a ps.length c ∧
  (0 < ps.length → ∃ b o, a = some ⟨b, o, none⟩ ∧ b < w.heap.size ∧ ∀ i, i < ps.length → PieceAt w b (o + i * 3) (ps.getD i Pi.no))

theorem KidsAt.keep {w w' : World} {v : Value} {ks : List Int} (h : KidsAt w v ks) (hb : Below w.heap.size w w') : KidsAt w' v ks := by
  obtain ⟨ka, kc, rfl, f⟩ := h
  refine ⟨ka, kc, rfl, fun h0 => ?_⟩
  obtain ⟨b, o, rfl, hl, hc⟩ := f h0
  exact ⟨b, o, rfl, Nat.lt_of_lt_of_le hl hb.size, fun i hi => (hb.cell hl).trans (hc i hi)⟩
theorem PieceAt.keep {w w' : World} {b o : Nat} {p : Pi} (h : PieceAt w b o p) (hl : b < w.heap.size) (hb : Below w.heap.size w w') : PieceAt w' b o p := by
  obtain ⟨kv, c0, c1, c2, hk⟩ := h
  exact ⟨kv, (hb.cell hl).trans c0, (hb.cell hl).trans c1, (hb.cell hl).trans c2, hk.keep hb⟩
theorem PcsAt.keep {w w' : World} {v : Value} {ps : List Pi} (h : PcsAt w v ps) (hb : Below w.heap.size w w') : PcsAt w' v ps := by
  obtain ⟨ka, kc, rfl, f⟩ := h
  refine ⟨ka, kc, rfl, fun h0 => ?_⟩
  obtain ⟨b, o, rfl, hl, hc⟩ := f h0
  exact ⟨b, o, rfl, Nat.lt_of_lt_of_le hl hb.size, fun i hi => (hc i hi).keep hl hb⟩

end PartPtA
section PartPtB
open Go.RowKit

/-- A number as a value. -/
def iv (z : Int) : Value := .int .i64 z
/-- Block q holds the numbers ks, and no more. -/
def KidsBlk (w : World) (q : Nat) (ks : List Int) : Prop := w.heap[q]? = some (.cells (ks.map iv).toArray 3 (0, 0))
theorem blk_lt {w : World} {g : Nat} {o : Obj} (h : w.heap[g]? = some o) : g < w.heap.size := (Array.getElem?_eq_some_iff.1 h).1
theorem blk_cell {w : World} {g : Nat} {arr : Array Value} {t : TypeId} (h : w.heap[g]? = some (.cells arr t (0, 0))) (j : Nat) : w.cell? ⟨g, j, none⟩ = arr[j]? := by
  simp [World.cell?, h]
theorem blk_free {w : World} {g : Nat} {arr : Array Value} {t : TypeId} (h : w.heap[g]? = some (.cells arr t (0, 0))) (j : Nat) : w.frozen? ⟨g, j, none⟩ = false := by
  simp [World.frozen?, h]
theorem blk_set {w : World} {g : Nat} {arr : Array Value} {t : TypeId} (h : w.heap[g]? = some (.cells arr t (0, 0))) (j : Nat) (u : Value) : (w.setCell ⟨g, j, none⟩ u).heap[g]? = some (.cells (arr.setIfInBounds j u) t (0, 0)) := by
  simp [World.setCell, Array.getElem?_modify, h]
theorem KidsBlk.at {w : World} {q : Nat} {ks : List Int} (h : KidsBlk w q ks) (c : Nat) : KidsAt w (.slice (some ⟨q, 0, none⟩) ks.length c) ks := by
  refine ⟨_, _, rfl, fun _ => ⟨q, 0, rfl, blk_lt h, fun i hi => ?_⟩⟩
  rw [blk_cell h, Nat.zero_add]
  simp [hi, iv]

theorem KidsBlk.keep {w w' : World} {q : Nat} {ks : List Int} (h : KidsBlk w q ks) (hb : Below w.heap.size w w') : KidsBlk w' q ks := (hb.block q (blk_lt h)).trans h
end PartPtB
section PartStV
open Go.RowKit

structure Vr where
  name : ByteArray
  val : ByteArray
def Vr.no : Vr := ⟨ByteArray.empty, ByteArray.empty⟩
instance : Inhabited Vr := ⟨Vr.no⟩
/-- The slice v leads to the records xs. -/
def VrAt (w : World) (v : Value) (xs : List Vr) : Prop := ∃ (a : Option Addr) (c : Nat), v = .slice a xs.length c ∧
  (0 < xs.length → ∃ b o, a = some ⟨b, o, none⟩ ∧ b < w.heap.size ∧ ∀ i, i < xs.length → w.cell? ⟨b, o + i * 2, none⟩ = some (.string (xs.getD i Vr.no).name) ∧ w.cell? ⟨b, o + i * 2 + 1, none⟩ = some (.string (xs.getD i Vr.no).val))
theorem VrAt.keep {w w' : World} {v : Value} {xs : List Vr} (h : VrAt w v xs) (hb : Below w.heap.size w w') : VrAt w' v xs := by
  obtain ⟨ka, kc, rfl, f⟩ := h
  refine ⟨ka, kc, rfl, fun h0 => ?_⟩
  obtain ⟨b, o, rfl, hl, hc⟩ := f h0
  exact ⟨b, o, rfl, Nat.lt_of_lt_of_le hl hb.size, fun i hi => ⟨(hb.cell hl).trans ((hc i hi).1), (hb.cell hl).trans ((hc i hi).2)⟩⟩

theorem Try.infoVr : (Try.prog.info? 35).map (fun i => (i.zero, i.size, i.bytes)) = some (some (.agg #[.string ByteArray.empty, .string ByteArray.empty]), 2, 32) := by kernel_rfl
/-- The law's own copy of the records xs: its row in block g. -/
def VrCopy (w : World) (g n : Nat) (xs : List Vr) (k : Nat) : Prop :=
  (∃ arr, w.heap[g]? = some (.cells arr 35 (0, 0)) ∧ arr.size = n * 2) ∧
  ∀ i, i < k → w.cell? ⟨g, i * 2, none⟩ = some (.string (xs.getD i Vr.no).name) ∧ w.cell? ⟨g, i * 2 + 1, none⟩ = some (.string (xs.getD i Vr.no).val)
theorem VrCopy.keep {w w' : World} {g n k : Nat} {xs : List Vr} (h : VrCopy w g n xs k) (hb : Below w.heap.size w w') : VrCopy w' g n xs k := by
  obtain ⟨⟨arr, ha, hs⟩, hQ⟩ := h
  have hl := blk_lt ha
  exact ⟨⟨arr, (hb.block g hl).trans ha, hs⟩, fun i hi => ⟨(hb.cell hl).trans ((hQ i hi).1), (hb.cell hl).trans ((hQ i hi).2)⟩⟩
theorem VrCopy.at {w : World} {g : Nat} {xs : List Vr} (h : VrCopy w g xs.length xs xs.length) (c : Nat) : VrAt w (.slice (some ⟨g, 0, none⟩) xs.length c) xs := by
  obtain ⟨⟨arr, ha, hs⟩, hQ⟩ := h
  refine ⟨_, _, rfl, fun _ => ⟨g, 0, rfl, blk_lt ha, fun i hi => ?_⟩⟩
  rw [Nat.zero_add]
  exact hQ i hi
theorem VrCopy.more {w w1 : World} {g n k : Nat} {xs : List Vr} (h : VrCopy w g n xs k) (hk : k < n) (hb : Below w.heap.size w w1) :
    VrCopy ((w1.setCell ⟨g, k * 2, none⟩ (.string (xs.getD k Vr.no).name)).setCell ⟨g, k * 2 + 1, none⟩ (.string (xs.getD k Vr.no).val)) g n xs (k + 1) := by
  obtain ⟨⟨arr, ha, hs⟩, hQ⟩ := h.keep hb
  have R := (blk_set (blk_set ha (k * 2) (.string (xs.getD k Vr.no).name)) (k * 2 + 1) (.string (xs.getD k Vr.no).val))
  obtain ⟨w2, hw2⟩ : ∃ w2, w2 = ((w1.setCell ⟨g, k * 2, none⟩ (.string (xs.getD k Vr.no).name)).setCell ⟨g, k * 2 + 1, none⟩ (.string (xs.getD k Vr.no).val)) := ⟨_, rfl⟩
  rw [← hw2] at R ⊢
  clear hw2
  have hC : ∀ j, j < k * 2 → w2.cell? ⟨g, j, none⟩ = w1.cell? ⟨g, j, none⟩ := by
    intro j hj
    rw [blk_cell R, blk_cell ha]
    simp [Array.getElem?_setIfInBounds]
    rw [if_neg (by omega), if_neg (by omega)]
  refine ⟨⟨_, R, by simpa using hs⟩, fun i hi => ?_⟩
  by_cases hik : i = k
  · subst hik
    refine ⟨?_, ?_⟩
    · rw [blk_cell R]; simp [Array.getElem?_setIfInBounds]; omega
    · rw [blk_cell R]; simp [Array.getElem?_setIfInBounds]; omega
  · obtain ⟨h0, h1⟩ := hQ i (by omega)
    exact ⟨(hC _ (by omega)).trans h0, (hC _ (by omega)).trans h1⟩

/-- The first k records have short texts. -/
def VrSmall (xs : List Vr) (k : Nat) : Prop := ∀ i, i < k → (xs.getD i Vr.no).name.size ≤ 1048576 ∧ (xs.getD i Vr.no).val.size ≤ 1048576
end PartStV
end Go.Proofs.Ytohhhhkhkgmanaa
