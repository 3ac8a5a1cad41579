/- Plain facts, without the program: the sixteen figures, a text in figures, and back. Plain facts, without the program: what each figure of a text is worth, which is its place among the figures. Plain facts, without the program: a number in decimal figures, and when a text of figures is that of its number. The law's own marks: the text of a mark. The law's own helpers over tokens: rows held against each other, written and held. The law's own marks over tokens: written and held. -/
import Derived.Test.YtoaipdckpecpoaaGreatDoorZac
import Derived.Test.YtoaipdckpecpoaaGreatDoorZaf
namespace Go.Proofs.YtoaipdckpecpoaaGreatDoor
section PartPlainC
namespace Pl

theorem take_all (s : ByteArray) (k : Nat) (h : s.size ≤ k) : s.data.toList.take k = s.data.toList := List.take_of_length_le (by simpa using h)
end Pl
end PartPlainC
section PartPlainD
namespace Pl

theorem drop_at (s : ByteArray) (k : Nat) (h : k < s.size) : s.data.toList.drop k = s[k] :: s.data.toList.drop (k + 1) := by
  rw [List.drop_eq_getElem_cons (by simpa using h)]; rfl
end Pl
end PartPlainD
section PartPlainF
namespace Pl

/-- The byte of a decimal figure. -/
def ch (d : Nat) : UInt8 := UInt8.ofNat (48 + d)
/-- The figures of n, none of nought; at most f of them. -/
def dg : Nat → Nat → List UInt8
  | 0, _ => []
  | f + 1, n => if n = 0 then [] else dg f (n / 10) ++ [ch (n % 10)]
end Pl
end PartPlainF
section PartMkT
open Go.RowKit

/-- The mark of k. -/
def mk (k : Nat) : List UInt8 := 109 :: Pl.dg 20 k

end PartMkT
section PartTkM
open Go.RowKit

end PartTkM
section PartTkN
open Go.RowKit

/-- n tokens in block g that may be written; the first m are marked. -/
def WT (w : World) (g n m : Nat) : Prop := ∃ arr : Array Value, w.heap[g]? = some (.cells arr 91 (0, 0)) ∧ n * 2 ≤ arr.size ∧ ∀ i, i < m → arr[i * 2]? = some (.int .i64 ((2 * i + 1 : Nat) : Int)) ∧ arr[i * 2 + 1]? = some (.string ⟨(mk (2 * i + 2)).toArray⟩)
theorem WT.keep {w w' : World} {g n m : Nat} (h : WT w g n m) (hb : Below w.heap.size w w') : WT w' g n m := by
  obtain ⟨arr, ha, hs⟩ := h
  exact ⟨arr, (hb.block g (blk_lt ha)).trans ha, hs⟩
/-- All but block g is as it was. -/
def FT (g : Nat) (w w' : World) : Prop := Env w w' ∧ w.heap.size ≤ w'.heap.size ∧ ∀ k, k < w.heap.size → k ≠ g → w'.heap[k]? = w.heap[k]?
theorem FT.refl (g : Nat) (w : World) : FT g w w := ⟨Env.refl w, Nat.le_refl _, fun _ _ _ => rfl⟩
theorem FT.set {g : Nat} {w w' : World} (h : FT g w w') (o : Nat) (u : Value) : FT g w (w'.setCell ⟨g, o, none⟩ u) :=
  ⟨h.1, by simpa [World.setCell] using h.2.1, fun k hk hkg => by rw [Below.heap_setCell _ _ _ _ (by show k ≠ g; exact hkg)]; exact h.2.2 k hk hkg⟩
theorem FT.up {g : Nat} {w w' w2 : World} (h : FT g w w') (hb : Below w'.heap.size w' w2) : FT g w w2 :=
  ⟨h.1.trans ⟨hb.os, hb.tape, hb.output⟩, Nat.le_trans h.2.1 hb.size, fun k hk hkg => (hb.block k (Nat.lt_of_lt_of_le hk h.2.1)).trans (h.2.2 k hk hkg)⟩
theorem FT.below {g B : Nat} {w w' : World} (h : FT g w w') (hB : B ≤ g) (hw : B ≤ w.heap.size) : Below B w w' := ⟨h.1.1, h.1.2.1, h.1.2.2, h.2.1, fun k hk => h.2.2 k (by omega) (by omega)⟩
theorem WT.next {wr a2 : World} {g n i : Nat} (h : WT wr g n i) (hi : i < n) (hb : Below (wr.setCell ⟨g, i * 2, none⟩ (.int .i64 ((2 * i + 1 : Nat) : Int))).heap.size (wr.setCell ⟨g, i * 2, none⟩ (.int .i64 ((2 * i + 1 : Nat) : Int))) a2) :
    WT (a2.setCell ⟨g, i * 2 + 1, none⟩ (.string ⟨(mk (2 * i + 2)).toArray⟩)) g n (i + 1) := by
  obtain ⟨arr, ha, hs, hm⟩ := h
  have hl := blk_lt ha
  have e1 : (wr.setCell ⟨g, i * 2, none⟩ (.int .i64 ((2 * i + 1 : Nat) : Int))).heap.size = wr.heap.size := by simp [World.setCell]
  have r1 := blk_set ha (i * 2) (.int .i64 ((2 * i + 1 : Nat) : Int))
  have r2 := (hb.block g (by rw [e1]; exact hl)).trans r1
  refine ⟨_, blk_set r2 (i * 2 + 1) _, by simpa using hs, fun j hj => ?_⟩
  by_cases hji : j = i
  · subst hji
    refine ⟨?_, ?_⟩
    · rw [Array.getElem?_setIfInBounds, if_neg (by omega), Array.getElem?_setIfInBounds, if_pos rfl, if_pos (by omega)]
    · rw [Array.getElem?_setIfInBounds, if_pos rfl, if_pos (by simp; omega)]
  · obtain ⟨k1, k2⟩ := hm j (by omega)
    refine ⟨?_, ?_⟩
    · rw [Array.getElem?_setIfInBounds, if_neg (by omega), Array.getElem?_setIfInBounds, if_neg (by omega)]; exact k1
    · rw [Array.getElem?_setIfInBounds, if_neg (by omega), Array.getElem?_setIfInBounds, if_neg (by omega)]; exact k2

end PartTkN
end Go.Proofs.YtoaipdckpecpoaaGreatDoor
