/- Rows of numbers that the call itself made. The specification of CodeOk: is a part of code right? -/
import Derived.Test.YtdkenmpdgadcpaaDoorMPRmZab
import Derived.Test.YtdkenmpdgadcpaaDoorMPRmCdA
namespace Go.Proofs.YtdkenmpdgadcpaaDoor
section PartZRw
open Go.RowKit

def zvp (z : Nat) : Value := .int .i64 (z : Int)
/-- The row of the numbers zs, in the call's own memory from block B on. -/
def ZRow (B : Nat) (w : World) (v : Value) (zs : List Nat) : Prop := w.ownsRow B 3 1 v zs.length (zs.map zvp)
theorem ZRow.made {B : Nat} (w : World) (hb : B ≤ w.heap.size) : ZRow B (w.alloc (.cells #[] 3)) (.slice (some ⟨w.heap.size, 0, none⟩) 0 0) [] := World.ownsRow_made w #[] 0 hb (by decide) rfl
theorem ZRow.keep {B : Nat} {w w' : World} {v : Value} {zs : List Nat} (h : ZRow B w v zs) (hb : Below w.heap.size w w') : ZRow B w' v zs := by
  refine ⟨h.1, ?_⟩
  rcases h.2 with hn | ⟨g, cap, cur, rfl, h1, hg, rest⟩
  · exact .inl hn
  · refine .inr ⟨g, cap, cur, rfl, h1, ?_, rest⟩
    rw [hb.block g (Array.getElem?_eq_some_iff.1 hg).1]
    exact hg
end PartZRw
section PartCdB
open Go.RowKit

namespace Cd
end Cd

theorem KidsBlk.cell {w : World} {g : Nat} {hs : List Int} (h : KidsBlk w g hs) {j : Nat} (hj : j < hs.length) (d : Int) : w.cell? ⟨g, j, none⟩ = some (.int .i64 (hs.getD j d)) := by
  rw [blk_cell h]
  simp [hj, iv]
theorem KidsBlk.set {w : World} {g : Nat} {hs : List Int} (h : KidsBlk w g hs) (j : Nat) (z : Int) : KidsBlk (w.setCell ⟨g, j, none⟩ (.int .i64 z)) g (hs.set j z) := by
  show _ = _
  rw [blk_set h]
  simp [iv]

end PartCdB
end Go.Proofs.YtdkenmpdgadcpaaDoor
