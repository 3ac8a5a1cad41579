/- The specification of CodeOk: is a part of code right? -/
import Derived.Test.YtmofljfffcnlbaaMPSxCdA
import Derived.Test.YtmofljfffcnlbaaMPSxZRw
namespace Go.Proofs.Ytmofljfffcnlbaa
open Go.RowKit

namespace Cd
end Cd

theorem KidsBlk.cell {w : World} {g : Nat} {hs : List Int} (h : KidsBlk w g hs) {j : Nat} (hj : j < hs.length) (d : Int) : w.cell? ⟨g, j, none⟩ = some (.int .i64 (hs.getD j d)) := by
  rw [blk_cell h]
  simp [hj, iv]
theorem KidsBlk.set {w : World} {g : Nat} {hs : List Int} (h : KidsBlk w g hs) (j : Nat) (z : Int) : KidsBlk (w.setCell ⟨g, j, none⟩ (.int .i64 z)) g (hs.set j z) := by
  show _ = _
  rw [blk_set h]
  simp [iv]

end Go.Proofs.Ytmofljfffcnlbaa
