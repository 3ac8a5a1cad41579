/- What the program's Cut answers, at every text: its first forty bytes, in memory of its own. -/
import Derived.Test.YtjbodcakhnkggaqProg
import Derived.Test.YtjbodcakhnkggaqPV
import Derived.WalkKit
import Derived.WalkSpells
import Derived.WalkLawsBesides
import Derived.Handy
import Derived.Lib.Strings
import Derived.Test.YtjbodcakhnkggaqShelfC
namespace Go.Proofs.Ytjbodcakhnkggaq
open Go.RowKit

theorem take_str (s : ByteArray) (n : Nat) (_h : n ≤ s.size) : s.extract 0 n = ⟨(s.data.toList.take n).toArray⟩ := by
  rw [Lib.extract_eq s 0 n]
  simp
theorem mk_str (s : ByteArray) : (⟨s.data.toList.toArray⟩ : ByteArray) = s := by
  apply ByteArray.ext; simp

end Go.Proofs.Ytjbodcakhnkggaq
