/- The specification's CutLines. -/
import Derived.Test.YteajkkcelajadaaCuC
import Derived.Deep.Upon
import Derived.Deep.AppendSrc
namespace Go.Proofs.Yteajkkcelajadaa
open Go.RowKit

theorem tsv_one (xs : List ByteArray) : ∀ u ∈ xs.map tsv, u.oneCell' = true := by
  intro u hu
  obtain ⟨x, _, rfl⟩ := List.mem_map.1 hu
  rfl
end Go.Proofs.Yteajkkcelajadaa
