/- The specification's reader of a pattern: a set, and small laws on what a part leaves. Plain facts, without the program: the sixteen figures, a text in figures, and back. -/
import Derived.Test.YthnmopldpgdenaaMPTcZah
import Derived.Test.YthnmopldpgdenaaMPTcZai
namespace Go.Proofs.Ythnmopldpgdenaa
section PartRdF
open Go.RowKit

theorem conv1 (W : World) (c : UInt8) : (convert 112 9 (.slice (some ⟨W.heap.size, 0, none⟩) 1 1)).run Try.prog (W.alloc (.cells #[.int .u8 (c.toNat : Int)] 5)) = .ok (.string ⟨[c].toArray⟩) (W.alloc (.cells #[.int .u8 (c.toNat : Int)] 5)) := by
  have h : Row W.heap.size (W.alloc (.cells #[.int .u8 (c.toNat : Int)] 5)) (.slice (some ⟨W.heap.size, 0, none⟩) 1 1) [c] :=
    World.ownsRow_lit (base := W.heap.size) (e := 5) (size := 1) W #[.int .u8 (c.toNat : Int)] 1 (Nat.le_refl _) (by decide) rfl
  exact h.str

end PartRdF
section PartPlainC
namespace Pl

end Pl
end PartPlainC
end Go.Proofs.Ythnmopldpgdenaa
