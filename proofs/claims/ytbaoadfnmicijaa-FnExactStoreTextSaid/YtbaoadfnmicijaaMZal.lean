/- The specification's reader of a pattern: a set, and small laws on what a part leaves. The specification's reader of a pattern: a thing. -/
import Derived.Test.YtbaoadfnmicijaaMZaj
import Derived.Test.YtbaoadfnmicijaaMZak
namespace Go.Proofs.Ytbaoadfnmicijaa
section PartRdF
open Go.RowKit

theorem ext_take (s : ByteArray) (b e : Nat) : s.extract b e = ⟨((s.data.toList.drop b).take (e - b)).toArray⟩ := by
  apply ByteArray.ext
  apply Array.ext'
  rw [ByteArray.data_extract, Array.toList_extract]

end PartRdF
section PartRdG
open Go.RowKit

end PartRdG
end Go.Proofs.Ytbaoadfnmicijaa
