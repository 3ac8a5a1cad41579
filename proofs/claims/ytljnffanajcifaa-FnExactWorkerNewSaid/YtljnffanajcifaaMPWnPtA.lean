/- Patterns in memory: what a row of pieces holds; how great a pattern is, as the law measures it. -/
import Derived.Test.YtljnffanajcifaaProg
import Derived.WalkKit
import Derived.WalkSpells
import Derived.WalkLawsBesides
import Derived.Handy
import Derived.Lib.Strings
import Derived.BigQuiet
import Derived.Below
import Derived.Deep.QuietTactic
import Derived.Deep.RegionHeld3
namespace Go.Proofs.Ytljnffanajcifaa
open Go.RowKit

/-- A piece: its kind, its text, its kids. -/
structure Pi where
  op : Int
  text : ByteArray
  kids : List Int
/-- The slice v leads to the numbers ks. -/
def KidsAt (w : World) (v : Value) (ks : List Int) : Prop := ∃ (ka : Option Addr) (kc : Nat), v = .slice ka ks.length kc ∧
  (0 < ks.length → ∃ b o, ka = some ⟨b, o, none⟩ ∧ b < w.heap.size ∧ ∀ i, i < ks.length → w.cell? ⟨b, o + i, none⟩ = some (.int .i64 (ks.getD i 0)))
end Go.Proofs.Ytljnffanajcifaa
