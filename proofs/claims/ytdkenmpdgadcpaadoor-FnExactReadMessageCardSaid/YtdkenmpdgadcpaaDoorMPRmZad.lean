/- The program's writer of bytes: what it has written, as a text. Records of 2 fields in memory (Instr): how great a row of them is, the law's own copy of it, two of the same. -/
import Derived.Test.YtdkenmpdgadcpaaDoorMPRmBwA
import Derived.Test.YtdkenmpdgadcpaaDoorMPRmZab
import Derived.Deep.SlicePairs
import Derived.Deep.Strs
import Derived.Deep.Fields
import Derived.ProofKit
import Derived.OpenShut
import Derived.ChangeOld
namespace Go.Proofs.YtdkenmpdgadcpaaDoor
section PartBwB
open Go.RowKit

end PartBwB
section PartCoI
open Go.RowKit

structure Ins where
  op : Int
  arg : Int
def Ins.no : Ins := ⟨0, 0⟩
instance : Inhabited Ins := ⟨Ins.no⟩
/-- The slice v leads to the records xs. -/
def InsAt (w : World) (v : Value) (xs : List Ins) : Prop := ∃ (a : Option Addr) (c : Nat), v = .slice a xs.length c ∧
  (0 < xs.length → ∃ b o, a = some ⟨b, o, none⟩ ∧ b < w.heap.size ∧ ∀ i, i < xs.length → w.cell? ⟨b, o + i * 2, none⟩ = some (.int .i64 (xs.getD i Ins.no).op) ∧ w.cell? ⟨b, o + i * 2 + 1, none⟩ = some (.int .i64 (xs.getD i Ins.no).arg))
theorem InsAt.keep {w w' : World} {v : Value} {xs : List Ins} (h : InsAt w v xs) (hb : Below w.heap.size w w') : InsAt w' v xs := by
  obtain ⟨ka, kc, rfl, f⟩ := h
  refine ⟨ka, kc, rfl, fun h0 => ?_⟩
  obtain ⟨b, o, rfl, hl, hc⟩ := f h0
  exact ⟨b, o, rfl, Nat.lt_of_lt_of_le hl hb.size, fun i hi => ⟨(hb.cell hl).trans ((hc i hi).1), (hb.cell hl).trans ((hc i hi).2)⟩⟩

end PartCoI
end Go.Proofs.YtdkenmpdgadcpaaDoor
