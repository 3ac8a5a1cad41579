/- Rows of texts in memory: how great a row of them is, the law's own copy of it, two of the same. -/
import Derived.Test.YtljnffanajcifaaMPWtPtA
import Derived.Test.YtljnffanajcifaaMPWtPtB
import Derived.Deep.SlicePairs
import Derived.Deep.Strs
import Derived.Deep.Fields
import Derived.ProofKit
import Derived.OpenShut
import Derived.ChangeOld
namespace Go.Proofs.Ytljnffanajcifaa
open Go.RowKit

/-- The slice v leads to the texts ts. -/
def TsAt (w : World) (v : Value) (ts : List ByteArray) : Prop := ∃ (ka : Option Addr) (kc : Nat), v = .slice ka ts.length kc ∧
  (0 < ts.length → ∃ b o, ka = some ⟨b, o, none⟩ ∧ b < w.heap.size ∧ ∀ i, i < ts.length → w.cell? ⟨b, o + i, none⟩ = some (.string (ts.getD i ByteArray.empty)))
theorem TsAt.keep {w w' : World} {v : Value} {ts : List ByteArray} (h : TsAt w v ts) (hb : Below w.heap.size w w') : TsAt w' v ts := by
  obtain ⟨ka, kc, rfl, f⟩ := h
  refine ⟨ka, kc, rfl, fun h0 => ?_⟩
  obtain ⟨b, o, rfl, hl, hc⟩ := f h0
  exact ⟨b, o, rfl, Nat.lt_of_lt_of_le hl hb.size, fun i hi => (hb.cell hl).trans (hc i hi)⟩
def tsv (t : ByteArray) : Value := .string t
/-- Block q holds the texts ts, and no more. -/
def TsBlk (w : World) (q : Nat) (ts : List ByteArray) : Prop := w.heap[q]? = some (.cells (ts.map tsv).toArray 9 (0, 0))
theorem TsBlk.at {w : World} {q : Nat} {ts : List ByteArray} (h : TsBlk w q ts) (c : Nat) : TsAt w (.slice (some ⟨q, 0, none⟩) ts.length c) ts := by
  refine ⟨_, _, rfl, fun _ => ⟨q, 0, rfl, blk_lt h, fun i hi => ?_⟩⟩
  rw [blk_cell h, Nat.zero_add]
  simp [hi, tsv]
theorem TsBlk.keep {w w' : World} {q : Nat} {ts : List ByteArray} (h : TsBlk w q ts) (hb : Below w.heap.size w w') : TsBlk w' q ts := (hb.block q (blk_lt h)).trans h
end Go.Proofs.Ytljnffanajcifaa
