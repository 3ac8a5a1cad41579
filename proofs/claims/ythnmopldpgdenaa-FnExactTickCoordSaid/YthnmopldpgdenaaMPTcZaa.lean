/- Patterns in memory: what a row of pieces holds; how great a pattern is, as the law measures it. Patterns in memory: the law's own copy of a pattern. -/
import Derived.Test.YthnmopldpgdenaaProg
import Derived.WalkKit
import Derived.WalkSpells
import Derived.WalkLawsBesides
import Derived.Handy
import Derived.Lib.Strings
import Derived.BigQuiet
import Derived.Below
import Derived.Deep.QuietTactic
import Derived.Deep.RegionHeld3
import Derived.OwnWalk
import Derived.Laws.MakeOwn
import Derived.Laws.OwnMore
namespace Go.Proofs.Ythnmopldpgdenaa
section PartPtA
open Go.RowKit

/-- A piece: its kind, its text, its kids. -/
structure Pi where
  op : Int
  text : ByteArray
  kids : List Int
def Pi.no : Pi := ⟨0, ByteArray.empty, []⟩

/-- The slice v leads to the numbers ks. -/
def KidsAt (w : World) (v : Value) (ks : List Int) : Prop := ∃ (ka : Option Addr) (kc : Nat), v = .slice ka ks.length kc ∧
  (0 < ks.length → ∃ b o, ka = some ⟨b, o, none⟩ ∧ b < w.heap.size ∧ ∀ i, i < ks.length → w.cell? ⟨b, o + i, none⟩ = some (.int .i64 (ks.getD i 0)))
/-- Three cells hold the piece p. -/
def PieceAt (w : World) (b o : Nat) (p : Pi) : Prop := ∃ kv, w.cell? ⟨b, o, none⟩ = some (.int .i64 p.op) ∧ w.cell? ⟨b, o + 1, none⟩ = some (.string p.text) ∧ w.cell? ⟨b, o + 2, none⟩ = some kv ∧ KidsAt w kv p.kids
/-- The slice v leads to the pieces ps. -/
def PcsAt (w : World) (v : Value) (ps : List Pi) : Prop := ∃ (a : Option Addr) (c : Nat), v = .slice a ps.length c ∧
  (0 < ps.length → ∃ b o, a = some ⟨b, o, none⟩ ∧ b < w.heap.size ∧ ∀ i, i < ps.length → PieceAt w b (o + i * 3) (ps.getD i Pi.no))

theorem KidsAt.keep {w w' : World} {v : Value} {ks : List Int} (h : KidsAt w v ks) (hb : Below w.heap.size w w') : KidsAt w' v ks := by
  obtain ⟨ka, kc, rfl, f⟩ := h
  refine ⟨ka, kc, rfl, fun h0 => ?_⟩
  obtain ⟨b, o, rfl, hl, hc⟩ := f h0
  exact ⟨b, o, rfl, Nat.lt_of_lt_of_le hl hb.size, fun i hi => (hb.cell hl).trans (hc i hi)⟩
theorem PieceAt.keep {w w' : World} {b o : Nat} {p : Pi} (h : PieceAt w b o p) (hl : b < w.heap.size) (hb : Below w.heap.size w w') : PieceAt w' b o p := by
  obtain ⟨kv, c0, c1, c2, hk⟩ := h
  exact ⟨kv, (hb.cell hl).trans c0, (hb.cell hl).trans c1, (hb.cell hl).trans c2, hk.keep hb⟩
theorem PcsAt.keep {w w' : World} {v : Value} {ps : List Pi} (h : PcsAt w v ps) (hb : Below w.heap.size w w') : PcsAt w' v ps := by
  obtain ⟨ka, kc, rfl, f⟩ := h
  refine ⟨ka, kc, rfl, fun h0 => ?_⟩
  obtain ⟨b, o, rfl, hl, hc⟩ := f h0
  exact ⟨b, o, rfl, Nat.lt_of_lt_of_le hl hb.size, fun i hi => (hc i hi).keep hl hb⟩

/-- Lengths that fit in memory. -/
def Fit (ps : List Pi) : Prop := ps.length ≤ maxLen ∧ ∀ i, i < ps.length → (ps.getD i Pi.no).kids.length ≤ maxLen ∧ (ps.getD i Pi.no).text.size ≤ maxLen

end PartPtA
section PartPtB
open Go.RowKit

/-- A number as a value. -/
def iv (z : Int) : Value := .int .i64 z
/-- Block q holds the numbers ks, and no more. -/
def KidsBlk (w : World) (q : Nat) (ks : List Int) : Prop := w.heap[q]? = some (.cells (ks.map iv).toArray 3 (0, 0))
theorem blk_lt {w : World} {g : Nat} {o : Obj} (h : w.heap[g]? = some o) : g < w.heap.size := (Array.getElem?_eq_some_iff.1 h).1
theorem blk_cell {w : World} {g : Nat} {arr : Array Value} {t : TypeId} (h : w.heap[g]? = some (.cells arr t (0, 0))) (j : Nat) : w.cell? ⟨g, j, none⟩ = arr[j]? := by
  simp [World.cell?, h]
theorem blk_free {w : World} {g : Nat} {arr : Array Value} {t : TypeId} (h : w.heap[g]? = some (.cells arr t (0, 0))) (j : Nat) : w.frozen? ⟨g, j, none⟩ = false := by
  simp [World.frozen?, h]
theorem blk_set {w : World} {g : Nat} {arr : Array Value} {t : TypeId} (h : w.heap[g]? = some (.cells arr t (0, 0))) (j : Nat) (u : Value) : (w.setCell ⟨g, j, none⟩ u).heap[g]? = some (.cells (arr.setIfInBounds j u) t (0, 0)) := by
  simp [World.setCell, Array.getElem?_modify, h]
theorem KidsBlk.at {w : World} {q : Nat} {ks : List Int} (h : KidsBlk w q ks) (c : Nat) : KidsAt w (.slice (some ⟨q, 0, none⟩) ks.length c) ks := by
  refine ⟨_, _, rfl, fun _ => ⟨q, 0, rfl, blk_lt h, fun i hi => ?_⟩⟩
  rw [blk_cell h, Nat.zero_add]
  simp [hi, iv]

theorem alloc3_2 (w : World) (A B C : Obj) : (((w.alloc A).alloc B).alloc C).heap[w.heap.size + 1 + 1]? = some C := by
  show (((w.heap.push A).push B).push C)[w.heap.size + 2]? = some C
  rw [Array.getElem?_push]
  simp
theorem alloc3_1 (w : World) (A B C : Obj) : (((w.alloc A).alloc B).alloc C).heap[w.heap.size + 1]? = some B := by
  show (((w.heap.push A).push B).push C)[w.heap.size + 1]? = some B
  rw [Array.getElem?_push, if_neg (by simp), Array.getElem?_push]
  simp

theorem KidsBlk.keep {w w' : World} {q : Nat} {ks : List Int} (h : KidsBlk w q ks) (hb : Below w.heap.size w w') : KidsBlk w' q ks := (hb.block q (blk_lt h)).trans h
end PartPtB
end Go.Proofs.Ythnmopldpgdenaa
