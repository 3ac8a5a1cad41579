/- Patterns in memory: what a row of pieces holds; how great a pattern is, as the law measures it. -/
import Derived.Test.YtljnffanajcifaaProg
import Derived.WalkKit
import Derived.WalkSpells
import Derived.WalkLawsBesides
import Derived.Handy
import Derived.Lib.Strings
import Derived.BigQuiet
import Derived.Below
import Derived.Deep.QuietTactic
import Derived.Deep.RegionHeld3
namespace Go.Proofs.Ytljnffanajcifaa
open Go.RowKit

/-- A piece: its kind, its text, its kids. -/
structure Pi where
  op : Int
  text : ByteArray
  kids : List Int
def Pi.no : Pi := ⟨0, ByteArray.empty, []⟩

/-- The slice v leads to the numbers ks. -/
def KidsAt (w : World) (v : Value) (ks : List Int) : Prop := ∃ (ka : Option Addr) (kc : Nat), v = .slice ka ks.length kc ∧
  (0 < ks.length → ∃ b o, ka = some ⟨b, o, none⟩ ∧ b < w.heap.size ∧ ∀ i, i < ks.length → w.cell? ⟨b, o + i, none⟩ = some (.int .i64 (ks.getD i 0)))
/-- Three cells hold the piece p. -/
def PieceAt (w : World) (b o : Nat) (p : Pi) : Prop := ∃ kv, w.cell? ⟨b, o, none⟩ = some (.int .i64 p.op) ∧ w.cell? ⟨b, o + 1, none⟩ = some (.string p.text) ∧ w.cell? ⟨b, o + 2, none⟩ = some kv ∧ KidsAt w kv p.kids
/-- The slice v leads to the pieces ps. -/
def PcsAt (w : World) (v : Value) (ps : List Pi) : Prop := ∃ (a : Option Addr) (c : Nat), v = .slice a ps.length c ∧
  (0 < ps.length → ∃ b o, a = some ⟨b, o, none⟩ ∧ b < w.heap.size ∧ ∀ i, i < ps.length → PieceAt w b (o + i * 3) (ps.getD i Pi.no))

theorem KidsAt.keep {w w' : World} {v : Value} {ks : List Int} (h : KidsAt w v ks) (hb : Below w.heap.size w w') : KidsAt w' v ks := by
  obtain ⟨ka, kc, rfl, f⟩ := h
  refine ⟨ka, kc, rfl, fun h0 => ?_⟩
  obtain ⟨b, o, rfl, hl, hc⟩ := f h0
  exact ⟨b, o, rfl, Nat.lt_of_lt_of_le hl hb.size, fun i hi => (hb.cell hl).trans (hc i hi)⟩
theorem PieceAt.keep {w w' : World} {b o : Nat} {p : Pi} (h : PieceAt w b o p) (hl : b < w.heap.size) (hb : Below w.heap.size w w') : PieceAt w' b o p := by
  obtain ⟨kv, c0, c1, c2, hk⟩ := h
  exact ⟨kv, (hb.cell hl).trans c0, (hb.cell hl).trans c1, (hb.cell hl).trans c2, hk.keep hb⟩
theorem PcsAt.keep {w w' : World} {v : Value} {ps : List Pi} (h : PcsAt w v ps) (hb : Below w.heap.size w w') : PcsAt w' v ps := by
  obtain ⟨ka, kc, rfl, f⟩ := h
  refine ⟨ka, kc, rfl, fun h0 => ?_⟩
  obtain ⟨b, o, rfl, hl, hc⟩ := f h0
  exact ⟨b, o, rfl, Nat.lt_of_lt_of_le hl hb.size, fun i hi => (hc i hi).keep hl hb⟩

end Go.Proofs.Ytljnffanajcifaa
