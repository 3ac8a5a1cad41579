/- Small laws for the walks: rows of strings that the call itself made. -/
import Derived.Test.YtknojhmnadmilaaGreatDoorProg
import Derived.WalkKit
import Derived.WalkSpells
import Derived.WalkLawsBesides
import Derived.Handy
import Derived.Lib.Strings
import Derived.BigQuiet
import Derived.Deep.QuietTactic
import Derived.Deep.RegionHeld3
namespace Go.Proofs.YtknojhmnadmilaaGreatDoor
open Go.RowKit

/-- A text as a value. -/
def sv (l : List UInt8) : Value := .string ⟨l.toArray⟩
theorem Tryz.infoS : (Tryz.prog.info? 9).map (fun i => (i.zero, i.size, i.bytes)) = some (some (.string ByteArray.empty), 1, 16) := by kernel_rfl

/-- The row of the texts ws, in the call's own memory from block B on. -/
def SRow (B : Nat) (w : World) (v : Value) (ws : List (List UInt8)) : Prop := w.ownsRow B 9 1 v ws.length (ws.map sv)

theorem SRow.nil (B : Nat) (w : World) : SRow B w (.slice none 0 0) [] := World.ownsRow_nil _ _ _ _
theorem SRow.none {B : Nat} (w : World) (hb : B ≤ w.heap.size) : SRow B (w.alloc (.cells #[] 9)) (.slice (some ⟨w.heap.size, 0, Option.none⟩) 0 0) [] :=
  World.ownsRow_made w #[] 0 hb (by decide) rfl
theorem SRow.alloc {B : Nat} {w : World} {v : Value} {ws : List (List UInt8)} (h : SRow B w v ws) (o : Obj) : SRow B (w.alloc o) v ws := World.ownsRow.alloc h o
/-- What is done above leaves the row as it was. -/
theorem SRow.keep {B : Nat} {w w' : World} {v : Value} {ws : List (List UInt8)} (h : SRow B w v ws) (hb : Below w.heap.size w w') : SRow B w' v ws := by
  refine ⟨h.1, ?_⟩
  rcases h.2 with hn | ⟨g, cap, cur, rfl, h1, hg, rest⟩
  · exact .inl hn
  · refine .inr ⟨g, cap, cur, rfl, h1, ?_, rest⟩
    rw [hb.block g (Array.getElem?_eq_some_iff.1 hg).1]
    exact hg
theorem SRow.lower {B B' : Nat} {w : World} {v : Value} {ws : List (List UInt8)} (h : SRow B w v ws) (hB : B' ≤ B) : SRow B' w v ws := by
  refine ⟨h.1, ?_⟩
  rcases h.2 with hn | ⟨g, cap, cur, rfl, h1, rest⟩
  · exact .inl hn
  · exact .inr ⟨g, cap, cur, rfl, by omega, rest⟩

/-- The slice is nil and empty, or it leads to its texts. -/
theorem SRow.form {B : Nat} {w : World} {v : Value} {ws : List (List UInt8)} (h : SRow B w v ws) :
    ∃ (ad : Option Addr) (cap : Nat), v = .slice ad ws.length cap ∧ (0 < ws.length → ∃ g, ad = some ⟨g, 0, Option.none⟩ ∧ B ≤ g ∧ g < w.heap.size ∧
      (∀ j, j < ws.length → w.cell? ⟨g, j, Option.none⟩ = some (sv (ws.getD j []))) ∧ ∀ j, w.frozen? ⟨g, j, Option.none⟩ = false) := by
  rcases h.2 with ⟨rfl, hn⟩ | ⟨g, cap, cur, rfl, h1, hg, _⟩
  · refine ⟨Option.none, 0, by rw [hn], fun h0 => by omega⟩
  · refine ⟨_, cap, rfl, fun _ => ⟨g, rfl, h1, (Array.getElem?_eq_some_iff.1 hg).1, ?_, fun j => World.ownsRow.frozenAt h j⟩⟩
    intro j hj
    rw [World.ownsRow.cellAt h j (by omega)]
    simp [hj]

theorem SRow.store {B : Nat} {w : World} {g cap n : Nat} {ws : List (List UInt8)} (h : SRow B w (.slice (some ⟨g, 0, Option.none⟩) n cap) ws) (hn : ws.length = n) (j : Nat) (c : List UInt8) :
    SRow B (w.setCell ⟨g, j, Option.none⟩ (.string ⟨c.toArray⟩)) (.slice (some ⟨g, 0, Option.none⟩) n cap) (ws.set j c) := by
  subst hn
  have := (World.ownsRow.stored h j (sv c)).1
  unfold SRow
  rw [List.map_set, List.length_set]
  exact this

theorem SRow.cell {B : Nat} {w : World} {g cap n : Nat} {ws : List (List UInt8)} (h : SRow B w (.slice (some ⟨g, 0, Option.none⟩) n cap) ws) (hn : ws.length = n) (j : Nat) (hj : j < n) : w.cell? ⟨g, j, Option.none⟩ = some (.string ⟨(ws.getD j []).toArray⟩) := by
  subst hn
  rw [World.ownsRow.cellAt h j (by omega)]
  simp [hj, sv]
theorem SRow.free {B : Nat} {w : World} {g cap n : Nat} {ws : List (List UInt8)} (h : SRow B w (.slice (some ⟨g, 0, Option.none⟩) n cap) ws) (hn : ws.length = n) (j : Nat) : w.frozen? ⟨g, j, Option.none⟩ = false := by
  subst hn
  exact World.ownsRow.frozenAt h j

/-- One text more. -/
theorem SRow.push {ops : Array Oper} {rest : List Oper} {o : Oper} {a : Act} {Q : Exit → Act → World → Prop} {B : Nat} {w : World} {v : Value} {ws : List (List UInt8)}
    (hown : SRow B w v ws) (hgd : o.guard = Option.none) (s x : Operand)
    (ho : o.op = .call { callee := .builtin .append, args := #[s, x], argTypes := #[69, 69] })
    (hs : a.eval s = v) (z : ByteArray) (c : List UInt8) (hz : z = ⟨c.toArray⟩) (hx : a.eval x = .slice (some ⟨w.heap.size, 0, Option.none⟩) 1 1)
    (hlen : ws.length < 1000000000) (hB : B ≤ w.heap.size)
    (h : ∀ v' w', SRow B w' v' (ws ++ [c]) → Below B w w' → wpList Tryz.prog ops Q rest (a.put o.dst v') w') :
    wpList Tryz.prog ops Q (o :: rest) a (w.alloc (.cells #[.string z] 9)) := by
  subst hz
  obtain ⟨i0, hi, hz0, hz1, hz2⟩ := info_parts Tryz.infoS
  refine wpList_append_own _ hgd s x 69 ho B 9 i0 (.string ByteArray.empty) 1 16 Tryz.underlying69 hi hz0 hz1 hz2 rfl (by decide) v ws.length (ws.map sv) hs (hown.alloc _) ⟨w.heap.size, 0, Option.none⟩ 1 1 [sv c] hx rfl (cell_one_new _ _ _) ?_ ?_ ?_ ?_ ?_
  · intro u hu; simp at hu; subst hu; rfl
  · unfold maxLen; omega
  · omega
  · simp; omega
  · intro v' w' h2 h3 _
    refine h v' w' ?_ ?_
    · unfold SRow; simpa using h2
    · exact ((Below.refl B w).alloc hB _).grown h3 (by simp; omega) (fun k hk => (hown.lt k hk).1)
#print axioms SRow.push
end Go.Proofs.YtknojhmnadmilaaGreatDoor
