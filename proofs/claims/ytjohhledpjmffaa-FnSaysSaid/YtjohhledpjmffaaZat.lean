/- Small laws for the walks: rows of strings that the call itself made. One of the texts of a list that is laid for the draw: some text of that list; and a drawn value. -/
import Derived.Test.YtjohhledpjmffaaProg
import Derived.WalkKit
import Derived.WalkSpells
import Derived.WalkLawsBesides
import Derived.Handy
import Derived.Lib.Strings
import Derived.BigQuiet
import Derived.Deep.QuietTactic
import Derived.Deep.RegionHeld3
import Derived.Test.YtjohhledpjmffaaZas
namespace Go.Proofs.Ytjohhledpjmffaa
section PartKS
open Go.RowKit

/-- A text as a value. -/
def sv (l : List UInt8) : Value := .string ⟨l.toArray⟩
theorem Try.infoS : (Try.prog.info? 9).map (fun i => (i.zero, i.size, i.bytes)) = some (some (.string ByteArray.empty), 1, 16) := by kernel_rfl

/-- The row of the texts ws, in the call's own memory from block B on. -/
def SRow (B : Nat) (w : World) (v : Value) (ws : List (List UInt8)) : Prop := w.ownsRow B 9 1 v ws.length (ws.map sv)

theorem SRow.nil (B : Nat) (w : World) : SRow B w (.slice none 0 0) [] := World.ownsRow_nil _ _ _ _
theorem SRow.none {B : Nat} (w : World) (hb : B ≤ w.heap.size) : SRow B (w.alloc (.cells #[] 9)) (.slice (some ⟨w.heap.size, 0, Option.none⟩) 0 0) [] :=
  World.ownsRow_made w #[] 0 hb (by decide) rfl
theorem SRow.alloc {B : Nat} {w : World} {v : Value} {ws : List (List UInt8)} (h : SRow B w v ws) (o : Obj) : SRow B (w.alloc o) v ws := World.ownsRow.alloc h o
/-- What is done above leaves the row as it was. -/
theorem SRow.keep {B : Nat} {w w' : World} {v : Value} {ws : List (List UInt8)} (h : SRow B w v ws) (hb : Below w.heap.size w w') : SRow B w' v ws := by
  refine ⟨h.1, ?_⟩
  rcases h.2 with hn | ⟨g, cap, cur, rfl, h1, hg, rest⟩
  · exact .inl hn
  · refine .inr ⟨g, cap, cur, rfl, h1, ?_, rest⟩
    rw [hb.block g (Array.getElem?_eq_some_iff.1 hg).1]
    exact hg
theorem SRow.store {B : Nat} {w : World} {g cap n : Nat} {ws : List (List UInt8)} (h : SRow B w (.slice (some ⟨g, 0, Option.none⟩) n cap) ws) (hn : ws.length = n) (j : Nat) (c : List UInt8) :
    SRow B (w.setCell ⟨g, j, Option.none⟩ (.string ⟨c.toArray⟩)) (.slice (some ⟨g, 0, Option.none⟩) n cap) (ws.set j c) := by
  subst hn
  have := (World.ownsRow.stored h j (sv c)).1
  unfold SRow
  rw [List.map_set, List.length_set]
  exact this

theorem SRow.cell {B : Nat} {w : World} {g cap n : Nat} {ws : List (List UInt8)} (h : SRow B w (.slice (some ⟨g, 0, Option.none⟩) n cap) ws) (hn : ws.length = n) (j : Nat) (hj : j < n) : w.cell? ⟨g, j, Option.none⟩ = some (.string ⟨(ws.getD j []).toArray⟩) := by
  subst hn
  rw [World.ownsRow.cellAt h j (by omega)]
  simp [hj, sv]
theorem SRow.free {B : Nat} {w : World} {g cap n : Nat} {ws : List (List UInt8)} (h : SRow B w (.slice (some ⟨g, 0, Option.none⟩) n cap) ws) (hn : ws.length = n) (j : Nat) : w.frozen? ⟨g, j, Option.none⟩ = false := by
  subst hn
  exact World.ownsRow.frozenAt h j

/-- One text more. -/
theorem SRow.push {ops : Array Oper} {rest : List Oper} {o : Oper} {a : Act} {Q : Exit → Act → World → Prop} {B : Nat} {w : World} {v : Value} {ws : List (List UInt8)}
    (hown : SRow B w v ws) (hgd : o.guard = Option.none) (s x : Operand)
    (ho : o.op = .call { callee := .builtin .append, args := #[s, x], argTypes := #[31, 31] })
    (hs : a.eval s = v) (z : ByteArray) (c : List UInt8) (hz : z = ⟨c.toArray⟩) (hx : a.eval x = .slice (some ⟨w.heap.size, 0, Option.none⟩) 1 1)
    (hlen : ws.length < 1000000000) (hB : B ≤ w.heap.size)
    (h : ∀ v' w', SRow B w' v' (ws ++ [c]) → Below B w w' → wpList Try.prog ops Q rest (a.put o.dst v') w') :
    wpList Try.prog ops Q (o :: rest) a (w.alloc (.cells #[.string z] 9)) := by
  subst hz
  obtain ⟨i0, hi, hz0, hz1, hz2⟩ := info_parts Try.infoS
  refine wpList_append_own _ hgd s x 31 ho B 9 i0 (.string ByteArray.empty) 1 16 Try.underlying31 hi hz0 hz1 hz2 rfl (by decide) v ws.length (ws.map sv) hs (hown.alloc _) ⟨w.heap.size, 0, Option.none⟩ 1 1 [sv c] hx rfl (cell_one_new _ _ _) ?_ ?_ ?_ ?_ ?_
  · intro u hu; simp at hu; subst hu; rfl
  · unfold maxLen; omega
  · omega
  · simp; omega
  · intro v' w' h2 h3 _
    refine h v' w' ?_ ?_
    · unfold SRow; simpa using h2
    · exact ((Below.refl B w).alloc hB _).grown h3 (by simp; omega) (fun k hk => (hown.lt k hk).1)
end PartKS
section PartDPs
open Go.RowKit

set_option maxHeartbeats 1000000 in
set_option maxRecDepth 100000 in
/-- One of the texts of a list. -/
theorem pickS_any (B g n cap : Nat) (ad : Option Addr) (q m : Nat) (ts : List (List UInt8)) (w : World) (hd : Drw B w g ad n cap) (hq : q ≠ g) (hm : 0 < m) (hm2 : m ≤ 4294967296) (hl : ts.length = m)
    (hz : ∀ j, j < m → w.cell? ⟨q, j, none⟩ = some (sv (ts.getD j []))) :
    Calls Try.prog 54 #[.pointer (some ⟨g, 0, none⟩), .slice (some ⟨q, 0, none⟩) m m] w fun e w' => ∃ t : List UInt8, t ∈ ts ∧ e = .returned (.string ⟨t.toArray⟩) ∧ Drw B w' g ad n cap ∧ w.grownBy w' (some g) := by
  have HD : Hid (Drw B w g ad n cap) := hd
  have HZ : Hid (∀ j, j < m → w.cell? ⟨q, j, none⟩ = some (sv (ts.getD j []))) := hz
  clear hd hz
  go_enter Try.func54, Try.ntmps54
  go_wp2_with fail
  refine (below_any B g n cap ad m w HD.out hm hm2).mono ?_
  rintro e w1 ⟨x, hx, rfl, d1, g1⟩
  have D1 : Hid (Drw B w1 g ad n cap) := d1
  have G1 : Hid (w.grownBy w1 (some g)) := g1
  have hc1 : w1.cell? ⟨q, x, none⟩ = some (.string ⟨(ts.getD x []).toArray⟩) := g1.cell (HZ.out x hx) (by intro e; apply hq; simpa using e)
  clear d1 g1
  have hx2 : (x : Int) < (m : Int) := by omega
  have HMEM : Hid (ts.getD x [] ∈ ts) := by
    show _ ∈ _
    rw [List.getD_eq_getElem?_getD, List.getElem?_eq_getElem (by omega)]
    exact List.getElem_mem _
  generalize ts.getD x [] = t at *
  go_wp2
  go_ret
  exact ⟨t, HMEM.out, rfl, D1.out, G1.out⟩
/-- The same, of a list that was just laid. -/
theorem pickL_any (B g n cap : Nat) (ad : Option Addr) (ts : List (List UInt8)) (w : World) (hd : Drw B w g ad n cap) (hB : B ≤ w.heap.size) (hm : 0 < ts.length) (hm2 : ts.length ≤ 4294967296) :
    Calls Try.prog 54 #[.pointer (some ⟨g, 0, none⟩), .slice (some ⟨w.heap.size, 0, none⟩) ts.length ts.length] (w.alloc (.cells (ts.map sv).toArray 9))
      fun e w' => ∃ t : List UInt8, t ∈ ts ∧ e = .returned (.string ⟨t.toArray⟩) ∧ Drw B w' g ad n cap ∧ w.grownBy w' (some g) := by
  have hl := hd.low
  have hb : Below B w (w.alloc (.cells (ts.map sv).toArray 9)) := (Below.refl _ _).alloc hB _
  have hc : ∀ j, j < ts.length → (w.alloc (.cells (ts.map sv).toArray 9)).cell? ⟨w.heap.size, j, none⟩ = some (sv (ts.getD j [])) := by
    intro j hj
    rw [cell_of_row _ w.heap.size j _ 9 (0, 0) (heap_alloc_new w _)]
    simp [hj]
  refine (pickS_any B g n cap ad w.heap.size ts.length ts _ (hd.keep hb) (by omega) hm hm2 rfl hc).mono ?_
  rintro e w' ⟨t, h1, h2, h3, h4⟩
  exact ⟨t, h1, h2, h3, grown_trans (World.grownBy_alloc w _ _) h4⟩
end PartDPs
end Go.Proofs.Ytjohhledpjmffaa
