/- What is read of the bytes of code: the program's reader, a byte. What is read of the bytes of code: rows that grow by one; what is bad stays bad. What is read of the bytes of code: what both walks hold; the program's reader in one form. The specification's reader of bytes, in one form. -/
import Derived.Test.YtmofljfffcnlbaaMPSxRcB
import Derived.Test.YtmofljfffcnlbaaMPSxZaf
import Derived.Test.YtmofljfffcnlbaaMPSxZad
import Derived.Deep.RegionHeld3
namespace Go.Proofs.Ytmofljfffcnlbaa
section PartRcC
open Go.RowKit

end PartRcC
section PartRcD
open Go.RowKit

/-- The row of the texts ts, in the call's own memory from block B on. -/
def TR (B : Nat) (w : World) (v : Value) (ts : List ByteArray) : Prop := w.ownsRow B 9 1 v ts.length (ts.map .string)
theorem TR.nil (B : Nat) (w : World) : TR B w (.slice none 0 0) [] := World.ownsRow_nil _ _ _ _
/-- A row is as it was where its block is. -/
theorem own_keep {B : Nat} {w w' : World} {e : TypeId} {sz : Nat} {v : Value} {n : Nat} {cs : List Value} (h : w.ownsRow B e sz v n cs) (hk : ∀ q, v.ownBlock = some q → w'.heap[q]? = w.heap[q]?) : w'.ownsRow B e sz v n cs := by
  refine ⟨h.1, ?_⟩
  rcases h.2 with hn | ⟨g, cap, cur, rfl, h1, hg, rest⟩
  · exact .inl hn
  · exact .inr ⟨g, cap, cur, rfl, h1, (hk g rfl).trans hg, rest⟩
theorem TR.at {B : Nat} {w : World} {v : Value} {ts : List ByteArray} (h : TR B w v ts) : TsAt w v ts := by
  have h' := h
  rcases h'.2 with ⟨rfl, hn⟩ | ⟨g, cap, cur, rfl, h1, hg, _⟩
  · exact ⟨none, 0, by rw [hn], fun h0 => by omega⟩
  · refine ⟨_, cap, rfl, fun _ => ⟨g, 0, rfl, blk_lt hg, fun i hi => ?_⟩⟩
    rw [Nat.zero_add, World.ownsRow.cellAt h i (by omega)]
    simp [hi]
namespace Rc
end Rc
end PartRcD
section PartRcE
open Go.RowKit

theorem r3_0 (w : World) (A B C : Obj) : (((w.alloc A).alloc B).alloc C).heap[w.heap.size]? = some A := by
  show (((w.heap.push A).push B).push C)[w.heap.size]? = some A
  rw [Array.getElem?_push, if_neg (by simp; omega), Array.getElem?_push, if_neg (by simp), Array.getElem?_push]
  simp
theorem r3_2 (w : World) (A B C : Obj) : (((w.alloc A).alloc B).alloc C).heap[w.heap.size + 2]? = some C := by
  show (((w.heap.push A).push B).push C)[w.heap.size + 2]? = some C
  rw [Array.getElem?_push, if_pos (by simp)]
theorem own_set {B : Nat} {w : World} {e : TypeId} {sz : Nat} {v : Value} {n : Nat} {cs : List Value} (h : w.ownsRow B e sz v n cs) (g j : Nat) (hg : g < B) (u : Value) : (w.setCell ⟨g, j, none⟩ u).ownsRow B e sz v n cs :=
  own_keep h fun q hq => Below.heap_setCell _ _ _ _ (by show q ≠ g; have := (World.ownsRow.lt h q hq).1; omega)
theorem own_call {B g : Nat} {w w' : World} {e : TypeId} {sz : Nat} {v : Value} {n : Nat} {cs : List Value} (h : w.ownsRow B e sz v n cs) (hw : w.grownBy w' (some g)) (hg : g < B) : w'.ownsRow B e sz v n cs :=
  own_keep h fun q hq => hw.block q (World.ownsRow.lt h q hq).2 (fun e => by have := (World.ownsRow.lt h q hq).1; simp at e; omega)

/-- A number, in one form. -/
theorem imNumber1 (g : Nat) (s : ByteArray) (a most : Nat) (bad : Bool) (w : World) (h : Br7 w g s a bad) (ha : a ≤ s.size) (hs : s.size ≤ 1048576) :
    Calls Try.prog 19 #[.pointer (some ⟨g, 0, none⟩), .int .i64 (most : Int)] w fun e w' => ∃ (n a' : Nat) (bad' : Bool), e = .returned (.int .i64 (n : Int)) ∧ w.grownBy w' (some g) ∧ Br7 w' g s a' bad' ∧ n ≤ most ∧ a' ≤ s.size ∧
      (bad' = false → bad = false ∧ Rc.rv s.data.toList a = some (n, a')) ∧ (bad' = true → bad = true ∨ Rc.rv s.data.toList a = none ∨ ∃ m k, Rc.rv s.data.toList a = some (m, k) ∧ most < m) := by
  refine (imNumber g s a most bad w h ha hs).mono ?_
  intro e w' hh
  obtain ⟨hm, hg⟩ := hh
  cases hr : Rc.rv s.data.toList a with
  | none =>
    rw [hr] at hm
    exact ⟨0, a, true, hm.1, hg, hm.2, by omega, ha, (fun e => by cases e), fun _ => .inr (.inl rfl)⟩
  | some r =>
    obtain ⟨n, k⟩ := r
    rw [hr] at hm
    simp only at hm
    obtain ⟨_, hk, _, _⟩ := Rc.rv_bytes (by simpa using ha) hr
    split at hm
    · rename_i hc
      exact ⟨n, k, bad, hm.1, hg, hm.2, hc, by simpa using hk, (fun e => ⟨e, rfl⟩), fun e => .inl e⟩
    · rename_i hc
      exact ⟨0, a, true, hm.1, hg, hm.2, by omega, ha, (fun e => by cases e), fun _ => .inr (.inr ⟨n, k, rfl, by omega⟩)⟩
/-- A short text, in one form. -/
theorem imShort1 (g : Nat) (s : ByteArray) (a : Nat) (bad : Bool) (w : World) (h : Br7 w g s a bad) (ha : a ≤ s.size) (hs : s.size ≤ 1048576) :
    Calls Try.prog 20 #[.pointer (some ⟨g, 0, none⟩)] w fun e w' => ∃ (t : List UInt8) (a' : Nat) (bad' : Bool), e = .returned (.string ⟨t.toArray⟩) ∧ w.grownBy w' (some g) ∧ Br7 w' g s a' bad' ∧ t.length ≤ 20000 ∧ a' ≤ s.size ∧
      (bad' = false → bad = false ∧ Rc.rs s.data.toList a = some (t, a')) ∧ (bad' = true → bad = true ∨ Rc.rs s.data.toList a = none) := by
  refine (imShort g s a bad w h ha hs).mono ?_
  intro e w' hh
  obtain ⟨hm, hg⟩ := hh
  cases hr : Rc.rs s.data.toList a with
  | none =>
    rw [hr] at hm
    exact ⟨[], a, true, hm.1, hg, hm.2, by simp, ha, (fun e => by cases e), fun _ => .inr rfl⟩
  | some r =>
    obtain ⟨t, k⟩ := r
    rw [hr] at hm
    obtain ⟨_, hk, ht, _⟩ := Rc.rs_bytes (by simpa using ha) hr
    exact ⟨t, k, bad, hm.1, hg, hm.2, ht, by simpa using hk, (fun e => ⟨e, rfl⟩), fun e => .inl e⟩
end PartRcE
section PartRcS
open Go.RowKit

/-- A number, in one form. -/
theorem spVar1 (g : Nat) (s : ByteArray) (a : Nat) (bad : Bool) (w : World) (h : Cu7 w g s a bad) (ha : a ≤ s.size) (hs : s.size ≤ 1048576) :
    Calls Try.prog 25 #[.pointer (some ⟨g, 0, none⟩)] w fun e w' => ∃ (n a' : Nat) (bad' : Bool), e = .returned (.int .i64 (n : Int)) ∧ w.grownBy w' (some g) ∧ Cu7 w' g s a' bad' ∧ n ≤ 1000000000 ∧ a' ≤ s.size ∧
      (bad' = false → bad = false ∧ Rc.rv s.data.toList a = some (n, a')) ∧ (bad' = true → bad = true ∨ Rc.rv s.data.toList a = none) := by
  refine (spVar7 g s a bad w h ha hs).mono ?_
  intro e w' hh
  obtain ⟨he, hm, hg⟩ := hh
  cases hr : Rc.rv s.data.toList a with
  | none =>
    rw [hr] at hm he
    cases bad with
    | false => exact ⟨0, a, true, he, hg, hm, by omega, ha, (fun e => by cases e), fun _ => .inr rfl⟩
    | true => exact ⟨0, a, true, he, hg, hm, by omega, ha, (fun e => by cases e), fun _ => .inl rfl⟩
  | some r =>
    obtain ⟨n, k⟩ := r
    rw [hr] at hm he
    obtain ⟨_, hk, _, hn⟩ := Rc.rv_bytes (by simpa using ha) hr
    cases bad with
    | false => exact ⟨n, k, false, he, hg, hm, hn, by simpa using hk, (fun e => ⟨rfl, rfl⟩), fun e => by cases e⟩
    | true => exact ⟨0, a, true, he, hg, hm, by omega, ha, (fun e => by cases e), fun _ => .inl rfl⟩
/-- A short text, in one form. -/
theorem spShort1 (g : Nat) (s : ByteArray) (a : Nat) (bad : Bool) (w : World) (h : Cu7 w g s a bad) (ha : a ≤ s.size) (hs : s.size ≤ 1048576) :
    Calls Try.prog 26 #[.pointer (some ⟨g, 0, none⟩)] w fun e w' => ∃ (t : List UInt8) (a' : Nat) (bad' : Bool), e = .returned (.string ⟨t.toArray⟩) ∧ w.grownBy w' (some g) ∧ Cu7 w' g s a' bad' ∧ t.length ≤ 20000 ∧ a' ≤ s.size ∧
      (bad' = false → bad = false ∧ Rc.rs s.data.toList a = some (t, a')) ∧ (bad' = true → bad = true ∨ Rc.rs s.data.toList a = none) := by
  refine (spShort7r g s a bad w h ha hs).mono ?_
  intro e w' hh
  obtain ⟨he, hm, hg⟩ := hh
  cases hr : Rc.rs s.data.toList a with
  | none =>
    rw [hr] at hm he
    cases bad with
    | false => exact ⟨[], a, true, he, hg, hm, by simp, ha, (fun e => by cases e), fun _ => .inr rfl⟩
    | true => exact ⟨[], a, true, he, hg, hm, by simp, ha, (fun e => by cases e), fun _ => .inl rfl⟩
  | some r =>
    obtain ⟨t, k⟩ := r
    rw [hr] at hm he
    obtain ⟨_, hk, ht, _⟩ := Rc.rs_bytes (by simpa using ha) hr
    cases bad with
    | false => exact ⟨t, k, false, he, hg, hm, ht, by simpa using hk, (fun e => ⟨rfl, rfl⟩), fun e => by cases e⟩
    | true => exact ⟨[], a, true, he, hg, hm, by simp, ha, (fun e => by cases e), fun _ => .inl rfl⟩

end PartRcS
end Go.Proofs.Ytmofljfffcnlbaa
