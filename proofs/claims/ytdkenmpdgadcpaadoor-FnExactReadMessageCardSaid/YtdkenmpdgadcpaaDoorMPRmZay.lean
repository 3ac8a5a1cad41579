/- What is read of the bytes of code: rows that grow by one; what is bad stays bad. What is read of the bytes of code: what both walks hold; the program's reader in one form. -/
import Derived.Test.YtdkenmpdgadcpaaDoorMPRmRcC
import Derived.Test.YtdkenmpdgadcpaaDoorMPRmZah
import Derived.Test.YtdkenmpdgadcpaaDoorMPRmCoS
import Derived.Deep.RegionHeld3
namespace Go.Proofs.YtdkenmpdgadcpaaDoor
section PartRcD
open Go.RowKit

/-- The row of the texts ts, in the call's own memory from block B on. -/
def TR (B : Nat) (w : World) (v : Value) (ts : List ByteArray) : Prop := w.ownsRow B 9 1 v ts.length (ts.map .string)
theorem TR.nil (B : Nat) (w : World) : TR B w (.slice none 0 0) [] := World.ownsRow_nil _ _ _ _
theorem TR.at {B : Nat} {w : World} {v : Value} {ts : List ByteArray} (h : TR B w v ts) : TsAt w v ts := by
  have h' := h
  rcases h'.2 with ⟨rfl, hn⟩ | ⟨g, cap, cur, rfl, h1, hg, _⟩
  · exact ⟨none, 0, by rw [hn], fun h0 => by omega⟩
  · refine ⟨_, cap, rfl, fun _ => ⟨g, 0, rfl, blk_lt hg, fun i hi => ?_⟩⟩
    rw [Nat.zero_add, World.ownsRow.cellAt h i (by omega)]
    simp [hi]
namespace Rc
end Rc
end PartRcD
section PartRcE
open Go.RowKit

/-- A number, in one form. -/
theorem imNumber1 (g : Nat) (s : ByteArray) (a most : Nat) (bad : Bool) (w : World) (h : Br7 w g s a bad) (ha : a ≤ s.size) (hs : s.size ≤ 1048576) :
    Calls Tryd.prog 25 #[.pointer (some ⟨g, 0, none⟩), .int .i64 (most : Int)] w fun e w' => ∃ (n a' : Nat) (bad' : Bool), e = .returned (.int .i64 (n : Int)) ∧ w.grownBy w' (some g) ∧ Br7 w' g s a' bad' ∧ n ≤ most ∧ a' ≤ s.size ∧
      (bad' = false → bad = false ∧ Rc.rv s.data.toList a = some (n, a')) ∧ (bad' = true → bad = true ∨ Rc.rv s.data.toList a = none ∨ ∃ m k, Rc.rv s.data.toList a = some (m, k) ∧ most < m) := by
  refine (imNumber g s a most bad w h ha hs).mono ?_
  intro e w' hh
  obtain ⟨hm, hg⟩ := hh
  cases hr : Rc.rv s.data.toList a with
  | none =>
    rw [hr] at hm
    exact ⟨0, a, true, hm.1, hg, hm.2, by omega, ha, (fun e => by cases e), fun _ => .inr (.inl rfl)⟩
  | some r =>
    obtain ⟨n, k⟩ := r
    rw [hr] at hm
    simp only at hm
    obtain ⟨_, hk, _, _⟩ := Rc.rv_bytes (by simpa using ha) hr
    split at hm
    · rename_i hc
      exact ⟨n, k, bad, hm.1, hg, hm.2, hc, by simpa using hk, (fun e => ⟨e, rfl⟩), fun e => .inl e⟩
    · rename_i hc
      exact ⟨0, a, true, hm.1, hg, hm.2, by omega, ha, (fun e => by cases e), fun _ => .inr (.inr ⟨n, k, rfl, by omega⟩)⟩
/-- A byte, in one form. -/
theorem imByte1 (g : Nat) (s : ByteArray) (a : Nat) (bad : Bool) (w : World) (h : Br7 w g s a bad) (ha : a ≤ s.size) (hs : s.size ≤ 1048576) :
    Calls Tryd.prog 24 #[.pointer (some ⟨g, 0, none⟩)] w fun e w' => ∃ (x a' : Nat) (bad' : Bool), e = .returned (.int .i64 (x : Int)) ∧ w.grownBy w' (some g) ∧ Br7 w' g s a' bad' ∧ x ≤ 255 ∧ a' ≤ s.size ∧
      (bad' = false → bad = false ∧ a' = a + 1 ∧ x = (s.data.toList.getD a 0).toNat) ∧ (bad' = true → bad = true ∨ s.size ≤ a) := by
  refine (imByte g s a bad w h ha hs).mono ?_
  intro e w' hh
  obtain ⟨hm, hg⟩ := hh
  split at hm
  · rename_i hc
    exact ⟨_, a + 1, bad, hm.1, hg, hm.2, by have := (s.data.toList.getD a 0).toNat_lt; omega, by omega, (fun e => ⟨e, rfl, rfl⟩), fun e => .inl e⟩
  · exact ⟨0, a, true, hm.1, hg, hm.2, by omega, ha, (fun e => by cases e), fun _ => .inr (by omega)⟩
end PartRcE
end Go.Proofs.YtdkenmpdgadcpaaDoor
