/- What is read of the bytes of code: what both walks hold; the program's reader in one form. -/
import Derived.Test.YtbghghflepjdkaaZan
namespace Go.Proofs.Ytbghghflepjdkaa
open Go.RowKit

/-- What a walk of ReadCode holds, w where it began: the answer's cell, the reader, the code. -/
structure RW (T : TypeId) (w W : World) (s : ByteArray) (a : Nat) (bad : Bool) (tv lv : Value) (ln en : Int) : Prop where
  res : W.heap[w.heap.size]? = some (.cells #[.slice none 0 0, .slice none 0 0, .int .i64 0, .int .i64 0, .int .i64 0] 25 (0, 0))
  rd : W.heap[w.heap.size + 1]? = some (.cells #[.string s, .int .i64 (a : Int), .bool bad] T (0, 0))
  co : W.heap[w.heap.size + 2]? = some (.cells #[tv, lv, .int .i64 0, .int .i64 ln, .int .i64 en] 25 (0, 0))
  env : Below w.heap.size w W
theorem RW.size {T : TypeId} {w W : World} {s : ByteArray} {a : Nat} {bad : Bool} {tv lv : Value} {ln en : Int} (h : RW T w W s a bad tv lv ln en) : w.heap.size + 3 ≤ W.heap.size := by
  have := blk_lt h.co
  omega
theorem r3_0 (w : World) (A B C : Obj) : (((w.alloc A).alloc B).alloc C).heap[w.heap.size]? = some A := by
  show (((w.heap.push A).push B).push C)[w.heap.size]? = some A
  rw [Array.getElem?_push, if_neg (by simp; omega), Array.getElem?_push, if_neg (by simp), Array.getElem?_push]
  simp
theorem r3_2 (w : World) (A B C : Obj) : (((w.alloc A).alloc B).alloc C).heap[w.heap.size + 2]? = some C := by
  show (((w.heap.push A).push B).push C)[w.heap.size + 2]? = some C
  rw [Array.getElem?_push, if_pos (by simp)]
theorem RW.start (T : TypeId) (w : World) (s : ByteArray) : RW T w (((w.alloc (.cells #[.slice none 0 0, .slice none 0 0, .int .i64 0, .int .i64 0, .int .i64 0] 25)).alloc (.cells #[.string s, .int .i64 0, .bool false] T)).alloc (.cells #[.slice none 0 0, .slice none 0 0, .int .i64 0, .int .i64 0, .int .i64 0] 25)) s 0 false (.slice none 0 0) (.slice none 0 0) 0 0 :=
  ⟨r3_0 _ _ _ _, alloc3_1 _ _ _ _, r3_2 _ _ _ _, (((Below.refl _ _).alloc (Nat.le_refl _) _).alloc (by simp) _).alloc (by simp; omega) _⟩
/-- The reader went on. -/
theorem RW.call {T : TypeId} {w W W' : World} {s : ByteArray} {a a' : Nat} {bad bad' : Bool} {tv lv : Value} {ln en : Int} (h : RW T w W s a bad tv lv ln en) (hg : W.grownBy W' (some (w.heap.size + 1)))
    (h2 : W'.heap[w.heap.size + 1]? = some (.cells #[.string s, .int .i64 (a' : Int), .bool bad'] T (0, 0))) : RW T w W' s a' bad' tv lv ln en := by
  have hs := h.size
  refine ⟨(hg.block _ (by omega) (by simp)).trans h.res, h2, (hg.block _ (by omega) (by simp)).trans h.co, h.env.grown hg (by omega) (fun k hk => by simp at hk; omega)⟩
/-- A row of the call's own grew. -/
theorem RW.grow {T : TypeId} {w W W' : World} {s : ByteArray} {a : Nat} {bad : Bool} {tv lv : Value} {ln en : Int} {r : Option Nat} (h : RW T w W s a bad tv lv ln en) (hg : W.grownBy W' r) (hr : ∀ k, r = some k → w.heap.size + 3 ≤ k) : RW T w W' s a bad tv lv ln en := by
  have hs := h.size
  have hb : ∀ k, k < w.heap.size + 3 → W'.heap[k]? = W.heap[k]? := fun k hk => hg.block k (by omega) (fun e => by have := hr k e.symm; omega)
  exact ⟨(hb _ (by omega)).trans h.res, (hb _ (by omega)).trans h.rd, (hb _ (by omega)).trans h.co, h.env.grown hg (by omega) (fun k hk => by have := hr k hk; omega)⟩
theorem RW.alloc {T : TypeId} {w W : World} {s : ByteArray} {a : Nat} {bad : Bool} {tv lv : Value} {ln en : Int} (h : RW T w W s a bad tv lv ln en) (o : Obj) : RW T w (W.alloc o) s a bad tv lv ln en :=
  h.grow (World.grownBy_alloc W o none) (fun k hk => by cases hk)
theorem RW.drew {T : TypeId} {w W : World} {s : ByteArray} {a : Nat} {bad : Bool} {tv lv : Value} {ln en : Int} (h : RW T w W s a bad tv lv ln en) : RW T w W.drew s a bad tv lv ln en :=
  ⟨h.res, h.rd, h.co, h.env.drew⟩
/-- A field of the code is set. -/
theorem RW.setC {T : TypeId} {w W : World} {s : ByteArray} {a : Nat} {bad : Bool} {tv lv tv' lv' : Value} {ln en ln' en' : Int} (h : RW T w W s a bad tv lv ln en) (j : Nat) (u : Value)
    (hu : (#[tv, lv, .int .i64 0, .int .i64 ln, .int .i64 en] : Array Value).setIfInBounds j u = #[tv', lv', .int .i64 0, .int .i64 ln', .int .i64 en']) : RW T w (W.setCell ⟨w.heap.size + 2, j, none⟩ u) s a bad tv' lv' ln' en' := by
  have hs := h.size
  refine ⟨(Below.heap_setCell _ _ _ _ (by show w.heap.size ≠ w.heap.size + 2; omega)).trans h.res, (Below.heap_setCell _ _ _ _ (by show w.heap.size + 1 ≠ w.heap.size + 2; omega)).trans h.rd, ?_, h.env.setCell (by show w.heap.size ≤ w.heap.size + 2; omega) _⟩
  have := blk_set h.co j u
  rw [hu] at this
  exact this
/-- The reader's own field is set. -/
theorem RW.setR {T : TypeId} {w W : World} {s : ByteArray} {a a' : Nat} {bad bad' : Bool} {tv lv : Value} {ln en : Int} (h : RW T w W s a bad tv lv ln en) (j : Nat) (u : Value)
    (hu : (#[.string s, .int .i64 (a : Int), .bool bad] : Array Value).setIfInBounds j u = #[.string s, .int .i64 (a' : Int), .bool bad']) : RW T w (W.setCell ⟨w.heap.size + 1, j, none⟩ u) s a' bad' tv lv ln en := by
  have hs := h.size
  refine ⟨(Below.heap_setCell _ _ _ _ (by show w.heap.size ≠ w.heap.size + 1; omega)).trans h.res, ?_, (Below.heap_setCell _ _ _ _ (by show w.heap.size + 2 ≠ w.heap.size + 1; omega)).trans h.co, h.env.setCell (by show w.heap.size ≤ w.heap.size + 1; omega) _⟩
  have := blk_set h.rd j u
  rw [hu] at this
  exact this
theorem own_set {B : Nat} {w : World} {e : TypeId} {sz : Nat} {v : Value} {n : Nat} {cs : List Value} (h : w.ownsRow B e sz v n cs) (g j : Nat) (hg : g < B) (u : Value) : (w.setCell ⟨g, j, none⟩ u).ownsRow B e sz v n cs :=
  own_keep h fun q hq => Below.heap_setCell _ _ _ _ (by show q ≠ g; have := (World.ownsRow.lt h q hq).1; omega)
theorem own_call {B g : Nat} {w w' : World} {e : TypeId} {sz : Nat} {v : Value} {n : Nat} {cs : List Value} (h : w.ownsRow B e sz v n cs) (hw : w.grownBy w' (some g)) (hg : g < B) : w'.ownsRow B e sz v n cs :=
  own_keep h fun q hq => hw.block q (World.ownsRow.lt h q hq).2 (fun e => by have := (World.ownsRow.lt h q hq).1; simp at e; omega)

/-- A number, in one form. -/
theorem imNumber1 (g : Nat) (s : ByteArray) (a most : Nat) (bad : Bool) (w : World) (h : Br7 w g s a bad) (ha : a ≤ s.size) (hs : s.size ≤ 1048576) :
    Calls Try.prog 12 #[.pointer (some ⟨g, 0, none⟩), .int .i64 (most : Int)] w fun e w' => ∃ (n a' : Nat) (bad' : Bool), e = .returned (.int .i64 (n : Int)) ∧ w.grownBy w' (some g) ∧ Br7 w' g s a' bad' ∧ n ≤ most ∧ a' ≤ s.size ∧
      (bad' = false → bad = false ∧ Rc.rv s.data.toList a = some (n, a')) ∧ (bad' = true → bad = true ∨ Rc.rv s.data.toList a = none ∨ ∃ m k, Rc.rv s.data.toList a = some (m, k) ∧ most < m) := by
  refine (imNumber g s a most bad w h ha hs).mono ?_
  intro e w' hh
  obtain ⟨hm, hg⟩ := hh
  cases hr : Rc.rv s.data.toList a with
  | none =>
    rw [hr] at hm
    exact ⟨0, a, true, hm.1, hg, hm.2, by omega, ha, (fun e => by cases e), fun _ => .inr (.inl rfl)⟩
  | some r =>
    obtain ⟨n, k⟩ := r
    rw [hr] at hm
    simp only at hm
    obtain ⟨_, hk, _, _⟩ := Rc.rv_bytes (by simpa using ha) hr
    split at hm
    · rename_i hc
      exact ⟨n, k, bad, hm.1, hg, hm.2, hc, by simpa using hk, (fun e => ⟨e, rfl⟩), fun e => .inl e⟩
    · rename_i hc
      exact ⟨0, a, true, hm.1, hg, hm.2, by omega, ha, (fun e => by cases e), fun _ => .inr (.inr ⟨n, k, rfl, by omega⟩)⟩
/-- A short text, in one form. -/
theorem imShort1 (g : Nat) (s : ByteArray) (a : Nat) (bad : Bool) (w : World) (h : Br7 w g s a bad) (ha : a ≤ s.size) (hs : s.size ≤ 1048576) :
    Calls Try.prog 13 #[.pointer (some ⟨g, 0, none⟩)] w fun e w' => ∃ (t : List UInt8) (a' : Nat) (bad' : Bool), e = .returned (.string ⟨t.toArray⟩) ∧ w.grownBy w' (some g) ∧ Br7 w' g s a' bad' ∧ t.length ≤ 20000 ∧ a' ≤ s.size ∧
      (bad' = false → bad = false ∧ Rc.rs s.data.toList a = some (t, a')) ∧ (bad' = true → bad = true ∨ Rc.rs s.data.toList a = none) := by
  refine (imShort g s a bad w h ha hs).mono ?_
  intro e w' hh
  obtain ⟨hm, hg⟩ := hh
  cases hr : Rc.rs s.data.toList a with
  | none =>
    rw [hr] at hm
    exact ⟨[], a, true, hm.1, hg, hm.2, by simp, ha, (fun e => by cases e), fun _ => .inr rfl⟩
  | some r =>
    obtain ⟨t, k⟩ := r
    rw [hr] at hm
    obtain ⟨_, hk, ht, _⟩ := Rc.rs_bytes (by simpa using ha) hr
    exact ⟨t, k, bad, hm.1, hg, hm.2, ht, by simpa using hk, (fun e => ⟨e, rfl⟩), fun e => .inl e⟩
/-- A byte, in one form. -/
theorem imByte1 (g : Nat) (s : ByteArray) (a : Nat) (bad : Bool) (w : World) (h : Br7 w g s a bad) (ha : a ≤ s.size) (hs : s.size ≤ 1048576) :
    Calls Try.prog 14 #[.pointer (some ⟨g, 0, none⟩)] w fun e w' => ∃ (x a' : Nat) (bad' : Bool), e = .returned (.int .i64 (x : Int)) ∧ w.grownBy w' (some g) ∧ Br7 w' g s a' bad' ∧ x ≤ 255 ∧ a' ≤ s.size ∧
      (bad' = false → bad = false ∧ a' = a + 1 ∧ x = (s.data.toList.getD a 0).toNat) ∧ (bad' = true → bad = true ∨ s.size ≤ a) := by
  refine (imByte g s a bad w h ha hs).mono ?_
  intro e w' hh
  obtain ⟨hm, hg⟩ := hh
  split at hm
  · rename_i hc
    exact ⟨_, a + 1, bad, hm.1, hg, hm.2, by have := (s.data.toList.getD a 0).toNat_lt; omega, by omega, (fun e => ⟨e, rfl, rfl⟩), fun e => .inl e⟩
  · exact ⟨0, a, true, hm.1, hg, hm.2, by omega, ha, (fun e => by cases e), fun _ => .inr (by omega)⟩
end Go.Proofs.Ytbghghflepjdkaa
