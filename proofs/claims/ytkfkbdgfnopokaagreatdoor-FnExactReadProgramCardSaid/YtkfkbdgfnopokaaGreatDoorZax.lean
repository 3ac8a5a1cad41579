/- What is read of a program stays while a block of two rows is written. Plain facts: texts of tokens are short. -/
import Derived.Test.YtkfkbdgfnopokaaGreatDoorZaw
import Derived.Test.YtkfkbdgfnopokaaGreatDoorZak
import Derived.Test.YtkfkbdgfnopokaaGreatDoorZaf
namespace Go.Proofs.YtkfkbdgfnopokaaGreatDoor
section PartPrX
open Go.RowKit
def Two (w : World) (y : Nat) : Prop := ∃ a0 n0 c0 a1 n1 c1 t, w.heap[y]? = some (.cells #[.slice a0 n0 c0, .slice a1 n1 c1] t (0, 0))
theorem Two.ne {w : World} {y b i : Nat} {z : Int} (h : Two w y) (hc : w.cell? ⟨b, i, none⟩ = some (.int .i64 z)) : b ≠ y := by
 rintro rfl
 obtain ⟨a0, n0, c0, a1, n1, c1, t, h⟩ := h
 rw [blk_cell h] at hc
 match i, hc with
 | 0, hc => simp at hc
 | 1, hc => simp at hc
 | i + 2, hc => simp at hc
theorem set_other {w : World} {y b : Nat} (h : b ≠ y) (o i : Nat) (u : Value) : (w.setCell ⟨y, o, none⟩ u).cell? ⟨b, i, none⟩ = w.cell? ⟨b, i, none⟩ := cell_blk (Below.heap_setCell _ _ _ _ (by show b ≠ y; exact h)) i
theorem set_size (w : World) (p : Addr) (u : Value) : (w.setCell p u).heap.size = w.heap.size := by simp [World.setCell]
theorem KidsAt.two {w : World} {y o : Nat} {u v : Value} {ks : List Int} (h : KidsAt w v ks) (hy : Two w y) : KidsAt (w.setCell ⟨y, o, none⟩ u) v ks := by
 obtain ⟨ka, kc, rfl, f⟩ := h
 refine ⟨ka, kc, rfl, fun h0 => ?_⟩
 obtain ⟨b, q, rfl, hb, hc⟩ := f h0
 have hne : b ≠ y := hy.ne (hc 0 h0)
 exact ⟨b, q, rfl, by rw [set_size]; exact hb, fun i hi => by rw [set_other hne]; exact hc i hi⟩
theorem PcsAt.two {w : World} {y o : Nat} {u v : Value} {ps : List Pi} (h : PcsAt w v ps) (hy : Two w y) : PcsAt (w.setCell ⟨y, o, none⟩ u) v ps := by
 obtain ⟨a, c, rfl, f⟩ := h
 refine ⟨a, c, rfl, fun h0 => ?_⟩
 obtain ⟨b, q, rfl, hb, hc⟩ := f h0
 have hne : b ≠ y := by obtain ⟨kv, k1, _⟩ := hc 0 h0; exact hy.ne k1
 refine ⟨b, q, rfl, by rw [set_size]; exact hb, fun i hi => ?_⟩
 obtain ⟨kv, k1, k2, k3, k4⟩ := hc i hi
 exact ⟨kv, by rw [set_other hne]; exact k1, by rw [set_other hne]; exact k2, by rw [set_other hne]; exact k3, k4.two hy⟩
theorem RlsAt.two {w : World} {y o : Nat} {u v : Value} {rs : List Pg.Rl} (h : RlsAt w v rs) (hy : Two w y) : RlsAt (w.setCell ⟨y, o, none⟩ u) v rs := by
 obtain ⟨a, c, rfl, f⟩ := h
 refine ⟨a, c, rfl, fun h0 => ?_⟩
 obtain ⟨b, q, rfl, hb, hc⟩ := f h0
 have hne : b ≠ y := hy.ne (hc 0 h0).1
 exact ⟨b, q, rfl, by rw [set_size]; exact hb, fun i hi => ⟨by rw [set_other hne]; exact (hc i hi).1, by rw [set_other hne]; exact (hc i hi).2.1, by rw [set_other hne]; exact (hc i hi).2.2⟩⟩
theorem Two.set {w : World} {y o : Nat} {a : Option Addr} {n c : Nat} (h : Two w y) : Two (w.setCell ⟨y, o, none⟩ (.slice a n c)) y := by
 obtain ⟨a0, n0, c0, a1, n1, c1, t, h⟩ := h
 match o with
 | 0 => exact ⟨a, n, c, a1, n1, c1, t, by simp [World.setCell, Array.getElem?_modify, h]⟩
 | 1 => exact ⟨a0, n0, c0, a, n, c, t, by simp [World.setCell, Array.getElem?_modify, h]⟩
 | o + 2 => exact ⟨a0, n0, c0, a1, n1, c1, t, by simp [World.setCell, Array.getElem?_modify, h, Array.setIfInBounds]⟩
theorem sm_small {ps : List Pi} (h : Pr.Sm ps) : Small ps ps.length := by
 intro i hi
 have e : ps.getD i Pi.no = ps[i] := by simp [hi]
 rw [e]
 have := h ps[i] (List.getElem_mem hi)
 exact ⟨by omega, by omega⟩
end PartPrX
section PartPrU
namespace Tk
theorem cut_len (l : List UInt8) (a b : Nat) : (cut l a b).length ≤ l.length := by
 unfold cut
 rw [List.length_take, List.length_drop]
 omega
theorem one_sm {l : List UInt8} {a : Nat} {last t : Tok} {n : Nat} (h : one l a last = some (t, n)) (hl : l.length ≤ 600) : t.text.length ≤ 600 := by
 unfold one at h
 have hc : ∀ a b, (cut l a b).length ≤ 600 := fun a b => Nat.le_trans (cut_len l a b) hl
 split at h
 ·simp only [Option.some.injEq, Prod.mk.injEq] at h
  rw [← h.1]
  show 1 ≤ 600
  omega
 split at h
 ·split at h
  ·cases h
  ·simp only [Option.some.injEq, Prod.mk.injEq] at h
   rw [← h.1]
   exact hc _ _
 split at h
 ·split at h
  ·cases h
  ·simp only [Option.some.injEq, Prod.mk.injEq] at h
   rw [← h.1]
   exact hc _ _
 split at h
 ·split at h
  ·cases h
  ·simp only [Option.some.injEq, Prod.mk.injEq] at h
   rw [← h.1]
   exact hc _ _
 split at h
 ·split at h
  ·cases h
  ·split at h
   ·simp only [Option.some.injEq, Prod.mk.injEq] at h
    rw [← h.1]
    exact hc _ _
   ·cases h
 split at h
 ·simp only [Option.some.injEq, Prod.mk.injEq] at h
  rw [← h.1]
  exact hc _ _
 split at h
 ·simp only [Option.some.injEq, Prod.mk.injEq] at h
  rw [← h.1]
  exact hc _ _
 ·cases h
theorem loop_sm {l : List UInt8} (hl : l.length ≤ 600) : ∀ f a last out, (∀ t ∈ out, t.text.length ≤ 600) → ∀ t ∈ (loop l f a last out).1, t.text.length ≤ 600 := by
 intro f
 induction f with
 | zero => intro a last out h; exact h
 | succ f ih =>
  intro a last out h
  unfold loop
  split
  ·exact h
  split
  ·exact ih _ _ _ h
  split
  ·exact ih _ _ _ h
  cases ho : one l a last with
  | none => intro t ht; simp at ht
  | some p =>
   obtain ⟨t, n⟩ := p
   show ∀ x ∈ (if out.length = 200 then ([], a + 1) else loop l f n t (out ++ [t])).1, x.text.length ≤ 600
   split
   ·intro t ht; simp at ht
   ·refine ih _ _ _ fun x hx => ?_
    simp at hx
    rcases hx with hx | rfl
    ·exact h x hx
    ·exact one_sm ho hl
theorem tokens_sm (l : List UInt8) : Pr.Tsm (tokens l).1 := by
 unfold tokens
 split
 ·intro t ht; simp at ht
 ·exact loop_sm (by omega) _ _ _ _ (fun t ht => by simp at ht)
end Tk
end PartPrU
end Go.Proofs.YtkfkbdgfnopokaaGreatDoor
