/- A drawn store: some right store of few things. -/
import Derived.Test.YtohhhhkhkgmanaaZal
import Derived.Test.YtohhhhkhkgmanaaSsA
import Derived.Test.YtohhhhkhkgmanaaSsB
import Derived.Test.YtohhhhkhkgmanaaZao
namespace Go.Proofs.Ytohhhhkhkgmanaa
open Go.RowKit

def names08 : List (List UInt8) := [[110], [115], [116], [117], [112, 114, 101]]
theorem names08_nm : ∀ t ∈ names08, Cd.nm t = true := by decide
def tabs08 : List (List UInt8) := [[116], [117]]
theorem tabs08_nm : ∀ t ∈ tabs08, Cd.nm t = true := by decide
theorem lst8 (l : List UInt8) : (⟨l.toArray⟩ : ByteArray).size = l.length := by
  show l.toArray.size = _
  simp

set_option maxHeartbeats 1000000 in
set_option maxRecDepth 100000 in
theorem l08Name_any (B g n cap : Nat) (ad : Option Addr) (w : World) (hd : Drw B w g ad n cap) (hB : B ≤ w.heap.size) :
    Calls Try.prog 53 #[.pointer (some ⟨g, 0, none⟩)] w fun e w' => ∃ t : List UInt8, t ∈ names08 ∧ e = .returned (.string ⟨t.toArray⟩) ∧ Drw B w' g ad n cap ∧ w.grownBy w' (some g) := by
  have C : Hid (Calls Try.prog 55 #[.pointer (some ⟨g, 0, none⟩), .slice (some ⟨w.heap.size, 0, none⟩) 5 5] (w.alloc (.cells (names08.map sv).toArray 9))
      fun e w' => ∃ t : List UInt8, t ∈ names08 ∧ e = .returned (.string ⟨t.toArray⟩) ∧ Drw B w' g ad n cap ∧ w.grownBy w' (some g)) := pickL_any B g n cap ad names08 w hd hB (by decide) (by decide)
  clear hd
  go_enter Try.func53, Try.ntmps53
  go_wp2_with fail
  refine C.out.mono ?_
  rintro e w1 ⟨t, ht, rfl, d1, g1⟩
  have HT : Hid (t ∈ names08) := ht
  have D1 : Hid (Drw B w1 g ad n cap) := d1
  have G1 : Hid (w.grownBy w1 (some g)) := g1
  clear ht d1 g1
  go_wp2
  go_ret
  exact ⟨t, HT.out, rfl, D1.out, G1.out⟩

/-- What stands while a store is drawn: its box, its rows, the cursor. -/
structure LS (w : World) (B g n cap : Nat) (ad : Option Addr) (wr : World) (u x : Value) (vs : List Vr) (cs : List Cl) (o : ByteArray) (k : Nat) : Prop where
  low : B ≤ w.heap.size
  res : wr.heap[w.heap.size]? = some (.cells #[.slice none 0 0, .slice none 0 0, .string ByteArray.empty] 27 (0, 0))
  blk : wr.heap[w.heap.size + 1]? = some (.cells #[u, x, .string o] 27 (0, 0))
  vi : VrIn (w.heap.size + 2) wr.heap.size wr u vs
  ci : ClIn (w.heap.size + 2) wr.heap.size wr x cs
  dw : Dw k vs cs o
  dr : Drw B wr g ad n cap
  gr : w.grownBy wr (some g)
section
variable {w wr : World} {B g n cap : Nat} {ad : Option Addr} {u x : Value} {vs : List Vr} {cs : List Cl} {o : ByteArray} {k : Nat}
theorem LS.sz (h : LS w B g n cap ad wr u x vs cs o k) : w.heap.size + 2 ≤ wr.heap.size := blk_lt h.blk
theorem LS.le (h : LS w B g n cap ad wr u x vs cs o k) : B ≤ wr.heap.size := by have := h.sz; have := h.low; omega
theorem LS.cells (h : LS w B g n cap ad wr u x vs cs o k) : wr.cell? ⟨w.heap.size + 1, 0, none⟩ = some u ∧ wr.cell? ⟨w.heap.size + 1, 1, none⟩ = some x ∧ wr.cell? ⟨w.heap.size + 1, 2, none⟩ = some (.string o) :=
  ⟨(blk_cell h.blk 0).trans rfl, (blk_cell h.blk 1).trans rfl, (blk_cell h.blk 2).trans rfl⟩
theorem LS.draw (h : LS w B g n cap ad wr u x vs cs o k) {w1 : World} (hd : Drw B w1 g ad n cap) (hg : wr.grownBy w1 (some g)) : LS w B g n cap ad w1 u x vs cs o k := by
  have hs := h.sz
  have hl := h.low
  have hgB := h.dr.low
  have e : ∀ b, w.heap.size ≤ b → b < wr.heap.size → w1.heap[b]? = wr.heap[b]? := fun b h1 h2 => hg.block b h2 (fun e => by have hbg : b = g := Option.some.inj e; omega)
  have hz := hg.size
  exact ⟨hl, (e _ (Nat.le_refl _) (by omega)).trans h.res, (e _ (by omega) (by omega)).trans h.blk, (h.vi.keep (fun b h1 h2 => e b (by omega) h2)).wide (Nat.le_refl _) hz, (h.ci.keep (fun b h1 h2 => e b (by omega) h2)).wide (Nat.le_refl _) hz, h.dw, hd, grown_trans h.gr hg⟩
theorem LS.drew (h : LS w B g n cap ad wr u x vs cs o k) : LS w B g n cap ad wr.drew u x vs cs o k := h.draw (h.dr.keep (Below.refl _ _).drew) ⟨rfl, rfl, rfl, Nat.le_refl _, fun _ _ _ => rfl⟩
theorem LS.alloc (h : LS w B g n cap ad wr u x vs cs o k) (ob : Obj) : LS w B g n cap ad (wr.alloc ob) u x vs cs o k := h.draw (h.dr.keep ((Below.refl _ _).alloc h.le _)) (World.grownBy_alloc wr ob _)
theorem LS.over (h : LS w B g n cap ad wr u x vs cs o k) {w2 : World} (hb : Below wr.heap.size wr w2) : w2.cell? ⟨w.heap.size + 1, 0, none⟩ = some u ∧ w2.cell? ⟨w.heap.size + 1, 1, none⟩ = some x ∧ w2.cell? ⟨w.heap.size + 1, 2, none⟩ = some (.string o) ∧ w2.frozen? ⟨w.heap.size + 1, 0, none⟩ = false ∧ w2.frozen? ⟨w.heap.size + 1, 1, none⟩ = false ∧ w2.frozen? ⟨w.heap.size + 1, 2, none⟩ = false := by
  have hk := (hb.block _ (blk_lt h.blk)).trans h.blk
  exact ⟨(blk_cell hk 0).trans rfl, (blk_cell hk 1).trans rfl, (blk_cell hk 2).trans rfl, blk_free hk 0, blk_free hk 1, blk_free hk 2⟩
theorem LS.next (h : LS w B g n cap ad wr u x vs cs o k) {w2 : World} {u2 x2 : Value} {vs2 : List Vr} {cs2 : List Cl} {o2 : ByteArray} (hu : VrIn wr.heap.size w2.heap.size w2 u2 vs2) (hx : ClIn wr.heap.size w2.heap.size w2 x2 cs2) (hb : Below wr.heap.size wr w2) (hd : Dw (k + 1) vs2 cs2 o2) :
    LS w B g n cap ad (((w2.setCell ⟨w.heap.size + 1, 0, none⟩ u2).setCell ⟨w.heap.size + 1, 1, none⟩ x2).setCell ⟨w.heap.size + 1, 2, none⟩ (.string o2)) u2 x2 vs2 cs2 o2 (k + 1) := by
  have hs := h.sz
  have hl := h.low
  have hgB := h.dr.low
  have hbz := hb.size
  have e : ∀ b, b ≠ w.heap.size + 1 → (((w2.setCell ⟨w.heap.size + 1, 0, none⟩ u2).setCell ⟨w.heap.size + 1, 1, none⟩ x2).setCell ⟨w.heap.size + 1, 2, none⟩ (.string o2)).heap[b]? = w2.heap[b]? := fun b hb => by
    rw [Below.heap_setCell _ _ _ _ (by show b ≠ w.heap.size + 1; exact hb), Below.heap_setCell _ _ _ _ (by show b ≠ w.heap.size + 1; exact hb), Below.heap_setCell _ _ _ _ (by show b ≠ w.heap.size + 1; exact hb)]
  have hB2 : Below w.heap.size w2 (((w2.setCell ⟨w.heap.size + 1, 0, none⟩ u2).setCell ⟨w.heap.size + 1, 1, none⟩ x2).setCell ⟨w.heap.size + 1, 2, none⟩ (.string o2)) := ((((Below.refl _ _).setCell (by show w.heap.size ≤ w.heap.size + 1; omega) _).setCell (by show w.heap.size ≤ w.heap.size + 1; omega) _).setCell (by show w.heap.size ≤ w.heap.size + 1; omega) _)
  have hBW : Below w.heap.size wr _ := (hb.mono (by omega)).trans hB2
  have hsz : (((w2.setCell ⟨w.heap.size + 1, 0, none⟩ u2).setCell ⟨w.heap.size + 1, 1, none⟩ x2).setCell ⟨w.heap.size + 1, 2, none⟩ (.string o2)).heap.size = w2.heap.size := by simp [World.setCell]
  refine ⟨hl, (e _ (by omega)).trans ((hb.block _ (by omega)).trans h.res), ?_, ?_, ?_, hd, h.dr.keep (hBW.mono hl), ?_⟩
  · have := blk_set (blk_set (blk_set ((hb.block _ (by omega)).trans h.blk) 0 u2) 1 x2) 2 (.string o2)
    exact this
  · exact (hu.keep (fun b h1 _ => e b (by omega))).wide (by omega) (by rw [hsz]; exact Nat.le_refl _)
  · exact (hx.keep (fun b h1 _ => e b (by omega))).wide (by omega) (by rw [hsz]; exact Nat.le_refl _)
  · exact ⟨hBW.os.trans h.gr.os, hBW.tape.trans h.gr.tape, hBW.output.trans h.gr.output, Nat.le_trans h.gr.size hBW.size, fun b hb hne => (hBW.block b hb).trans (h.gr.block b hb hne)⟩
end
theorem Dw.say {k : Nat} {vs : List Vr} {cs : List Cl} {o l : ByteArray} (h : Dw k vs cs o) (hk : k ≤ 68) (hl : l.size ≤ 42) : Dw (k + 1) vs cs (St.said o l) := by
  have ho := h.o
  have hs : (St.said o l).size ≤ o.size + 43 := by
    unfold St.said St.cut3
    split
    · rename_i hc
      rw [ByteArray.size_append, ByteArray.size_append] at hc
      rw [ByteArray.size_extract, ByteArray.size_append, ByteArray.size_append]
      have h1 : (⟨#[10]⟩ : ByteArray).size = 1 := rfl
      omega
    · rw [ByteArray.size_append, ByteArray.size_append]
      show o.size + (l.size + 1) ≤ _
      omega
  exact ⟨h.rt.outs (by omega), by have := h.v; omega, by have := h.c; omega, by omega⟩


end Go.Proofs.Ytohhhhkhkgmanaa
