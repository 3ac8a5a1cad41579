/- A drawn value: some text of at most 42 bytes. Regions that draw their order and store at their end into a cell which they read: the condition on the world need not hold behind that last store, since it waits for all others. A drawn store: some right store of few things. -/
import Derived.Test.YtmofljfffcnlbaaMPSxZak
import Derived.Test.YtmofljfffcnlbaaProg
import Derived.Deep.RegionHeld3
import Derived.Test.YtmofljfffcnlbaaMPSxZai
import Derived.Test.YtmofljfffcnlbaaMPSxSsA
import Derived.Test.YtmofljfffcnlbaaMPSxSsB
namespace Go.Proofs.Ytmofljfffcnlbaa
section PartDVal
open Go.RowKit

def vals03 : List (List UInt8) := [[], [97], [98], [48], [49], [55], [48, 55], [52, 50], [57, 57, 57, 57, 57, 57], [32, 53], [53, 120], [104, 101, 108, 108, 111], [97, 98, 99, 97, 98, 99], [49, 48, 48, 48, 48, 48, 48], [97, 97, 98], [48, 49, 50, 51, 52, 53, 54, 55, 56, 57, 48, 49, 50, 51, 52, 53, 54, 55, 56, 57, 48, 49, 50, 51, 52, 53, 54, 55, 56, 57, 48, 49, 50, 51, 52, 53, 54, 55, 56, 57, 120, 120]]
theorem vals03_len : ∀ t ∈ vals03, t.length ≤ 42 := by decide

set_option maxHeartbeats 1000000 in
set_option maxRecDepth 100000 in
theorem l03Val_any (B g n cap : Nat) (ad : Option Addr) (w : World) (hd : Drw B w g ad n cap) (hB : B ≤ w.heap.size) :
    Calls Try.prog 51 #[.pointer (some ⟨g, 0, none⟩)] w fun e w' => ∃ t : List UInt8, t.length ≤ 42 ∧ e = .returned (.string ⟨t.toArray⟩) ∧ Drw B w' g ad n cap ∧ w.grownBy w' (some g) := by
  have C : Hid (Calls Try.prog 32 #[.pointer (some ⟨g, 0, none⟩), .slice (some ⟨w.heap.size, 0, none⟩) 16 16] (w.alloc (.cells (vals03.map sv).toArray 9))
      fun e w' => ∃ t : List UInt8, t ∈ vals03 ∧ e = .returned (.string ⟨t.toArray⟩) ∧ Drw B w' g ad n cap ∧ w.grownBy w' (some g)) := pickL_any B g n cap ad vals03 w hd hB (by decide) (by decide)
  clear hd
  go_enter Try.func51, Try.ntmps51
  go_wp2_with fail
  refine C.out.mono ?_
  rintro e w1 ⟨t, ht, rfl, d1, g1⟩
  have HT : Hid (t.length ≤ 42) := vals03_len t ht
  have D1 : Hid (Drw B w1 g ad n cap) := d1
  have G1 : Hid (w.grownBy w1 (some g)) := g1
  clear ht d1 g1
  go_wp2
  go_ret
  exact ⟨t, HT.out, rfl, D1.out, G1.out⟩
end PartDVal
section PartOrM
section
variable {P : Program} {ops : Array Oper} {Q : Exit → Act → World → Prop} {md : Region.Mode} {S : World → Prop} {z : Nat}

/-- Whatever order is picked from here on; S holds behind each operation that is carried out, but for number z. -/
def AnyBut (P : Program) (md : Region.Mode) (ops : Array Oper) (Q : Exit → Act → World → Prop) (S : World → Prop) (z : Nat) : Nat → Array Bool → Act → World → Prop
  | 0, listed, a, w => Region.ready md ops listed = [] ∧ Q .normal a w
  | n + 1, listed, a, w =>
    (Region.ready md ops listed = [] → Q .normal a w) ∧
    ∀ i ∈ Region.ready md ops listed, wpOp P ops Q i (fun a' w' => (i ≠ z → S w') ∧ AnyBut P md ops Q S z n (listed.setIfInBounds i true) a' w') a w
theorem AnyBut.any : ∀ (n : Nat) (listed : Array Bool) (a : Act) (w : World), AnyBut P md ops Q S z n listed a w → wpAny P md ops Q n listed a w
  | 0, _, _, _, h => h
  | n + 1, _, _, _, h => ⟨h.1, fun i hi => wpOp_mono (fun a' w' h' => AnyBut.any n _ a' w' h'.2) (h.2 i hi)⟩

/-- Number z waits for each other one. -/
def lastB (md : Region.Mode) (ops : Array Oper) (z : Nat) : Bool :=
  (List.range ops.size).all fun i => i == z || ((ops[z]?).map fun o => o.after.any fun e => Region.binds md e && e.on == i).getD false
theorem last_alone (h : lastB md ops z = true) {listed : Array Bool} {i : Nat} (hz : z ∈ Region.ready md ops listed) (hi : i ∈ Region.ready md ops listed) : i = z := by
  obtain ⟨h0, o, ho, -⟩ := mem_ready.1 hi
  obtain ⟨-, oz, hoz, hall⟩ := mem_ready.1 hz
  have hlt : i < ops.size := (Array.getElem?_eq_some_iff.1 ho).1
  have := List.all_eq_true.1 h i (List.mem_range.2 hlt)
  rw [hoz] at this
  simp only [Option.map_some, Option.getD_some, Bool.or_eq_true, beq_iff_eq] at this
  rcases this with e | e
  · exact e
  · obtain ⟨x, hx, hb⟩ := Array.any_eq_true'.1 e
    simp only [Bool.and_eq_true, beq_iff_eq] at hb
    have h1 := hall x hx hb.1
    rw [hb.2] at h1
    rcases Nat.lt_or_ge i listed.size with h' | h'
    · simp [h'] at h0 h1
      rw [h0] at h1
      cases h1
    · simp [Array.getElem?_eq_none h'] at h1
theorem AnyBut.first {i : Nat} {oi : Oper} {v : Value} (hlast : lastB md ops z = true) (hiz : i ≠ z) (hi : ops[i]? = some oi) (hsel : ∀ (j : Nat) (o : Oper) cs b, ops[j]? = some o → o.op ≠ .select cs b)
    (hQ : ∀ c a w, Q (.panic c) (a.put oi.dst v) w → Q (.panic c) a w) :
    ∀ (n : Nat) (listed : Array Bool) (a : Act) (w : World),
      (∀ j oj, ops[j]? = some oj → j ≠ i → listed.getD j true = false → (∀ e ∈ oj.after, Region.binds md e = true → e.on ≠ i) → oi.apart ops oj = true) →
      i ∈ Region.ready md ops listed → YieldsIf P ops S oi v a → S w →
      AnyBut P md ops Q S z n (listed.setIfInBounds i true) (a.put oi.dst v) w → AnyBut P md ops Q S z (n + 1) listed a w := by
  intro n
  induction n with
  | zero =>
    intro listed a w _ hr hy hS H
    refine ⟨fun h => (by rw [h] at hr; cases hr), fun j hj => ?_⟩
    by_cases hji : j = i
    · subst hji
      exact hy.wpOp hi hS ⟨fun _ => hS, H⟩
    · have := ready_mono hj hji
      rw [H.1] at this
      cases this
  | succ n ih =>
    intro listed a w hfree hr hy hS H
    refine ⟨fun h => (by rw [h] at hr; cases hr), fun j hj => ?_⟩
    by_cases hji : j = i
    · subst hji
      exact hy.wpOp hi hS ⟨fun _ => hS, H⟩
    · have hjz : j ≠ z := fun e => hiz (by subst e; exact last_alone hlast hj hr)
      have h1 := H.2 j (ready_mono hj hji)
      obtain ⟨hjun, oj, hoj, hall⟩ := mem_ready.1 hj
      have hnot : ∀ e ∈ oj.after, Region.binds md e = true → e.on ≠ i := fun e he hb heq => by
        have h1 := hall e he hb
        have h0 := (mem_ready.1 hr).1
        rw [heq] at h1
        rcases Nat.lt_or_ge i listed.size with h' | h'
        · simp [h'] at h0 h1; rw [h0] at h1; cases h1
        · simp [Array.getElem?_eq_none h'] at h1
      have h2 := wpOp_putIf hoj (hfree j oj hoj hji hjun hnot) (fun cs b => hsel i oi cs b hi) (fun cs b => hsel j oj cs b hoj) hQ hy h1
      have hfree' : ∀ k ok, ops[k]? = some ok → k ≠ i → (listed.setIfInBounds j true).getD k true = false →
          (∀ e ∈ ok.after, Region.binds md e = true → e.on ≠ i) → oi.apart ops ok = true := fun k ok hk hki hun hno => by
        refine hfree k ok hk hki ?_ hno
        by_cases hjk : j = k
        · subst hjk; exact hjun
        · rw [getD_set_ne true hjk] at hun; exact hun
      refine wpOp_mono (fun a' w' h3 => ⟨h3.2.1, ih (listed.setIfInBounds j true) a' w' hfree' (ready_mono hr (Ne.symm hji)) h3.1 (h3.2.1 hjz) ?_⟩) h2
      rw [Array.setIfInBounds_comm _ _ hji]
      exact h3.2.2
/-- Take number i first. -/
theorem AnyBut.take {i : Nat} {oi : Oper} {v : Value} {n : Nat} {listed : Array Bool} {a : Act} {w : World} (hlast : lastB md ops z = true) (hi : ops[i]? = some oi) (hiz : i ≠ z)
    (hs : Region.noSelect ops = true) (hf : Region.free md ops listed i = true) (hr : (Region.ready md ops listed).contains i = true)
    (hQ : ∀ c a w, Q (.panic c) (a.put oi.dst v) w → Q (.panic c) a w) (hy : YieldsIf P ops S oi v a) (hS : S w)
    (h : AnyBut P md ops Q S z n (listed.setIfInBounds i true) (a.put oi.dst v) w) : AnyBut P md ops Q S z (n + 1) listed a w :=
  AnyBut.first hlast hiz hi (Region.noSelect_spec hs) hQ n listed a w (Region.free_spec hi hf) (by simpa using hr) hy hS h
/-- Number i alone may come up. -/
theorem AnyBut.one {i : Nat} {o : Oper} {n : Nat} {listed : Array Bool} {a : Act} {w : World} (ho : ops[i]? = some o) (hr : Region.ready md ops listed = [i])
    (h : ∀ K' : Act → World → Prop, Shut (∀ a w, (i ≠ z → S w) → AnyBut P md ops Q S z n (listed.setIfInBounds i true) a w → K' a w) → if Region.wanted o (yielded ops a.tmps) = true then Oper.wp P o a w K' Q else K' (a.put o.dst undef) w) :
    AnyBut P md ops Q S z (n + 1) listed a w := by
  refine ⟨fun h0 => ?_, fun j hj => ?_⟩
  · rw [hr] at h0
    cases h0
  · rw [hr, List.mem_singleton] at hj
    subst hj
    exact wpOp_step ho (fun K' hK => h K' (fun a w hS hW => hK a w ⟨hS, hW⟩))
/-- All have come up. -/
theorem AnyBut.done {listed : Array Bool} {a : Act} {w : World} (hr : Region.ready md ops listed = []) (h : Q .normal a w) : ∀ n, AnyBut P md ops Q S z n listed a w
  | 0 => ⟨hr, h⟩
  | _ + 1 => ⟨fun _ => h, by rw [hr]; simp⟩
/-- The beginning. -/
theorem AnyBut.region {id : Nat} {a : Act} {w : World} (hm : P.follows .mixedOrders = true)
    (h : AnyBut P .any ops (NoPanic Q) S z ops.size (Array.replicate ops.size false) a w.drew) : (Code.region id ops true).wp P Q a w :=
  wp_region_noPanic (wp_region_any hm (AnyBut.any _ _ _ _ h))
end
end PartOrM
section PartDSa
open Go.RowKit

def names08 : List (List UInt8) := [[110], [115], [116], [117], [112, 114, 101]]
theorem names08_nm : ∀ t ∈ names08, Cd.nm t = true := by decide
def tabs08 : List (List UInt8) := [[116], [117]]
theorem tabs08_nm : ∀ t ∈ tabs08, Cd.nm t = true := by decide
theorem lst8 (l : List UInt8) : (⟨l.toArray⟩ : ByteArray).size = l.length := by
  show l.toArray.size = _
  simp

set_option maxHeartbeats 1000000 in
set_option maxRecDepth 100000 in
theorem l08Name_any (B g n cap : Nat) (ad : Option Addr) (w : World) (hd : Drw B w g ad n cap) (hB : B ≤ w.heap.size) :
    Calls Try.prog 50 #[.pointer (some ⟨g, 0, none⟩)] w fun e w' => ∃ t : List UInt8, t ∈ names08 ∧ e = .returned (.string ⟨t.toArray⟩) ∧ Drw B w' g ad n cap ∧ w.grownBy w' (some g) := by
  have C : Hid (Calls Try.prog 32 #[.pointer (some ⟨g, 0, none⟩), .slice (some ⟨w.heap.size, 0, none⟩) 5 5] (w.alloc (.cells (names08.map sv).toArray 9))
      fun e w' => ∃ t : List UInt8, t ∈ names08 ∧ e = .returned (.string ⟨t.toArray⟩) ∧ Drw B w' g ad n cap ∧ w.grownBy w' (some g)) := pickL_any B g n cap ad names08 w hd hB (by decide) (by decide)
  clear hd
  go_enter Try.func50, Try.ntmps50
  go_wp2_with fail
  refine C.out.mono ?_
  rintro e w1 ⟨t, ht, rfl, d1, g1⟩
  have HT : Hid (t ∈ names08) := ht
  have D1 : Hid (Drw B w1 g ad n cap) := d1
  have G1 : Hid (w.grownBy w1 (some g)) := g1
  clear ht d1 g1
  go_wp2
  go_ret
  exact ⟨t, HT.out, rfl, D1.out, G1.out⟩

/-- What stands while a store is drawn: its box, its rows, the cursor. -/
structure LS (w : World) (B g n cap : Nat) (ad : Option Addr) (wr : World) (u x : Value) (vs : List Vr) (cs : List Cl) (o : ByteArray) (k : Nat) : Prop where
  low : B ≤ w.heap.size
  res : wr.heap[w.heap.size]? = some (.cells #[.slice none 0 0, .slice none 0 0, .string ByteArray.empty] 27 (0, 0))
  blk : wr.heap[w.heap.size + 1]? = some (.cells #[u, x, .string o] 27 (0, 0))
  vi : VrIn (w.heap.size + 2) wr.heap.size wr u vs
  ci : ClIn (w.heap.size + 2) wr.heap.size wr x cs
  dw : Dw k vs cs o
  dr : Drw B wr g ad n cap
  gr : w.grownBy wr (some g)
section
variable {w wr : World} {B g n cap : Nat} {ad : Option Addr} {u x : Value} {vs : List Vr} {cs : List Cl} {o : ByteArray} {k : Nat}
theorem LS.sz (h : LS w B g n cap ad wr u x vs cs o k) : w.heap.size + 2 ≤ wr.heap.size := blk_lt h.blk
theorem LS.le (h : LS w B g n cap ad wr u x vs cs o k) : B ≤ wr.heap.size := by have := h.sz; have := h.low; omega
theorem LS.cells (h : LS w B g n cap ad wr u x vs cs o k) : wr.cell? ⟨w.heap.size + 1, 0, none⟩ = some u ∧ wr.cell? ⟨w.heap.size + 1, 1, none⟩ = some x ∧ wr.cell? ⟨w.heap.size + 1, 2, none⟩ = some (.string o) :=
  ⟨(blk_cell h.blk 0).trans rfl, (blk_cell h.blk 1).trans rfl, (blk_cell h.blk 2).trans rfl⟩
theorem LS.draw (h : LS w B g n cap ad wr u x vs cs o k) {w1 : World} (hd : Drw B w1 g ad n cap) (hg : wr.grownBy w1 (some g)) : LS w B g n cap ad w1 u x vs cs o k := by
  have hs := h.sz
  have hl := h.low
  have hgB := h.dr.low
  have e : ∀ b, w.heap.size ≤ b → b < wr.heap.size → w1.heap[b]? = wr.heap[b]? := fun b h1 h2 => hg.block b h2 (fun e => by have hbg : b = g := Option.some.inj e; omega)
  have hz := hg.size
  exact ⟨hl, (e _ (Nat.le_refl _) (by omega)).trans h.res, (e _ (by omega) (by omega)).trans h.blk, (h.vi.keep (fun b h1 h2 => e b (by omega) h2)).wide (Nat.le_refl _) hz, (h.ci.keep (fun b h1 h2 => e b (by omega) h2)).wide (Nat.le_refl _) hz, h.dw, hd, grown_trans h.gr hg⟩
theorem LS.drew (h : LS w B g n cap ad wr u x vs cs o k) : LS w B g n cap ad wr.drew u x vs cs o k := h.draw (h.dr.keep (Below.refl _ _).drew) ⟨rfl, rfl, rfl, Nat.le_refl _, fun _ _ _ => rfl⟩
theorem LS.alloc (h : LS w B g n cap ad wr u x vs cs o k) (ob : Obj) : LS w B g n cap ad (wr.alloc ob) u x vs cs o k := h.draw (h.dr.keep ((Below.refl _ _).alloc h.le _)) (World.grownBy_alloc wr ob _)
theorem LS.over (h : LS w B g n cap ad wr u x vs cs o k) {w2 : World} (hb : Below wr.heap.size wr w2) : w2.cell? ⟨w.heap.size + 1, 0, none⟩ = some u ∧ w2.cell? ⟨w.heap.size + 1, 1, none⟩ = some x ∧ w2.cell? ⟨w.heap.size + 1, 2, none⟩ = some (.string o) ∧ w2.frozen? ⟨w.heap.size + 1, 0, none⟩ = false ∧ w2.frozen? ⟨w.heap.size + 1, 1, none⟩ = false ∧ w2.frozen? ⟨w.heap.size + 1, 2, none⟩ = false := by
  have hk := (hb.block _ (blk_lt h.blk)).trans h.blk
  exact ⟨(blk_cell hk 0).trans rfl, (blk_cell hk 1).trans rfl, (blk_cell hk 2).trans rfl, blk_free hk 0, blk_free hk 1, blk_free hk 2⟩
theorem LS.next (h : LS w B g n cap ad wr u x vs cs o k) {w2 : World} {u2 x2 : Value} {vs2 : List Vr} {cs2 : List Cl} {o2 : ByteArray} (hu : VrIn wr.heap.size w2.heap.size w2 u2 vs2) (hx : ClIn wr.heap.size w2.heap.size w2 x2 cs2) (hb : Below wr.heap.size wr w2) (hd : Dw (k + 1) vs2 cs2 o2) :
    LS w B g n cap ad (((w2.setCell ⟨w.heap.size + 1, 0, none⟩ u2).setCell ⟨w.heap.size + 1, 1, none⟩ x2).setCell ⟨w.heap.size + 1, 2, none⟩ (.string o2)) u2 x2 vs2 cs2 o2 (k + 1) := by
  have hs := h.sz
  have hl := h.low
  have hgB := h.dr.low
  have hbz := hb.size
  have e : ∀ b, b ≠ w.heap.size + 1 → (((w2.setCell ⟨w.heap.size + 1, 0, none⟩ u2).setCell ⟨w.heap.size + 1, 1, none⟩ x2).setCell ⟨w.heap.size + 1, 2, none⟩ (.string o2)).heap[b]? = w2.heap[b]? := fun b hb => by
    rw [Below.heap_setCell _ _ _ _ (by show b ≠ w.heap.size + 1; exact hb), Below.heap_setCell _ _ _ _ (by show b ≠ w.heap.size + 1; exact hb), Below.heap_setCell _ _ _ _ (by show b ≠ w.heap.size + 1; exact hb)]
  have hB2 : Below w.heap.size w2 (((w2.setCell ⟨w.heap.size + 1, 0, none⟩ u2).setCell ⟨w.heap.size + 1, 1, none⟩ x2).setCell ⟨w.heap.size + 1, 2, none⟩ (.string o2)) := ((((Below.refl _ _).setCell (by show w.heap.size ≤ w.heap.size + 1; omega) _).setCell (by show w.heap.size ≤ w.heap.size + 1; omega) _).setCell (by show w.heap.size ≤ w.heap.size + 1; omega) _)
  have hBW : Below w.heap.size wr _ := (hb.mono (by omega)).trans hB2
  have hsz : (((w2.setCell ⟨w.heap.size + 1, 0, none⟩ u2).setCell ⟨w.heap.size + 1, 1, none⟩ x2).setCell ⟨w.heap.size + 1, 2, none⟩ (.string o2)).heap.size = w2.heap.size := by simp [World.setCell]
  refine ⟨hl, (e _ (by omega)).trans ((hb.block _ (by omega)).trans h.res), ?_, ?_, ?_, hd, h.dr.keep (hBW.mono hl), ?_⟩
  · have := blk_set (blk_set (blk_set ((hb.block _ (by omega)).trans h.blk) 0 u2) 1 x2) 2 (.string o2)
    exact this
  · exact (hu.keep (fun b h1 _ => e b (by omega))).wide (by omega) (by rw [hsz]; exact Nat.le_refl _)
  · exact (hx.keep (fun b h1 _ => e b (by omega))).wide (by omega) (by rw [hsz]; exact Nat.le_refl _)
  · exact ⟨hBW.os.trans h.gr.os, hBW.tape.trans h.gr.tape, hBW.output.trans h.gr.output, Nat.le_trans h.gr.size hBW.size, fun b hb hne => (hBW.block b hb).trans (h.gr.block b hb hne)⟩
end
theorem Dw.say {k : Nat} {vs : List Vr} {cs : List Cl} {o l : ByteArray} (h : Dw k vs cs o) (hk : k ≤ 68) (hl : l.size ≤ 42) : Dw (k + 1) vs cs (St.said o l) := by
  have ho := h.o
  have hs : (St.said o l).size ≤ o.size + 43 := by
    unfold St.said St.cut3
    split
    · rename_i hc
      rw [ByteArray.size_append, ByteArray.size_append] at hc
      rw [ByteArray.size_extract, ByteArray.size_append, ByteArray.size_append]
      have h1 : (⟨#[10]⟩ : ByteArray).size = 1 := rfl
      omega
    · rw [ByteArray.size_append, ByteArray.size_append]
      show o.size + (l.size + 1) ≤ _
      omega
  exact ⟨h.rt.outs (by omega), by have := h.v; omega, by have := h.c; omega, by omega⟩


end PartDSa
end Go.Proofs.Ytmofljfffcnlbaa
