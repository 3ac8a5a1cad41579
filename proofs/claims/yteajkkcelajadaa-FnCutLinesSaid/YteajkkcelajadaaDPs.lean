/- One of the texts of a list that is laid for the draw: some text of that list; and a drawn value. -/
import Derived.Test.YteajkkcelajadaaDB
import Derived.Test.YteajkkcelajadaaKS
namespace Go.Proofs.Yteajkkcelajadaa
open Go.RowKit

set_option maxHeartbeats 1000000 in
set_option maxRecDepth 100000 in
/-- One of the texts of a list. -/
theorem pickS_any (B g n cap : Nat) (ad : Option Addr) (q m : Nat) (ts : List (List UInt8)) (w : World) (hd : Drw B w g ad n cap) (hq : q ≠ g) (hm : 0 < m) (hm2 : m ≤ 4294967296) (hl : ts.length = m)
    (hz : ∀ j, j < m → w.cell? ⟨q, j, none⟩ = some (sv (ts.getD j []))) :
    Calls Try.prog 27 #[.pointer (some ⟨g, 0, none⟩), .slice (some ⟨q, 0, none⟩) m m] w fun e w' => ∃ t : List UInt8, t ∈ ts ∧ e = .returned (.string ⟨t.toArray⟩) ∧ Drw B w' g ad n cap ∧ w.grownBy w' (some g) := by
  have HD : Hid (Drw B w g ad n cap) := hd
  have HZ : Hid (∀ j, j < m → w.cell? ⟨q, j, none⟩ = some (sv (ts.getD j []))) := hz
  clear hd hz
  go_enter Try.func27, Try.ntmps27
  go_wp2_with fail
  refine (below_any B g n cap ad m w HD.out hm hm2).mono ?_
  rintro e w1 ⟨x, hx, rfl, d1, g1⟩
  have D1 : Hid (Drw B w1 g ad n cap) := d1
  have G1 : Hid (w.grownBy w1 (some g)) := g1
  have hc1 : w1.cell? ⟨q, x, none⟩ = some (.string ⟨(ts.getD x []).toArray⟩) := g1.cell (HZ.out x hx) (by intro e; apply hq; simpa using e)
  clear d1 g1
  have hx2 : (x : Int) < (m : Int) := by omega
  have HMEM : Hid (ts.getD x [] ∈ ts) := by
    show _ ∈ _
    rw [List.getD_eq_getElem?_getD, List.getElem?_eq_getElem (by omega)]
    exact List.getElem_mem _
  generalize ts.getD x [] = t at *
  go_wp2
  go_ret
  exact ⟨t, HMEM.out, rfl, D1.out, G1.out⟩
/-- The same, of a list that was just laid. -/
theorem pickL_any (B g n cap : Nat) (ad : Option Addr) (ts : List (List UInt8)) (w : World) (hd : Drw B w g ad n cap) (hB : B ≤ w.heap.size) (hm : 0 < ts.length) (hm2 : ts.length ≤ 4294967296) :
    Calls Try.prog 27 #[.pointer (some ⟨g, 0, none⟩), .slice (some ⟨w.heap.size, 0, none⟩) ts.length ts.length] (w.alloc (.cells (ts.map sv).toArray 9))
      fun e w' => ∃ t : List UInt8, t ∈ ts ∧ e = .returned (.string ⟨t.toArray⟩) ∧ Drw B w' g ad n cap ∧ w.grownBy w' (some g) := by
  have hl := hd.low
  have hb : Below B w (w.alloc (.cells (ts.map sv).toArray 9)) := (Below.refl _ _).alloc hB _
  have hc : ∀ j, j < ts.length → (w.alloc (.cells (ts.map sv).toArray 9)).cell? ⟨w.heap.size, j, none⟩ = some (sv (ts.getD j [])) := by
    intro j hj
    rw [cell_of_row _ w.heap.size j _ 9 (0, 0) (heap_alloc_new w _)]
    simp [hj]
  refine (pickS_any B g n cap ad w.heap.size ts.length ts _ (hd.keep hb) (by omega) hm hm2 rfl hc).mono ?_
  rintro e w' ⟨t, h1, h2, h3, h4⟩
  exact ⟨t, h1, h2, h3, grown_trans (World.grownBy_alloc w _ _) h4⟩
end Go.Proofs.Yteajkkcelajadaa
