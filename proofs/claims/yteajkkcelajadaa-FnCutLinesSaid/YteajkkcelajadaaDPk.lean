/- One of the numbers of a list that is laid for the draw: some number of that list. -/
import Derived.Test.YteajkkcelajadaaDPs
import Derived.Test.YteajkkcelajadaaBig
namespace Go.Proofs.Yteajkkcelajadaa
open Go.RowKit

set_option maxHeartbeats 1000000 in
set_option maxRecDepth 100000 in
/-- One of the numbers of a list. -/
theorem pick_any (B g n cap : Nat) (ad : Option Addr) (q m : Nat) (zs : List Int) (w : World) (hd : Drw B w g ad n cap) (hq : q ≠ g) (hm : 0 < m) (hm2 : m ≤ 4294967296) (hl : zs.length = m)
    (hz : ∀ j, j < m → w.cell? ⟨q, j, none⟩ = some (.int .i64 (zs.getD j 0))) :
    Calls Try.prog 18 #[.pointer (some ⟨g, 0, none⟩), .slice (some ⟨q, 0, none⟩) m m] w fun e w' => ∃ z : Int, z ∈ zs ∧ e = .returned (.int .i64 z) ∧ Drw B w' g ad n cap ∧ w.grownBy w' (some g) := by
  have HD : Hid (Drw B w g ad n cap) := hd
  have HZ : Hid (∀ j, j < m → w.cell? ⟨q, j, none⟩ = some (.int .i64 (zs.getD j 0))) := hz
  clear hd hz
  go_enter Try.func18, Try.ntmps18
  go_wp2_with fail
  refine (below_any B g n cap ad m w HD.out hm hm2).mono ?_
  rintro e w1 ⟨x, hx, rfl, d1, g1⟩
  have D1 : Hid (Drw B w1 g ad n cap) := d1
  have G1 : Hid (w.grownBy w1 (some g)) := g1
  have hc1 : w1.cell? ⟨q, x, none⟩ = some (.int .i64 (zs.getD x 0)) := g1.cell (HZ.out x hx) (by intro e; apply hq; simpa using e)
  clear d1 g1
  have hx2 : (x : Int) < (m : Int) := by omega
  have HMEM : Hid (zs.getD x 0 ∈ zs) := by
    show _ ∈ _
    rw [List.getD_eq_getElem?_getD, List.getElem?_eq_getElem (by omega)]
    exact List.getElem_mem _
  generalize zs.getD x 0 = z at *
  go_wp2
  go_ret
  exact ⟨z, HMEM.out, rfl, D1.out, G1.out⟩

/-- The same, of a list that was just laid. -/
theorem pickI_any (B g n cap : Nat) (ad : Option Addr) (zs : List Int) (w : World) (hd : Drw B w g ad n cap) (hB : B ≤ w.heap.size) (hm : 0 < zs.length) (hm2 : zs.length ≤ 4294967296) :
    Calls Try.prog 18 #[.pointer (some ⟨g, 0, none⟩), .slice (some ⟨w.heap.size, 0, none⟩) zs.length zs.length] (w.alloc (.cells (zs.map (Value.int .i64)).toArray 3))
      fun e w' => ∃ z : Int, z ∈ zs ∧ e = .returned (.int .i64 z) ∧ Drw B w' g ad n cap ∧ w.grownBy w' (some g) := by
  have hl := hd.low
  have hb : Below B w (w.alloc (.cells (zs.map (Value.int .i64)).toArray 3)) := (Below.refl _ _).alloc hB _
  have hc : ∀ j, j < zs.length → (w.alloc (.cells (zs.map (Value.int .i64)).toArray 3)).cell? ⟨w.heap.size, j, none⟩ = some (.int .i64 (zs.getD j 0)) := by
    intro j hj
    rw [cell_of_row _ w.heap.size j _ 3 (0, 0) (heap_alloc_new w _)]
    simp [hj]
  refine (pick_any B g n cap ad w.heap.size zs.length zs _ (hd.keep hb) (by omega) hm hm2 rfl hc).mono ?_
  rintro e w' ⟨z, h1, h2, h3, h4⟩
  exact ⟨z, h1, h2, h3, grown_trans (World.grownBy_alloc w _ _) h4⟩
end Go.Proofs.Yteajkkcelajadaa
