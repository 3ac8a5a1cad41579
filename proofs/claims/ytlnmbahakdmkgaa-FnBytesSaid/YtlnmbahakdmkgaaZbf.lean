/- One of the texts of a list that is laid for the draw: some text of that list; and a drawn value. The law's own test of a draw's length, and texts put together. -/
import Derived.Test.YtlnmbahakdmkgaaZbe
namespace Go.Proofs.Ytlnmbahakdmkgaa
section PartDPs
open Go.RowKit

set_option maxHeartbeats 1000000 in
set_option maxRecDepth 100000 in
/-- One of the texts of a list. -/
theorem pickS_any (B g n cap : Nat) (ad : Option Addr) (q m : Nat) (ts : List (List UInt8)) (w : World) (hd : Drw B w g ad n cap) (hq : q ≠ g) (hm : 0 < m) (hm2 : m ≤ 4294967296) (hl : ts.length = m)
    (hz : ∀ j, j < m → w.cell? ⟨q, j, none⟩ = some (sv (ts.getD j []))) :
    Calls Try.prog 52 #[.pointer (some ⟨g, 0, none⟩), .slice (some ⟨q, 0, none⟩) m m] w fun e w' => ∃ t : List UInt8, t ∈ ts ∧ e = .returned (.string ⟨t.toArray⟩) ∧ Drw B w' g ad n cap ∧ w.grownBy w' (some g) := by
  have HD : Hid (Drw B w g ad n cap) := hd
  have HZ : Hid (∀ j, j < m → w.cell? ⟨q, j, none⟩ = some (sv (ts.getD j []))) := hz
  clear hd hz
  go_enter Try.func52, Try.ntmps52
  go_wp2_with fail
  refine (below_any B g n cap ad m w HD.out hm hm2).mono ?_
  rintro e w1 ⟨x, hx, rfl, d1, g1⟩
  have D1 : Hid (Drw B w1 g ad n cap) := d1
  have G1 : Hid (w.grownBy w1 (some g)) := g1
  have hc1 : w1.cell? ⟨q, x, none⟩ = some (.string ⟨(ts.getD x []).toArray⟩) := g1.cell (HZ.out x hx) (by intro e; apply hq; simpa using e)
  clear d1 g1
  have hx2 : (x : Int) < (m : Int) := by omega
  have HMEM : Hid (ts.getD x [] ∈ ts) := by
    show _ ∈ _
    rw [List.getD_eq_getElem?_getD, List.getElem?_eq_getElem (by omega)]
    exact List.getElem_mem _
  generalize ts.getD x [] = t at *
  go_wp2
  go_ret
  exact ⟨t, HMEM.out, rfl, D1.out, G1.out⟩
/-- The same, of a list that was just laid. -/
theorem pickL_any (B g n cap : Nat) (ad : Option Addr) (ts : List (List UInt8)) (w : World) (hd : Drw B w g ad n cap) (hB : B ≤ w.heap.size) (hm : 0 < ts.length) (hm2 : ts.length ≤ 4294967296) :
    Calls Try.prog 52 #[.pointer (some ⟨g, 0, none⟩), .slice (some ⟨w.heap.size, 0, none⟩) ts.length ts.length] (w.alloc (.cells (ts.map sv).toArray 9))
      fun e w' => ∃ t : List UInt8, t ∈ ts ∧ e = .returned (.string ⟨t.toArray⟩) ∧ Drw B w' g ad n cap ∧ w.grownBy w' (some g) := by
  have hl := hd.low
  have hb : Below B w (w.alloc (.cells (ts.map sv).toArray 9)) := (Below.refl _ _).alloc hB _
  have hc : ∀ j, j < ts.length → (w.alloc (.cells (ts.map sv).toArray 9)).cell? ⟨w.heap.size, j, none⟩ = some (sv (ts.getD j [])) := by
    intro j hj
    rw [cell_of_row _ w.heap.size j _ 9 (0, 0) (heap_alloc_new w _)]
    simp [hj]
  refine (pickS_any B g n cap ad w.heap.size ts.length ts _ (hd.keep hb) (by omega) hm hm2 rfl hc).mono ?_
  rintro e w' ⟨t, h1, h2, h3, h4⟩
  exact ⟨t, h1, h2, h3, grown_trans (World.grownBy_alloc w _ _) h4⟩
end PartDPs
section PartBig
open Go.RowKit
set_option maxHeartbeats 400000 in
theorem big_any (ad : Option Addr) (n cap : Nat) (w : World) : Calls Try.prog 11 #[.slice ad n cap] w fun e w' => e = .returned (.bool (decide ((1048576 : Int) < (n : Int)))) ∧ w' = w := by
  go_enter Try.func11, Try.ntmps11
  go_wp2
  go_ret
  exact ⟨rfl, rfl⟩
theorem big_yes (ad : Option Addr) (n cap : Nat) (h : 1048576 < n) : ∀ w, Calls Try.prog 11 #[.slice ad n cap] w fun e w' => e = .returned (.bool true) ∧ w' = w := fun w => by
  have := big_any ad n cap w
  rwa [show decide ((1048576 : Int) < (n : Int)) = true by simp; omega] at this
theorem big_no (ad : Option Addr) (n cap : Nat) (h : ¬ 1048576 < n) : ∀ w, Calls Try.prog 11 #[.slice ad n cap] w fun e w' => e = .returned (.bool false) ∧ w' = w := fun w => by
  have := big_any ad n cap w
  rwa [show decide ((1048576 : Int) < (n : Int)) = false by simp; omega] at this
theorem app_data (a b : ByteArray) : (a ++ b).data.toList = a.data.toList ++ b.data.toList := by simp
theorem app_size (a b : ByteArray) : (a ++ b).size = a.size + b.size := by simp
theorem len_size (a : ByteArray) : a.data.toList.length = a.size := by simp
/-- What was laid before stays. -/
theorem keep2 {w w' : World} {g : Nat} {a b : Value} (hb : Below w.heap.size w w') (hg : g < w.heap.size) (h : w.cell? ⟨g, 0, none⟩ = some a ∧ w.cell? ⟨g, 1, none⟩ = some b) : w'.cell? ⟨g, 0, none⟩ = some a ∧ w'.cell? ⟨g, 1, none⟩ = some b :=
  ⟨(hb.cell (by exact hg)).trans h.1, (hb.cell (by exact hg)).trans h.2⟩
end PartBig
end Go.Proofs.Ytlnmbahakdmkgaa
