/- One of the texts of a list that is laid for the draw: some text of that list; and a drawn value. A drawn value: some text of at most 42 bytes. Regions that draw their order and store at their end into a cell which they read: the condition on the world need not hold behind that last store, since it waits for all others. -/
import Derived.Test.YtohhhhkhkgmanaaZan
import Derived.Test.YtohhhhkhkgmanaaProg
import Derived.Deep.RegionHeld3
namespace Go.Proofs.Ytohhhhkhkgmanaa
section PartDPs
open Go.RowKit

set_option maxHeartbeats 1000000 in
set_option maxRecDepth 100000 in
/-- One of the texts of a list. -/
theorem pickS_any (B g n cap : Nat) (ad : Option Addr) (q m : Nat) (ts : List (List UInt8)) (w : World) (hd : Drw B w g ad n cap) (hq : q ≠ g) (hm : 0 < m) (hm2 : m ≤ 4294967296) (hl : ts.length = m)
    (hz : ∀ j, j < m → w.cell? ⟨q, j, none⟩ = some (sv (ts.getD j []))) :
    Calls Try.prog 55 #[.pointer (some ⟨g, 0, none⟩), .slice (some ⟨q, 0, none⟩) m m] w fun e w' => ∃ t : List UInt8, t ∈ ts ∧ e = .returned (.string ⟨t.toArray⟩) ∧ Drw B w' g ad n cap ∧ w.grownBy w' (some g) := by
  have HD : Hid (Drw B w g ad n cap) := hd
  have HZ : Hid (∀ j, j < m → w.cell? ⟨q, j, none⟩ = some (sv (ts.getD j []))) := hz
  clear hd hz
  go_enter Try.func55, Try.ntmps55
  go_wp2_with fail
  refine (below_any B g n cap ad m w HD.out hm hm2).mono ?_
  rintro e w1 ⟨x, hx, rfl, d1, g1⟩
  have D1 : Hid (Drw B w1 g ad n cap) := d1
  have G1 : Hid (w.grownBy w1 (some g)) := g1
  have hc1 : w1.cell? ⟨q, x, none⟩ = some (.string ⟨(ts.getD x []).toArray⟩) := g1.cell (HZ.out x hx) (by intro e; apply hq; simpa using e)
  clear d1 g1
  have hx2 : (x : Int) < (m : Int) := by omega
  have HMEM : Hid (ts.getD x [] ∈ ts) := by
    show _ ∈ _
    rw [List.getD_eq_getElem?_getD, List.getElem?_eq_getElem (by omega)]
    exact List.getElem_mem _
  generalize ts.getD x [] = t at *
  go_wp2
  go_ret
  exact ⟨t, HMEM.out, rfl, D1.out, G1.out⟩
/-- The same, of a list that was just laid. -/
theorem pickL_any (B g n cap : Nat) (ad : Option Addr) (ts : List (List UInt8)) (w : World) (hd : Drw B w g ad n cap) (hB : B ≤ w.heap.size) (hm : 0 < ts.length) (hm2 : ts.length ≤ 4294967296) :
    Calls Try.prog 55 #[.pointer (some ⟨g, 0, none⟩), .slice (some ⟨w.heap.size, 0, none⟩) ts.length ts.length] (w.alloc (.cells (ts.map sv).toArray 9))
      fun e w' => ∃ t : List UInt8, t ∈ ts ∧ e = .returned (.string ⟨t.toArray⟩) ∧ Drw B w' g ad n cap ∧ w.grownBy w' (some g) := by
  have hl := hd.low
  have hb : Below B w (w.alloc (.cells (ts.map sv).toArray 9)) := (Below.refl _ _).alloc hB _
  have hc : ∀ j, j < ts.length → (w.alloc (.cells (ts.map sv).toArray 9)).cell? ⟨w.heap.size, j, none⟩ = some (sv (ts.getD j [])) := by
    intro j hj
    rw [cell_of_row _ w.heap.size j _ 9 (0, 0) (heap_alloc_new w _)]
    simp [hj]
  refine (pickS_any B g n cap ad w.heap.size ts.length ts _ (hd.keep hb) (by omega) hm hm2 rfl hc).mono ?_
  rintro e w' ⟨t, h1, h2, h3, h4⟩
  exact ⟨t, h1, h2, h3, grown_trans (World.grownBy_alloc w _ _) h4⟩
end PartDPs
section PartDVal
open Go.RowKit

def vals03 : List (List UInt8) := [[], [97], [98], [48], [49], [55], [48, 55], [52, 50], [57, 57, 57, 57, 57, 57], [32, 53], [53, 120], [104, 101, 108, 108, 111], [97, 98, 99, 97, 98, 99], [49, 48, 48, 48, 48, 48, 48], [97, 97, 98], [48, 49, 50, 51, 52, 53, 54, 55, 56, 57, 48, 49, 50, 51, 52, 53, 54, 55, 56, 57, 48, 49, 50, 51, 52, 53, 54, 55, 56, 57, 48, 49, 50, 51, 52, 53, 54, 55, 56, 57, 120, 120]]
theorem vals03_len : ∀ t ∈ vals03, t.length ≤ 42 := by decide

set_option maxHeartbeats 1000000 in
set_option maxRecDepth 100000 in
theorem l03Val_any (B g n cap : Nat) (ad : Option Addr) (w : World) (hd : Drw B w g ad n cap) (hB : B ≤ w.heap.size) :
    Calls Try.prog 54 #[.pointer (some ⟨g, 0, none⟩)] w fun e w' => ∃ t : List UInt8, t.length ≤ 42 ∧ e = .returned (.string ⟨t.toArray⟩) ∧ Drw B w' g ad n cap ∧ w.grownBy w' (some g) := by
  have C : Hid (Calls Try.prog 55 #[.pointer (some ⟨g, 0, none⟩), .slice (some ⟨w.heap.size, 0, none⟩) 16 16] (w.alloc (.cells (vals03.map sv).toArray 9))
      fun e w' => ∃ t : List UInt8, t ∈ vals03 ∧ e = .returned (.string ⟨t.toArray⟩) ∧ Drw B w' g ad n cap ∧ w.grownBy w' (some g)) := pickL_any B g n cap ad vals03 w hd hB (by decide) (by decide)
  clear hd
  go_enter Try.func54, Try.ntmps54
  go_wp2_with fail
  refine C.out.mono ?_
  rintro e w1 ⟨t, ht, rfl, d1, g1⟩
  have HT : Hid (t.length ≤ 42) := vals03_len t ht
  have D1 : Hid (Drw B w1 g ad n cap) := d1
  have G1 : Hid (w.grownBy w1 (some g)) := g1
  clear ht d1 g1
  go_wp2
  go_ret
  exact ⟨t, HT.out, rfl, D1.out, G1.out⟩
end PartDVal
section PartOrM
section
variable {P : Program} {ops : Array Oper} {Q : Exit → Act → World → Prop} {md : Region.Mode} {S : World → Prop} {z : Nat}

/-- Whatever order is picked from here on; S holds behind each operation that is carried out, but for number z. -/
def AnyBut (P : Program) (md : Region.Mode) (ops : Array Oper) (Q : Exit → Act → World → Prop) (S : World → Prop) (z : Nat) : Nat → Array Bool → Act → World → Prop
  | 0, listed, a, w => Region.ready md ops listed = [] ∧ Q .normal a w
  | n + 1, listed, a, w =>
    (Region.ready md ops listed = [] → Q .normal a w) ∧
    ∀ i ∈ Region.ready md ops listed, wpOp P ops Q i (fun a' w' => (i ≠ z → S w') ∧ AnyBut P md ops Q S z n (listed.setIfInBounds i true) a' w') a w
theorem AnyBut.any : ∀ (n : Nat) (listed : Array Bool) (a : Act) (w : World), AnyBut P md ops Q S z n listed a w → wpAny P md ops Q n listed a w
  | 0, _, _, _, h => h
  | n + 1, _, _, _, h => ⟨h.1, fun i hi => wpOp_mono (fun a' w' h' => AnyBut.any n _ a' w' h'.2) (h.2 i hi)⟩

/-- Number z waits for each other one. -/
def lastB (md : Region.Mode) (ops : Array Oper) (z : Nat) : Bool :=
  (List.range ops.size).all fun i => i == z || ((ops[z]?).map fun o => o.after.any fun e => Region.binds md e && e.on == i).getD false
theorem last_alone (h : lastB md ops z = true) {listed : Array Bool} {i : Nat} (hz : z ∈ Region.ready md ops listed) (hi : i ∈ Region.ready md ops listed) : i = z := by
  obtain ⟨h0, o, ho, -⟩ := mem_ready.1 hi
  obtain ⟨-, oz, hoz, hall⟩ := mem_ready.1 hz
  have hlt : i < ops.size := (Array.getElem?_eq_some_iff.1 ho).1
  have := List.all_eq_true.1 h i (List.mem_range.2 hlt)
  rw [hoz] at this
  simp only [Option.map_some, Option.getD_some, Bool.or_eq_true, beq_iff_eq] at this
  rcases this with e | e
  · exact e
  · obtain ⟨x, hx, hb⟩ := Array.any_eq_true'.1 e
    simp only [Bool.and_eq_true, beq_iff_eq] at hb
    have h1 := hall x hx hb.1
    rw [hb.2] at h1
    rcases Nat.lt_or_ge i listed.size with h' | h'
    · simp [h'] at h0 h1
      rw [h0] at h1
      cases h1
    · simp [Array.getElem?_eq_none h'] at h1
theorem AnyBut.first {i : Nat} {oi : Oper} {v : Value} (hlast : lastB md ops z = true) (hiz : i ≠ z) (hi : ops[i]? = some oi) (hsel : ∀ (j : Nat) (o : Oper) cs b, ops[j]? = some o → o.op ≠ .select cs b)
    (hQ : ∀ c a w, Q (.panic c) (a.put oi.dst v) w → Q (.panic c) a w) :
    ∀ (n : Nat) (listed : Array Bool) (a : Act) (w : World),
      (∀ j oj, ops[j]? = some oj → j ≠ i → listed.getD j true = false → (∀ e ∈ oj.after, Region.binds md e = true → e.on ≠ i) → oi.apart ops oj = true) →
      i ∈ Region.ready md ops listed → YieldsIf P ops S oi v a → S w →
      AnyBut P md ops Q S z n (listed.setIfInBounds i true) (a.put oi.dst v) w → AnyBut P md ops Q S z (n + 1) listed a w := by
  intro n
  induction n with
  | zero =>
    intro listed a w _ hr hy hS H
    refine ⟨fun h => (by rw [h] at hr; cases hr), fun j hj => ?_⟩
    by_cases hji : j = i
    · subst hji
      exact hy.wpOp hi hS ⟨fun _ => hS, H⟩
    · have := ready_mono hj hji
      rw [H.1] at this
      cases this
  | succ n ih =>
    intro listed a w hfree hr hy hS H
    refine ⟨fun h => (by rw [h] at hr; cases hr), fun j hj => ?_⟩
    by_cases hji : j = i
    · subst hji
      exact hy.wpOp hi hS ⟨fun _ => hS, H⟩
    · have hjz : j ≠ z := fun e => hiz (by subst e; exact last_alone hlast hj hr)
      have h1 := H.2 j (ready_mono hj hji)
      obtain ⟨hjun, oj, hoj, hall⟩ := mem_ready.1 hj
      have hnot : ∀ e ∈ oj.after, Region.binds md e = true → e.on ≠ i := fun e he hb heq => by
        have h1 := hall e he hb
        have h0 := (mem_ready.1 hr).1
        rw [heq] at h1
        rcases Nat.lt_or_ge i listed.size with h' | h'
        · simp [h'] at h0 h1; rw [h0] at h1; cases h1
        · simp [Array.getElem?_eq_none h'] at h1
      have h2 := wpOp_putIf hoj (hfree j oj hoj hji hjun hnot) (fun cs b => hsel i oi cs b hi) (fun cs b => hsel j oj cs b hoj) hQ hy h1
      have hfree' : ∀ k ok, ops[k]? = some ok → k ≠ i → (listed.setIfInBounds j true).getD k true = false →
          (∀ e ∈ ok.after, Region.binds md e = true → e.on ≠ i) → oi.apart ops ok = true := fun k ok hk hki hun hno => by
        refine hfree k ok hk hki ?_ hno
        by_cases hjk : j = k
        · subst hjk; exact hjun
        · rw [getD_set_ne true hjk] at hun; exact hun
      refine wpOp_mono (fun a' w' h3 => ⟨h3.2.1, ih (listed.setIfInBounds j true) a' w' hfree' (ready_mono hr (Ne.symm hji)) h3.1 (h3.2.1 hjz) ?_⟩) h2
      rw [Array.setIfInBounds_comm _ _ hji]
      exact h3.2.2
/-- Take number i first. -/
theorem AnyBut.take {i : Nat} {oi : Oper} {v : Value} {n : Nat} {listed : Array Bool} {a : Act} {w : World} (hlast : lastB md ops z = true) (hi : ops[i]? = some oi) (hiz : i ≠ z)
    (hs : Region.noSelect ops = true) (hf : Region.free md ops listed i = true) (hr : (Region.ready md ops listed).contains i = true)
    (hQ : ∀ c a w, Q (.panic c) (a.put oi.dst v) w → Q (.panic c) a w) (hy : YieldsIf P ops S oi v a) (hS : S w)
    (h : AnyBut P md ops Q S z n (listed.setIfInBounds i true) (a.put oi.dst v) w) : AnyBut P md ops Q S z (n + 1) listed a w :=
  AnyBut.first hlast hiz hi (Region.noSelect_spec hs) hQ n listed a w (Region.free_spec hi hf) (by simpa using hr) hy hS h
/-- Number i alone may come up. -/
theorem AnyBut.one {i : Nat} {o : Oper} {n : Nat} {listed : Array Bool} {a : Act} {w : World} (ho : ops[i]? = some o) (hr : Region.ready md ops listed = [i])
    (h : ∀ K' : Act → World → Prop, Shut (∀ a w, (i ≠ z → S w) → AnyBut P md ops Q S z n (listed.setIfInBounds i true) a w → K' a w) → if Region.wanted o (yielded ops a.tmps) = true then Oper.wp P o a w K' Q else K' (a.put o.dst undef) w) :
    AnyBut P md ops Q S z (n + 1) listed a w := by
  refine ⟨fun h0 => ?_, fun j hj => ?_⟩
  · rw [hr] at h0
    cases h0
  · rw [hr, List.mem_singleton] at hj
    subst hj
    exact wpOp_step ho (fun K' hK => h K' (fun a w hS hW => hK a w ⟨hS, hW⟩))
/-- All have come up. -/
theorem AnyBut.done {listed : Array Bool} {a : Act} {w : World} (hr : Region.ready md ops listed = []) (h : Q .normal a w) : ∀ n, AnyBut P md ops Q S z n listed a w
  | 0 => ⟨hr, h⟩
  | _ + 1 => ⟨fun _ => h, by rw [hr]; simp⟩
/-- The beginning. -/
theorem AnyBut.region {id : Nat} {a : Act} {w : World} (hm : P.follows .mixedOrders = true)
    (h : AnyBut P .any ops (NoPanic Q) S z ops.size (Array.replicate ops.size false) a w.drew) : (Code.region id ops true).wp P Q a w :=
  wp_region_noPanic (wp_region_any hm (AnyBut.any _ _ _ _ h))
end
end PartOrM
end Go.Proofs.Ytohhhhkhkgmanaa
