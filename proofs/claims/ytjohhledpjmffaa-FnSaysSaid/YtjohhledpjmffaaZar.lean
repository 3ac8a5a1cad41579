/- What is said behind what was said: the program's outWith. What is said: the program's Say. -/
import Derived.Test.YtjohhledpjmffaaZaq
namespace Go.Proofs.Ytjohhledpjmffaa
section PartOwA
open Go.RowKit

/-- What stands behind: nothing changes where nothing is said. -/
def St.outW (o p : ByteArray) : ByteArray := if p.size = 0 then o else St.cut3 (o ++ p)
theorem St.outW_no (o p : ByteArray) (h : p.size = 0) : St.outW o p = o := by unfold St.outW; rw [if_pos h]
theorem St.outW_yes (o p : ByteArray) (h : p.size ≠ 0) : St.outW o p = St.cut3 (o ++ p) := by unfold St.outW; rw [if_neg h]
theorem ba_nil_of {p : ByteArray} (h : p.size = 0) : p = ByteArray.empty := by
  apply ByteArray.ext
  have h1 : p.data.size = 0 := h
  have : p.data = #[] := Array.eq_empty_of_size_eq_zero h1
  rw [this]; rfl
theorem ba_list_ne {p : ByteArray} (h : p.size ≠ 0) : (p.toList == []) = false := by
  have h1 : p.toList = p.data.toList := by simp only [Lib.toList_data]
  cases hh : p.toList with
  | nil =>
    exfalso
    apply h
    rw [h1] at hh
    have : p.data.size = 0 := by rw [← Array.length_toList, hh]; rfl
    exact this
  | cons a l => rfl

set_option maxRecDepth 100000 in
set_option maxHeartbeats 1000000 in
theorem outWith_any (o p : ByteArray) (w : World) (ho : o.size ≤ 1000000000000000) (hp : p.size ≤ 1000000000000000) :
    Calls Try.prog 53 #[.string o, .string p] w fun e w' => e = .returned (.string (St.outW o p)) ∧ Below w.heap.size w w' := by
  by_cases h0 : p.size = 0
  · rw [St.outW_no o p h0]
    obtain rfl := ba_nil_of h0
    clear h0 hp
    go_enter Try.func53, Try.ntmps53
    go_wp2
    go_ret
    exact ⟨rfl, Below.refl _ _⟩
  · rw [St.outW_yes o p h0]
    have hne := ba_list_ne h0
    have hsz : (o ++ p).size = o.size + p.size := ByteArray.size_append
    have hno : ¬ 9223372036854775807 < o.size + p.size := by omega
    have hno2 : ¬ ((9223372036854775807 : Int) < (o.size : Int) + (p.size : Int)) := by omega
    by_cases hb : 3000 < (o ++ p).size
    · have hmin2 : min ((o.size : Int) + (p.size : Int)) 3000 = 3000 := by omega
      have hle : (3000 : Int) ≤ (o.size : Int) + (p.size : Int) := by omega
      have hle2 : 3000 ≤ o.size + p.size := by omega
      have HC : St.cut3 (o ++ p) = (o ++ p).extract 0 3000 := by unfold St.cut3; rw [if_pos hb]
      rw [HC]
      clear HC hb h0
      go_enter Try.func53, Try.ntmps53
      go_wp2
      go_ret
      exact ⟨rfl, Below.refl _ _⟩
    · have hmin2 : min ((o.size : Int) + (p.size : Int)) 3000 = (o.size : Int) + (p.size : Int) := by omega
      have hp0 : (0 : Int) ≤ (o.size : Int) + (p.size : Int) := by omega
      have hpt : ((o.size : Int) + (p.size : Int)).toNat = o.size + p.size := by omega
      have HC : St.cut3 (o ++ p) = (o ++ p).extract 0 (o.size + p.size) := by unfold St.cut3; rw [if_neg hb, ← hsz, ext_whole]
      rw [HC]
      clear HC hb h0
      go_enter Try.func53, Try.ntmps53
      go_wp2
      go_ret
      exact ⟨rfl, Below.refl _ _⟩
end PartOwA
section PartSyA
open Go.RowKit

/-- What is said stands behind what was said. -/
def St.said (o l : ByteArray) : ByteArray := St.cut3 (o ++ (l ++ ⟨#[10]⟩))

set_option maxRecDepth 100000 in
set_option maxHeartbeats 2000000 in
theorem imSay (tv lv : Value) (o l : ByteArray) (vs : List Vr) (cs : List Cl) (w : World) (h1 : VrAt w tv vs) (h2 : ClAt w lv cs) (hs : StSmall vs cs o) (hl : l.size ≤ 1048576) :
    Calls Try.prog 21 #[.agg #[tv, lv, .string o], .string l] w fun e w' => ∃ u x, e = .returned (.agg #[u, x, .string (St.said o l)]) ∧ StIn w.heap.size w'.heap.size w' u x vs cs ∧ Below w.heap.size w w' := by
  have hsz : (l ++ (⟨#[10]⟩ : ByteArray)).size = l.size + 1 := ByteArray.size_append
  have ho := hs.2.2.2.2
  have CO : Hid (∀ W, Calls Try.prog 53 #[.string o, .string (l ++ ⟨#[10]⟩)] W fun e w' => e = .returned (.string (St.said o l)) ∧ Below W.heap.size W w') := fun W => by
    have hS : St.said o l = St.outW o (l ++ ⟨#[10]⟩) := by rw [St.outW_yes _ _ (by omega)]; rfl
    rw [hS]
    exact outWith_any o (l ++ ⟨#[10]⟩) W (by omega) (by omega)
  have CW : Hid (∀ W, Below w.heap.size w W → Calls Try.prog 52 #[.agg #[tv, lv, .string o], .string (St.said o l)] W fun e w' => ∃ u x, e = .returned (.agg #[u, x, .string (St.said o l)]) ∧ StIn W.heap.size w'.heap.size w' u x vs cs ∧ Below W.heap.size W w') := fun W hb =>
    withOut_any tv lv o (St.said o l) vs cs W (h1.keep hb) (h2.keep hb) hs (by have := St.cut3_size (o ++ (l ++ ⟨#[10]⟩)); show (St.cut3 _).size ≤ _; omega)
  generalize St.said o l = O at *
  obtain ⟨ad, c, rfl, -⟩ := h1
  obtain ⟨bd, d, rfl, -⟩ := h2
  have HB : Hid (Below w.heap.size w ((w.alloc (.cells #[.slice ad vs.length c, .slice bd cs.length d, .string o] 27)).alloc (.cells #[.slice none 0 0, .slice none 0 0, .string ByteArray.empty] 27))) := ((Below.refl _ _).alloc (Nat.le_refl _) _).alloc (by simp) _
  have q0 := s2_0 w (.cells #[.slice ad vs.length c, .slice bd cs.length d, .string o] 27) (.cells #[.slice none 0 0, .slice none 0 0, .string ByteArray.empty] 27)
  have q1 := s2_1 w (.cells #[.slice ad vs.length c, .slice bd cs.length d, .string o] 27) (.cells #[.slice none 0 0, .slice none 0 0, .string ByteArray.empty] 27)
  have hz : w.heap.size + 1 < ((w.alloc (.cells #[.slice ad vs.length c, .slice bd cs.length d, .string o] 27)).alloc (.cells #[.slice none 0 0, .slice none 0 0, .string ByteArray.empty] 27)).heap.size := by simp
  have HZ : Hid _ := And.intro q1 hz
  have z0 := blk_cell q0 0
  have z1 := blk_cell q0 1
  have z2 := blk_cell q0 2
  simp only [List.getElem?_toArray, List.getElem?_cons_zero, List.getElem?_cons_succ] at z0 z1 z2
  clear q0 q1 hz hs
  have hno : ¬ 9223372036854775807 < l.size + 1 := by omega
  have hno2 : ¬ ((9223372036854775807 : Int) < (l.size : Int) + 1) := by omega
  clear ho
  go_enter Try.func21, Try.ntmps21
  go_wp2_with fail
  change Code.wp _ _ _ _ ((w.alloc (.cells #[.slice ad vs.length c, .slice bd cs.length d, .string o] 27)).alloc (.cells #[.slice none 0 0, .slice none 0 0, .string ByteArray.empty] 27))
  generalize ((w.alloc (.cells #[.slice ad vs.length c, .slice bd cs.length d, .string o] 27)).alloc (.cells #[.slice none 0 0, .slice none 0 0, .string ByteArray.empty] 27)) = W0 at *
  have HST : Hid (∀ W, Below W0.heap.size W0 W → W.heap[w.heap.size + 1]? = some (.cells #[.slice none 0 0, .slice none 0 0, .string ByteArray.empty] 27 (0, 0))) := fun W hb => (hb.block _ HZ.out.2).trans HZ.out.1
  have HW0 : Hid (∀ W, Below W0.heap.size W0 W → Below w.heap.size w W) := fun W hb => HB.out.trans (hb.mono HB.out.size)
  go_region_held3 (fun W => W.cell? ⟨w.heap.size, 0, none⟩ = some (.slice ad vs.length c) ∧ W.cell? ⟨w.heap.size, 1, none⟩ = some (.slice bd cs.length d) ∧ W.cell? ⟨w.heap.size, 2, none⟩ = some (.string o)) (first | exact keepC3 hb1 (by assumption) | exact keepC3 hb0 (by assumption) | go_keep | exact ⟨z0, z1, z2⟩ | assumption)
    ((first
      | (go_at_call 53; refine (CO.out W0.drew).mono ?_; rintro e w0 ⟨rfl, hb0⟩; have B0 : Hid (Below W0.heap.size W0 w0) := (Below.refl _ _).drew.trans hb0)
      | (go_at_call 52; refine (CW.out w0 (HW0.out _ B0.out)).mono ?_; rintro e w1 ⟨u, x, rfl, hin, hb1⟩; have HI : Hid (StIn w0.heap.size w1.heap.size w1 u x vs cs) := hin; have B1 : Hid (Below W0.heap.size W0 w1) := B0.out.trans (hb1.mono B0.out.size); obtain ⟨mid, hm1, hm2, ⟨ua, uc, rfl, -⟩, ⟨xa, xc, rfl, -⟩⟩ := hin; have R3 := HST.out w1 B1.out; have y0 : w1.cell? ⟨w.heap.size + 1, 0, none⟩ = some (.slice none 0 0) := (blk_cell R3 0).trans rfl; have y1 : w1.cell? ⟨w.heap.size + 1, 1, none⟩ = some (.slice none 0 0) := (blk_cell R3 1).trans rfl; have y2 : w1.cell? ⟨w.heap.size + 1, 2, none⟩ = some (.string ByteArray.empty) := (blk_cell R3 2).trans rfl; have f0 := blk_free R3 0; have f1 := blk_free R3 1; have f2 := blk_free R3 2; clear R3)))
  all_goals
    have HRR : Hid _ := HST.out w1 B1.out
    have HSZ : Hid (w.heap.size + 1 < w0.heap.size ∧ w0.heap.size ≤ w1.heap.size) := ⟨by have h5 := HZ.out.2; have h6 := B0.out.size; omega, hb1.size⟩
    clear hb1 CW
    go_wp2_with fail
    refine bodyPost_ret (results_cell_row (p := 4) (ty := 27) rfl _ _ (w.heap.size + 1) 27 _ (0, 0) _ rfl (blk_set (blk_set (blk_set HRR.out 0 _) 1 _) 2 _) Try.underlying27 rfl (by kernel_rfl)) rfl ?_
    exact ⟨_, _, rfl, (HI.out.keep (fun b hb _ => by rw [Below.heap_setCell _ _ _ _ (by show b ≠ w.heap.size + 1; have := HSZ.out; omega), Below.heap_setCell _ _ _ _ (by show b ≠ w.heap.size + 1; have := HSZ.out; omega), Below.heap_setCell _ _ _ _ (by show b ≠ w.heap.size + 1; have := HSZ.out; omega)])).wide (by have := HSZ.out; omega) (by simp [World.setCell]), (((HW0.out _ B1.out).setCell (by show _ ≤ w.heap.size + 1; omega) _).setCell (by show _ ≤ w.heap.size + 1; omega) _).setCell (by show _ ≤ w.heap.size + 1; omega) _⟩
end PartSyA
end Go.Proofs.Ytjohhledpjmffaa
