/- Code in memory: how great it is, the law's own copy of it, two of the same, what is handed in. Records of 2 fields in memory (Var): how great a row of them is, the law's own copy of it, two of the same. Records of 3 fields in memory (Cell): how great a row of them is, the law's own copy of it, two of the same. A store in memory: how great it is, the law's own copy of it, two of the same, what is handed in. -/
import Derived.Test.YtehagonaacbmiaaGreatMPRjZaa
import Derived.Test.YtehagonaacbmiaaGreatMPRjZae
import Derived.Deep.SlicePairs
import Derived.Deep.Strs
import Derived.Deep.Fields
import Derived.ProofKit
import Derived.OpenShut
import Derived.ChangeOld
namespace Go.Proofs.YtehagonaacbmiaaGreat
section PartCoC
open Go.RowKit

set_option maxHeartbeats 800000 in
theorem eqCode_any (v1 r1 v2 r2 : Value) (bg ln en : Int) (ts : List ByteArray) (xs : List Ins) (w : World) (h1 : TsAt w v1 ts) (g1 : InsAt w r1 xs) (h2 : TsAt w v2 ts) (g2 : InsAt w r2 xs) (hl : ts.length ≤ 1048576) (hlr : xs.length ≤ 1048576) :
    Calls Tryz.prog 26 #[.agg #[v1, r1, .int .i64 bg, .int .i64 ln, .int .i64 en], .agg #[v2, r2, .int .i64 bg, .int .i64 ln, .int .i64 en]] w fun e w' => e = .returned (.bool true) ∧ Below w.heap.size w w' := by
  have CC : Hid (∀ w', Below w.heap.size w w' → Calls Tryz.prog 28 #[v1, v2] w' fun e w'' => e = .returned (.bool true) ∧ Below w'.heap.size w' w'') := fun w' hb => eqTs_any v1 v2 ts w' (h1.keep hb) (h2.keep hb) hl
  have CR : Hid (∀ w', Below w.heap.size w w' → Calls Tryz.prog 61 #[r1, r2] w' fun e w'' => e = .returned (.bool true) ∧ Below w'.heap.size w' w'') := fun w' hb => eqInss_any r1 r2 xs w' (g1.keep hb) (g2.keep hb) hlr
  obtain ⟨a1, c1, rfl, -⟩ := h1
  obtain ⟨a2, c2, rfl, -⟩ := h2
  obtain ⟨d1, e1, rfl, -⟩ := g1
  obtain ⟨d2, e2, rfl, -⟩ := g2
  have q1 : (bg != bg) = false := by simp
  have q2 : (ln != ln) = false := by simp
  have q3 : (en != en) = false := by simp
  have HB : Hid (Below w.heap.size w ((w.alloc (.cells #[.slice a1 ts.length c1, .slice d1 xs.length e1, .int .i64 bg, .int .i64 ln, .int .i64 en] 36)).alloc (.cells #[.slice a2 ts.length c2, .slice d2 xs.length e2, .int .i64 bg, .int .i64 ln, .int .i64 en] 36))) := ((Below.refl _ _).alloc (Nat.le_refl _) _).alloc (by simp) _
  have R0 := alloc2_0 w (.cells #[.slice a1 ts.length c1, .slice d1 xs.length e1, .int .i64 bg, .int .i64 ln, .int .i64 en] 36) (.cells #[.slice a2 ts.length c2, .slice d2 xs.length e2, .int .i64 bg, .int .i64 ln, .int .i64 en] 36)
  have R1 := alloc2_1 w (.cells #[.slice a1 ts.length c1, .slice d1 xs.length e1, .int .i64 bg, .int .i64 ln, .int .i64 en] 36) (.cells #[.slice a2 ts.length c2, .slice d2 xs.length e2, .int .i64 bg, .int .i64 ln, .int .i64 en] 36)
  have hz : w.heap.size + 2 ≤ ((w.alloc (.cells #[.slice a1 ts.length c1, .slice d1 xs.length e1, .int .i64 bg, .int .i64 ln, .int .i64 en] 36)).alloc (.cells #[.slice a2 ts.length c2, .slice d2 xs.length e2, .int .i64 bg, .int .i64 ln, .int .i64 en] 36)).heap.size := by simp
  have HR : Hid _ := And.intro R0 R1
  clear R0 R1
  go_enter Tryz.func26, Tryz.ntmps26
  go_wp2_with fail
  generalize (w.alloc (.cells #[.slice a1 ts.length c1, .slice d1 xs.length e1, .int .i64 bg, .int .i64 ln, .int .i64 en] 36)).alloc (.cells #[.slice a2 ts.length c2, .slice d2 xs.length e2, .int .i64 bg, .int .i64 ln, .int .i64 en] 36) = W at *
  refine (CC.out _ HB.out).mono ?_
  rintro e w1 ⟨rfl, hb1⟩
  have x1 := blk_cell ((hb1.block w.heap.size (by omega)).trans HR.out.1) 1
  have x2 := blk_cell ((hb1.block (w.heap.size + 1) (by omega)).trans HR.out.2) 1
  simp only [List.getElem?_toArray, List.getElem?_cons_zero, List.getElem?_cons_succ] at x1 x2
  have HB1 : Hid (Below w.heap.size w w1) := HB.out.trans (hb1.mono HB.out.size)
  have HW1 : Hid (Below W.heap.size W w1) := hb1
  clear hb1 CC
  go_wp2_with fail
  refine (CR.out _ HB1.out).mono ?_
  rintro e w2 ⟨rfl, hb2⟩
  have HW2 : Hid (Below W.heap.size W w2) := HW1.out.trans (hb2.mono HW1.out.size)
  have R0 := (HW2.out.block w.heap.size (by omega)).trans HR.out.1
  have R1 := (HW2.out.block (w.heap.size + 1) (by omega)).trans HR.out.2
  have y2 := blk_cell R0 2
  have y3 := blk_cell R0 3
  have y4 := blk_cell R0 4
  have z2 := blk_cell R1 2
  have z3 := blk_cell R1 3
  have z4 := blk_cell R1 4
  simp only [List.getElem?_toArray, List.getElem?_cons_zero, List.getElem?_cons_succ] at y2 y3 y4 z2 z3 z4
  have HB2 : Hid (Below w.heap.size w w2) := HB1.out.trans (hb2.mono HB1.out.size)
  clear hb2 CR x1 x2 R0 R1 HW1 HW2 HR
  go_wp2
  go_ret
  exact ⟨rfl, HB2.out⟩

end PartCoC
section PartStV
open Go.RowKit

structure Vr where
  name : ByteArray
  val : ByteArray
def Vr.no : Vr := ⟨ByteArray.empty, ByteArray.empty⟩
instance : Inhabited Vr := ⟨Vr.no⟩
/-- The slice v leads to the records xs. -/
def VrAt (w : World) (v : Value) (xs : List Vr) : Prop := ∃ (a : Option Addr) (c : Nat), v = .slice a xs.length c ∧
  (0 < xs.length → ∃ b o, a = some ⟨b, o, none⟩ ∧ b < w.heap.size ∧ ∀ i, i < xs.length → w.cell? ⟨b, o + i * 2, none⟩ = some (.string (xs.getD i Vr.no).name) ∧ w.cell? ⟨b, o + i * 2 + 1, none⟩ = some (.string (xs.getD i Vr.no).val))
theorem VrAt.keep {w w' : World} {v : Value} {xs : List Vr} (h : VrAt w v xs) (hb : Below w.heap.size w w') : VrAt w' v xs := by
  obtain ⟨ka, kc, rfl, f⟩ := h
  refine ⟨ka, kc, rfl, fun h0 => ?_⟩
  obtain ⟨b, o, rfl, hl, hc⟩ := f h0
  exact ⟨b, o, rfl, Nat.lt_of_lt_of_le hl hb.size, fun i hi => ⟨(hb.cell hl).trans ((hc i hi).1), (hb.cell hl).trans ((hc i hi).2)⟩⟩

theorem Tryz.infoVr : (Tryz.prog.info? 87).map (fun i => (i.zero, i.size, i.bytes)) = some (some (.agg #[.string ByteArray.empty, .string ByteArray.empty]), 2, 32) := by kernel_rfl
/-- The law's own copy of the records xs: its row in block g. -/
def VrCopy (w : World) (g n : Nat) (xs : List Vr) (k : Nat) : Prop :=
  (∃ arr, w.heap[g]? = some (.cells arr 87 (0, 0)) ∧ arr.size = n * 2) ∧
  ∀ i, i < k → w.cell? ⟨g, i * 2, none⟩ = some (.string (xs.getD i Vr.no).name) ∧ w.cell? ⟨g, i * 2 + 1, none⟩ = some (.string (xs.getD i Vr.no).val)
theorem VrCopy.keep {w w' : World} {g n k : Nat} {xs : List Vr} (h : VrCopy w g n xs k) (hb : Below w.heap.size w w') : VrCopy w' g n xs k := by
  obtain ⟨⟨arr, ha, hs⟩, hQ⟩ := h
  have hl := blk_lt ha
  exact ⟨⟨arr, (hb.block g hl).trans ha, hs⟩, fun i hi => ⟨(hb.cell hl).trans ((hQ i hi).1), (hb.cell hl).trans ((hQ i hi).2)⟩⟩
theorem VrCopy.at {w : World} {g : Nat} {xs : List Vr} (h : VrCopy w g xs.length xs xs.length) (c : Nat) : VrAt w (.slice (some ⟨g, 0, none⟩) xs.length c) xs := by
  obtain ⟨⟨arr, ha, hs⟩, hQ⟩ := h
  refine ⟨_, _, rfl, fun _ => ⟨g, 0, rfl, blk_lt ha, fun i hi => ?_⟩⟩
  rw [Nat.zero_add]
  exact hQ i hi
theorem VrCopy.more {w w1 : World} {g n k : Nat} {xs : List Vr} (h : VrCopy w g n xs k) (hk : k < n) (hb : Below w.heap.size w w1) :
    VrCopy ((w1.setCell ⟨g, k * 2, none⟩ (.string (xs.getD k Vr.no).name)).setCell ⟨g, k * 2 + 1, none⟩ (.string (xs.getD k Vr.no).val)) g n xs (k + 1) := by
  obtain ⟨⟨arr, ha, hs⟩, hQ⟩ := h.keep hb
  have R := (blk_set (blk_set ha (k * 2) (.string (xs.getD k Vr.no).name)) (k * 2 + 1) (.string (xs.getD k Vr.no).val))
  obtain ⟨w2, hw2⟩ : ∃ w2, w2 = ((w1.setCell ⟨g, k * 2, none⟩ (.string (xs.getD k Vr.no).name)).setCell ⟨g, k * 2 + 1, none⟩ (.string (xs.getD k Vr.no).val)) := ⟨_, rfl⟩
  rw [← hw2] at R ⊢
  clear hw2
  have hC : ∀ j, j < k * 2 → w2.cell? ⟨g, j, none⟩ = w1.cell? ⟨g, j, none⟩ := by
    intro j hj
    rw [blk_cell R, blk_cell ha]
    simp [Array.getElem?_setIfInBounds]
    rw [if_neg (by omega), if_neg (by omega)]
  refine ⟨⟨_, R, by simpa using hs⟩, fun i hi => ?_⟩
  by_cases hik : i = k
  · subst hik
    refine ⟨?_, ?_⟩
    · rw [blk_cell R]; simp [Array.getElem?_setIfInBounds]; omega
    · rw [blk_cell R]; simp [Array.getElem?_setIfInBounds]; omega
  · obtain ⟨h0, h1⟩ := hQ i (by omega)
    exact ⟨(hC _ (by omega)).trans h0, (hC _ (by omega)).trans h1⟩

set_option maxHeartbeats 800000 in
theorem eqVr_any (x0 : ByteArray) (x1 : ByteArray) (w : World) :
    Calls Tryz.prog 93 #[.agg #[.string x0, .string x1], .agg #[.string x0, .string x1]] w fun e w' => e = .returned (.bool true) ∧ Below w.heap.size w w' := by

  go_enter Tryz.func93, Tryz.ntmps93
  go_wp2
  go_ret
  exact ⟨rfl, ((Below.refl _ _).alloc (Nat.le_refl _) _).alloc (by simp) _⟩

set_option maxHeartbeats 2000000 in
theorem eqVrs_any (v1 v2 : Value) (xs : List Vr) (w : World) (h1 : VrAt w v1 xs) (h2 : VrAt w v2 xs) (hl : xs.length ≤ 1048576) :
    Calls Tryz.prog 62 #[v1, v2] w fun e w' => e = .returned (.bool true) ∧ Below w.heap.size w w' := by
  obtain ⟨a1, c1, rfl, f1⟩ := h1
  obtain ⟨a2, c2, rfl, f2⟩ := h2
  obtain ⟨n, hn⟩ : ∃ n, n = xs.length := ⟨_, rfl⟩
  rw [← hn] at f1 f2 hl ⊢
  have hq : ((n : Int) != (n : Int)) = false := by simp
  by_cases h0 : n = 0
  · subst h0
    clear f1 f2 hn
    go_enter Tryz.func62, Tryz.ntmps62
    go_wp2
    refine wp_loop_rounds 1 ?_
    rw [rounds_succ]
    go_wp2
    go_ret
    exact ⟨rfl, Below.refl _ _⟩
  · obtain ⟨g1, o1, rfl, l1, k1⟩ := f1 (by omega)
    obtain ⟨g2, o2, rfl, l2, k2⟩ := f2 (by omega)
    have K1 : Hid (∀ i, i < n → w.cell? ⟨g1, o1 + i * 2, none⟩ = some (.string (xs.getD i Vr.no).name) ∧ w.cell? ⟨g1, o1 + i * 2 + 1, none⟩ = some (.string (xs.getD i Vr.no).val)) := k1
    have K2 : Hid (∀ i, i < n → w.cell? ⟨g2, o2 + i * 2, none⟩ = some (.string (xs.getD i Vr.no).name) ∧ w.cell? ⟨g2, o2 + i * 2 + 1, none⟩ = some (.string (xs.getD i Vr.no).val)) := k2
    clear k1 k2 f1 f2 hn
    go_enter Tryz.func62, Tryz.ntmps62
    go_wp2
    go_loopw [5] (fun i wr => ∃ k : Nat, i = .int .i64 (k : Int) ∧ k ≤ n ∧ Below w.heap.size w wr) (fun i _ => n - (intOf i).toNat)
    case atStart => exact ⟨0, rfl, by omega, Below.refl _ _⟩
    case round =>
      obtain ⟨k, rfl, hk, hbel⟩ := hrel
      have hsz := hbel.size
      by_cases hlt : k < n
      · have q1 := K1.out k hlt
        have q2 := K2.out k hlt
        obtain ⟨p, hp⟩ : ∃ p, p = xs.getD k Vr.no := ⟨_, rfl⟩
        rw [← hp] at q1 q2
        clear hp
        have y0 := (hbel.cell l1).trans q1.1
        have y1 := (hbel.cell l1).trans q1.2
        have z0 := (hbel.cell l2).trans q2.1
        have z1 := (hbel.cell l2).trans q2.2
        obtain ⟨x0, x1⟩ := p
        simp only at y0 z0 y1 z1
        have CC : Hid (∀ w', Calls Tryz.prog 93 #[.agg #[.string x0, .string x1], .agg #[.string x0, .string x1]] w' fun e w'' => e = .returned (.bool true) ∧ Below w'.heap.size w' w'') := fun w' => eqVr_any x0 x1 w'
        clear q1 q2
        have i1 : (k : Int) < (n : Int) := by omega
        have i0 : (0 : Int) ≤ (k : Int) := by omega
        go_wp2_with fail
        go_region_with ((go_at_call 93; refine (CC.out _).mono ?_; rintro e w1 ⟨rfl, hb1⟩))
        all_goals
          go_wp2
          go_roundw
          case rel => exact ⟨k + 1, by go_num, by omega, hbel.trans (((Below.refl _ _).drew.trans hb1).mono hsz)⟩
          case measure => simp [intOf]; omega
      · go_wp2
        go_ret
        exact ⟨rfl, hbel⟩


/-- The first k records have short texts. -/
def VrSmall (xs : List Vr) (k : Nat) : Prop := ∀ i, i < k → (xs.getD i Vr.no).name.size ≤ 1048576 ∧ (xs.getD i Vr.no).val.size ≤ 1048576
end PartStV
section PartStC
open Go.RowKit

structure Cl where
  name : ByteArray
  key : ByteArray
  val : ByteArray
def Cl.no : Cl := ⟨ByteArray.empty, ByteArray.empty, ByteArray.empty⟩
instance : Inhabited Cl := ⟨Cl.no⟩
/-- The slice v leads to the records xs. -/
def ClAt (w : World) (v : Value) (xs : List Cl) : Prop := ∃ (a : Option Addr) (c : Nat), v = .slice a xs.length c ∧
  (0 < xs.length → ∃ b o, a = some ⟨b, o, none⟩ ∧ b < w.heap.size ∧ ∀ i, i < xs.length → w.cell? ⟨b, o + i * 3, none⟩ = some (.string (xs.getD i Cl.no).name) ∧ w.cell? ⟨b, o + i * 3 + 1, none⟩ = some (.string (xs.getD i Cl.no).key) ∧ w.cell? ⟨b, o + i * 3 + 2, none⟩ = some (.string (xs.getD i Cl.no).val))
theorem ClAt.keep {w w' : World} {v : Value} {xs : List Cl} (h : ClAt w v xs) (hb : Below w.heap.size w w') : ClAt w' v xs := by
  obtain ⟨ka, kc, rfl, f⟩ := h
  refine ⟨ka, kc, rfl, fun h0 => ?_⟩
  obtain ⟨b, o, rfl, hl, hc⟩ := f h0
  exact ⟨b, o, rfl, Nat.lt_of_lt_of_le hl hb.size, fun i hi => ⟨(hb.cell hl).trans ((hc i hi).1), (hb.cell hl).trans ((hc i hi).2.1), (hb.cell hl).trans ((hc i hi).2.2)⟩⟩

theorem Tryz.infoCl : (Tryz.prog.info? 89).map (fun i => (i.zero, i.size, i.bytes)) = some (some (.agg #[.string ByteArray.empty, .string ByteArray.empty, .string ByteArray.empty]), 3, 48) := by kernel_rfl
/-- The law's own copy of the records xs: its row in block g. -/
def ClCopy (w : World) (g n : Nat) (xs : List Cl) (k : Nat) : Prop :=
  (∃ arr, w.heap[g]? = some (.cells arr 89 (0, 0)) ∧ arr.size = n * 3) ∧
  ∀ i, i < k → w.cell? ⟨g, i * 3, none⟩ = some (.string (xs.getD i Cl.no).name) ∧ w.cell? ⟨g, i * 3 + 1, none⟩ = some (.string (xs.getD i Cl.no).key) ∧ w.cell? ⟨g, i * 3 + 2, none⟩ = some (.string (xs.getD i Cl.no).val)
theorem ClCopy.keep {w w' : World} {g n k : Nat} {xs : List Cl} (h : ClCopy w g n xs k) (hb : Below w.heap.size w w') : ClCopy w' g n xs k := by
  obtain ⟨⟨arr, ha, hs⟩, hQ⟩ := h
  have hl := blk_lt ha
  exact ⟨⟨arr, (hb.block g hl).trans ha, hs⟩, fun i hi => ⟨(hb.cell hl).trans ((hQ i hi).1), (hb.cell hl).trans ((hQ i hi).2.1), (hb.cell hl).trans ((hQ i hi).2.2)⟩⟩
theorem ClCopy.at {w : World} {g : Nat} {xs : List Cl} (h : ClCopy w g xs.length xs xs.length) (c : Nat) : ClAt w (.slice (some ⟨g, 0, none⟩) xs.length c) xs := by
  obtain ⟨⟨arr, ha, hs⟩, hQ⟩ := h
  refine ⟨_, _, rfl, fun _ => ⟨g, 0, rfl, blk_lt ha, fun i hi => ?_⟩⟩
  rw [Nat.zero_add]
  exact hQ i hi
theorem ClCopy.more {w w1 : World} {g n k : Nat} {xs : List Cl} (h : ClCopy w g n xs k) (hk : k < n) (hb : Below w.heap.size w w1) :
    ClCopy (((w1.setCell ⟨g, k * 3, none⟩ (.string (xs.getD k Cl.no).name)).setCell ⟨g, k * 3 + 1, none⟩ (.string (xs.getD k Cl.no).key)).setCell ⟨g, k * 3 + 2, none⟩ (.string (xs.getD k Cl.no).val)) g n xs (k + 1) := by
  obtain ⟨⟨arr, ha, hs⟩, hQ⟩ := h.keep hb
  have R := (blk_set (blk_set (blk_set ha (k * 3) (.string (xs.getD k Cl.no).name)) (k * 3 + 1) (.string (xs.getD k Cl.no).key)) (k * 3 + 2) (.string (xs.getD k Cl.no).val))
  obtain ⟨w2, hw2⟩ : ∃ w2, w2 = (((w1.setCell ⟨g, k * 3, none⟩ (.string (xs.getD k Cl.no).name)).setCell ⟨g, k * 3 + 1, none⟩ (.string (xs.getD k Cl.no).key)).setCell ⟨g, k * 3 + 2, none⟩ (.string (xs.getD k Cl.no).val)) := ⟨_, rfl⟩
  rw [← hw2] at R ⊢
  clear hw2
  have hC : ∀ j, j < k * 3 → w2.cell? ⟨g, j, none⟩ = w1.cell? ⟨g, j, none⟩ := by
    intro j hj
    rw [blk_cell R, blk_cell ha]
    simp [Array.getElem?_setIfInBounds]
    rw [if_neg (by omega), if_neg (by omega), if_neg (by omega)]
  refine ⟨⟨_, R, by simpa using hs⟩, fun i hi => ?_⟩
  by_cases hik : i = k
  · subst hik
    refine ⟨?_, ?_, ?_⟩
    · rw [blk_cell R]; simp [Array.getElem?_setIfInBounds]; omega
    · rw [blk_cell R]; simp [Array.getElem?_setIfInBounds]; omega
    · rw [blk_cell R]; simp [Array.getElem?_setIfInBounds]; omega
  · obtain ⟨h0, h1, h2⟩ := hQ i (by omega)
    exact ⟨(hC _ (by omega)).trans h0, (hC _ (by omega)).trans h1, (hC _ (by omega)).trans h2⟩

set_option maxHeartbeats 800000 in
theorem eqCl_any (x0 : ByteArray) (x1 : ByteArray) (x2 : ByteArray) (w : World) :
    Calls Tryz.prog 94 #[.agg #[.string x0, .string x1, .string x2], .agg #[.string x0, .string x1, .string x2]] w fun e w' => e = .returned (.bool true) ∧ Below w.heap.size w w' := by

  go_enter Tryz.func94, Tryz.ntmps94
  go_wp2
  go_ret
  exact ⟨rfl, ((Below.refl _ _).alloc (Nat.le_refl _) _).alloc (by simp) _⟩

set_option maxHeartbeats 2000000 in
theorem eqCls_any (v1 v2 : Value) (xs : List Cl) (w : World) (h1 : ClAt w v1 xs) (h2 : ClAt w v2 xs) (hl : xs.length ≤ 1048576) :
    Calls Tryz.prog 63 #[v1, v2] w fun e w' => e = .returned (.bool true) ∧ Below w.heap.size w w' := by
  obtain ⟨a1, c1, rfl, f1⟩ := h1
  obtain ⟨a2, c2, rfl, f2⟩ := h2
  obtain ⟨n, hn⟩ : ∃ n, n = xs.length := ⟨_, rfl⟩
  rw [← hn] at f1 f2 hl ⊢
  have hq : ((n : Int) != (n : Int)) = false := by simp
  by_cases h0 : n = 0
  · subst h0
    clear f1 f2 hn
    go_enter Tryz.func63, Tryz.ntmps63
    go_wp2
    refine wp_loop_rounds 1 ?_
    rw [rounds_succ]
    go_wp2
    go_ret
    exact ⟨rfl, Below.refl _ _⟩
  · obtain ⟨g1, o1, rfl, l1, k1⟩ := f1 (by omega)
    obtain ⟨g2, o2, rfl, l2, k2⟩ := f2 (by omega)
    have K1 : Hid (∀ i, i < n → w.cell? ⟨g1, o1 + i * 3, none⟩ = some (.string (xs.getD i Cl.no).name) ∧ w.cell? ⟨g1, o1 + i * 3 + 1, none⟩ = some (.string (xs.getD i Cl.no).key) ∧ w.cell? ⟨g1, o1 + i * 3 + 2, none⟩ = some (.string (xs.getD i Cl.no).val)) := k1
    have K2 : Hid (∀ i, i < n → w.cell? ⟨g2, o2 + i * 3, none⟩ = some (.string (xs.getD i Cl.no).name) ∧ w.cell? ⟨g2, o2 + i * 3 + 1, none⟩ = some (.string (xs.getD i Cl.no).key) ∧ w.cell? ⟨g2, o2 + i * 3 + 2, none⟩ = some (.string (xs.getD i Cl.no).val)) := k2
    clear k1 k2 f1 f2 hn
    go_enter Tryz.func63, Tryz.ntmps63
    go_wp2
    go_loopw [5] (fun i wr => ∃ k : Nat, i = .int .i64 (k : Int) ∧ k ≤ n ∧ Below w.heap.size w wr) (fun i _ => n - (intOf i).toNat)
    case atStart => exact ⟨0, rfl, by omega, Below.refl _ _⟩
    case round =>
      obtain ⟨k, rfl, hk, hbel⟩ := hrel
      have hsz := hbel.size
      by_cases hlt : k < n
      · have q1 := K1.out k hlt
        have q2 := K2.out k hlt
        obtain ⟨p, hp⟩ : ∃ p, p = xs.getD k Cl.no := ⟨_, rfl⟩
        rw [← hp] at q1 q2
        clear hp
        have y0 := (hbel.cell l1).trans q1.1
        have y1 := (hbel.cell l1).trans q1.2.1
        have y2 := (hbel.cell l1).trans q1.2.2
        have z0 := (hbel.cell l2).trans q2.1
        have z1 := (hbel.cell l2).trans q2.2.1
        have z2 := (hbel.cell l2).trans q2.2.2
        obtain ⟨x0, x1, x2⟩ := p
        simp only at y0 z0 y1 z1 y2 z2
        have CC : Hid (∀ w', Calls Tryz.prog 94 #[.agg #[.string x0, .string x1, .string x2], .agg #[.string x0, .string x1, .string x2]] w' fun e w'' => e = .returned (.bool true) ∧ Below w'.heap.size w' w'') := fun w' => eqCl_any x0 x1 x2 w'
        clear q1 q2
        have i1 : (k : Int) < (n : Int) := by omega
        have i0 : (0 : Int) ≤ (k : Int) := by omega
        go_wp2_with fail
        go_region_with ((go_at_call 94; refine (CC.out _).mono ?_; rintro e w1 ⟨rfl, hb1⟩))
        all_goals
          go_wp2
          go_roundw
          case rel => exact ⟨k + 1, by go_num, by omega, hbel.trans (((Below.refl _ _).drew.trans hb1).mono hsz)⟩
          case measure => simp [intOf]; omega
      · go_wp2
        go_ret
        exact ⟨rfl, hbel⟩


/-- The first k records have short texts. -/
def ClSmall (xs : List Cl) (k : Nat) : Prop := ∀ i, i < k → (xs.getD i Cl.no).name.size ≤ 1048576 ∧ (xs.getD i Cl.no).key.size ≤ 1048576 ∧ (xs.getD i Cl.no).val.size ≤ 1048576
end PartStC
section PartStS
open Go.RowKit

theorem s2_1 (w : World) (A B : Obj) : ((w.alloc A).alloc B).heap[w.heap.size + 1]? = some B := by
  show ((w.heap.push A).push B)[w.heap.size + 1]? = some B
  rw [Array.getElem?_push]
  simp
theorem s2_0 (w : World) (A B : Obj) : ((w.alloc A).alloc B).heap[w.heap.size]? = some A := by
  show ((w.heap.push A).push B)[w.heap.size]? = some A
  rw [Array.getElem?_push, if_neg (by simp), Array.getElem?_push]
  simp
/-- A store as it is handed in: its rows may be read. -/
def StFit (vs : List Vr) (cs : List Cl) (o : ByteArray) : Prop :=
  (vs.length ≤ maxLen ∧ ∀ i, i < vs.length → (vs.getD i Vr.no).name.size ≤ maxLen ∧ (vs.getD i Vr.no).val.size ≤ maxLen) ∧
  (cs.length ≤ maxLen ∧ ∀ i, i < cs.length → (cs.getD i Cl.no).name.size ≤ maxLen ∧ (cs.getD i Cl.no).key.size ≤ maxLen ∧ (cs.getD i Cl.no).val.size ≤ maxLen) ∧ o.size ≤ maxLen
/-- A store that is not great. -/
def StSmall (vs : List Vr) (cs : List Cl) (o : ByteArray) : Prop :=
  vs.length ≤ 1048576 ∧ VrSmall vs vs.length ∧ cs.length ≤ 1048576 ∧ ClSmall cs cs.length ∧ o.size ≤ 1048576

set_option maxHeartbeats 800000 in
theorem eqStore_any (v1 r1 v2 r2 : Value) (o : ByteArray) (vs : List Vr) (cs : List Cl) (w : World) (h1 : VrAt w v1 vs) (g1 : ClAt w r1 cs) (h2 : VrAt w v2 vs) (g2 : ClAt w r2 cs) (hl : vs.length ≤ 1048576) (hlr : cs.length ≤ 1048576) :
    Calls Tryz.prog 27 #[.agg #[v1, r1, .string o], .agg #[v2, r2, .string o]] w fun e w' => e = .returned (.bool true) ∧ Below w.heap.size w w' := by
  have CC : Hid (∀ w', Below w.heap.size w w' → Calls Tryz.prog 62 #[v1, v2] w' fun e w'' => e = .returned (.bool true) ∧ Below w'.heap.size w' w'') := fun w' hb => eqVrs_any v1 v2 vs w' (h1.keep hb) (h2.keep hb) hl
  have CR : Hid (∀ w', Below w.heap.size w w' → Calls Tryz.prog 63 #[r1, r2] w' fun e w'' => e = .returned (.bool true) ∧ Below w'.heap.size w' w'') := fun w' hb => eqCls_any r1 r2 cs w' (g1.keep hb) (g2.keep hb) hlr
  obtain ⟨a1, c1, rfl, -⟩ := h1
  obtain ⟨a2, c2, rfl, -⟩ := h2
  obtain ⟨d1, e1, rfl, -⟩ := g1
  obtain ⟨d2, e2, rfl, -⟩ := g2
  have HB : Hid (Below w.heap.size w ((w.alloc (.cells #[.slice a1 vs.length c1, .slice d1 cs.length e1, .string o] 40)).alloc (.cells #[.slice a2 vs.length c2, .slice d2 cs.length e2, .string o] 40))) := ((Below.refl _ _).alloc (Nat.le_refl _) _).alloc (by simp) _
  have R0 := s2_0 w (.cells #[.slice a1 vs.length c1, .slice d1 cs.length e1, .string o] 40) (.cells #[.slice a2 vs.length c2, .slice d2 cs.length e2, .string o] 40)
  have R1 := s2_1 w (.cells #[.slice a1 vs.length c1, .slice d1 cs.length e1, .string o] 40) (.cells #[.slice a2 vs.length c2, .slice d2 cs.length e2, .string o] 40)
  have hz : w.heap.size + 2 ≤ ((w.alloc (.cells #[.slice a1 vs.length c1, .slice d1 cs.length e1, .string o] 40)).alloc (.cells #[.slice a2 vs.length c2, .slice d2 cs.length e2, .string o] 40)).heap.size := by simp
  have HR : Hid _ := And.intro R0 R1
  clear R0 R1
  go_enter Tryz.func27, Tryz.ntmps27
  go_wp2_with fail
  generalize (w.alloc (.cells #[.slice a1 vs.length c1, .slice d1 cs.length e1, .string o] 40)).alloc (.cells #[.slice a2 vs.length c2, .slice d2 cs.length e2, .string o] 40) = W at *
  refine (CC.out _ HB.out).mono ?_
  rintro e w1 ⟨rfl, hb1⟩
  have x1 := blk_cell ((hb1.block w.heap.size (by omega)).trans HR.out.1) 1
  have x2 := blk_cell ((hb1.block (w.heap.size + 1) (by omega)).trans HR.out.2) 1
  simp only [List.getElem?_toArray, List.getElem?_cons_zero, List.getElem?_cons_succ] at x1 x2
  have HB1 : Hid (Below w.heap.size w w1) := HB.out.trans (hb1.mono HB.out.size)
  have HW1 : Hid (Below W.heap.size W w1) := hb1
  clear hb1 CC
  go_wp2_with fail
  refine (CR.out _ HB1.out).mono ?_
  rintro e w2 ⟨rfl, hb2⟩
  have HW2 : Hid (Below W.heap.size W w2) := HW1.out.trans (hb2.mono HW1.out.size)
  have R0 := (HW2.out.block w.heap.size (by omega)).trans HR.out.1
  have R1 := (HW2.out.block (w.heap.size + 1) (by omega)).trans HR.out.2
  have y2 := blk_cell R0 2
  have z2 := blk_cell R1 2
  simp only [List.getElem?_toArray, List.getElem?_cons_zero, List.getElem?_cons_succ] at y2 z2
  have HB2 : Hid (Below w.heap.size w w2) := HB1.out.trans (hb2.mono HB1.out.size)
  clear hb2 CR x1 x2 R0 R1 HW1 HW2 HR
  go_wp2
  go_ret
  exact ⟨rfl, HB2.out⟩

end PartStS
end Go.Proofs.YtehagonaacbmiaaGreat
