/- Records of 3 fields in memory (Cell): how great a row of them is, the law's own copy of it, two of the same. A store in memory: how great it is, the law's own copy of it, two of the same, what is handed in. -/
import Derived.Test.YthnmopldpgdenaaMPTcZaa
import Derived.Deep.SlicePairs
import Derived.Deep.Strs
import Derived.Deep.Fields
import Derived.ProofKit
import Derived.OpenShut
import Derived.ChangeOld
import Derived.Test.YthnmopldpgdenaaMPTcZac
namespace Go.Proofs.Ythnmopldpgdenaa
section PartStC
open Go.RowKit

structure Cl where
  name : ByteArray
  key : ByteArray
  val : ByteArray
def Cl.no : Cl := ⟨ByteArray.empty, ByteArray.empty, ByteArray.empty⟩
instance : Inhabited Cl := ⟨Cl.no⟩
/-- The slice v leads to the records xs. -/
def ClAt (w : World) (v : Value) (xs : List Cl) : Prop := ∃ (a : Option Addr) (c : Nat), v = .slice a xs.length c ∧
  (0 < xs.length → ∃ b o, a = some ⟨b, o, none⟩ ∧ b < w.heap.size ∧ ∀ i, i < xs.length → w.cell? ⟨b, o + i * 3, none⟩ = some (.string (xs.getD i Cl.no).name) ∧ w.cell? ⟨b, o + i * 3 + 1, none⟩ = some (.string (xs.getD i Cl.no).key) ∧ w.cell? ⟨b, o + i * 3 + 2, none⟩ = some (.string (xs.getD i Cl.no).val))
theorem ClAt.keep {w w' : World} {v : Value} {xs : List Cl} (h : ClAt w v xs) (hb : Below w.heap.size w w') : ClAt w' v xs := by
  obtain ⟨ka, kc, rfl, f⟩ := h
  refine ⟨ka, kc, rfl, fun h0 => ?_⟩
  obtain ⟨b, o, rfl, hl, hc⟩ := f h0
  exact ⟨b, o, rfl, Nat.lt_of_lt_of_le hl hb.size, fun i hi => ⟨(hb.cell hl).trans ((hc i hi).1), (hb.cell hl).trans ((hc i hi).2.1), (hb.cell hl).trans ((hc i hi).2.2)⟩⟩

theorem Try.infoCl : (Try.prog.info? 104).map (fun i => (i.zero, i.size, i.bytes)) = some (some (.agg #[.string ByteArray.empty, .string ByteArray.empty, .string ByteArray.empty]), 3, 48) := by kernel_rfl
theorem makeCl_run (n : Nat) (h : n ≤ 1000000000) : ∃ M : Array Value, M.size = n * 3 ∧ ∀ W : World, (Instr.makeSlice 38 (.int .i64 (n : Int)) (.int .i64 (n : Int))).run Try.prog W = .ok (.slice (some ⟨W.heap.size, 0, none⟩) n n) (W.alloc (.cells M 104)) := by
  obtain ⟨i0, hi, hz0, hz1, hz2⟩ := info_parts Try.infoCl
  refine ⟨madeCells (Value.agg #[.string ByteArray.empty, .string ByteArray.empty, .string ByteArray.empty]).cells (((n : Nat) : Int).toNat * i0.size), ?_, fun W => ?_⟩
  · rw [size_madeCells, hz1]; simp
  · have h := run_make (P := Try.prog) W 38 104 i0 _ Try.underlying38 hi hz0 .i64 .i64 (n : Int) (n : Int) (by omega) (by omega) (by rw [hz2]; omega) (by omega)
    simpa using h

set_option maxHeartbeats 800000 in
theorem toCl_any (x0 : ByteArray) (x1 : ByteArray) (x2 : ByteArray) (w : World) :
    Calls Try.prog 62 #[.agg #[.string x0, .string x1, .string x2]] w fun e w' => e = .returned (.agg #[.string x0, .string x1, .string x2]) ∧ Below w.heap.size w w' := by
  go_enter Try.func62, Try.ntmps62
  go_wp2_with fail
  refine bodyPost_ret (results_cell_row (p := 2) (ty := 104) rfl _ _ (w.heap.size + 1) 104 _ (0, 0) _ rfl (alloc3_1 _ _ _ _) Try.underlying104 rfl (by kernel_rfl)) rfl ?_
  exact ⟨rfl, (((Below.refl _ _).alloc (Nat.le_refl _) _).alloc (by simp) _).alloc (by simp; omega) _⟩

/-- The law's own copy of the records xs: its row in block g. -/
def ClCopy (w : World) (g n : Nat) (xs : List Cl) (k : Nat) : Prop :=
  (∃ arr, w.heap[g]? = some (.cells arr 104 (0, 0)) ∧ arr.size = n * 3) ∧
  ∀ i, i < k → w.cell? ⟨g, i * 3, none⟩ = some (.string (xs.getD i Cl.no).name) ∧ w.cell? ⟨g, i * 3 + 1, none⟩ = some (.string (xs.getD i Cl.no).key) ∧ w.cell? ⟨g, i * 3 + 2, none⟩ = some (.string (xs.getD i Cl.no).val)
theorem ClCopy.keep {w w' : World} {g n k : Nat} {xs : List Cl} (h : ClCopy w g n xs k) (hb : Below w.heap.size w w') : ClCopy w' g n xs k := by
  obtain ⟨⟨arr, ha, hs⟩, hQ⟩ := h
  have hl := blk_lt ha
  exact ⟨⟨arr, (hb.block g hl).trans ha, hs⟩, fun i hi => ⟨(hb.cell hl).trans ((hQ i hi).1), (hb.cell hl).trans ((hQ i hi).2.1), (hb.cell hl).trans ((hQ i hi).2.2)⟩⟩
theorem ClCopy.at {w : World} {g : Nat} {xs : List Cl} (h : ClCopy w g xs.length xs xs.length) (c : Nat) : ClAt w (.slice (some ⟨g, 0, none⟩) xs.length c) xs := by
  obtain ⟨⟨arr, ha, hs⟩, hQ⟩ := h
  refine ⟨_, _, rfl, fun _ => ⟨g, 0, rfl, blk_lt ha, fun i hi => ?_⟩⟩
  rw [Nat.zero_add]
  exact hQ i hi
theorem ClCopy.setFar {w : World} {g n k : Nat} {xs : List Cl} (h : ClCopy w g n xs k) (p : Addr) (u : Value) (hp : p.block < g) : ClCopy (w.setCell p u) g n xs k := by
  obtain ⟨⟨arr, ha, hs⟩, hQ⟩ := h
  have hO : ∀ j, g ≤ j → (w.setCell p u).heap[j]? = w.heap[j]? := fun j hj => Below.heap_setCell _ _ _ _ (by omega)
  have hC : ∀ j, (w.setCell p u).cell? ⟨g, j, none⟩ = w.cell? ⟨g, j, none⟩ := fun j => by rw [blk_cell ((hO g (Nat.le_refl _)).trans ha), blk_cell ha]
  exact ⟨⟨arr, (hO g (Nat.le_refl _)).trans ha, hs⟩, fun i hi => ⟨(hC _).trans ((hQ i hi).1), (hC _).trans ((hQ i hi).2.1), (hC _).trans ((hQ i hi).2.2)⟩⟩
theorem ClCopy.more {w w1 : World} {g n k : Nat} {xs : List Cl} (h : ClCopy w g n xs k) (hk : k < n) (hb : Below w.heap.size w w1) :
    ClCopy (((w1.setCell ⟨g, k * 3, none⟩ (.string (xs.getD k Cl.no).name)).setCell ⟨g, k * 3 + 1, none⟩ (.string (xs.getD k Cl.no).key)).setCell ⟨g, k * 3 + 2, none⟩ (.string (xs.getD k Cl.no).val)) g n xs (k + 1) := by
  obtain ⟨⟨arr, ha, hs⟩, hQ⟩ := h.keep hb
  have R := (blk_set (blk_set (blk_set ha (k * 3) (.string (xs.getD k Cl.no).name)) (k * 3 + 1) (.string (xs.getD k Cl.no).key)) (k * 3 + 2) (.string (xs.getD k Cl.no).val))
  obtain ⟨w2, hw2⟩ : ∃ w2, w2 = (((w1.setCell ⟨g, k * 3, none⟩ (.string (xs.getD k Cl.no).name)).setCell ⟨g, k * 3 + 1, none⟩ (.string (xs.getD k Cl.no).key)).setCell ⟨g, k * 3 + 2, none⟩ (.string (xs.getD k Cl.no).val)) := ⟨_, rfl⟩
  rw [← hw2] at R ⊢
  clear hw2
  have hC : ∀ j, j < k * 3 → w2.cell? ⟨g, j, none⟩ = w1.cell? ⟨g, j, none⟩ := by
    intro j hj
    rw [blk_cell R, blk_cell ha]
    simp [Array.getElem?_setIfInBounds]
    rw [if_neg (by omega), if_neg (by omega), if_neg (by omega)]
  refine ⟨⟨_, R, by simpa using hs⟩, fun i hi => ?_⟩
  by_cases hik : i = k
  · subst hik
    refine ⟨?_, ?_, ?_⟩
    · rw [blk_cell R]; simp [Array.getElem?_setIfInBounds]; omega
    · rw [blk_cell R]; simp [Array.getElem?_setIfInBounds]; omega
    · rw [blk_cell R]; simp [Array.getElem?_setIfInBounds]; omega
  · obtain ⟨h0, h1, h2⟩ := hQ i (by omega)
    exact ⟨(hC _ (by omega)).trans h0, (hC _ (by omega)).trans h1, (hC _ (by omega)).trans h2⟩

set_option maxHeartbeats 800000 in
theorem toCls_any (v : Value) (xs : List Cl) (w : World) (h : ClAt w v xs) (hk : xs.length ≤ 1048576) :
    Calls Try.prog 41 #[v] w fun e w' => e = .returned (.slice (some ⟨w.heap.size, 0, none⟩) xs.length xs.length) ∧ Below w.heap.size w w' ∧ ClCopy w' w.heap.size xs.length xs xs.length := by
  obtain ⟨ad, c, rfl, f⟩ := h
  obtain ⟨n, hn⟩ : ∃ n, n = xs.length := ⟨_, rfl⟩
  rw [← hn] at f hk ⊢
  obtain ⟨M, hM, hmk⟩ := makeCl_run n (by omega)
  have HW : Hid (ClCopy (w.alloc (.cells M 104)) w.heap.size n xs 0) := ⟨⟨M, heap_alloc_new w (.cells M 104), hM⟩, fun i hi => by omega⟩
  by_cases h0 : n = 0
  · subst h0
    have hmk0 : ∀ W : World, (Instr.makeSlice 38 (.int .i64 0) (.int .i64 0)).run Try.prog W = .ok (.slice (some ⟨W.heap.size, 0, none⟩) 0 0) (W.alloc (.cells M 104)) := hmk
    clear f hn hM hmk
    go_enter Try.func41, Try.ntmps41
    go_wp2
    refine wp_loop_rounds 1 ?_
    rw [rounds_succ]
    go_wp2
    go_ret
    exact ⟨rfl, (Below.refl _ _).alloc (Nat.le_refl _) _, HW.out⟩
  · obtain ⟨b, o, rfl, hb, hc⟩ := f (by omega)
    have HC : Hid (∀ i, i < n → w.cell? ⟨b, o + i * 3, none⟩ = some (.string (xs.getD i Cl.no).name) ∧ w.cell? ⟨b, o + i * 3 + 1, none⟩ = some (.string (xs.getD i Cl.no).key) ∧ w.cell? ⟨b, o + i * 3 + 2, none⟩ = some (.string (xs.getD i Cl.no).val)) := hc
    clear f hn hM hc
    go_enter Try.func41, Try.ntmps41
    go_wp2
    clear hmk
    go_loopw [4] (fun i wr => ∃ k : Nat, i = .int .i64 (k : Int) ∧ k ≤ n ∧ Below w.heap.size w wr ∧ w.heap.size < wr.heap.size ∧ Hid (ClCopy wr w.heap.size n xs k)) (fun i _ => n - (intOf i).toNat)
    case atStart => exact ⟨0, rfl, by omega, (Below.refl _ _).alloc (Nat.le_refl _) _, by simp, HW.out⟩
    case round =>
      obtain ⟨k, rfl, hk2, hbel, hsz, HH⟩ := hrel
      by_cases hlt : k < n
      · obtain ⟨p, hp⟩ : ∃ p, p = xs.getD k Cl.no := ⟨_, rfl⟩
        have hpc := HC.out k hlt
        rw [← hp] at hpc
        obtain ⟨c0, c1, c2⟩ := hpc
        have e0 := (hbel.cell hb).trans c0
        have e1 := (hbel.cell hb).trans c1
        have e2 := (hbel.cell hb).trans c2
        have CC : Hid (Calls Try.prog 62 #[.agg #[.string p.name, .string p.key, .string p.val]] wr fun e w' => e = .returned (.agg #[.string p.name, .string p.key, .string p.val]) ∧ Below wr.heap.size wr w') := toCl_any _ _ _ wr
        have CM : Hid (∀ (w1 : World), Below wr.heap.size wr w1 → ClCopy (((w1.setCell ⟨w.heap.size, k * 3, none⟩ (.string p.name)).setCell ⟨w.heap.size, k * 3 + 1, none⟩ (.string p.key)).setCell ⟨w.heap.size, k * 3 + 2, none⟩ (.string p.val)) w.heap.size n xs (k + 1)) := by
          rw [hp]
          exact fun w1 h1 => HH.out.more hlt h1
        clear hp c0 c1 c2
        obtain ⟨⟨arr, ha, hsa⟩, _⟩ := HH.out
        obtain ⟨x0, x1, x2⟩ := p
        simp only at e0 e1 e2 CC CM
        have i1 : (k : Int) < (n : Int) := by omega
        go_wp2_with fail
        refine CC.out.mono ?_
        rintro e w1 ⟨rfl, hb1⟩
        have R := (hb1.block w.heap.size hsz).trans ha
        have c0 := blk_cell R (k * 3)
        have c1 := blk_cell R (k * 3 + 1)
        have c2 := blk_cell R (k * 3 + 2)
        have f0 := blk_free R (k * 3)
        have f1 := blk_free R (k * 3 + 1)
        have f2 := blk_free R (k * 3 + 2)
        rw [Array.getElem?_eq_getElem (by omega)] at c0 c1 c2
        have HCM : Hid _ := CM.out w1 hb1
        clear R ha CC CM
        go_wp2_with fail
        go_roundw
        case rel => exact ⟨k + 1, by go_num, by omega, ((((hbel.trans (hb1.mono (by omega))).setCell (by exact Nat.le_refl _) _).setCell (by exact Nat.le_refl _) _).setCell (by exact Nat.le_refl _) _), by have := hb1.size; simp [World.setCell]; omega, HCM.out⟩
        case measure => simp [intOf]; omega
      · obtain rfl : k = n := by omega
        go_wp2
        go_ret
        exact ⟨rfl, hbel, HH.out⟩


set_option maxHeartbeats 800000 in
theorem eqCl_any (x0 : ByteArray) (x1 : ByteArray) (x2 : ByteArray) (w : World) :
    Calls Try.prog 68 #[.agg #[.string x0, .string x1, .string x2], .agg #[.string x0, .string x1, .string x2]] w fun e w' => e = .returned (.bool true) ∧ Below w.heap.size w w' := by

  go_enter Try.func68, Try.ntmps68
  go_wp2
  go_ret
  exact ⟨rfl, ((Below.refl _ _).alloc (Nat.le_refl _) _).alloc (by simp) _⟩

set_option maxHeartbeats 2000000 in
theorem eqCls_any (v1 v2 : Value) (xs : List Cl) (w : World) (h1 : ClAt w v1 xs) (h2 : ClAt w v2 xs) (hl : xs.length ≤ 1048576) :
    Calls Try.prog 49 #[v1, v2] w fun e w' => e = .returned (.bool true) ∧ Below w.heap.size w w' := by
  obtain ⟨a1, c1, rfl, f1⟩ := h1
  obtain ⟨a2, c2, rfl, f2⟩ := h2
  obtain ⟨n, hn⟩ : ∃ n, n = xs.length := ⟨_, rfl⟩
  rw [← hn] at f1 f2 hl ⊢
  have hq : ((n : Int) != (n : Int)) = false := by simp
  by_cases h0 : n = 0
  · subst h0
    clear f1 f2 hn
    go_enter Try.func49, Try.ntmps49
    go_wp2
    refine wp_loop_rounds 1 ?_
    rw [rounds_succ]
    go_wp2
    go_ret
    exact ⟨rfl, Below.refl _ _⟩
  · obtain ⟨g1, o1, rfl, l1, k1⟩ := f1 (by omega)
    obtain ⟨g2, o2, rfl, l2, k2⟩ := f2 (by omega)
    have K1 : Hid (∀ i, i < n → w.cell? ⟨g1, o1 + i * 3, none⟩ = some (.string (xs.getD i Cl.no).name) ∧ w.cell? ⟨g1, o1 + i * 3 + 1, none⟩ = some (.string (xs.getD i Cl.no).key) ∧ w.cell? ⟨g1, o1 + i * 3 + 2, none⟩ = some (.string (xs.getD i Cl.no).val)) := k1
    have K2 : Hid (∀ i, i < n → w.cell? ⟨g2, o2 + i * 3, none⟩ = some (.string (xs.getD i Cl.no).name) ∧ w.cell? ⟨g2, o2 + i * 3 + 1, none⟩ = some (.string (xs.getD i Cl.no).key) ∧ w.cell? ⟨g2, o2 + i * 3 + 2, none⟩ = some (.string (xs.getD i Cl.no).val)) := k2
    clear k1 k2 f1 f2 hn
    go_enter Try.func49, Try.ntmps49
    go_wp2
    go_loopw [5] (fun i wr => ∃ k : Nat, i = .int .i64 (k : Int) ∧ k ≤ n ∧ Below w.heap.size w wr) (fun i _ => n - (intOf i).toNat)
    case atStart => exact ⟨0, rfl, by omega, Below.refl _ _⟩
    case round =>
      obtain ⟨k, rfl, hk, hbel⟩ := hrel
      have hsz := hbel.size
      by_cases hlt : k < n
      · have q1 := K1.out k hlt
        have q2 := K2.out k hlt
        obtain ⟨p, hp⟩ : ∃ p, p = xs.getD k Cl.no := ⟨_, rfl⟩
        rw [← hp] at q1 q2
        clear hp
        have y0 := (hbel.cell l1).trans q1.1
        have y1 := (hbel.cell l1).trans q1.2.1
        have y2 := (hbel.cell l1).trans q1.2.2
        have z0 := (hbel.cell l2).trans q2.1
        have z1 := (hbel.cell l2).trans q2.2.1
        have z2 := (hbel.cell l2).trans q2.2.2
        obtain ⟨x0, x1, x2⟩ := p
        simp only at y0 z0 y1 z1 y2 z2
        have CC : Hid (∀ w', Calls Try.prog 68 #[.agg #[.string x0, .string x1, .string x2], .agg #[.string x0, .string x1, .string x2]] w' fun e w'' => e = .returned (.bool true) ∧ Below w'.heap.size w' w'') := fun w' => eqCl_any x0 x1 x2 w'
        clear q1 q2
        have i1 : (k : Int) < (n : Int) := by omega
        have i0 : (0 : Int) ≤ (k : Int) := by omega
        go_wp2_with fail
        go_region_with ((go_at_call 68; refine (CC.out _).mono ?_; rintro e w1 ⟨rfl, hb1⟩))
        all_goals
          go_wp2
          go_roundw
          case rel => exact ⟨k + 1, by go_num, by omega, hbel.trans (((Below.refl _ _).drew.trans hb1).mono hsz)⟩
          case measure => simp [intOf]; omega
      · go_wp2
        go_ret
        exact ⟨rfl, hbel⟩


/-- The first k records have short texts. -/
def ClSmall (xs : List Cl) (k : Nat) : Prop := ∀ i, i < k → (xs.getD i Cl.no).name.size ≤ 1048576 ∧ (xs.getD i Cl.no).key.size ≤ 1048576 ∧ (xs.getD i Cl.no).val.size ≤ 1048576
set_option maxHeartbeats 800000 in
theorem szCl_any (x0 : ByteArray) (x1 : ByteArray) (x2 : ByteArray) (l : Int) (w : World) (hl0 : 0 ≤ l) (hl : l ≤ 1048576) (t0 : x0.size ≤ maxLen) (t1 : x1.size ≤ maxLen) (t2 : x2.size ≤ maxLen) :
    Calls Try.prog 59 #[.agg #[.string x0, .string x1, .string x2], .int .i64 l] w fun e w' => Below w.heap.size w w' ∧ ∃ r : Int, e = .returned (.int .i64 r) ∧ (r = -1 ∨ 0 ≤ r ∧ r ≤ l ∧ x0.size ≤ 1048576 ∧ x1.size ≤ 1048576 ∧ x2.size ≤ 1048576) := by
  unfold maxLen at t0 t1 t2
  by_cases hq0 : l - (x0.size : Int) < 0
  · have d0 : decide (l - (x0.size : Int) < 0) = true := by simpa using hq0
    go_enter Try.func59, Try.ntmps59
    go_wp2
    go_ret
    exact ⟨(Below.refl _ _).alloc (Nat.le_refl _) _, -1, rfl, .inl rfl⟩
  have d0 : decide (l - (x0.size : Int) < 0) = false := by simpa using hq0
  by_cases hq1 : l - (x0.size : Int) - (x1.size : Int) < 0
  · have d1 : decide (l - (x0.size : Int) - (x1.size : Int) < 0) = true := by simpa using hq1
    go_enter Try.func59, Try.ntmps59
    go_wp2
    go_ret
    exact ⟨(Below.refl _ _).alloc (Nat.le_refl _) _, -1, rfl, .inl rfl⟩
  have d1 : decide (l - (x0.size : Int) - (x1.size : Int) < 0) = false := by simpa using hq1
  by_cases hq2 : l - (x0.size : Int) - (x1.size : Int) - (x2.size : Int) < 0
  · have d2 : decide (l - (x0.size : Int) - (x1.size : Int) - (x2.size : Int) < 0) = true := by simpa using hq2
    go_enter Try.func59, Try.ntmps59
    go_wp2
    go_ret
    exact ⟨(Below.refl _ _).alloc (Nat.le_refl _) _, -1, rfl, .inl rfl⟩
  have d2 : decide (l - (x0.size : Int) - (x1.size : Int) - (x2.size : Int) < 0) = false := by simpa using hq2
  go_enter Try.func59, Try.ntmps59
  go_wp2
  go_ret
  exact ⟨(Below.refl _ _).alloc (Nat.le_refl _) _, _, rfl, .inr ⟨by omega, by omega, by omega, by omega, by omega⟩⟩

set_option maxHeartbeats 800000 in
theorem szCls_any (v : Value) (xs : List Cl) (l : Int) (w : World) (h : ClAt w v xs) (hl0 : 0 ≤ l) (hl : l ≤ 1048576) (hk : xs.length ≤ maxLen) (hf : ∀ i, i < xs.length → (xs.getD i Cl.no).name.size ≤ maxLen ∧ (xs.getD i Cl.no).key.size ≤ maxLen ∧ (xs.getD i Cl.no).val.size ≤ maxLen) :
    Calls Try.prog 36 #[v, .int .i64 l] w fun e w' => Below w.heap.size w w' ∧ ∃ r : Int, e = .returned (.int .i64 r) ∧ (r = -1 ∨ 0 ≤ r ∧ r ≤ l ∧ xs.length ≤ 1048576 ∧ ClSmall xs xs.length) := by
  unfold maxLen at hk
  obtain ⟨ad, c, rfl, f⟩ := h
  obtain ⟨n, hn⟩ : ∃ n, n = xs.length := ⟨_, rfl⟩
  have HF : Hid (∀ i, i < n → (xs.getD i Cl.no).name.size ≤ maxLen ∧ (xs.getD i Cl.no).key.size ≤ maxLen ∧ (xs.getD i Cl.no).val.size ≤ maxLen) := by rw [hn]; exact hf
  rw [← hn] at f hk ⊢
  clear hf
  by_cases hq : l - (n : Int) < 0
  · have d : decide (l - (n : Int) < 0) = true := by simpa using hq
    clear f hn
    go_enter Try.func36, Try.ntmps36
    go_wp2
    go_ret
    exact ⟨Below.refl _ _, -1, rfl, .inl rfl⟩
  · have d : decide (l - (n : Int) < 0) = false := by simpa using hq
    have hn2 : n ≤ 1048576 := by omega
    by_cases h0 : n = 0
    · subst h0
      clear f hn HF
      have d : decide (l - ((0 : Nat) : Int) < 0) = false := by simpa using hq
      go_enter Try.func36, Try.ntmps36
      go_wp2
      refine wp_loop_rounds 1 ?_
      rw [rounds_succ]
      go_wp2
      go_ret
      exact ⟨Below.refl _ _, _, rfl, .inr ⟨by omega, by omega, by omega, fun i hi => by omega⟩⟩
    · obtain ⟨b, o, rfl, hb, hc⟩ := f (by omega)
      have HC : Hid (∀ i, i < n → w.cell? ⟨b, o + i * 3, none⟩ = some (.string (xs.getD i Cl.no).name) ∧ w.cell? ⟨b, o + i * 3 + 1, none⟩ = some (.string (xs.getD i Cl.no).key) ∧ w.cell? ⟨b, o + i * 3 + 2, none⟩ = some (.string (xs.getD i Cl.no).val)) := hc
      clear hc f hn
      go_enter Try.func36, Try.ntmps36
      go_wp2
      go_loopw [1, 5] (fun q i wr => ∃ (k : Nat) (r : Int), i = .int .i64 (k : Int) ∧ q = .int .i64 r ∧ 0 ≤ r ∧ r ≤ l ∧ k ≤ n ∧ Below w.heap.size w wr ∧ Hid (ClSmall xs k)) (fun _ i _ => n - (intOf i).toNat)
      case atStart => exact ⟨0, _, rfl, rfl, by omega, by omega, by omega, Below.refl _ _, fun i hi => by omega⟩
      case round =>
        obtain ⟨k, r, rfl, rfl, hr0, hr1, hk, hbel, HS⟩ := hrel
        have hsz := hbel.size
        by_cases hlt : k < n
        · obtain ⟨p, hp⟩ : ∃ p, p = xs.getD k Cl.no := ⟨_, rfl⟩
          have hpc := HC.out k hlt
          have hkl := HF.out k hlt
          rw [← hp] at hpc hkl
          obtain ⟨c0, c1, c2⟩ := hpc
          have e0 := (hbel.cell hb).trans c0
          have e1 := (hbel.cell hb).trans c1
          have e2 := (hbel.cell hb).trans c2
          have HP : Hid (p = xs.getD k Cl.no) := hp
          clear hp c0 c1 c2
          obtain ⟨x0, x1, x2⟩ := p
          simp only at e0 e1 e2 hkl
          have CC : Hid (Calls Try.prog 59 #[.agg #[.string x0, .string x1, .string x2], .int .i64 r] wr fun e w' => Below wr.heap.size wr w' ∧ ∃ r' : Int, e = .returned (.int .i64 r') ∧ (r' = -1 ∨ 0 ≤ r' ∧ r' ≤ r ∧ x0.size ≤ 1048576 ∧ x1.size ≤ 1048576 ∧ x2.size ≤ 1048576)) :=
            szCl_any x0 x1 x2 r wr hr0 (by omega) hkl.1 hkl.2.1 hkl.2.2
          clear hkl
          have i1 : (k : Int) < (n : Int) := by omega
          go_wp2_with fail
          refine CC.out.mono ?_
          rintro e w1 ⟨hb1, r1, rfl, hr⟩
          rcases hr with rfl | ⟨h3, h4, h5⟩
          · go_wp2
            go_ret
            exact ⟨hbel.trans (hb1.mono hsz), -1, rfl, .inl rfl⟩
          · have d2 : decide (r1 < 0) = false := by simp; omega
            go_wp2
            go_roundw
            case rel =>
              refine ⟨k + 1, r1, by go_num, rfl, h3, by omega, by omega, hbel.trans (hb1.mono hsz), ?_⟩
              intro i hi
              by_cases hik : i = k
              · subst hik
                rw [← HP.out]
                exact h5
              · exact HS.out i (by omega)
            case measure => simp [intOf]; omega
        · obtain rfl : k = n := by omega
          go_wp2
          go_ret
          exact ⟨hbel, _, rfl, .inr ⟨hr0, hr1, by omega, HS.out⟩⟩


open Go.ChangeShapes Go.WideShapes Go.ChangeAt Go.Deep in
set_option maxRecDepth 100000 in
theorem ClOpen {H : Type} {enc : TypeId × Value → H} {W : World} {n : Nat} {s : Value} {x : DataW H × List MemPlace} (h : DataW.trod enc Try.prog W 0 (fun _ => true) true n 27 [s] = some x) :
    ∃ xs : List Cl, ClAt W s xs ∧ xs.length ≤ maxLen ∧ (∀ i, i < xs.length → (xs.getD i Cl.no).name.size ≤ maxLen) ∧ (∀ i, i < xs.length → (xs.getD i Cl.no).key.size ≤ maxLen) ∧ (∀ i, i < xs.length → (xs.getD i Cl.no).val.size ≤ maxLen) := by
  have hP : Try.prog.cellsOf 99 = 3 := by kernel_rfl
  rcases open_slice Try.underlying27 h with ⟨hcs, _⟩ | ⟨a, len, cap, m, n', D, Pl, hcs, hb, hl, hm, hmm, hx, hel⟩
  · simp at hcs
    subst hcs
    exact ⟨[], ⟨none, 0, rfl, fun h => by simp at h⟩, by simp, fun i hi => by simp at hi, fun i hi => by simp at hi, fun i hi => by simp at hi⟩
  · simp at hcs
    subst hcs
    simp at hmm
    subst hmm
    have each : ∀ i, i < len → ∃ q : Cl, (W.cell? (a.add (i * 3)) = some (.string q.name) ∧ W.cell? (a.add (i * 3 + 1)) = some (.string q.key) ∧ W.cell? (a.add (i * 3 + 2)) = some (.string q.val)) ∧ q.name.size ≤ maxLen ∧ q.key.size ≤ maxLen ∧ q.val.size ≤ maxLen := by
      intro i hi
      obtain ⟨cs', h1, h2⟩ := hel i (by omega)
      rw [hP] at h1
      obtain ⟨_, hlen, hcell⟩ := World.cells?_some h1
      obtain ⟨ys, n2, _, _, _, hyl, hff⟩ := DataW.trod_struct Try.underlying99 h2
      match cs', hlen, ys, hyl with
      | [v0, v1, v2], _, [y0, y1, y2], _ =>
        have e0 := hcell 0 (by omega)
        have e1 := hcell 1 (by omega)
        have e2 := hcell 2 (by omega)
        rw [add_add] at e0 e1 e2
        have qs : Try.prog.cellsOf 9 = 1 := by kernel_rfl
        have k0 := hff 0 _ rfl
        have k1 := hff 1 _ rfl
        have k2 := hff 2 _ rfl
        simp [qs] at k0 k1 k2
        obtain ⟨o0, u0, _, t0⟩ := DataW.trod_string Try.underlying9 k0
        obtain ⟨o1, u1, _, t1⟩ := DataW.trod_string Try.underlying9 k1
        obtain ⟨o2, u2, _, t2⟩ := DataW.trod_string Try.underlying9 k2
        simp at u0 u1 u2
        subst u0 u1 u2
        exact ⟨⟨o0, o1, o2⟩, ⟨by simpa using e0, by simpa using e1, by simpa using e2⟩, t0, t1, t2⟩
    obtain ⟨q, hq⟩ := choose_lt each
    have hlen : ((List.range len).map q).length = len := by simp
    have hget : ∀ i, i < len → ((List.range len).map q).getD i Cl.no = q i := by intro i hi; simp [hi]
    refine ⟨(List.range len).map q, ⟨some a, m, by rw [hlen], fun h0 => ?_⟩, by rw [hlen]; omega, fun i hi => by rw [hlen] at hi; rw [hget i hi]; exact (hq i hi).2.1, fun i hi => by rw [hlen] at hi; rw [hget i hi]; exact (hq i hi).2.2.1, fun i hi => by rw [hlen] at hi; rw [hget i hi]; exact (hq i hi).2.2.2⟩
    rw [hlen] at h0 ⊢
    obtain ⟨b, off, spot⟩ := a
    have hc0 := (hq 0 h0).1.1
    have hspot : spot = none := by simpa [Addr.add] using World.cell?_spot hc0
    subst hspot
    have hadd : ∀ j, (⟨b, off, none⟩ : Addr).add j = ⟨b, off + j, none⟩ := fun j => by unfold Addr.add; split <;> simp_all
    refine ⟨b, off, rfl, ?_, fun i hi => ?_⟩
    · rw [hadd] at hc0
      exact World.block_lt_of_cell? W _ hc0
    · obtain ⟨h0, h1, h2⟩ := (hq i hi).1
      rw [hadd] at h0 h1 h2
      rw [hget i hi]
      exact ⟨h0, by rw [Nat.add_assoc]; exact h1, by rw [Nat.add_assoc]; exact h2⟩
end PartStC
section PartStS
open Go.RowKit

theorem s2_1 (w : World) (A B : Obj) : ((w.alloc A).alloc B).heap[w.heap.size + 1]? = some B := by
  show ((w.heap.push A).push B)[w.heap.size + 1]? = some B
  rw [Array.getElem?_push]
  simp
theorem s2_0 (w : World) (A B : Obj) : ((w.alloc A).alloc B).heap[w.heap.size]? = some A := by
  show ((w.heap.push A).push B)[w.heap.size]? = some A
  rw [Array.getElem?_push, if_neg (by simp), Array.getElem?_push]
  simp
theorem alloc3_0s (w : World) (A B C : Obj) : (((w.alloc A).alloc B).alloc C).heap[w.heap.size]? = some A := by
  show (((w.heap.push A).push B).push C)[w.heap.size]? = some A
  rw [Array.getElem?_push, if_neg (by simp; omega), Array.getElem?_push, if_neg (by simp), Array.getElem?_push]
  simp
/-- A store as it is handed in: its rows may be read. -/
def StFit (vs : List Vr) (cs : List Cl) (o : ByteArray) : Prop :=
  (vs.length ≤ maxLen ∧ ∀ i, i < vs.length → (vs.getD i Vr.no).name.size ≤ maxLen ∧ (vs.getD i Vr.no).val.size ≤ maxLen) ∧
  (cs.length ≤ maxLen ∧ ∀ i, i < cs.length → (cs.getD i Cl.no).name.size ≤ maxLen ∧ (cs.getD i Cl.no).key.size ≤ maxLen ∧ (cs.getD i Cl.no).val.size ≤ maxLen) ∧ o.size ≤ maxLen
/-- A store that is not great. -/
def StSmall (vs : List Vr) (cs : List Cl) (o : ByteArray) : Prop :=
  vs.length ≤ 1048576 ∧ VrSmall vs vs.length ∧ cs.length ≤ 1048576 ∧ ClSmall cs cs.length ∧ o.size ≤ 1048576

set_option maxHeartbeats 800000 in
theorem szStore_any (v rv : Value) (o : ByteArray) (vs : List Vr) (cs : List Cl) (l : Int) (w : World) (h : VrAt w v vs) (hr : ClAt w rv cs) (hl0 : 0 ≤ l) (hl : l ≤ 1048576) (hf : StFit vs cs o) :
    Calls Try.prog 13 #[.agg #[v, rv, .string o], .int .i64 l] w fun e w' => Below w.heap.size w w' ∧ ∃ r : Int, e = .returned (.int .i64 r) ∧ (r = -1 ∨ 0 ≤ r ∧ r ≤ l ∧ StSmall vs cs o) := by
  have HB : Hid (Below w.heap.size w (w.alloc (.cells #[v, rv, .string o] 29))) := (Below.refl _ _).alloc (Nat.le_refl _) _
  have CC : Hid (∀ W, Below w.heap.size w W → Calls Try.prog 35 #[v, .int .i64 l] W fun e w' => Below W.heap.size W w' ∧ ∃ r : Int, e = .returned (.int .i64 r) ∧ (r = -1 ∨ 0 ≤ r ∧ r ≤ l ∧ vs.length ≤ 1048576 ∧ VrSmall vs vs.length)) :=
    fun W hb => szVrs_any v vs l _ (h.keep hb) hl0 hl hf.1.1 hf.1.2
  have CR : Hid (∀ W (r : Int), Below w.heap.size w W → 0 ≤ r → r ≤ l → Calls Try.prog 36 #[rv, .int .i64 r] W fun e w' => Below W.heap.size W w' ∧ ∃ r' : Int, e = .returned (.int .i64 r') ∧ (r' = -1 ∨ 0 ≤ r' ∧ r' ≤ r ∧ cs.length ≤ 1048576 ∧ ClSmall cs cs.length)) :=
    fun W r hb h0 h1 => szCls_any rv cs r W (hr.keep hb) h0 (by omega) hf.2.1.1 hf.2.1.2
  have ho := hf.2.2
  unfold maxLen at ho
  obtain ⟨ad, c, rfl, _⟩ := h
  obtain ⟨ra, rc, rfl, _⟩ := hr
  go_enter Try.func13, Try.ntmps13
  go_wp2_with fail
  refine (CC.out _ HB.out).mono ?_
  rintro e w1 ⟨hb1, r1, rfl, hr⟩
  have hb2 := HB.out.trans (hb1.mono (by simp))
  have c1 : w1.cell? ⟨w.heap.size, 1, none⟩ = some (.slice ra cs.length rc) := (hb1.cell (by simp)).trans (by simp)
  have c2 : w1.cell? ⟨w.heap.size, 2, none⟩ = some (.string o) := (hb1.cell (by simp)).trans (by simp)
  have hz : w.heap.size < w1.heap.size := World.block_lt_of_cell? w1 _ c1
  rcases hr with rfl | ⟨h3, h4, h5⟩
  · go_wp2
    go_ret
    exact ⟨hb2, -1, rfl, .inl rfl⟩
  · have d2 : decide (r1 < 0) = false := by simp; omega
    have H5 : Hid (vs.length ≤ 1048576 ∧ VrSmall vs vs.length) := h5
    clear h5 hb1
    go_wp2_with fail
    refine (CR.out _ _ hb2 h3 h4).mono ?_
    rintro e w2 ⟨hb3, r2, rfl, hr⟩
    have c3 : w2.cell? ⟨w.heap.size, 2, none⟩ = some (.string o) := (hb3.cell (by exact hz)).trans c2
    have HB4 : Hid (Below w.heap.size w w2) := hb2.trans (hb3.mono (by omega))
    clear hb3 c1 c2
    rcases hr with rfl | ⟨h6, h7, h8⟩
    · go_wp2
      go_ret
      exact ⟨HB4.out, -1, rfl, .inl rfl⟩
    · have d3 : decide (r2 < 0) = false := by simp; omega
      have H8 : Hid (cs.length ≤ 1048576 ∧ ClSmall cs cs.length) := h8
      clear h8
      by_cases hq : r2 - (o.size : Int) < 0
      · have d4 : decide (r2 - (o.size : Int) < 0) = true := by simpa using hq
        go_wp2
        go_ret
        exact ⟨HB4.out, -1, rfl, .inl rfl⟩
      · have d4 : decide (r2 - (o.size : Int) < 0) = false := by simpa using hq
        go_wp2
        go_ret
        exact ⟨HB4.out, _, rfl, .inr ⟨by omega, by omega, H5.out.1, H5.out.2, H8.out.1, H8.out.2, by omega⟩⟩

set_option maxHeartbeats 800000 in
theorem eqStore_any (v1 r1 v2 r2 : Value) (o : ByteArray) (vs : List Vr) (cs : List Cl) (w : World) (h1 : VrAt w v1 vs) (g1 : ClAt w r1 cs) (h2 : VrAt w v2 vs) (g2 : ClAt w r2 cs) (hl : vs.length ≤ 1048576) (hlr : cs.length ≤ 1048576) :
    Calls Try.prog 24 #[.agg #[v1, r1, .string o], .agg #[v2, r2, .string o]] w fun e w' => e = .returned (.bool true) ∧ Below w.heap.size w w' := by
  have CC : Hid (∀ w', Below w.heap.size w w' → Calls Try.prog 48 #[v1, v2] w' fun e w'' => e = .returned (.bool true) ∧ Below w'.heap.size w' w'') := fun w' hb => eqVrs_any v1 v2 vs w' (h1.keep hb) (h2.keep hb) hl
  have CR : Hid (∀ w', Below w.heap.size w w' → Calls Try.prog 49 #[r1, r2] w' fun e w'' => e = .returned (.bool true) ∧ Below w'.heap.size w' w'') := fun w' hb => eqCls_any r1 r2 cs w' (g1.keep hb) (g2.keep hb) hlr
  obtain ⟨a1, c1, rfl, -⟩ := h1
  obtain ⟨a2, c2, rfl, -⟩ := h2
  obtain ⟨d1, e1, rfl, -⟩ := g1
  obtain ⟨d2, e2, rfl, -⟩ := g2
  have HB : Hid (Below w.heap.size w ((w.alloc (.cells #[.slice a1 vs.length c1, .slice d1 cs.length e1, .string o] 40)).alloc (.cells #[.slice a2 vs.length c2, .slice d2 cs.length e2, .string o] 40))) := ((Below.refl _ _).alloc (Nat.le_refl _) _).alloc (by simp) _
  have R0 := s2_0 w (.cells #[.slice a1 vs.length c1, .slice d1 cs.length e1, .string o] 40) (.cells #[.slice a2 vs.length c2, .slice d2 cs.length e2, .string o] 40)
  have R1 := s2_1 w (.cells #[.slice a1 vs.length c1, .slice d1 cs.length e1, .string o] 40) (.cells #[.slice a2 vs.length c2, .slice d2 cs.length e2, .string o] 40)
  have hz : w.heap.size + 2 ≤ ((w.alloc (.cells #[.slice a1 vs.length c1, .slice d1 cs.length e1, .string o] 40)).alloc (.cells #[.slice a2 vs.length c2, .slice d2 cs.length e2, .string o] 40)).heap.size := by simp
  have HR : Hid _ := And.intro R0 R1
  clear R0 R1
  go_enter Try.func24, Try.ntmps24
  go_wp2_with fail
  generalize (w.alloc (.cells #[.slice a1 vs.length c1, .slice d1 cs.length e1, .string o] 40)).alloc (.cells #[.slice a2 vs.length c2, .slice d2 cs.length e2, .string o] 40) = W at *
  refine (CC.out _ HB.out).mono ?_
  rintro e w1 ⟨rfl, hb1⟩
  have x1 := blk_cell ((hb1.block w.heap.size (by omega)).trans HR.out.1) 1
  have x2 := blk_cell ((hb1.block (w.heap.size + 1) (by omega)).trans HR.out.2) 1
  simp only [List.getElem?_toArray, List.getElem?_cons_zero, List.getElem?_cons_succ] at x1 x2
  have HB1 : Hid (Below w.heap.size w w1) := HB.out.trans (hb1.mono HB.out.size)
  have HW1 : Hid (Below W.heap.size W w1) := hb1
  clear hb1 CC
  go_wp2_with fail
  refine (CR.out _ HB1.out).mono ?_
  rintro e w2 ⟨rfl, hb2⟩
  have HW2 : Hid (Below W.heap.size W w2) := HW1.out.trans (hb2.mono HW1.out.size)
  have R0 := (HW2.out.block w.heap.size (by omega)).trans HR.out.1
  have R1 := (HW2.out.block (w.heap.size + 1) (by omega)).trans HR.out.2
  have y2 := blk_cell R0 2
  have z2 := blk_cell R1 2
  simp only [List.getElem?_toArray, List.getElem?_cons_zero, List.getElem?_cons_succ] at y2 z2
  have HB2 : Hid (Below w.heap.size w w2) := HB1.out.trans (hb2.mono HB1.out.size)
  clear hb2 CR x1 x2 R0 R1 HW1 HW2 HR
  go_wp2
  go_ret
  exact ⟨rfl, HB2.out⟩

/-- The law's own copy of a store. -/
def StCopy (w : World) (v : Value) (B : Nat) (vs : List Vr) (cs : List Cl) (o : ByteArray) : Prop := ∃ g h, v = .agg #[.slice (some ⟨g, 0, none⟩) vs.length vs.length, .slice (some ⟨h, 0, none⟩) cs.length cs.length, .string o] ∧ B ≤ g ∧ B ≤ h ∧ g < h ∧ VrCopy w g vs.length vs vs.length ∧ ClCopy w h cs.length cs cs.length

set_option maxRecDepth 100000 in
set_option maxHeartbeats 4000000 in
theorem toStore_any (v rv : Value) (o : ByteArray) (vs : List Vr) (cs : List Cl) (w : World) (h : VrAt w v vs) (hr : ClAt w rv cs) (hk : vs.length ≤ 1048576) (hkr : cs.length ≤ 1048576) :
    Calls Try.prog 18 #[.agg #[v, rv, .string o]] w fun e w' => ∃ u, e = .returned u ∧ Below w.heap.size w w' ∧ StCopy w' u w.heap.size vs cs o := by
  have CC : Hid (∀ w' : World, Below w.heap.size w w' → Calls Try.prog 40 #[v] w' fun e w'' => e = .returned (.slice (some ⟨w'.heap.size, 0, none⟩) vs.length vs.length) ∧ Below w'.heap.size w' w'' ∧ VrCopy w'' w'.heap.size vs.length vs vs.length) :=
    fun w' hb => toVrs_any v vs w' (h.keep hb) hk
  have CR : Hid (∀ w' : World, Below w.heap.size w w' → Calls Try.prog 41 #[rv] w' fun e w'' => e = .returned (.slice (some ⟨w'.heap.size, 0, none⟩) cs.length cs.length) ∧ Below w'.heap.size w' w'' ∧ ClCopy w'' w'.heap.size cs.length cs cs.length) :=
    fun w' hb => toCls_any rv cs w' (hr.keep hb) hkr
  obtain ⟨ad, c, rfl, _⟩ := h
  obtain ⟨ra, rc, rfl, _⟩ := hr
  go_enter Try.func18, Try.ntmps18
  go_wp2_with fail
  refine (CC.out _ ((((Below.refl _ _).alloc (Nat.le_refl _) _).alloc (by simp) _).alloc (by simp; omega) _)).mono ?_
  rintro e w1 ⟨rfl, hb1, hk1⟩
  have R3 := hb1.block (w.heap.size + 1 + 1) (by simp)
  have R2 := hb1.block (w.heap.size + 1) (by simp)
  have R1 := hb1.block w.heap.size (by simp; omega)
  rw [alloc3_2] at R3
  rw [alloc3_1] at R2
  rw [alloc3_0s] at R1
  have HB1 : Hid (Below w.heap.size w w1) := ((((Below.refl _ _).alloc (Nat.le_refl _) _).alloc (by simp) _).alloc (by simp; omega) _).trans (hb1.mono (by simp; omega))
  have hs1 : w.heap.size + 1 + 1 + 1 < w1.heap.size := by have := blk_lt hk1.1.choose_spec.1; simpa using this
  simp only [World.size_alloc] at hk1
  have HK1 : Hid _ := hk1
  clear hk1 hb1 CC
  have c3 := blk_cell R3 0
  have f3 := blk_free R3 0
  have S3 := blk_set R3 0 (.slice (some ⟨w.heap.size + 1 + 1 + 1, 0, none⟩) vs.length vs.length)
  have S2 := (Below.heap_setCell w1 ⟨w.heap.size + 1 + 1, 0, none⟩ (.slice (some ⟨w.heap.size + 1 + 1 + 1, 0, none⟩) vs.length vs.length) (w.heap.size + 1) (by simp)).trans R2
  have S1 := (Below.heap_setCell w1 ⟨w.heap.size + 1 + 1, 0, none⟩ (.slice (some ⟨w.heap.size + 1 + 1 + 1, 0, none⟩) vs.length vs.length) w.heap.size (by simp; omega)).trans R1
  have a1 := blk_cell S1 1
  simp at c3 a1
  have HS3 : Hid _ := S3
  have HS2 : Hid _ := S2
  have HS1 : Hid _ := S1
  have HB2 : Hid (Below w.heap.size w (w1.setCell ⟨w.heap.size + 1 + 1, 0, none⟩ (.slice (some ⟨w.heap.size + 1 + 1 + 1, 0, none⟩) vs.length vs.length))) := HB1.out.setCell (by show _ ≤ w.heap.size + 1 + 1; omega) _
  have HK2 : Hid (VrCopy (w1.setCell ⟨w.heap.size + 1 + 1, 0, none⟩ (.slice (some ⟨w.heap.size + 1 + 1 + 1, 0, none⟩) vs.length vs.length)) (w.heap.size + 1 + 1 + 1) vs.length vs vs.length) := VrCopy.setFar HK1.out _ _ (by show w.heap.size + 1 + 1 < _; omega)
  have hs2 : w.heap.size + 1 + 1 + 1 < (w1.setCell ⟨w.heap.size + 1 + 1, 0, none⟩ (.slice (some ⟨w.heap.size + 1 + 1 + 1, 0, none⟩) vs.length vs.length)).heap.size := by simpa [World.setCell] using hs1
  clear S1 S2 S3 R1 R2 R3
  go_wp2_with fail
  refine (CR.out _ HB2.out).mono ?_
  generalize w1.setCell ⟨w.heap.size + 1 + 1, 0, none⟩ (.slice (some ⟨w.heap.size + 1 + 1 + 1, 0, none⟩) vs.length vs.length) = w2 at *
  rintro e w3 ⟨rfl, hb3, hk3⟩
  have R3 := (hb3.block (w.heap.size + 1 + 1) (by omega)).trans HS3.out
  have R2 := (hb3.block (w.heap.size + 1) (by omega)).trans HS2.out
  have R1 := (hb3.block w.heap.size (by omega)).trans HS1.out
  have HB3 : Hid (Below w.heap.size w w3) := HB2.out.trans (hb3.mono (by omega))
  have HN3 : Hid (VrCopy w3 (w.heap.size + 1 + 1 + 1) vs.length vs vs.length) := HK2.out.keep hb3
  have HR3 : Hid (ClCopy w3 w2.heap.size cs.length cs cs.length) := hk3
  clear hk3 hb3 HK2 HS3 HS2 HS1 HB2 HK1 HB1 CR c3 f3 a1
  obtain ⟨G, hG⟩ : ∃ G, G = w2.heap.size := ⟨_, rfl⟩
  rw [← hG] at HR3 hs2 ⊢
  clear hG
  simp only [List.setIfInBounds_toArray, List.set_cons_zero] at R3
  have d0 := blk_cell R3 0
  have d1 := blk_cell R3 1
  have d2 := blk_cell R3 2
  have f1 := blk_free R3 1
  have f2 := blk_free R3 2
  have a2 := blk_cell R1 2
  have b0 := blk_cell R2 0
  have b1 := blk_cell R2 1
  have b2 := blk_cell R2 2
  have g0 := blk_free R2 0
  have g1 := blk_free R2 1
  have g2 := blk_free R2 2
  simp only [List.getElem?_toArray, List.getElem?_cons_zero, List.getElem?_cons_succ] at d0 d1 d2 a2 b0 b1 b2
  have HT2 : Hid _ := R2
  clear R1 R2 R3
  go_wp2_with fail
  have K : ∀ (W : World) (j : Nat) (u : Value) {X : Option Obj}, W.heap[w.heap.size + 1]? = X → (W.setCell ⟨w.heap.size + 1 + 1, j, none⟩ u).heap[w.heap.size + 1]? = X := fun W j u X e => (Below.heap_setCell _ _ _ _ (by show w.heap.size + 1 ≠ w.heap.size + 1 + 1; omega)).trans e
  have Q := blk_set (blk_set (blk_set (K _ 2 (.string o) (K _ 1 (.slice (some ⟨G, 0, none⟩) cs.length cs.length) HT2.out)) 0 (.slice (some ⟨w.heap.size + 1 + 1 + 1, 0, none⟩) vs.length vs.length)) 1 (.slice (some ⟨G, 0, none⟩) cs.length cs.length)) 2 (.string o)
  refine bodyPost_ret (results_cell_row (p := 2) (ty := 40) rfl _ _ (w.heap.size + 1) 40 _ (0, 0) _ rfl Q Try.underlying40 rfl (by kernel_rfl)) rfl ?_
  refine ⟨_, rfl, ?_, w.heap.size + 1 + 1 + 1, G, rfl, by omega, by omega, by omega, ?_, ?_⟩
  · exact (((((HB3.out.setCell (by show _ ≤ w.heap.size + 1 + 1; omega) _).setCell (by show _ ≤ w.heap.size + 1 + 1; omega) _).setCell (by show _ ≤ w.heap.size + 1; omega) _).setCell (by show _ ≤ w.heap.size + 1; omega) _).setCell (by show _ ≤ w.heap.size + 1; omega) _)
  · exact (((((HN3.out.setFar _ _ (by show w.heap.size + 1 + 1 < _; omega)).setFar _ _ (by show w.heap.size + 1 + 1 < _; omega)).setFar _ _ (by show w.heap.size + 1 < _; omega)).setFar _ _ (by show w.heap.size + 1 < _; omega)).setFar _ _ (by show w.heap.size + 1 < _; omega))
  · exact (((((HR3.out.setFar _ _ (by show w.heap.size + 1 + 1 < _; omega)).setFar _ _ (by show w.heap.size + 1 + 1 < _; omega)).setFar _ _ (by show w.heap.size + 1 < _; omega)).setFar _ _ (by show w.heap.size + 1 < _; omega)).setFar _ _ (by show w.heap.size + 1 < _; omega))

end PartStS
end Go.Proofs.Ythnmopldpgdenaa
