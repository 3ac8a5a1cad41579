/- Records of 2 fields in memory (Instr): how great a row of them is, the law's own copy of it, two of the same. Rows of texts in memory: how great a row of them is, the law's own copy of it, two of the same. -/
import Derived.Test.YthnmopldpgdenaaMPTcZaa
import Derived.Deep.SlicePairs
import Derived.Deep.Strs
import Derived.Deep.Fields
import Derived.ProofKit
import Derived.OpenShut
import Derived.ChangeOld
namespace Go.Proofs.Ythnmopldpgdenaa
section PartCoI
open Go.RowKit

structure Ins where
  op : Int
  arg : Int
def Ins.no : Ins := ⟨0, 0⟩
instance : Inhabited Ins := ⟨Ins.no⟩
/-- The slice v leads to the records xs. -/
def InsAt (w : World) (v : Value) (xs : List Ins) : Prop := ∃ (a : Option Addr) (c : Nat), v = .slice a xs.length c ∧
  (0 < xs.length → ∃ b o, a = some ⟨b, o, none⟩ ∧ b < w.heap.size ∧ ∀ i, i < xs.length → w.cell? ⟨b, o + i * 2, none⟩ = some (.int .i64 (xs.getD i Ins.no).op) ∧ w.cell? ⟨b, o + i * 2 + 1, none⟩ = some (.int .i64 (xs.getD i Ins.no).arg))
theorem InsAt.keep {w w' : World} {v : Value} {xs : List Ins} (h : InsAt w v xs) (hb : Below w.heap.size w w') : InsAt w' v xs := by
  obtain ⟨ka, kc, rfl, f⟩ := h
  refine ⟨ka, kc, rfl, fun h0 => ?_⟩
  obtain ⟨b, o, rfl, hl, hc⟩ := f h0
  exact ⟨b, o, rfl, Nat.lt_of_lt_of_le hl hb.size, fun i hi => ⟨(hb.cell hl).trans ((hc i hi).1), (hb.cell hl).trans ((hc i hi).2)⟩⟩

theorem Try.infoIns : (Try.prog.info? 83).map (fun i => (i.zero, i.size, i.bytes)) = some (some (.agg #[.int .i64 0, .int .i64 0]), 2, 16) := by kernel_rfl
theorem makeIns_run (n : Nat) (h : n ≤ 1000000000) : ∃ M : Array Value, M.size = n * 2 ∧ ∀ W : World, (Instr.makeSlice 34 (.int .i64 (n : Int)) (.int .i64 (n : Int))).run Try.prog W = .ok (.slice (some ⟨W.heap.size, 0, none⟩) n n) (W.alloc (.cells M 83)) := by
  obtain ⟨i0, hi, hz0, hz1, hz2⟩ := info_parts Try.infoIns
  refine ⟨madeCells (Value.agg #[.int .i64 0, .int .i64 0]).cells (((n : Nat) : Int).toNat * i0.size), ?_, fun W => ?_⟩
  · rw [size_madeCells, hz1]; simp
  · have h := run_make (P := Try.prog) W 34 83 i0 _ Try.underlying34 hi hz0 .i64 .i64 (n : Int) (n : Int) (by omega) (by omega) (by rw [hz2]; omega) (by omega)
    simpa using h

set_option maxHeartbeats 800000 in
theorem toIns_any (x0 : Int) (x1 : Int) (w : World) :
    Calls Try.prog 60 #[.agg #[.int .i64 x0, .int .i64 x1]] w fun e w' => e = .returned (.agg #[.int .i64 x0, .int .i64 x1]) ∧ Below w.heap.size w w' := by
  go_enter Try.func60, Try.ntmps60
  go_wp2_with fail
  refine bodyPost_ret (results_cell_row (p := 2) (ty := 83) rfl _ _ (w.heap.size + 1) 83 _ (0, 0) _ rfl (alloc3_1 _ _ _ _) Try.underlying83 rfl (by kernel_rfl)) rfl ?_
  exact ⟨rfl, (((Below.refl _ _).alloc (Nat.le_refl _) _).alloc (by simp) _).alloc (by simp; omega) _⟩

/-- The law's own copy of the records xs: its row in block g. -/
def InsCopy (w : World) (g n : Nat) (xs : List Ins) (k : Nat) : Prop :=
  (∃ arr, w.heap[g]? = some (.cells arr 83 (0, 0)) ∧ arr.size = n * 2) ∧
  ∀ i, i < k → w.cell? ⟨g, i * 2, none⟩ = some (.int .i64 (xs.getD i Ins.no).op) ∧ w.cell? ⟨g, i * 2 + 1, none⟩ = some (.int .i64 (xs.getD i Ins.no).arg)
theorem InsCopy.keep {w w' : World} {g n k : Nat} {xs : List Ins} (h : InsCopy w g n xs k) (hb : Below w.heap.size w w') : InsCopy w' g n xs k := by
  obtain ⟨⟨arr, ha, hs⟩, hQ⟩ := h
  have hl := blk_lt ha
  exact ⟨⟨arr, (hb.block g hl).trans ha, hs⟩, fun i hi => ⟨(hb.cell hl).trans ((hQ i hi).1), (hb.cell hl).trans ((hQ i hi).2)⟩⟩
theorem InsCopy.at {w : World} {g : Nat} {xs : List Ins} (h : InsCopy w g xs.length xs xs.length) (c : Nat) : InsAt w (.slice (some ⟨g, 0, none⟩) xs.length c) xs := by
  obtain ⟨⟨arr, ha, hs⟩, hQ⟩ := h
  refine ⟨_, _, rfl, fun _ => ⟨g, 0, rfl, blk_lt ha, fun i hi => ?_⟩⟩
  rw [Nat.zero_add]
  exact hQ i hi
theorem InsCopy.setFar {w : World} {g n k : Nat} {xs : List Ins} (h : InsCopy w g n xs k) (p : Addr) (u : Value) (hp : p.block < g) : InsCopy (w.setCell p u) g n xs k := by
  obtain ⟨⟨arr, ha, hs⟩, hQ⟩ := h
  have hO : ∀ j, g ≤ j → (w.setCell p u).heap[j]? = w.heap[j]? := fun j hj => Below.heap_setCell _ _ _ _ (by omega)
  have hC : ∀ j, (w.setCell p u).cell? ⟨g, j, none⟩ = w.cell? ⟨g, j, none⟩ := fun j => by rw [blk_cell ((hO g (Nat.le_refl _)).trans ha), blk_cell ha]
  exact ⟨⟨arr, (hO g (Nat.le_refl _)).trans ha, hs⟩, fun i hi => ⟨(hC _).trans ((hQ i hi).1), (hC _).trans ((hQ i hi).2)⟩⟩
theorem InsCopy.more {w w1 : World} {g n k : Nat} {xs : List Ins} (h : InsCopy w g n xs k) (hk : k < n) (hb : Below w.heap.size w w1) :
    InsCopy ((w1.setCell ⟨g, k * 2, none⟩ (.int .i64 (xs.getD k Ins.no).op)).setCell ⟨g, k * 2 + 1, none⟩ (.int .i64 (xs.getD k Ins.no).arg)) g n xs (k + 1) := by
  obtain ⟨⟨arr, ha, hs⟩, hQ⟩ := h.keep hb
  have R := (blk_set (blk_set ha (k * 2) (.int .i64 (xs.getD k Ins.no).op)) (k * 2 + 1) (.int .i64 (xs.getD k Ins.no).arg))
  obtain ⟨w2, hw2⟩ : ∃ w2, w2 = ((w1.setCell ⟨g, k * 2, none⟩ (.int .i64 (xs.getD k Ins.no).op)).setCell ⟨g, k * 2 + 1, none⟩ (.int .i64 (xs.getD k Ins.no).arg)) := ⟨_, rfl⟩
  rw [← hw2] at R ⊢
  clear hw2
  have hC : ∀ j, j < k * 2 → w2.cell? ⟨g, j, none⟩ = w1.cell? ⟨g, j, none⟩ := by
    intro j hj
    rw [blk_cell R, blk_cell ha]
    simp [Array.getElem?_setIfInBounds]
    rw [if_neg (by omega), if_neg (by omega)]
  refine ⟨⟨_, R, by simpa using hs⟩, fun i hi => ?_⟩
  by_cases hik : i = k
  · subst hik
    refine ⟨?_, ?_⟩
    · rw [blk_cell R]; simp [Array.getElem?_setIfInBounds]; omega
    · rw [blk_cell R]; simp [Array.getElem?_setIfInBounds]; omega
  · obtain ⟨h0, h1⟩ := hQ i (by omega)
    exact ⟨(hC _ (by omega)).trans h0, (hC _ (by omega)).trans h1⟩

set_option maxHeartbeats 800000 in
theorem toInss_any (v : Value) (xs : List Ins) (w : World) (h : InsAt w v xs) (hk : xs.length ≤ 1048576) :
    Calls Try.prog 39 #[v] w fun e w' => e = .returned (.slice (some ⟨w.heap.size, 0, none⟩) xs.length xs.length) ∧ Below w.heap.size w w' ∧ InsCopy w' w.heap.size xs.length xs xs.length := by
  obtain ⟨ad, c, rfl, f⟩ := h
  obtain ⟨n, hn⟩ : ∃ n, n = xs.length := ⟨_, rfl⟩
  rw [← hn] at f hk ⊢
  obtain ⟨M, hM, hmk⟩ := makeIns_run n (by omega)
  have HW : Hid (InsCopy (w.alloc (.cells M 83)) w.heap.size n xs 0) := ⟨⟨M, heap_alloc_new w (.cells M 83), hM⟩, fun i hi => by omega⟩
  by_cases h0 : n = 0
  · subst h0
    have hmk0 : ∀ W : World, (Instr.makeSlice 34 (.int .i64 0) (.int .i64 0)).run Try.prog W = .ok (.slice (some ⟨W.heap.size, 0, none⟩) 0 0) (W.alloc (.cells M 83)) := hmk
    clear f hn hM hmk
    go_enter Try.func39, Try.ntmps39
    go_wp2
    refine wp_loop_rounds 1 ?_
    rw [rounds_succ]
    go_wp2
    go_ret
    exact ⟨rfl, (Below.refl _ _).alloc (Nat.le_refl _) _, HW.out⟩
  · obtain ⟨b, o, rfl, hb, hc⟩ := f (by omega)
    have HC : Hid (∀ i, i < n → w.cell? ⟨b, o + i * 2, none⟩ = some (.int .i64 (xs.getD i Ins.no).op) ∧ w.cell? ⟨b, o + i * 2 + 1, none⟩ = some (.int .i64 (xs.getD i Ins.no).arg)) := hc
    clear f hn hM hc
    go_enter Try.func39, Try.ntmps39
    go_wp2
    clear hmk
    go_loopw [4] (fun i wr => ∃ k : Nat, i = .int .i64 (k : Int) ∧ k ≤ n ∧ Below w.heap.size w wr ∧ w.heap.size < wr.heap.size ∧ Hid (InsCopy wr w.heap.size n xs k)) (fun i _ => n - (intOf i).toNat)
    case atStart => exact ⟨0, rfl, by omega, (Below.refl _ _).alloc (Nat.le_refl _) _, by simp, HW.out⟩
    case round =>
      obtain ⟨k, rfl, hk2, hbel, hsz, HH⟩ := hrel
      by_cases hlt : k < n
      · obtain ⟨p, hp⟩ : ∃ p, p = xs.getD k Ins.no := ⟨_, rfl⟩
        have hpc := HC.out k hlt
        rw [← hp] at hpc
        obtain ⟨c0, c1⟩ := hpc
        have e0 := (hbel.cell hb).trans c0
        have e1 := (hbel.cell hb).trans c1
        have CC : Hid (Calls Try.prog 60 #[.agg #[.int .i64 p.op, .int .i64 p.arg]] wr fun e w' => e = .returned (.agg #[.int .i64 p.op, .int .i64 p.arg]) ∧ Below wr.heap.size wr w') := toIns_any _ _ wr
        have CM : Hid (∀ (w1 : World), Below wr.heap.size wr w1 → InsCopy ((w1.setCell ⟨w.heap.size, k * 2, none⟩ (.int .i64 p.op)).setCell ⟨w.heap.size, k * 2 + 1, none⟩ (.int .i64 p.arg)) w.heap.size n xs (k + 1)) := by
          rw [hp]
          exact fun w1 h1 => HH.out.more hlt h1
        clear hp c0 c1
        obtain ⟨⟨arr, ha, hsa⟩, _⟩ := HH.out
        obtain ⟨x0, x1⟩ := p
        simp only at e0 e1 CC CM
        have i1 : (k : Int) < (n : Int) := by omega
        go_wp2_with fail
        refine CC.out.mono ?_
        rintro e w1 ⟨rfl, hb1⟩
        have R := (hb1.block w.heap.size hsz).trans ha
        have c0 := blk_cell R (k * 2)
        have c1 := blk_cell R (k * 2 + 1)
        have f0 := blk_free R (k * 2)
        have f1 := blk_free R (k * 2 + 1)
        rw [Array.getElem?_eq_getElem (by omega)] at c0 c1
        have HCM : Hid _ := CM.out w1 hb1
        clear R ha CC CM
        go_wp2_with fail
        go_roundw
        case rel => exact ⟨k + 1, by go_num, by omega, (((hbel.trans (hb1.mono (by omega))).setCell (by exact Nat.le_refl _) _).setCell (by exact Nat.le_refl _) _), by have := hb1.size; simp [World.setCell]; omega, HCM.out⟩
        case measure => simp [intOf]; omega
      · obtain rfl : k = n := by omega
        go_wp2
        go_ret
        exact ⟨rfl, hbel, HH.out⟩


set_option maxHeartbeats 800000 in
theorem eqIns_any (x0 : Int) (x1 : Int) (w : World) :
    Calls Try.prog 66 #[.agg #[.int .i64 x0, .int .i64 x1], .agg #[.int .i64 x0, .int .i64 x1]] w fun e w' => e = .returned (.bool true) ∧ Below w.heap.size w w' := by
  have h0 : (x0 != x0) = false := by simp
  have h1 : (x1 != x1) = false := by simp
  go_enter Try.func66, Try.ntmps66
  go_wp2
  go_ret
  exact ⟨rfl, ((Below.refl _ _).alloc (Nat.le_refl _) _).alloc (by simp) _⟩

set_option maxHeartbeats 2000000 in
theorem eqInss_any (v1 v2 : Value) (xs : List Ins) (w : World) (h1 : InsAt w v1 xs) (h2 : InsAt w v2 xs) (hl : xs.length ≤ 1048576) :
    Calls Try.prog 47 #[v1, v2] w fun e w' => e = .returned (.bool true) ∧ Below w.heap.size w w' := by
  obtain ⟨a1, c1, rfl, f1⟩ := h1
  obtain ⟨a2, c2, rfl, f2⟩ := h2
  obtain ⟨n, hn⟩ : ∃ n, n = xs.length := ⟨_, rfl⟩
  rw [← hn] at f1 f2 hl ⊢
  have hq : ((n : Int) != (n : Int)) = false := by simp
  by_cases h0 : n = 0
  · subst h0
    clear f1 f2 hn
    go_enter Try.func47, Try.ntmps47
    go_wp2
    refine wp_loop_rounds 1 ?_
    rw [rounds_succ]
    go_wp2
    go_ret
    exact ⟨rfl, Below.refl _ _⟩
  · obtain ⟨g1, o1, rfl, l1, k1⟩ := f1 (by omega)
    obtain ⟨g2, o2, rfl, l2, k2⟩ := f2 (by omega)
    have K1 : Hid (∀ i, i < n → w.cell? ⟨g1, o1 + i * 2, none⟩ = some (.int .i64 (xs.getD i Ins.no).op) ∧ w.cell? ⟨g1, o1 + i * 2 + 1, none⟩ = some (.int .i64 (xs.getD i Ins.no).arg)) := k1
    have K2 : Hid (∀ i, i < n → w.cell? ⟨g2, o2 + i * 2, none⟩ = some (.int .i64 (xs.getD i Ins.no).op) ∧ w.cell? ⟨g2, o2 + i * 2 + 1, none⟩ = some (.int .i64 (xs.getD i Ins.no).arg)) := k2
    clear k1 k2 f1 f2 hn
    go_enter Try.func47, Try.ntmps47
    go_wp2
    go_loopw [5] (fun i wr => ∃ k : Nat, i = .int .i64 (k : Int) ∧ k ≤ n ∧ Below w.heap.size w wr) (fun i _ => n - (intOf i).toNat)
    case atStart => exact ⟨0, rfl, by omega, Below.refl _ _⟩
    case round =>
      obtain ⟨k, rfl, hk, hbel⟩ := hrel
      have hsz := hbel.size
      by_cases hlt : k < n
      · have q1 := K1.out k hlt
        have q2 := K2.out k hlt
        obtain ⟨p, hp⟩ : ∃ p, p = xs.getD k Ins.no := ⟨_, rfl⟩
        rw [← hp] at q1 q2
        clear hp
        have y0 := (hbel.cell l1).trans q1.1
        have y1 := (hbel.cell l1).trans q1.2
        have z0 := (hbel.cell l2).trans q2.1
        have z1 := (hbel.cell l2).trans q2.2
        obtain ⟨x0, x1⟩ := p
        simp only at y0 z0 y1 z1
        have CC : Hid (∀ w', Calls Try.prog 66 #[.agg #[.int .i64 x0, .int .i64 x1], .agg #[.int .i64 x0, .int .i64 x1]] w' fun e w'' => e = .returned (.bool true) ∧ Below w'.heap.size w' w'') := fun w' => eqIns_any x0 x1 w'
        clear q1 q2
        have i1 : (k : Int) < (n : Int) := by omega
        have i0 : (0 : Int) ≤ (k : Int) := by omega
        go_wp2_with fail
        go_region_with ((go_at_call 66; refine (CC.out _).mono ?_; rintro e w1 ⟨rfl, hb1⟩))
        all_goals
          go_wp2
          go_roundw
          case rel => exact ⟨k + 1, by go_num, by omega, hbel.trans (((Below.refl _ _).drew.trans hb1).mono hsz)⟩
          case measure => simp [intOf]; omega
      · go_wp2
        go_ret
        exact ⟨rfl, hbel⟩


set_option maxHeartbeats 400000 in
theorem szInss_any (v : Value) (xs : List Ins) (l : Int) (w : World) (h : InsAt w v xs) (hl0 : 0 ≤ l) (hl : l ≤ 1048576) (hk : xs.length ≤ maxLen) :
    Calls Try.prog 34 #[v, .int .i64 l] w fun e w' => w' = w ∧ ∃ r : Int, e = .returned (.int .i64 r) ∧ (r = -1 ∨ 0 ≤ r ∧ r ≤ l ∧ xs.length ≤ 1048576) := by
  obtain ⟨ka, kc, rfl, _⟩ := h
  unfold maxLen at hk
  by_cases hq : l - (xs.length : Int) < 0
  · have d : decide (l - (xs.length : Int) < 0) = true := by simpa using hq
    go_enter Try.func34, Try.ntmps34
    go_wp2
    go_ret
    exact ⟨rfl, -1, rfl, .inl rfl⟩
  · have d : decide (l - (xs.length : Int) < 0) = false := by simpa using hq
    go_enter Try.func34, Try.ntmps34
    go_wp2
    go_ret
    exact ⟨rfl, _, rfl, .inr ⟨by omega, by omega, by omega⟩⟩


open Go.ChangeShapes Go.WideShapes Go.ChangeAt Go.Deep in
set_option maxRecDepth 100000 in
theorem InsOpen {H : Type} {enc : TypeId × Value → H} {W : World} {n : Nat} {s : Value} {x : DataW H × List MemPlace} (h : DataW.trod enc Try.prog W 0 (fun _ => true) true n 23 [s] = some x) :
    ∃ xs : List Ins, InsAt W s xs ∧ xs.length ≤ maxLen := by
  have hP : Try.prog.cellsOf 101 = 2 := by kernel_rfl
  rcases open_slice Try.underlying23 h with ⟨hcs, _⟩ | ⟨a, len, cap, m, n', D, Pl, hcs, hb, hl, hm, hmm, hx, hel⟩
  · simp at hcs
    subst hcs
    exact ⟨[], ⟨none, 0, rfl, fun h => by simp at h⟩, by simp⟩
  · simp at hcs
    subst hcs
    simp at hmm
    subst hmm
    have each : ∀ i, i < len → ∃ q : Ins, (W.cell? (a.add (i * 2)) = some (.int .i64 q.op) ∧ W.cell? (a.add (i * 2 + 1)) = some (.int .i64 q.arg)) := by
      intro i hi
      obtain ⟨cs', h1, h2⟩ := hel i (by omega)
      rw [hP] at h1
      obtain ⟨_, hlen, hcell⟩ := World.cells?_some h1
      obtain ⟨ys, n2, _, _, _, hyl, hff⟩ := DataW.trod_struct Try.underlying101 h2
      match cs', hlen, ys, hyl with
      | [v0, v1], _, [y0, y1], _ =>
        have e0 := hcell 0 (by omega)
        have e1 := hcell 1 (by omega)
        rw [add_add] at e0 e1
        have qi : Try.prog.cellsOf 3 = 1 := by kernel_rfl
        have k0 := hff 0 _ rfl
        have k1 := hff 1 _ rfl
        simp [qi] at k0 k1
        obtain ⟨o0, u0, _, _⟩ := DataW.trod_int Try.underlying3 k0
        obtain ⟨o1, u1, _, _⟩ := DataW.trod_int Try.underlying3 k1
        simp at u0 u1
        subst u0 u1
        exact ⟨⟨o0, o1⟩, ⟨by simpa using e0, by simpa using e1⟩⟩
    obtain ⟨q, hq⟩ := choose_lt each
    have hlen : ((List.range len).map q).length = len := by simp
    have hget : ∀ i, i < len → ((List.range len).map q).getD i Ins.no = q i := by intro i hi; simp [hi]
    refine ⟨(List.range len).map q, ⟨some a, m, by rw [hlen], fun h0 => ?_⟩, by rw [hlen]; omega⟩
    rw [hlen] at h0 ⊢
    obtain ⟨b, off, spot⟩ := a
    have hc0 := (hq 0 h0).1
    have hspot : spot = none := by simpa [Addr.add] using World.cell?_spot hc0
    subst hspot
    have hadd : ∀ j, (⟨b, off, none⟩ : Addr).add j = ⟨b, off + j, none⟩ := fun j => by unfold Addr.add; split <;> simp_all
    refine ⟨b, off, rfl, ?_, fun i hi => ?_⟩
    · rw [hadd] at hc0
      exact World.block_lt_of_cell? W _ hc0
    · obtain ⟨h0, h1⟩ := (hq i hi)
      rw [hadd] at h0 h1
      rw [hget i hi]
      exact ⟨h0, by rw [Nat.add_assoc]; exact h1⟩
end PartCoI
section PartCoS
open Go.RowKit

/-- The slice v leads to the texts ts. -/
def TsAt (w : World) (v : Value) (ts : List ByteArray) : Prop := ∃ (ka : Option Addr) (kc : Nat), v = .slice ka ts.length kc ∧
  (0 < ts.length → ∃ b o, ka = some ⟨b, o, none⟩ ∧ b < w.heap.size ∧ ∀ i, i < ts.length → w.cell? ⟨b, o + i, none⟩ = some (.string (ts.getD i ByteArray.empty)))
theorem TsAt.keep {w w' : World} {v : Value} {ts : List ByteArray} (h : TsAt w v ts) (hb : Below w.heap.size w w') : TsAt w' v ts := by
  obtain ⟨ka, kc, rfl, f⟩ := h
  refine ⟨ka, kc, rfl, fun h0 => ?_⟩
  obtain ⟨b, o, rfl, hl, hc⟩ := f h0
  exact ⟨b, o, rfl, Nat.lt_of_lt_of_le hl hb.size, fun i hi => (hb.cell hl).trans (hc i hi)⟩
/-- No text is too great. -/
def TsSmall (ts : List ByteArray) (n : Nat) : Prop := ∀ i, i < n → (ts.getD i ByteArray.empty).size ≤ 1048576

set_option maxHeartbeats 800000 in
theorem szTs_any (v : Value) (ts : List ByteArray) (l : Int) (w : World) (h : TsAt w v ts) (hl0 : 0 ≤ l) (hl : l ≤ 1048576) (hk : ts.length ≤ maxLen) (hs : ∀ i, i < ts.length → (ts.getD i ByteArray.empty).size ≤ maxLen) :
    Calls Try.prog 12 #[v, .int .i64 l] w fun e w' => Below w.heap.size w w' ∧ ∃ r : Int, e = .returned (.int .i64 r) ∧ (r = -1 ∨ 0 ≤ r ∧ r ≤ l ∧ ts.length ≤ 1048576 ∧ TsSmall ts ts.length) := by
  unfold maxLen at hk hs
  obtain ⟨ad, c, rfl, f⟩ := h
  obtain ⟨n, hn⟩ : ∃ n, n = ts.length := ⟨_, rfl⟩
  rw [← hn] at f hk hs ⊢
  have HS : Hid (∀ i, i < n → (ts.getD i ByteArray.empty).size ≤ 9223372036854775807) := fun i hi => Nat.le_trans (hs i hi) (by decide)
  clear hs
  by_cases hq : l - (n : Int) < 0
  · have d : decide (l - (n : Int) < 0) = true := by simpa using hq
    clear f hn
    go_enter Try.func12, Try.ntmps12
    go_wp2
    go_ret
    exact ⟨Below.refl _ _, -1, rfl, .inl rfl⟩
  · have d : decide (l - (n : Int) < 0) = false := by simpa using hq
    have hn2 : n ≤ 1048576 := by omega
    by_cases h0 : n = 0
    · subst h0
      clear f hn HS
      have d : decide (l - ((0 : Nat) : Int) < 0) = false := by simpa using hq
      go_enter Try.func12, Try.ntmps12
      go_wp2
      refine wp_loop_rounds 1 ?_
      rw [rounds_succ]
      go_wp2
      go_ret
      exact ⟨Below.refl _ _, _, rfl, .inr ⟨by omega, by omega, by omega, fun i hi => by omega⟩⟩
    · obtain ⟨b, o, rfl, hb, hc⟩ := f (by omega)
      have HC : Hid (∀ i, i < n → w.cell? ⟨b, o + i, none⟩ = some (.string (ts.getD i ByteArray.empty))) := hc
      clear hc f hn
      go_enter Try.func12, Try.ntmps12
      go_wp2
      go_loopw [1, 5] (fun q i wr => ∃ (k : Nat) (r : Int), i = .int .i64 (k : Int) ∧ q = .int .i64 r ∧ 0 ≤ r ∧ r ≤ l ∧ k ≤ n ∧ Below w.heap.size w wr ∧ Hid (TsSmall ts k)) (fun _ i _ => n - (intOf i).toNat)
      case atStart => exact ⟨0, _, rfl, rfl, by omega, by omega, by omega, Below.refl _ _, fun i hi => by omega⟩
      case round =>
        obtain ⟨k, r, rfl, rfl, hr0, hr1, hk, hbel, HM⟩ := hrel
        by_cases hlt : k < n
        · have c0 := (hbel.cell hb).trans (HC.out k hlt)
          have hz := HS.out k hlt
          have HSM : Hid ((ts.getD k ByteArray.empty).size ≤ 1048576 → TsSmall ts (k + 1)) := by
            intro h i hi
            by_cases hik : i = k
            · subst hik; exact h
            · exact HM.out i (by omega)
          generalize ts.getD k ByteArray.empty = t at *
          have i1 : (k : Int) < (n : Int) := by omega
          by_cases h3 : r - (t.size : Int) < 0
          · have d3 : decide (r - (t.size : Int) < 0) = true := by simpa using h3
            go_wp2
            go_ret
            exact ⟨hbel, -1, rfl, .inl rfl⟩
          · have d3 : decide (r - (t.size : Int) < 0) = false := by simpa using h3
            go_wp2
            go_roundw
            case rel => exact ⟨k + 1, r - (t.size : Int), by go_num, rfl, by omega, by omega, by omega, hbel, HSM.out (by omega)⟩
            case measure => simp [intOf]; omega
        · obtain rfl : k = n := by omega
          go_wp2
          go_ret
          exact ⟨hbel, _, rfl, .inr ⟨hr0, hr1, by omega, HM.out⟩⟩

def tsv (t : ByteArray) : Value := .string t
/-- Block q holds the texts ts, and no more. -/
def TsBlk (w : World) (q : Nat) (ts : List ByteArray) : Prop := w.heap[q]? = some (.cells (ts.map tsv).toArray 9 (0, 0))
theorem TsBlk.at {w : World} {q : Nat} {ts : List ByteArray} (h : TsBlk w q ts) (c : Nat) : TsAt w (.slice (some ⟨q, 0, none⟩) ts.length c) ts := by
  refine ⟨_, _, rfl, fun _ => ⟨q, 0, rfl, blk_lt h, fun i hi => ?_⟩⟩
  rw [blk_cell h, Nat.zero_add]
  simp [hi, tsv]
theorem TsBlk.keep {w w' : World} {q : Nat} {ts : List ByteArray} (h : TsBlk w q ts) (hb : Below w.heap.size w w') : TsBlk w' q ts := (hb.block q (blk_lt h)).trans h
theorem TsBlk.setFar {w : World} {q : Nat} {ts : List ByteArray} (h : TsBlk w q ts) (p : Addr) (u : Value) (hp : p.block < q) : TsBlk (w.setCell p u) q ts := (Below.heap_setCell _ _ _ _ (by omega)).trans h
theorem Try.infoTs : (Try.prog.info? 9).map (fun i => (i.zero, i.size, i.bytes)) = some (some (.string ByteArray.empty), 1, 16) := by kernel_rfl
theorem makeTs_run (n : Nat) (h : n ≤ 1000000000) : ∃ M : Array Value, M = ((List.replicate n ByteArray.empty).map tsv).toArray ∧ ∀ W : World, (Instr.makeSlice 22 (.int .i64 (n : Int)) (.int .i64 (n : Int))).run Try.prog W = .ok (.slice (some ⟨W.heap.size, 0, none⟩) n n) (W.alloc (.cells M 9)) := by
  obtain ⟨i0, hi, hz0, hz1, hz2⟩ := info_parts Try.infoTs
  refine ⟨madeCells (Value.string ByteArray.empty).cells (((n : Nat) : Int).toNat * i0.size), ?_, fun W => ?_⟩
  · rw [hz1]
    have := toList_madeCells_one (.string ByteArray.empty) n
    simp only [Int.toNat_natCast, Nat.mul_one, List.map_replicate]
    apply Array.ext'
    exact this.trans (by simp [tsv])
  · have h := run_make (P := Try.prog) W 22 9 i0 (.string ByteArray.empty) Try.underlying22 hi hz0 .i64 .i64 (n : Int) (n : Int) (by omega) (by omega) (by rw [hz2]; omega) (by omega)
    simpa using h
/-- The first k texts, and empty ones. -/
def halfT (ks : List ByteArray) (k : Nat) : List ByteArray := ks.take k ++ List.replicate (ks.length - k) ByteArray.empty
theorem halfT_set (ks : List ByteArray) (k : Nat) (h : k < ks.length) : (halfT ks k).set k (ks.getD k ByteArray.empty) = halfT ks (k + 1) := by
  unfold halfT
  rw [List.set_append_right _ _ (by simp; omega)]
  have e1 : k - (ks.take k).length = 0 := by simp; omega
  rw [e1, show ks.length - k = (ks.length - (k + 1)) + 1 by omega, List.replicate_succ, List.set_cons_zero, List.take_succ_eq_append_getElem h, List.append_assoc]
  simp [h]

set_option maxHeartbeats 800000 in
theorem toTs_any (v : Value) (ks : List ByteArray) (w : World) (h : TsAt w v ks) (hk : ks.length ≤ 1048576) :
    Calls Try.prog 17 #[v] w fun e w' => e = .returned (.slice (some ⟨w.heap.size, 0, none⟩) ks.length ks.length) ∧ Below w.heap.size w w' ∧ TsBlk w' w.heap.size ks := by
  obtain ⟨ka, kc, rfl, f⟩ := h
  obtain ⟨n, hn⟩ : ∃ n, n = ks.length := ⟨_, rfl⟩
  have HN : Hid (n = ks.length) := hn
  rw [← hn] at f hk ⊢
  obtain ⟨M, hM, hmk⟩ := makeTs_run n (by omega)
  have hM2 : M = ((halfT ks 0).map tsv).toArray := by rw [hM, hn]; simp [halfT]
  have hnew : (w.alloc (.cells M 9)).heap[w.heap.size]? = some (.cells ((halfT ks 0).map tsv).toArray 9 (0, 0)) := by
    have := heap_alloc_new w (.cells M 9)
    rw [this, hM2]
  by_cases h0 : n = 0
  · subst h0
    have HK : Hid (TsBlk (w.alloc (.cells M 9)) w.heap.size ks) := by
      show _ = _
      rw [hnew, List.eq_nil_of_length_eq_zero hn.symm]
      rfl
    have hmk0 : ∀ W : World, (Instr.makeSlice 22 (.int .i64 0) (.int .i64 0)).run Try.prog W = .ok (.slice (some ⟨W.heap.size, 0, none⟩) 0 0) (W.alloc (.cells M 9)) := hmk
    clear f hn hM hnew hM2 hmk
    go_enter Try.func17, Try.ntmps17
    go_wp2
    refine wp_loop_rounds 1 ?_
    rw [rounds_succ]
    go_wp2
    go_ret
    exact ⟨rfl, (Below.refl _ _).alloc (Nat.le_refl _) _, HK.out⟩
  · obtain ⟨b, o, rfl, hb, hc⟩ := f (by omega)
    have HC : Hid (∀ i, i < n → w.cell? ⟨b, o + i, none⟩ = some (.string (ks.getD i ByteArray.empty))) := hc
    have HW : Hid ((w.alloc (.cells M 9)).heap[w.heap.size]? = some (.cells ((halfT ks 0).map tsv).toArray 9 (0, 0))) := hnew
    clear f hn hM hnew hM2 hc
    go_enter Try.func17, Try.ntmps17
    go_wp2
    clear hmk
    go_loopw [4] (fun i wr => ∃ k : Nat, i = .int .i64 (k : Int) ∧ k ≤ n ∧ Below w.heap.size w wr ∧ Hid (wr.heap[w.heap.size]? = some (.cells ((halfT ks k).map tsv).toArray 9 (0, 0)))) (fun i _ => n - (intOf i).toNat)
    case atStart => exact ⟨0, rfl, by omega, (Below.refl _ _).alloc (Nat.le_refl _) _, HW.out⟩
    case round =>
      obtain ⟨k, rfl, hk2, hbel, HH⟩ := hrel
      by_cases hlt : k < n
      · have hlen : (halfT ks k).length = n := by have := HN.out; simp [halfT]; omega
        have c1 := (hbel.cell hb).trans (HC.out k hlt)
        have c2 : wr.cell? ⟨w.heap.size, k, none⟩ = some (tsv ((halfT ks k).getD k ByteArray.empty)) := by rw [blk_cell HH.out]; simp [hlen, hlt]
        have f2 := blk_free HH.out k
        have HS := blk_set HH.out k (tsv (ks.getD k ByteArray.empty))
        have HS2 : Hid ((wr.setCell ⟨w.heap.size, k, none⟩ (.string (ks.getD k ByteArray.empty))).heap[w.heap.size]? = some (.cells ((halfT ks (k + 1)).map tsv).toArray 9 (0, 0))) := by
          show _ = _
          rw [← halfT_set ks k (by rw [← HN.out]; exact hlt)]
          rw [show (Value.string (ks.getD k ByteArray.empty)) = tsv (ks.getD k ByteArray.empty) from rfl, HS]
          simp
        clear HS hlen
        have i1 : (k : Int) < (n : Int) := by omega
        unfold tsv at c2
        go_wp2
        go_roundw
        case rel => exact ⟨k + 1, by go_num, by omega, hbel.setCell (Nat.le_refl _) _, HS2.out⟩
        case measure => simp [intOf]; omega
      · obtain rfl : k = n := by omega
        have HK : Hid (TsBlk wr w.heap.size ks) := by
          show _ = _
          rw [HH.out, HN.out]
          simp [halfT]
        go_wp2
        go_ret
        exact ⟨rfl, hbel, HK.out⟩

set_option maxHeartbeats 800000 in
theorem eqTs_any (v1 v2 : Value) (ks : List ByteArray) (w : World) (h1 : TsAt w v1 ks) (h2 : TsAt w v2 ks) (hl : ks.length ≤ 1048576) :
    Calls Try.prog 23 #[v1, v2] w fun e w' => e = .returned (.bool true) ∧ Below w.heap.size w w' := by
  obtain ⟨a1, c1, rfl, f1⟩ := h1
  obtain ⟨a2, c2, rfl, f2⟩ := h2
  obtain ⟨n, hn⟩ : ∃ n, n = ks.length := ⟨_, rfl⟩
  rw [← hn] at f1 f2 hl ⊢
  have hq : ((n : Int) != (n : Int)) = false := by simp
  by_cases h0 : n = 0
  · subst h0
    clear f1 f2 hn
    go_enter Try.func23, Try.ntmps23
    go_wp2
    refine wp_loop_rounds 1 ?_
    rw [rounds_succ]
    go_wp2
    go_ret
    exact ⟨rfl, Below.refl _ _⟩
  · obtain ⟨g1, o1, rfl, l1, k1⟩ := f1 (by omega)
    obtain ⟨g2, o2, rfl, l2, k2⟩ := f2 (by omega)
    have K1 : Hid (∀ j, j < n → w.cell? ⟨g1, o1 + j, none⟩ = some (.string (ks.getD j ByteArray.empty))) := k1
    have K2 : Hid (∀ j, j < n → w.cell? ⟨g2, o2 + j, none⟩ = some (.string (ks.getD j ByteArray.empty))) := k2
    clear k1 k2 f1 f2 hn
    go_enter Try.func23, Try.ntmps23
    go_wp2
    go_loopw [5] (fun i wr => ∃ k : Nat, i = .int .i64 (k : Int) ∧ k ≤ n ∧ Below w.heap.size w wr) (fun i _ => n - (intOf i).toNat)
    case atStart => exact ⟨0, rfl, by omega, Below.refl _ _⟩
    case round =>
      obtain ⟨k, rfl, hk, hbel⟩ := hrel
      by_cases hlt : k < n
      · have c1 := (hbel.cell l1).trans (K1.out k hlt)
        have c2 := (hbel.cell l2).trans (K2.out k hlt)
        obtain ⟨x, hx⟩ : ∃ x, x = ks.getD k ByteArray.empty := ⟨_, rfl⟩
        rw [← hx] at c1 c2
        have i1 : (k : Int) < (n : Int) := by omega
        clear hx
        go_wp2_with fail
        go_quiet (fail)
        go_wp2
        go_roundw
        case rel => exact ⟨k + 1, by go_num, by omega, below_drewN hbel _⟩
        case measure => simp [intOf]; omega
      · go_wp2
        go_ret
        exact ⟨rfl, hbel⟩

open Go.ChangeShapes Go.WideShapes Go.ChangeAt Go.Deep in
set_option maxRecDepth 100000 in
theorem TsOpen {H : Type} {enc : TypeId × Value → H} {W : World} {n : Nat} {s : Value} {x : DataW H × List MemPlace} (h : DataW.trod enc Try.prog W 0 (fun _ => true) true n 22 [s] = some x) :
    ∃ ts : List ByteArray, TsAt W s ts ∧ ts.length ≤ maxLen ∧ ∀ i, i < ts.length → (ts.getD i ByteArray.empty).size ≤ maxLen := by
  have hP : Try.prog.cellsOf 9 = 1 := by kernel_rfl
  rcases open_slice Try.underlying22 h with ⟨hcs, _⟩ | ⟨a, len, cap, m, n', D, Pl, hcs, hb, hl, hm, hmm, hx, hel⟩
  · simp at hcs
    subst hcs
    exact ⟨[], ⟨none, 0, rfl, fun h => by simp at h⟩, by simp, fun i hi => by simp at hi⟩
  · simp at hcs
    subst hcs
    simp at hmm
    subst hmm
    have each : ∀ i, i < len → ∃ q : ByteArray, W.cell? (a.add i) = some (.string q) ∧ q.size ≤ maxLen := by
      intro i hi
      obtain ⟨cs', h1, h2⟩ := hel i (by omega)
      rw [hP] at h1
      obtain ⟨_, hlen, hcell⟩ := World.cells?_some h1
      match cs', hlen with
      | [v0], _ =>
        have e0 := hcell 0 (by omega)
        rw [add_add] at e0
        obtain ⟨o0, u0, _, t0⟩ := DataW.trod_string Try.underlying9 h2
        simp at u0
        subst u0
        exact ⟨o0, by simpa using e0, t0⟩
    obtain ⟨q, hq⟩ := choose_lt each
    have hlen : ((List.range len).map q).length = len := by simp
    have hget : ∀ i, i < len → ((List.range len).map q).getD i ByteArray.empty = q i := by intro i hi; simp [hi]
    refine ⟨(List.range len).map q, ⟨some a, m, by rw [hlen], fun h0 => ?_⟩, by rw [hlen]; omega, fun i hi => by rw [hlen] at hi; rw [hget i hi]; exact (hq i hi).2⟩
    rw [hlen] at h0 ⊢
    obtain ⟨b, off, spot⟩ := a
    have hc0 := (hq 0 h0).1
    have hspot : spot = none := by simpa [Addr.add] using World.cell?_spot hc0
    subst hspot
    have hadd : ∀ j, (⟨b, off, none⟩ : Addr).add j = ⟨b, off + j, none⟩ := fun j => by unfold Addr.add; split <;> simp_all
    refine ⟨b, off, rfl, ?_, fun i hi => ?_⟩
    · rw [hadd] at hc0
      exact World.block_lt_of_cell? W _ hc0
    · have h1 := (hq i hi).1
      rw [hadd] at h1
      rw [hget i hi]
      exact h1
end PartCoS
end Go.Proofs.Ythnmopldpgdenaa
