/- The law's own marks: rows of texts that are written and held. Records of 2 fields in memory (Instr): how great a row of them is, the law's own copy of it, two of the same. Rows of texts in memory: how great a row of them is, the law's own copy of it, two of the same. -/
import Derived.Test.YtbghghflepjdkaaZae
import Derived.Test.YtbghghflepjdkaaZaa
import Derived.Test.YtbghghflepjdkaaZab
import Derived.Deep.SlicePairs
import Derived.Deep.Strs
import Derived.Deep.Fields
import Derived.ProofKit
import Derived.OpenShut
import Derived.ChangeOld
namespace Go.Proofs.Ytbghghflepjdkaa
section PartMsA
open Go.RowKit

/-- n texts in block r that may be written; the first m bear marks from k on. -/
def WT (w : World) (r n k m : Nat) : Prop := ∃ arr : Array Value, w.heap[r]? = some (.cells arr 9 (0, 0)) ∧ n ≤ arr.size ∧ ∀ i, i < m → arr[i]? = some (.string ⟨(mk (k + i)).toArray⟩)
theorem WT.blk {w w' : World} {r n k m : Nat} (h : WT w r n k m) (hk : w'.heap[r]? = w.heap[r]?) : WT w' r n k m := by
  obtain ⟨arr, ha, hs, hm⟩ := h
  exact ⟨arr, hk.trans ha, hs, hm⟩
theorem WT.lt {w : World} {r n k m : Nat} (h : WT w r n k m) : r < w.heap.size := by
  obtain ⟨arr, ha, -⟩ := h
  exact blk_lt ha
theorem WT.next {wr : World} {r n k j : Nat} (h : WT wr r n k j) (hj : j < n) : WT (wr.setCell ⟨r, j, none⟩ (.string ⟨(mk (k + j)).toArray⟩)) r n k (j + 1) := by
  obtain ⟨arr, ha, hs, hm⟩ := h
  refine ⟨_, blk_set ha j _, by simpa using hs, fun i hi => ?_⟩
  rw [Array.getElem?_setIfInBounds]
  by_cases e : j = i
  · subst e
    rw [if_pos rfl, if_pos (by omega)]
  · rw [if_neg e]
    exact hm i (by omega)
/-- The row v of n texts, in a block of S that may be written; the first m bear marks from k on. -/
def WTv (S : Nat → Prop) (w : World) (v : Value) (n k m : Nat) : Prop := ∃ ad c, v = .slice ad n c ∧ (0 < n → ∃ r, ad = some ⟨r, 0, none⟩ ∧ S r ∧ WT w r n k m)
theorem WTv.keep {S : Nat → Prop} {w w' : World} {v : Value} {n k m : Nat} (h : WTv S w v n k m) (hk : ∀ r, 0 < n → v.ownBlock = some r → w'.heap[r]? = w.heap[r]?) : WTv S w' v n k m := by
  obtain ⟨ad, c, rfl, f⟩ := h
  refine ⟨ad, c, rfl, fun h0 => ?_⟩
  obtain ⟨r, rfl, h1, h2⟩ := f h0
  exact ⟨r, rfl, h1, h2.blk (hk r h0 rfl)⟩
theorem WTv.lt {S : Nat → Prop} {w : World} {v : Value} {n k m : Nat} (h : WTv S w v n k m) (h0 : 0 < n) {r : Nat} (e : v.ownBlock = some r) : r < w.heap.size := by
  obtain ⟨ad, c, rfl, f⟩ := h
  obtain ⟨r', rfl, h1, h2⟩ := f h0
  obtain rfl : r' = r := by simpa [Value.ownBlock] using e
  exact h2.lt
theorem WTv.form {S : Nat → Prop} {w : World} {v : Value} {n k m : Nat} (h : WTv S w v n k m) : ∃ ad c, v = .slice ad n c := by
  obtain ⟨ad, c, hv, -⟩ := h
  exact ⟨ad, c, hv⟩

set_option maxRecDepth 100000 in
set_option maxHeartbeats 2000000 in
theorem markTxs_any (S : Nat → Prop) (n k : Nat) (v : Value) (w : World) (h : WTv S w v n k 0) (hn2 : n ≤ 100000) (hk : k ≤ 10000000) (hk0 : 0 < k) :
    Calls Try.prog 19 #[v, .int .i64 (k : Int)] w fun e w' => e = .returned (.int .i64 ((k + n : Nat) : Int)) ∧ WTv S w' v n k n ∧ FS S w w' := by
  obtain ⟨ad, c, rfl, f⟩ := h
  by_cases h0 : n = 0
  · subst h0
    clear f
    go_enter Try.func19, Try.ntmps19
    go_wp2
    refine wp_loop_rounds 1 ?_
    rw [rounds_succ]
    go_wp2
    go_ret
    exact ⟨rfl, ⟨ad, c, rfl, fun h => by omega⟩, FS.refl _ _⟩
  · obtain ⟨r, rfl, h1, hw⟩ := f (by omega)
    have HW : Hid (WT w r n k 0) := hw
    have HIN : Hid (S r) := h1
    clear f hw h1
    go_enter Try.func19, Try.ntmps19
    go_wp2
    go_loopw [1, 5] (fun q i wr => ∃ j : Nat, i = .int .i64 (j : Int) ∧ q = .int .i64 ((k : Int) + (j : Int)) ∧ j ≤ n ∧ Hid (FS S w wr) ∧ Hid (WT wr r n k j)) (fun _ i _ => n - (intOf i).toNat)
    case atStart => exact ⟨0, rfl, by simp, by omega, FS.refl _ _, HW.out⟩
    case round =>
      obtain ⟨j, rfl, rfl, hj, HF, HH⟩ := hrel
      by_cases hlt : j < n
      · have i1 : (j : Int) < (n : Int) := by omega
        have CT : Hid (∀ W : World, Calls Try.prog 34 #[.int .i64 ((k : Int) + (j : Int))] W fun e w' => e = .returned (.string ⟨(mk (k + j)).toArray⟩) ∧ Below W.heap.size W w') := fun W => markText_int _ (k + j) W (by omega) (by omega) (by omega)
        go_wp2_with fail
        refine (CT.out _).mono ?_
        rintro e a1 ⟨rfl, hb1⟩
        have hw1 : WT a1 r n k j := HH.out.blk (hb1.block r HH.out.lt)
        obtain ⟨arr, ha, hs, -⟩ := id hw1
        have x0 := blk_cell ha j
        rw [Array.getElem?_eq_getElem (by omega)] at x0
        have y0 := blk_free ha j
        have HN := hidOf3 (hw1.next hlt)
        have HF2 := hidOf3 ((HF.out.up hb1).set r j (.string ⟨(mk (k + j)).toArray⟩) HIN.out)
        clear HH HF ha hw1 hb1 CT
        go_wp2
        go_roundw
        case rel => exact ⟨j + 1, by go_num, by go_num, by omega, HF2.out, HN.out⟩
        case measure => simp [intOf]; omega
      · obtain rfl : j = n := by omega
        go_wp2
        go_ret
        exact ⟨rfl, ⟨_, c, rfl, fun _ => ⟨r, rfl, HIN.out, HH.out⟩⟩, HF.out⟩

set_option maxRecDepth 100000 in
set_option maxHeartbeats 2000000 in
theorem heldTxs_any (S : Nat → Prop) (n k : Nat) (v : Value) (w : World) (h : WTv S w v n k n) (hn2 : n ≤ 100000) (hk : k ≤ 10000000) (hk0 : 0 < k) :
    Calls Try.prog 21 #[v, .int .i64 (k : Int)] w fun e w' => e = .returned (.int .i64 ((k + n : Nat) : Int)) ∧ Below w.heap.size w w' := by
  obtain ⟨ad, c, rfl, f⟩ := h
  by_cases h0 : n = 0
  · subst h0
    clear f
    go_enter Try.func21, Try.ntmps21
    go_wp2
    refine wp_loop_rounds 1 ?_
    rw [rounds_succ]
    go_wp2
    go_ret
    exact ⟨rfl, Below.refl _ _⟩
  · obtain ⟨r, rfl, h1, hw⟩ := f (by omega)
    have HW : Hid (r < w.heap.size ∧ ∀ j, j < n → w.cell? ⟨r, j, none⟩ = some (.string ⟨(mk (k + j)).toArray⟩)) := ⟨hw.lt, by
      obtain ⟨arr, ha, hs, hm⟩ := hw
      exact fun j hj => (blk_cell ha j).trans (hm j hj)⟩
    clear f hw h1
    go_enter Try.func21, Try.ntmps21
    go_wp2
    go_loopw [1, 5] (fun q i wr => ∃ j : Nat, i = .int .i64 (j : Int) ∧ q = .int .i64 ((k : Int) + (j : Int)) ∧ j ≤ n ∧ Below w.heap.size w wr) (fun _ i _ => n - (intOf i).toNat)
    case atStart => exact ⟨0, rfl, by simp, by omega, Below.refl _ _⟩
    case round =>
      obtain ⟨j, rfl, rfl, hj, hbel⟩ := hrel
      have hsz := hbel.size
      by_cases hlt : j < n
      · have x1 := (hbel.cell (p := ⟨r, j, none⟩) HW.out.1).trans (HW.out.2 j hlt)
        have hrl : r < wr.heap.size := by have := HW.out.1; omega
        have i1 : (j : Int) < (n : Int) := by omega
        have i0 : (0 : Int) ≤ (j : Int) := by omega
        obtain ⟨x, hx⟩ : ∃ x : ByteArray, x = ⟨(mk (k + j)).toArray⟩ := ⟨_, rfl⟩
        rw [← hx] at x1
        have CT : Hid (∀ W : World, Calls Try.prog 34 #[.int .i64 ((k : Int) + (j : Int))] W fun e w' => e = .returned (.string x) ∧ Below W.heap.size W w') := fun W => by
          have := markText_int ((k : Int) + (j : Int)) (k + j) W (by omega) (by omega) (by omega)
          rwa [← hx] at this
        clear hx
        go_wp2_with fail
        go_region_held3 (fun w' => w'.cell? ⟨r, j, none⟩ = some (.string x)) (first | go_keep | (rw [hb2.cell (by exact hrl)]; exact x1)) ((go_at_call 34; refine (CT.out _).mono ?_; rintro e a2 ⟨rfl, hb2⟩))
        have hb4 : Below w.heap.size w a2 := hbel.trans (((Below.refl wr.heap.size wr).drew.trans hb2).mono hsz)
        clear hb2 CT
        go_wp2_with fail
        go_roundw
        case rel => exact ⟨j + 1, by go_num, by go_num, by omega, hb4⟩
        case measure => simp [intOf]; omega
      · obtain rfl : j = n := by omega
        go_wp2
        go_ret
        exact ⟨rfl, hbel⟩
end PartMsA
section PartCoI
open Go.RowKit

structure Ins where
  op : Int
  arg : Int
def Ins.no : Ins := ⟨0, 0⟩
instance : Inhabited Ins := ⟨Ins.no⟩
/-- The slice v leads to the records xs. -/
def InsAt (w : World) (v : Value) (xs : List Ins) : Prop := ∃ (a : Option Addr) (c : Nat), v = .slice a xs.length c ∧
  (0 < xs.length → ∃ b o, a = some ⟨b, o, none⟩ ∧ b < w.heap.size ∧ ∀ i, i < xs.length → w.cell? ⟨b, o + i * 2, none⟩ = some (.int .i64 (xs.getD i Ins.no).op) ∧ w.cell? ⟨b, o + i * 2 + 1, none⟩ = some (.int .i64 (xs.getD i Ins.no).arg))
theorem InsAt.keep {w w' : World} {v : Value} {xs : List Ins} (h : InsAt w v xs) (hb : Below w.heap.size w w') : InsAt w' v xs := by
  obtain ⟨ka, kc, rfl, f⟩ := h
  refine ⟨ka, kc, rfl, fun h0 => ?_⟩
  obtain ⟨b, o, rfl, hl, hc⟩ := f h0
  exact ⟨b, o, rfl, Nat.lt_of_lt_of_le hl hb.size, fun i hi => ⟨(hb.cell hl).trans ((hc i hi).1), (hb.cell hl).trans ((hc i hi).2)⟩⟩

theorem Try.infoIns : (Try.prog.info? 37).map (fun i => (i.zero, i.size, i.bytes)) = some (some (.agg #[.int .i64 0, .int .i64 0]), 2, 16) := by kernel_rfl
/-- The law's own copy of the records xs: its row in block g. -/
def InsCopy (w : World) (g n : Nat) (xs : List Ins) (k : Nat) : Prop :=
  (∃ arr, w.heap[g]? = some (.cells arr 37 (0, 0)) ∧ arr.size = n * 2) ∧
  ∀ i, i < k → w.cell? ⟨g, i * 2, none⟩ = some (.int .i64 (xs.getD i Ins.no).op) ∧ w.cell? ⟨g, i * 2 + 1, none⟩ = some (.int .i64 (xs.getD i Ins.no).arg)
theorem InsCopy.keep {w w' : World} {g n k : Nat} {xs : List Ins} (h : InsCopy w g n xs k) (hb : Below w.heap.size w w') : InsCopy w' g n xs k := by
  obtain ⟨⟨arr, ha, hs⟩, hQ⟩ := h
  have hl := blk_lt ha
  exact ⟨⟨arr, (hb.block g hl).trans ha, hs⟩, fun i hi => ⟨(hb.cell hl).trans ((hQ i hi).1), (hb.cell hl).trans ((hQ i hi).2)⟩⟩
theorem InsCopy.at {w : World} {g : Nat} {xs : List Ins} (h : InsCopy w g xs.length xs xs.length) (c : Nat) : InsAt w (.slice (some ⟨g, 0, none⟩) xs.length c) xs := by
  obtain ⟨⟨arr, ha, hs⟩, hQ⟩ := h
  refine ⟨_, _, rfl, fun _ => ⟨g, 0, rfl, blk_lt ha, fun i hi => ?_⟩⟩
  rw [Nat.zero_add]
  exact hQ i hi
theorem InsCopy.more {w w1 : World} {g n k : Nat} {xs : List Ins} (h : InsCopy w g n xs k) (hk : k < n) (hb : Below w.heap.size w w1) :
    InsCopy ((w1.setCell ⟨g, k * 2, none⟩ (.int .i64 (xs.getD k Ins.no).op)).setCell ⟨g, k * 2 + 1, none⟩ (.int .i64 (xs.getD k Ins.no).arg)) g n xs (k + 1) := by
  obtain ⟨⟨arr, ha, hs⟩, hQ⟩ := h.keep hb
  have R := (blk_set (blk_set ha (k * 2) (.int .i64 (xs.getD k Ins.no).op)) (k * 2 + 1) (.int .i64 (xs.getD k Ins.no).arg))
  obtain ⟨w2, hw2⟩ : ∃ w2, w2 = ((w1.setCell ⟨g, k * 2, none⟩ (.int .i64 (xs.getD k Ins.no).op)).setCell ⟨g, k * 2 + 1, none⟩ (.int .i64 (xs.getD k Ins.no).arg)) := ⟨_, rfl⟩
  rw [← hw2] at R ⊢
  clear hw2
  have hC : ∀ j, j < k * 2 → w2.cell? ⟨g, j, none⟩ = w1.cell? ⟨g, j, none⟩ := by
    intro j hj
    rw [blk_cell R, blk_cell ha]
    simp [Array.getElem?_setIfInBounds]
    rw [if_neg (by omega), if_neg (by omega)]
  refine ⟨⟨_, R, by simpa using hs⟩, fun i hi => ?_⟩
  by_cases hik : i = k
  · subst hik
    refine ⟨?_, ?_⟩
    · rw [blk_cell R]; simp [Array.getElem?_setIfInBounds]; omega
    · rw [blk_cell R]; simp [Array.getElem?_setIfInBounds]; omega
  · obtain ⟨h0, h1⟩ := hQ i (by omega)
    exact ⟨(hC _ (by omega)).trans h0, (hC _ (by omega)).trans h1⟩

set_option maxHeartbeats 800000 in
theorem eqIns_any (x0 : Int) (x1 : Int) (w : World) :
    Calls Try.prog 33 #[.agg #[.int .i64 x0, .int .i64 x1], .agg #[.int .i64 x0, .int .i64 x1]] w fun e w' => e = .returned (.bool true) ∧ Below w.heap.size w w' := by
  have h0 : (x0 != x0) = false := by simp
  have h1 : (x1 != x1) = false := by simp
  go_enter Try.func33, Try.ntmps33
  go_wp2
  go_ret
  exact ⟨rfl, ((Below.refl _ _).alloc (Nat.le_refl _) _).alloc (by simp) _⟩

set_option maxHeartbeats 2000000 in
theorem eqInss_any (v1 v2 : Value) (xs : List Ins) (w : World) (h1 : InsAt w v1 xs) (h2 : InsAt w v2 xs) (hl : xs.length ≤ 1048576) :
    Calls Try.prog 18 #[v1, v2] w fun e w' => e = .returned (.bool true) ∧ Below w.heap.size w w' := by
  obtain ⟨a1, c1, rfl, f1⟩ := h1
  obtain ⟨a2, c2, rfl, f2⟩ := h2
  obtain ⟨n, hn⟩ : ∃ n, n = xs.length := ⟨_, rfl⟩
  rw [← hn] at f1 f2 hl ⊢
  have hq : ((n : Int) != (n : Int)) = false := by simp
  by_cases h0 : n = 0
  · subst h0
    clear f1 f2 hn
    go_enter Try.func18, Try.ntmps18
    go_wp2
    refine wp_loop_rounds 1 ?_
    rw [rounds_succ]
    go_wp2
    go_ret
    exact ⟨rfl, Below.refl _ _⟩
  · obtain ⟨g1, o1, rfl, l1, k1⟩ := f1 (by omega)
    obtain ⟨g2, o2, rfl, l2, k2⟩ := f2 (by omega)
    have K1 : Hid (∀ i, i < n → w.cell? ⟨g1, o1 + i * 2, none⟩ = some (.int .i64 (xs.getD i Ins.no).op) ∧ w.cell? ⟨g1, o1 + i * 2 + 1, none⟩ = some (.int .i64 (xs.getD i Ins.no).arg)) := k1
    have K2 : Hid (∀ i, i < n → w.cell? ⟨g2, o2 + i * 2, none⟩ = some (.int .i64 (xs.getD i Ins.no).op) ∧ w.cell? ⟨g2, o2 + i * 2 + 1, none⟩ = some (.int .i64 (xs.getD i Ins.no).arg)) := k2
    clear k1 k2 f1 f2 hn
    go_enter Try.func18, Try.ntmps18
    go_wp2
    go_loopw [5] (fun i wr => ∃ k : Nat, i = .int .i64 (k : Int) ∧ k ≤ n ∧ Below w.heap.size w wr) (fun i _ => n - (intOf i).toNat)
    case atStart => exact ⟨0, rfl, by omega, Below.refl _ _⟩
    case round =>
      obtain ⟨k, rfl, hk, hbel⟩ := hrel
      have hsz := hbel.size
      by_cases hlt : k < n
      · have q1 := K1.out k hlt
        have q2 := K2.out k hlt
        obtain ⟨p, hp⟩ : ∃ p, p = xs.getD k Ins.no := ⟨_, rfl⟩
        rw [← hp] at q1 q2
        clear hp
        have y0 := (hbel.cell l1).trans q1.1
        have y1 := (hbel.cell l1).trans q1.2
        have z0 := (hbel.cell l2).trans q2.1
        have z1 := (hbel.cell l2).trans q2.2
        obtain ⟨x0, x1⟩ := p
        simp only at y0 z0 y1 z1
        have CC : Hid (∀ w', Calls Try.prog 33 #[.agg #[.int .i64 x0, .int .i64 x1], .agg #[.int .i64 x0, .int .i64 x1]] w' fun e w'' => e = .returned (.bool true) ∧ Below w'.heap.size w' w'') := fun w' => eqIns_any x0 x1 w'
        clear q1 q2
        have i1 : (k : Int) < (n : Int) := by omega
        have i0 : (0 : Int) ≤ (k : Int) := by omega
        go_wp2_with fail
        go_region_with ((go_at_call 33; refine (CC.out _).mono ?_; rintro e w1 ⟨rfl, hb1⟩))
        all_goals
          go_wp2
          go_roundw
          case rel => exact ⟨k + 1, by go_num, by omega, hbel.trans (((Below.refl _ _).drew.trans hb1).mono hsz)⟩
          case measure => simp [intOf]; omega
      · go_wp2
        go_ret
        exact ⟨rfl, hbel⟩


end PartCoI
section PartCoS
open Go.RowKit

/-- The slice v leads to the texts ts. -/
def TsAt (w : World) (v : Value) (ts : List ByteArray) : Prop := ∃ (ka : Option Addr) (kc : Nat), v = .slice ka ts.length kc ∧
  (0 < ts.length → ∃ b o, ka = some ⟨b, o, none⟩ ∧ b < w.heap.size ∧ ∀ i, i < ts.length → w.cell? ⟨b, o + i, none⟩ = some (.string (ts.getD i ByteArray.empty)))
theorem TsAt.keep {w w' : World} {v : Value} {ts : List ByteArray} (h : TsAt w v ts) (hb : Below w.heap.size w w') : TsAt w' v ts := by
  obtain ⟨ka, kc, rfl, f⟩ := h
  refine ⟨ka, kc, rfl, fun h0 => ?_⟩
  obtain ⟨b, o, rfl, hl, hc⟩ := f h0
  exact ⟨b, o, rfl, Nat.lt_of_lt_of_le hl hb.size, fun i hi => (hb.cell hl).trans (hc i hi)⟩
/-- No text is too great. -/
def TsSmall (ts : List ByteArray) (n : Nat) : Prop := ∀ i, i < n → (ts.getD i ByteArray.empty).size ≤ 1048576

def tsv (t : ByteArray) : Value := .string t
/-- Block q holds the texts ts, and no more. -/
def TsBlk (w : World) (q : Nat) (ts : List ByteArray) : Prop := w.heap[q]? = some (.cells (ts.map tsv).toArray 9 (0, 0))
theorem TsBlk.at {w : World} {q : Nat} {ts : List ByteArray} (h : TsBlk w q ts) (c : Nat) : TsAt w (.slice (some ⟨q, 0, none⟩) ts.length c) ts := by
  refine ⟨_, _, rfl, fun _ => ⟨q, 0, rfl, blk_lt h, fun i hi => ?_⟩⟩
  rw [blk_cell h, Nat.zero_add]
  simp [hi, tsv]
theorem TsBlk.keep {w w' : World} {q : Nat} {ts : List ByteArray} (h : TsBlk w q ts) (hb : Below w.heap.size w w') : TsBlk w' q ts := (hb.block q (blk_lt h)).trans h
set_option maxHeartbeats 800000 in
theorem eqTs_any (v1 v2 : Value) (ks : List ByteArray) (w : World) (h1 : TsAt w v1 ks) (h2 : TsAt w v2 ks) (hl : ks.length ≤ 1048576) :
    Calls Try.prog 17 #[v1, v2] w fun e w' => e = .returned (.bool true) ∧ Below w.heap.size w w' := by
  obtain ⟨a1, c1, rfl, f1⟩ := h1
  obtain ⟨a2, c2, rfl, f2⟩ := h2
  obtain ⟨n, hn⟩ : ∃ n, n = ks.length := ⟨_, rfl⟩
  rw [← hn] at f1 f2 hl ⊢
  have hq : ((n : Int) != (n : Int)) = false := by simp
  by_cases h0 : n = 0
  · subst h0
    clear f1 f2 hn
    go_enter Try.func17, Try.ntmps17
    go_wp2
    refine wp_loop_rounds 1 ?_
    rw [rounds_succ]
    go_wp2
    go_ret
    exact ⟨rfl, Below.refl _ _⟩
  · obtain ⟨g1, o1, rfl, l1, k1⟩ := f1 (by omega)
    obtain ⟨g2, o2, rfl, l2, k2⟩ := f2 (by omega)
    have K1 : Hid (∀ j, j < n → w.cell? ⟨g1, o1 + j, none⟩ = some (.string (ks.getD j ByteArray.empty))) := k1
    have K2 : Hid (∀ j, j < n → w.cell? ⟨g2, o2 + j, none⟩ = some (.string (ks.getD j ByteArray.empty))) := k2
    clear k1 k2 f1 f2 hn
    go_enter Try.func17, Try.ntmps17
    go_wp2
    go_loopw [5] (fun i wr => ∃ k : Nat, i = .int .i64 (k : Int) ∧ k ≤ n ∧ Below w.heap.size w wr) (fun i _ => n - (intOf i).toNat)
    case atStart => exact ⟨0, rfl, by omega, Below.refl _ _⟩
    case round =>
      obtain ⟨k, rfl, hk, hbel⟩ := hrel
      by_cases hlt : k < n
      · have c1 := (hbel.cell l1).trans (K1.out k hlt)
        have c2 := (hbel.cell l2).trans (K2.out k hlt)
        obtain ⟨x, hx⟩ : ∃ x, x = ks.getD k ByteArray.empty := ⟨_, rfl⟩
        rw [← hx] at c1 c2
        have i1 : (k : Int) < (n : Int) := by omega
        clear hx
        go_wp2_with fail
        go_quiet (fail)
        go_wp2
        go_roundw
        case rel => exact ⟨k + 1, by go_num, by omega, below_drewN hbel _⟩
        case measure => simp [intOf]; omega
      · go_wp2
        go_ret
        exact ⟨rfl, hbel⟩

end PartCoS
end Go.Proofs.Ytbghghflepjdkaa
