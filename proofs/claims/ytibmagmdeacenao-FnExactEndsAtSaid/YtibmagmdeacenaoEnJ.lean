/- The marks of the law. -/
import Derived.Test.YtibmagmdeacenaoKit
import Derived.Test.YtibmagmdeacenaoPlainF
import Derived.Test.YtibmagmdeacenaoEnA
namespace Go.Proofs.Ytibmagmdeacenao
section PartMrA
open Go.RowKit

theorem conv1m (W : World) (c : UInt8) : (convert 85 9 (.slice (some ⟨W.heap.size, 0, none⟩) 1 1)).run Try.prog (W.alloc (.cells #[.int .u8 (c.toNat : Int)] 5)) = .ok (.string ⟨[c].toArray⟩) (W.alloc (.cells #[.int .u8 (c.toNat : Int)] 5)) := by
  have h : Row W.heap.size (W.alloc (.cells #[.int .u8 (c.toNat : Int)] 5)) (.slice (some ⟨W.heap.size, 0, none⟩) 1 1) [c] :=
    World.ownsRow_lit (base := W.heap.size) (e := 5) (size := 1) W #[.int .u8 (c.toNat : Int)] 1 (Nat.le_refl _) (by decide) rfl
  exact h.str
theorem digit_room {m f : Nat} (h : m < 10 ^ f) (h0 : m ≠ 0) : ∃ g, f = g + 1 ∧ m / 10 < 10 ^ g := by
  cases f with
  | zero => simp at h; omega
  | succ g => exact ⟨g, rfl, by rw [Nat.pow_succ] at h; omega⟩

set_option maxHeartbeats 800000 in
set_option maxRecDepth 100000 in
theorem markText_some (n : Nat) (w : World) (h0 : 0 < n) (hn : n ≤ 10000000000000) :
    Calls Try.prog 32 #[.int .i64 (n : Int)] w fun e w' => (∃ t, e = .returned (.string t)) ∧ Below w.heap.size w w' := by
  go_enter Try.func32, Try.ntmps32
  go_wp2
  go_loopw [0, 3] (fun i v wr => ∃ (m f : Nat) (t : ByteArray), i = .int .i64 (m : Int) ∧ v = .string t ∧ m ≤ 10000000000000 ∧ t.size + f = 20 ∧ Below w.heap.size w wr ∧ Hid (m < 10 ^ f)) (fun i _ _ => (intOf i).toNat)
  case atStart => exact ⟨n, 20, _, rfl, rfl, hn, rfl, Below.refl _ _, (by show n < 10 ^ 20; omega)⟩
  case round =>
    obtain ⟨m, f, t, rfl, rfl, hm, htf, hbel, H1⟩ := hrel
    have hsz := hbel.size
    by_cases hm0 : m = 0
    · subst hm0
      have htl : t.size ≤ 20 := by omega
      go_wp2
      go_ret
      exact ⟨⟨_, rfl⟩, hbel⟩
    · obtain ⟨g, hg, hq⟩ := digit_room H1.out hm0
      have HG : Hid (f = g + 1) := hg
      have HQ : Hid (m / 10 < 10 ^ g) := hq
      clear hg hq
      have hpos : 0 < m := by omega
      have htl : t.size ≤ 20 := by omega
      have hcv := conv1m wr (Pl.ch (m % 10))
      rw [show ((Pl.ch (m % 10)).toNat : Int) = 48 + (m : Int) % 10 by have := Pl.ch_nat (m % 10) (by omega); omega] at hcv
      go_wp2
      go_roundw
      case rel =>
        refine ⟨m / 10, g, _, by go_num, rfl, by omega, ?_, hbel.alloc hsz _, HQ.out⟩
        have := HG.out
        rw [ByteArray.size_append]
        show 1 + t.size + g = 20
        omega
      case measure => simp [intOf]; omega

/-- Nothing but block q has changed. -/
def Butq (q : Nat) (w w' : World) : Prop := w'.heap.size = w.heap.size ∧ (∀ k, k ≠ q → w'.heap[k]? = w.heap[k]?) ∧ Env w w'
theorem Butq.refl (q : Nat) (w : World) : Butq q w w := ⟨rfl, fun _ _ => rfl, Env.refl w⟩
theorem Butq.set {q : Nat} {w w' : World} (h : Butq q w w') (o : Nat) (u : Value) : Butq q w (w'.setCell ⟨q, o, none⟩ u) :=
  ⟨by simpa [World.setCell] using h.1, fun k hk => by rw [Below.heap_setCell _ _ _ _ (by show k ≠ q; exact hk)]; exact h.2.1 k hk, h.2.2⟩

set_option maxRecDepth 100000 in
set_option maxHeartbeats 800000 in
theorem markRow_any (q n cap k : Nat) (arr : Array Value) (w : World) (h : w.heap[q]? = some (.cells arr 3 (0, 0))) (ha : n ≤ arr.size) (hn2 : n ≤ 2000000) (hk : k ≤ 10000000000000) :
    Calls Try.prog 25 #[.slice (some ⟨q, 0, none⟩) n cap, .int .i64 (k : Int)] w fun e w' => e = .returned (.int .i64 ((k + n : Nat) : Int)) ∧ Butq q w w' ∧ ∃ a2 : Array Value, w'.heap[q]? = some (.cells a2 3 (0, 0)) ∧ a2.size = arr.size ∧ ∀ t, t < n → a2[t]? = some (.int .i64 ((k + t : Nat) : Int)) := by
  have HW : Hid (∃ a2 : Array Value, w.heap[q]? = some (.cells a2 3 (0, 0)) ∧ a2.size = arr.size ∧ ∀ t, t < 0 → a2[t]? = some (.int .i64 ((k + t : Nat) : Int))) := ⟨arr, h, rfl, fun t ht => by omega⟩
  clear h
  go_enter Try.func25, Try.ntmps25
  go_wp2
  go_loopw [1, 5] (fun c i wr => ∃ j : Nat, i = .int .i64 (j : Int) ∧ c = .int .i64 ((k : Int) + (j : Int)) ∧ j ≤ n ∧ Hid (Butq q w wr) ∧ Hid (∃ a2 : Array Value, wr.heap[q]? = some (.cells a2 3 (0, 0)) ∧ a2.size = arr.size ∧ ∀ t, t < j → a2[t]? = some (.int .i64 ((k + t : Nat) : Int)))) (fun _ i _ => n - (intOf i).toNat)
  case atStart => exact ⟨0, rfl, by simp, by omega, Butq.refl q w, HW.out⟩
  case round =>
    obtain ⟨j, rfl, rfl, hj, HB, HA⟩ := hrel
    obtain ⟨a2, h2, hs2, hc2⟩ := HA.out
    by_cases hlt : j < n
    · have c1 := blk_cell h2 j
      rw [Array.getElem?_eq_getElem (by omega)] at c1
      have f1 := blk_free h2 j
      have HS := blk_set h2 j (.int .i64 ((k : Int) + (j : Int)))
      have HA2 : Hid (∃ a3 : Array Value, (wr.setCell ⟨q, j, none⟩ (.int .i64 ((k : Int) + (j : Int)))).heap[q]? = some (.cells a3 3 (0, 0)) ∧ a3.size = arr.size ∧ ∀ t, t < j + 1 → a3[t]? = some (.int .i64 ((k + t : Nat) : Int))) := by
        refine ⟨_, HS, by simpa using hs2, fun t ht => ?_⟩
        rw [Array.getElem?_setIfInBounds]
        by_cases htj : j = t
        · subst htj
          rw [if_pos rfl, if_pos (by omega)]
          simp
        · rw [if_neg htj]
          exact hc2 t (by omega)
      have i1 : (j : Int) < (n : Int) := by omega
      clear HA HS h2 hc2
      go_wp2
      go_roundw
      case rel => exact ⟨j + 1, by go_num, by go_num, by omega, HB.out.set j _, HA2.out⟩
      case measure => simp [intOf]; omega
    · obtain rfl : j = n := by omega
      clear h2 hc2
      go_wp2
      go_ret
      exact ⟨rfl, HB.out, HA.out⟩

set_option maxRecDepth 100000 in
set_option maxHeartbeats 800000 in
theorem markRow_none (k : Nat) (w : World) :
    Calls Try.prog 25 #[.slice none 0 0, .int .i64 (k : Int)] w fun e w' => e = .returned (.int .i64 (k : Int)) ∧ w' = w := by
  go_enter Try.func25, Try.ntmps25
  go_wp2
  refine wp_loop_rounds 1 ?_
  rw [rounds_succ]
  go_wp2
  go_ret
  exact ⟨rfl, rfl⟩

set_option maxRecDepth 100000 in
set_option maxHeartbeats 800000 in
theorem heldRow_any (q n cap k : Nat) (w : World) (h : ∀ t, t < n → w.cell? ⟨q, t, none⟩ = some (.int .i64 ((k + t : Nat) : Int))) (hn2 : n ≤ 2000000) (hk : k ≤ 1000000) :
    Calls Try.prog 26 #[.slice (some ⟨q, 0, none⟩) n cap, .int .i64 (k : Int)] w fun e w' => e = .returned (.int .i64 ((k + n : Nat) : Int)) ∧ w' = w := by
  have HW : Hid (∀ j, j < n → w.cell? ⟨q, j, none⟩ = some (.int .i64 ((k : Int) + (j : Int)))) := by
    intro j hj
    have := h j hj
    simpa using this
  clear h
  go_enter Try.func26, Try.ntmps26
  go_wp2
  go_loop [1, 5] (fun c i => ∃ j : Nat, i = .int .i64 (j : Int) ∧ c = .int .i64 ((k : Int) + (j : Int)) ∧ j ≤ n) (fun _ i => n - (intOf i).toNat)
  case atStart => exact ⟨0, rfl, by simp, by omega⟩
  case round =>
    obtain ⟨j, rfl, rfl, hj⟩ := hrel
    by_cases hlt : j < n
    · have c1 := HW.out j hlt
      have i1 : (j : Int) < (n : Int) := by omega
      have hq : (((k : Int) + (j : Int)) != ((k : Int) + (j : Int))) = false := by simp
      go_wp2
      go_round
      case rel => exact ⟨j + 1, by go_num, by go_num, by omega⟩
      case measure => simp [intOf]; omega
    · obtain rfl : j = n := by omega
      go_wp2
      go_ret
      exact ⟨rfl, rfl⟩
set_option maxRecDepth 100000 in
set_option maxHeartbeats 800000 in
theorem heldRow_none (k : Nat) (w : World) :
    Calls Try.prog 26 #[.slice none 0 0, .int .i64 (k : Int)] w fun e w' => e = .returned (.int .i64 (k : Int)) ∧ w' = w := by
  go_enter Try.func26, Try.ntmps26
  go_wp2
  refine wp_loop_rounds 1 ?_
  rw [rounds_succ]
  go_wp2
  go_ret
  exact ⟨rfl, rfl⟩
end PartMrA
section PartMrB
open Go.RowKit

/-- A copy of n pieces in block g, whose kids lie in the blocks Q i; all of them lie from B up to C. -/
structure Mc (w : World) (g n : Nat) (ln Q : Nat → Nat) (B C : Nat) : Prop where
  gb : ∃ arr : Array Value, w.heap[g]? = some (.cells arr 54 (0, 0)) ∧ arr.size = n * 3 ∧ ∀ i, i < n → arr[i * 3 + 2]? = some (.slice (some ⟨Q i, 0, none⟩) (ln i) (ln i))
  qb : ∀ i, i < n → ∃ a : Array Value, w.heap[Q i]? = some (.cells a 3 (0, 0)) ∧ a.size = ln i
  rg : B ≤ g ∧ g < C
  rq : ∀ i, i < n → B ≤ Q i ∧ Q i < C
  ll : ∀ i, i < n → ln i ≤ 1048576
section
variable {w w' : World} {g n : Nat} {ln Q : Nat → Nat} {B C : Nat}
theorem Mc.ne (h : Mc w g n ln Q B C) (i : Nat) (hi : i < n) : Q i ≠ g := by
  obtain ⟨arr, h1, _⟩ := h.gb
  obtain ⟨a, h2, _⟩ := h.qb i hi
  rintro e
  rw [e, h1] at h2
  simp at h2
theorem Mc.up (h : Mc w g n ln Q B C) (hb : Below w.heap.size w w') : Mc w' g n ln Q B C := by
  obtain ⟨arr, h1, h2⟩ := h.gb
  refine ⟨⟨arr, (hb.block _ (blk_lt h1)).trans h1, h2⟩, fun i hi => ?_, h.rg, h.rq, h.ll⟩
  obtain ⟨a, h3, h4⟩ := h.qb i hi
  exact ⟨a, (hb.block _ (blk_lt h3)).trans h3, h4⟩
theorem Mc.set (h : Mc w g n ln Q B C) (o : Nat) (ho : ∀ i, i < n → o ≠ i * 3 + 2) (u : Value) : Mc (w.setCell ⟨g, o, none⟩ u) g n ln Q B C := by
  obtain ⟨arr, h1, h2, h3⟩ := h.gb
  refine ⟨⟨_, blk_set h1 o u, by simpa using h2, fun i hi => ?_⟩, fun i hi => ?_, h.rg, h.rq, h.ll⟩
  · rw [Array.getElem?_setIfInBounds, if_neg (ho i hi)]
    exact h3 i hi
  · obtain ⟨a, h4, h5⟩ := h.qb i hi
    exact ⟨a, (Below.heap_setCell _ _ _ _ (by show Q i ≠ g; exact h.ne i hi)).trans h4, h5⟩
theorem Mc.but (h : Mc w g n ln Q B C) (i : Nat) (hi : i < n) (hb : Butq (Q i) w w') (a2 : Array Value) (ha : w'.heap[Q i]? = some (.cells a2 3 (0, 0))) (hs : a2.size = ln i) : Mc w' g n ln Q B C := by
  obtain ⟨arr, h1, h2, h3⟩ := h.gb
  refine ⟨⟨arr, (hb.2.1 g (fun e => h.ne i hi e.symm)).trans h1, h2, h3⟩, fun j hj => ?_, h.rg, h.rq, h.ll⟩
  by_cases hji : Q j = Q i
  · obtain ⟨a, h4, h5⟩ := h.qb j hj
    obtain ⟨a', h6, h7⟩ := h.qb i hi
    rw [hji, h6] at h4
    simp at h4
    exact ⟨a2, by rw [hji]; exact ha, by rw [hs, ← h7, h4, h5]⟩
  · obtain ⟨a, h4, h5⟩ := h.qb j hj
    exact ⟨a, (hb.2.1 _ hji).trans h4, h5⟩
theorem FM.butq {B C q : Nat} {w w1 w2 : World} (h : FM B C w w1) (hb : Butq q w1 w2) (h1 : B ≤ q) (h2 : q < C) : FM B C w w2 :=
  ⟨h.1.trans hb.2.2, by rw [hb.1]; exact h.2.1, fun k hk hkk => (hb.2.1 k (by omega)).trans (h.2.2 k hk hkk)⟩
end

set_option maxRecDepth 100000 in
set_option maxHeartbeats 2000000 in
theorem markCopy_any (B C g n cap : Nat) (ln Q : Nat → Nat) (w : World) (h : Mc w g n ln Q B C) (hn : n ≤ 1048576) :
    Calls Try.prog 40 #[.slice (some ⟨g, 0, none⟩) n cap, .int .i64 1] w fun e w' => ∃ k : Nat, e = .returned (.int .i64 (k : Int)) ∧ k ≤ 10000000000000 ∧ FM B C w w' := by
  have HW : Hid (Mc w g n ln Q B C) := h
  have hr := h.rg.1
  have hrC := h.rg.2
  clear h
  go_enter Try.func40, Try.ntmps40
  go_wp2
  go_loopw [1, 5] (fun q i wr => ∃ j m : Nat, i = .int .i64 (j : Int) ∧ q = .int .i64 (m : Int) ∧ j ≤ n ∧ 1 ≤ m ∧ m ≤ 1 + 1048578 * j ∧ FM B C w wr ∧ Hid (Mc wr g n ln Q B C)) (fun _ i _ => n - (intOf i).toNat)
  case atStart => exact ⟨0, 1, rfl, rfl, by omega, by omega, by omega, FM.refl _ _ _, HW.out⟩
  case round =>
    obtain ⟨j, m, rfl, rfl, hj, hm1, hm2, hbel, HH⟩ := hrel
    clear HW
    have hsz := hbel.2.1
    by_cases hlt : j < n
    · obtain ⟨arr, ha, hs, -⟩ := HH.out.gb
      obtain ⟨u0, x0⟩ : ∃ u0, wr.cell? ⟨g, j * 3, none⟩ = some u0 := ⟨_, (blk_cell ha (j * 3)).trans (Array.getElem?_eq_getElem (by omega))⟩
      have y0 := blk_free ha (j * 3)
      have i1 : (j : Int) < (n : Int) := by omega
      have HH1 : Hid (Mc (wr.setCell ⟨g, j * 3, none⟩ (.int .i64 (m : Int))) g n ln Q B C) := HH.out.set (j * 3) (fun i hi => by omega) _
      have CT : Hid (∀ W : World, Calls Try.prog 32 #[.int .i64 ((m : Int) + 1)] W fun e w' => (∃ t, e = .returned (.string t)) ∧ Below W.heap.size W w') := fun W => markText_some (m + 1) W (by omega) (by omega)
      have HLL := HH.out.ll j hlt
      have HRQ := HH.out.rq j hlt
      clear ha hs HH
      go_wp2_with fail
      refine (CT.out _).mono ?_
      rintro e a2 ⟨⟨tx, rfl⟩, hb2⟩
      have HH2 : Hid (Mc a2 g n ln Q B C) := HH1.out.up hb2
      have hb3 : FM B C w (a2.setCell ⟨g, j * 3 + 1, none⟩ (.string tx)) := ((hbel.set g (j * 3) _ hr hrC).up hb2).set g (j * 3 + 1) _ hr hrC
      have HH3 : Hid (Mc (a2.setCell ⟨g, j * 3 + 1, none⟩ (.string tx)) g n ln Q B C) := HH2.out.set (j * 3 + 1) (fun i hi => by omega) _
      obtain ⟨ar2, ha2, hs2, -⟩ := HH2.out.gb
      obtain ⟨u1, x1⟩ : ∃ u1, a2.cell? ⟨g, j * 3 + 1, none⟩ = some u1 := ⟨_, (blk_cell ha2 (j * 3 + 1)).trans (Array.getElem?_eq_getElem (by omega))⟩
      have y1 := blk_free ha2 (j * 3 + 1)
      obtain ⟨ar3, ha3, -, hc3⟩ := HH3.out.gb
      have x2 : (a2.setCell ⟨g, j * 3 + 1, none⟩ (.string tx)).cell? ⟨g, j * 3 + 2, none⟩ = some (.slice (some ⟨Q j, 0, none⟩) (ln j) (ln j)) := by rw [blk_cell ha3]; exact hc3 j hlt
      obtain ⟨bq, hq1, hq2⟩ := HH3.out.qb j hlt
      have CM : Hid (Calls Try.prog 25 #[.slice (some ⟨Q j, 0, none⟩) (ln j) (ln j), .int .i64 ((m : Int) + 1 + 1)] (a2.setCell ⟨g, j * 3 + 1, none⟩ (.string tx)) fun e w' => e = .returned (.int .i64 (((m + 1 + 1) + ln j : Nat) : Int)) ∧ Mc w' g n ln Q B C ∧ FM B C w w') := by
        refine (markRow_any (Q j) (ln j) (ln j) (m + 1 + 1) bq _ hq1 (by omega) (by omega) (by omega)).mono ?_
        rintro e w' ⟨rfl, h1, a2, h2, h3, -⟩
        exact ⟨rfl, HH3.out.but j hlt h1 a2 h2 (by omega), hb3.butq h1 HRQ.1 HRQ.2⟩
      obtain ⟨lj, hlj⟩ : ∃ lj, lj = ln j := ⟨_, rfl⟩
      obtain ⟨qj, hqj⟩ : ∃ qj, qj = Q j := ⟨_, rfl⟩
      rw [← hlj, ← hqj] at x2 CM
      rw [← hlj] at HLL
      clear HH1 HH2 HH3 ha2 hs2 ha3 hc3 hq1 hq2 hb3 hb2 hbel CT hlj hqj HRQ
      go_wp2_with fail
      refine CM.out.mono ?_
      rintro e a5 ⟨rfl, hmc, hfm⟩
      have HM5 : Hid (Mc a5 g n ln Q B C) := hmc
      clear hmc CM
      go_wp2_with fail
      go_roundw
      case rel => exact ⟨j + 1, m + 1 + 1 + lj, by go_num, by go_num, by omega, by omega, by omega, hfm, HM5.out⟩
      case measure => simp [intOf]; omega
    · obtain rfl : j = n := by omega
      go_wp2
      go_ret
      exact ⟨m, rfl, by omega, hbel⟩

theorem Copy.mc {w w1 : World} {g B : Nat} {ps : List Pi} (h : Copy w g ps.length ps ps.length) (hB : B ≤ g) (hs : Small ps ps.length) (hb : Below w.heap.size w w1) : ∃ ln Q, Mc w1 g ps.length ln Q B w.heap.size := by
  obtain ⟨⟨arr, h1, h2⟩, Q, h3, -⟩ := h
  refine ⟨fun i => (ps.getD i Pi.no).kids.length, Q, Mc.up ⟨⟨arr, h1, h2, fun i hi => ?_⟩, fun i hi => ?_, ⟨hB, blk_lt h1⟩, fun i hi => ?_, fun i hi => (hs i hi).1⟩ hb⟩
  · rw [← blk_cell h1]
    exact (h3 i hi).2.2.2.1
  · exact ⟨_, (h3 i hi).2.2.2.2, by simp⟩
  · have := (h3 i hi).1
    exact ⟨by omega, blk_lt (h3 i hi).2.2.2.2⟩
set_option maxRecDepth 100000 in
set_option maxHeartbeats 2000000 in
theorem markPat_copy (B C g n cap : Nat) (ln Q : Nat → Nat) (w : World) (h : Mc w g n ln Q B C) (hn : n ≤ 1048576) :
    Calls Try.prog 20 #[.agg #[.slice (some ⟨g, 0, none⟩) n cap], .int .i64 1] w fun e w' => ∃ k : Nat, e = .returned (.int .i64 (k : Int)) ∧ k ≤ 10000000000000 ∧ FM B C w w' := by
  have HC : Hid (∀ o : Obj, Calls Try.prog 40 #[.slice (some ⟨g, 0, none⟩) n cap, .int .i64 1] (w.alloc o) fun e w' => ∃ k : Nat, e = .returned (.int .i64 (k : Int)) ∧ k ≤ 10000000000000 ∧ FM B C w w') := by
    intro o
    have hb : Below w.heap.size w (w.alloc o) := (Below.refl _ _).alloc (Nat.le_refl _) o
    refine (markCopy_any B C g n cap ln Q (w.alloc o) (h.up hb) hn).mono ?_
    rintro e w' ⟨k, rfl, h1, h2⟩
    exact ⟨k, rfl, h1, ((FM.refl _ _ w).up hb).trans h2⟩
  clear h
  go_enter Try.func20, Try.ntmps20
  go_wp2_with fail
  refine (HC.out _).mono ?_
  rintro e w1 ⟨k, rfl, h1, h2⟩
  have HF : Hid (FM B C w w1) := h2
  clear h2 HC
  go_wp2_with fail
  go_ret
  exact ⟨k, rfl, h1, HF.out⟩
end PartMrB
section PartMrC
open Go.RowKit

set_option maxHeartbeats 800000 in
theorem eqInts_long (v1 v2 : Value) (ks : List Int) (w : World) (h1 : KidsAt w v1 ks) (h2 : KidsAt w v2 ks) (hl : ks.length ≤ 2000000) :
    Calls Try.prog 24 #[v1, v2] w fun e w' => e = .returned (.bool true) ∧ Below w.heap.size w w' := by
  obtain ⟨a1, c1, rfl, f1⟩ := h1
  obtain ⟨a2, c2, rfl, f2⟩ := h2
  obtain ⟨n, hn⟩ : ∃ n, n = ks.length := ⟨_, rfl⟩
  rw [← hn] at f1 f2 hl ⊢
  have hq : ((n : Int) != (n : Int)) = false := by simp
  by_cases h0 : n = 0
  · subst h0
    clear f1 f2 hn
    go_enter Try.func24, Try.ntmps24
    go_wp2
    refine wp_loop_rounds 1 ?_
    rw [rounds_succ]
    go_wp2
    go_ret
    exact ⟨rfl, Below.refl _ _⟩
  · obtain ⟨g1, o1, rfl, l1, k1⟩ := f1 (by omega)
    obtain ⟨g2, o2, rfl, l2, k2⟩ := f2 (by omega)
    have K1 : Hid (∀ j, j < n → w.cell? ⟨g1, o1 + j, none⟩ = some (.int .i64 (ks.getD j 0))) := k1
    have K2 : Hid (∀ j, j < n → w.cell? ⟨g2, o2 + j, none⟩ = some (.int .i64 (ks.getD j 0))) := k2
    clear k1 k2 f1 f2 hn
    go_enter Try.func24, Try.ntmps24
    go_wp2
    go_loopw [5] (fun i wr => ∃ k : Nat, i = .int .i64 (k : Int) ∧ k ≤ n ∧ Below w.heap.size w wr) (fun i _ => n - (intOf i).toNat)
    case atStart => exact ⟨0, rfl, by omega, Below.refl _ _⟩
    case round =>
      obtain ⟨k, rfl, hk, hbel⟩ := hrel
      by_cases hlt : k < n
      · have c1 := (hbel.cell l1).trans (K1.out k hlt)
        have c2 := (hbel.cell l2).trans (K2.out k hlt)
        obtain ⟨x, hx⟩ : ∃ x, x = ks.getD k 0 := ⟨_, rfl⟩
        rw [← hx] at c1 c2
        have i1 : (k : Int) < (n : Int) := by omega
        have hq : (x != x) = false := by simp
        clear hx
        go_wp2_with fail
        go_quiet (fail)
        go_wp2
        go_roundw
        case rel => exact ⟨k + 1, by go_num, by omega, below_drewN hbel _⟩
        case measure => simp [intOf]; omega
      · go_wp2
        go_ret
        exact ⟨rfl, hbel⟩

theorem Ws.kids {B : Nat} {w : World} {y : Value} {ws : List Nat} (h : Ws B w y ws) : KidsAt w y (ws.map fun n : Nat => (n : Int)) := by
  rcases h.2 with ⟨e, hn⟩ | ⟨g, cap, cur, e, h1, h2, h3⟩
  · have : ws = [] := List.eq_nil_of_length_eq_zero hn
    subst this
    exact ⟨none, 0, e, fun h0 => absurd h0 (by simp)⟩
  · refine ⟨some ⟨g, 0, none⟩, cap, by rw [e, List.length_map], fun h0 => ⟨g, 0, rfl, blk_lt h2, fun i hi => ?_⟩⟩
    rw [List.length_map] at hi
    obtain ⟨g', cap', e', _, _, hc⟩ := h.form (by omega)
    rw [e] at e'
    simp at e'
    obtain ⟨rfl, _⟩ := e'
    rw [Nat.zero_add, hc i hi]
    simp [hi]
theorem eqRow_any {B1 B2 : Nat} {w : World} {y1 y2 : Value} {ws : List Nat} (h1 : Ws B1 w y1 ws) (h2 : Ws B2 w y2 ws) (hl : ws.length ≤ 2000000) :
    Calls Try.prog 24 #[y1, y2] w fun e w' => e = .returned (.bool true) ∧ Below w.heap.size w w' := eqInts_long y1 y2 _ w h1.kids h2.kids (by simpa using hl)
/-- The row is marked from 1 on. -/
def Held (w : World) (y : Value) (n : Nat) : Prop := (y = .slice none 0 0 ∧ n = 0) ∨ ∃ g cap, y = .slice (some ⟨g, 0, none⟩) n cap ∧ g < w.heap.size ∧ ∀ t, t < n → w.cell? ⟨g, t, none⟩ = some (.int .i64 ((1 + t : Nat) : Int))
theorem Held.keep {w w' : World} {y : Value} {n : Nat} (h : Held w y n) (hb : Below w.heap.size w w') : Held w' y n := by
  rcases h with h | ⟨g, cap, e, h1, h2⟩
  · exact .inl h
  · exact .inr ⟨g, cap, e, Nat.lt_of_lt_of_le h1 hb.size, fun t ht => (hb.cell (p := ⟨g, t, none⟩) h1).trans (h2 t ht)⟩
theorem mark_any {B : Nat} {w : World} {y : Value} {ws : List Nat} (h : Ws B w y ws) (hl : ws.length ≤ 2000000) :
    Calls Try.prog 25 #[y, .int .i64 1] w fun e w' => e = .returned (.int .i64 ((1 + ws.length : Nat) : Int)) ∧ Held w' y ws.length ∧ w'.heap.size = w.heap.size ∧ Env w w' ∧ ∀ b, b < B → w'.heap[b]? = w.heap[b]? := by
  rcases h.2 with ⟨rfl, hn⟩ | ⟨g, cap, cur, rfl, h1, h2, h3, _, h5, _⟩
  · refine (markRow_none 1 w).mono ?_
    rintro e w' ⟨rfl, rfl⟩
    exact ⟨by rw [hn], .inl ⟨rfl, hn⟩, rfl, Env.refl _, fun _ _ => rfl⟩
  · refine (markRow_any g ws.length cap 1 cur w h2 (by rw [h5]; omega) hl (by omega)).mono ?_
    rintro e w' ⟨rfl, k1, a2, k2, k3, k4⟩
    refine ⟨rfl, .inr ⟨g, cap, rfl, blk_lt k2, fun t ht => ?_⟩, k1.1, k1.2.2, fun b hb => k1.2.1 b (by omega)⟩
    rw [blk_cell k2]
    exact k4 t ht
theorem held_any {w : World} {y : Value} {n : Nat} (h : Held w y n) (hn : n ≤ 2000000) :
    Calls Try.prog 26 #[y, .int .i64 1] w fun e w' => e = .returned (.int .i64 ((1 + n : Nat) : Int)) ∧ w' = w := by
  rcases h with ⟨rfl, rfl⟩ | ⟨g, cap, rfl, _, h2⟩
  · exact heldRow_none 1 w
  · exact heldRow_any g n cap 1 w h2 hn (by omega)
end PartMrC
end Go.Proofs.Ytibmagmdeacenao
