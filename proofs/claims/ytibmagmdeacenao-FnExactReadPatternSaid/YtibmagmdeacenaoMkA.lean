/- The law's own marks: rows of numbers that are written and held. -/
import Derived.Test.YtibmagmdeacenaoMkT
namespace Go.Proofs.Ytibmagmdeacenao
open Go.RowKit

/-- Numbers from k on. -/
def run (k n : Nat) : List Value := (List.range n).map fun t => Value.int .i64 ((k + t : Nat) : Int)
theorem run_len (k n : Nat) : (run k n).length = n := by simp [run]
theorem run_at (k n t : Nat) (h : t < n) : (run k n)[t]? = some (.int .i64 ((k + t : Nat) : Int)) := by simp [run, h]

theorem Env.refl (w : World) : Env w w := ⟨rfl, rfl, rfl⟩
theorem Env.trans {w w1 w2 : World} (h : Env w w1) (k : Env w1 w2) : Env w w2 := ⟨k.1.trans h.1, k.2.1.trans h.2.1, k.2.2.trans h.2.2⟩
/-- Nothing but block q has changed. -/
def But (q : Nat) (w w' : World) : Prop := w'.heap.size = w.heap.size ∧ (∀ k, k ≠ q → w'.heap[k]? = w.heap[k]?) ∧ Env w w'
theorem But.refl (q : Nat) (w : World) : But q w w := ⟨rfl, fun _ _ => rfl, Env.refl w⟩
theorem But.set {q : Nat} {w w' : World} (h : But q w w') (o : Nat) (u : Value) : But q w (w'.setCell ⟨q, o, none⟩ u) :=
  ⟨by simpa [World.setCell] using h.1, fun k hk => by rw [Below.heap_setCell _ _ _ _ (by show k ≠ q; exact hk)]; exact h.2.1 k hk, h.2.2⟩

set_option maxRecDepth 100000 in
set_option maxHeartbeats 800000 in
theorem markInts_any (q n k : Nat) (arr : Array Value) (w : World) (h : w.heap[q]? = some (.cells arr 3 (0, 0))) (ha : arr.size = n) (hn : 0 < n) (hn2 : n ≤ 1000) (hk : k ≤ 1000000) :
    Calls Try.prog 25 #[.slice (some ⟨q, 0, none⟩) n n, .int .i64 (k : Int)] w fun e w' => e = .returned (.int .i64 ((k + n : Nat) : Int)) ∧ But q w w' ∧ w'.heap[q]? = some (.cells (run k n).toArray 3 (0, 0)) := by
  have HW : Hid (∃ a2 : Array Value, w.heap[q]? = some (.cells a2 3 (0, 0)) ∧ a2.size = n ∧ ∀ t, t < 0 → a2[t]? = some (.int .i64 ((k + t : Nat) : Int))) := ⟨arr, h, ha, fun t ht => by omega⟩
  clear h ha
  go_enter Try.func25, Try.ntmps25
  go_wp2
  go_loopw [1, 5] (fun c i wr => ∃ j : Nat, i = .int .i64 (j : Int) ∧ c = .int .i64 ((k : Int) + (j : Int)) ∧ j ≤ n ∧ Hid (But q w wr) ∧ Hid (∃ a2 : Array Value, wr.heap[q]? = some (.cells a2 3 (0, 0)) ∧ a2.size = n ∧ ∀ t, t < j → a2[t]? = some (.int .i64 ((k + t : Nat) : Int)))) (fun _ i _ => n - (intOf i).toNat)
  case atStart => exact ⟨0, rfl, by simp, by omega, But.refl q w, HW.out⟩
  case round =>
    obtain ⟨j, rfl, rfl, hj, HB, HA⟩ := hrel
    obtain ⟨a2, h2, hs2, hc2⟩ := HA.out
    by_cases hlt : j < n
    · have c1 := blk_cell h2 j
      rw [Array.getElem?_eq_getElem (by omega)] at c1
      have f1 := blk_free h2 j
      have HS := blk_set h2 j (.int .i64 ((k : Int) + (j : Int)))
      have HA2 : Hid (∃ a3 : Array Value, (wr.setCell ⟨q, j, none⟩ (.int .i64 ((k : Int) + (j : Int)))).heap[q]? = some (.cells a3 3 (0, 0)) ∧ a3.size = n ∧ ∀ t, t < j + 1 → a3[t]? = some (.int .i64 ((k + t : Nat) : Int))) := by
        refine ⟨_, HS, by simpa using hs2, fun t ht => ?_⟩
        rw [Array.getElem?_setIfInBounds]
        by_cases htj : j = t
        · subst htj
          rw [if_pos rfl, if_pos (by omega)]
          simp
        · rw [if_neg htj]
          exact hc2 t (by omega)
      have i1 : (j : Int) < (n : Int) := by omega
      clear HA HS h2 hc2
      go_wp2
      go_roundw
      case rel => exact ⟨j + 1, by go_num, by go_num, by omega, HB.out.set j _, HA2.out⟩
      case measure => simp [intOf]; omega
    · obtain rfl : j = n := by omega
      have HE : Hid (wr.heap[q]? = some (.cells (run k j).toArray 3 (0, 0))) := by
        show _ = _
        rw [h2]
        congr 2
        apply Array.ext'
        apply List.ext_getElem?
        intro t
        by_cases ht : t < j
        · have := hc2 t ht
          rw [run_at k j t ht] 
          simpa using this
        · rw [List.getElem?_eq_none (by simp; omega), List.getElem?_eq_none (by simp [run_len]; omega)]
      clear h2 hc2 HA
      go_wp2
      go_ret
      exact ⟨rfl, HB.out, HE.out⟩

set_option maxRecDepth 100000 in
set_option maxHeartbeats 800000 in
theorem markInts_none (k : Nat) (w : World) :
    Calls Try.prog 25 #[.slice none 0 0, .int .i64 (k : Int)] w fun e w' => e = .returned (.int .i64 (k : Int)) ∧ w' = w := by
  go_enter Try.func25, Try.ntmps25
  go_wp2
  refine wp_loop_rounds 1 ?_
  rw [rounds_succ]
  go_wp2
  go_ret
  exact ⟨rfl, rfl⟩

set_option maxRecDepth 100000 in
set_option maxHeartbeats 800000 in
theorem heldInts_any (q n k : Nat) (w : World) (h : w.heap[q]? = some (.cells (run k n).toArray 3 (0, 0))) (hn : 0 < n) (hn2 : n ≤ 1000) (hk : k ≤ 1000000) :
    Calls Try.prog 26 #[.slice (some ⟨q, 0, none⟩) n n, .int .i64 (k : Int)] w fun e w' => e = .returned (.int .i64 ((k + n : Nat) : Int)) ∧ w' = w := by
  have HW : Hid (∀ j, j < n → w.cell? ⟨q, j, none⟩ = some (.int .i64 ((k : Int) + (j : Int)))) := by
    intro j hj
    rw [blk_cell h]
    have := run_at k n j hj
    simpa using this
  clear h
  go_enter Try.func26, Try.ntmps26
  go_wp2
  go_loop [1, 5] (fun c i => ∃ j : Nat, i = .int .i64 (j : Int) ∧ c = .int .i64 ((k : Int) + (j : Int)) ∧ j ≤ n) (fun _ i => n - (intOf i).toNat)
  case atStart => exact ⟨0, rfl, by simp, by omega⟩
  case round =>
    obtain ⟨j, rfl, rfl, hj⟩ := hrel
    by_cases hlt : j < n
    · have c1 := HW.out j hlt
      have i1 : (j : Int) < (n : Int) := by omega
      have hq : (((k : Int) + (j : Int)) != ((k : Int) + (j : Int))) = false := by simp
      go_wp2
      go_round
      case rel => exact ⟨j + 1, by go_num, by go_num, by omega⟩
      case measure => simp [intOf]; omega
    · obtain rfl : j = n := by omega
      go_wp2
      go_ret
      exact ⟨rfl, rfl⟩
set_option maxRecDepth 100000 in
set_option maxHeartbeats 800000 in
theorem heldInts_none (k : Nat) (w : World) :
    Calls Try.prog 26 #[.slice none 0 0, .int .i64 (k : Int)] w fun e w' => e = .returned (.int .i64 (k : Int)) ∧ w' = w := by
  go_enter Try.func26, Try.ntmps26
  go_wp2
  refine wp_loop_rounds 1 ?_
  rw [rounds_succ]
  go_wp2
  go_ret
  exact ⟨rfl, rfl⟩
#print axioms heldInts_none
end Go.Proofs.Ytibmagmdeacenao
