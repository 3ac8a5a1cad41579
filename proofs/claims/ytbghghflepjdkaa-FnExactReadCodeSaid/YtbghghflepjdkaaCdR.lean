/- slices.Repeat of one number. -/
import Derived.Test.YtbghghflepjdkaaZab
import Derived.Test.YtbghghflepjdkaaShelfM
import Derived.Laws.CopyOwn
import Derived.Deep.RegionLaw
namespace Go.Proofs.Ytbghghflepjdkaa
open Go.RowKit

/-- The first k are -1, the others nought. -/
def reps (n k : Nat) : List Int := List.replicate k (-1) ++ List.replicate (n - k) 0
theorem reps_len (n k : Nat) (h : k ≤ n) : (reps n k).length = n := by simp [reps]; omega
theorem reps_splice (n k m : Nat) (h1 : k + m ≤ n) : splice ((reps n k).map iv) k ((List.replicate m (-1)).map iv) = (reps n (k + m)).map iv := by
  unfold splice reps
  simp only [List.map_append, List.map_replicate, List.length_replicate]
  rw [List.take_left' (by simp), List.drop_append, List.length_replicate, List.drop_eq_nil_of_le (by simp), List.nil_append, List.drop_replicate, ← List.append_assoc, List.replicate_append_replicate]
  congr 2
  omega

set_option maxHeartbeats 1000000 in
set_option maxRecDepth 100000 in
theorem repeat_any (b n : Nat) (w : World) (hn1 : 1 ≤ n) (hn : n ≤ 1000) (hc : w.cell? ⟨b, 0, none⟩ = some (.int .i64 (-1))) :
    Calls Try.prog 47 #[.slice (some ⟨b, 0, none⟩) 1 1, .int .i64 (n : Int)] w fun e w' => ∃ g, e = .returned (.slice (some ⟨g, 0, none⟩) n n) ∧ w.heap.size ≤ g ∧ g < w'.heap.size ∧ Below w.heap.size w w' ∧ KidsBlk w' g (List.replicate n (-1)) := by
  have CM : Hid (∀ W, Calls Try.prog 54 #[.int .u64 1, .int .u64 (n : Int)] W fun e w' => e = .returned (.tuple #[.int .u64 0, .int .u64 (n : Int)]) ∧ w' = W) := fun W => by
    have := Try.bits_Mul 1 n (by omega) (by omega) W
    rw [Nat.one_mul, Nat.div_eq_of_lt (by omega), Nat.mod_eq_of_lt (by omega)] at this
    exact this
  have u1 : IntKind.u64.wrap (n : Int) = (n : Int) := by unfold IntKind.wrap; simp [IntKind.bits, IntKind.signed]; omega
  have d0 : decide ((n : Int) < 0) = false := decide_eq_false (by omega)
  have d1 : decide ((9223372036854775807 : Int) < (n : Int)) = false := decide_eq_false (by omega)
  obtain ⟨M, hM, hmk⟩ := makeI_run n (by omega)
  have hM2 : M = ((reps n 0).map iv).toArray := by rw [hM]; simp [reps]
  have hMs : M.size = n := by rw [hM]; simp
  have HG : Hid ((w.alloc (.cells M 3)).heap[w.heap.size]? = some (.cells ((reps n 0).map iv).toArray 3 (0, 0))) := by
    show _ = _
    rw [heap_alloc_new, hM2]
  have HB : Hid (Below w.heap.size w (w.alloc (.cells M 3))) := (Below.refl _ _).alloc (Nat.le_refl _) _
  have hsz : w.heap.size < (w.alloc (.cells M 3)).heap.size := by simp
  have hc2 : (w.alloc (.cells M 3)).cell? ⟨b, 0, none⟩ = some (.int .i64 (-1)) := (HB.out.cell (World.block_lt_of_cell? w _ hc)).trans hc
  have hcp := run_copy_row (P := Try.prog) (w.alloc (.cells M 3)) 62 62 3 3 w.heap.size 0 n n ⟨b, 0, none⟩ 1 1 ((reps n 0).map iv).toArray 3 ((List.replicate 1 (-1)).map iv) Try.underlying62 (by kernel_rfl) HG.out (by rw [List.length_map, List.length_replicate]; exact (Nat.min_eq_left hn1).symm) (fun j v hj => by
    match j, hj with
    | 0, hj => simp [iv] at hj; rw [← hj]; exact hc2
    | j + 1, hj => simp at hj) (by simp [reps]; omega) (by simp [iv, Value.oneCell'])
  obtain ⟨w3, hw3⟩ : ∃ w3, w3 = (w.alloc (.cells M 3)).setRow w.heap.size (((reps n 0).map iv).toArray.toList.take 0 ++ (List.replicate 1 (-1)).map iv ++ ((reps n 0).map iv).toArray.toList.drop (0 + ((List.replicate 1 (-1 : Int)).map iv).length)).toArray := ⟨_, rfl⟩
  have HG3 : Hid (w3.heap[w.heap.size]? = some (.cells ((reps n 1).map iv).toArray 3 (0, 0))) := by
    show _ = _
    rw [hw3, setRow_heap _ _ _ _ _ _ HG.out, ← reps_splice n 0 1 (by omega)]
    simp [splice]
  have HB3 : Hid (Below w.heap.size w w3) := by rw [hw3]; exact below_setRow HB.out (Nat.le_refl _) _
  rw [← hw3] at hcp
  clear hw3 HG HB hc2 hM hM2 hMs hc hsz
  have hcp2 : (Builtin.copy_ #[62, 62] 3 #[.slice (some ⟨w.heap.size, 0, none⟩) n n, .slice (some ⟨b, 0, none⟩) 1 1]).run Try.prog (w.alloc (.cells M 3)) = .ok (.int .i64 1) w3 := hcp
  clear hcp
  go_enter Try.func47, Try.ntmps47
  go_wp2_with fail
  refine (CM.out _).mono ?_
  rintro e w2 ⟨rfl, hw2⟩
  rw [hw2]
  clear hw2 CM
  go_wp2
  clear hmk hcp2
  go_loopw [8] (fun i wr => ∃ k : Nat, i = .int .i64 (k : Int) ∧ 1 ≤ k ∧ k ≤ n ∧ Hid (Below w.heap.size w wr) ∧ Hid (wr.heap[w.heap.size]? = some (.cells ((reps n k).map iv).toArray 3 (0, 0)))) (fun i _ => n - (intOf i).toNat)
  case atStart => exact ⟨1, rfl, by omega, by omega, HB3.out, HG3.out⟩
  case round =>
    clear HB3 HG3
    obtain ⟨k, rfl, hk1, hk2, HB, HG⟩ := hrel
    by_cases hlt : k < n
    · have dk : decide ((k : Int) < (n : Int)) = true := decide_eq_true (by omega)
      have hkn : (k : Int) ≤ (n : Int) := by omega
      have dz : decide ((0 : Int) ≤ (k : Int)) = true := decide_eq_true (by omega)
      obtain ⟨m, hm⟩ : ∃ m, m = Nat.min k (n - k) := ⟨_, rfl⟩
      have hm1 : m ≤ n - k := by rw [hm]; exact Nat.min_le_right _ _
      have hm2 : m ≤ k := by rw [hm]; exact Nat.min_le_left _ _
      have hm3 : 1 ≤ m := by rw [hm]; exact Nat.le_min.2 ⟨hk1, by omega⟩
      have hsrc : Hid (∀ W : World, W.heap[w.heap.size]? = some (.cells ((reps n k).map iv).toArray 3 (0, 0)) → ∀ j v, ((List.replicate m (-1 : Int)).map iv)[j]? = some v → W.cell? ((⟨w.heap.size, 0, none⟩ : Addr).add j) = some v) := by
        intro W hW j v hj
        have hjm : j < m := by
          have := (List.getElem?_eq_some_iff.1 hj).1
          simpa using this
        rw [show (⟨w.heap.size, 0, none⟩ : Addr).add j = ⟨w.heap.size, j, none⟩ by unfold Addr.add; split <;> simp_all, blk_cell hW, ← hj]
        simp [reps, List.getElem?_append, hjm, show j < k by omega]
      have HL : Hid (∀ W : World, W.heap[w.heap.size]? = some (.cells (splice ((reps n k).map iv) k ((List.replicate m (-1 : Int)).map iv)).toArray 3 (0, 0)) → W.heap[w.heap.size]? = some (.cells ((reps n (k + m)).map iv).toArray 3 (0, 0))) := fun W h => by rwa [reps_splice n k m (by omega)] at h
      have HM : Hid (m = Nat.min k (n - k)) := hm
      have hnk : ¬ n = k := by omega
      have hwr : IntKind.i64.wrap ((k : Int) + (m : Int)) = ((k + m : Nat) : Int) := by rw [show (k : Int) + (m : Int) = ((k + m : Nat) : Int) by omega]; exact IntWalk.i64_in _ (by omega)
      clear hm
      go_wp2_with fail
      go_region_law (refine step_copy_splice rfl (.tmp 41) (.tmp 44) 62 62 rfl 3 Try.underlying62 (by kernel_rfl) (some ⟨w.heap.size, k, none⟩) (some ⟨w.heap.size, 0, none⟩) (n - k) (n - k) k n (by simp [Act.eval, Act.put]) (by simp [Act.eval, Act.put]) w.heap.size k ((reps n k).map iv) 3 HG.out ((List.replicate m (-1 : Int)).map iv) (by rw [List.length_map, List.length_replicate]; exact HM.out) (fun _ => ⟨rfl, _, rfl, hsrc.out _ HG.out⟩) (by rw [List.length_map, List.length_map, List.length_replicate, reps_len n k hk2]; omega) (by simp [iv, Value.oneCell']) w.heap.size w HB.out.drew (Nat.le_refl _) ?_; intro w4 hg4 hb4)
      all_goals
        have HG4 : Hid (w4.heap[w.heap.size]? = some (.cells ((reps n (k + m)).map iv).toArray 3 (0, 0))) := HL.out _ hg4.out
        have HB4 : Hid (Below w.heap.size w w4) := hb4
        clear hg4 hb4 HL hsrc HM HG HB
        try go_simp
        try go_wp2
        go_roundw
        case rel => exact ⟨k + m, by first | go_num | (rw [hwr]) | simp [hwr] | (simp; omega), by omega, by omega, HB4.out, HG4.out⟩
        case measure => simp [intOf]; omega
    · obtain rfl : k = n := by omega
      have dk : decide ((k : Int) < (k : Int)) = false := decide_eq_false (by omega)
      have HK : Hid (KidsBlk wr w.heap.size (List.replicate k (-1))) := by
        have := HG.out
        unfold reps at this
        rwa [Nat.sub_self, List.replicate_zero, List.append_nil] at this
      have hlt2 : w.heap.size < wr.heap.size := blk_lt HK.out
      clear HG
      go_wp2
      go_ret
      exact ⟨w.heap.size, rfl, Nat.le_refl _, hlt2, HB.out, HK.out⟩
end Go.Proofs.Ytbghghflepjdkaa
