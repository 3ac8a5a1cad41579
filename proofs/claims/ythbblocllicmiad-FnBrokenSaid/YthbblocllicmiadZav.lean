/- The library's contracts of bits.Mul and cmp.Less, laid at this program. slices.Repeat of one number. -/
import Derived.Shelf.Small.Utf8
import Derived.Shelf.Small.Strs
import Derived.Shelf.LaysM
import Derived.Shelf.Strconv.Clone
import Derived.Shelf.Strings.Search1
import Derived.Shelf.Strings.Search2
import Derived.Shelf.Strings.Cut
import Derived.Shelf.Strings.Shaped
import Derived.Shelf.Strings.Runes
import Derived.Shelf.Bits.Mul64
import Derived.Ground.Names2Prog
import Derived.Shelf.Slices.SearchI
import Derived.Test.YthbblocllicmiadProg
import Derived.Test.YthbblocllicmiadZaa
import Derived.Laws.CopyOwn
import Derived.Deep.RegionLaw
namespace Go.Proofs.Ythbblocllicmiad
section PartShelfM
open Go.Shelf Go.Proofs
def Try.lays212_ren : Go.Shelf.Ren := ⟨fun | 212 => 24 | 263 => 27 | 264 => 28 | n => n, fun | 46 => 43 | 51 => 66 | 146 => 67 | 53 => 69 | 148 => 70 | n => n, fun | n => n⟩
theorem Try.lays212 : Go.Proofs.Lays.n212 Try.prog Try.lays212_ren := {
  mixed := by kernel_rfl
  f212 := Try.func24.trans (congrArg some (by kernel_rfl))
  f263 := Try.func27.trans (congrArg some (by kernel_rfl))
  f264 := Try.func28.trans (congrArg some (by kernel_rfl))
  t46 := Try.underlying43
  a46 := Try.isAgg43
  z46 := Try.sizeOf43
  v46 := Try.zeroValue43
  t51 := Try.underlying66
  a51 := Try.isAgg66
  z51 := Try.sizeOf66
  v51 := Try.zeroValue66
  t53 := Try.underlying69
  a53 := Try.isAgg69
  z53 := Try.sizeOf69
  v53 := Try.zeroValue69
  t146 := Try.underlying67
  a146 := Try.isAgg67
  z146 := Try.sizeOf67
  v146 := Try.zeroValue67
  t148 := Try.underlying70
  a148 := Try.isAgg70
  z148 := Try.sizeOf70
  v148 := Try.zeroValue70 }
open Go.RowKit Go.Lib in
theorem Try.bits_Mul (x y : Nat) (hx : x < 18446744073709551616) (hy : y < 18446744073709551616) (w : World) :
    Calls Try.prog 24 #[.int .u64 x, .int .u64 y] w fun e w' => e = .returned (.tuple #[.int .u64 ((x * y / 18446744073709551616 : Nat) : Int), .int .u64 ((x * y % 18446744073709551616 : Nat) : Int)]) ∧ w' = w := Any.bits_Mul Try.lays212 x y hx hy w
def Try.laysNm237_ren : Go.Shelf.Ren := ⟨fun | 37 => 16 | n => n, fun | 3 => 3 | 4 => 4 | n => n, fun | n => n⟩
theorem Try.laysNm237 : Go.Proofs.Lays2.n37 Try.prog Try.laysNm237_ren := {
  mixed := by kernel_rfl
  f37 := Try.func16.trans (congrArg some (by kernel_rfl))
  t3 := Try.underlying3
  a3 := Try.isAgg3
  z3 := Try.sizeOf3
  v3 := Try.zeroValue3
  t4 := Try.underlying4
  a4 := Try.isAgg4
  z4 := Try.sizeOf4
  v4 := Try.zeroValue4 }
open Go.RowKit Go.Lib in
theorem Try.cmp_isNaN_int2 (x : Int) (w : World) :
    Calls Try.prog 16 #[.int .i64 x] w fun e w' => e = .returned (.bool false) ∧ w' = w := Any.cmp_isNaN_int2 Try.laysNm237 x w
def Try.laysNm231_ren : Go.Shelf.Ren := ⟨fun | 31 => 13 | 37 => 16 | n => n, fun | 3 => 3 | 4 => 4 | n => n, fun | n => n⟩
theorem Try.laysNm231 : Go.Proofs.Lays2.n31 Try.prog Try.laysNm231_ren := {
  mixed := by kernel_rfl
  f31 := Try.func13.trans (congrArg some (by kernel_rfl))
  f37 := Try.func16.trans (congrArg some (by kernel_rfl))
  t3 := Try.underlying3
  a3 := Try.isAgg3
  z3 := Try.sizeOf3
  v3 := Try.zeroValue3
  t4 := Try.underlying4
  a4 := Try.isAgg4
  z4 := Try.sizeOf4
  v4 := Try.zeroValue4 }
open Go.RowKit Go.Lib in
theorem Try.cmp_Less_int2 (x y : Int) (w : World) :
    Calls Try.prog 13 #[.int .i64 x, .int .i64 y] w fun e w' => e = .returned (.bool (decide (x < y))) ∧ w' = w := Any.cmp_Less_int2 Try.laysNm231 x y w
end PartShelfM
section PartCdR
open Go.RowKit

/-- The first k are -1, the others nought. -/
def reps (n k : Nat) : List Int := List.replicate k (-1) ++ List.replicate (n - k) 0
theorem reps_len (n k : Nat) (h : k ≤ n) : (reps n k).length = n := by simp [reps]; omega
theorem reps_splice (n k m : Nat) (h1 : k + m ≤ n) : splice ((reps n k).map iv) k ((List.replicate m (-1)).map iv) = (reps n (k + m)).map iv := by
  unfold splice reps
  simp only [List.map_append, List.map_replicate, List.length_replicate]
  rw [List.take_left' (by simp), List.drop_append, List.length_replicate, List.drop_eq_nil_of_le (by simp), List.nil_append, List.drop_replicate, ← List.append_assoc, List.replicate_append_replicate]
  congr 2
  omega

set_option maxHeartbeats 1000000 in
set_option maxRecDepth 100000 in
theorem repeat_any (b n : Nat) (w : World) (hn1 : 1 ≤ n) (hn : n ≤ 1000) (hc : w.cell? ⟨b, 0, none⟩ = some (.int .i64 (-1))) :
    Calls Try.prog 19 #[.slice (some ⟨b, 0, none⟩) 1 1, .int .i64 (n : Int)] w fun e w' => ∃ g, e = .returned (.slice (some ⟨g, 0, none⟩) n n) ∧ w.heap.size ≤ g ∧ g < w'.heap.size ∧ Below w.heap.size w w' ∧ KidsBlk w' g (List.replicate n (-1)) := by
  have CM : Hid (∀ W, Calls Try.prog 24 #[.int .u64 1, .int .u64 (n : Int)] W fun e w' => e = .returned (.tuple #[.int .u64 0, .int .u64 (n : Int)]) ∧ w' = W) := fun W => by
    have := Try.bits_Mul 1 n (by omega) (by omega) W
    rw [Nat.one_mul, Nat.div_eq_of_lt (by omega), Nat.mod_eq_of_lt (by omega)] at this
    exact this
  have u1 : IntKind.u64.wrap (n : Int) = (n : Int) := by unfold IntKind.wrap; simp [IntKind.bits, IntKind.signed]; omega
  have d0 : decide ((n : Int) < 0) = false := decide_eq_false (by omega)
  have d1 : decide ((9223372036854775807 : Int) < (n : Int)) = false := decide_eq_false (by omega)
  obtain ⟨M, hM, hmk⟩ := makeI_run n (by omega)
  have hM2 : M = ((reps n 0).map iv).toArray := by rw [hM]; simp [reps]
  have hMs : M.size = n := by rw [hM]; simp
  have HG : Hid ((w.alloc (.cells M 3)).heap[w.heap.size]? = some (.cells ((reps n 0).map iv).toArray 3 (0, 0))) := by
    show _ = _
    rw [heap_alloc_new, hM2]
  have HB : Hid (Below w.heap.size w (w.alloc (.cells M 3))) := (Below.refl _ _).alloc (Nat.le_refl _) _
  have hsz : w.heap.size < (w.alloc (.cells M 3)).heap.size := by simp
  have hc2 : (w.alloc (.cells M 3)).cell? ⟨b, 0, none⟩ = some (.int .i64 (-1)) := (HB.out.cell (World.block_lt_of_cell? w _ hc)).trans hc
  have hcp := run_copy_row (P := Try.prog) (w.alloc (.cells M 3)) 30 30 3 3 w.heap.size 0 n n ⟨b, 0, none⟩ 1 1 ((reps n 0).map iv).toArray 3 ((List.replicate 1 (-1)).map iv) Try.underlying30 (by kernel_rfl) HG.out (by rw [List.length_map, List.length_replicate]; exact (Nat.min_eq_left hn1).symm) (fun j v hj => by
    match j, hj with
    | 0, hj => simp [iv] at hj; rw [← hj]; exact hc2
    | j + 1, hj => simp at hj) (by simp [reps]; omega) (by simp [iv, Value.oneCell'])
  obtain ⟨w3, hw3⟩ : ∃ w3, w3 = (w.alloc (.cells M 3)).setRow w.heap.size (((reps n 0).map iv).toArray.toList.take 0 ++ (List.replicate 1 (-1)).map iv ++ ((reps n 0).map iv).toArray.toList.drop (0 + ((List.replicate 1 (-1 : Int)).map iv).length)).toArray := ⟨_, rfl⟩
  have HG3 : Hid (w3.heap[w.heap.size]? = some (.cells ((reps n 1).map iv).toArray 3 (0, 0))) := by
    show _ = _
    rw [hw3, setRow_heap _ _ _ _ _ _ HG.out, ← reps_splice n 0 1 (by omega)]
    simp [splice]
  have HB3 : Hid (Below w.heap.size w w3) := by rw [hw3]; exact below_setRow HB.out (Nat.le_refl _) _
  rw [← hw3] at hcp
  clear hw3 HG HB hc2 hM hM2 hMs hc hsz
  have hcp2 : (Builtin.copy_ #[30, 30] 3 #[.slice (some ⟨w.heap.size, 0, none⟩) n n, .slice (some ⟨b, 0, none⟩) 1 1]).run Try.prog (w.alloc (.cells M 3)) = .ok (.int .i64 1) w3 := hcp
  clear hcp
  go_enter Try.func19, Try.ntmps19
  go_wp2_with fail
  refine (CM.out _).mono ?_
  rintro e w2 ⟨rfl, hw2⟩
  rw [hw2]
  clear hw2 CM
  go_wp2
  clear hmk hcp2
  go_loopw [8] (fun i wr => ∃ k : Nat, i = .int .i64 (k : Int) ∧ 1 ≤ k ∧ k ≤ n ∧ Hid (Below w.heap.size w wr) ∧ Hid (wr.heap[w.heap.size]? = some (.cells ((reps n k).map iv).toArray 3 (0, 0)))) (fun i _ => n - (intOf i).toNat)
  case atStart => exact ⟨1, rfl, by omega, by omega, HB3.out, HG3.out⟩
  case round =>
    clear HB3 HG3
    obtain ⟨k, rfl, hk1, hk2, HB, HG⟩ := hrel
    by_cases hlt : k < n
    · have dk : decide ((k : Int) < (n : Int)) = true := decide_eq_true (by omega)
      have hkn : (k : Int) ≤ (n : Int) := by omega
      have dz : decide ((0 : Int) ≤ (k : Int)) = true := decide_eq_true (by omega)
      obtain ⟨m, hm⟩ : ∃ m, m = Nat.min k (n - k) := ⟨_, rfl⟩
      have hm1 : m ≤ n - k := by rw [hm]; exact Nat.min_le_right _ _
      have hm2 : m ≤ k := by rw [hm]; exact Nat.min_le_left _ _
      have hm3 : 1 ≤ m := by rw [hm]; exact Nat.le_min.2 ⟨hk1, by omega⟩
      have hsrc : Hid (∀ W : World, W.heap[w.heap.size]? = some (.cells ((reps n k).map iv).toArray 3 (0, 0)) → ∀ j v, ((List.replicate m (-1 : Int)).map iv)[j]? = some v → W.cell? ((⟨w.heap.size, 0, none⟩ : Addr).add j) = some v) := by
        intro W hW j v hj
        have hjm : j < m := by
          have := (List.getElem?_eq_some_iff.1 hj).1
          simpa using this
        rw [show (⟨w.heap.size, 0, none⟩ : Addr).add j = ⟨w.heap.size, j, none⟩ by unfold Addr.add; split <;> simp_all, blk_cell hW, ← hj]
        simp [reps, List.getElem?_append, hjm, show j < k by omega]
      have HL : Hid (∀ W : World, W.heap[w.heap.size]? = some (.cells (splice ((reps n k).map iv) k ((List.replicate m (-1 : Int)).map iv)).toArray 3 (0, 0)) → W.heap[w.heap.size]? = some (.cells ((reps n (k + m)).map iv).toArray 3 (0, 0))) := fun W h => by rwa [reps_splice n k m (by omega)] at h
      have HM : Hid (m = Nat.min k (n - k)) := hm
      have hnk : ¬ n = k := by omega
      have hwr : IntKind.i64.wrap ((k : Int) + (m : Int)) = ((k + m : Nat) : Int) := by rw [show (k : Int) + (m : Int) = ((k + m : Nat) : Int) by omega]; exact IntWalk.i64_in _ (by omega)
      clear hm
      go_wp2_with fail
      go_region_law (refine step_copy_splice rfl (.tmp 41) (.tmp 44) 30 30 rfl 3 Try.underlying30 (by kernel_rfl) (some ⟨w.heap.size, k, none⟩) (some ⟨w.heap.size, 0, none⟩) (n - k) (n - k) k n (by simp [Act.eval, Act.put]) (by simp [Act.eval, Act.put]) w.heap.size k ((reps n k).map iv) 3 HG.out ((List.replicate m (-1 : Int)).map iv) (by rw [List.length_map, List.length_replicate]; exact HM.out) (fun _ => ⟨rfl, _, rfl, hsrc.out _ HG.out⟩) (by rw [List.length_map, List.length_map, List.length_replicate, reps_len n k hk2]; omega) (by simp [iv, Value.oneCell']) w.heap.size w HB.out.drew (Nat.le_refl _) ?_; intro w4 hg4 hb4)
      all_goals
        have HG4 : Hid (w4.heap[w.heap.size]? = some (.cells ((reps n (k + m)).map iv).toArray 3 (0, 0))) := HL.out _ hg4.out
        have HB4 : Hid (Below w.heap.size w w4) := hb4
        clear hg4 hb4 HL hsrc HM HG HB
        try go_simp
        try go_wp2
        go_roundw
        case rel => exact ⟨k + m, by first | go_num | (rw [hwr]) | simp [hwr] | (simp; omega), by omega, by omega, HB4.out, HG4.out⟩
        case measure => simp [intOf]; omega
    · obtain rfl : k = n := by omega
      have dk : decide ((k : Int) < (k : Int)) = false := decide_eq_false (by omega)
      have HK : Hid (KidsBlk wr w.heap.size (List.replicate k (-1))) := by
        have := HG.out
        unfold reps at this
        rwa [Nat.sub_self, List.replicate_zero, List.append_nil] at this
      have hlt2 : w.heap.size < wr.heap.size := blk_lt HK.out
      clear HG
      go_wp2
      go_ret
      exact ⟨w.heap.size, rfl, Nat.le_refl _, hlt2, HB.out, HK.out⟩
end PartCdR
end Go.Proofs.Ythbblocllicmiad
