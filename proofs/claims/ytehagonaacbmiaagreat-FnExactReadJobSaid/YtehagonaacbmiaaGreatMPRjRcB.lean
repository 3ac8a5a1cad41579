/- What is read of the bytes of code: short texts, by both; the program's reader. -/
import Derived.Test.YtehagonaacbmiaaGreatMPRjRcA
import Derived.Test.YtehagonaacbmiaaGreatMPRjZah
namespace Go.Proofs.YtehagonaacbmiaaGreat
open Go.RowKit

theorem ext_list (s : ByteArray) (k m : Nat) : s.extract k (k + m) = ⟨((s.data.toList.drop k).take m).toArray⟩ := by
  apply ByteArray.ext
  rw [ByteArray.data_extract]
  apply Array.ext'
  rw [Array.toList_extract, List.extract_eq_take_drop]
  simp only [Nat.add_sub_cancel_left]

/-- What ReadShort answers. -/
def rsVal (L : List UInt8) (a : Nat) : Value := match Rc.rs L a with
  | none => .tuple #[.string ⟨#[]⟩, .int .i64 0, .bool false]
  | some (t, k) => .tuple #[.string ⟨t.toArray⟩, .int .i64 (k : Int), .bool true]
theorem readShort_is (s : ByteArray) (a : Nat) (ha : a ≤ s.size) (hs : s.size ≤ 1048576) :
    (∀ w, Calls Tryz.prog 65 #[.string s, .int .i64 (a : Int)] w fun e w' => e = .returned (rsVal s.data.toList a) ∧ Below w.heap.size w w') ∧
    (∀ w, Calls Tryz.prog 72 #[.string s, .int .i64 (a : Int)] w fun e w' => e = .returned (rsVal s.data.toList a) ∧ Below w.heap.size w w') := by
  have hsl : s.data.toList.length = s.size := by simp
  have hr := rvRes_is s a ha
  cases h : Rc.rv s.data.toList a with
  | none =>
    rw [h] at hr
    have e : rsVal s.data.toList a = .tuple #[.string ⟨#[]⟩, .int .i64 0, .bool false] := by unfold rsVal Rc.rs; rw [h]
    rw [e]
    exact ⟨fun w => specReadShort_no s a w hs hr, fun w => implReadShort_no s a w hs hr⟩
  | some r =>
    obtain ⟨m, k⟩ := r
    rw [h] at hr
    obtain ⟨_, hk, _, hm⟩ := Rc.rv_bytes (by omega) h
    rw [hsl] at hk
    by_cases h1 : 20000 < m
    · have e : rsVal s.data.toList a = .tuple #[.string ⟨#[]⟩, .int .i64 0, .bool false] := by unfold rsVal Rc.rs; rw [h]; simp only; rw [if_neg (by omega)]
      rw [e]
      exact ⟨fun w => specReadShort_much s a w hs m k hm hk hr h1, fun w => implReadShort_much s a w hs m k hm hk hr h1⟩
    · by_cases h2 : s.size < k + m
      · have e : rsVal s.data.toList a = .tuple #[.string ⟨#[]⟩, .int .i64 0, .bool false] := by unfold rsVal Rc.rs; rw [h]; simp only; rw [if_neg (by omega)]
        rw [e]
        exact ⟨fun w => specReadShort_short s a w hs m k (by omega) hk hr h2, fun w => implReadShort_short s a w hs m k (by omega) hk hr h2⟩
      · have e : rsVal s.data.toList a = .tuple #[.string (s.extract k (k + m)), .int .i64 ((k : Int) + (m : Int)), .bool true] := by
          unfold rsVal Rc.rs
          rw [h]
          simp only
          rw [if_pos (by omega), ext_list s k m]
          simp
        rw [e]
        exact ⟨fun w => specReadShort_yes s a w hs m k (by omega) (by omega) hr, fun w => implReadShort_yes s a w hs m k (by omega) (by omega) hr⟩

/-- The text that is told. -/
def Rc.txt : Bool → Option (List UInt8 × Nat) → List UInt8
  | false, some (t, _) => t
  | _, _ => []

set_option maxHeartbeats 2000000 in
set_option maxRecDepth 100000 in
theorem spShort7r (g : Nat) (s : ByteArray) (a : Nat) (bad : Bool) (w : World) (h : Cu7 w g s a bad) (ha : a ≤ s.size) (hs : s.size ≤ 1048576) :
    Calls Tryz.prog 30 #[.pointer (some ⟨g, 0, none⟩)] w fun e w' => e = .returned (.string ⟨(Rc.txt bad (Rc.rs s.data.toList a)).toArray⟩) ∧ Cu7.aft w' g s a bad ((Rc.rs s.data.toList a).map (·.2)) ∧ w.grownBy w' (some g) := by
  have C := (readShort_is s a ha hs).1
  unfold rsVal at C
  have HH : Hid (Cu7 w g s a bad) := h
  have hgl := blk_lt h
  have c0 := blk_cell h 0
  have c1 := blk_cell h 1
  have c2 := blk_cell h 2
  simp only [List.getElem?_toArray, List.getElem?_cons_zero, List.getElem?_cons_succ] at c0 c1 c2
  clear h
  cases hr : Rc.rs s.data.toList a with
  | none =>
    rw [hr] at C
    have CC : Hid (∀ W, Calls Tryz.prog 65 #[.string s, .int .i64 (a : Int)] W fun e w' => e = .returned (.tuple #[.string ⟨#[]⟩, .int .i64 0, .bool false]) ∧ Below W.heap.size W w') := C
    clear C hr
    go_enter Tryz.func30, Tryz.ntmps30
    go_wp2_with fail
    go_region_with ((go_at_call 65; refine (CC.out _).mono ?_; rintro e w1 ⟨rfl, hb1⟩))
    all_goals
      have R := (hb1.block g hgl).trans HH.out
      have HB : Hid (Below w.heap.size w w1) := (Below.refl _ _).drew.trans hb1
      have HR : Hid (w1.heap[g]? = some (.cells #[.string s, .int .i64 (a : Int), .bool bad] 63 (0, 0))) := R
      have d2 := blk_cell R 2
      have f2 := blk_free R 2
      simp only [List.getElem?_toArray, List.getElem?_cons_zero, List.getElem?_cons_succ] at d2
      clear R hb1 CC
      cases bad
      all_goals
        go_wp2
        go_ret
        exact ⟨rfl, blk_set HR.out 2 (.bool true), gr_trans (gr_below HB.out) (gr_set _ _ _ _)⟩
  | some r =>
    obtain ⟨t, k⟩ := r
    rw [hr] at C
    have CC : Hid (∀ W, Calls Tryz.prog 65 #[.string s, .int .i64 (a : Int)] W fun e w' => e = .returned (.tuple #[.string ⟨t.toArray⟩, .int .i64 (k : Int), .bool true]) ∧ Below W.heap.size W w') := C
    clear C hr
    go_enter Tryz.func30, Tryz.ntmps30
    go_wp2_with fail
    go_region_with ((go_at_call 65; refine (CC.out _).mono ?_; rintro e w1 ⟨rfl, hb1⟩))
    all_goals
      have R := (hb1.block g hgl).trans HH.out
      have HB : Hid (Below w.heap.size w w1) := (Below.refl _ _).drew.trans hb1
      have HR : Hid (w1.heap[g]? = some (.cells #[.string s, .int .i64 (a : Int), .bool bad] 63 (0, 0))) := R
      have d1 := blk_cell R 1
      have d2 := blk_cell R 2
      have f1 := blk_free R 1
      have f2 := blk_free R 2
      simp only [List.getElem?_toArray, List.getElem?_cons_zero, List.getElem?_cons_succ] at d1 d2
      clear R hb1 CC
      cases bad
      · go_wp2
        go_ret
        exact ⟨rfl, blk_set HR.out 1 (.int .i64 (k : Int)), gr_trans (gr_below HB.out) (gr_set _ _ _ _)⟩
      · go_wp2
        go_ret
        exact ⟨rfl, blk_set HR.out 2 (.bool true), gr_trans (gr_below HB.out) (gr_set _ _ _ _)⟩

/-- The program's reader's block. -/
def Br7 (w : World) (g : Nat) (s : ByteArray) (a : Nat) (wrong : Bool) : Prop := w.heap[g]? = some (.cells #[.string s, .int .i64 (a : Int), .bool wrong] 74 (0, 0))

set_option maxHeartbeats 2000000 in
set_option maxRecDepth 100000 in
theorem imNumber (g : Nat) (s : ByteArray) (a most : Nat) (bad : Bool) (w : World) (h : Br7 w g s a bad) (ha : a ≤ s.size) (hs : s.size ≤ 1048576) :
    Calls Tryz.prog 70 #[.pointer (some ⟨g, 0, none⟩), .int .i64 (most : Int)] w fun e w' => (match Rc.rv s.data.toList a with
      | some (n, k) => if n ≤ most then e = .returned (.int .i64 (n : Int)) ∧ Br7 w' g s k bad else e = .returned (.int .i64 0) ∧ Br7 w' g s a true
      | none => e = .returned (.int .i64 0) ∧ Br7 w' g s a true) ∧ w.grownBy w' (some g) := by
  have C := fun W => implRv_any s (a : Int) W hs
  rw [rvRes_is s a ha] at C
  have HH : Hid (Br7 w g s a bad) := h
  have hgl := blk_lt h
  have c0 := blk_cell h 0
  have c1 := blk_cell h 1
  have d1 := blk_cell (w := w.drew) h 1
  have d2 := blk_cell (w := w.drew) h 2
  have f1 := blk_free (w := w.drew) h 1
  have f2 := blk_free (w := w.drew) h 2
  simp only [List.getElem?_toArray, List.getElem?_cons_zero, List.getElem?_cons_succ] at c0 c1 d1 d2
  clear h
  cases hr : Rc.rv s.data.toList a with
  | none =>
    rw [hr] at C
    have CC : Hid (∀ W, Calls Tryz.prog 95 #[.string s, .int .i64 (a : Int)] W fun e w' => e = .returned (.tuple #[.int .i64 0, .int .i64 0, .bool false]) ∧ w' = W) := C
    clear C hr
    go_enter Tryz.func70, Tryz.ntmps70
    go_wp2_with fail
    go_region_with ((go_at_call 95; refine (CC.out _).mono ?_; rintro e w1 ⟨rfl, rfl⟩))
    all_goals
      go_wp2
      go_ret
      exact ⟨⟨rfl, blk_set (w := w.drew) HH.out 2 (.bool true)⟩, gr_trans (gr_below ((Below.refl _ _).drew)) (gr_set _ _ _ _)⟩
  | some r =>
    obtain ⟨n, k⟩ := r
    rw [hr] at C
    have CC : Hid (∀ W, Calls Tryz.prog 95 #[.string s, .int .i64 (a : Int)] W fun e w' => e = .returned (.tuple #[.int .i64 (n : Int), .int .i64 (k : Int), .bool true]) ∧ w' = W) := C
    clear C hr
    simp only
    by_cases hm : n ≤ most
    · simp only [if_pos hm]
      have dm : decide ((most : Int) < (n : Int)) = false := decide_eq_false (by omega)
      go_enter Tryz.func70, Tryz.ntmps70
      go_wp2_with fail
      go_region_with ((go_at_call 95; refine (CC.out _).mono ?_; rintro e w1 ⟨rfl, rfl⟩))
      all_goals
        go_wp2
        go_ret
        exact ⟨⟨rfl, blk_set (w := w.drew) HH.out 1 (.int .i64 (k : Int))⟩, gr_trans (gr_below ((Below.refl _ _).drew)) (gr_set _ _ _ _)⟩
    · simp only [if_neg hm]
      have dm : decide ((most : Int) < (n : Int)) = true := decide_eq_true (by omega)
      go_enter Tryz.func70, Tryz.ntmps70
      go_wp2_with fail
      go_region_with ((go_at_call 95; refine (CC.out _).mono ?_; rintro e w1 ⟨rfl, rfl⟩))
      all_goals
        go_wp2
        go_ret
        exact ⟨⟨rfl, blk_set (w := w.drew) HH.out 2 (.bool true)⟩, gr_trans (gr_below ((Below.refl _ _).drew)) (gr_set _ _ _ _)⟩

set_option maxHeartbeats 2000000 in
set_option maxRecDepth 100000 in
theorem imShort (g : Nat) (s : ByteArray) (a : Nat) (bad : Bool) (w : World) (h : Br7 w g s a bad) (ha : a ≤ s.size) (hs : s.size ≤ 1048576) :
    Calls Tryz.prog 35 #[.pointer (some ⟨g, 0, none⟩)] w fun e w' => (match Rc.rs s.data.toList a with
      | some (t, k) => e = .returned (.string ⟨t.toArray⟩) ∧ Br7 w' g s k bad
      | none => e = .returned (.string ⟨#[]⟩) ∧ Br7 w' g s a true) ∧ w.grownBy w' (some g) := by
  have C := (readShort_is s a ha hs).2
  unfold rsVal at C
  have HH : Hid (Br7 w g s a bad) := h
  have hgl := blk_lt h
  have c0 := blk_cell h 0
  have c1 := blk_cell h 1
  simp only [List.getElem?_toArray, List.getElem?_cons_zero, List.getElem?_cons_succ] at c0 c1
  clear h
  cases hr : Rc.rs s.data.toList a with
  | none =>
    rw [hr] at C
    have CC : Hid (∀ W, Calls Tryz.prog 72 #[.string s, .int .i64 (a : Int)] W fun e w' => e = .returned (.tuple #[.string ⟨#[]⟩, .int .i64 0, .bool false]) ∧ Below W.heap.size W w') := C
    clear C hr
    go_enter Tryz.func35, Tryz.ntmps35
    go_wp2_with fail
    go_region_with ((go_at_call 72; refine (CC.out _).mono ?_; rintro e w1 ⟨rfl, hb1⟩))
    all_goals
      have R := (hb1.block g hgl).trans HH.out
      have HB : Hid (Below w.heap.size w w1) := (Below.refl _ _).drew.trans hb1
      have HR : Hid (w1.heap[g]? = some (.cells #[.string s, .int .i64 (a : Int), .bool bad] 74 (0, 0))) := R
      have d2 := blk_cell R 2
      have f2 := blk_free R 2
      simp only [List.getElem?_toArray, List.getElem?_cons_zero, List.getElem?_cons_succ] at d2
      clear R hb1 CC
      go_wp2
      go_ret
      exact ⟨⟨rfl, blk_set HR.out 2 (.bool true)⟩, gr_trans (gr_below HB.out) (gr_set _ _ _ _)⟩
  | some r =>
    obtain ⟨t, k⟩ := r
    rw [hr] at C
    have CC : Hid (∀ W, Calls Tryz.prog 72 #[.string s, .int .i64 (a : Int)] W fun e w' => e = .returned (.tuple #[.string ⟨t.toArray⟩, .int .i64 (k : Int), .bool true]) ∧ Below W.heap.size W w') := C
    clear C hr
    go_enter Tryz.func35, Tryz.ntmps35
    go_wp2_with fail
    go_region_with ((go_at_call 72; refine (CC.out _).mono ?_; rintro e w1 ⟨rfl, hb1⟩))
    all_goals
      have R := (hb1.block g hgl).trans HH.out
      have HB : Hid (Below w.heap.size w w1) := (Below.refl _ _).drew.trans hb1
      have HR : Hid (w1.heap[g]? = some (.cells #[.string s, .int .i64 (a : Int), .bool bad] 74 (0, 0))) := R
      have d1 := blk_cell R 1
      have f1 := blk_free R 1
      simp only [List.getElem?_toArray, List.getElem?_cons_zero, List.getElem?_cons_succ] at d1
      clear R hb1 CC
      go_wp2
      go_ret
      exact ⟨⟨rfl, blk_set HR.out 1 (.int .i64 (k : Int))⟩, gr_trans (gr_below HB.out) (gr_set _ _ _ _)⟩

end Go.Proofs.YtehagonaacbmiaaGreat
