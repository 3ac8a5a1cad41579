/- The library's IndexRune at a rune of 128 or more: not found among bytes below 128. -/
import Derived.Test.YtmofljfffcnlbaaMPSxZax
import Derived.WalkMore
import Derived.Deep.RegionHeld3
namespace Go.Proofs.Ytmofljfffcnlbaa
open Go.RowKit

def Asc (s : ByteArray) : Prop := ∀ b ∈ s.data.toList, b.toNat < 128
theorem Asc.at {s : ByteArray} (h : Asc s) (i : Nat) (hi : i < s.size) : (s[i]'hi).toNat < 128 := by
  apply h
  show s.data[i] ∈ s.data.toList
  exact Array.getElem_mem_toList _
theorem indexByte_absent {l : List UInt8} {c : UInt8} (h : ∀ b ∈ l, b ≠ c) : Lib.indexByte l c = -1 := by
  induction l with
  | nil => rfl
  | cons b r ih =>
    have h1 : (b == c) = false := by simpa using h b (by simp)
    simp [Lib.indexByte, h1, ih (fun x hx => h x (by simp [hx]))]
theorem below_iter (w : World) (s : ByteArray) (pos : Nat) : Below w.heap.size w (w.iter s pos) := by
  refine ⟨rfl, rfl, rfl, ?_, fun k hk => ?_⟩
  · show w.heap.size ≤ (w.heap.push (Obj.stringIter s pos)).size
    simp
  · show (w.heap.push (Obj.stringIter s pos))[k]? = w.heap[k]?
    simp [Array.getElem?_push, Nat.ne_of_lt hk]

set_option maxRecDepth 100000 in
set_option maxHeartbeats 1000000 in
theorem indexRune_err (s : ByteArray) (w : World) (ha : Asc s) :
    Calls Try.prog 67 #[.string s, .int .i32 65533] w fun e w' => e = .returned (.int .i64 (-1)) ∧ Below w.heap.size w w' := by
  go_enter Try.func67, Try.ntmps67
  go_wp2
  go_loopw [] (fun w' => ∃ pos, w' = w.iter s pos ∧ pos ≤ s.size) (fun w' => s.size - w'.iterPos w.heap.size)
  case atStart => exact ⟨0, rfl, Nat.zero_le _⟩
  case round =>
    obtain ⟨pos, rfl, hle⟩ := hrel
    by_cases hp : pos < s.size
    · have hlt := ha.at pos hp
      have hnx : ∀ ty, (Instr.next (.pointer (some ⟨w.heap.size, 0, none⟩)) true ty).run Try.prog (w.iter s pos) = _ := fun ty => run_next_ascii w s pos ty hp hlt
      have hq : (((s[pos]'hp).toNat : Int) == 65533) = false := by simp; omega
      go_wp2
      go_roundw
      case rel => exact ⟨pos + 1, rfl, by omega⟩
      case measure => simp; omega
    · have hnx : ∀ ty, (Instr.next (.pointer (some ⟨w.heap.size, 0, none⟩)) true ty).run Try.prog (w.iter s pos) = _ := fun ty => run_next_end w s pos ty hp
      go_wp2
      go_ret
      exact ⟨rfl, below_iter _ _ _⟩

set_option maxRecDepth 100000 in
set_option maxHeartbeats 1000000 in
theorem indexRune_bad (s : ByteArray) (r : Int) (w : World) (h0 : 128 ≤ r) (h1 : r ≤ 2147483647) (h2 : r ≠ 65533) (hv : ¬ ((0 ≤ r ∧ r < 55296) ∨ (57343 < r ∧ r ≤ 1114111))) :
    Calls Try.prog 67 #[.string s, .int .i32 r] w fun e w' => e = .returned (.int .i64 (-1)) ∧ Below w.heap.size w w' := by
  have d1 : decide ((0 : Int) ≤ r) = true := decide_eq_true (by omega)
  have d2 : decide (r < 128) = false := decide_eq_false (by omega)
  have d3 : (r == 65533) = false := by simpa using h2
  have d4 : decide (r < 55296) = false := decide_eq_false (by omega)
  by_cases h5 : 57343 < r
  · have d5 : decide (57343 < r) = true := decide_eq_true h5
    have d6 : decide (r ≤ 1114111) = false := decide_eq_false (by omega)
    go_enter Try.func67, Try.ntmps67
    go_wp2
    go_ret
    exact ⟨rfl, Below.refl _ _⟩
  · have d5 : decide (57343 < r) = false := decide_eq_false h5
    go_enter Try.func67, Try.ntmps67
    go_wp2
    go_ret
    exact ⟨rfl, Below.refl _ _⟩

set_option maxRecDepth 100000 in
set_option maxHeartbeats 1000000 in
theorem indexRune_wide1 (s : ByteArray) (r : Int) (w : World) (ha : Asc s) (h0 : 128 ≤ r) (h2 : r ≠ 65533) (hv : r < 55296) :
    Calls Try.prog 67 #[.string s, .int .i32 r] w fun e w' => e = .returned (.int .i64 (-1)) ∧ Below w.heap.size w w' := by
  have d1 : decide ((0 : Int) ≤ r) = true := decide_eq_true (by omega)
  have d2 : decide (r < 128) = false := decide_eq_false (by omega)
  have d3 : (r == 65533) = false := by simpa using h2
  have d4 : decide (r < 55296) = true := decide_eq_true hv
  have hva : Utf8.valid r = true := by rw [validRune_eq]; exact decide_eq_true (by omega)
  obtain ⟨f2, f4, fl⟩ := encode_facts r hva h0
  obtain ⟨E, hE⟩ : ∃ E, Utf8.encode r = E := ⟨_, rfl⟩
  rw [hE] at f2 f4
  simp only [hE] at fl
  obtain ⟨k, hk⟩ : ∃ k, E.size = k + 1 := ⟨E.size - 1, by omega⟩
  have hkE : k < E.size := by omega
  have h128 : 128 ≤ (E[k]'hkE).toNat := by
    have := fl (by omega)
    have e : E.size - 1 = k := by omega
    simpa only [e] using this
  clear fl
  go_enter Try.func67, Try.ntmps67
  go_wp2
  go_step3
  go_wp2
  clear d1 d2 d3 h2 hE hva hv
  go_loopw [9] (fun i wr => i = .int .i64 (k : Int) ∧ wr = w) (fun _ _ => 0)
  case atStart => exact ⟨rfl, rfl⟩
  case round =>
    obtain ⟨rfl, rfl⟩ := hrel
    by_cases hks : k < s.size
    · have hsk := ha.at k hks
      have i1 : (k : Int) < (s.size : Int) := by omega
      have i0 : (0 : Int) ≤ (k : Int) := by omega
      have i2 : (k : Int) < (E.size : Int) := by omega
      have d1 : decide ((k : Int) < (s.size : Int)) = true := decide_eq_true i1
      have hq : (((s[k]'hks).toNat : Int) != ((E[k]'hkE).toNat : Int)) = true := by simp; omega
      have hq2 : ((s[k]'hks).toNat != (E[k]'hkE).toNat) = true := by simp; omega
      have CB : Hid (∀ W : World, Calls Try.prog 69 #[.string (s.extract (k + 1) s.size), .int .u8 ((E[k]'hkE).toNat : Int)] W fun e w' => e = .returned (.int .i64 (-1)) ∧ w' = W) := by
        intro W
        have := indexByteI_any (s.extract (k + 1) s.size) ((E[k]'hkE).toNat : Int) W
        rw [toU8, indexByte_absent (by intro b hb e; have := ha b (mem_extract hb); rw [e] at this; omega)] at this
        exact this
      have i3 : (0 : Int) ≤ (k : Int) + 1 := by omega
      have i4 : (k : Int) + 1 ≤ (s.size : Int) := by omega
      have i5 : IntKind.i64.wrap ((k : Int) + 1) = (k : Int) + 1 := wrap_small _ (by omega) (by omega)
      have i6 : k + 1 ≤ s.size := by omega
      clear hk f2 f4
      go_wp2
      go_step3
      go_wp2_with fail
      go_quiet (fail)
      go_wp2_with fail
      go_region_held3 (fun _ => True) (first | go_keep | trivial) ((go_at_call 69; refine (CB.out _).mono ?_; rintro e a2 ⟨rfl, rfl⟩))
      go_wp2
      rw [Exit.noGoto_ret]
      go_wp2
      rw [Exit.noGoto_ret]
      go_wp2
      go_ret
      exact ⟨rfl, below_drewN (Below.refl _ _) _⟩
    · have d1 : decide ((k : Int) < (s.size : Int)) = false := decide_eq_false (by omega)
      go_wp2
      rw [Exit.noGoto_ret]
      go_wp2
      go_ret
      exact ⟨rfl, Below.refl _ _⟩
set_option maxRecDepth 100000 in
set_option maxHeartbeats 1000000 in
theorem indexRune_wide2 (s : ByteArray) (r : Int) (w : World) (ha : Asc s) (h0 : 128 ≤ r) (h2 : r ≠ 65533) (hv : 57343 < r ∧ r ≤ 1114111) :
    Calls Try.prog 67 #[.string s, .int .i32 r] w fun e w' => e = .returned (.int .i64 (-1)) ∧ Below w.heap.size w w' := by
  have d1 : decide ((0 : Int) ≤ r) = true := decide_eq_true (by omega)
  have d2 : decide (r < 128) = false := decide_eq_false (by omega)
  have d3 : (r == 65533) = false := by simpa using h2
  have d4 : decide (r < 55296) = false := decide_eq_false (by omega)
  have d5 : decide (57343 < r) = true := decide_eq_true hv.1
  have d6 : decide (r ≤ 1114111) = true := decide_eq_true hv.2
  have hva : Utf8.valid r = true := by rw [validRune_eq]; exact decide_eq_true (by omega)
  obtain ⟨f2, f4, fl⟩ := encode_facts r hva h0
  obtain ⟨E, hE⟩ : ∃ E, Utf8.encode r = E := ⟨_, rfl⟩
  rw [hE] at f2 f4
  simp only [hE] at fl
  obtain ⟨k, hk⟩ : ∃ k, E.size = k + 1 := ⟨E.size - 1, by omega⟩
  have hkE : k < E.size := by omega
  have h128 : 128 ≤ (E[k]'hkE).toNat := by
    have := fl (by omega)
    have e : E.size - 1 = k := by omega
    simpa only [e] using this
  clear fl
  go_enter Try.func67, Try.ntmps67
  go_wp2
  go_step3
  go_wp2
  clear d1 d2 d3 h2 hE hva hv
  go_loopw [9] (fun i wr => i = .int .i64 (k : Int) ∧ wr = w) (fun _ _ => 0)
  case atStart => exact ⟨rfl, rfl⟩
  case round =>
    obtain ⟨rfl, rfl⟩ := hrel
    by_cases hks : k < s.size
    · have hsk := ha.at k hks
      have i1 : (k : Int) < (s.size : Int) := by omega
      have i0 : (0 : Int) ≤ (k : Int) := by omega
      have i2 : (k : Int) < (E.size : Int) := by omega
      have d1 : decide ((k : Int) < (s.size : Int)) = true := decide_eq_true i1
      have hq : (((s[k]'hks).toNat : Int) != ((E[k]'hkE).toNat : Int)) = true := by simp; omega
      have hq2 : ((s[k]'hks).toNat != (E[k]'hkE).toNat) = true := by simp; omega
      have CB : Hid (∀ W : World, Calls Try.prog 69 #[.string (s.extract (k + 1) s.size), .int .u8 ((E[k]'hkE).toNat : Int)] W fun e w' => e = .returned (.int .i64 (-1)) ∧ w' = W) := by
        intro W
        have := indexByteI_any (s.extract (k + 1) s.size) ((E[k]'hkE).toNat : Int) W
        rw [toU8, indexByte_absent (by intro b hb e; have := ha b (mem_extract hb); rw [e] at this; omega)] at this
        exact this
      have i3 : (0 : Int) ≤ (k : Int) + 1 := by omega
      have i4 : (k : Int) + 1 ≤ (s.size : Int) := by omega
      have i5 : IntKind.i64.wrap ((k : Int) + 1) = (k : Int) + 1 := wrap_small _ (by omega) (by omega)
      have i6 : k + 1 ≤ s.size := by omega
      clear hk f2 f4
      go_wp2
      go_step3
      go_wp2_with fail
      go_quiet (fail)
      go_wp2_with fail
      go_region_held3 (fun _ => True) (first | go_keep | trivial) ((go_at_call 69; refine (CB.out _).mono ?_; rintro e a2 ⟨rfl, rfl⟩))
      go_wp2
      rw [Exit.noGoto_ret]
      go_wp2
      rw [Exit.noGoto_ret]
      go_wp2
      go_ret
      exact ⟨rfl, below_drewN (Below.refl _ _) _⟩
    · have d1 : decide ((k : Int) < (s.size : Int)) = false := decide_eq_false (by omega)
      go_wp2
      rw [Exit.noGoto_ret]
      go_wp2
      go_ret
      exact ⟨rfl, Below.refl _ _⟩
theorem indexRune_high (s : ByteArray) (r : Int) (w : World) (ha : Asc s) (h0 : 128 ≤ r) (h1 : r ≤ 2147483647) :
    Calls Try.prog 67 #[.string s, .int .i32 r] w fun e w' => e = .returned (.int .i64 (-1)) ∧ Below w.heap.size w w' := by
  by_cases h2 : r = 65533
  · subst h2
    exact indexRune_err s w ha
  by_cases h3 : r < 55296
  · exact indexRune_wide1 s r w ha h0 h2 h3
  by_cases h4 : 57343 < r ∧ r ≤ 1114111
  · exact indexRune_wide2 s r w ha h0 h2 h4
  · exact indexRune_bad s r w h0 h1 h2 (by omega)
theorem indexByte_contains (l : List UInt8) (c : UInt8) : decide (0 ≤ Lib.indexByte l c) = l.contains c := by
  by_cases h : c ∈ l
  · have h1 : Lib.indexByte l c ≠ -1 := fun e => by
      obtain ⟨k, hk⟩ := List.mem_iff_getElem?.1 h
      exact Lib.indexByte_none e k hk
    have := Lib.indexByte_ge l c
    rw [decide_eq_true (by omega)]
    simp [h]
  · rw [indexByte_absent (fun b hb e => h (by rw [← e]; exact hb))]
    simp [h]

set_option maxRecDepth 100000 in
set_option maxHeartbeats 1000000 in
theorem containsRune_any (s : ByteArray) (r : Int) (w : World) (ha : Asc s) (h0 : 0 ≤ r) (h1 : r ≤ 2147483647) :
    Calls Try.prog 63 #[.string s, .int .i32 r] w fun e w' => e = .returned (.bool (decide (r < 128) && s.data.toList.contains r.toNat.toUInt8)) ∧ Below w.heap.size w w' := by
  obtain ⟨z, hz, C⟩ : ∃ z : Int, decide (0 ≤ z) = (decide (r < 128) && s.data.toList.contains r.toNat.toUInt8) ∧ Hid (∀ w, Calls Try.prog 67 #[.string s, .int .i32 r] w fun e w' => e = .returned (.int .i64 z) ∧ Below w.heap.size w w') := by
    by_cases h : r < 128
    · refine ⟨Lib.indexByte s.data.toList r.toNat.toUInt8, ?_, fun w => (indexRune_low s r w h0 h).mono ?_⟩
      · rw [indexByte_contains, decide_eq_true h]
        rfl
      · rintro e w' ⟨rfl, rfl⟩
        exact ⟨rfl, Below.refl _ _⟩
    · refine ⟨-1, ?_, fun w => indexRune_high s r w ha (by omega) h1⟩
      rw [decide_eq_false h]
      rfl
  rw [← hz]
  clear hz ha
  go_enter Try.func63, Try.ntmps63
  go_wp2_with (go_at_call 67; refine (C.out _).mono ?_; rintro e w' ⟨rfl, hb⟩)
  go_ret
  exact ⟨rfl, hb⟩
end Go.Proofs.Ytmofljfffcnlbaa
