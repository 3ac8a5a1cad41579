/- The contract of the library's IndexByte, laid at this program; Index and Cut at one byte. The library's IndexRune and ContainsRune, where what is searched has bytes below 128 alone. The library's IndexRune at a rune of 128 or more: not found among bytes below 128. Plain facts: the rounds of Tokens. -/
import Derived.Shelf.Strings.Search1
import Derived.Test.YtehagonaacbmiaaGreatProg
import Derived.WalkKit
import Derived.WalkSpells
import Derived.WalkLawsBesides
import Derived.Handy
import Derived.Lib.Strings
import Derived.Lib.IndexLaws
import Derived.BigQuiet
import Derived.Deep.QuietTactic
import Derived.OwnWalk
import Derived.Laws.Runes
import Derived.Laws.RangeAny
import Derived.LoopTactic
import Derived.WalkMore
import Derived.Deep.RegionHeld3
import Derived.Test.YtehagonaacbmiaaGreatMPRjZag
namespace Go.Proofs.YtehagonaacbmiaaGreat
section PartShelfP
open Go.Shelf
def Tryz.lays217_ren : Go.Shelf.Ren := ⟨fun | 217 => 123 | 266 => 129 | n => n, fun | 9 => 9 | 5 => 5 | 3 => 3 | n => n, fun | n => n⟩
set_option maxRecDepth 100000 in
theorem Tryz.lays217 : Go.Proofs.Lays.n217 Tryz.prog Tryz.lays217_ren := {
  mixed := by kernel_rfl
  f217 := Tryz.func123.trans (congrArg some (by kernel_rfl))
  f266 := Tryz.func129.trans (congrArg some (by kernel_rfl))
  t3 := Tryz.underlying3
  a3 := Tryz.isAgg3
  z3 := Tryz.sizeOf3
  v3 := Tryz.zeroValue3
  t5 := Tryz.underlying5
  a5 := Tryz.isAgg5
  z5 := Tryz.sizeOf5
  v5 := Tryz.zeroValue5
  t9 := Tryz.underlying9
  a9 := Tryz.isAgg9
  z9 := Tryz.sizeOf9
  v9 := Tryz.zeroValue9 }
set_option maxRecDepth 100000 in
open Go.RowKit Go.Lib in
theorem Tryz.stringslite_IndexByte (s : ByteArray) (c : Int) (w : World) :
    Calls Tryz.prog 123 #[.string s, .int .u8 c] w fun e w' => e = .returned (.int .i64 (Lib.indexByte s.data.toList c.toNat.toUInt8)) ∧ w' = w := Any.stringslite_IndexByte Tryz.lays217 s c w
open Go.RowKit

theorem toU8 (c : UInt8) : ((c.toNat : Int)).toNat.toUInt8 = c := by simp

set_option maxRecDepth 100000 in
set_option maxHeartbeats 400000 in
theorem indexByte_any (s : ByteArray) (c : UInt8) (w : World) :
    Calls Tryz.prog 112 #[.string s, .int .u8 (c.toNat : Int)] w fun e w' => e = .returned (.int .i64 (Lib.indexByte s.data.toList c)) ∧ w' = w := by
  have C : Hid (∀ w, Calls Tryz.prog 123 #[.string s, .int .u8 (c.toNat : Int)] w fun e w' => e = .returned (.int .i64 (Lib.indexByte s.data.toList c)) ∧ w' = w) := by
    intro w
    have := Tryz.stringslite_IndexByte s (c.toNat : Int) w
    rwa [toU8] at this
  go_enter Tryz.func112, Tryz.ntmps112
  go_wp2_with (go_at_call 123; refine (C.out _).mono ?_; rintro e w' ⟨rfl, rfl⟩)
  go_ret
  exact ⟨rfl, rfl⟩

set_option maxRecDepth 100000 in
set_option maxHeartbeats 400000 in
theorem index93_any (s : ByteArray) (w : World) :
    Calls Tryz.prog 141 #[.string s, .string ⟨#[93]⟩] w fun e w' => e = .returned (.int .i64 (Lib.indexByte s.data.toList 93)) ∧ w' = w := by
  have C : Hid (∀ w, Calls Tryz.prog 123 #[.string s, .int .u8 93] w fun e w' => e = .returned (.int .i64 (Lib.indexByte s.data.toList 93)) ∧ w' = w) := fun w => Tryz.stringslite_IndexByte s 93 w
  go_enter Tryz.func141, Tryz.ntmps141
  go_wp2_with (go_at_call 123; refine (C.out _).mono ?_; rintro e w' ⟨rfl, rfl⟩)
  · have h : ([93] == s.toList) = true := by assumption
    go_ret
    refine ⟨?_, rfl⟩
    have e : s.data.toList = [93] := by rw [← Lib.toList_data]; exact (beq_iff_eq.1 h).symm
    rw [e]
    simp [Lib.indexByte]
  · go_ret
    exact ⟨rfl, rfl⟩

set_option maxRecDepth 100000 in
set_option maxHeartbeats 400000 in
/-- Cut at the sign that closes a set. -/
theorem cut93_any (s : ByteArray) (w : World) (hs : s.size ≤ 1000000) :
    Calls Tryz.prog 139 #[.string s, .string ⟨#[93]⟩] w fun e w' => (∃ k, w' = w.drewN k) ∧
      ((Lib.indexByte s.data.toList 93 = -1 ∧ e = .returned (.tuple #[.string s, .string ⟨#[]⟩, .bool false])) ∨
       ∃ i : Nat, Lib.indexByte s.data.toList 93 = (i : Int) ∧ i < s.size ∧ e = .returned (.tuple #[.string (s.extract 0 i), .string (s.extract (i + 1) s.size), .bool true])) := by
  obtain ⟨z, hz⟩ : ∃ z, z = Lib.indexByte s.data.toList 93 := ⟨_, rfl⟩
  have C : Hid (∀ w, Calls Tryz.prog 141 #[.string s, .string ⟨#[93]⟩] w fun e w' => e = .returned (.int .i64 z) ∧ w' = w) := fun w => by rw [hz]; exact index93_any s w
  have HZ : Hid (z = Lib.indexByte s.data.toList 93) := hz
  have hge := Lib.indexByte_ge s.data.toList 93
  rw [← hz] at hge
  by_cases hm : z = -1
  · have HM : Hid (Lib.indexByte s.data.toList 93 = -1) := by show _ = _; rw [← hz]; exact hm
    clear hz
    subst hm
    have D : Hid (∀ w, Calls Tryz.prog 140 #[.string s, .string ⟨#[93]⟩] w fun e w' => e = .returned (.tuple #[.string s, .string ⟨#[]⟩, .bool false]) ∧ ∃ k, w' = w.drewN k) := by
      intro w
      go_enter Tryz.func140, Tryz.ntmps140
      go_wp2_with fail
      refine (C.out _).mono ?_
      rintro e w1 ⟨rfl, rfl⟩
      go_wp2
      (try simp only [Exit.inBlock, Exit.then])
      refine bodyPost_ret (results_tmp3 rfl _ _ _) rfl ?_
      exact ⟨rfl, 0, rfl⟩
    go_enter Tryz.func139, Tryz.ntmps139
    go_wp2_with fail
    refine (D.out _).mono ?_
    rintro e w1 ⟨rfl, k, rfl⟩
    go_wp2
    (try simp only [Exit.inBlock, Exit.then])
    refine bodyPost_ret (results_tmp3 rfl _ _ _) rfl ?_
    exact ⟨⟨k, rfl⟩, .inl ⟨HM.out, rfl⟩⟩
  · obtain ⟨i, hi⟩ : ∃ i : Nat, z = (i : Int) := ⟨z.toNat, by omega⟩
    have hlt : i < s.size := by
      have := (Lib.indexByte_some (hz.symm.trans hi)).1
      have := (List.getElem?_eq_some_iff.1 this).1
      simpa using this
    have HI : Hid (Lib.indexByte s.data.toList 93 = (i : Int)) := hz.symm.trans hi
    clear hz hm HZ hge
    subst hi
    have i1 : (i : Int) ≤ (s.size : Int) := by omega
    have i2 : (i : Int) + 1 ≤ (s.size : Int) := by omega
    have D : Hid (∀ w, Calls Tryz.prog 140 #[.string s, .string ⟨#[93]⟩] w fun e w' => e = .returned (.tuple #[.string (s.extract 0 i), .string (s.extract (i + 1) s.size), .bool true]) ∧ ∃ k, w' = w.drewN k) := by
      intro w
      go_enter Tryz.func140, Tryz.ntmps140
      go_wp2_with fail
      refine (C.out _).mono ?_
      rintro e w1 ⟨rfl, rfl⟩
      go_wp2_with fail
      go_quiet (fail)
      go_wp2
      (try simp only [Exit.inBlock, Exit.then])
      refine bodyPost_ret (results_tmp3 rfl _ _ _) rfl ?_
      exact ⟨rfl, _, rfl⟩
    go_enter Tryz.func139, Tryz.ntmps139
    go_wp2_with fail
    refine (D.out _).mono ?_
    rintro e w1 ⟨rfl, k, rfl⟩
    go_wp2
    (try simp only [Exit.inBlock, Exit.then])
    refine bodyPost_ret (results_tmp3 rfl _ _ _) rfl ?_
    exact ⟨⟨k, rfl⟩, .inr ⟨i, HI.out, hlt, rfl⟩⟩
end PartShelfP
section PartItA
open Go.RowKit

set_option maxRecDepth 100000 in
set_option maxHeartbeats 400000 in
theorem indexByteI_any (s : ByteArray) (c : Int) (w : World) :
    Calls Tryz.prog 112 #[.string s, .int .u8 c] w fun e w' => e = .returned (.int .i64 (Lib.indexByte s.data.toList c.toNat.toUInt8)) ∧ w' = w := by
  have C : Hid (∀ w, Calls Tryz.prog 123 #[.string s, .int .u8 c] w fun e w' => e = .returned (.int .i64 (Lib.indexByte s.data.toList c.toNat.toUInt8)) ∧ w' = w) := fun w => Tryz.stringslite_IndexByte s c w
  go_enter Tryz.func112, Tryz.ntmps112
  go_wp2_with (go_at_call 123; refine (C.out _).mono ?_; rintro e w' ⟨rfl, rfl⟩)
  go_ret
  exact ⟨rfl, rfl⟩

set_option maxRecDepth 100000 in
set_option maxHeartbeats 1000000 in
theorem indexRune_low (s : ByteArray) (r : Int) (w : World) (h0 : 0 ≤ r) (h1 : r < 128) :
    Calls Tryz.prog 106 #[.string s, .int .i32 r] w fun e w' => e = .returned (.int .i64 (Lib.indexByte s.data.toList r.toNat.toUInt8)) ∧ w' = w := by
  have C : Hid (∀ w, Calls Tryz.prog 112 #[.string s, .int .u8 r] w fun e w' => e = .returned (.int .i64 (Lib.indexByte s.data.toList r.toNat.toUInt8)) ∧ w' = w) := fun w => indexByteI_any s r w
  go_enter Tryz.func106, Tryz.ntmps106
  go_wp2_with (go_at_call 112; refine (C.out _).mono ?_; rintro e w' ⟨rfl, rfl⟩)
  go_ret
  exact ⟨rfl, rfl⟩
end PartItA
section PartItB
open Go.RowKit

def Asc (s : ByteArray) : Prop := ∀ b ∈ s.data.toList, b.toNat < 128
theorem Asc.at {s : ByteArray} (h : Asc s) (i : Nat) (hi : i < s.size) : (s[i]'hi).toNat < 128 := by
  apply h
  show s.data[i] ∈ s.data.toList
  exact Array.getElem_mem_toList _
theorem indexByte_absent {l : List UInt8} {c : UInt8} (h : ∀ b ∈ l, b ≠ c) : Lib.indexByte l c = -1 := by
  induction l with
  | nil => rfl
  | cons b r ih =>
    have h1 : (b == c) = false := by simpa using h b (by simp)
    simp [Lib.indexByte, h1, ih (fun x hx => h x (by simp [hx]))]
theorem below_iter (w : World) (s : ByteArray) (pos : Nat) : Below w.heap.size w (w.iter s pos) := by
  refine ⟨rfl, rfl, rfl, ?_, fun k hk => ?_⟩
  · show w.heap.size ≤ (w.heap.push (Obj.stringIter s pos)).size
    simp
  · show (w.heap.push (Obj.stringIter s pos))[k]? = w.heap[k]?
    simp [Array.getElem?_push, Nat.ne_of_lt hk]

set_option maxRecDepth 100000 in
set_option maxHeartbeats 1000000 in
theorem indexRune_err (s : ByteArray) (w : World) (ha : Asc s) :
    Calls Tryz.prog 106 #[.string s, .int .i32 65533] w fun e w' => e = .returned (.int .i64 (-1)) ∧ Below w.heap.size w w' := by
  go_enter Tryz.func106, Tryz.ntmps106
  go_wp2
  go_loopw [] (fun w' => ∃ pos, w' = w.iter s pos ∧ pos ≤ s.size) (fun w' => s.size - w'.iterPos w.heap.size)
  case atStart => exact ⟨0, rfl, Nat.zero_le _⟩
  case round =>
    obtain ⟨pos, rfl, hle⟩ := hrel
    by_cases hp : pos < s.size
    · have hlt := ha.at pos hp
      have hnx : ∀ ty, (Instr.next (.pointer (some ⟨w.heap.size, 0, none⟩)) true ty).run Tryz.prog (w.iter s pos) = _ := fun ty => run_next_ascii w s pos ty hp hlt
      have hq : (((s[pos]'hp).toNat : Int) == 65533) = false := by simp; omega
      go_wp2
      go_roundw
      case rel => exact ⟨pos + 1, rfl, by omega⟩
      case measure => simp; omega
    · have hnx : ∀ ty, (Instr.next (.pointer (some ⟨w.heap.size, 0, none⟩)) true ty).run Tryz.prog (w.iter s pos) = _ := fun ty => run_next_end w s pos ty hp
      go_wp2
      go_ret
      exact ⟨rfl, below_iter _ _ _⟩

set_option maxRecDepth 100000 in
set_option maxHeartbeats 1000000 in
theorem indexRune_bad (s : ByteArray) (r : Int) (w : World) (h0 : 128 ≤ r) (h1 : r ≤ 2147483647) (h2 : r ≠ 65533) (hv : ¬ ((0 ≤ r ∧ r < 55296) ∨ (57343 < r ∧ r ≤ 1114111))) :
    Calls Tryz.prog 106 #[.string s, .int .i32 r] w fun e w' => e = .returned (.int .i64 (-1)) ∧ Below w.heap.size w w' := by
  have d1 : decide ((0 : Int) ≤ r) = true := decide_eq_true (by omega)
  have d2 : decide (r < 128) = false := decide_eq_false (by omega)
  have d3 : (r == 65533) = false := by simpa using h2
  have d4 : decide (r < 55296) = false := decide_eq_false (by omega)
  by_cases h5 : 57343 < r
  · have d5 : decide (57343 < r) = true := decide_eq_true h5
    have d6 : decide (r ≤ 1114111) = false := decide_eq_false (by omega)
    go_enter Tryz.func106, Tryz.ntmps106
    go_wp2
    go_ret
    exact ⟨rfl, Below.refl _ _⟩
  · have d5 : decide (57343 < r) = false := decide_eq_false h5
    go_enter Tryz.func106, Tryz.ntmps106
    go_wp2
    go_ret
    exact ⟨rfl, Below.refl _ _⟩

set_option maxRecDepth 100000 in
set_option maxHeartbeats 1000000 in
theorem indexRune_wide1 (s : ByteArray) (r : Int) (w : World) (ha : Asc s) (h0 : 128 ≤ r) (h2 : r ≠ 65533) (hv : r < 55296) :
    Calls Tryz.prog 106 #[.string s, .int .i32 r] w fun e w' => e = .returned (.int .i64 (-1)) ∧ Below w.heap.size w w' := by
  have d1 : decide ((0 : Int) ≤ r) = true := decide_eq_true (by omega)
  have d2 : decide (r < 128) = false := decide_eq_false (by omega)
  have d3 : (r == 65533) = false := by simpa using h2
  have d4 : decide (r < 55296) = true := decide_eq_true hv
  have hva : Utf8.valid r = true := by rw [validRune_eq]; exact decide_eq_true (by omega)
  obtain ⟨f2, f4, fl⟩ := encode_facts r hva h0
  obtain ⟨E, hE⟩ : ∃ E, Utf8.encode r = E := ⟨_, rfl⟩
  rw [hE] at f2 f4
  simp only [hE] at fl
  obtain ⟨k, hk⟩ : ∃ k, E.size = k + 1 := ⟨E.size - 1, by omega⟩
  have hkE : k < E.size := by omega
  have h128 : 128 ≤ (E[k]'hkE).toNat := by
    have := fl (by omega)
    have e : E.size - 1 = k := by omega
    simpa only [e] using this
  clear fl
  go_enter Tryz.func106, Tryz.ntmps106
  go_wp2
  go_step3
  go_wp2
  clear d1 d2 d3 h2 hE hva hv
  go_loopw [9] (fun i wr => i = .int .i64 (k : Int) ∧ wr = w) (fun _ _ => 0)
  case atStart => exact ⟨rfl, rfl⟩
  case round =>
    obtain ⟨rfl, rfl⟩ := hrel
    by_cases hks : k < s.size
    · have hsk := ha.at k hks
      have i1 : (k : Int) < (s.size : Int) := by omega
      have i0 : (0 : Int) ≤ (k : Int) := by omega
      have i2 : (k : Int) < (E.size : Int) := by omega
      have d1 : decide ((k : Int) < (s.size : Int)) = true := decide_eq_true i1
      have hq : (((s[k]'hks).toNat : Int) != ((E[k]'hkE).toNat : Int)) = true := by simp; omega
      have hq2 : ((s[k]'hks).toNat != (E[k]'hkE).toNat) = true := by simp; omega
      have CB : Hid (∀ W : World, Calls Tryz.prog 112 #[.string (s.extract (k + 1) s.size), .int .u8 ((E[k]'hkE).toNat : Int)] W fun e w' => e = .returned (.int .i64 (-1)) ∧ w' = W) := by
        intro W
        have := indexByteI_any (s.extract (k + 1) s.size) ((E[k]'hkE).toNat : Int) W
        rw [toU8, indexByte_absent (by intro b hb e; have := ha b (mem_extract hb); rw [e] at this; omega)] at this
        exact this
      have i3 : (0 : Int) ≤ (k : Int) + 1 := by omega
      have i4 : (k : Int) + 1 ≤ (s.size : Int) := by omega
      have i5 : IntKind.i64.wrap ((k : Int) + 1) = (k : Int) + 1 := wrap_small _ (by omega) (by omega)
      have i6 : k + 1 ≤ s.size := by omega
      clear hk f2 f4
      go_wp2
      go_step3
      go_wp2_with fail
      go_quiet (fail)
      go_wp2_with fail
      go_region_held3 (fun _ => True) (first | go_keep | trivial) ((go_at_call 112; refine (CB.out _).mono ?_; rintro e a2 ⟨rfl, rfl⟩))
      go_wp2
      rw [Exit.noGoto_ret]
      go_wp2
      rw [Exit.noGoto_ret]
      go_wp2
      go_ret
      exact ⟨rfl, below_drewN (Below.refl _ _) _⟩
    · have d1 : decide ((k : Int) < (s.size : Int)) = false := decide_eq_false (by omega)
      go_wp2
      rw [Exit.noGoto_ret]
      go_wp2
      go_ret
      exact ⟨rfl, Below.refl _ _⟩
set_option maxRecDepth 100000 in
set_option maxHeartbeats 1000000 in
theorem indexRune_wide2 (s : ByteArray) (r : Int) (w : World) (ha : Asc s) (h0 : 128 ≤ r) (h2 : r ≠ 65533) (hv : 57343 < r ∧ r ≤ 1114111) :
    Calls Tryz.prog 106 #[.string s, .int .i32 r] w fun e w' => e = .returned (.int .i64 (-1)) ∧ Below w.heap.size w w' := by
  have d1 : decide ((0 : Int) ≤ r) = true := decide_eq_true (by omega)
  have d2 : decide (r < 128) = false := decide_eq_false (by omega)
  have d3 : (r == 65533) = false := by simpa using h2
  have d4 : decide (r < 55296) = false := decide_eq_false (by omega)
  have d5 : decide (57343 < r) = true := decide_eq_true hv.1
  have d6 : decide (r ≤ 1114111) = true := decide_eq_true hv.2
  have hva : Utf8.valid r = true := by rw [validRune_eq]; exact decide_eq_true (by omega)
  obtain ⟨f2, f4, fl⟩ := encode_facts r hva h0
  obtain ⟨E, hE⟩ : ∃ E, Utf8.encode r = E := ⟨_, rfl⟩
  rw [hE] at f2 f4
  simp only [hE] at fl
  obtain ⟨k, hk⟩ : ∃ k, E.size = k + 1 := ⟨E.size - 1, by omega⟩
  have hkE : k < E.size := by omega
  have h128 : 128 ≤ (E[k]'hkE).toNat := by
    have := fl (by omega)
    have e : E.size - 1 = k := by omega
    simpa only [e] using this
  clear fl
  go_enter Tryz.func106, Tryz.ntmps106
  go_wp2
  go_step3
  go_wp2
  clear d1 d2 d3 h2 hE hva hv
  go_loopw [9] (fun i wr => i = .int .i64 (k : Int) ∧ wr = w) (fun _ _ => 0)
  case atStart => exact ⟨rfl, rfl⟩
  case round =>
    obtain ⟨rfl, rfl⟩ := hrel
    by_cases hks : k < s.size
    · have hsk := ha.at k hks
      have i1 : (k : Int) < (s.size : Int) := by omega
      have i0 : (0 : Int) ≤ (k : Int) := by omega
      have i2 : (k : Int) < (E.size : Int) := by omega
      have d1 : decide ((k : Int) < (s.size : Int)) = true := decide_eq_true i1
      have hq : (((s[k]'hks).toNat : Int) != ((E[k]'hkE).toNat : Int)) = true := by simp; omega
      have hq2 : ((s[k]'hks).toNat != (E[k]'hkE).toNat) = true := by simp; omega
      have CB : Hid (∀ W : World, Calls Tryz.prog 112 #[.string (s.extract (k + 1) s.size), .int .u8 ((E[k]'hkE).toNat : Int)] W fun e w' => e = .returned (.int .i64 (-1)) ∧ w' = W) := by
        intro W
        have := indexByteI_any (s.extract (k + 1) s.size) ((E[k]'hkE).toNat : Int) W
        rw [toU8, indexByte_absent (by intro b hb e; have := ha b (mem_extract hb); rw [e] at this; omega)] at this
        exact this
      have i3 : (0 : Int) ≤ (k : Int) + 1 := by omega
      have i4 : (k : Int) + 1 ≤ (s.size : Int) := by omega
      have i5 : IntKind.i64.wrap ((k : Int) + 1) = (k : Int) + 1 := wrap_small _ (by omega) (by omega)
      have i6 : k + 1 ≤ s.size := by omega
      clear hk f2 f4
      go_wp2
      go_step3
      go_wp2_with fail
      go_quiet (fail)
      go_wp2_with fail
      go_region_held3 (fun _ => True) (first | go_keep | trivial) ((go_at_call 112; refine (CB.out _).mono ?_; rintro e a2 ⟨rfl, rfl⟩))
      go_wp2
      rw [Exit.noGoto_ret]
      go_wp2
      rw [Exit.noGoto_ret]
      go_wp2
      go_ret
      exact ⟨rfl, below_drewN (Below.refl _ _) _⟩
    · have d1 : decide ((k : Int) < (s.size : Int)) = false := decide_eq_false (by omega)
      go_wp2
      rw [Exit.noGoto_ret]
      go_wp2
      go_ret
      exact ⟨rfl, Below.refl _ _⟩
theorem indexRune_high (s : ByteArray) (r : Int) (w : World) (ha : Asc s) (h0 : 128 ≤ r) (h1 : r ≤ 2147483647) :
    Calls Tryz.prog 106 #[.string s, .int .i32 r] w fun e w' => e = .returned (.int .i64 (-1)) ∧ Below w.heap.size w w' := by
  by_cases h2 : r = 65533
  · subst h2
    exact indexRune_err s w ha
  by_cases h3 : r < 55296
  · exact indexRune_wide1 s r w ha h0 h2 h3
  by_cases h4 : 57343 < r ∧ r ≤ 1114111
  · exact indexRune_wide2 s r w ha h0 h2 h4
  · exact indexRune_bad s r w h0 h1 h2 (by omega)
theorem indexByte_contains (l : List UInt8) (c : UInt8) : decide (0 ≤ Lib.indexByte l c) = l.contains c := by
  by_cases h : c ∈ l
  · have h1 : Lib.indexByte l c ≠ -1 := fun e => by
      obtain ⟨k, hk⟩ := List.mem_iff_getElem?.1 h
      exact Lib.indexByte_none e k hk
    have := Lib.indexByte_ge l c
    rw [decide_eq_true (by omega)]
    simp [h]
  · rw [indexByte_absent (fun b hb e => h (by rw [← e]; exact hb))]
    simp [h]

set_option maxRecDepth 100000 in
set_option maxHeartbeats 1000000 in
theorem containsRune_any (s : ByteArray) (r : Int) (w : World) (ha : Asc s) (h0 : 0 ≤ r) (h1 : r ≤ 2147483647) :
    Calls Tryz.prog 91 #[.string s, .int .i32 r] w fun e w' => e = .returned (.bool (decide (r < 128) && s.data.toList.contains r.toNat.toUInt8)) ∧ Below w.heap.size w w' := by
  obtain ⟨z, hz, C⟩ : ∃ z : Int, decide (0 ≤ z) = (decide (r < 128) && s.data.toList.contains r.toNat.toUInt8) ∧ Hid (∀ w, Calls Tryz.prog 106 #[.string s, .int .i32 r] w fun e w' => e = .returned (.int .i64 z) ∧ Below w.heap.size w w') := by
    by_cases h : r < 128
    · refine ⟨Lib.indexByte s.data.toList r.toNat.toUInt8, ?_, fun w => (indexRune_low s r w h0 h).mono ?_⟩
      · rw [indexByte_contains, decide_eq_true h]
        rfl
      · rintro e w' ⟨rfl, rfl⟩
        exact ⟨rfl, Below.refl _ _⟩
    · refine ⟨-1, ?_, fun w => indexRune_high s r w ha (by omega) h1⟩
      rw [decide_eq_false h]
      rfl
  rw [← hz]
  clear hz ha
  go_enter Tryz.func91, Tryz.ntmps91
  go_wp2_with (go_at_call 106; refine (C.out _).mono ?_; rintro e w' ⟨rfl, hb⟩)
  go_ret
  exact ⟨rfl, hb⟩
end PartItB
section PartTkQ
namespace Tk
end Tk
end PartTkQ
end Go.Proofs.YtehagonaacbmiaaGreat
