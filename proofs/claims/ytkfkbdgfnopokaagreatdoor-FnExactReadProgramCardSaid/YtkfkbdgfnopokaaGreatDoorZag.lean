/- The library's IndexRune and ContainsRune, where what is searched has bytes below 128 alone. The library's IndexRune at a rune of 128 or more: not found among bytes below 128. Plain facts: tokens told from what is left of a text. -/
import Derived.Test.YtkfkbdgfnopokaaGreatDoorShelfP
import Derived.Laws.Runes
import Derived.Laws.RangeAny
import Derived.LoopTactic
import Derived.WalkMore
import Derived.Deep.RegionHeld3
import Derived.Test.YtkfkbdgfnopokaaGreatDoorZaf
namespace Go.Proofs.YtkfkbdgfnopokaaGreatDoor
section PartItA
open Go.RowKit
set_option maxRecDepth 100000 in
set_option maxHeartbeats 400000 in
theorem indexByteI_any (s : ByteArray) (c : Int) (w : World) :
  Calls Tryz.prog 147 #[.string s, .int .u8 c] w fun e w' => e = .returned (.int .i64 (Lib.indexByte s.data.toList c.toNat.toUInt8)) ∧ w' = w := by
 have C : Hid (∀ w, Calls Tryz.prog 151 #[.string s, .int .u8 c] w fun e w' => e = .returned (.int .i64 (Lib.indexByte s.data.toList c.toNat.toUInt8)) ∧ w' = w) := fun w => Tryz.stringslite_IndexByte s c w
 go_enter Tryz.func147, Tryz.ntmps147
 go_wp2_with (go_at_call 151; refine (C.out _).mono ?_; rintro e w' ⟨rfl, rfl⟩)
 go_ret
 exact ⟨rfl, rfl⟩
set_option maxRecDepth 100000 in
set_option maxHeartbeats 1000000 in
theorem indexRune_low (s : ByteArray) (r : Int) (w : World) (h0 : 0 ≤ r) (h1 : r < 128) :
  Calls Tryz.prog 129 #[.string s, .int .i32 r] w fun e w' => e = .returned (.int .i64 (Lib.indexByte s.data.toList r.toNat.toUInt8)) ∧ w' = w := by
 have C : Hid (∀ w, Calls Tryz.prog 147 #[.string s, .int .u8 r] w fun e w' => e = .returned (.int .i64 (Lib.indexByte s.data.toList r.toNat.toUInt8)) ∧ w' = w) := fun w => indexByteI_any s r w
 go_enter Tryz.func129, Tryz.ntmps129
 go_wp2_with (go_at_call 147; refine (C.out _).mono ?_; rintro e w' ⟨rfl, rfl⟩)
 go_ret
 exact ⟨rfl, rfl⟩
end PartItA
section PartItB
open Go.RowKit
def Asc (s : ByteArray) : Prop := ∀ b ∈ s.data.toList, b.toNat < 128
theorem Asc.at {s : ByteArray} (h : Asc s) (i : Nat) (hi : i < s.size) : (s[i]'hi).toNat < 128 := by
 apply h
 show s.data[i] ∈ s.data.toList
 exact Array.getElem_mem_toList _
theorem indexByte_absent {l : List UInt8} {c : UInt8} (h : ∀ b ∈ l, b ≠ c) : Lib.indexByte l c = -1 := by
 induction l with
 | nil => rfl
 | cons b r ih =>
  have h1 : (b == c) = false := by simpa using h b (by simp)
  simp [Lib.indexByte, h1, ih (fun x hx => h x (by simp [hx]))]
theorem below_iter (w : World) (s : ByteArray) (pos : Nat) : Below w.heap.size w (w.iter s pos) := by
 refine ⟨rfl, rfl, rfl, ?_, fun k hk => ?_⟩
 ·show w.heap.size ≤ (w.heap.push (Obj.stringIter s pos)).size
  simp
 ·show (w.heap.push (Obj.stringIter s pos))[k]? = w.heap[k]?
  simp [Array.getElem?_push, Nat.ne_of_lt hk]
set_option maxRecDepth 100000 in
set_option maxHeartbeats 1000000 in
theorem indexRune_err (s : ByteArray) (w : World) (ha : Asc s) :
  Calls Tryz.prog 129 #[.string s, .int .i32 65533] w fun e w' => e = .returned (.int .i64 (-1)) ∧ Below w.heap.size w w' := by
 go_enter Tryz.func129, Tryz.ntmps129
 go_wp2
 go_loopw [] (fun w' => ∃ pos, w' = w.iter s pos ∧ pos ≤ s.size) (fun w' => s.size - w'.iterPos w.heap.size)
 case atStart => exact ⟨0, rfl, Nat.zero_le _⟩
 case round =>
  obtain ⟨pos, rfl, hle⟩ := hrel
  by_cases hp : pos < s.size
  ·have hlt := ha.at pos hp
   have hnx : ∀ ty, (Instr.next (.pointer (some ⟨w.heap.size, 0, none⟩)) true ty).run Tryz.prog (w.iter s pos) = _ := fun ty => run_next_ascii w s pos ty hp hlt
   have hq : (((s[pos]'hp).toNat : Int) == 65533) = false := by simp; omega
   go_wp2
   go_roundw
   case rel => exact ⟨pos + 1, rfl, by omega⟩
   case measure => simp; omega
  ·have hnx : ∀ ty, (Instr.next (.pointer (some ⟨w.heap.size, 0, none⟩)) true ty).run Tryz.prog (w.iter s pos) = _ := fun ty => run_next_end w s pos ty hp
   go_wp2
   go_ret
   exact ⟨rfl, below_iter _ _ _⟩
set_option maxRecDepth 100000 in
set_option maxHeartbeats 1000000 in
theorem indexRune_bad (s : ByteArray) (r : Int) (w : World) (h0 : 128 ≤ r) (h1 : r ≤ 2147483647) (h2 : r ≠ 65533) (hv : ¬ ((0 ≤ r ∧ r < 55296) ∨ (57343 < r ∧ r ≤ 1114111))) :
  Calls Tryz.prog 129 #[.string s, .int .i32 r] w fun e w' => e = .returned (.int .i64 (-1)) ∧ Below w.heap.size w w' := by
 have d1 : decide ((0 : Int) ≤ r) = true := decide_eq_true (by omega)
 have d2 : decide (r < 128) = false := decide_eq_false (by omega)
 have d3 : (r == 65533) = false := by simpa using h2
 have d4 : decide (r < 55296) = false := decide_eq_false (by omega)
 by_cases h5 : 57343 < r
 ·have d5 : decide (57343 < r) = true := decide_eq_true h5
  have d6 : decide (r ≤ 1114111) = false := decide_eq_false (by omega)
  go_enter Tryz.func129, Tryz.ntmps129
  go_wp2
  go_ret
  exact ⟨rfl, Below.refl _ _⟩
 ·have d5 : decide (57343 < r) = false := decide_eq_false h5
  go_enter Tryz.func129, Tryz.ntmps129
  go_wp2
  go_ret
  exact ⟨rfl, Below.refl _ _⟩
set_option maxRecDepth 100000 in
set_option maxHeartbeats 1000000 in
theorem indexRune_wide1 (s : ByteArray) (r : Int) (w : World) (ha : Asc s) (h0 : 128 ≤ r) (h2 : r ≠ 65533) (hv : r < 55296) :
  Calls Tryz.prog 129 #[.string s, .int .i32 r] w fun e w' => e = .returned (.int .i64 (-1)) ∧ Below w.heap.size w w' := by
 have d1 : decide ((0 : Int) ≤ r) = true := decide_eq_true (by omega)
 have d2 : decide (r < 128) = false := decide_eq_false (by omega)
 have d3 : (r == 65533) = false := by simpa using h2
 have d4 : decide (r < 55296) = true := decide_eq_true hv
 have hva : Utf8.valid r = true := by rw [validRune_eq]; exact decide_eq_true (by omega)
 obtain ⟨f2, f4, fl⟩ := encode_facts r hva h0
 obtain ⟨E, hE⟩ : ∃ E, Utf8.encode r = E := ⟨_, rfl⟩
 rw [hE] at f2 f4
 simp only [hE] at fl
 obtain ⟨k, hk⟩ : ∃ k, E.size = k + 1 := ⟨E.size - 1, by omega⟩
 have hkE : k < E.size := by omega
 have h128 : 128 ≤ (E[k]'hkE).toNat := by
  have := fl (by omega)
  have e : E.size - 1 = k := by omega
  simpa only [e] using this
 clear fl
 go_enter Tryz.func129, Tryz.ntmps129
 go_wp2
 go_step3
 go_wp2
 clear d1 d2 d3 h2 hE hva hv
 go_loopw [9] (fun i wr => i = .int .i64 (k : Int) ∧ wr = w) (fun _ _ => 0)
 case atStart => exact ⟨rfl, rfl⟩
 case round =>
  obtain ⟨rfl, rfl⟩ := hrel
  by_cases hks : k < s.size
  ·have hsk := ha.at k hks
   have i1 : (k : Int) < (s.size : Int) := by omega
   have i0 : (0 : Int) ≤ (k : Int) := by omega
   have i2 : (k : Int) < (E.size : Int) := by omega
   have d1 : decide ((k : Int) < (s.size : Int)) = true := decide_eq_true i1
   have hq : (((s[k]'hks).toNat : Int) != ((E[k]'hkE).toNat : Int)) = true := by simp; omega
   have hq2 : ((s[k]'hks).toNat != (E[k]'hkE).toNat) = true := by simp; omega
   have CB : Hid (∀ W : World, Calls Tryz.prog 147 #[.string (s.extract (k + 1) s.size), .int .u8 ((E[k]'hkE).toNat : Int)] W fun e w' => e = .returned (.int .i64 (-1)) ∧ w' = W) := by
    intro W
    have := indexByteI_any (s.extract (k + 1) s.size) ((E[k]'hkE).toNat : Int) W
    rw [toU8, indexByte_absent (by intro b hb e; have := ha b (mem_extract hb); rw [e] at this; omega)] at this
    exact this
   have i3 : (0 : Int) ≤ (k : Int) + 1 := by omega
   have i4 : (k : Int) + 1 ≤ (s.size : Int) := by omega
   have i5 : IntKind.i64.wrap ((k : Int) + 1) = (k : Int) + 1 := wrap_small _ (by omega) (by omega)
   have i6 : k + 1 ≤ s.size := by omega
   clear hk f2 f4
   go_wp2
   go_step3
   go_wp2_with fail
   go_quiet (fail)
   go_wp2_with fail
   go_region_held3 (fun _ => True) (first | go_keep | trivial) ((go_at_call 147; refine (CB.out _).mono ?_; rintro e a2 ⟨rfl, rfl⟩))
   go_wp2
   rw [Exit.noGoto_ret]
   go_wp2
   rw [Exit.noGoto_ret]
   go_wp2
   go_ret
   exact ⟨rfl, below_drewN (Below.refl _ _) _⟩
  ·have d1 : decide ((k : Int) < (s.size : Int)) = false := decide_eq_false (by omega)
   go_wp2
   rw [Exit.noGoto_ret]
   go_wp2
   go_ret
   exact ⟨rfl, Below.refl _ _⟩
set_option maxRecDepth 100000 in
set_option maxHeartbeats 1000000 in
theorem indexRune_wide2 (s : ByteArray) (r : Int) (w : World) (ha : Asc s) (h0 : 128 ≤ r) (h2 : r ≠ 65533) (hv : 57343 < r ∧ r ≤ 1114111) :
  Calls Tryz.prog 129 #[.string s, .int .i32 r] w fun e w' => e = .returned (.int .i64 (-1)) ∧ Below w.heap.size w w' := by
 have d1 : decide ((0 : Int) ≤ r) = true := decide_eq_true (by omega)
 have d2 : decide (r < 128) = false := decide_eq_false (by omega)
 have d3 : (r == 65533) = false := by simpa using h2
 have d4 : decide (r < 55296) = false := decide_eq_false (by omega)
 have d5 : decide (57343 < r) = true := decide_eq_true hv.1
 have d6 : decide (r ≤ 1114111) = true := decide_eq_true hv.2
 have hva : Utf8.valid r = true := by rw [validRune_eq]; exact decide_eq_true (by omega)
 obtain ⟨f2, f4, fl⟩ := encode_facts r hva h0
 obtain ⟨E, hE⟩ : ∃ E, Utf8.encode r = E := ⟨_, rfl⟩
 rw [hE] at f2 f4
 simp only [hE] at fl
 obtain ⟨k, hk⟩ : ∃ k, E.size = k + 1 := ⟨E.size - 1, by omega⟩
 have hkE : k < E.size := by omega
 have h128 : 128 ≤ (E[k]'hkE).toNat := by
  have := fl (by omega)
  have e : E.size - 1 = k := by omega
  simpa only [e] using this
 clear fl
 go_enter Tryz.func129, Tryz.ntmps129
 go_wp2
 go_step3
 go_wp2
 clear d1 d2 d3 h2 hE hva hv
 go_loopw [9] (fun i wr => i = .int .i64 (k : Int) ∧ wr = w) (fun _ _ => 0)
 case atStart => exact ⟨rfl, rfl⟩
 case round =>
  obtain ⟨rfl, rfl⟩ := hrel
  by_cases hks : k < s.size
  ·have hsk := ha.at k hks
   have i1 : (k : Int) < (s.size : Int) := by omega
   have i0 : (0 : Int) ≤ (k : Int) := by omega
   have i2 : (k : Int) < (E.size : Int) := by omega
   have d1 : decide ((k : Int) < (s.size : Int)) = true := decide_eq_true i1
   have hq : (((s[k]'hks).toNat : Int) != ((E[k]'hkE).toNat : Int)) = true := by simp; omega
   have hq2 : ((s[k]'hks).toNat != (E[k]'hkE).toNat) = true := by simp; omega
   have CB : Hid (∀ W : World, Calls Tryz.prog 147 #[.string (s.extract (k + 1) s.size), .int .u8 ((E[k]'hkE).toNat : Int)] W fun e w' => e = .returned (.int .i64 (-1)) ∧ w' = W) := by
    intro W
    have := indexByteI_any (s.extract (k + 1) s.size) ((E[k]'hkE).toNat : Int) W
    rw [toU8, indexByte_absent (by intro b hb e; have := ha b (mem_extract hb); rw [e] at this; omega)] at this
    exact this
   have i3 : (0 : Int) ≤ (k : Int) + 1 := by omega
   have i4 : (k : Int) + 1 ≤ (s.size : Int) := by omega
   have i5 : IntKind.i64.wrap ((k : Int) + 1) = (k : Int) + 1 := wrap_small _ (by omega) (by omega)
   have i6 : k + 1 ≤ s.size := by omega
   clear hk f2 f4
   go_wp2
   go_step3
   go_wp2_with fail
   go_quiet (fail)
   go_wp2_with fail
   go_region_held3 (fun _ => True) (first | go_keep | trivial) ((go_at_call 147; refine (CB.out _).mono ?_; rintro e a2 ⟨rfl, rfl⟩))
   go_wp2
   rw [Exit.noGoto_ret]
   go_wp2
   rw [Exit.noGoto_ret]
   go_wp2
   go_ret
   exact ⟨rfl, below_drewN (Below.refl _ _) _⟩
  ·have d1 : decide ((k : Int) < (s.size : Int)) = false := decide_eq_false (by omega)
   go_wp2
   rw [Exit.noGoto_ret]
   go_wp2
   go_ret
   exact ⟨rfl, Below.refl _ _⟩
theorem indexRune_high (s : ByteArray) (r : Int) (w : World) (ha : Asc s) (h0 : 128 ≤ r) (h1 : r ≤ 2147483647) :
  Calls Tryz.prog 129 #[.string s, .int .i32 r] w fun e w' => e = .returned (.int .i64 (-1)) ∧ Below w.heap.size w w' := by
 by_cases h2 : r = 65533
 ·subst h2
  exact indexRune_err s w ha
 by_cases h3 : r < 55296
 ·exact indexRune_wide1 s r w ha h0 h2 h3
 by_cases h4 : 57343 < r ∧ r ≤ 1114111
 ·exact indexRune_wide2 s r w ha h0 h2 h4
 ·exact indexRune_bad s r w h0 h1 h2 (by omega)
theorem indexByte_contains (l : List UInt8) (c : UInt8) : decide (0 ≤ Lib.indexByte l c) = l.contains c := by
 by_cases h : c ∈ l
 ·have h1 : Lib.indexByte l c ≠ -1 := fun e => by
   obtain ⟨k, hk⟩ := List.mem_iff_getElem?.1 h
   exact Lib.indexByte_none e k hk
  have := Lib.indexByte_ge l c
  rw [decide_eq_true (by omega)]
  simp [h]
 ·rw [indexByte_absent (fun b hb e => h (by rw [← e]; exact hb))]
  simp [h]
set_option maxRecDepth 100000 in
set_option maxHeartbeats 1000000 in
theorem containsRune_any (s : ByteArray) (r : Int) (w : World) (ha : Asc s) (h0 : 0 ≤ r) (h1 : r ≤ 2147483647) :
  Calls Tryz.prog 112 #[.string s, .int .i32 r] w fun e w' => e = .returned (.bool (decide (r < 128) && s.data.toList.contains r.toNat.toUInt8)) ∧ Below w.heap.size w w' := by
 obtain ⟨z, hz, C⟩ : ∃ z : Int, decide (0 ≤ z) = (decide (r < 128) && s.data.toList.contains r.toNat.toUInt8) ∧ Hid (∀ w, Calls Tryz.prog 129 #[.string s, .int .i32 r] w fun e w' => e = .returned (.int .i64 z) ∧ Below w.heap.size w w') := by
  by_cases h : r < 128
  ·refine ⟨Lib.indexByte s.data.toList r.toNat.toUInt8, ?_, fun w => (indexRune_low s r w h0 h).mono ?_⟩
   ·rw [indexByte_contains, decide_eq_true h]
    rfl
   ·rintro e w' ⟨rfl, rfl⟩
    exact ⟨rfl, Below.refl _ _⟩
  ·refine ⟨-1, ?_, fun w => indexRune_high s r w ha (by omega) h1⟩
   rw [decide_eq_false h]
   rfl
 rw [← hz]
 clear hz ha
 go_enter Tryz.func112, Tryz.ntmps112
 go_wp2_with (go_at_call 129; refine (C.out _).mono ?_; rintro e w' ⟨rfl, hb⟩)
 go_ret
 exact ⟨rfl, hb⟩
end PartItB
section PartTkS
namespace Tk
def blank (b : UInt8) : Bool := b == 32 || b == 9
theorem run_drop (p : UInt8 → Bool) (l : List UInt8) (a b : Nat) : run p l (a + b) = a + run p (l.drop a) b := by
 unfold run
 rw [List.drop_drop]
 omega
theorem run_drop0 (p : UInt8 → Bool) (l : List UInt8) (a : Nat) : run p l a = a + run p (l.drop a) 0 := run_drop p l a 0
theorem cut_drop (l : List UInt8) (a b c : Nat) : cut l (a + b) (a + c) = cut (l.drop a) b c := by
 unfold cut
 rw [List.drop_drop]
 congr 1
 omega
theorem cut_drop0 (l : List UInt8) (a c : Nat) : cut l a (a + c) = cut (l.drop a) 0 c := cut_drop l a 0 c
theorem getD_drop (l : List UInt8) (a : Nat) : (l.drop a).getD 0 0 = l.getD a 0 := by simp [List.getD]
theorem get_drop (l : List UInt8) (a i : Nat) : (l.drop a)[i]? = l[a + i]? := by simp
theorem textEnd_drop (l : List UInt8) (a : Nat) (m : UInt8) (most : Nat) : textEnd l a m most = if textEnd (l.drop a) 0 m most = 0 then 0 else a + textEnd (l.drop a) 0 m most := by
 unfold textEnd
 rw [run_drop (fun b => b != m && b != 10) l a 1, get_drop, Nat.zero_add]
 have h1 := run_ge (fun b => b != m && b != 10) (l.drop a) 1
 generalize run (fun b => b != m && b != 10) (l.drop a) 1 = R at *
 have e : a + R - a - 1 = R - 0 - 1 := by omega
 rw [e]
 split
 ·rw [if_neg (by omega)]
 ·rfl
theorem one_drop (l : List UInt8) (a : Nat) (last : Tok) : one l a last = (one (l.drop a) 0 last).map fun x => (x.1, a + x.2) := by
 have ha : ∀ R, a + R - a = R - 0 := fun R => by omega
 have et : ∀ (m : UInt8) (most : Nat), textEnd l a m most = 0 ↔ textEnd (l.drop a) 0 m most = 0 := by
  intro m most
  rw [textEnd_drop]
  by_cases h : textEnd (l.drop a) 0 m most = 0
  ·rw [if_pos h]; simp [h]
  ·rw [if_neg h]; simp [h]
 unfold one
 rw [getD_drop, run_drop0 letter l a, run_drop0 figure l a, ha, ha, get_drop]
 by_cases c1 : l.getD a 0 = 10 ∨ l.getD a 0 = 59
 ·rw [if_pos c1, if_pos c1]; rfl
 rw [if_neg c1, if_neg c1]
 by_cases c2 : letter (l.getD a 0) = true
 ·rw [if_pos c2, if_pos c2]
  by_cases c : 8 < run letter (l.drop a) 0 - 0
  ·rw [if_pos c, if_pos c]; rfl
  ·rw [if_neg c, if_neg c, cut_drop0]; rfl
 rw [if_neg c2, if_neg c2]
 by_cases c3 : figure (l.getD a 0) = true
 ·rw [if_pos c3, if_pos c3]
  by_cases c : 6 < run figure (l.drop a) 0 - 0
  ·rw [if_pos c, if_pos c]; rfl
  ·rw [if_neg c, if_neg c, cut_drop0]; rfl
 rw [if_neg c3, if_neg c3]
 by_cases c4 : l.getD a 0 = 34
 ·rw [if_pos c4, if_pos c4]
  by_cases c : textEnd (l.drop a) 0 34 30 = 0
  ·rw [if_pos c, if_pos ((et _ _).2 c)]; rfl
  ·rw [if_neg c, if_neg (fun e => c ((et _ _).1 e)), textEnd_drop, if_neg c, cut_drop l a 1]; simp [Nat.add_assoc]
 rw [if_neg c4, if_neg c4]
 by_cases c5 : l.getD a 0 = 47
 ·rw [if_pos c5, if_pos c5]
  by_cases c : textEnd (l.drop a) 0 47 24 = 0 ∨ last.kind ≠ 5 ∨ last.text ≠ [126]
  ·rw [if_pos c, if_pos (c.imp_left (et _ _).2)]; rfl
  ·rw [if_neg c, if_neg (fun e => c (e.imp_left (et _ _).1)), textEnd_drop, if_neg (fun e => c (.inl e)), cut_drop l a 1, Nat.zero_add]
   by_cases c6 : (Pp.read (cut (l.drop a) 1 (textEnd (l.drop a) 0 47 24))).isSome = true
   ·rw [if_pos c6, if_pos c6]; simp [Nat.add_assoc]
   ·rw [if_neg c6, if_neg c6]; rfl
 rw [if_neg c5, if_neg c5, Nat.zero_add]
 by_cases c7 : l[a + 1]? = some 61 ∧ (l.getD a 0 = 43 ∨ l.getD a 0 = 61)
 ·rw [if_pos c7, if_pos c7, cut_drop0]; rfl
 rw [if_neg c7, if_neg c7]
 by_cases c8 : l.getD a 0 ∈ signs
 ·rw [if_pos c8, if_pos c8, cut_drop0]; rfl
 ·rw [if_neg c8, if_neg c8]; rfl
theorem run_at (p : UInt8 → Bool) (l : List UInt8) : ∀ n i, l.length - i ≤ n → ∀ h : run p l i < l.length, p (l[run p l i]'h) = false := by
 intro n
 induction n with
 | zero =>
  intro i hn h
  have := run_ge p l i
  omega
 | succ n ih =>
  intro i hn h
  have hi : i < l.length := by have := run_ge p l i; omega
  cases hp : p l[i] with
  | true =>
   have e := run_step hi hp
   simp only [e]
   exact ih (i + 1) (by omega) (by omega)
  | false =>
   have e := run_stop hi hp
   simp only [e]
   exact hp
def gap (l : List UInt8) (k : Nat) : Nat := if l[run blank l k]? = some 35 then run (fun b => b != 10) l (run blank l k) else run blank l k
theorem gap_drop (l : List UInt8) (k : Nat) : gap l k = k + gap (l.drop k) 0 := by
 unfold gap
 rw [run_drop0 blank l k, get_drop]
 split
 ·rw [run_drop]
 ·rfl
theorem gap_ge (l : List UInt8) (k : Nat) : k ≤ gap l k := by
 unfold gap
 have := run_ge blank l k
 split
 ·have := run_ge (fun b => b != 10) l (run blank l k); omega
 ·omega
theorem gap_le (l : List UInt8) (k : Nat) (h : k ≤ l.length) : gap l k ≤ l.length := by
 unfold gap
 have := run_le blank h
 split
 ·exact run_le _ this
 ·exact this
theorem gap_at (l : List UInt8) (k : Nat) (h : gap l k < l.length) : ¬ (l.getD (gap l k) 0 = 32 ∨ l.getD (gap l k) 0 = 9) ∧ l.getD (gap l k) 0 ≠ 35 := by
 have hg : l.getD (gap l k) 0 = l[gap l k] := by simp [h]
 rw [hg]
 unfold gap at h
 by_cases c : l[run blank l k]? = some 35
 ·have e : gap l k = run (fun b => b != 10) l (run blank l k) := by unfold gap; rw [if_pos c]
  rw [if_pos c] at h
  have := run_at (fun b => b != 10) l _ _ (Nat.le_refl _) h
  simp only [e]
  simp at this
  rw [this]
  decide
 ·have e : gap l k = run blank l k := by unfold gap; rw [if_neg c]
  rw [if_neg c] at h
  have := run_at blank l _ _ (Nat.le_refl _) h
  simp only [e]
  simp [blank] at this
  rw [List.getElem?_eq_getElem h] at c
  simp at c
  exact ⟨fun h => h.elim this.1 this.2, c⟩
theorem loop_gap (l : List UInt8) : ∀ f k last out, k ≤ l.length → l.length < k + f → ∃ f', l.length < gap l k + f' ∧ loop l f k last out = loop l f' (gap l k) last out := by
 intro f
 induction f with
 | zero => intro k last out h1 h2; omega
 | succ f ih =>
  intro k last out h1 h2
  by_cases hk : k < l.length
  ·have hg : l.getD k 0 = l[k] := by simp [hk]
   by_cases hb : l.getD k 0 = 32 ∨ l.getD k 0 = 9
   ·have hbl : blank l[k] = true := by rw [← hg]; unfold blank; rcases hb with h | h <;> rw [h] <;> decide
    have e : gap l k = gap l (k + 1) := by unfold gap; rw [run_step hk hbl]
    rw [e, loop_blank hk hb]
    exact ih (k + 1) last out (by omega) (by omega)
   ·have hbl : blank l[k] = false := by rw [← hg]; unfold blank; simp at hb ⊢; simpa using hb
    have er := run_stop hk hbl
    by_cases hh : l.getD k 0 = 35
    ·have e : gap l k = run (fun b => b != 10) l k := by
      unfold gap
      rw [er, if_pos (by rw [List.getElem?_eq_getElem hk, ← hg, hh])]
     rw [e, loop_hash hk hb hh]
     refine ⟨f, ?_, rfl⟩
     rw [run_step hk (by rw [← hg, hh]; decide)]
     have := run_ge (fun b => b != 10) l (k + 1)
     omega
    ·have e : gap l k = k := by
      unfold gap
      rw [er, if_neg (by rw [List.getElem?_eq_getElem hk, ← hg]; simpa using hh)]
     rw [e]
     exact ⟨f + 1, h2, rfl⟩
  ·have e : gap l k = k := by
    unfold gap
    rw [run_end blank (by omega), if_neg (by rw [List.getElem?_eq_none (by omega)]; simp)]
   rw [e]
   exact ⟨f + 1, h2, rfl⟩
end Tk
end PartTkS
end Go.Proofs.YtkfkbdgfnopokaaGreatDoor
