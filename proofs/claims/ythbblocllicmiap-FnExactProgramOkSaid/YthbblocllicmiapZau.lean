/- The library's IndexAny and ContainsAny, where what is asked for has two bytes or more, all below 128; at every text. HasPrefix and Contains laid at this program; the sets; the program's behindGaps. -/
import Derived.Test.YthbblocllicmiapZat
import Derived.Shelf.Strings.AsciiSet
import Derived.Lib.Builder
import Derived.Lib.IndexAny
import Derived.Laws.Strings3
import Derived.Lib.Strings
namespace Go.Proofs.Ythbblocllicmiap
section PartCaA
open Go.Shelf
def Try.lays227_ren : Go.Shelf.Ren := ⟨fun | 227 => 100 | 228 => 101 | n => n, fun | 116 => 119 | 124 => 126 | n => n, fun | n => n⟩
set_option maxRecDepth 100000 in
theorem Try.lays227 : Go.Proofs.Lays.n227 Try.prog Try.lays227_ren := {
  mixed := by kernel_rfl
  f227 := Try.func100.trans (congrArg some (by kernel_rfl))
  t0 := Try.underlying0
  a0 := Try.isAgg0
  z0 := Try.sizeOf0
  v0 := Try.zeroValue0
  t3 := Try.underlying3
  a3 := Try.isAgg3
  z3 := Try.sizeOf3
  v3 := Try.zeroValue3
  t4 := Try.underlying4
  a4 := Try.isAgg4
  z4 := Try.sizeOf4
  v4 := Try.zeroValue4
  t5 := Try.underlying5
  a5 := Try.isAgg5
  z5 := Try.sizeOf5
  v5 := Try.zeroValue5
  t9 := Try.underlying9
  a9 := Try.isAgg9
  z9 := Try.sizeOf9
  v9 := Try.zeroValue9
  t116 := Try.underlying119
  a116 := Try.isAgg119
  z116 := Try.sizeOf119 }
set_option maxRecDepth 100000 in
theorem Try.lays228 : Go.Proofs.Lays.n228 Try.prog Try.lays227_ren := {
  mixed := by kernel_rfl
  f228 := Try.func101.trans (congrArg some (by kernel_rfl))
  t0 := Try.underlying0
  a0 := Try.isAgg0
  z0 := Try.sizeOf0
  v0 := Try.zeroValue0
  t4 := Try.underlying4
  a4 := Try.isAgg4
  z4 := Try.sizeOf4
  v4 := Try.zeroValue4
  t5 := Try.underlying5
  a5 := Try.isAgg5
  z5 := Try.sizeOf5
  v5 := Try.zeroValue5
  t116 := Try.underlying119
  a116 := Try.isAgg119
  z116 := Try.sizeOf119
  t124 := Try.underlying126
  a124 := Try.isAgg126
  z124 := Try.sizeOf126
  v124 := Try.zeroValue126 }
open Go.RowKit

set_option maxRecDepth 100000 in
theorem asetInfo : (Try.prog.info? 119).map (fun i => (i.zero, i.size)) = some (some (.agg (Array.replicate 256 (.bool false))), 256) := by kernel_rfl
theorem asetZero (w : World) : (zeroValue 119).run Try.prog w = .ok (.agg (Array.replicate 256 (.bool false))) w := (zero_of_info asetInfo).1 w
theorem asetSize : (Try.prog.info? 119).map (·.size) = some 256 := (zero_of_info asetInfo).2

set_option maxHeartbeats 400000 in
theorem useSet_any (n : Int) (w : World) : Calls Try.prog 99 #[.int .i64 n] w fun e w' => e = .returned (.bool (decide (8 < n))) ∧ w' = w := by
  go_enter Try.func99, Try.ntmps99
  go_wp2
  go_ret
  exact ⟨rfl, rfl⟩

/-- Has a text one of the bytes? -/
def anyOf (s t : ByteArray) : Bool := s.data.toList.any fun b => t.data.toList.contains b
theorem anyOf_yes {s t : ByteArray} {i : Nat} (h : i < s.size) (hc : t.data.toList.contains s[i] = true) : anyOf s t = true := by
  unfold anyOf
  rw [List.any_eq_true]
  exact ⟨s[i], by show s.data[i] ∈ s.data.toList; exact Array.getElem_mem_toList _, hc⟩
theorem anyOf_no {s t : ByteArray} (h : ∀ i, ∀ h : i < s.size, t.data.toList.contains s[i] = false) : anyOf s t = false := by
  unfold anyOf
  rw [List.any_eq_false]
  intro x hx
  obtain ⟨i, hi, rfl⟩ := List.getElem_of_mem hx
  have := h i (by simpa using hi)
  rw [byte_at s i (by simpa using hi), this]
  simp

set_option maxRecDepth 100000 in
set_option maxHeartbeats 2000000 in
theorem indexAny_short (s t : ByteArray) (w : World) (ha : Asc t) (h2 : 2 ≤ t.size) (h8 : s.size ≤ 8) :
    Calls Try.prog 85 #[.string s, .string t] w fun e w' => (∃ r : Int, e = .returned (.int .i64 r) ∧ decide (0 ≤ r) = anyOf s t) ∧ Below w.heap.size w w' := by
  have hsl : s.data.toList.length = s.size := by simp
  have HC : Hid (∀ (r : Nat) (w : World), r ≤ 2147483647 → Calls Try.prog 80 #[.string t, .int .i32 (r : Int)] w fun e w' => (∃ z : Int, e = .returned (.int .i64 z) ∧ decide (0 ≤ z) = (decide ((r : Int) < 128) && t.data.toList.contains (r : Int).toNat.toUInt8)) ∧ Below w.heap.size w w') := fun r w h => by
    by_cases hl : (r : Int) < 128
    · refine (indexRune_low t (r : Int) w (by omega) hl).mono ?_
      rintro e w' ⟨rfl, rfl⟩
      exact ⟨⟨_, rfl, by rw [indexByte_contains, decide_eq_true hl, Bool.true_and]⟩, Below.refl _ _⟩
    · refine (indexRune_high t (r : Int) w ha (by omega) (by omega)).mono ?_
      rintro e w' ⟨rfl, hb⟩
      exact ⟨⟨_, rfl, by rw [decide_eq_false hl]; rfl⟩, hb⟩
  have HU : Hid (∀ w : World, Calls Try.prog 99 #[.int .i64 (s.size : Int)] w fun e w' => e = .returned (.bool false) ∧ w' = w) := fun w => by
    have := useSet_any (s.size : Int) w
    rwa [decide_eq_false (by omega)] at this
  have hemp : t.toList.isEmpty = false := by
    rw [Lib.toList_data]
    cases h : t.data.toList with
    | nil => have := Lib.size_eq t; rw [h, List.length_nil] at this; omega
    | cons _ _ => rfl
  have hn1 : ((t.size : Int) == 1) = false := beq_eq_false_iff_ne.2 (by omega)
  have HA : Hid (Asc t) := ha
  clear ha
  go_enter Try.func85, Try.ntmps85
  go_wp2_with (go_at_call 99; refine (HU.out _).mono ?_; rintro e w1 ⟨rfl, hw1⟩; rw [hw1])
  go_loopw [] (fun wr => ∃ pos, wr.heap[w.heap.size]? = some (.stringIter s pos) ∧ Below w.heap.size w wr ∧ pos ≤ s.size ∧ Hid (∀ i, ∀ h : i < s.size, i < pos → t.data.toList.contains s[i] = false)) (fun wr => s.size - wr.iterPos w.heap.size)
  case atStart => exact ⟨0, World.iter_heap w s 0, below_iter w s 0, Nat.zero_le _, fun i _ h => by omega⟩
  case round =>
    obtain ⟨pos, hk, hb, hle, HR⟩ := hrel
    have HB : Hid (Below w.heap.size w wr) := hb
    clear hb
    by_cases hlt : pos < s.size
    · obtain ⟨r, W, hd, hr, hW, hWs, hB, hall⟩ := rune_step s t pos hlt HA.out
      have hnx : ∀ ty, (Instr.next (.pointer (some ⟨w.heap.size, 0, none⟩)) true ty).run Try.prog wr = .ok (.tuple #[.bool true, .int .i64 pos, .int .i32 (r : Int)]) (wr.iterAt w.heap.size s (pos + W)) := fun ty => by
        rw [Lib.run_next_any_at wr w.heap.size s pos ty hk hlt, hd]
      have HK : Hid ((wr.iterAt w.heap.size s (pos + W)).heap[w.heap.size]? = some (.stringIter s (pos + W))) := Lib.iterAt_heap wr _ s pos _ hk
      have HK2 : Hid (Below w.heap.size w (wr.iterAt w.heap.size s (pos + W))) := Lib.below_iterAt HB.out (Nat.le_refl _) s _
      have HM : Hid (wr.iterPos w.heap.size = pos) := iterPos_at hk
      obtain ⟨B, hBB⟩ : ∃ B, t.data.toList.contains s[pos] = B := ⟨_, rfl⟩
      have HC2 : Hid (∀ w : World, Calls Try.prog 80 #[.string t, .int .i32 (r : Int)] w fun e w' => (∃ z : Int, e = .returned (.int .i64 z) ∧ decide (0 ≤ z) = B) ∧ Below w.heap.size w w') := fun w => by
        have := HC.out r w hr
        rw [hB, hBB] at this
        exact this
      have HALL : Hid (∀ j (h : j < s.size), pos ≤ j → j < pos + W → t.data.toList.contains (s[j]'h) = B) := fun j h a b => by rw [hall j h a b, hBB]
      have HPP : Hid (t.data.toList.contains (s[pos]'hlt) = B) := hBB
      generalize wr.iterAt w.heap.size s (pos + W) = wi at *
      clear hall hBB hB hd hk HC hr
      cases B with
      | true =>
        have HV : Hid (anyOf s t = true) := anyOf_yes hlt HPP.out
        clear HPP HALL
        go_wp2_with (go_at_call 80; refine (HC2.out _).mono ?_; rintro e w2 ⟨⟨z, rfl, hz⟩, hb2⟩)
        go_ret
        exact ⟨⟨_, rfl, by rw [HV.out]; exact decide_eq_true (by omega)⟩, HK2.out.trans (hb2.mono HK2.out.size)⟩
      | false =>
        go_wp2_with (go_at_call 80; refine (HC2.out _).mono ?_; rintro e w2 ⟨⟨z, rfl, hz⟩, hb2⟩)
        have HK3 : w2.heap[w.heap.size]? = some (.stringIter s (pos + W)) := by
          rw [hb2.block _ (by have := (Array.getElem?_eq_some_iff.1 HK.out).1; exact this)]
          exact HK.out
        go_roundw
        case rel =>
          refine ⟨pos + W, HK3, HK2.out.trans (hb2.mono HK2.out.size), hWs, fun i h hi => ?_⟩
          by_cases h' : i < pos
          · exact HR.out i h h'
          · exact HALL.out i h (by omega) hi
        case measure =>
          rw [iterPos_at HK3, HM.out]
          omega
    · have hnx : ∀ ty, (Instr.next (.pointer (some ⟨w.heap.size, 0, none⟩)) true ty).run Try.prog wr = .ok (.tuple #[.bool false]) wr := fun ty => Lib.run_next_end_at wr w.heap.size s pos ty hk hlt
      have HV : Hid (anyOf s t = false) := anyOf_no fun i h => HR.out i h (by omega)
      clear HR hk
      go_wp2
      go_ret
      exact ⟨⟨_, rfl, by rw [HV.out]; rfl⟩, HB.out⟩

set_option maxHeartbeats 8000000 in
set_option maxRecDepth 1000000 in
theorem indexAny_long (s t : ByteArray) (w : World) (ha : Asc t) (h2 : 2 ≤ t.size) (h8 : 8 < s.size) (hs : s.size ≤ 1048576) (ht : t.size ≤ 1048576) :
    Calls Try.prog 85 #[.string s, .string t] w fun e w' => (∃ r : Int, e = .returned (.int .i64 r) ∧ decide (0 ≤ r) = anyOf s t) ∧ Below w.heap.size w w' := by
  have HM : Hid (Calls Try.prog 100 #[.string t] w fun e w' => e = .returned (.tuple #[.agg (Lib.setCells t.data.toList), .bool true]) ∧ w' = w.alloc (.cells (Lib.setCells t.data.toList) 119)) :=
    Any.strings_makeASCIISet Try.lays227 asetZero asetSize t w (by omega) (fun j b hb => ha b (List.mem_of_getElem? hb))
  have HX : Hid (∀ (b : Nat) (x : UInt8) (v : Bool) (w : World), w.cell? ⟨b, x.toNat, none⟩ = some (.bool v) → Calls Try.prog 101 #[.pointer (some ⟨b, 0, none⟩), .int .u8 x.toNat] w fun e w' => e = .returned (.bool v) ∧ w' = w) := fun b x v w h => Any.asciiSet_contains Try.lays228 b x v w h
  have HU : Hid (∀ w : World, Calls Try.prog 99 #[.int .i64 (s.size : Int)] w fun e w' => e = .returned (.bool true) ∧ w' = w) := fun w => by
    have := useSet_any (s.size : Int) w
    rwa [decide_eq_true (by omega)] at this
  have hemp : t.toList.isEmpty = false := by
    rw [Lib.toList_data]
    cases h : t.data.toList with
    | nil => have := Lib.size_eq t; rw [h, List.length_nil] at this; omega
    | cons _ _ => rfl
  have hn1 : ((t.size : Int) == 1) = false := beq_eq_false_iff_ne.2 (by omega)
  have hsc : (storeCells ⟨w.heap.size + 1, 0, none⟩ (Lib.setCells t.data.toList).toList 0).run Try.prog ((w.alloc (.cells (Lib.setCells t.data.toList) 119)).alloc (.cells Try.zeroCells119 119)) = .ok () ((w.alloc (.cells (Lib.setCells t.data.toList) 119)).alloc (.cells (Lib.setCells t.data.toList) 119)) := by
    have := run_storeCells_new (P := Try.prog) (w.alloc (.cells (Lib.setCells t.data.toList) 119)) 119 Try.zeroCells119 (Lib.setCells t.data.toList) (by rw [Lib.setCells_size]; exact asetSize) (by rw [Lib.setCells_size]; kernel_rfl) (Lib.setCells_one _)
    simpa using this
  have HCL : Hid (∀ x : UInt8, ((w.alloc (.cells (Lib.setCells t.data.toList) 119)).alloc (.cells (Lib.setCells t.data.toList) 119)).cell? ⟨w.heap.size + 1, x.toNat, none⟩ = some (.bool (t.data.toList.contains x))) := fun x => by
    rw [World.cell?_alloc_at _ _ _ _ (by simp), Lib.setCells_at]
  have HBB : Hid (Below w.heap.size w ((w.alloc (.cells (Lib.setCells t.data.toList) 119)).alloc (.cells (Lib.setCells t.data.toList) 119))) := ((Below.refl _ _).alloc (Nat.le_refl _) _).alloc (by simp) _
  have hsz := Lib.setCells_size t.data.toList
  go_enter Try.func85, Try.ntmps85
  go_wp2_with (first
    | (go_at_call 99; refine (HU.out _).mono ?_; rintro e w1 ⟨rfl, hw1⟩; rw [hw1])
    | (go_at_call 100; refine HM.out.mono ?_; rintro e w1 ⟨rfl, hw1⟩; rw [hw1]))
  clear HM hsc hsz hemp hn1 HU
  generalize (w.alloc (.cells (Lib.setCells t.data.toList) 119)).alloc (.cells (Lib.setCells t.data.toList) 119) = W0 at *
  go_loopw [8] (fun i wr => ∃ k : Nat, i = .int .i64 (k : Int) ∧ k ≤ s.size ∧ wr = W0 ∧ Hid (∀ i, ∀ h : i < s.size, i < k → t.data.toList.contains s[i] = false)) (fun i _ => s.size - (intOf i).toNat)
  case atStart => exact ⟨0, rfl, by omega, rfl, fun i _ h => by omega⟩
  case round =>
    obtain ⟨k, rfl, hk, rfl, HR⟩ := hrel
    by_cases hlt : k < s.size
    · have i1 : (k : Int) < (s.size : Int) := by omega
      obtain ⟨x, hx⟩ : ∃ x : UInt8, s[k]'hlt = x := ⟨_, rfl⟩
      have hcx := HCL.out x
      have HXX : Hid (t.data.toList.contains (s[k]'hlt) = t.data.toList.contains x) := by rw [hx]; exact rfl
      obtain ⟨B, hB⟩ : ∃ B, t.data.toList.contains x = B := ⟨_, rfl⟩
      rw [hB] at hcx HXX
      have HC2 : Hid (Calls Try.prog 101 #[.pointer (some ⟨w.heap.size + 1, 0, none⟩), .int .u8 x.toNat] wr fun e w' => e = .returned (.bool B) ∧ w' = wr) := HX.out _ x B wr hcx
      clear hB hcx HCL HX
      cases B with
      | true =>
        have HV : Hid (anyOf s t = true) := anyOf_yes hlt HXX.out
        clear HXX HR
        go_wp2_with (go_at_call 101; refine HC2.out.mono ?_; rintro e w2 ⟨rfl, hw2⟩; rw [hw2])
        go_ret
        exact ⟨⟨_, rfl, by rw [HV.out]; exact decide_eq_true (by omega)⟩, HBB.out⟩
      | false =>
        go_wp2_with (go_at_call 101; refine HC2.out.mono ?_; rintro e w2 ⟨rfl, hw2⟩; rw [hw2])
        go_roundw
        case rel =>
          refine ⟨k + 1, by go_num, by omega, by first | rfl | trivial, fun i h hi => ?_⟩
          by_cases h' : i = k
          · subst h'; exact HXX.out
          · exact HR.out i h (by omega)
        case measure => simp [intOf]; omega
    · have HV : Hid (anyOf s t = false) := anyOf_no fun i h => HR.out i h (by omega)
      clear HR HX HCL
      have i1 : ¬ ((k : Int) < (s.size : Int)) := by omega
      go_wp2
      go_ret
      exact ⟨⟨_, rfl, by rw [HV.out]; rfl⟩, HBB.out⟩

set_option maxRecDepth 100000 in
set_option maxHeartbeats 400000 in
theorem containsAny_any (s t : ByteArray) (w : World) (ha : Asc t) (h2 : 2 ≤ t.size) (hs : s.size ≤ 1048576) (ht : t.size ≤ 1048576) :
    Calls Try.prog 74 #[.string s, .string t] w fun e w' => e = .returned (.bool (anyOf s t)) ∧ Below w.heap.size w w' := by
  have C : Hid (Calls Try.prog 85 #[.string s, .string t] w fun e w' => (∃ r : Int, e = .returned (.int .i64 r) ∧ decide (0 ≤ r) = anyOf s t) ∧ Below w.heap.size w w') := by
    by_cases h8 : s.size ≤ 8
    · exact indexAny_short s t w ha h2 h8
    · exact indexAny_long s t w ha h2 (by omega) hs ht
  go_enter Try.func74, Try.ntmps74
  go_wp2_with fail
  refine C.out.mono ?_
  rintro e w' ⟨⟨r, rfl, hr⟩, hb⟩
  have HR : Hid (decide (0 ≤ r) = anyOf s t) := hr
  clear hr
  go_wp2
  go_ret
  exact ⟨by rw [← HR.out]; rfl, hb⟩
end PartCaA
section PartItD
open Go.RowKit

set_option maxRecDepth 100000 in
set_option maxHeartbeats 1000000 in
theorem hasPrefixL_any (s p : ByteArray) (w : World) :
    Calls Try.prog 64 #[.string s, .string p] w fun e w' => e = .returned (.bool (Lib.hasPrefix s.data.toList p.data.toList)) ∧ w' = w := by
  rw [← Lib.hasPrefix_of_take, ← Lib.size_eq, ← Lib.size_eq]
  go_enter Try.func64, Try.ntmps64
  go_wp2
  · rename_i h
    go_ret
    refine ⟨?_, rfl⟩
    show Ending.returned (Value.bool ((s.extract 0 p.size).toList == p.toList)) = _
    rw [Lib.extract_toList, Lib.toList_data]
    simp [h]
  · rename_i h
    go_ret
    refine ⟨?_, rfl⟩
    show Ending.returned (Value.bool false) = _
    simp [h]
set_option maxRecDepth 100000 in
set_option maxHeartbeats 1000000 in
theorem hasPrefix_any (s p : ByteArray) (w : World) :
    Calls Try.prog 43 #[.string s, .string p] w fun e w' => e = .returned (.bool (Lib.hasPrefix s.data.toList p.data.toList)) ∧ w' = w := by
  have C : Hid (∀ w, Calls Try.prog 64 #[.string s, .string p] w fun e w' => e = .returned (.bool (Lib.hasPrefix s.data.toList p.data.toList)) ∧ w' = w) := fun w => hasPrefixL_any s p w
  go_enter Try.func43, Try.ntmps43
  go_wp2_with (go_at_call 64; refine (C.out _).mono ?_; rintro e w' ⟨rfl, rfl⟩)
  go_ret
  exact ⟨rfl, rfl⟩

set_option maxRecDepth 100000 in
set_option maxHeartbeats 1000000 in
theorem indexOneL_any (s : ByteArray) (c : UInt8) (w : World) :
    Calls Try.prog 81 #[.string s, .string ⟨#[c]⟩] w fun e w' => e = .returned (.int .i64 (Lib.indexByte s.data.toList c)) ∧ w' = w := by
  have C : Hid (∀ w, Calls Try.prog 93 #[.string s, .int .u8 (c.toNat : Int)] w fun e w' => e = .returned (.int .i64 (Lib.indexByte s.data.toList c)) ∧ w' = w) := fun w => by
    have := Try.stringslite_IndexByte s (c.toNat : Int) w
    rwa [toU8] at this
  go_enter Try.func81, Try.ntmps81
  go_wp2_with (go_at_call 93; refine (C.out _).mono ?_; rintro e w' ⟨rfl, rfl⟩)
  · have h : ([c] == s.toList) = true := by assumption
    go_ret
    refine ⟨?_, rfl⟩
    have e : s.data.toList = [c] := by rw [← Lib.toList_data]; exact (beq_iff_eq.1 h).symm
    rw [e]
    simp [Lib.indexByte]
  · go_ret
    exact ⟨rfl, rfl⟩
set_option maxRecDepth 100000 in
set_option maxHeartbeats 1000000 in
theorem indexOne_any (s : ByteArray) (c : UInt8) (w : World) :
    Calls Try.prog 65 #[.string s, .string ⟨#[c]⟩] w fun e w' => e = .returned (.int .i64 (Lib.indexByte s.data.toList c)) ∧ w' = w := by
  have C : Hid (∀ w, Calls Try.prog 81 #[.string s, .string ⟨#[c]⟩] w fun e w' => e = .returned (.int .i64 (Lib.indexByte s.data.toList c)) ∧ w' = w) := fun w => indexOneL_any s c w
  go_enter Try.func65, Try.ntmps65
  go_wp2_with (go_at_call 81; refine (C.out _).mono ?_; rintro e w' ⟨rfl, rfl⟩)
  go_ret
  exact ⟨rfl, rfl⟩
set_option maxRecDepth 100000 in
set_option maxHeartbeats 1000000 in
theorem containsOne_any (s : ByteArray) (c : UInt8) (w : World) :
    Calls Try.prog 45 #[.string s, .string (tx [c])] w fun e w' => e = .returned (.bool (s.data.toList.contains c)) ∧ w' = w := by
  rw [← indexByte_contains]
  show Calls Try.prog 45 #[.string s, .string ⟨#[c]⟩] w _
  have C : Hid (∀ w, Calls Try.prog 65 #[.string s, .string ⟨#[c]⟩] w fun e w' => e = .returned (.int .i64 (Lib.indexByte s.data.toList c)) ∧ w' = w) := fun w => indexOne_any s c w
  generalize Lib.indexByte s.data.toList c = z at *
  go_enter Try.func45, Try.ntmps45
  go_wp2_with (go_at_call 65; refine (C.out _).mono ?_; rintro e w' ⟨rfl, rfl⟩)
  go_ret
  exact ⟨rfl, rfl⟩

/-! The sets of the program -/
def setLetters : ByteArray := ⟨#[97, 98, 99, 100, 101, 102, 103, 104, 105, 106, 107, 108, 109, 110, 111, 112, 113, 114, 115, 116, 117, 118, 119, 120, 121, 122, 65, 66, 67, 68, 69, 70, 71, 72, 73, 74, 75, 76, 77, 78, 79, 80, 81, 82, 83, 84, 85, 86, 87, 88, 89, 90]⟩
def setFigures : ByteArray := ⟨#[48, 49, 50, 51, 52, 53, 54, 55, 56, 57]⟩
def setGaps : ByteArray := ⟨#[32, 9]⟩
def setLine : ByteArray := ⟨#[10]⟩
def setMark (m : UInt8) : ByteArray := ⟨#[m, 10]⟩
def setSigns : ByteArray := ⟨#[123, 125, 40, 41, 91, 93, 36, 126, 60, 43, 45, 42, 37, 46, 44, 61]⟩
theorem byte_all {p : UInt8 → Bool} (h : ∀ n : Fin 256, p (UInt8.ofNat n.val) = true) (b : UInt8) : p b = true := by
  have := h ⟨b.toNat, b.toNat_lt⟩
  simpa using this
set_option maxRecDepth 100000 in
theorem letters_is (b : UInt8) : setLetters.data.toList.contains b = Tk.letter b := by
  have := byte_all (p := fun b => setLetters.data.toList.contains b == Tk.letter b) (by decide) b
  simpa using this
set_option maxRecDepth 100000 in
theorem figures_is (b : UInt8) : setFigures.data.toList.contains b = Tk.figure b := by
  have := byte_all (p := fun b => setFigures.data.toList.contains b == Tk.figure b) (by decide) b
  simpa using this
theorem gaps_is (b : UInt8) : setGaps.data.toList.contains b = Tk.blank b := by
  rw [Bool.eq_iff_iff]
  simp [setGaps, Tk.blank]
theorem line_is (b : UInt8) : (!setLine.data.toList.contains b) = (b != 10) := by
  rw [Bool.eq_iff_iff]
  simp [setLine]
theorem mark_is (m b : UInt8) : (!(setMark m).data.toList.contains b) = (b != m && b != 10) := by
  rw [Bool.eq_iff_iff]
  simp [setMark]
theorem signs_is (b : UInt8) : setSigns.data.toList.contains b = decide (b ∈ Tk.signs) := by
  simp [setSigns, Tk.signs]
theorem asc_letters : Asc setLetters := by unfold Asc; decide
theorem asc_figures : Asc setFigures := by unfold Asc; decide
theorem asc_gaps : Asc setGaps := by unfold Asc; decide
theorem asc_line : Asc setLine := by unfold Asc; decide
theorem asc_mark (m : UInt8) (h : m.toNat < 128) : Asc (setMark m) := by
  intro b hb
  simp [setMark] at hb
  rcases hb with rfl | rfl
  · exact h
  · decide

theorem prefix_hash (l : List UInt8) : Lib.hasPrefix l [35] = decide (l[0]? = some 35) := by
  cases l with
  | nil => rfl
  | cons b r =>
    rw [Bool.eq_iff_iff]
    simp [Lib.hasPrefix, List.isPrefixOf]
    exact eq_comm
set_option maxRecDepth 100000 in
set_option maxHeartbeats 1000000 in
/-- What stands behind blanks, tabs and a remark. -/
theorem behindGaps_any (l : List UInt8) (w : World) :
    Calls Try.prog 19 #[.string (tx l)] w fun e w' => e = .returned (.string (tx (l.drop (Tk.gap l 0)))) ∧ Below w.heap.size w w' := by
  obtain ⟨k, hk⟩ : ∃ k, k = Tk.run Tk.blank l 0 := ⟨_, rfl⟩
  have hkl : k ≤ l.length := by rw [hk]; exact Tk.run_le _ (Nat.zero_le _)
  have C1 : Hid (∀ w, Calls Try.prog 42 #[.string (tx l), .string ⟨#[32, 9]⟩] w fun e w' => e = .returned (.string (tx (l.take k))) ∧ Below w.heap.size w w') := fun w => by
    rw [hk]
    exact rowOf_any (tx l) setGaps Tk.blank w asc_gaps gaps_is
  have HG : Hid (Tk.gap l 0 = if (l.drop k)[0]? = some 35 then k + Tk.run (fun b => b != 10) (l.drop k) 0 else k) := by
    show _ = _
    unfold Tk.gap
    rw [← hk, Tk.get_drop, Nat.add_zero, Tk.run_drop0 (fun b => b != 10) l k]
  have s1 : (tx (l.take k)).size = k := by rw [tx_size, List.length_take]; omega
  have s2 : (tx l).extract k (tx l).size = tx (l.drop k) := by
    rw [ext_take, tx_size, tx_list, List.take_of_length_le (by simp)]
  have C2 : Hid (∀ w, Calls Try.prog 43 #[.string (tx (l.drop k)), .string ⟨#[35]⟩] w fun e w' => e = .returned (.bool (decide ((l.drop k)[0]? = some 35))) ∧ w' = w) := fun w => by
    have := hasPrefix_any (tx (l.drop k)) ⟨#[35]⟩ w
    rw [tx_list, prefix_hash] at this
    exact this
  obtain ⟨r, hr⟩ : ∃ r, r = l.drop k := ⟨_, rfl⟩
  obtain ⟨j, hj⟩ : ∃ j, j = Tk.run (fun b => b != 10) r 0 := ⟨_, rfl⟩
  have hjl : j ≤ r.length := by rw [hj]; exact Tk.run_le _ (Nat.zero_le _)
  have C3 : Hid (∀ w, Calls Try.prog 44 #[.string (tx r), .string ⟨#[10]⟩] w fun e w' => e = .returned (.string (tx (r.take j))) ∧ Below w.heap.size w w') := fun w => by
    rw [hj]
    exact upTo_any (tx r) setLine (fun b => b != 10) w asc_line line_is
  have HT : Hid (r = l.drop k) := hr
  have hrl : r.length = l.length - k := by rw [hr]; simp
  rw [← hr] at C2 s2 HG
  rw [← hj] at HG
  have s3 : (tx (r.take j)).size = j := by rw [tx_size, List.length_take]; omega
  have s4 : (tx r).extract j (tx r).size = tx (r.drop j) := by
    rw [ext_take, tx_size, tx_list, List.take_of_length_le (by simp)]
  have z1 : (tx l).size = l.length := tx_size l
  have z2 : (tx r).size = r.length := tx_size r
  have i1 : (k : Int) ≤ (l.length : Int) := by omega
  have i2 : (j : Int) ≤ (r.length : Int) := by omega
  have i3 : (0 : Int) ≤ (k : Int) := by omega
  have i4 : (0 : Int) ≤ (j : Int) := by omega
  rw [z1] at s2
  rw [z2] at s4
  clear hk hj hr hrl
  by_cases h : r[0]? = some 35
  · rw [decide_eq_true h] at C2
    rw [if_pos h] at HG
    go_enter Try.func19, Try.ntmps19
    go_wp2_with fail
    refine (C1.out _).mono ?_
    rintro e w1 ⟨rfl, hb1⟩
    have B1 : Hid (Below w.heap.size w w1) := hb1
    clear hb1
    go_wp2_with fail
    refine (C2.out _).mono ?_
    rintro e w2 ⟨rfl, rfl⟩
    go_wp2_with fail
    refine (C3.out _).mono ?_
    rintro e w2 ⟨rfl, hb2⟩
    go_wp2
    go_ret
    refine ⟨?_, B1.out.trans (hb2.mono B1.out.size)⟩
    rw [HG.out, ← List.drop_drop, ← HT.out]
    rfl
  · rw [decide_eq_false h] at C2
    rw [if_neg h] at HG
    go_enter Try.func19, Try.ntmps19
    go_wp2_with fail
    refine (C1.out _).mono ?_
    rintro e w1 ⟨rfl, hb1⟩
    have B1 : Hid (Below w.heap.size w w1) := hb1
    clear hb1
    go_wp2_with fail
    refine (C2.out _).mono ?_
    rintro e w2 ⟨rfl, rfl⟩
    go_wp2
    go_ret
    refine ⟨?_, B1.out⟩
    rw [HG.out, ← HT.out]
    rfl
end PartItD
end Go.Proofs.Ythbblocllicmiap
