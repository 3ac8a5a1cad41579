/- The library's IndexAny and ContainsAny, where what is asked for has two bytes or more, all below 128; at every text. HasPrefix and Contains laid at this program; the sets; the program's behindGaps. Plain facts: what the program counts of a node's kids is what the document asks of them. -/
import Derived.Test.YtknojhmnadmilaaGreatDoorZar
import Derived.Shelf.Strings.AsciiSet
import Derived.Lib.Builder
import Derived.Lib.IndexAny
import Derived.Laws.Strings3
import Derived.Lib.Strings
import Derived.Test.YtknojhmnadmilaaGreatDoorZab
namespace Go.Proofs.YtknojhmnadmilaaGreatDoor
section PartCaA
open Go.Shelf
def Tryz.lays227_ren : Go.Shelf.Ren := ⟨fun | 227 => 75 | 228 => 76 | n => n, fun | 116 => 149 | 124 => 158 | n => n, fun | n => n⟩
set_option maxRecDepth 100000 in
theorem Tryz.lays227 : Go.Proofs.Lays.n227 Tryz.prog Tryz.lays227_ren := {
  mixed := by kernel_rfl
  f227 := Tryz.func75.trans (congrArg some (by kernel_rfl))
  t0 := Tryz.underlying0
  a0 := Tryz.isAgg0
  z0 := Tryz.sizeOf0
  v0 := Tryz.zeroValue0
  t3 := Tryz.underlying3
  a3 := Tryz.isAgg3
  z3 := Tryz.sizeOf3
  v3 := Tryz.zeroValue3
  t4 := Tryz.underlying4
  a4 := Tryz.isAgg4
  z4 := Tryz.sizeOf4
  v4 := Tryz.zeroValue4
  t5 := Tryz.underlying5
  a5 := Tryz.isAgg5
  z5 := Tryz.sizeOf5
  v5 := Tryz.zeroValue5
  t9 := Tryz.underlying9
  a9 := Tryz.isAgg9
  z9 := Tryz.sizeOf9
  v9 := Tryz.zeroValue9
  t116 := Tryz.underlying149
  a116 := Tryz.isAgg149
  z116 := Tryz.sizeOf149 }
set_option maxRecDepth 100000 in
theorem Tryz.lays228 : Go.Proofs.Lays.n228 Tryz.prog Tryz.lays227_ren := {
  mixed := by kernel_rfl
  f228 := Tryz.func76.trans (congrArg some (by kernel_rfl))
  t0 := Tryz.underlying0
  a0 := Tryz.isAgg0
  z0 := Tryz.sizeOf0
  v0 := Tryz.zeroValue0
  t4 := Tryz.underlying4
  a4 := Tryz.isAgg4
  z4 := Tryz.sizeOf4
  v4 := Tryz.zeroValue4
  t5 := Tryz.underlying5
  a5 := Tryz.isAgg5
  z5 := Tryz.sizeOf5
  v5 := Tryz.zeroValue5
  t116 := Tryz.underlying149
  a116 := Tryz.isAgg149
  z116 := Tryz.sizeOf149
  t124 := Tryz.underlying158
  a124 := Tryz.isAgg158
  z124 := Tryz.sizeOf158
  v124 := Tryz.zeroValue158 }
open Go.RowKit

set_option maxRecDepth 100000 in
theorem asetInfo : (Tryz.prog.info? 149).map (fun i => (i.zero, i.size)) = some (some (.agg (Array.replicate 256 (.bool false))), 256) := by kernel_rfl
theorem asetZero (w : World) : (zeroValue 149).run Tryz.prog w = .ok (.agg (Array.replicate 256 (.bool false))) w := (zero_of_info asetInfo).1 w
theorem asetSize : (Tryz.prog.info? 149).map (·.size) = some 256 := (zero_of_info asetInfo).2

set_option maxHeartbeats 400000 in
theorem useSet_any (n : Int) (w : World) : Calls Tryz.prog 74 #[.int .i64 n] w fun e w' => e = .returned (.bool (decide (8 < n))) ∧ w' = w := by
  go_enter Tryz.func74, Tryz.ntmps74
  go_wp2
  go_ret
  exact ⟨rfl, rfl⟩

/-- Has a text one of the bytes? -/
def anyOf (s t : ByteArray) : Bool := s.data.toList.any fun b => t.data.toList.contains b
theorem anyOf_yes {s t : ByteArray} {i : Nat} (h : i < s.size) (hc : t.data.toList.contains s[i] = true) : anyOf s t = true := by
  unfold anyOf
  rw [List.any_eq_true]
  exact ⟨s[i], by show s.data[i] ∈ s.data.toList; exact Array.getElem_mem_toList _, hc⟩
theorem anyOf_no {s t : ByteArray} (h : ∀ i, ∀ h : i < s.size, t.data.toList.contains s[i] = false) : anyOf s t = false := by
  unfold anyOf
  rw [List.any_eq_false]
  intro x hx
  obtain ⟨i, hi, rfl⟩ := List.getElem_of_mem hx
  have := h i (by simpa using hi)
  rw [byte_at s i (by simpa using hi), this]
  simp

set_option maxRecDepth 100000 in
set_option maxHeartbeats 2000000 in
theorem indexAny_short (s t : ByteArray) (w : World) (ha : Asc t) (h2 : 2 ≤ t.size) (h8 : s.size ≤ 8) :
    Calls Tryz.prog 65 #[.string s, .string t] w fun e w' => (∃ r : Int, e = .returned (.int .i64 r) ∧ decide (0 ≤ r) = anyOf s t) ∧ Below w.heap.size w w' := by
  have hsl : s.data.toList.length = s.size := by simp
  have HC : Hid (∀ (r : Nat) (w : World), r ≤ 2147483647 → Calls Tryz.prog 73 #[.string t, .int .i32 (r : Int)] w fun e w' => (∃ z : Int, e = .returned (.int .i64 z) ∧ decide (0 ≤ z) = (decide ((r : Int) < 128) && t.data.toList.contains (r : Int).toNat.toUInt8)) ∧ Below w.heap.size w w') := fun r w h => by
    by_cases hl : (r : Int) < 128
    · refine (indexRune_low t (r : Int) w (by omega) hl).mono ?_
      rintro e w' ⟨rfl, rfl⟩
      exact ⟨⟨_, rfl, by rw [indexByte_contains, decide_eq_true hl, Bool.true_and]⟩, Below.refl _ _⟩
    · refine (indexRune_high t (r : Int) w ha (by omega) (by omega)).mono ?_
      rintro e w' ⟨rfl, hb⟩
      exact ⟨⟨_, rfl, by rw [decide_eq_false hl]; rfl⟩, hb⟩
  have HU : Hid (∀ w : World, Calls Tryz.prog 74 #[.int .i64 (s.size : Int)] w fun e w' => e = .returned (.bool false) ∧ w' = w) := fun w => by
    have := useSet_any (s.size : Int) w
    rwa [decide_eq_false (by omega)] at this
  have hemp : t.toList.isEmpty = false := by
    rw [Lib.toList_data]
    cases h : t.data.toList with
    | nil => have := Lib.size_eq t; rw [h, List.length_nil] at this; omega
    | cons _ _ => rfl
  have hn1 : ((t.size : Int) == 1) = false := beq_eq_false_iff_ne.2 (by omega)
  have HA : Hid (Asc t) := ha
  clear ha
  go_enter Tryz.func65, Tryz.ntmps65
  go_wp2_with (go_at_call 74; refine (HU.out _).mono ?_; rintro e w1 ⟨rfl, hw1⟩; rw [hw1])
  go_loopw [] (fun wr => ∃ pos, wr.heap[w.heap.size]? = some (.stringIter s pos) ∧ Below w.heap.size w wr ∧ pos ≤ s.size ∧ Hid (∀ i, ∀ h : i < s.size, i < pos → t.data.toList.contains s[i] = false)) (fun wr => s.size - wr.iterPos w.heap.size)
  case atStart => exact ⟨0, World.iter_heap w s 0, below_iter w s 0, Nat.zero_le _, fun i _ h => by omega⟩
  case round =>
    obtain ⟨pos, hk, hb, hle, HR⟩ := hrel
    have HB : Hid (Below w.heap.size w wr) := hb
    clear hb
    by_cases hlt : pos < s.size
    · obtain ⟨r, W, hd, hr, hW, hWs, hB, hall⟩ := rune_step s t pos hlt HA.out
      have hnx : ∀ ty, (Instr.next (.pointer (some ⟨w.heap.size, 0, none⟩)) true ty).run Tryz.prog wr = .ok (.tuple #[.bool true, .int .i64 pos, .int .i32 (r : Int)]) (wr.iterAt w.heap.size s (pos + W)) := fun ty => by
        rw [Lib.run_next_any_at wr w.heap.size s pos ty hk hlt, hd]
      have HK : Hid ((wr.iterAt w.heap.size s (pos + W)).heap[w.heap.size]? = some (.stringIter s (pos + W))) := Lib.iterAt_heap wr _ s pos _ hk
      have HK2 : Hid (Below w.heap.size w (wr.iterAt w.heap.size s (pos + W))) := Lib.below_iterAt HB.out (Nat.le_refl _) s _
      have HM : Hid (wr.iterPos w.heap.size = pos) := iterPos_at hk
      obtain ⟨B, hBB⟩ : ∃ B, t.data.toList.contains s[pos] = B := ⟨_, rfl⟩
      have HC2 : Hid (∀ w : World, Calls Tryz.prog 73 #[.string t, .int .i32 (r : Int)] w fun e w' => (∃ z : Int, e = .returned (.int .i64 z) ∧ decide (0 ≤ z) = B) ∧ Below w.heap.size w w') := fun w => by
        have := HC.out r w hr
        rw [hB, hBB] at this
        exact this
      have HALL : Hid (∀ j (h : j < s.size), pos ≤ j → j < pos + W → t.data.toList.contains (s[j]'h) = B) := fun j h a b => by rw [hall j h a b, hBB]
      have HPP : Hid (t.data.toList.contains (s[pos]'hlt) = B) := hBB
      generalize wr.iterAt w.heap.size s (pos + W) = wi at *
      clear hall hBB hB hd hk HC hr
      cases B with
      | true =>
        have HV : Hid (anyOf s t = true) := anyOf_yes hlt HPP.out
        clear HPP HALL
        go_wp2_with (go_at_call 73; refine (HC2.out _).mono ?_; rintro e w2 ⟨⟨z, rfl, hz⟩, hb2⟩)
        go_ret
        exact ⟨⟨_, rfl, by rw [HV.out]; exact decide_eq_true (by omega)⟩, HK2.out.trans (hb2.mono HK2.out.size)⟩
      | false =>
        go_wp2_with (go_at_call 73; refine (HC2.out _).mono ?_; rintro e w2 ⟨⟨z, rfl, hz⟩, hb2⟩)
        have HK3 : w2.heap[w.heap.size]? = some (.stringIter s (pos + W)) := by
          rw [hb2.block _ (by have := (Array.getElem?_eq_some_iff.1 HK.out).1; exact this)]
          exact HK.out
        go_roundw
        case rel =>
          refine ⟨pos + W, HK3, HK2.out.trans (hb2.mono HK2.out.size), hWs, fun i h hi => ?_⟩
          by_cases h' : i < pos
          · exact HR.out i h h'
          · exact HALL.out i h (by omega) hi
        case measure =>
          rw [iterPos_at HK3, HM.out]
          omega
    · have hnx : ∀ ty, (Instr.next (.pointer (some ⟨w.heap.size, 0, none⟩)) true ty).run Tryz.prog wr = .ok (.tuple #[.bool false]) wr := fun ty => Lib.run_next_end_at wr w.heap.size s pos ty hk hlt
      have HV : Hid (anyOf s t = false) := anyOf_no fun i h => HR.out i h (by omega)
      clear HR hk
      go_wp2
      go_ret
      exact ⟨⟨_, rfl, by rw [HV.out]; rfl⟩, HB.out⟩

set_option maxHeartbeats 8000000 in
set_option maxRecDepth 1000000 in
theorem indexAny_long (s t : ByteArray) (w : World) (ha : Asc t) (h2 : 2 ≤ t.size) (h8 : 8 < s.size) (hs : s.size ≤ 1048576) (ht : t.size ≤ 1048576) :
    Calls Tryz.prog 65 #[.string s, .string t] w fun e w' => (∃ r : Int, e = .returned (.int .i64 r) ∧ decide (0 ≤ r) = anyOf s t) ∧ Below w.heap.size w w' := by
  have HM : Hid (Calls Tryz.prog 75 #[.string t] w fun e w' => e = .returned (.tuple #[.agg (Lib.setCells t.data.toList), .bool true]) ∧ w' = w.alloc (.cells (Lib.setCells t.data.toList) 149)) :=
    Any.strings_makeASCIISet Tryz.lays227 asetZero asetSize t w (by omega) (fun j b hb => ha b (List.mem_of_getElem? hb))
  have HX : Hid (∀ (b : Nat) (x : UInt8) (v : Bool) (w : World), w.cell? ⟨b, x.toNat, none⟩ = some (.bool v) → Calls Tryz.prog 76 #[.pointer (some ⟨b, 0, none⟩), .int .u8 x.toNat] w fun e w' => e = .returned (.bool v) ∧ w' = w) := fun b x v w h => Any.asciiSet_contains Tryz.lays228 b x v w h
  have HU : Hid (∀ w : World, Calls Tryz.prog 74 #[.int .i64 (s.size : Int)] w fun e w' => e = .returned (.bool true) ∧ w' = w) := fun w => by
    have := useSet_any (s.size : Int) w
    rwa [decide_eq_true (by omega)] at this
  have hemp : t.toList.isEmpty = false := by
    rw [Lib.toList_data]
    cases h : t.data.toList with
    | nil => have := Lib.size_eq t; rw [h, List.length_nil] at this; omega
    | cons _ _ => rfl
  have hn1 : ((t.size : Int) == 1) = false := beq_eq_false_iff_ne.2 (by omega)
  have hsc : (storeCells ⟨w.heap.size + 1, 0, none⟩ (Lib.setCells t.data.toList).toList 0).run Tryz.prog ((w.alloc (.cells (Lib.setCells t.data.toList) 149)).alloc (.cells Tryz.zeroCells149 149)) = .ok () ((w.alloc (.cells (Lib.setCells t.data.toList) 149)).alloc (.cells (Lib.setCells t.data.toList) 149)) := by
    have := run_storeCells_new (P := Tryz.prog) (w.alloc (.cells (Lib.setCells t.data.toList) 149)) 149 Tryz.zeroCells149 (Lib.setCells t.data.toList) (by rw [Lib.setCells_size]; exact asetSize) (by rw [Lib.setCells_size]; kernel_rfl) (Lib.setCells_one _)
    simpa using this
  have HCL : Hid (∀ x : UInt8, ((w.alloc (.cells (Lib.setCells t.data.toList) 149)).alloc (.cells (Lib.setCells t.data.toList) 149)).cell? ⟨w.heap.size + 1, x.toNat, none⟩ = some (.bool (t.data.toList.contains x))) := fun x => by
    rw [World.cell?_alloc_at _ _ _ _ (by simp), Lib.setCells_at]
  have HBB : Hid (Below w.heap.size w ((w.alloc (.cells (Lib.setCells t.data.toList) 149)).alloc (.cells (Lib.setCells t.data.toList) 149))) := ((Below.refl _ _).alloc (Nat.le_refl _) _).alloc (by simp) _
  have hsz := Lib.setCells_size t.data.toList
  go_enter Tryz.func65, Tryz.ntmps65
  go_wp2_with (first
    | (go_at_call 74; refine (HU.out _).mono ?_; rintro e w1 ⟨rfl, hw1⟩; rw [hw1])
    | (go_at_call 75; refine HM.out.mono ?_; rintro e w1 ⟨rfl, hw1⟩; rw [hw1]))
  clear HM hsc hsz hemp hn1 HU
  generalize (w.alloc (.cells (Lib.setCells t.data.toList) 149)).alloc (.cells (Lib.setCells t.data.toList) 149) = W0 at *
  go_loopw [8] (fun i wr => ∃ k : Nat, i = .int .i64 (k : Int) ∧ k ≤ s.size ∧ wr = W0 ∧ Hid (∀ i, ∀ h : i < s.size, i < k → t.data.toList.contains s[i] = false)) (fun i _ => s.size - (intOf i).toNat)
  case atStart => exact ⟨0, rfl, by omega, rfl, fun i _ h => by omega⟩
  case round =>
    obtain ⟨k, rfl, hk, rfl, HR⟩ := hrel
    by_cases hlt : k < s.size
    · have i1 : (k : Int) < (s.size : Int) := by omega
      obtain ⟨x, hx⟩ : ∃ x : UInt8, s[k]'hlt = x := ⟨_, rfl⟩
      have hcx := HCL.out x
      have HXX : Hid (t.data.toList.contains (s[k]'hlt) = t.data.toList.contains x) := by rw [hx]; exact rfl
      obtain ⟨B, hB⟩ : ∃ B, t.data.toList.contains x = B := ⟨_, rfl⟩
      rw [hB] at hcx HXX
      have HC2 : Hid (Calls Tryz.prog 76 #[.pointer (some ⟨w.heap.size + 1, 0, none⟩), .int .u8 x.toNat] wr fun e w' => e = .returned (.bool B) ∧ w' = wr) := HX.out _ x B wr hcx
      clear hB hcx HCL HX
      cases B with
      | true =>
        have HV : Hid (anyOf s t = true) := anyOf_yes hlt HXX.out
        clear HXX HR
        go_wp2_with (go_at_call 76; refine HC2.out.mono ?_; rintro e w2 ⟨rfl, hw2⟩; rw [hw2])
        go_ret
        exact ⟨⟨_, rfl, by rw [HV.out]; exact decide_eq_true (by omega)⟩, HBB.out⟩
      | false =>
        go_wp2_with (go_at_call 76; refine HC2.out.mono ?_; rintro e w2 ⟨rfl, hw2⟩; rw [hw2])
        go_roundw
        case rel =>
          refine ⟨k + 1, by go_num, by omega, by first | rfl | trivial, fun i h hi => ?_⟩
          by_cases h' : i = k
          · subst h'; exact HXX.out
          · exact HR.out i h (by omega)
        case measure => simp [intOf]; omega
    · have HV : Hid (anyOf s t = false) := anyOf_no fun i h => HR.out i h (by omega)
      clear HR HX HCL
      have i1 : ¬ ((k : Int) < (s.size : Int)) := by omega
      go_wp2
      go_ret
      exact ⟨⟨_, rfl, by rw [HV.out]; rfl⟩, HBB.out⟩

set_option maxRecDepth 100000 in
set_option maxHeartbeats 400000 in
theorem containsAny_any (s t : ByteArray) (w : World) (ha : Asc t) (h2 : 2 ≤ t.size) (hs : s.size ≤ 1048576) (ht : t.size ≤ 1048576) :
    Calls Tryz.prog 58 #[.string s, .string t] w fun e w' => e = .returned (.bool (anyOf s t)) ∧ Below w.heap.size w w' := by
  have C : Hid (Calls Tryz.prog 65 #[.string s, .string t] w fun e w' => (∃ r : Int, e = .returned (.int .i64 r) ∧ decide (0 ≤ r) = anyOf s t) ∧ Below w.heap.size w w') := by
    by_cases h8 : s.size ≤ 8
    · exact indexAny_short s t w ha h2 h8
    · exact indexAny_long s t w ha h2 (by omega) hs ht
  go_enter Tryz.func58, Tryz.ntmps58
  go_wp2_with fail
  refine C.out.mono ?_
  rintro e w' ⟨⟨r, rfl, hr⟩, hb⟩
  have HR : Hid (decide (0 ≤ r) = anyOf s t) := hr
  clear hr
  go_wp2
  go_ret
  exact ⟨by rw [← HR.out]; rfl, hb⟩
end PartCaA
section PartItD
open Go.RowKit

set_option maxRecDepth 100000 in
set_option maxHeartbeats 1000000 in
theorem indexOneL_any (s : ByteArray) (c : UInt8) (w : World) :
    Calls Tryz.prog 105 #[.string s, .string ⟨#[c]⟩] w fun e w' => e = .returned (.int .i64 (Lib.indexByte s.data.toList c)) ∧ w' = w := by
  have C : Hid (∀ w, Calls Tryz.prog 94 #[.string s, .int .u8 (c.toNat : Int)] w fun e w' => e = .returned (.int .i64 (Lib.indexByte s.data.toList c)) ∧ w' = w) := fun w => by
    have := Tryz.stringslite_IndexByte s (c.toNat : Int) w
    rwa [toU8] at this
  go_enter Tryz.func105, Tryz.ntmps105
  go_wp2_with (go_at_call 94; refine (C.out _).mono ?_; rintro e w' ⟨rfl, rfl⟩)
  · have h : ([c] == s.toList) = true := by assumption
    go_ret
    refine ⟨?_, rfl⟩
    have e : s.data.toList = [c] := by rw [← Lib.toList_data]; exact (beq_iff_eq.1 h).symm
    rw [e]
    simp [Lib.indexByte]
  · go_ret
    exact ⟨rfl, rfl⟩

/-! The sets of the program -/
def setLetters : ByteArray := ⟨#[97, 98, 99, 100, 101, 102, 103, 104, 105, 106, 107, 108, 109, 110, 111, 112, 113, 114, 115, 116, 117, 118, 119, 120, 121, 122, 65, 66, 67, 68, 69, 70, 71, 72, 73, 74, 75, 76, 77, 78, 79, 80, 81, 82, 83, 84, 85, 86, 87, 88, 89, 90]⟩
def setFigures : ByteArray := ⟨#[48, 49, 50, 51, 52, 53, 54, 55, 56, 57]⟩
def setGaps : ByteArray := ⟨#[32, 9]⟩
def setLine : ByteArray := ⟨#[10]⟩
def setMark (m : UInt8) : ByteArray := ⟨#[m, 10]⟩
def setSigns : ByteArray := ⟨#[123, 125, 40, 41, 91, 93, 36, 126, 60, 43, 45, 42, 37, 46, 44, 61]⟩
theorem byte_all {p : UInt8 → Bool} (h : ∀ n : Fin 256, p (UInt8.ofNat n.val) = true) (b : UInt8) : p b = true := by
  have := h ⟨b.toNat, b.toNat_lt⟩
  simpa using this
set_option maxRecDepth 100000 in
theorem letters_is (b : UInt8) : setLetters.data.toList.contains b = Tk.letter b := by
  have := byte_all (p := fun b => setLetters.data.toList.contains b == Tk.letter b) (by decide) b
  simpa using this
set_option maxRecDepth 100000 in
theorem figures_is (b : UInt8) : setFigures.data.toList.contains b = Tk.figure b := by
  have := byte_all (p := fun b => setFigures.data.toList.contains b == Tk.figure b) (by decide) b
  simpa using this
theorem gaps_is (b : UInt8) : setGaps.data.toList.contains b = Tk.blank b := by
  rw [Bool.eq_iff_iff]
  simp [setGaps, Tk.blank]
theorem line_is (b : UInt8) : (!setLine.data.toList.contains b) = (b != 10) := by
  rw [Bool.eq_iff_iff]
  simp [setLine]
theorem mark_is (m b : UInt8) : (!(setMark m).data.toList.contains b) = (b != m && b != 10) := by
  rw [Bool.eq_iff_iff]
  simp [setMark]
theorem signs_is (b : UInt8) : setSigns.data.toList.contains b = decide (b ∈ Tk.signs) := by
  simp [setSigns, Tk.signs]
theorem asc_letters : Asc setLetters := by unfold Asc; decide
theorem asc_figures : Asc setFigures := by unfold Asc; decide
theorem asc_gaps : Asc setGaps := by unfold Asc; decide
theorem asc_line : Asc setLine := by unfold Asc; decide
theorem asc_mark (m : UInt8) (h : m.toNat < 128) : Asc (setMark m) := by
  intro b hb
  simp [setMark] at hb
  rcases hb with rfl | rfl
  · exact h
  · decide

theorem prefix_hash (l : List UInt8) : Lib.hasPrefix l [35] = decide (l[0]? = some 35) := by
  cases l with
  | nil => rfl
  | cons b r =>
    rw [Bool.eq_iff_iff]
    simp [Lib.hasPrefix, List.isPrefixOf]
    exact eq_comm
end PartItD
section PartPkA
namespace Pg
/-- Does place k of a node of this op want a statement? -/
def kst (op : Int) (k : Nat) : Bool := decide (op = 24) || (decide (op = 22) && decide (0 < k))
/-- Are the kids' ops as the op wants them? -/
def kops (op : Int) (os : List Int) : Bool := (List.range os.length).all fun k => !(kst op k == ex (os.getD k 0) || (decide (op = 22) && decide (os.getD k 0 = 22)))
/-- No if right within an if. -/
def noIf (op o : Int) : Bool := !(decide (o = 22) && decide (op = 22))
/-- The program's count of expressions and statements. -/
def cnt (op : Int) : List Int → Nat → Nat → Option (Nat × Nat)
  | [], e, s => some (e, s)
  | o :: r, e, s => if ex o then (if s = 0 then cnt op r (e + 1) s else none) else if noIf op o then cnt op r e (s + 1) else none
def fits (op : Int) (e s : Nat) : Bool :=
  if op = 4 ∨ op = 5 ∨ op = 8 ∨ op = 16 ∨ op = 18 ∨ op = 19 then decide (e = 1) && decide (s = 0)
  else if op = 9 ∨ op = 10 ∨ op = 11 ∨ op = 12 ∨ op = 13 ∨ op = 14 ∨ op = 15 ∨ op = 20 ∨ op = 21 then decide (e = 2) && decide (s = 0)
  else if op = 17 then decide (1 ≤ e) && (decide (e ≤ 4) && decide (s = 0))
  else if op = 22 then decide (e = 1) && (decide (1 ≤ s) && decide (s ≤ 2))
  else if op = 24 then decide (e = 0) && decide (s ≤ 20)
  else decide (e = 0) && decide (s = 0)
def counted (op : Int) (os : List Int) : Bool := match cnt op os 0 0 with | none => false | some (e, s) => fits op e s
theorem cnt_behind (op : Int) : ∀ (os : List Int) (e s : Nat), 0 < s → cnt op os e s = if os.all (fun o => !ex o && noIf op o) then some (e, s + os.length) else none
  | [], e, s, _ => by simp [cnt]
  | o :: r, e, s, h => by
    rw [cnt]
    cases h1 : ex o
    · cases h2 : noIf op o
      · simp [h1, h2]
      · simp only [Bool.false_eq_true, ↓reduceIte, cnt_behind op r e (s + 1) (by omega), List.all_cons, h1, h2, Bool.not_false, Bool.and_self, Bool.true_and, List.length_cons]
        rw [show s + 1 + r.length = s + (r.length + 1) by omega]
    · simp [h1, show ¬ s = 0 by omega]
theorem cnt_ahead (op : Int) : ∀ (os : List Int) (e : Nat), cnt op os e 0 = if (os.dropWhile ex).all (fun o => !ex o && noIf op o) then some (e + (os.takeWhile ex).length, (os.dropWhile ex).length) else none
  | [], e => by simp [cnt]
  | o :: r, e => by
    rw [cnt]
    cases h1 : ex o
    · cases h2 : noIf op o
      · simp [h1, h2]
      · simp only [Bool.false_eq_true, ↓reduceIte, cnt_behind op r e (0 + 1) (by omega), h1, h2, List.dropWhile_cons, List.takeWhile_cons, List.all_cons, Bool.not_false, Bool.and_self, Bool.true_and, List.length_cons, List.length_nil]
        rw [show 0 + 1 + r.length = r.length + 1 by omega]
        simp
    · simp only [↓reduceIte, cnt_ahead op r (e + 1), h1, List.dropWhile_cons, List.takeWhile_cons, List.length_cons]
      rw [show e + 1 + (r.takeWhile ex).length = e + ((r.takeWhile ex).length + 1) by omega]
theorem td_len (os : List Int) : (os.takeWhile ex).length + (os.dropWhile ex).length = os.length := by
  rw [← List.length_append, List.takeWhile_append_dropWhile]
theorem drop_nil (os : List Int) : (os.dropWhile ex).length = 0 ↔ os.all ex = true := by
  rw [List.length_eq_zero_iff]
  induction os with
  | nil => simp
  | cons o r ih => cases h : ex o <;> simp [h, ih]
theorem take_nil (os : List Int) : (os.takeWhile ex).length = 0 → os.dropWhile ex = os := by
  intro h
  have h2 := List.takeWhile_append_dropWhile (p := ex) (l := os)
  rw [List.length_eq_zero_iff.1 h] at h2
  exact h2
theorem all_range (os : List Int) (p : Int → Bool) : ((List.range os.length).all fun k => p (os.getD k 0)) = os.all p := by
  rw [Bool.eq_iff_iff, List.all_eq_true, List.all_eq_true]
  constructor
  · intro h o ho
    obtain ⟨k, hk, rfl⟩ := List.getElem_of_mem ho
    have := h k (List.mem_range.2 hk)
    simpa [hk] using this
  · intro h k hk
    have hk := List.mem_range.1 hk
    have := h _ (List.getElem_mem hk)
    simpa [hk] using this
theorem ex_ne {o : Int} (h : o = 22) : ex o = false := by subst h; decide
/-- Where every kid must be an expression. -/
theorem counted_exs (op : Int) (os : List Int) (lo hi : Nat) (h22 : op ≠ 22) (h24 : op ≠ 24) (hf : ∀ e s, fits op e s = (decide (lo ≤ e ∧ e ≤ hi) && decide (s = 0))) : counted op os = (decide (lo ≤ os.length ∧ os.length ≤ hi) && kops op os) := by
  have hk : kops op os = os.all ex := by
    unfold kops
    rw [← all_range]
    congr 1
    funext k
    simp [kst, h22, h24]
  rw [hk, counted, cnt_ahead]
  have hl := td_len os
  have hd := drop_nil os
  cases ha : os.all ex
  · rw [Bool.and_false]
    have hn : (os.dropWhile ex).length ≠ 0 := fun h => by rw [hd.1 h] at ha; cases ha
    split
    · rfl
    · rename_i e s h
      split at h
      · simp at h
        rw [hf, ← h.2]
        simp [hn]
      · cases h
  · have hn := hd.2 ha
    rw [List.length_eq_zero_iff.1 hn] at hl ⊢
    simp at hl
    simp [hf, hl]
theorem counted_is (op : Int) (os : List Int) : counted op os = (decide ((many op).1 ≤ os.length ∧ os.length ≤ (many op).2) && kops op os) := by
  by_cases h1 : op = 4 ∨ op = 5 ∨ op = 8 ∨ op = 16 ∨ op = 18 ∨ op = 19
  · rw [show many op = (1, 1) by simp only [many, if_pos h1]]
    refine counted_exs op os 1 1 (by omega) (by omega) fun e s => ?_
    simp only [fits, if_pos h1]
    congr 1
    exact decide_eq_decide.2 (by omega)
  by_cases h2 : op = 9 ∨ op = 10 ∨ op = 11 ∨ op = 12 ∨ op = 13 ∨ op = 14 ∨ op = 15 ∨ op = 20 ∨ op = 21
  · rw [show many op = (2, 2) by simp only [many, if_neg h1, if_pos h2]]
    refine counted_exs op os 2 2 (by omega) (by omega) fun e s => ?_
    simp only [fits, if_neg h1, if_pos h2]
    congr 1
    exact decide_eq_decide.2 (by omega)
  by_cases h3 : op = 17
  · rw [show many op = (1, 4) by simp only [many, if_neg h1, if_neg h2, if_pos h3]]
    refine counted_exs op os 1 4 (by omega) (by omega) fun e s => ?_
    simp only [fits, if_neg h1, if_neg h2, if_pos h3]
    by_cases q1 : 1 ≤ e <;> by_cases q2 : e ≤ 4 <;> simp [q1, q2]
  by_cases h4 : op = 22
  · subst h4
    rw [show many 22 = (2, 3) by decide, counted, cnt_ahead]
    have hl := td_len os
    by_cases hlen : 2 ≤ os.length ∧ os.length ≤ 3
    · rw [decide_eq_true hlen, Bool.true_and]
      have key : ∀ o : Int, ex o = true → o ≠ 22 := fun o h e => by subst e; exact absurd h (by decide)
      match os, hlen with
      | [a, b], _ =>
        cases ha : ex a <;> cases hb : ex b <;> by_cases ea : a = 22 <;> by_cases eb : b = 22 <;> first | (subst ea; exact absurd ha (by decide)) | simp_all [kops, kst, fits, noIf, List.range_succ, List.dropWhile, List.takeWhile]
      | [a, b, c], _ =>
        cases ha : ex a <;> cases hb : ex b <;> cases hc : ex c <;> by_cases ea : a = 22 <;> by_cases eb : b = 22 <;> by_cases ec : c = 22 <;> first | (subst ea; exact absurd ha (by decide)) | simp_all [kops, kst, fits, noIf, List.range_succ, List.dropWhile, List.takeWhile]
    · rw [decide_eq_false hlen, Bool.false_and]
      split
      · rfl
      · rename_i e s h
        split at h
        · simp at h
          simp [fits]
          omega
        · cases h
  by_cases h5 : op = 24
  · subst h5
    have hk : kops 24 os = os.all (fun o => !ex o) := by
      unfold kops
      rw [← all_range]
      congr 1
      funext k
      simp [kst]
    rw [show many 24 = (0, 20) by decide, counted, cnt_ahead, hk]
    have hl := td_len os
    by_cases ht : (os.takeWhile ex).length = 0
    · rw [take_nil os ht, ht]
      have : (os.all fun o => !ex o && noIf 24 o) = os.all fun o => !ex o := by congr 1; funext o; simp [noIf]
      rw [this]
      cases os.all (fun o => !ex o)
      · simp
      · simp [fits]
    · have hh : (os.all fun o => !ex o) = false := by
        match os, ht with
        | [], ht => simp at ht
        | a :: r, ht =>
          cases ha : ex a
          · simp [List.takeWhile, ha] at ht
          · simp [ha]
      rw [hh, Bool.and_false]
      split
      · rfl
      · rename_i e s h
        split at h
        · simp at h
          simp [fits]
          omega
        · cases h
  · rw [show many op = (0, 0) by simp only [many, if_neg h1, if_neg h2, if_neg h3, if_neg h4, if_neg h5]]
    refine counted_exs op os 0 0 h4 h5 fun e s => ?_
    simp only [fits, if_neg h1, if_neg h2, if_neg h3, if_neg h4, if_neg h5]
    congr 1
    exact decide_eq_decide.2 (by omega)
/-- Are all of them places ahead of i? -/
def ahead (i : Nat) (ks : List Int) : Bool := ks.all fun z => decide (0 ≤ z ∧ z < (i : Int))
/-- The op at a place. -/
def opAt (ps : List Pi) (z : Int) : Int := (ps.getD z.toNat Pi.no).op
theorem all_and (l : List Nat) (p q : Nat → Bool) : l.all (fun k => p k && q k) = (l.all p && l.all q) := by
  induction l with
  | nil => rfl
  | cons a r ih => simp only [List.all_cons, ih]; cases p a <;> cases q a <;> cases r.all p <;> simp
theorem node_is (ps : List Pi) (i : Nat) (op : Int) (t : ByteArray) (ks : List Int) (h : ps.getD i Pi.no = ⟨op, t, ks⟩) : node ps i = (ahead i ks && (decide (1 ≤ op ∧ op ≤ 25) && (text op t.data.toList && counted op (ks.map (opAt ps))))) := by
  have hk : (List.range ks.length).all (kid ps i ⟨op, t, ks⟩) = (ahead i ks && kops op (ks.map (opAt ps))) := by
    have e : kid ps i ⟨op, t, ks⟩ = fun k => decide (0 ≤ ks.getD k 0 ∧ ks.getD k 0 ≤ (i : Int) - 1) && !(kst op k == ex (opAt ps (ks.getD k 0)) || (decide (op = 22) && decide (opAt ps (ks.getD k 0) = 22))) := by
      funext k
      rfl
    rw [e, all_and]
    congr 1
    · rw [all_range ks (fun z => decide (0 ≤ z ∧ z ≤ (i : Int) - 1)), ahead]
      congr 1
      funext z
      exact decide_eq_decide.2 (by omega)
    · unfold kops
      rw [List.length_map]
      rw [Bool.eq_iff_iff, List.all_eq_true, List.all_eq_true]
      have g : ∀ k, k ∈ List.range ks.length → (ks.map (opAt ps)).getD k 0 = opAt ps (ks.getD k 0) := by
        intro k hk
        have hk := List.mem_range.1 hk
        simp [hk]
      constructor
      · intro hh k hm
        rw [g k hm]
        exact hh k hm
      · intro hh k hm
        have := hh k hm
        rw [g k hm] at this
        exact this
  unfold node
  rw [h]
  simp only
  rw [hk, counted_is, List.length_map]
  cases ahead i ks <;> cases decide (1 ≤ op ∧ op ≤ 25) <;> cases text op t.data.toList <;> simp
end Pg
end PartPkA
end Go.Proofs.YtknojhmnadmilaaGreatDoor
