/- The program's rowOf and upTo: how far a text goes on with bytes of a set, or without. The library's IndexAny and ContainsAny, where what is asked for has two bytes or more, all below 128; at every text. -/
import Derived.Test.YtifbgdinjdgdfapGreatDoorZ32
import Derived.Test.YtifbgdinjdgdfapGreatDoorZ34
import Derived.Lib.OthersKept
import Derived.Shelf.Strings.AsciiSet
import Derived.Lib.Builder
import Derived.Lib.IndexAny
namespace Go.Proofs.YtifbgdinjdgdfapGreatDoor
section PartItC
open Go.RowKit

theorem decode_wide (s : ByteArray) (pos : Nat) (hp : pos < s.size) : pos + (Utf8.decode s pos).2 ≤ s.size ∧ ∀ j (h : j < s.size), pos < j → j < pos + (Utf8.decode s pos).2 → 128 ≤ (s[j]'h).toNat := by
  have key : (Utf8.decode s pos).2 = 1 ∨ ((Utf8.decode s pos).2 = 2 ∧ (pos + 1 < s.size ∧ (s.get! (pos + 1)).toNat / 64 = 2)) ∨ ((Utf8.decode s pos).2 = 3 ∧ (pos + 1 < s.size ∧ (s.get! (pos + 1)).toNat / 64 = 2) ∧ (pos + 2 < s.size ∧ (s.get! (pos + 2)).toNat / 64 = 2)) ∨ ((Utf8.decode s pos).2 = 4 ∧ (pos + 1 < s.size ∧ (s.get! (pos + 1)).toNat / 64 = 2) ∧ (pos + 2 < s.size ∧ (s.get! (pos + 2)).toNat / 64 = 2) ∧ (pos + 3 < s.size ∧ (s.get! (pos + 3)).toNat / 64 = 2)) := by
    simp only [Utf8.decode]
    repeat' split
    all_goals simp_all
  have g : ∀ k (h : k < s.size), s.get! k = s[k]'h := fun k h => by
    simp [ByteArray.get!, getElem!_pos, h]
    rfl
  rcases key with e | ⟨e, h1⟩ | ⟨e, h1, h2⟩ | ⟨e, h1, h2, h3⟩
  · rw [e]
    exact ⟨by omega, fun j h a b => by omega⟩
  · rw [e]
    refine ⟨by omega, fun j h a b => ?_⟩
    obtain rfl : j = pos + 1 := by omega
    rw [g _ h] at h1
    omega
  · rw [e]
    refine ⟨by omega, fun j h a b => ?_⟩
    rw [g _ h1.1] at h1
    rw [g _ h2.1] at h2
    rcases (by omega : j = pos + 1 ∨ j = pos + 2) with rfl | rfl <;> omega
  · rw [e]
    refine ⟨by omega, fun j h a b => ?_⟩
    rw [g _ h1.1] at h1
    rw [g _ h2.1] at h2
    rw [g _ h3.1] at h3
    rcases (by omega : j = pos + 1 ∨ j = pos + 2 ∨ j = pos + 3) with rfl | rfl | rfl <;> omega

theorem Asc.not {t : ByteArray} (ha : Asc t) {b : UInt8} (h : 128 ≤ b.toNat) : t.data.toList.contains b = false := by
  cases e : t.data.toList.contains b with
  | false => rfl
  | true =>
    have := ha b (by simpa using e)
    omega
theorem rune_step (s t : ByteArray) (pos : Nat) (hp : pos < s.size) (ha : Asc t) : ∃ r W : Nat, Utf8.decode s pos = (r, W) ∧ r ≤ 2147483647 ∧ 1 ≤ W ∧ pos + W ≤ s.size ∧
    (decide ((r : Int) < 128) && t.data.toList.contains (r : Int).toNat.toUInt8) = t.data.toList.contains s[pos] ∧ ∀ j (h : j < s.size), pos ≤ j → j < pos + W → t.data.toList.contains (s[j]'h) = t.data.toList.contains s[pos] := by
  refine ⟨(Utf8.decode s pos).1, (Utf8.decode s pos).2, rfl, decode_le s pos, ?_, (decode_wide s pos hp).1, ?_, ?_⟩
  · by_cases h : (s[pos]'hp).toNat < 128
    · rw [decode_ascii s pos hp h]; exact Nat.le_refl _
    · exact (decode_high s pos hp (by omega)).2
  · by_cases h : (s[pos]'hp).toNat < 128
    · rw [decode_ascii s pos hp h]
      have : decide (((s[pos]'hp).toNat : Int) < 128) = true := decide_eq_true (by omega)
      simp only [this, Bool.true_and]
      simp
    · have := (decode_high s pos hp (by omega)).1
      rw [decide_eq_false (by omega), ha.not (b := s[pos]) (by omega)]
      rfl
  · intro j h a b
    by_cases hj : j = pos
    · subst hj; rfl
    · by_cases h2 : (s[pos]'hp).toNat < 128
      · rw [decode_ascii s pos hp h2] at b
        simp at b
        omega
      · rw [ha.not (b := s[pos]) (by omega), ha.not ((decode_wide s pos hp).2 j h (by omega) b)]
theorem run_steps (p : UInt8 → Bool) (l : List UInt8) (pos : Nat) : ∀ n, (∀ j, pos ≤ j → j < pos + n → ∃ h : j < l.length, p (l[j]'h) = true) → Tk.run p l pos = Tk.run p l (pos + n) := by
  intro n
  induction n with
  | zero => intro _; rfl
  | succ n ih =>
    intro h
    rw [ih (fun j a b => h j a (by omega))]
    obtain ⟨h1, h2⟩ := h (pos + n) (by omega) (by omega)
    exact Tk.run_step h1 h2
theorem iterPos_at {w : World} {k p : Nat} {s : ByteArray} (h : w.heap[k]? = some (.stringIter s p)) : w.iterPos k = p := by simp [World.iterPos, h]
theorem byte_at (s : ByteArray) (i : Nat) (h : i < s.size) : s.data.toList[i]'(by simpa using h) = s[i] := by
  simp
  rfl

set_option maxRecDepth 100000 in
set_option maxHeartbeats 1000000 in
theorem rowOf_any (s t : ByteArray) (p : UInt8 → Bool) (w : World) (ha : Asc t) (hp : ∀ b, t.data.toList.contains b = p b) :
    Calls Tryz.prog 85 #[.string s, .string t] w fun e w' => e = .returned (.string (tx (s.data.toList.take (Tk.run p s.data.toList 0)))) ∧ Below w.heap.size w w' := by
  have hsl : s.data.toList.length = s.size := by simp
  have HC : Hid (∀ (r : Nat) (w : World), r ≤ 2147483647 → Calls Tryz.prog 111 #[.string t, .int .i32 (r : Int)] w fun e w' => e = .returned (.bool (decide ((r : Int) < 128) && t.data.toList.contains (r : Int).toNat.toUInt8)) ∧ Below w.heap.size w w') := fun r w h => containsRune_any t (r : Int) w ha (by omega) (by omega)
  have HA : Hid (Asc t) := ha
  have HP : Hid (∀ b, t.data.toList.contains b = p b) := hp
  clear ha hp
  go_enter Tryz.func85, Tryz.ntmps85
  go_wp2
  go_loopw [] (fun wr => ∃ pos, wr.heap[w.heap.size]? = some (.stringIter s pos) ∧ Below w.heap.size w wr ∧ pos ≤ s.size ∧ Tk.run p s.data.toList 0 = Tk.run p s.data.toList pos) (fun wr => s.size - wr.iterPos w.heap.size)
  case atStart => exact ⟨0, World.iter_heap w s 0, below_iter w s 0, Nat.zero_le _, rfl⟩
  case round =>
    obtain ⟨pos, hk, hb, hle, hrun⟩ := hrel
    have HR : Hid (Tk.run p s.data.toList 0 = Tk.run p s.data.toList pos) := hrun
    have HB : Hid (Below w.heap.size w wr) := hb
    clear hrun hb
    by_cases hlt : pos < s.size
    · obtain ⟨r, W, hd, hr, hW, hWs, hB, hall⟩ := rune_step s t pos hlt HA.out
      have hnx : ∀ ty, (Instr.next (.pointer (some ⟨w.heap.size, 0, none⟩)) true ty).run Tryz.prog wr = .ok (.tuple #[.bool true, .int .i64 pos, .int .i32 (r : Int)]) (wr.iterAt w.heap.size s (pos + W)) := fun ty => by
        rw [Lib.run_next_any_at wr w.heap.size s pos ty hk hlt, hd]
      have HK : Hid ((wr.iterAt w.heap.size s (pos + W)).heap[w.heap.size]? = some (.stringIter s (pos + W))) := Lib.iterAt_heap wr _ s pos _ hk
      have HK2 : Hid (Below w.heap.size w (wr.iterAt w.heap.size s (pos + W))) := Lib.below_iterAt HB.out (Nat.le_refl _) s _
      have HM : Hid (wr.iterPos w.heap.size = pos) := iterPos_at hk
      obtain ⟨B, hBB⟩ : ∃ B, t.data.toList.contains s[pos] = B := ⟨_, rfl⟩
      have HC2 : Hid (∀ w : World, Calls Tryz.prog 111 #[.string t, .int .i32 (r : Int)] w fun e w' => e = .returned (.bool B) ∧ Below w.heap.size w w') := fun w => by
        have := HC.out r w hr
        rw [hB, hBB] at this
        exact this
      have HALL : Hid (∀ j (h : j < s.size), pos ≤ j → j < pos + W → p (s[j]'h) = B) := fun j h a b => by rw [← HP.out, hall j h a b, hBB]
      have HPP : Hid (p (s[pos]'hlt) = B) := by show _ = _; rw [← HP.out, hBB]
      have i0 : (0 : Int) ≤ (pos : Int) := by omega
      have i1 : (pos : Int) ≤ (s.size : Int) := by omega
      generalize wr.iterAt w.heap.size s (pos + W) = wi at *
      clear hall hBB hB hd hk HC hr
      cases B with
      | true =>
        go_wp2_with (go_at_call 111; refine (HC2.out _).mono ?_; rintro e w2 ⟨rfl, hb2⟩)
        have HK3 : w2.heap[w.heap.size]? = some (.stringIter s (pos + W)) := by
          rw [hb2.block _ (by have := (Array.getElem?_eq_some_iff.1 HK.out).1; exact this)]
          exact HK.out
        go_roundw
        case rel =>
          refine ⟨pos + W, HK3, HK2.out.trans (hb2.mono HK2.out.size), hWs, ?_⟩
          rw [HR.out]
          exact run_steps p _ pos W fun j a b => ⟨by rw [hsl]; omega, by rw [byte_at s j (by omega)]; exact HALL.out j (by omega) a b⟩
        case measure =>
          rw [iterPos_at HK3, HM.out]
          omega
      | false =>
        go_wp2_with (go_at_call 111; refine (HC2.out _).mono ?_; rintro e w2 ⟨rfl, hb2⟩)
        have HT : s.extract 0 pos = tx (s.data.toList.take (Tk.run p s.data.toList 0)) := by
          rw [HR.out, Tk.run_stop (by rw [hsl]; exact hlt) (by rw [byte_at s pos hlt]; exact HPP.out), ext_take]
          rfl
        go_ret
        exact ⟨by rw [← HT]; rfl, HK2.out.trans (hb2.mono HK2.out.size)⟩
    · have hnx : ∀ ty, (Instr.next (.pointer (some ⟨w.heap.size, 0, none⟩)) true ty).run Tryz.prog wr = .ok (.tuple #[.bool false]) wr := fun ty => Lib.run_next_end_at wr w.heap.size s pos ty hk hlt
      have HR2 := HR.out
      rw [Tk.run_end p (l := s.data.toList) (i := pos) (by omega)] at HR2
      have HT : Hid (s = tx (s.data.toList.take (Tk.run p s.data.toList 0))) := by
        show _ = _
        rw [HR2, List.take_of_length_le (by omega)]
      clear HR HR2 hk
      go_wp2
      go_ret
      refine ⟨?_, HB.out⟩
      rw [← HT.out]
      rfl
set_option maxRecDepth 100000 in
set_option maxHeartbeats 1000000 in
theorem upTo_any (s t : ByteArray) (p : UInt8 → Bool) (w : World) (ha : Asc t) (hp : ∀ b, (!t.data.toList.contains b) = p b) :
    Calls Tryz.prog 87 #[.string s, .string t] w fun e w' => e = .returned (.string (tx (s.data.toList.take (Tk.run p s.data.toList 0)))) ∧ Below w.heap.size w w' := by
  have hsl : s.data.toList.length = s.size := by simp
  have HC : Hid (∀ (r : Nat) (w : World), r ≤ 2147483647 → Calls Tryz.prog 111 #[.string t, .int .i32 (r : Int)] w fun e w' => e = .returned (.bool (decide ((r : Int) < 128) && t.data.toList.contains (r : Int).toNat.toUInt8)) ∧ Below w.heap.size w w') := fun r w h => containsRune_any t (r : Int) w ha (by omega) (by omega)
  have HA : Hid (Asc t) := ha
  have HP : Hid (∀ b, (!t.data.toList.contains b) = p b) := hp
  clear ha hp
  go_enter Tryz.func87, Tryz.ntmps87
  go_wp2
  go_loopw [] (fun wr => ∃ pos, wr.heap[w.heap.size]? = some (.stringIter s pos) ∧ Below w.heap.size w wr ∧ pos ≤ s.size ∧ Tk.run p s.data.toList 0 = Tk.run p s.data.toList pos) (fun wr => s.size - wr.iterPos w.heap.size)
  case atStart => exact ⟨0, World.iter_heap w s 0, below_iter w s 0, Nat.zero_le _, rfl⟩
  case round =>
    obtain ⟨pos, hk, hb, hle, hrun⟩ := hrel
    have HR : Hid (Tk.run p s.data.toList 0 = Tk.run p s.data.toList pos) := hrun
    have HB : Hid (Below w.heap.size w wr) := hb
    clear hrun hb
    by_cases hlt : pos < s.size
    · obtain ⟨r, W, hd, hr, hW, hWs, hB, hall⟩ := rune_step s t pos hlt HA.out
      have hnx : ∀ ty, (Instr.next (.pointer (some ⟨w.heap.size, 0, none⟩)) true ty).run Tryz.prog wr = .ok (.tuple #[.bool true, .int .i64 pos, .int .i32 (r : Int)]) (wr.iterAt w.heap.size s (pos + W)) := fun ty => by
        rw [Lib.run_next_any_at wr w.heap.size s pos ty hk hlt, hd]
      have HK : Hid ((wr.iterAt w.heap.size s (pos + W)).heap[w.heap.size]? = some (.stringIter s (pos + W))) := Lib.iterAt_heap wr _ s pos _ hk
      have HK2 : Hid (Below w.heap.size w (wr.iterAt w.heap.size s (pos + W))) := Lib.below_iterAt HB.out (Nat.le_refl _) s _
      have HM : Hid (wr.iterPos w.heap.size = pos) := iterPos_at hk
      obtain ⟨B, hBB⟩ : ∃ B, t.data.toList.contains s[pos] = B := ⟨_, rfl⟩
      have HC2 : Hid (∀ w : World, Calls Tryz.prog 111 #[.string t, .int .i32 (r : Int)] w fun e w' => e = .returned (.bool B) ∧ Below w.heap.size w w') := fun w => by
        have := HC.out r w hr
        rw [hB, hBB] at this
        exact this
      have HALL : Hid (∀ j (h : j < s.size), pos ≤ j → j < pos + W → p (s[j]'h) = !B) := fun j h a b => by rw [← HP.out, hall j h a b, hBB]
      have HPP : Hid (p (s[pos]'hlt) = !B) := by show _ = _; rw [← HP.out, hBB]
      have i0 : (0 : Int) ≤ (pos : Int) := by omega
      have i1 : (pos : Int) ≤ (s.size : Int) := by omega
      generalize wr.iterAt w.heap.size s (pos + W) = wi at *
      clear hall hBB hB hd hk HC hr
      cases B with
      | false =>
        go_wp2_with (go_at_call 111; refine (HC2.out _).mono ?_; rintro e w2 ⟨rfl, hb2⟩)
        have HK3 : w2.heap[w.heap.size]? = some (.stringIter s (pos + W)) := by
          rw [hb2.block _ (by have := (Array.getElem?_eq_some_iff.1 HK.out).1; exact this)]
          exact HK.out
        go_roundw
        case rel =>
          refine ⟨pos + W, HK3, HK2.out.trans (hb2.mono HK2.out.size), hWs, ?_⟩
          rw [HR.out]
          exact run_steps p _ pos W fun j a b => ⟨by rw [hsl]; omega, by rw [byte_at s j (by omega)]; exact HALL.out j (by omega) a b⟩
        case measure =>
          rw [iterPos_at HK3, HM.out]
          omega
      | true =>
        go_wp2_with (go_at_call 111; refine (HC2.out _).mono ?_; rintro e w2 ⟨rfl, hb2⟩)
        have HT : s.extract 0 pos = tx (s.data.toList.take (Tk.run p s.data.toList 0)) := by
          rw [HR.out, Tk.run_stop (by rw [hsl]; exact hlt) (by rw [byte_at s pos hlt]; exact HPP.out), ext_take]
          rfl
        go_ret
        exact ⟨by rw [← HT]; rfl, HK2.out.trans (hb2.mono HK2.out.size)⟩
    · have hnx : ∀ ty, (Instr.next (.pointer (some ⟨w.heap.size, 0, none⟩)) true ty).run Tryz.prog wr = .ok (.tuple #[.bool false]) wr := fun ty => Lib.run_next_end_at wr w.heap.size s pos ty hk hlt
      have HR2 := HR.out
      rw [Tk.run_end p (l := s.data.toList) (i := pos) (by omega)] at HR2
      have HT : Hid (s = tx (s.data.toList.take (Tk.run p s.data.toList 0))) := by
        show _ = _
        rw [HR2, List.take_of_length_le (by omega)]
      clear HR HR2 hk
      go_wp2
      go_ret
      refine ⟨?_, HB.out⟩
      rw [← HT.out]
      rfl
end PartItC
section PartCaA
open Go.Shelf
def Tryz.lays227_ren : Go.Shelf.Ren := ⟨fun | 227 => 159 | 228 => 160 | n => n, fun | 116 => 204 | 124 => 211 | n => n, fun | n => n⟩
set_option maxRecDepth 100000 in
theorem Tryz.lays227 : Go.Proofs.Lays.n227 Tryz.prog Tryz.lays227_ren := {
  mixed := by kernel_rfl
  f227 := Tryz.func159.trans (congrArg some (by kernel_rfl))
  t0 := Tryz.underlying0
  a0 := Tryz.isAgg0
  z0 := Tryz.sizeOf0
  v0 := Tryz.zeroValue0
  t3 := Tryz.underlying3
  a3 := Tryz.isAgg3
  z3 := Tryz.sizeOf3
  v3 := Tryz.zeroValue3
  t4 := Tryz.underlying4
  a4 := Tryz.isAgg4
  z4 := Tryz.sizeOf4
  v4 := Tryz.zeroValue4
  t5 := Tryz.underlying5
  a5 := Tryz.isAgg5
  z5 := Tryz.sizeOf5
  v5 := Tryz.zeroValue5
  t9 := Tryz.underlying9
  a9 := Tryz.isAgg9
  z9 := Tryz.sizeOf9
  v9 := Tryz.zeroValue9
  t116 := Tryz.underlying204
  a116 := Tryz.isAgg204
  z116 := Tryz.sizeOf204 }
set_option maxRecDepth 100000 in
theorem Tryz.lays228 : Go.Proofs.Lays.n228 Tryz.prog Tryz.lays227_ren := {
  mixed := by kernel_rfl
  f228 := Tryz.func160.trans (congrArg some (by kernel_rfl))
  t0 := Tryz.underlying0
  a0 := Tryz.isAgg0
  z0 := Tryz.sizeOf0
  v0 := Tryz.zeroValue0
  t4 := Tryz.underlying4
  a4 := Tryz.isAgg4
  z4 := Tryz.sizeOf4
  v4 := Tryz.zeroValue4
  t5 := Tryz.underlying5
  a5 := Tryz.isAgg5
  z5 := Tryz.sizeOf5
  v5 := Tryz.zeroValue5
  t116 := Tryz.underlying204
  a116 := Tryz.isAgg204
  z116 := Tryz.sizeOf204
  t124 := Tryz.underlying211
  a124 := Tryz.isAgg211
  z124 := Tryz.sizeOf211
  v124 := Tryz.zeroValue211 }
open Go.RowKit

set_option maxRecDepth 100000 in
theorem asetInfo : (Tryz.prog.info? 204).map (fun i => (i.zero, i.size)) = some (some (.agg (Array.replicate 256 (.bool false))), 256) := by kernel_rfl
theorem asetZero (w : World) : (zeroValue 204).run Tryz.prog w = .ok (.agg (Array.replicate 256 (.bool false))) w := (zero_of_info asetInfo).1 w
theorem asetSize : (Tryz.prog.info? 204).map (·.size) = some 256 := (zero_of_info asetInfo).2

set_option maxHeartbeats 400000 in
theorem useSet_any (n : Int) (w : World) : Calls Tryz.prog 158 #[.int .i64 n] w fun e w' => e = .returned (.bool (decide (8 < n))) ∧ w' = w := by
  go_enter Tryz.func158, Tryz.ntmps158
  go_wp2
  go_ret
  exact ⟨rfl, rfl⟩

/-- Has a text one of the bytes? -/
def anyOf (s t : ByteArray) : Bool := s.data.toList.any fun b => t.data.toList.contains b
theorem anyOf_yes {s t : ByteArray} {i : Nat} (h : i < s.size) (hc : t.data.toList.contains s[i] = true) : anyOf s t = true := by
  unfold anyOf
  rw [List.any_eq_true]
  exact ⟨s[i], by show s.data[i] ∈ s.data.toList; exact Array.getElem_mem_toList _, hc⟩
theorem anyOf_no {s t : ByteArray} (h : ∀ i, ∀ h : i < s.size, t.data.toList.contains s[i] = false) : anyOf s t = false := by
  unfold anyOf
  rw [List.any_eq_false]
  intro x hx
  obtain ⟨i, hi, rfl⟩ := List.getElem_of_mem hx
  have := h i (by simpa using hi)
  rw [byte_at s i (by simpa using hi), this]
  simp

set_option maxRecDepth 100000 in
set_option maxHeartbeats 2000000 in
theorem indexAny_short (s t : ByteArray) (w : World) (ha : Asc t) (h2 : 2 ≤ t.size) (h8 : s.size ≤ 8) :
    Calls Tryz.prog 140 #[.string s, .string t] w fun e w' => (∃ r : Int, e = .returned (.int .i64 r) ∧ decide (0 ≤ r) = anyOf s t) ∧ Below w.heap.size w w' := by
  have hsl : s.data.toList.length = s.size := by simp
  have HC : Hid (∀ (r : Nat) (w : World), r ≤ 2147483647 → Calls Tryz.prog 128 #[.string t, .int .i32 (r : Int)] w fun e w' => (∃ z : Int, e = .returned (.int .i64 z) ∧ decide (0 ≤ z) = (decide ((r : Int) < 128) && t.data.toList.contains (r : Int).toNat.toUInt8)) ∧ Below w.heap.size w w') := fun r w h => by
    by_cases hl : (r : Int) < 128
    · refine (indexRune_low t (r : Int) w (by omega) hl).mono ?_
      rintro e w' ⟨rfl, rfl⟩
      exact ⟨⟨_, rfl, by rw [indexByte_contains, decide_eq_true hl, Bool.true_and]⟩, Below.refl _ _⟩
    · refine (indexRune_high t (r : Int) w ha (by omega) (by omega)).mono ?_
      rintro e w' ⟨rfl, hb⟩
      exact ⟨⟨_, rfl, by rw [decide_eq_false hl]; rfl⟩, hb⟩
  have HU : Hid (∀ w : World, Calls Tryz.prog 158 #[.int .i64 (s.size : Int)] w fun e w' => e = .returned (.bool false) ∧ w' = w) := fun w => by
    have := useSet_any (s.size : Int) w
    rwa [decide_eq_false (by omega)] at this
  have hemp : t.toList.isEmpty = false := by
    rw [Lib.toList_data]
    cases h : t.data.toList with
    | nil => have := Lib.size_eq t; rw [h, List.length_nil] at this; omega
    | cons _ _ => rfl
  have hn1 : ((t.size : Int) == 1) = false := beq_eq_false_iff_ne.2 (by omega)
  have HA : Hid (Asc t) := ha
  clear ha
  go_enter Tryz.func140, Tryz.ntmps140
  go_wp2_with (go_at_call 158; refine (HU.out _).mono ?_; rintro e w1 ⟨rfl, hw1⟩; rw [hw1])
  go_loopw [] (fun wr => ∃ pos, wr.heap[w.heap.size]? = some (.stringIter s pos) ∧ Below w.heap.size w wr ∧ pos ≤ s.size ∧ Hid (∀ i, ∀ h : i < s.size, i < pos → t.data.toList.contains s[i] = false)) (fun wr => s.size - wr.iterPos w.heap.size)
  case atStart => exact ⟨0, World.iter_heap w s 0, below_iter w s 0, Nat.zero_le _, fun i _ h => by omega⟩
  case round =>
    obtain ⟨pos, hk, hb, hle, HR⟩ := hrel
    have HB : Hid (Below w.heap.size w wr) := hb
    clear hb
    by_cases hlt : pos < s.size
    · obtain ⟨r, W, hd, hr, hW, hWs, hB, hall⟩ := rune_step s t pos hlt HA.out
      have hnx : ∀ ty, (Instr.next (.pointer (some ⟨w.heap.size, 0, none⟩)) true ty).run Tryz.prog wr = .ok (.tuple #[.bool true, .int .i64 pos, .int .i32 (r : Int)]) (wr.iterAt w.heap.size s (pos + W)) := fun ty => by
        rw [Lib.run_next_any_at wr w.heap.size s pos ty hk hlt, hd]
      have HK : Hid ((wr.iterAt w.heap.size s (pos + W)).heap[w.heap.size]? = some (.stringIter s (pos + W))) := Lib.iterAt_heap wr _ s pos _ hk
      have HK2 : Hid (Below w.heap.size w (wr.iterAt w.heap.size s (pos + W))) := Lib.below_iterAt HB.out (Nat.le_refl _) s _
      have HM : Hid (wr.iterPos w.heap.size = pos) := iterPos_at hk
      obtain ⟨B, hBB⟩ : ∃ B, t.data.toList.contains s[pos] = B := ⟨_, rfl⟩
      have HC2 : Hid (∀ w : World, Calls Tryz.prog 128 #[.string t, .int .i32 (r : Int)] w fun e w' => (∃ z : Int, e = .returned (.int .i64 z) ∧ decide (0 ≤ z) = B) ∧ Below w.heap.size w w') := fun w => by
        have := HC.out r w hr
        rw [hB, hBB] at this
        exact this
      have HALL : Hid (∀ j (h : j < s.size), pos ≤ j → j < pos + W → t.data.toList.contains (s[j]'h) = B) := fun j h a b => by rw [hall j h a b, hBB]
      have HPP : Hid (t.data.toList.contains (s[pos]'hlt) = B) := hBB
      generalize wr.iterAt w.heap.size s (pos + W) = wi at *
      clear hall hBB hB hd hk HC hr
      cases B with
      | true =>
        have HV : Hid (anyOf s t = true) := anyOf_yes hlt HPP.out
        clear HPP HALL
        go_wp2_with (go_at_call 128; refine (HC2.out _).mono ?_; rintro e w2 ⟨⟨z, rfl, hz⟩, hb2⟩)
        go_ret
        exact ⟨⟨_, rfl, by rw [HV.out]; exact decide_eq_true (by omega)⟩, HK2.out.trans (hb2.mono HK2.out.size)⟩
      | false =>
        go_wp2_with (go_at_call 128; refine (HC2.out _).mono ?_; rintro e w2 ⟨⟨z, rfl, hz⟩, hb2⟩)
        have HK3 : w2.heap[w.heap.size]? = some (.stringIter s (pos + W)) := by
          rw [hb2.block _ (by have := (Array.getElem?_eq_some_iff.1 HK.out).1; exact this)]
          exact HK.out
        go_roundw
        case rel =>
          refine ⟨pos + W, HK3, HK2.out.trans (hb2.mono HK2.out.size), hWs, fun i h hi => ?_⟩
          by_cases h' : i < pos
          · exact HR.out i h h'
          · exact HALL.out i h (by omega) hi
        case measure =>
          rw [iterPos_at HK3, HM.out]
          omega
    · have hnx : ∀ ty, (Instr.next (.pointer (some ⟨w.heap.size, 0, none⟩)) true ty).run Tryz.prog wr = .ok (.tuple #[.bool false]) wr := fun ty => Lib.run_next_end_at wr w.heap.size s pos ty hk hlt
      have HV : Hid (anyOf s t = false) := anyOf_no fun i h => HR.out i h (by omega)
      clear HR hk
      go_wp2
      go_ret
      exact ⟨⟨_, rfl, by rw [HV.out]; rfl⟩, HB.out⟩

set_option maxHeartbeats 8000000 in
set_option maxRecDepth 1000000 in
theorem indexAny_long (s t : ByteArray) (w : World) (ha : Asc t) (h2 : 2 ≤ t.size) (h8 : 8 < s.size) (hs : s.size ≤ 1048576) (ht : t.size ≤ 1048576) :
    Calls Tryz.prog 140 #[.string s, .string t] w fun e w' => (∃ r : Int, e = .returned (.int .i64 r) ∧ decide (0 ≤ r) = anyOf s t) ∧ Below w.heap.size w w' := by
  have HM : Hid (Calls Tryz.prog 159 #[.string t] w fun e w' => e = .returned (.tuple #[.agg (Lib.setCells t.data.toList), .bool true]) ∧ w' = w.alloc (.cells (Lib.setCells t.data.toList) 204)) :=
    Any.strings_makeASCIISet Tryz.lays227 asetZero asetSize t w (by omega) (fun j b hb => ha b (List.mem_of_getElem? hb))
  have HX : Hid (∀ (b : Nat) (x : UInt8) (v : Bool) (w : World), w.cell? ⟨b, x.toNat, none⟩ = some (.bool v) → Calls Tryz.prog 160 #[.pointer (some ⟨b, 0, none⟩), .int .u8 x.toNat] w fun e w' => e = .returned (.bool v) ∧ w' = w) := fun b x v w h => Any.asciiSet_contains Tryz.lays228 b x v w h
  have HU : Hid (∀ w : World, Calls Tryz.prog 158 #[.int .i64 (s.size : Int)] w fun e w' => e = .returned (.bool true) ∧ w' = w) := fun w => by
    have := useSet_any (s.size : Int) w
    rwa [decide_eq_true (by omega)] at this
  have hemp : t.toList.isEmpty = false := by
    rw [Lib.toList_data]
    cases h : t.data.toList with
    | nil => have := Lib.size_eq t; rw [h, List.length_nil] at this; omega
    | cons _ _ => rfl
  have hn1 : ((t.size : Int) == 1) = false := beq_eq_false_iff_ne.2 (by omega)
  have hsc : (storeCells ⟨w.heap.size + 1, 0, none⟩ (Lib.setCells t.data.toList).toList 0).run Tryz.prog ((w.alloc (.cells (Lib.setCells t.data.toList) 204)).alloc (.cells Tryz.zeroCells204 204)) = .ok () ((w.alloc (.cells (Lib.setCells t.data.toList) 204)).alloc (.cells (Lib.setCells t.data.toList) 204)) := by
    have := run_storeCells_new (P := Tryz.prog) (w.alloc (.cells (Lib.setCells t.data.toList) 204)) 204 Tryz.zeroCells204 (Lib.setCells t.data.toList) (by rw [Lib.setCells_size]; exact asetSize) (by rw [Lib.setCells_size]; kernel_rfl) (Lib.setCells_one _)
    simpa using this
  have HCL : Hid (∀ x : UInt8, ((w.alloc (.cells (Lib.setCells t.data.toList) 204)).alloc (.cells (Lib.setCells t.data.toList) 204)).cell? ⟨w.heap.size + 1, x.toNat, none⟩ = some (.bool (t.data.toList.contains x))) := fun x => by
    rw [World.cell?_alloc_at _ _ _ _ (by simp), Lib.setCells_at]
  have HBB : Hid (Below w.heap.size w ((w.alloc (.cells (Lib.setCells t.data.toList) 204)).alloc (.cells (Lib.setCells t.data.toList) 204))) := ((Below.refl _ _).alloc (Nat.le_refl _) _).alloc (by simp) _
  have hsz := Lib.setCells_size t.data.toList
  go_enter Tryz.func140, Tryz.ntmps140
  go_wp2_with (first
    | (go_at_call 158; refine (HU.out _).mono ?_; rintro e w1 ⟨rfl, hw1⟩; rw [hw1])
    | (go_at_call 159; refine HM.out.mono ?_; rintro e w1 ⟨rfl, hw1⟩; rw [hw1]))
  clear HM hsc hsz hemp hn1 HU
  generalize (w.alloc (.cells (Lib.setCells t.data.toList) 204)).alloc (.cells (Lib.setCells t.data.toList) 204) = W0 at *
  go_loopw [8] (fun i wr => ∃ k : Nat, i = .int .i64 (k : Int) ∧ k ≤ s.size ∧ wr = W0 ∧ Hid (∀ i, ∀ h : i < s.size, i < k → t.data.toList.contains s[i] = false)) (fun i _ => s.size - (intOf i).toNat)
  case atStart => exact ⟨0, rfl, by omega, rfl, fun i _ h => by omega⟩
  case round =>
    obtain ⟨k, rfl, hk, rfl, HR⟩ := hrel
    by_cases hlt : k < s.size
    · have i1 : (k : Int) < (s.size : Int) := by omega
      obtain ⟨x, hx⟩ : ∃ x : UInt8, s[k]'hlt = x := ⟨_, rfl⟩
      have hcx := HCL.out x
      have HXX : Hid (t.data.toList.contains (s[k]'hlt) = t.data.toList.contains x) := by rw [hx]; exact rfl
      obtain ⟨B, hB⟩ : ∃ B, t.data.toList.contains x = B := ⟨_, rfl⟩
      rw [hB] at hcx HXX
      have HC2 : Hid (Calls Tryz.prog 160 #[.pointer (some ⟨w.heap.size + 1, 0, none⟩), .int .u8 x.toNat] wr fun e w' => e = .returned (.bool B) ∧ w' = wr) := HX.out _ x B wr hcx
      clear hB hcx HCL HX
      cases B with
      | true =>
        have HV : Hid (anyOf s t = true) := anyOf_yes hlt HXX.out
        clear HXX HR
        go_wp2_with (go_at_call 160; refine HC2.out.mono ?_; rintro e w2 ⟨rfl, hw2⟩; rw [hw2])
        go_ret
        exact ⟨⟨_, rfl, by rw [HV.out]; exact decide_eq_true (by omega)⟩, HBB.out⟩
      | false =>
        go_wp2_with (go_at_call 160; refine HC2.out.mono ?_; rintro e w2 ⟨rfl, hw2⟩; rw [hw2])
        go_roundw
        case rel =>
          refine ⟨k + 1, by go_num, by omega, by first | rfl | trivial, fun i h hi => ?_⟩
          by_cases h' : i = k
          · subst h'; exact HXX.out
          · exact HR.out i h (by omega)
        case measure => simp [intOf]; omega
    · have HV : Hid (anyOf s t = false) := anyOf_no fun i h => HR.out i h (by omega)
      clear HR HX HCL
      have i1 : ¬ ((k : Int) < (s.size : Int)) := by omega
      go_wp2
      go_ret
      exact ⟨⟨_, rfl, by rw [HV.out]; rfl⟩, HBB.out⟩

set_option maxRecDepth 100000 in
set_option maxHeartbeats 400000 in
theorem containsAny_any (s t : ByteArray) (w : World) (ha : Asc t) (h2 : 2 ≤ t.size) (hs : s.size ≤ 1048576) (ht : t.size ≤ 1048576) :
    Calls Tryz.prog 121 #[.string s, .string t] w fun e w' => e = .returned (.bool (anyOf s t)) ∧ Below w.heap.size w w' := by
  have C : Hid (Calls Tryz.prog 140 #[.string s, .string t] w fun e w' => (∃ r : Int, e = .returned (.int .i64 r) ∧ decide (0 ≤ r) = anyOf s t) ∧ Below w.heap.size w w') := by
    by_cases h8 : s.size ≤ 8
    · exact indexAny_short s t w ha h2 h8
    · exact indexAny_long s t w ha h2 (by omega) hs ht
  go_enter Tryz.func121, Tryz.ntmps121
  go_wp2_with fail
  refine C.out.mono ?_
  rintro e w' ⟨⟨r, rfl, hr⟩, hb⟩
  have HR : Hid (decide (0 ≤ r) = anyOf s t) := hr
  clear hr
  go_wp2
  go_ret
  exact ⟨by rw [← HR.out]; rfl, hb⟩
end PartCaA
end Go.Proofs.YtifbgdinjdgdfapGreatDoor
