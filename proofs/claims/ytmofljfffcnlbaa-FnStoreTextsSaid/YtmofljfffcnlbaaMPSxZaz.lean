/- The program's rowOf and upTo: how far a text goes on with bytes of a set, or without. HasPrefix and Contains laid at this program; the sets; the program's behindGaps. 1 to 8 letters: isOfLetters. When a store is right: the program's StoreOk. -/
import Derived.Test.YtmofljfffcnlbaaMPSxItB
import Derived.Test.YtmofljfffcnlbaaMPSxZay
import Derived.Lib.OthersKept
import Derived.Laws.Strings3
import Derived.Lib.Strings
import Derived.Test.YtmofljfffcnlbaaMPSxOkC
namespace Go.Proofs.Ytmofljfffcnlbaa
section PartItC
open Go.RowKit

theorem decode_wide (s : ByteArray) (pos : Nat) (hp : pos < s.size) : pos + (Utf8.decode s pos).2 ≤ s.size ∧ ∀ j (h : j < s.size), pos < j → j < pos + (Utf8.decode s pos).2 → 128 ≤ (s[j]'h).toNat := by
  have key : (Utf8.decode s pos).2 = 1 ∨ ((Utf8.decode s pos).2 = 2 ∧ (pos + 1 < s.size ∧ (s.get! (pos + 1)).toNat / 64 = 2)) ∨ ((Utf8.decode s pos).2 = 3 ∧ (pos + 1 < s.size ∧ (s.get! (pos + 1)).toNat / 64 = 2) ∧ (pos + 2 < s.size ∧ (s.get! (pos + 2)).toNat / 64 = 2)) ∨ ((Utf8.decode s pos).2 = 4 ∧ (pos + 1 < s.size ∧ (s.get! (pos + 1)).toNat / 64 = 2) ∧ (pos + 2 < s.size ∧ (s.get! (pos + 2)).toNat / 64 = 2) ∧ (pos + 3 < s.size ∧ (s.get! (pos + 3)).toNat / 64 = 2)) := by
    simp only [Utf8.decode]
    repeat' split
    all_goals simp_all
  have g : ∀ k (h : k < s.size), s.get! k = s[k]'h := fun k h => by
    simp [ByteArray.get!, getElem!_pos, h]
    rfl
  rcases key with e | ⟨e, h1⟩ | ⟨e, h1, h2⟩ | ⟨e, h1, h2, h3⟩
  · rw [e]
    exact ⟨by omega, fun j h a b => by omega⟩
  · rw [e]
    refine ⟨by omega, fun j h a b => ?_⟩
    obtain rfl : j = pos + 1 := by omega
    rw [g _ h] at h1
    omega
  · rw [e]
    refine ⟨by omega, fun j h a b => ?_⟩
    rw [g _ h1.1] at h1
    rw [g _ h2.1] at h2
    rcases (by omega : j = pos + 1 ∨ j = pos + 2) with rfl | rfl <;> omega
  · rw [e]
    refine ⟨by omega, fun j h a b => ?_⟩
    rw [g _ h1.1] at h1
    rw [g _ h2.1] at h2
    rw [g _ h3.1] at h3
    rcases (by omega : j = pos + 1 ∨ j = pos + 2 ∨ j = pos + 3) with rfl | rfl | rfl <;> omega

theorem Asc.not {t : ByteArray} (ha : Asc t) {b : UInt8} (h : 128 ≤ b.toNat) : t.data.toList.contains b = false := by
  cases e : t.data.toList.contains b with
  | false => rfl
  | true =>
    have := ha b (by simpa using e)
    omega
theorem rune_step (s t : ByteArray) (pos : Nat) (hp : pos < s.size) (ha : Asc t) : ∃ r W : Nat, Utf8.decode s pos = (r, W) ∧ r ≤ 2147483647 ∧ 1 ≤ W ∧ pos + W ≤ s.size ∧
    (decide ((r : Int) < 128) && t.data.toList.contains (r : Int).toNat.toUInt8) = t.data.toList.contains s[pos] ∧ ∀ j (h : j < s.size), pos ≤ j → j < pos + W → t.data.toList.contains (s[j]'h) = t.data.toList.contains s[pos] := by
  refine ⟨(Utf8.decode s pos).1, (Utf8.decode s pos).2, rfl, decode_le s pos, ?_, (decode_wide s pos hp).1, ?_, ?_⟩
  · by_cases h : (s[pos]'hp).toNat < 128
    · rw [decode_ascii s pos hp h]; exact Nat.le_refl _
    · exact (decode_high s pos hp (by omega)).2
  · by_cases h : (s[pos]'hp).toNat < 128
    · rw [decode_ascii s pos hp h]
      have : decide (((s[pos]'hp).toNat : Int) < 128) = true := decide_eq_true (by omega)
      simp only [this, Bool.true_and]
      simp
    · have := (decode_high s pos hp (by omega)).1
      rw [decide_eq_false (by omega), ha.not (b := s[pos]) (by omega)]
      rfl
  · intro j h a b
    by_cases hj : j = pos
    · subst hj; rfl
    · by_cases h2 : (s[pos]'hp).toNat < 128
      · rw [decode_ascii s pos hp h2] at b
        simp at b
        omega
      · rw [ha.not (b := s[pos]) (by omega), ha.not ((decode_wide s pos hp).2 j h (by omega) b)]
theorem run_steps (p : UInt8 → Bool) (l : List UInt8) (pos : Nat) : ∀ n, (∀ j, pos ≤ j → j < pos + n → ∃ h : j < l.length, p (l[j]'h) = true) → Tk.run p l pos = Tk.run p l (pos + n) := by
  intro n
  induction n with
  | zero => intro _; rfl
  | succ n ih =>
    intro h
    rw [ih (fun j a b => h j a (by omega))]
    obtain ⟨h1, h2⟩ := h (pos + n) (by omega) (by omega)
    exact Tk.run_step h1 h2
theorem iterPos_at {w : World} {k p : Nat} {s : ByteArray} (h : w.heap[k]? = some (.stringIter s p)) : w.iterPos k = p := by simp [World.iterPos, h]
theorem byte_at (s : ByteArray) (i : Nat) (h : i < s.size) : s.data.toList[i]'(by simpa using h) = s[i] := by
  simp
  rfl

set_option maxRecDepth 100000 in
set_option maxHeartbeats 1000000 in
theorem rowOf_any (s t : ByteArray) (p : UInt8 → Bool) (w : World) (ha : Asc t) (hp : ∀ b, t.data.toList.contains b = p b) :
    Calls Try.prog 56 #[.string s, .string t] w fun e w' => e = .returned (.string (tx (s.data.toList.take (Tk.run p s.data.toList 0)))) ∧ Below w.heap.size w w' := by
  have hsl : s.data.toList.length = s.size := by simp
  have HC : Hid (∀ (r : Nat) (w : World), r ≤ 2147483647 → Calls Try.prog 63 #[.string t, .int .i32 (r : Int)] w fun e w' => e = .returned (.bool (decide ((r : Int) < 128) && t.data.toList.contains (r : Int).toNat.toUInt8)) ∧ Below w.heap.size w w') := fun r w h => containsRune_any t (r : Int) w ha (by omega) (by omega)
  have HA : Hid (Asc t) := ha
  have HP : Hid (∀ b, t.data.toList.contains b = p b) := hp
  clear ha hp
  go_enter Try.func56, Try.ntmps56
  go_wp2
  go_loopw [] (fun wr => ∃ pos, wr.heap[w.heap.size]? = some (.stringIter s pos) ∧ Below w.heap.size w wr ∧ pos ≤ s.size ∧ Tk.run p s.data.toList 0 = Tk.run p s.data.toList pos) (fun wr => s.size - wr.iterPos w.heap.size)
  case atStart => exact ⟨0, World.iter_heap w s 0, below_iter w s 0, Nat.zero_le _, rfl⟩
  case round =>
    obtain ⟨pos, hk, hb, hle, hrun⟩ := hrel
    have HR : Hid (Tk.run p s.data.toList 0 = Tk.run p s.data.toList pos) := hrun
    have HB : Hid (Below w.heap.size w wr) := hb
    clear hrun hb
    by_cases hlt : pos < s.size
    · obtain ⟨r, W, hd, hr, hW, hWs, hB, hall⟩ := rune_step s t pos hlt HA.out
      have hnx : ∀ ty, (Instr.next (.pointer (some ⟨w.heap.size, 0, none⟩)) true ty).run Try.prog wr = .ok (.tuple #[.bool true, .int .i64 pos, .int .i32 (r : Int)]) (wr.iterAt w.heap.size s (pos + W)) := fun ty => by
        rw [Lib.run_next_any_at wr w.heap.size s pos ty hk hlt, hd]
      have HK : Hid ((wr.iterAt w.heap.size s (pos + W)).heap[w.heap.size]? = some (.stringIter s (pos + W))) := Lib.iterAt_heap wr _ s pos _ hk
      have HK2 : Hid (Below w.heap.size w (wr.iterAt w.heap.size s (pos + W))) := Lib.below_iterAt HB.out (Nat.le_refl _) s _
      have HM : Hid (wr.iterPos w.heap.size = pos) := iterPos_at hk
      obtain ⟨B, hBB⟩ : ∃ B, t.data.toList.contains s[pos] = B := ⟨_, rfl⟩
      have HC2 : Hid (∀ w : World, Calls Try.prog 63 #[.string t, .int .i32 (r : Int)] w fun e w' => e = .returned (.bool B) ∧ Below w.heap.size w w') := fun w => by
        have := HC.out r w hr
        rw [hB, hBB] at this
        exact this
      have HALL : Hid (∀ j (h : j < s.size), pos ≤ j → j < pos + W → p (s[j]'h) = B) := fun j h a b => by rw [← HP.out, hall j h a b, hBB]
      have HPP : Hid (p (s[pos]'hlt) = B) := by show _ = _; rw [← HP.out, hBB]
      have i0 : (0 : Int) ≤ (pos : Int) := by omega
      have i1 : (pos : Int) ≤ (s.size : Int) := by omega
      generalize wr.iterAt w.heap.size s (pos + W) = wi at *
      clear hall hBB hB hd hk HC hr
      cases B with
      | true =>
        go_wp2_with (go_at_call 63; refine (HC2.out _).mono ?_; rintro e w2 ⟨rfl, hb2⟩)
        have HK3 : w2.heap[w.heap.size]? = some (.stringIter s (pos + W)) := by
          rw [hb2.block _ (by have := (Array.getElem?_eq_some_iff.1 HK.out).1; exact this)]
          exact HK.out
        go_roundw
        case rel =>
          refine ⟨pos + W, HK3, HK2.out.trans (hb2.mono HK2.out.size), hWs, ?_⟩
          rw [HR.out]
          exact run_steps p _ pos W fun j a b => ⟨by rw [hsl]; omega, by rw [byte_at s j (by omega)]; exact HALL.out j (by omega) a b⟩
        case measure =>
          rw [iterPos_at HK3, HM.out]
          omega
      | false =>
        go_wp2_with (go_at_call 63; refine (HC2.out _).mono ?_; rintro e w2 ⟨rfl, hb2⟩)
        have HT : s.extract 0 pos = tx (s.data.toList.take (Tk.run p s.data.toList 0)) := by
          rw [HR.out, Tk.run_stop (by rw [hsl]; exact hlt) (by rw [byte_at s pos hlt]; exact HPP.out), ext_take]
          rfl
        go_ret
        exact ⟨by rw [← HT]; rfl, HK2.out.trans (hb2.mono HK2.out.size)⟩
    · have hnx : ∀ ty, (Instr.next (.pointer (some ⟨w.heap.size, 0, none⟩)) true ty).run Try.prog wr = .ok (.tuple #[.bool false]) wr := fun ty => Lib.run_next_end_at wr w.heap.size s pos ty hk hlt
      have HR2 := HR.out
      rw [Tk.run_end p (l := s.data.toList) (i := pos) (by omega)] at HR2
      have HT : Hid (s = tx (s.data.toList.take (Tk.run p s.data.toList 0))) := by
        show _ = _
        rw [HR2, List.take_of_length_le (by omega)]
      clear HR HR2 hk
      go_wp2
      go_ret
      refine ⟨?_, HB.out⟩
      rw [← HT.out]
      rfl
end PartItC
section PartItD
open Go.RowKit


/-! The sets of the program -/
def setLetters : ByteArray := ⟨#[97, 98, 99, 100, 101, 102, 103, 104, 105, 106, 107, 108, 109, 110, 111, 112, 113, 114, 115, 116, 117, 118, 119, 120, 121, 122, 65, 66, 67, 68, 69, 70, 71, 72, 73, 74, 75, 76, 77, 78, 79, 80, 81, 82, 83, 84, 85, 86, 87, 88, 89, 90]⟩
theorem byte_all {p : UInt8 → Bool} (h : ∀ n : Fin 256, p (UInt8.ofNat n.val) = true) (b : UInt8) : p b = true := by
  have := h ⟨b.toNat, b.toNat_lt⟩
  simpa using this
set_option maxRecDepth 100000 in
theorem letters_is (b : UInt8) : setLetters.data.toList.contains b = Tk.letter b := by
  have := byte_all (p := fun b => setLetters.data.toList.contains b == Tk.letter b) (by decide) b
  simpa using this
theorem asc_letters : Asc setLetters := by unfold Asc; decide

end PartItD
section PartPkN
open Go.RowKit

theorem take_all (p : UInt8 → Bool) : ∀ l : List UInt8, (l.takeWhile p).length = l.length ↔ l.all p = true
  | [] => by simp
  | b :: r => by
    cases h : p b
    · simp [h]
    · simp [h, take_all p r]
theorem row_same (p : UInt8 → Bool) (s : ByteArray) : ((tx (s.data.toList.take (Tk.run p s.data.toList 0))).toList == s.toList) = s.data.toList.all p := by
  rw [Lib.toList_data, Lib.toList_data]
  have e : Tk.run p s.data.toList 0 = (s.data.toList.takeWhile p).length := by simp [Tk.run]
  have e2 : (tx (s.data.toList.take (Tk.run p s.data.toList 0))).data.toList = s.data.toList.take (Tk.run p s.data.toList 0) := by simp
  rw [e2, e]
  generalize s.data.toList = l
  rw [Bool.eq_iff_iff, beq_iff_eq, ← take_all]
  constructor
  · intro h
    have h2 := congrArg List.length h
    rw [List.length_take] at h2
    have := (List.takeWhile_prefix p (l := l)).length_le
    omega
  · intro h
    rw [h, List.take_length]

set_option maxRecDepth 100000 in
set_option maxHeartbeats 1600000 in
/-- 1 to 8 letters. -/
theorem isOf_any (s : ByteArray) (w : World) : Calls Try.prog 36 #[.string s] w fun e w' => e = .returned (.bool (s.data.toList.all Tk.letter && decide (1 ≤ s.data.toList.length ∧ s.data.toList.length ≤ 8))) ∧ Below w.heap.size w w' := by
  obtain ⟨A, hA⟩ : ∃ A, A = s.data.toList.all Tk.letter := ⟨_, rfl⟩
  have hsl : s.data.toList.length = s.size := by simp
  obtain ⟨V, hV⟩ : ∃ V, V = (A && decide (1 ≤ s.size ∧ s.size ≤ 8)) := ⟨_, rfl⟩
  have HV : Hid (V = (A && decide (1 ≤ s.size ∧ s.size ≤ 8))) := hV
  obtain ⟨R, hR⟩ : ∃ R, R = tx (s.data.toList.take (Tk.run Tk.letter s.data.toList 0)) := ⟨_, rfl⟩
  have HRO : Hid (∀ w, Calls Try.prog 56 #[.string s, .string setLetters] w fun e w' => e = .returned (.string R) ∧ Below w.heap.size w w') := fun w => by rw [hR]; exact rowOf_any s setLetters Tk.letter w asc_letters letters_is
  have qR : (R.toList == s.toList) = A := by rw [hR, hA]; exact row_same _ _
  have hem : s.toList.isEmpty = decide (s.size = 0) := by
    rw [Lib.toList_data, ← hsl]
    cases s.data.toList <;> simp
  rw [hsl, ← hA, ← hV]
  clear hV hA hR hsl
  unfold setLetters at HRO
  by_cases h0 : s.size = 0
  · have HRR : Hid (V = false) := HV.out.trans (by rw [decide_eq_false (by omega)]; exact Bool.and_false _)
    rw [decide_eq_true h0] at hem
    clear HV HRO qR h0
    go_enter Try.func36, Try.ntmps36
    go_wp2
    go_ret
    exact ⟨by rw [HRR.out]; rfl, Below.refl _ _⟩
  rw [decide_eq_false h0] at hem
  by_cases h8 : ¬ s.size ≤ 8
  · have HRR : Hid (V = false) := HV.out.trans (by rw [decide_eq_false (by omega)]; exact Bool.and_false _)
    have d8 : decide ((s.size : Int) ≤ 8) = false := decide_eq_false (by omega)
    clear HV HRO qR h0 h8
    go_enter Try.func36, Try.ntmps36
    go_wp2
    go_ret
    exact ⟨by rw [HRR.out]; rfl, Below.refl _ _⟩
  have d8 : decide ((s.size : Int) ≤ 8) = true := decide_eq_true (by omega)
  have HV2 : Hid (V = A) := HV.out.trans (by rw [decide_eq_true (by omega)]; exact Bool.and_true _)
  clear HV h0 h8
  go_enter Try.func36, Try.ntmps36
  go_wp2_with fail
  refine (HRO.out _).mono ?_
  rintro e w1 ⟨rfl, hb1⟩
  clear HRO
  go_wp2
  go_ret
  exact ⟨by rw [HV2.out]; rfl, hb1⟩

end PartPkN
section PartOkE
open Go.RowKit

set_option maxRecDepth 100000 in
set_option maxHeartbeats 8000000 in
theorem imStoreOk (va ra : Value) (o : ByteArray) (vs : List Vr) (cs : List Cl) (w : World) (h1 : VrAt w va vs) (g1 : ClAt w ra cs) (hs : StSmall vs cs o) :
    Calls Try.prog 14 #[.agg #[va, ra, .string o]] w fun e w' => e = .returned (.bool (St.ok vs cs o)) ∧ Below w.heap.size w w' := by
  obtain ⟨V, hV⟩ : ∃ V, V = St.ok vs cs o := ⟨_, rfl⟩
  have HV : Hid (V = St.ok vs cs o) := hV
  rw [← hV]
  clear hV
  have HP : Hid (∀ W, Below w.heap.size w W → VrAt W va vs ∧ ClAt W ra cs) := fun W hb => ⟨h1.keep hb, g1.keep hb⟩
  obtain ⟨A1, hA1⟩ : ∃ A, A = (List.range vs.length).all (St.ascV vs) := ⟨_, rfl⟩
  obtain ⟨A2, hA2⟩ : ∃ A, A = (List.range cs.length).all (St.ascC cs) := ⟨_, rfl⟩
  have CV : Hid (∀ W, Below w.heap.size w W → Calls Try.prog 34 #[va] W fun e w' => e = .returned (.bool A1) ∧ Below W.heap.size W w') := fun W hb => by rw [hA1]; exact ascVar va vs W (h1.keep hb) hs.1
  have CC : Hid (∀ W, Below w.heap.size w W → Calls Try.prog 35 #[ra] W fun e w' => e = .returned (.bool A2) ∧ Below W.heap.size W w') := fun W hb => by rw [hA2]; exact ascCell ra cs W (g1.keep hb) hs.2.2.1
  have HA : Hid (A1 = (List.range vs.length).all (St.ascV vs) ∧ A2 = (List.range cs.length).all (St.ascC cs)) := ⟨hA1, hA2⟩
  clear hA1 hA2
  obtain ⟨a1, c1, rfl, -⟩ := h1
  obtain ⟨d1, e1, rfl, -⟩ := g1
  obtain ⟨n, hn⟩ : ∃ n, n = vs.length := ⟨_, rfl⟩
  obtain ⟨m, hm⟩ : ∃ m, m = cs.length := ⟨_, rfl⟩
  have HN : Hid (n = vs.length ∧ m = cs.length) := ⟨hn, hm⟩
  have hl : n ≤ 1048576 := by rw [hn]; exact hs.1
  have hr : m ≤ 1048576 := by rw [hm]; exact hs.2.2.1
  have ho : o.size ≤ 1048576 := hs.2.2.2.2
  have HSM : Hid (VrSmall vs n ∧ ClSmall cs m) := by rw [hn, hm]; exact ⟨hs.2.1, hs.2.2.2.1⟩
  rw [← hn, ← hm] at HP
  rw [← hn] at CV
  rw [← hm] at CC
  rw [← hn, ← hm]
  clear hs hn hm
  have HB : Hid (Below w.heap.size w (w.alloc (.cells #[.slice a1 n c1, .slice d1 m e1, .string o] 27))) := (Below.refl _ _).alloc (Nat.le_refl _) _
  have q0 := heap_alloc_new w (.cells #[.slice a1 n c1, .slice d1 m e1, .string o] 27)
  have hz : w.heap.size < (w.alloc (.cells #[.slice a1 n c1, .slice d1 m e1, .string o] 27)).heap.size := by simp
  by_cases b1 : 60 < n
  · have d1' : decide ((60 : Int) < (n : Int)) = true := decide_eq_true (by omega)
    have HR : Hid (V = false) := HV.out.trans (by unfold St.ok; rw [decide_eq_false (by rw [← HN.out.1]; omega)]; rfl)
    clear HV HP CV CC q0 hz
    go_enter Try.func14, Try.ntmps14
    go_wp2
    go_ret
    exact ⟨by rw [HR.out]; rfl, HB.out⟩
  have d1' : decide ((60 : Int) < (n : Int)) = false := decide_eq_false (by omega)
  by_cases b2 : 2000 < m
  · have d2' : decide ((2000 : Int) < (m : Int)) = true := decide_eq_true (by omega)
    have HR : Hid (V = false) := HV.out.trans (by unfold St.ok; rw [decide_eq_false (by rw [← HN.out.2]; omega)]; rfl)
    clear HV HP CV CC q0 hz
    go_enter Try.func14, Try.ntmps14
    go_wp2
    go_ret
    exact ⟨by rw [HR.out]; rfl, HB.out⟩
  have d2' : decide ((2000 : Int) < (m : Int)) = false := decide_eq_false (by omega)
  by_cases b3 : 3000 < o.size
  · have d3' : decide ((3000 : Int) < (o.size : Int)) = true := decide_eq_true (by omega)
    have HR : Hid (V = false) := HV.out.trans (by unfold St.ok; rw [decide_eq_false (by omega)]; rfl)
    clear HV HP CV CC q0 hz
    go_enter Try.func14, Try.ntmps14
    go_wp2
    go_ret
    exact ⟨by rw [HR.out]; rfl, HB.out⟩
  have d3' : decide ((3000 : Int) < (o.size : Int)) = false := decide_eq_false (by omega)
  have HV2 : Hid (V = ((A1 && A2) && ((List.range vs.length).all (St.goodV vs) && (List.range cs.length).all (St.goodC cs)))) := by
    show _ = _
    rw [HV.out, HA.out.1, HA.out.2]
    unfold St.ok
    rw [decide_eq_true (by rw [← HN.out.1, ← HN.out.2]; omega), Bool.true_and]
  clear HV HA b1 b2 b3
  have HQ0 : Hid (∀ W0 : World, W0 = w.alloc (.cells #[.slice a1 n c1, .slice d1 m e1, .string o] 27) → ∀ wr, Below W0.heap.size W0 wr → wr.cell? ⟨w.heap.size, 0, none⟩ = some (.slice a1 n c1) ∧ wr.cell? ⟨w.heap.size, 1, none⟩ = some (.slice d1 m e1) ∧ wr.cell? ⟨w.heap.size, 2, none⟩ = some (.string o)) := by
    intro W0 hW0 wr hb
    subst hW0
    have s0 := (hb.block _ hz).trans q0
    have z0 := blk_cell s0 0
    have z1 := blk_cell s0 1
    have z2 := blk_cell s0 2
    simp only [List.getElem?_toArray, List.getElem?_cons_zero, List.getElem?_cons_succ] at z0 z1 z2
    exact ⟨z0, z1, z2⟩
  clear q0 hz
  go_enter Try.func14, Try.ntmps14
  go_wp2_with fail
  have HQ : Hid _ := HQ0.out _ rfl
  clear HQ0
  generalize w.alloc (.cells #[.slice a1 n c1, .slice d1 m e1, .string o] 27) = W0 at *
  refine (CV.out _ HB.out).mono ?_
  rintro e w1 ⟨rfl, hb1⟩
  have HW1 : Hid (Below W0.heap.size W0 w1) := hb1
  have HWW1 : Hid (Below w.heap.size w w1) := HB.out.trans (hb1.mono HB.out.size)
  clear hb1 CV
  obtain ⟨z0, z1, z2⟩ := HQ.out _ HW1.out
  cases A1 with
  | false =>
    have HR : Hid (V = false) := HV2.out
    clear HV2
    go_wp2
    go_ret
    exact ⟨by rw [HR.out]; rfl, HWW1.out⟩
  | true =>
  go_wp2_with fail
  refine (CC.out _ HWW1.out).mono ?_
  rintro e w2 ⟨rfl, hb2⟩
  have HW2 : Hid (Below W0.heap.size W0 w2) := HW1.out.trans (hb2.mono HW1.out.size)
  have HWW2 : Hid (Below w.heap.size w w2) := HB.out.trans (HW2.out.mono HB.out.size)
  clear hb2 CC HW1 HWW1 z0 z1 z2
  obtain ⟨z0, z1, z2⟩ := HQ.out _ HW2.out
  cases A2 with
  | false =>
    have HR : Hid (V = false) := HV2.out
    clear HV2
    go_wp2
    go_ret
    exact ⟨by rw [HR.out]; rfl, HWW2.out⟩
  | true =>
  have HV3 : Hid (V = ((List.range vs.length).all (St.goodV vs) && (List.range cs.length).all (St.goodC cs))) := HV2.out
  clear HV2
  go_wp2
  clear z0 z1 z2
  go_loopw [38] (fun i wr => ∃ j : Nat, i = .int .i64 (j : Int) ∧ j ≤ n ∧ Hid (Below W0.heap.size W0 wr) ∧ Hid (∀ q, q < j → St.goodV vs q = true)) (fun i _ => n - (intOf i).toNat)
  case atStart => exact ⟨0, rfl, by omega, HW2, fun q hq => by omega⟩
  case round =>
    obtain ⟨j, rfl, hj, HW, HJ⟩ := hrel
    obtain ⟨z0, z1, z2⟩ := HQ.out _ HW.out
    have HWW : Hid (Below w.heap.size w wr) := HB.out.trans (HW.out.mono HB.out.size)
    by_cases hlt : j < n
    · obtain ⟨f1, f2⟩ := HP.out _ HWW.out
      obtain ⟨g1, o1, rfl, l1, t1⟩ := VrAt.row f1 HN.out.1.symm hlt
      obtain ⟨p, hp⟩ : ∃ p, p = vs.getD j Vr.no := ⟨_, rfl⟩
      rw [← hp] at t1
      have hsm := HSM.out.1 j hlt
      rw [← hp] at hsm
      have HPJ : Hid (p = vs.getD j Vr.no) := hp
      clear hp
      obtain ⟨p0, p1⟩ := p
      simp only at t1 hsm
      obtain ⟨x0, x1⟩ := t1
      obtain ⟨m0, m1⟩ := hsm
      obtain ⟨NM, hNM⟩ : ∃ NM, NM = Cd.nm p0.data.toList := ⟨_, rfl⟩
      have CN : Hid (∀ W, Calls Try.prog 36 #[.string p0] W fun e w' => e = .returned (.bool NM) ∧ Below W.heap.size W w') := fun W => by rw [hNM]; exact isOf_any p0 W
      have HG : Hid (St.goodV vs j = (NM && decide (p1.size ≤ 40))) := by
        show _ = _
        unfold St.goodV
        rw [← HPJ.out, hNM]
      clear hNM HPJ f1 f2
      have i1 : (j : Int) < (n : Int) := by omega
      have i0 : (0 : Int) ≤ (j : Int) := by omega
      have HAL : Hid (∀ w1, Below (wr.alloc (.cells #[.string p0, .string p1] 47)).heap.size (wr.alloc (.cells #[.string p0, .string p1] 47)) w1 → w1.heap[wr.heap.size]? = some (.cells #[.string p0, .string p1] 47 (0, 0)) ∧ Below w.heap.size w w1 ∧ Below W0.heap.size W0 w1) := by
        intro w1 hb1
        have h9 : Below wr.heap.size wr w1 := ((Below.refl wr.heap.size wr).alloc (Nat.le_refl _) _).trans (hb1.mono (by simp))
        exact ⟨(hb1.block _ (by simp)).trans (heap_alloc_new wr _), HWW.out.trans (h9.mono HWW.out.size), HW.out.trans (h9.mono HW.out.size)⟩
      go_wp2_with fail
      refine (CN.out _).mono ?_
      rintro e w1 ⟨rfl, hb1⟩
      have HX : Hid _ := HAL.out w1 hb1
      have v1 : w1.cell? ⟨wr.heap.size, 1, none⟩ = some (.string p1) := (blk_cell HX.out.1 1).trans rfl
      clear hb1 CN HAL x0 x1
      cases NM with
      | false =>
        have HR : Hid (V = false) := HV3.out.trans (by rw [St.all_no (p := St.goodV vs) (by rw [← HN.out.1]; exact hlt) (HG.out)]; rfl)
        clear HV3 HJ HG
        go_wp2
        go_ret
        exact ⟨by rw [HR.out]; rfl, HX.out.2.1⟩
      | true =>
        by_cases hb1 : 40 < p1.size
        · have d1 : decide ((40 : Int) < (p1.size : Int)) = true := decide_eq_true (by omega)
          have HR : Hid (V = false) := HV3.out.trans (by rw [St.all_no (p := St.goodV vs) (by rw [← HN.out.1]; exact hlt) (HG.out.trans (by rw [decide_eq_false (by omega : ¬ p1.size ≤ 40)]; simp))]; rfl)
          clear HV3 HJ HG
          go_wp2
          go_ret
          exact ⟨by rw [HR.out]; rfl, HX.out.2.1⟩
        have d1 : decide ((40 : Int) < (p1.size : Int)) = false := decide_eq_false (by omega)
        have HNX : Hid (∀ q, q < j + 1 → St.goodV vs q = true) := fun q h => by
          by_cases e : q = j
          · subst e; exact HG.out.trans (by rw [decide_eq_true (by omega : p1.size ≤ 40)]; rfl)
          · exact HJ.out q (by omega)
        clear HG HJ
        go_wp2
        go_roundw
        case rel => exact ⟨j + 1, by go_num, by omega, HX.out.2.2, HNX⟩
        case measure => simp [intOf]; omega
    · have HJN : Hid (∀ q, q < n → St.goodV vs q = true) := fun q hq => HJ.out q (by omega)
      have i1 : ¬ ((j : Int) < (n : Int)) := by omega
      have HJ1 : Hid (∀ q, q < n → St.goodV vs q = true) := HJN
      clear HJ HJN HWW
      go_wp2
      clear z0 z1 z2
      go_loopw [56] (fun i wr => ∃ j : Nat, i = .int .i64 (j : Int) ∧ j ≤ m ∧ Hid (Below W0.heap.size W0 wr) ∧ Hid (∀ q, q < j → St.goodC cs q = true)) (fun i _ => m - (intOf i).toNat)
      case atStart => exact ⟨0, rfl, by omega, HW, fun q hq => by omega⟩
      case round =>
        obtain ⟨j, rfl, hj, HW, HJ⟩ := hrel
        obtain ⟨z0, z1, z2⟩ := HQ.out _ HW.out
        have HWW : Hid (Below w.heap.size w wr) := HB.out.trans (HW.out.mono HB.out.size)
        by_cases hlt : j < m
        · obtain ⟨f1, f2⟩ := HP.out _ HWW.out
          obtain ⟨g1, o1, rfl, l1, t1⟩ := ClAt.row f2 HN.out.2.symm hlt
          obtain ⟨p, hp⟩ : ∃ p, p = cs.getD j Cl.no := ⟨_, rfl⟩
          rw [← hp] at t1
          have hsm := HSM.out.2 j hlt
          rw [← hp] at hsm
          have HPJ : Hid (p = cs.getD j Cl.no) := hp
          clear hp
          obtain ⟨p0, p1, p2⟩ := p
          simp only at t1 hsm
          obtain ⟨x0, x1, x2⟩ := t1
          obtain ⟨m0, m1, m2⟩ := hsm
          obtain ⟨NM, hNM⟩ : ∃ NM, NM = Cd.nm p0.data.toList := ⟨_, rfl⟩
          have CN : Hid (∀ W, Calls Try.prog 36 #[.string p0] W fun e w' => e = .returned (.bool NM) ∧ Below W.heap.size W w') := fun W => by rw [hNM]; exact isOf_any p0 W
          have HG : Hid (St.goodC cs j = (NM && (decide (p1.size ≤ 40) && decide (p2.size ≤ 40)))) := by
            show _ = _
            unfold St.goodC
            rw [← HPJ.out, hNM]
          clear hNM HPJ f1 f2
          have i1 : (j : Int) < (m : Int) := by omega
          have i0 : (0 : Int) ≤ (j : Int) := by omega
          have HAL : Hid (∀ w1, Below (wr.alloc (.cells #[.string p0, .string p1, .string p2] 50)).heap.size (wr.alloc (.cells #[.string p0, .string p1, .string p2] 50)) w1 → w1.heap[wr.heap.size]? = some (.cells #[.string p0, .string p1, .string p2] 50 (0, 0)) ∧ Below w.heap.size w w1 ∧ Below W0.heap.size W0 w1) := by
            intro w1 hb1
            have h9 : Below wr.heap.size wr w1 := ((Below.refl wr.heap.size wr).alloc (Nat.le_refl _) _).trans (hb1.mono (by simp))
            exact ⟨(hb1.block _ (by simp)).trans (heap_alloc_new wr _), HWW.out.trans (h9.mono HWW.out.size), HW.out.trans (h9.mono HW.out.size)⟩
          go_wp2_with fail
          refine (CN.out _).mono ?_
          rintro e w1 ⟨rfl, hb1⟩
          have HX : Hid _ := HAL.out w1 hb1
          have v1 : w1.cell? ⟨wr.heap.size, 1, none⟩ = some (.string p1) := (blk_cell HX.out.1 1).trans rfl
          have v2 : w1.cell? ⟨wr.heap.size, 2, none⟩ = some (.string p2) := (blk_cell HX.out.1 2).trans rfl
          clear hb1 CN HAL x0 x1 x2
          cases NM with
          | false =>
            have HR : Hid (V = false) := HV3.out.trans (by rw [St.all_no (p := St.goodC cs) (by rw [← HN.out.2]; exact hlt) (HG.out)]; exact Bool.and_false _)
            clear HV3 HJ HG
            go_wp2
            go_ret
            exact ⟨by rw [HR.out]; rfl, HX.out.2.1⟩
          | true =>
            by_cases hb1 : 40 < p1.size
            · have d1 : decide ((40 : Int) < (p1.size : Int)) = true := decide_eq_true (by omega)
              have HR : Hid (V = false) := HV3.out.trans (by rw [St.all_no (p := St.goodC cs) (by rw [← HN.out.2]; exact hlt) (HG.out.trans (by rw [decide_eq_false (by omega : ¬ p1.size ≤ 40)]; simp))]; exact Bool.and_false _)
              clear HV3 HJ HG
              go_wp2
              go_ret
              exact ⟨by rw [HR.out]; rfl, HX.out.2.1⟩
            have d1 : decide ((40 : Int) < (p1.size : Int)) = false := decide_eq_false (by omega)
            by_cases hb2 : 40 < p2.size
            · have d2 : decide ((40 : Int) < (p2.size : Int)) = true := decide_eq_true (by omega)
              have HR : Hid (V = false) := HV3.out.trans (by rw [St.all_no (p := St.goodC cs) (by rw [← HN.out.2]; exact hlt) (HG.out.trans (by rw [decide_eq_false (by omega : ¬ p2.size ≤ 40)]; simp))]; exact Bool.and_false _)
              clear HV3 HJ HG
              go_wp2
              go_ret
              exact ⟨by rw [HR.out]; rfl, HX.out.2.1⟩
            have d2 : decide ((40 : Int) < (p2.size : Int)) = false := decide_eq_false (by omega)
            have HNX : Hid (∀ q, q < j + 1 → St.goodC cs q = true) := fun q h => by
              by_cases e : q = j
              · subst e; exact HG.out.trans (by rw [decide_eq_true (by omega : p1.size ≤ 40)]; rw [decide_eq_true (by omega : p2.size ≤ 40)]; rfl)
              · exact HJ.out q (by omega)
            clear HG HJ
            go_wp2
            go_roundw
            case rel => exact ⟨j + 1, by go_num, by omega, HX.out.2.2, HNX⟩
            case measure => simp [intOf]; omega
        · have HJN : Hid (∀ q, q < m → St.goodC cs q = true) := fun q hq => HJ.out q (by omega)
          have i1 : ¬ ((j : Int) < (m : Int)) := by omega
          have HR : Hid (V = true) := HV3.out.trans (by rw [St.all_yes (fun q hq => HJ1.out q (by rw [HN.out.1]; exact hq)), St.all_yes (fun q hq => HJN.out q (by rw [HN.out.2]; exact hq))]; rfl)
          clear HV3 HJ HJN HJ1
          go_wp2
          go_ret
          exact ⟨by rw [HR.out]; rfl, HWW.out⟩
end PartOkE
end Go.Proofs.Ytmofljfffcnlbaa
