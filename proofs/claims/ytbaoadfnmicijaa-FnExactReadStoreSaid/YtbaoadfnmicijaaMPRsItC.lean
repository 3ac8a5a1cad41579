/- The program's rowOf and upTo: how far a text goes on with bytes of a set, or without. -/
import Derived.Test.YtbaoadfnmicijaaMPRsItB
import Derived.Test.YtbaoadfnmicijaaMPRsZap
import Derived.Lib.OthersKept
namespace Go.Proofs.Ytbaoadfnmicijaa
open Go.RowKit

theorem decode_wide (s : ByteArray) (pos : Nat) (hp : pos < s.size) : pos + (Utf8.decode s pos).2 ≤ s.size ∧ ∀ j (h : j < s.size), pos < j → j < pos + (Utf8.decode s pos).2 → 128 ≤ (s[j]'h).toNat := by
  have key : (Utf8.decode s pos).2 = 1 ∨ ((Utf8.decode s pos).2 = 2 ∧ (pos + 1 < s.size ∧ (s.get! (pos + 1)).toNat / 64 = 2)) ∨ ((Utf8.decode s pos).2 = 3 ∧ (pos + 1 < s.size ∧ (s.get! (pos + 1)).toNat / 64 = 2) ∧ (pos + 2 < s.size ∧ (s.get! (pos + 2)).toNat / 64 = 2)) ∨ ((Utf8.decode s pos).2 = 4 ∧ (pos + 1 < s.size ∧ (s.get! (pos + 1)).toNat / 64 = 2) ∧ (pos + 2 < s.size ∧ (s.get! (pos + 2)).toNat / 64 = 2) ∧ (pos + 3 < s.size ∧ (s.get! (pos + 3)).toNat / 64 = 2)) := by
    simp only [Utf8.decode]
    repeat' split
    all_goals simp_all
  have g : ∀ k (h : k < s.size), s.get! k = s[k]'h := fun k h => by
    simp [ByteArray.get!, getElem!_pos, h]
    rfl
  rcases key with e | ⟨e, h1⟩ | ⟨e, h1, h2⟩ | ⟨e, h1, h2, h3⟩
  · rw [e]
    exact ⟨by omega, fun j h a b => by omega⟩
  · rw [e]
    refine ⟨by omega, fun j h a b => ?_⟩
    obtain rfl : j = pos + 1 := by omega
    rw [g _ h] at h1
    omega
  · rw [e]
    refine ⟨by omega, fun j h a b => ?_⟩
    rw [g _ h1.1] at h1
    rw [g _ h2.1] at h2
    rcases (by omega : j = pos + 1 ∨ j = pos + 2) with rfl | rfl <;> omega
  · rw [e]
    refine ⟨by omega, fun j h a b => ?_⟩
    rw [g _ h1.1] at h1
    rw [g _ h2.1] at h2
    rw [g _ h3.1] at h3
    rcases (by omega : j = pos + 1 ∨ j = pos + 2 ∨ j = pos + 3) with rfl | rfl | rfl <;> omega

theorem Asc.not {t : ByteArray} (ha : Asc t) {b : UInt8} (h : 128 ≤ b.toNat) : t.data.toList.contains b = false := by
  cases e : t.data.toList.contains b with
  | false => rfl
  | true =>
    have := ha b (by simpa using e)
    omega
theorem rune_step (s t : ByteArray) (pos : Nat) (hp : pos < s.size) (ha : Asc t) : ∃ r W : Nat, Utf8.decode s pos = (r, W) ∧ r ≤ 2147483647 ∧ 1 ≤ W ∧ pos + W ≤ s.size ∧
    (decide ((r : Int) < 128) && t.data.toList.contains (r : Int).toNat.toUInt8) = t.data.toList.contains s[pos] ∧ ∀ j (h : j < s.size), pos ≤ j → j < pos + W → t.data.toList.contains (s[j]'h) = t.data.toList.contains s[pos] := by
  refine ⟨(Utf8.decode s pos).1, (Utf8.decode s pos).2, rfl, decode_le s pos, ?_, (decode_wide s pos hp).1, ?_, ?_⟩
  · by_cases h : (s[pos]'hp).toNat < 128
    · rw [decode_ascii s pos hp h]; exact Nat.le_refl _
    · exact (decode_high s pos hp (by omega)).2
  · by_cases h : (s[pos]'hp).toNat < 128
    · rw [decode_ascii s pos hp h]
      have : decide (((s[pos]'hp).toNat : Int) < 128) = true := decide_eq_true (by omega)
      simp only [this, Bool.true_and]
      simp
    · have := (decode_high s pos hp (by omega)).1
      rw [decide_eq_false (by omega), ha.not (b := s[pos]) (by omega)]
      rfl
  · intro j h a b
    by_cases hj : j = pos
    · subst hj; rfl
    · by_cases h2 : (s[pos]'hp).toNat < 128
      · rw [decode_ascii s pos hp h2] at b
        simp at b
        omega
      · rw [ha.not (b := s[pos]) (by omega), ha.not ((decode_wide s pos hp).2 j h (by omega) b)]
theorem run_steps (p : UInt8 → Bool) (l : List UInt8) (pos : Nat) : ∀ n, (∀ j, pos ≤ j → j < pos + n → ∃ h : j < l.length, p (l[j]'h) = true) → Tk.run p l pos = Tk.run p l (pos + n) := by
  intro n
  induction n with
  | zero => intro _; rfl
  | succ n ih =>
    intro h
    rw [ih (fun j a b => h j a (by omega))]
    obtain ⟨h1, h2⟩ := h (pos + n) (by omega) (by omega)
    exact Tk.run_step h1 h2
theorem iterPos_at {w : World} {k p : Nat} {s : ByteArray} (h : w.heap[k]? = some (.stringIter s p)) : w.iterPos k = p := by simp [World.iterPos, h]
theorem byte_at (s : ByteArray) (i : Nat) (h : i < s.size) : s.data.toList[i]'(by simpa using h) = s[i] := by
  simp
  rfl

set_option maxRecDepth 100000 in
set_option maxHeartbeats 1000000 in
theorem rowOf_any (s t : ByteArray) (p : UInt8 → Bool) (w : World) (ha : Asc t) (hp : ∀ b, t.data.toList.contains b = p b) :
    Calls Try.prog 64 #[.string s, .string t] w fun e w' => e = .returned (.string (tx (s.data.toList.take (Tk.run p s.data.toList 0)))) ∧ Below w.heap.size w w' := by
  have hsl : s.data.toList.length = s.size := by simp
  have HC : Hid (∀ (r : Nat) (w : World), r ≤ 2147483647 → Calls Try.prog 69 #[.string t, .int .i32 (r : Int)] w fun e w' => e = .returned (.bool (decide ((r : Int) < 128) && t.data.toList.contains (r : Int).toNat.toUInt8)) ∧ Below w.heap.size w w') := fun r w h => containsRune_any t (r : Int) w ha (by omega) (by omega)
  have HA : Hid (Asc t) := ha
  have HP : Hid (∀ b, t.data.toList.contains b = p b) := hp
  clear ha hp
  go_enter Try.func64, Try.ntmps64
  go_wp2
  go_loopw [] (fun wr => ∃ pos, wr.heap[w.heap.size]? = some (.stringIter s pos) ∧ Below w.heap.size w wr ∧ pos ≤ s.size ∧ Tk.run p s.data.toList 0 = Tk.run p s.data.toList pos) (fun wr => s.size - wr.iterPos w.heap.size)
  case atStart => exact ⟨0, World.iter_heap w s 0, below_iter w s 0, Nat.zero_le _, rfl⟩
  case round =>
    obtain ⟨pos, hk, hb, hle, hrun⟩ := hrel
    have HR : Hid (Tk.run p s.data.toList 0 = Tk.run p s.data.toList pos) := hrun
    have HB : Hid (Below w.heap.size w wr) := hb
    clear hrun hb
    by_cases hlt : pos < s.size
    · obtain ⟨r, W, hd, hr, hW, hWs, hB, hall⟩ := rune_step s t pos hlt HA.out
      have hnx : ∀ ty, (Instr.next (.pointer (some ⟨w.heap.size, 0, none⟩)) true ty).run Try.prog wr = .ok (.tuple #[.bool true, .int .i64 pos, .int .i32 (r : Int)]) (wr.iterAt w.heap.size s (pos + W)) := fun ty => by
        rw [Lib.run_next_any_at wr w.heap.size s pos ty hk hlt, hd]
      have HK : Hid ((wr.iterAt w.heap.size s (pos + W)).heap[w.heap.size]? = some (.stringIter s (pos + W))) := Lib.iterAt_heap wr _ s pos _ hk
      have HK2 : Hid (Below w.heap.size w (wr.iterAt w.heap.size s (pos + W))) := Lib.below_iterAt HB.out (Nat.le_refl _) s _
      have HM : Hid (wr.iterPos w.heap.size = pos) := iterPos_at hk
      obtain ⟨B, hBB⟩ : ∃ B, t.data.toList.contains s[pos] = B := ⟨_, rfl⟩
      have HC2 : Hid (∀ w : World, Calls Try.prog 69 #[.string t, .int .i32 (r : Int)] w fun e w' => e = .returned (.bool B) ∧ Below w.heap.size w w') := fun w => by
        have := HC.out r w hr
        rw [hB, hBB] at this
        exact this
      have HALL : Hid (∀ j (h : j < s.size), pos ≤ j → j < pos + W → p (s[j]'h) = B) := fun j h a b => by rw [← HP.out, hall j h a b, hBB]
      have HPP : Hid (p (s[pos]'hlt) = B) := by show _ = _; rw [← HP.out, hBB]
      have i0 : (0 : Int) ≤ (pos : Int) := by omega
      have i1 : (pos : Int) ≤ (s.size : Int) := by omega
      generalize wr.iterAt w.heap.size s (pos + W) = wi at *
      clear hall hBB hB hd hk HC hr
      cases B with
      | true =>
        go_wp2_with (go_at_call 69; refine (HC2.out _).mono ?_; rintro e w2 ⟨rfl, hb2⟩)
        have HK3 : w2.heap[w.heap.size]? = some (.stringIter s (pos + W)) := by
          rw [hb2.block _ (by have := (Array.getElem?_eq_some_iff.1 HK.out).1; exact this)]
          exact HK.out
        go_roundw
        case rel =>
          refine ⟨pos + W, HK3, HK2.out.trans (hb2.mono HK2.out.size), hWs, ?_⟩
          rw [HR.out]
          exact run_steps p _ pos W fun j a b => ⟨by rw [hsl]; omega, by rw [byte_at s j (by omega)]; exact HALL.out j (by omega) a b⟩
        case measure =>
          rw [iterPos_at HK3, HM.out]
          omega
      | false =>
        go_wp2_with (go_at_call 69; refine (HC2.out _).mono ?_; rintro e w2 ⟨rfl, hb2⟩)
        have HT : s.extract 0 pos = tx (s.data.toList.take (Tk.run p s.data.toList 0)) := by
          rw [HR.out, Tk.run_stop (by rw [hsl]; exact hlt) (by rw [byte_at s pos hlt]; exact HPP.out), ext_take]
          rfl
        go_ret
        exact ⟨by rw [← HT]; rfl, HK2.out.trans (hb2.mono HK2.out.size)⟩
    · have hnx : ∀ ty, (Instr.next (.pointer (some ⟨w.heap.size, 0, none⟩)) true ty).run Try.prog wr = .ok (.tuple #[.bool false]) wr := fun ty => Lib.run_next_end_at wr w.heap.size s pos ty hk hlt
      have HR2 := HR.out
      rw [Tk.run_end p (l := s.data.toList) (i := pos) (by omega)] at HR2
      have HT : Hid (s = tx (s.data.toList.take (Tk.run p s.data.toList 0))) := by
        show _ = _
        rw [HR2, List.take_of_length_le (by omega)]
      clear HR HR2 hk
      go_wp2
      go_ret
      refine ⟨?_, HB.out⟩
      rw [← HT.out]
      rfl
end Go.Proofs.Ytbaoadfnmicijaa
