/- The program's writer of bytes: what it has written, as a text. The program's writer of bytes: several short texts at once. -/
import Derived.Test.YtbaoadfnmicijaaMBwA
import Derived.Test.YtbaoadfnmicijaaMZab
import Derived.Test.YtbaoadfnmicijaaMZaq
namespace Go.Proofs.Ytbaoadfnmicijaa
section PartBwB
open Go.RowKit

set_option maxHeartbeats 1000000 in
set_option maxRecDepth 100000 in
theorem bwText (b : Nat) (l : List UInt8) (w : World) (h : Bw b w l) (h0 : l ≠ []) (hlen : l.length ≤ 1000000) :
    Calls Try.prog 30 #[.pointer (some ⟨b, 0, none⟩)] w fun e w' => e = .returned (.string ⟨l.toArray⟩) ∧ Below b w w' := by
  obtain ⟨p, -, v, hbk, hown, -⟩ : ∃ p, Lib.BuilderAt 64 5 b b p (Lib.byteCells l) w := h.elim (fun x => ⟨_, x⟩) (fun x => ⟨_, x⟩)
  rw [Lib.byteCells_length] at hown
  have hl0 : 0 < l.length := List.length_pos_iff.2 h0
  obtain ⟨g, cap, cur, rfl, hbg, hg, hnc, hcm, hcs, -⟩ : ∃ g cap cur, v = .slice (some ⟨g, 0, none⟩) l.length cap ∧ b ≤ g ∧ w.heap[g]? = some (.cells cur 5 (0, 0)) ∧ l.length ≤ cap ∧ cap ≤ maxLen ∧ cur.size = cap * 1 ∧ cur.toList.take (l.length * 1) = Lib.byteCells l := by
    rcases hown.2 with ⟨_, hz⟩ | ⟨g, cap, cur, hv, r⟩
    · omega
    · exact ⟨g, cap, cur, hv, r⟩
  have c1 : w.drew.cell? ⟨b, 1, none⟩ = some (.slice (some ⟨g, 0, none⟩) l.length cap) := by
    have : w.drew.heap[b]? = some (.cells #[p, .slice (some ⟨g, 0, none⟩) l.length cap] 64 (0, 0)) := hbk
    rw [Lib.cell_of_heap this]; rfl
  have hSD : (Builtin.unsafeSliceData_ #[60] 100 #[.slice (some ⟨g, 0, none⟩) l.length cap]).run Try.prog w.drew = .ok (.pointer (some ⟨g, 0, none⟩)) w.drew := Lib.run_unsafeSliceData_row _ _ _ _ _ _ (by omega)
  have hUS : (Builtin.unsafeString_ #[100, 3] 9 #[.pointer (some ⟨g, 0, none⟩), .int .i64 l.length]).run Try.prog w.drew = .ok (.string ⟨l.toArray⟩) (w.drew.freeze ⟨g, 0, none⟩ l.length) := by
    refine Lib.run_unsafeString_row w.drew 100 3 9 5 Try.underlying100 (by kernel_rfl) g cur.size (by have hg2 : w.drew.heap[g]? = some (.cells cur 5 (0, 0)) := hg; simp [World.shape?, hg2]) l h0 (by omega) (by omega) ?_
    intro j x hx
    exact hown.cells (g := g) rfl j (.int .u8 x.toNat) (by simp [Lib.byteCells, hx])
  have HE : Hid (Below b w (w.drew.freeze ⟨g, 0, none⟩ l.length)) := Lib.below_freeze (Below.drew (Below.refl b w)) (p := ⟨g, 0, none⟩) hbg _
  have mixed : Try.prog.follows Departure.mixedOrders = true := by kernel_rfl
  clear h hown hbk hcs hg
  go_enter Try.func30, Try.ntmps30
  go_wp2
  go_region_o
  all_goals
    go_wp2
    go_ret
    exact ⟨rfl, HE.out⟩
end PartBwB
section PartBwC
open Go.RowKit

set_option maxHeartbeats 2000000 in
set_option maxRecDepth 100000 in
theorem bwShorts (b : Nat) (L : List UInt8) (ts : List ByteArray) (q c : Nat) (arr : Array Value) (T : TypeId) (w : World) (h : Bw b w L) (hq : w.heap[q]? = some (.cells arr T (0, 0))) (hT : T ≠ 5) (hqb : q ≠ b)
    (ha : ∀ i, i < ts.length → arr[i]? = some (.string (ts.getD i ByteArray.empty))) (hk : ts.length ≤ 4) (hs : ∀ i, i < ts.length → (ts.getD i ByteArray.empty).size ≤ 3000) (hl : L.length ≤ 800000) :
    Calls Try.prog 28 #[.pointer (some ⟨b, 0, none⟩), .slice (some ⟨q, 0, none⟩) ts.length c] w fun e w' => e = .returned (.tuple #[]) ∧ Bw b w' (L ++ ts.flatMap Cd.short) ∧ Below b w w' ∧ Ok5 b w w' := by
  have hbw : b < w.heap.size := by
    rcases h with h | h
    · exact h.lt
    · exact h.lt
  obtain ⟨n, hn⟩ : ∃ n, n = ts.length := ⟨_, rfl⟩
  have HM : Hid (n = ts.length) := hn
  have HA : Hid (∀ W, Ok5 b w W → ∀ i, i < n → W.cell? ⟨q, i, none⟩ = some (.string (ts.getD i ByteArray.empty))) := fun W ho i hi => by
    have := ho q arr T (0, 0) hq hT hqb
    rw [blk_cell this]
    exact ha i (by rw [← hn]; exact hi)
  have HS : Hid (∀ i, i < n → (ts.getD i ByteArray.empty).size ≤ 3000) := by rw [hn]; exact hs
  have HX : Hid (∀ k, ((ts.take k).flatMap Cd.short).length ≤ 16000) := by
    intro k
    have h2 := Cd.flat_le Cd.short 3009 (ts.take k) (fun x hx => by
      obtain ⟨i, hi, e⟩ := List.mem_iff_getElem.1 (List.mem_of_mem_take hx)
      have h3 := hs i hi
      rw [List.getD_eq_getElem?_getD, List.getElem?_eq_getElem hi] at h3
      simp only [Option.getD_some, e] at h3
      have h4 := l01_bytes x.size
      have h5 : x.data.toList.length = x.size := by simp
      unfold Cd.short
      rw [List.length_append, h5]
      omega)
    have h6 : (ts.take k).length ≤ 4 := by rw [List.length_take]; omega
    omega
  have CS : Hid (∀ (W : World) (M : List UInt8) (t : ByteArray), Bw b W M → M.length ≤ 900000 → t.size ≤ 3000 → Calls Try.prog 29 #[.pointer (some ⟨b, 0, none⟩), .string t] W fun e w' => e = .returned (.tuple #[]) ∧ Bw b w' (M ++ Cd.short t) ∧ Below b W w' ∧ Ok5 b W w') := fun W M t hM hm ht => bwShort5 b M t W hM hm (by omega)
  have HN0 : Hid (Bw b w (L ++ (ts.take 0).flatMap Cd.short)) := by
    have : L ++ (ts.take 0).flatMap Cd.short = L := by simp
    show Bw b w _
    rw [this]
    exact h
  rw [← hn] at hk ⊢
  clear h hq ha hs hn
  go_enter Try.func28, Try.ntmps28
  go_wp2_with fail
  go_loopw [5, 8] (fun _ i wr => ∃ k : Nat, i = .int .i64 (k : Int) ∧ k ≤ n ∧ Hid (Bw b wr (L ++ (ts.take k).flatMap Cd.short)) ∧ Hid (Below b w wr) ∧ Hid (Ok5 b w wr)) (fun _ i _ => n - (intOf i).toNat)
  case atStart => exact ⟨0, rfl, by omega, HN0.out, Below.refl _ _, Ok5.refl _ _⟩
  case round =>
    clear HN0
    obtain ⟨k, rfl, hk2, HN, HB, HO⟩ := hrel
    by_cases hlt : k < n
    · have d0 : decide ((k : Int) < (n : Int)) = true := decide_eq_true (by omega)
      have hk1 : (k : Int) < (n : Int) := by omega
      have c0 := HA.out _ HO.out k hlt
      have h30 := HS.out k hlt
      have hSl := HX.out k
      have HNX : Hid (L ++ (ts.take (k + 1)).flatMap Cd.short = (L ++ (ts.take k).flatMap Cd.short) ++ Cd.short (ts.getD k ByteArray.empty)) := by
        show _ = _
        rw [Cd.take_flat Cd.short ts ByteArray.empty k (by rw [← HM.out]; exact hlt), List.append_assoc]
      have C := CS.out wr _ (ts.getD k ByteArray.empty) HN.out (by rw [List.length_append]; omega) h30
      rw [← HNX.out] at C
      have HCC : Hid (Calls Try.prog 29 #[.pointer (some ⟨b, 0, none⟩), .string (ts.getD k ByteArray.empty)] wr fun e w' => e = .returned (.tuple #[]) ∧ Bw b w' (L ++ (ts.take (k + 1)).flatMap Cd.short) ∧ Below b wr w' ∧ Ok5 b wr w') := C
      clear C HNX
      generalize ts.getD k ByteArray.empty = t at *
      go_wp2_with fail
      refine HCC.out.mono ?_
      rintro e w3 ⟨rfl, hn3, hb3, ho3⟩
      have HN3 : Hid (Bw b w3 (L ++ (ts.take (k + 1)).flatMap Cd.short)) := hn3
      have HB3 : Hid (Below b w w3) := HB.out.trans hb3
      have HO3 : Hid (Ok5 b w w3) := HO.out.trans ho3
      clear hn3 hb3 ho3 HCC HN HB HO
      go_wp2
      go_roundw
      case rel => exact ⟨k + 1, by go_num, by omega, HN3.out, HB3.out, HO3.out⟩
      case measure => simp [intOf]; omega
    · have HKK : Hid (k = n) := (by omega : k = n)
      have HF : Hid (Bw b wr (L ++ ts.flatMap Cd.short)) := by
        have := HN.out
        rw [HKK.out, HM.out, List.take_length] at this
        exact this
      have d0 : decide ((k : Int) < (n : Int)) = false := decide_eq_false (by omega)
      clear HN
      go_wp2_with fail
      go_end0
      exact ⟨rfl, HF.out, HB.out, HO.out⟩
end PartBwC
end Go.Proofs.Ytbaoadfnmicijaa
