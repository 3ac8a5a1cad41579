/- A message in bytes: the program's MessageText. -/
import Derived.Test.YtdkenmpdgadcpaaDoorMPMtZat
import Derived.Test.YtdkenmpdgadcpaaDoorMPMtZau
import Derived.Deep.RegionHeld3
namespace Go.Proofs.YtdkenmpdgadcpaaDoor
open Go.RowKit

set_option maxHeartbeats 4000000 in
set_option maxRecDepth 100000 in
theorem imMessageText (m : Ms) (w : World) (hbo : m.body.size ≤ 1048576) (ht : Tabd w) :
    Calls Tryd.prog 8 #[m.val] w fun e w' => e = .returned m.text? ∧ Below w.heap.size w w' := by
  have CO := hidOfT (fun W => imMessageOk m W hbo)
  obtain ⟨V, hV⟩ : ∃ V, V = m.ok := ⟨_, rfl⟩
  have HTB : Hid (∀ W, Below w.heap.size w W → Tabd W) := fun W hb => ht.keep hb
  rw [← hV] at CO
  clear ht
  cases V
  · rw [Ms.text_no hV.symm]
    obtain ⟨kd, wk, tk, tr, bo⟩ := m
    unfold Ms.val at *
    simp only at *
    have HA : Hid (Below w.heap.size w (w.alloc (.cells #[.int .i64 kd, .int .i64 wk, .int .i64 tk, .int .i64 tr, .string bo] 27))) := (Below.refl _ _).alloc (Nat.le_refl _) _
    clear hV hbo
    go_enter Tryd.func8, Tryd.ntmps8
    go_wp2_with fail
    refine (CO.out _).mono ?_
    rintro e w1 ⟨rfl, hb1⟩
    have HB1 := hidOfT (HA.out.trans (hb1.mono HA.out.size))
    clear hb1 CO
    go_wp2_with fail
    go_ret2
    exact ⟨rfl, HB1.out⟩
  obtain ⟨h1, h2, h3, h4, h5, -⟩ := Ms.ok_facts hV.symm
  obtain ⟨Y, hY1, hY2⟩ := Ms.text_yes hV.symm
  have HRL := hidOfT (Ms.raw_len hV.symm)
  have HY := hidOfT hY2
  rw [hY1]
  obtain ⟨kd, wk, tk, tr, bo⟩ := m
  simp only at h1 h2 h3 h4 h5
  obtain ⟨kd, rfl⟩ : ∃ n : Nat, kd = (n : Int) := ⟨kd.toNat, by omega⟩
  obtain ⟨wk, rfl⟩ : ∃ n : Nat, wk = (n : Int) := ⟨wk.toNat, by omega⟩
  obtain ⟨tk, rfl⟩ : ∃ n : Nat, tk = (n : Int) := ⟨tk.toNat, by omega⟩
  obtain ⟨tr, rfl⟩ : ∃ n : Nat, tr = (n : Int) := ⟨tr.toNat, by omega⟩
  unfold Ms.val at *
  simp only at *
  obtain ⟨HD, hHD⟩ : ∃ HD : List UInt8, HD = [UInt8.ofNat kd, UInt8.ofNat wk] ++ Pl.vb 8 tk ++ Pl.vb 8 tr := ⟨_, rfl⟩
  have hX : (⟨(Tg.all [⟨HD.toArray⟩, bo]).toArray⟩ : ByteArray) = ⟨(Ms.raw ⟨(kd : Int), (wk : Int), (tk : Int), (tr : Int), bo⟩).toArray⟩ := by
    rw [hHD]
    simp [Tg.all, Ms.raw, Ms.head]
  have CSE : Hid (∀ W, Below w.heap.size w W → Calls Tryd.prog 18 #[.string ⟨(Tg.all [⟨HD.toArray⟩, bo]).toArray⟩] W fun e w' => e = .returned (.tuple #[.string Y, .bool true]) ∧ Below W.heap.size W w') := fun W hb => by
    rw [hX, ← HY.out]
    exact implSealed_any _ W (by show (Ms.raw _).toArray.size ≤ 1048576; have := HRL.out; simp; omega) (HTB.out _ hb)
  have hHDl : HD.length ≤ 20 ∧ HD ≠ [] := by
    rw [hHD]
    refine ⟨?_, by simp⟩
    have := l01_bytes tk
    have := l01_bytes tr
    simp only [List.length_append, List.length_cons, List.length_nil]
    omega
  have HHD : Hid (HD = [] ++ [UInt8.ofNat kd] ++ [UInt8.ofNat wk] ++ Pl.vb 8 tk ++ Pl.vb 8 tr) := by show _ = _; rw [hHD]; simp
  have htl := l01_bytes tk
  have hbw : Below w.heap.size w (w.alloc (.cells #[.int .i64 (kd : Int), .int .i64 (wk : Int), .int .i64 (tk : Int), .int .i64 (tr : Int), .string bo] 27)) := (Below.refl _ _).alloc (Nat.le_refl _) _
  have q0 := heap_alloc_new w (.cells #[.int .i64 (kd : Int), .int .i64 (wk : Int), .int .i64 (tk : Int), .int .i64 (tr : Int), .string bo] 27)
  have HQ := hidOfT (And.intro hbw q0)
  clear hV hY1 hY2 hX hbw q0 HRL HY hHD hbo
  go_enter Tryd.func8, Tryd.ntmps8
  go_wp2_with fail
  generalize w.alloc (.cells #[.int .i64 (kd : Int), .int .i64 (wk : Int), .int .i64 (tk : Int), .int .i64 (tr : Int), .string bo] 27) = W0 at *
  refine (CO.out _).mono ?_
  rintro e w1 ⟨rfl, hb1⟩
  have q1 := (hb1.block _ (blk_lt HQ.out.2)).trans HQ.out.2
  obtain ⟨b, hb⟩ : ∃ b, b = w1.heap.size := ⟨_, rfl⟩
  have hlb : w.heap.size < b := by rw [hb]; exact blk_lt q1
  have HBW : Hid (∀ W, Below b w1 W → b ≤ W.heap.size) := fun W hW => by rw [hb]; exact hW.size
  have HC : Hid (∀ W, Below b w1 W → W.heap[w.heap.size]? = some (.cells #[.int .i64 (kd : Int), .int .i64 (wk : Int), .int .i64 (tk : Int), .int .i64 (tr : Int), .string bo] 27 (0, 0)) ∧ Below w.heap.size w W) := fun W hb' => ⟨(hb'.block _ hlb).trans q1, (HQ.out.1.trans (hb1.mono HQ.out.1.size)).trans (hb'.mono (Nat.le_of_lt hlb))⟩
  have HN0 : Hid (Bw b (w1.alloc (.cells #[.pointer none, .slice none 0 0] 43)) []) := by rw [hb]; exact Bw.new w1
  have HBN : Hid (Below b w1 (w1.alloc (.cells #[.pointer none, .slice none 0 0] 43))) := (Below.refl _ _).alloc (by omega) _
  have CN : Hid (∀ (W : World) (L : List UInt8) (k : Nat), Bw b W L → L.length ≤ 100 → k ≤ 1000000000 → Calls Tryd.prog 17 #[.pointer (some ⟨b, 0, none⟩), .int .i64 (k : Int)] W fun e w' => e = .returned (.tuple #[]) ∧ Bw b w' (L ++ Pl.vb 8 k) ∧ Below b W w') := fun W L k h hl hk => bwNumber b L k W h (by omega) hk
  have CB : Hid (∀ (W : World) (L : List UInt8) (k : Nat), Bw b W L → L.length ≤ 100 → k ≤ 255 → Calls Tryd.prog 16 #[.pointer (some ⟨b, 0, none⟩), .int .i64 (k : Int)] W fun e w' => e = .returned (.tuple #[]) ∧ Bw b w' (L ++ [UInt8.ofNat k]) ∧ Below b W w' ∧ Ok5 b W w') := fun W L k h hl hk => bwOne b L k W h (by omega) hk
  obtain ⟨R, -⟩ := HC.out _ HBN.out
  have z0 := (blk_cell R 0).trans rfl
  clear hb1 q1 CO HQ R
  go_wp2_with fail
  rw [← hb] at *
  generalize w1.alloc (.cells #[.pointer none, .slice none 0 0] 43) = W1 at *
  refine (CB.out _ [] kd HN0.out (by simp) (by omega)).mono ?_
  rintro e w2 ⟨rfl, hn2, hb2, -⟩
  have HN2 := hidOfT hn2
  have HB2 := hidOfT (HBN.out.trans hb2)
  obtain ⟨R, -⟩ := HC.out _ HB2.out
  have z1 := (blk_cell R 1).trans rfl
  clear hn2 hb2 HN0 HBN R z0
  go_wp2_with fail
  refine (CB.out _ _ wk HN2.out (by simp) (by omega)).mono ?_
  rintro e w3 ⟨rfl, hn3, hb3, -⟩
  have HN3 := hidOfT hn3
  have HB3 := hidOfT (HB2.out.trans hb3)
  obtain ⟨R, -⟩ := HC.out _ HB3.out
  have z2 := (blk_cell R 2).trans rfl
  clear hn3 hb3 HN2 HB2 R z1
  go_wp2_with fail
  refine (CN.out _ _ tk HN3.out (by simp) (by omega)).mono ?_
  rintro e w4 ⟨rfl, hn4, hb4⟩
  have HN4 := hidOfT hn4
  have HB4 := hidOfT (HB3.out.trans hb4)
  obtain ⟨R, -⟩ := HC.out _ HB4.out
  have z3 := (blk_cell R 3).trans rfl
  clear hn4 hb4 HN3 HB3 R z2
  go_wp2_with fail
  refine (CN.out _ _ tr HN4.out (by simp only [List.length_append, List.length_cons, List.length_nil]; omega) (by omega)).mono ?_
  rintro e w5 ⟨rfl, hn5, hb5⟩
  rw [← HHD.out] at hn5
  have HN5 := hidOfT hn5
  have HB5 := hidOfT (HB4.out.trans hb5)
  clear hn5 hb5 HN4 HB4 z3
  have CT : Hid (∀ W, Below w5.heap.size w5 W → Calls Tryd.prog 20 #[.pointer (some ⟨b, 0, none⟩)] W fun e w' => e = .returned (.string ⟨HD.toArray⟩) ∧ Below b W w') := fun W hb => bwText b HD W (HN5.out.keep hb) hHDl.2 (by omega)
  obtain ⟨R, -⟩ := HC.out _ HB5.out
  have z4 : w5.drew.cell? ⟨w.heap.size, 4, none⟩ = some (.string bo) := (blk_cell R 4).trans rfl
  have hs5 := HB5.out.size
  clear R
  go_wp2_with fail
  refine wp_region_noPanic ?_
  refine wp_region_held_drew (S := (fun W' => W'.cell? ⟨w.heap.size, 4, none⟩ = some (.string bo) ∧ Hid (Below b w1 W'))) (by kernel_rfl) ⟨z4, HB5.out.drew⟩ (fun _ => ?_)
  have HSS : Hid (w5.drew.cell? ⟨w.heap.size, 4, none⟩ = some (.string bo) ∧ Hid (Below b w1 w5.drew)) := ⟨z4, HB5.out.drew⟩
  clear z4
  refine wpAnyH_take (i := 0) (v := ?_) rfl (by kernel_rfl) (by kernel_rfl) (by kernel_rfl) (fun _ _ _ h => h) (Or.inl ⟨by kernel_rfl, ?_⟩) HSS.out ?_
  rotate_left
  · (intro u9 hSw; (try dsimp only at hSw); go_simp; try with_reducible rfl)
  show wpAnyH _ _ _ _ _ _ _ (Act.put _ (some 26) _) _
  (try simp only [Act.put]); (try simp only [List.setIfInBounds_toArray]); (try simp only [List.set_cons_succ, List.set_cons_zero])
  refine wpAnyH_take (i := 1) (v := ?_) rfl (by kernel_rfl) (by kernel_rfl) (by kernel_rfl) (fun _ _ _ h => h) (Or.inl ⟨by kernel_rfl, ?_⟩) HSS.out ?_
  rotate_left
  · (intro u9 hSw; (try dsimp only at hSw); go_simp; try with_reducible rfl)
  show wpAnyH _ _ _ _ _ _ _ (Act.put _ (some 27) _) _
  (try simp only [Act.put]); (try simp only [List.setIfInBounds_toArray]); (try simp only [List.set_cons_succ, List.set_cons_zero])
  refine wpAnyH_take (i := 2) (v := ?_) rfl (by kernel_rfl) (by kernel_rfl) (by kernel_rfl) (fun _ _ _ h => h) (Or.inl ⟨by kernel_rfl, ?_⟩) HSS.out ?_
  rotate_left
  · (intro u9 hSw; (try dsimp only at hSw); go_simp; try with_reducible rfl)
  show wpAnyH _ _ _ _ _ _ _ (Act.put _ (some 28) _) _
  (try simp only [Act.put]); (try simp only [List.setIfInBounds_toArray]); (try simp only [List.set_cons_succ, List.set_cons_zero])
  refine wpAnyH_take (i := 4) (v := ?_) rfl (by kernel_rfl) (by kernel_rfl) (by kernel_rfl) (fun _ _ _ h => h) (Or.inl ⟨by kernel_rfl, ?_⟩) HSS.out ?_
  rotate_left
  · (intro u9 hSw; (try dsimp only at hSw); go_simp; try with_reducible rfl)
  show wpAnyH _ _ _ _ _ _ _ (Act.put _ (some 30) _) _
  (try simp only [Act.put]); (try simp only [List.setIfInBounds_toArray]); (try simp only [List.set_cons_succ, List.set_cons_zero])
  refine wpAnyH_take (i := 5) (v := ?_) rfl (by kernel_rfl) (by kernel_rfl) (by kernel_rfl) (fun _ _ _ h => h) (Or.inl ⟨by kernel_rfl, ?_⟩) HSS.out ?_
  rotate_left
  · (intro u9 hSw; (try dsimp only at hSw); go_simp; try with_reducible rfl)
  show wpAnyH _ _ _ _ _ _ _ (Act.put _ (some 31) _) _
  (try simp only [Act.put]); (try simp only [List.setIfInBounds_toArray]); (try simp only [List.set_cons_succ, List.set_cons_zero])
  refine wpAnyH_ready (rs := [3]) (by kernel_rfl) (by simp) ?_
  refine AllReadyH.cons rfl (fun K hK => ?_) AllReadyH.nil
  go_simp
  go_at_call 20
  refine (CT.out _ (Below.refl _ _).drew).mono ?_
  rintro e w6 ⟨rfl, hb6⟩
  have HS2 : Hid (w6.cell? ⟨w.heap.size, 4, none⟩ = some (.string bo) ∧ Hid (Below b w1 w6)) := by
      have HBX : Below b w1 w6 := HSS.out.2.out.trans hb6
      exact ⟨(blk_cell (HC.out _ HBX).1 4).trans rfl, HBX⟩
  try dsimp only
  refine hK.out _ _ HS2.out (fun _ => ?_)
  clear hK K HSS
  have HSS := hidOfT HS2.out
  clear HS2
  have HB6 := hidOfT (show b ≤ w6.heap.size from HBW.out _ HSS.out.2.out)
  clear hb6
  try show wpAnyH _ _ _ _ _ _ _ (Act.put _ (some 29) _) _
  (try simp only [Act.put]); (try simp only [List.setIfInBounds_toArray]); (try simp only [List.set_cons_succ, List.set_cons_zero])
  refine wpAnyH_ready (rs := [6]) (by kernel_rfl) (by simp) ?_
  refine AllReadyH.cons rfl (fun K hK => ?_) AllReadyH.nil
  go_simp
  have HAL : Hid (Below b w6 (w6.alloc (.cells #[.string ⟨HD.toArray⟩, .string bo] 9))) := (Below.refl _ _).alloc HB6.out _
  have HS2 : Hid ((w6.alloc (.cells #[.string ⟨HD.toArray⟩, .string bo] 9)).cell? ⟨w.heap.size, 4, none⟩ = some (.string bo) ∧ Hid (Below b w1 (w6.alloc (.cells #[.string ⟨HD.toArray⟩, .string bo] 9)))) := by
      have HBX : Below b w1 (w6.alloc (.cells #[.string ⟨HD.toArray⟩, .string bo] 9)) := HSS.out.2.out.trans HAL.out
      exact ⟨(blk_cell (HC.out _ HBX).1 4).trans rfl, HBX⟩
  try dsimp only
  refine hK.out _ _ HS2.out (fun _ => ?_)
  clear hK K HSS
  have HSS := hidOfT HS2.out
  clear HS2
  clear HAL
  (try simp only [Act.put]); (try simp only [List.setIfInBounds_toArray]); (try simp only [List.set_cons_succ, List.set_cons_zero])
  have q6 := heap_alloc_new w6 (.cells #[.string ⟨HD.toArray⟩, .string bo] 9)
  have CTG := hidOfT (together_any [⟨HD.toArray⟩, bo] w6.heap.size 2 _ 9 (w6.alloc (.cells #[.string ⟨HD.toArray⟩, .string bo] 9)) q6 (by intro i hi; match i, hi with | 0, _ => rfl | 1, _ => rfl) (by simp) (by simp [Tg.all]; omega))
  have HB7 := hidOfT (show b ≤ (w6.alloc (.cells #[.string ⟨HD.toArray⟩, .string bo] 9)).heap.size by have := HB6.out; simp; omega)
  clear q6
  refine wpAnyH_ready (rs := [7]) (by kernel_rfl) (by simp) ?_
  refine AllReadyH.cons rfl (fun K hK => ?_) AllReadyH.nil
  go_simp
  go_at_call 19
  refine CTG.out.mono ?_
  rintro e w7 ⟨rfl, hb7⟩
  have HS2 : Hid (w7.cell? ⟨w.heap.size, 4, none⟩ = some (.string bo) ∧ Hid (Below b w1 w7)) := by
      have HBX : Below b w1 w7 := HSS.out.2.out.trans (hb7.mono HB7.out)
      exact ⟨(blk_cell (HC.out _ HBX).1 4).trans rfl, HBX⟩
  try dsimp only
  refine hK.out _ _ HS2.out (fun _ => ?_)
  clear hK K HSS
  have HSS := hidOfT HS2.out
  clear HS2
  clear hb7 CTG
  try show wpAnyH _ _ _ _ _ _ _ (Act.put _ (some 33) _) _
  (try simp only [Act.put]); (try simp only [List.setIfInBounds_toArray]); (try simp only [List.set_cons_succ, List.set_cons_zero])
  refine wpAnyH_ready (rs := [8]) (by kernel_rfl) (by simp) ?_
  refine AllReadyH.cons rfl (fun K hK => ?_) AllReadyH.nil
  go_simp
  go_at_call 18
  refine (CSE.out _ (HC.out _ HSS.out.2.out).2).mono ?_
  rintro e w8 ⟨rfl, hb8⟩
  have HS2 : Hid (w8.cell? ⟨w.heap.size, 4, none⟩ = some (.string bo) ∧ Hid (Below b w1 w8)) := by
      have HBX : Below b w1 w8 := HSS.out.2.out.trans (hb8.mono (HBW.out _ HSS.out.2.out))
      exact ⟨(blk_cell (HC.out _ HBX).1 4).trans rfl, HBX⟩
  try dsimp only
  refine hK.out _ _ HS2.out (fun _ => ?_)
  clear hK K HSS
  have HSS := hidOfT HS2.out
  clear HS2
  clear hb8
  try show wpAnyH _ _ _ _ _ _ _ (Act.put _ (some 34) _) _
  (try simp only [Act.put]); (try simp only [List.setIfInBounds_toArray]); (try simp only [List.set_cons_succ, List.set_cons_zero])
  refine wpAnyH_take (i := 9) (v := ?_) rfl (by kernel_rfl) (by kernel_rfl) (by kernel_rfl) (fun _ _ _ h => h) (Or.inl ⟨by kernel_rfl, ?_⟩) HSS.out ?_
  rotate_left
  · (intro u9 hSw; (try dsimp only at hSw); go_simp; try with_reducible rfl)
  show wpAnyH _ _ _ _ _ _ _ (Act.put _ (some 35) _) _
  (try simp only [Act.put]); (try simp only [List.setIfInBounds_toArray]); (try simp only [List.set_cons_succ, List.set_cons_zero])
  refine wpAnyH_take (i := 10) (v := ?_) rfl (by kernel_rfl) (by kernel_rfl) (by kernel_rfl) (fun _ _ _ h => h) (Or.inl ⟨by kernel_rfl, ?_⟩) HSS.out ?_
  rotate_left
  · (intro u9 hSw; (try dsimp only at hSw); go_simp; try with_reducible rfl)
  show wpAnyH _ _ _ _ _ _ _ (Act.put _ (some 36) _) _
  (try simp only [Act.put]); (try simp only [List.setIfInBounds_toArray]); (try simp only [List.set_cons_succ, List.set_cons_zero])
  refine wpAnyH_take (i := 11) (v := ?_) rfl (by kernel_rfl) (by kernel_rfl) (by kernel_rfl) (fun _ _ _ h => h) (Or.inl ⟨by kernel_rfl, ?_⟩) HSS.out ?_
  rotate_left
  · (intro u9 hSw; (try dsimp only at hSw); go_simp; try with_reducible rfl)
  show wpAnyH _ _ _ _ _ _ _ (Act.put _ (some 2) _) _
  (try simp only [Act.put]); (try simp only [List.setIfInBounds_toArray]); (try simp only [List.set_cons_succ, List.set_cons_zero])
  refine wpAnyH_take (i := 12) (v := ?_) rfl (by kernel_rfl) (by kernel_rfl) (by kernel_rfl) (fun _ _ _ h => h) (Or.inl ⟨by kernel_rfl, ?_⟩) HSS.out ?_
  rotate_left
  · (intro u9 hSw; (try dsimp only at hSw); go_simp; try with_reducible rfl)
  show wpAnyH _ _ _ _ _ _ _ (Act.put _ (some 3) _) _
  (try simp only [Act.put]); (try simp only [List.setIfInBounds_toArray]); (try simp only [List.set_cons_succ, List.set_cons_zero])
  refine wpAnyH_done (by kernel_rfl) ?_ _
  refine NoPanic.normal ?_
  go_wp2
  go_ret2
  exact ⟨by first | rfl | kernel_rfl, (HC.out _ HSS.out.2.out).2⟩
end Go.Proofs.YtdkenmpdgadcpaaDoor
