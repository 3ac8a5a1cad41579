/- At every draw: a number is told, and read back; a text is cut to so many bytes, and stays then; wherever the library's table of powers of ten is as its text lays it. -/
import Derived.Test.YtchieahfellcbaaDoorVOfI
import Derived.Test.YtchieahfellcbaaDoorVText
import Derived.Test.YtchieahfellcbaaDoorPW
import Derived.Test.YtchieahfellcbaaDoorDP
import Derived.Test.YtchieahfellcbaaDoorDCut
import Derived.Test.YtchieahfellcbaaDoorVBeg
namespace Go.Proofs.YtchieahfellcbaaDoor
open Go.RowKit

theorem numOf_at (s : ByteArray) (k : Nat) (hs : s.size ≤ 2097152) (hk : Pv.nof s.data.toList = k) : ∀ w, Calls Tryd.prog 29 #[.string s] w fun e w' => e = .returned (.int .i64 (k : Int)) ∧ w' = w := fun w => by
  subst hk
  exact implNumOf_any s w hs
theorem isNum_at (s : ByteArray) (b : Bool) (hs : s.size ≤ 2097152) (hb : Pv.isn s.data.toList = b) : ∀ w, Calls Tryd.prog 30 #[.string s] w fun e w' => e = .returned (.bool b) ∧ w' = w := fun w => by
  subst hb
  exact implIsNum_any s w hs
/-- What NumText answers is the numeral of a number below 1000000. -/
theorem ntL_nat (m : Int) : ∃ k : Nat, k < 1000000 ∧ ntL m = Pl.decL (k : Int) ∧ (k : Int) = m % 1000000 := by
  refine ⟨(m % 1000000).toNat, by omega, ?_, by omega⟩
  unfold ntL
  rw [show (((m % 1000000).toNat : Nat) : Int) = m % 1000000 by omega]
theorem tab_keep {w w' : World} (ht : Lib.TabIs Tryd.prog w "internal/strconv.uint64pow10" .u64 Lib.pow10Tab) (hb : Below w.heap.size w w') : Lib.TabIs Tryd.prog w' "internal/strconv.uint64pow10" .u64 Lib.pow10Tab :=
  var?_below hb gPow (lt_of_tab ht) ht

set_option maxHeartbeats 1600000 in
set_option maxRecDepth 100000 in
theorem lawValues (ad : Option Addr) (n cap : Nat) (w : World) (hc : n ≤ 1048576 → Code w ad n) (ht : Lib.TabIs Tryd.prog w "internal/strconv.uint64pow10" .u64 Lib.pow10Tab) :
    Calls Tryd.prog 5 #[.slice ad n cap] w fun e w' => e = .returned (.bool true) ∧ Below w.heap.size w w' := by
  by_cases hbig : 1048576 < n
  · have CB : Hid _ := big_yes ad n cap hbig
    clear hc ht
    go_enter Tryd.func5, Tryd.ntmps5
    go_wp2_with fail
    refine Calls.mono (CB.out _) ?_
    rintro e w' ⟨rfl, rfl⟩
    go_wp2
    go_ret
    exact ⟨rfl, Below.refl _ _⟩
  have CB : Hid (∀ w, Calls Tryd.prog 8 #[.slice ad n cap] w fun e w' => e = .returned (.bool false) ∧ w' = w) := big_no ad n cap hbig
  have HC : Hid (Code w ad n) := hc (by omega)
  have HT : Hid (Lib.TabIs Tryd.prog w "internal/strconv.uint64pow10" .u64 Lib.pow10Tab) := ht
  have hn : n ≤ 1048576 := by omega
  clear hc hbig ht
  go_enter Tryd.func5, Tryd.ntmps5
  go_wp2_with fail
  refine (CB.out _).mono ?_
  rintro e w0 ⟨rfl, rfl⟩
  go_wp2_with fail
  refine (drawPlaces_any ad n cap w0 hn HC.out).mono ?_
  rintro e w1 ⟨gp, cp, zs, hzl, hz, rfl, hgp, hgp2, hzc, b1⟩
  have B1 : Hid (Below w0.heap.size w0 w1) := b1
  have z0 := hzc 0 (by decide)
  have z1 := hzc 1 (by decide)
  have hz0 := hz 0
  have hz1 := hz 1
  generalize zs.getD 0 0 = p0 at z0 hz0
  generalize zs.getD 1 0 = p1 at z1 hz1
  clear b1 hzc hz hzl
  obtain ⟨k, hk⟩ : ∃ k : Nat, k = p0 * 100 + p1 % 100 := ⟨_, rfl⟩
  have HKZ : Hid ((p0 : Int) * 100 + (p1 : Int) % 100 = (k : Int)) := by show _ = _; omega
  have hkl : k < 1000000 := by omega
  clear hk
  have i0 : (0 : Int) < 12 := by decide
  have i1 : (1 : Int) < 12 := by decide
  go_wp2_with fail
  go_quiet (fail)
  go_wp2_with fail
  rw [HKZ.out]
  refine (dCut_any ad n cap _ hn (HC.out.keep (below_drewN B1.out _))).mono ?_
  rintro e w2 ⟨l, hl, rfl, b2⟩
  have B2 : Hid (Below w0.heap.size w0 w2) := (below_drewN B1.out _).trans (b2.mono B1.out.size)
  clear b2 z0 z1 B1
  obtain ⟨s, hs⟩ : ∃ s : ByteArray, s = ⟨l.toArray⟩ := ⟨_, rfl⟩
  have hss : s.size ≤ 60 := by rw [hs]; exact hl
  rw [← hs]
  clear hs hl
  go_wp2_with fail
  refine (dNumText_any ad n cap w2 hn (HC.out.keep B2.out)).mono ?_
  rintro e w3 ⟨m, hm, rfl, b3⟩
  have B3 : Hid (Below w0.heap.size w0 w3) := B2.out.trans (b3.mono B2.out.size)
  clear b3 B2
  obtain ⟨j, hj, hjt, _⟩ := ntL_nat m
  obtain ⟨t, htt⟩ : ∃ t : ByteArray, t = ⟨(ntL m).toArray⟩ := ⟨_, rfl⟩
  have htl : t.data.toList = Pl.decL (j : Int) := by rw [htt, ← hjt]
  have hts : t.size ≤ 6 := by
    have := Pv.decL_len j 6 (by omega) (by omega)
    rw [← htl, len_size] at this
    exact this
  have CN : Hid (∀ w1, Below w0.heap.size w0 w1 → Calls Tryd.prog 27 #[.int .i64 m] w1 fun e w' => e = .returned (.string t) ∧ Below w1.heap.size w1 w') := by
    intro w1 hb
    rw [htt]
    exact implNumText_any m w1 hm.1 hm.2 (tab_keep HT.out hb)
  have CS : Hid (∀ w1, Calls Tryd.prog 31 #[.int .i64 m] w1 fun e w' => e = .returned (.string t) ∧ Below w1.heap.size w1 w') := by
    intro w1
    rw [htt]
    exact specNumText_any m w1 hm.1 hm.2
  have CI : Hid (∀ w, Calls Tryd.prog 30 #[.string t] w fun e w' => e = .returned (.bool true) ∧ w' = w) := isNum_at t true (by omega) (by rw [htl]; exact Pv.isn_decL j hj)
  clear htl htt hjt hm hj
  go_wp2_with fail
  refine (CN.out w3 B3.out).mono ?_
  rintro e w4 ⟨rfl, b4⟩
  have B4 : Hid (Below w0.heap.size w0 w4) := B3.out.trans (b4.mono B3.out.size)
  clear b4 B3
  obtain ⟨c, hcc⟩ : ∃ c : ByteArray, c = ⟨(Pv.cut s.data.toList).toArray⟩ := ⟨_, rfl⟩
  have hcl : c.data.toList = Pv.cut s.data.toList := by rw [hcc]
  have hcs : c.size ≤ 40 := by rw [← len_size, hcl]; exact Pv.cut_len _
  have hcs2 : c.size ≤ s.size := by
    rw [← len_size, ← len_size, hcl]
    unfold Pv.cut
    rw [List.length_take]
    omega
  have CC : Hid (∀ w, Calls Tryd.prog 28 #[.string s] w fun e w' => e = .returned (.string c) ∧ Below w.heap.size w w') := by
    intro w
    rw [hcc]
    exact implCut_any s w (by omega)
  have CD : Hid (∀ w, Calls Tryd.prog 28 #[.string c] w fun e w' => e = .returned (.string c) ∧ Below w.heap.size w w') := by
    intro w
    have := implCut_any c w (by omega)
    rwa [hcl, Pv.cut_cut, ← hcc] at this
  have CG : Hid (∀ w, Calls Tryd.prog 32 #[.string c, .string s] w fun e w' => e = .returned (.bool true) ∧ w' = w) := by
    intro w
    refine begins_cut s c w hcs2 ?_
    have hlen : c.size = (Pv.cut s.data.toList).length := by rw [← len_size, hcl]
    rw [take_str s _ hcs2, hlen, hcc]
    congr 2
    unfold Pv.cut
    rw [List.length_take]
    by_cases h : 40 ≤ s.data.toList.length
    · rw [Nat.min_eq_left h]
    · rw [Nat.min_eq_right (by omega), List.take_of_length_le (Nat.le_refl _), List.take_of_length_le (by omega)]
  have hsame : s.size ≤ 40 → c = s := by
    intro h
    rw [hcc, Pv.cut_short _ (by rw [len_size]; exact h)]
  clear hcl hcc
  go_wp2_with fail
  refine (CC.out w4).mono ?_
  rintro e w5 ⟨rfl, b5⟩
  have B5 : Hid (Below w0.heap.size w0 w5) := B4.out.trans (b5.mono B4.out.size)
  clear b5 B4
  obtain ⟨x, hx⟩ : ∃ x : ByteArray, x = ⟨(ntL (k : Int)).toArray⟩ := ⟨_, rfl⟩
  have hxl : x.data.toList = Pl.decL (k : Int) := by
    rw [hx]
    unfold ntL
    rw [show (k : Int) % 1000000 = (k : Int) by omega]
  have hxs : x.size ≤ 6 := by
    have := Pv.decL_len k 6 (by omega) (by omega)
    rw [← hxl, len_size] at this
    exact this
  have C1 : Hid (∀ w1, Below w0.heap.size w0 w1 → Calls Tryd.prog 27 #[.int .i64 (k : Int)] w1 fun e w' => e = .returned (.string x) ∧ Below w1.heap.size w1 w') := by
    intro w1 hb
    rw [hx]
    exact implNumText_any (k : Int) w1 (by omega) (by omega) (tab_keep HT.out hb)
  have C2 : Hid (∀ w, Calls Tryd.prog 29 #[.string x] w fun e w' => e = .returned (.int .i64 (k : Int)) ∧ w' = w) := numOf_at x k (by omega) (by rw [hxl]; exact Pv.nof_dec k hkl)
  obtain ⟨y, hy⟩ : ∃ y : ByteArray, y = ⟨(ntL (-(k : Int))).toArray⟩ := ⟨_, rfl⟩
  have C3 : Hid (∀ w1, Below w0.heap.size w0 w1 → Calls Tryd.prog 27 #[.int .i64 (-(k : Int))] w1 fun e w' => e = .returned (.string y) ∧ Below w1.heap.size w1 w') := by
    intro w1 hb
    rw [hy]
    exact implNumText_any (-(k : Int)) w1 (by omega) (by omega) (tab_keep HT.out hb)
  have C4 : Hid (∀ w1, Below w0.heap.size w0 w1 → Calls Tryd.prog 27 #[.int .i64 (1000000 - (k : Int))] w1 fun e w' => e = .returned (.string y) ∧ Below w1.heap.size w1 w') := by
    intro w1 hb
    have e : ntL (-(k : Int)) = ntL (1000000 - (k : Int)) := by
      unfold ntL
      congr 1
      omega
    rw [hy, e]
    exact implNumText_any (1000000 - (k : Int)) w1 (by omega) (by omega) (tab_keep HT.out hb)
  clear hx hxl hy HKZ i0 i1
  go_wp2_with fail
  refine (C1.out w5 B5.out).mono ?_
  rintro e w6 ⟨rfl, b6⟩
  have B6 : Hid (Below w0.heap.size w0 w6) := B5.out.trans (b6.mono B5.out.size)
  clear b6 B5
  go_wp2_with fail
  refine (C2.out w6).mono ?_
  rintro e w6 ⟨rfl, rfl⟩
  go_wp2_with fail
  refine (C3.out w6 B6.out).mono ?_
  rintro e w7 ⟨rfl, b7⟩
  have B7 : Hid (Below w0.heap.size w0 w7) := B6.out.trans (b7.mono B6.out.size)
  clear b7 B6
  go_wp2_with fail
  refine (C4.out w7 B7.out).mono ?_
  rintro e w8 ⟨rfl, b8⟩
  have B8 : Hid (Below w0.heap.size w0 w8) := B7.out.trans (b8.mono B7.out.size)
  clear b8 B7
  go_wp2_with fail
  refine (CI.out w8).mono ?_
  rintro e w8 ⟨rfl, rfl⟩
  go_wp2_with fail
  refine (CS.out w8).mono ?_
  rintro e w9 ⟨rfl, b9⟩
  have B9 : Hid (Below w0.heap.size w0 w9) := B8.out.trans (b9.mono B8.out.size)
  clear b9 B8
  go_wp2_with fail
  refine (CG.out w9).mono ?_
  rintro e w9 ⟨rfl, rfl⟩
  have d40 : decide ((c.size : Int) ≤ 40) = true := by simp; omega
  go_wp2_with fail
  refine (CD.out w9).mono ?_
  rintro e w10 ⟨rfl, b10⟩
  have BX : Hid (Below w0.heap.size w0 w10) := B9.out.trans (b10.mono B9.out.size)
  clear b10 B9
  by_cases h40 : 40 < s.size
  · have d41 : decide ((40 : Int) < (s.size : Int)) = true := by simp; omega
    clear hsame
    go_wp2
    go_ret
    exact ⟨rfl, BX.out⟩
  · have d41 : decide ((40 : Int) < (s.size : Int)) = false := by simp; omega
    obtain rfl := hsame (by omega)
    go_wp2
    go_ret
    exact ⟨rfl, BX.out⟩
#print axioms lawValues
end Go.Proofs.YtchieahfellcbaaDoor
