/- At every draw: a number is one to six figures, and nothing else; numbers that are told are. -/
import Derived.Test.YtchieahfellcbabVNum
import Derived.Test.YtchieahfellcbabPW
import Derived.Test.YtchieahfellcbabWDec3
import Derived.Test.YtchieahfellcbabDP
import Derived.Test.YtchieahfellcbabDIsNum
import Derived.Test.YtchieahfellcbabBig
namespace Go.Proofs.Ytchieahfellcbab
open Go.RowKit

theorem isNum_at (s : ByteArray) (b : Bool) (hs : s.size ≤ 2097152) (hb : Pv.isn s.data.toList = b) : ∀ w, Calls Try.prog 9 #[.string s] w fun e w' => e = .returned (.bool b) ∧ w' = w := fun w => by
  subst hb
  exact implIsNum_any s w hs

set_option maxHeartbeats 1000000 in
set_option maxRecDepth 100000 in
theorem lawIsNums (ad : Option Addr) (n cap : Nat) (w : World) (hc : n ≤ 1048576 → Code w ad n) :
    Calls Try.prog 3 #[.slice ad n cap] w fun e w' => e = .returned (.bool true) ∧ Below w.heap.size w w' := by
  by_cases hbig : 1048576 < n
  · have CB : Hid _ := big_yes ad n cap hbig
    clear hc
    go_enter Try.func3, Try.ntmps3
    go_wp2_with fail
    refine Calls.mono (CB.out _) ?_
    rintro e w' ⟨rfl, rfl⟩
    go_wp2
    go_ret
    exact ⟨rfl, Below.refl _ _⟩
  have CB : Hid (∀ w, Calls Try.prog 5 #[.slice ad n cap] w fun e w' => e = .returned (.bool false) ∧ w' = w) := big_no ad n cap hbig
  have HC : Hid (Code w ad n) := hc (by omega)
  have hn : n ≤ 1048576 := by omega
  clear hc hbig
  go_enter Try.func3, Try.ntmps3
  go_wp2_with fail
  refine (CB.out _).mono ?_
  rintro e w0 ⟨rfl, rfl⟩
  go_wp2_with fail
  refine (dIsNum_any ad n cap w0 hn HC.out).mono ?_
  rintro e w1 ⟨l, hl, rfl, b1⟩
  have B1 : Hid (Below w0.heap.size w0 w1) := b1
  clear b1
  obtain ⟨s, hs⟩ : ∃ s : ByteArray, s = ⟨l.toArray⟩ := ⟨_, rfl⟩
  have hss : s.size ≤ 42 := by rw [hs]; exact hl
  rw [← hs]
  clear hs hl
  have C1 : Hid (∀ w, Calls Try.prog 9 #[.string s] w fun e w' => e = .returned (.bool (Pv.isn s.data.toList)) ∧ w' = w) := fun w => implIsNum_any s w (by omega)
  have C2 : Hid (∀ w, Calls Try.prog 10 #[.string s] w fun e w' => e = .returned (.bool (Pv.isn s.data.toList)) ∧ w' = w) := fun w => specIsNum_any s w (by omega)
  generalize Pv.isn s.data.toList = b at *
  go_wp2_with fail
  refine (drawPlaces_any ad n cap w1 hn (HC.out.keep B1.out)).mono ?_
  rintro e w2 ⟨gp, cp, zs, hzl, hz, rfl, hgp, hgp2, hzc, b2⟩
  have B2 : Hid (Below w0.heap.size w0 w2) := B1.out.trans (b2.mono B1.out.size)
  have z0 := hzc 0 (by decide)
  have hz0 := hz 0
  generalize zs.getD 0 0 = p0 at z0 hz0
  clear b2 hzc hz hzl
  go_wp2_with fail
  refine (specDecimal_any (p0 : Int) w2 (by omega) (by omega)).mono ?_
  rintro e w3 ⟨rfl, b3⟩
  have B3 : Hid (Below w0.heap.size w0 w3) := B2.out.trans (b3.mono B2.out.size)
  clear b3 z0
  obtain ⟨t, ht⟩ : ∃ t : ByteArray, t = ⟨(Pl.decL (p0 : Int)).toArray⟩ := ⟨_, rfl⟩
  have htl : t.data.toList = Pl.decL (p0 : Int) := by rw [ht]
  have hts : t.size ≤ 6 := by
    have := Pv.decL_len p0 6 (by omega) (by omega)
    rw [← htl, len_size] at this
    exact this
  rw [← ht]
  have C3 : Hid (∀ w, Calls Try.prog 9 #[.string t] w fun e w' => e = .returned (.bool true) ∧ w' = w) := isNum_at t true (by omega) (by rw [htl]; exact Pv.isn_decL p0 (by omega))
  have C4 : Hid (∀ w, Calls Try.prog 9 #[.string (t ++ ⟨#[120]⟩)] w fun e w' => e = .returned (.bool false) ∧ w' = w) :=
    isNum_at _ false (by rw [app_size]; have : (⟨#[120]⟩ : ByteArray).size = 1 := rfl; omega) (Pv.isn_bad _ 120 (by rw [app_data]; simp) (by decide))
  have C5 : Hid (∀ w, Calls Try.prog 9 #[.string ((⟨#[32]⟩ : ByteArray) ++ t)] w fun e w' => e = .returned (.bool false) ∧ w' = w) :=
    isNum_at _ false (by rw [app_size]; have : (⟨#[32]⟩ : ByteArray).size = 1 := rfl; omega) (Pv.isn_bad _ 32 (by rw [app_data]; simp) (by decide))
  have C6 : Hid (∀ w, Calls Try.prog 9 #[.string ⟨#[]⟩] w fun e w' => e = .returned (.bool false) ∧ w' = w) := isNum_at _ false (by decide) (by decide)
  have C7 : Hid (∀ w, Calls Try.prog 9 #[.string ⟨#[49, 50, 51, 52, 53, 54, 55]⟩] w fun e w' => e = .returned (.bool false) ∧ w' = w) := isNum_at _ false (by decide) (by decide)
  have C8 : Hid (∀ w, Calls Try.prog 9 #[.string ⟨#[49, 50, 51, 52, 53, 54]⟩] w fun e w' => e = .returned (.bool true) ∧ w' = w) := isNum_at _ true (by decide) (by decide)
  clear ht htl hz0
  cases b
  all_goals
    go_wp2_with fail
    refine (C1.out _).mono ?_
    rintro e w4 ⟨rfl, rfl⟩
    go_wp2_with fail
    refine (C2.out _).mono ?_
    rintro e w4 ⟨rfl, rfl⟩
    go_wp2_with fail
    refine (C3.out _).mono ?_
    rintro e w4 ⟨rfl, rfl⟩
    go_wp2_with fail
    refine (C4.out _).mono ?_
    rintro e w4 ⟨rfl, rfl⟩
    go_wp2_with fail
    refine (C5.out _).mono ?_
    rintro e w4 ⟨rfl, rfl⟩
    go_wp2_with fail
    refine (C6.out _).mono ?_
    rintro e w4 ⟨rfl, rfl⟩
    go_wp2_with fail
    refine (C7.out _).mono ?_
    rintro e w4 ⟨rfl, rfl⟩
    go_wp2_with fail
    refine (C8.out _).mono ?_
    rintro e w4 ⟨rfl, rfl⟩
    go_wp2
    go_ret
    exact ⟨rfl, B3.out⟩
#print axioms lawIsNums
end Go.Proofs.Ytchieahfellcbab
