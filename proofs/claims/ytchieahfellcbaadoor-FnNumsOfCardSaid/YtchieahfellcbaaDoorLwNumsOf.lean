/- At every draw: the number of a text is that of its first figures, behind blanks; what stands behind changes nothing. -/
import Derived.Test.YtchieahfellcbaaDoorVOfI
import Derived.Test.YtchieahfellcbaaDoorPW
import Derived.Test.YtchieahfellcbaaDoorWDec3
import Derived.Test.YtchieahfellcbaaDoorDP
import Derived.Test.YtchieahfellcbaaDoorDNumOf
import Derived.Test.YtchieahfellcbaaDoorBig
namespace Go.Proofs.YtchieahfellcbaaDoor
open Go.RowKit

theorem numOf_at (s : ByteArray) (k : Nat) (hs : s.size ≤ 2097152) (hk : Pv.nof s.data.toList = k) : ∀ w, Calls Tryd.prog 29 #[.string s] w fun e w' => e = .returned (.int .i64 (k : Int)) ∧ w' = w := fun w => by
  subst hk
  exact implNumOf_any s w hs

set_option maxHeartbeats 1000000 in
set_option maxRecDepth 100000 in
theorem lawNumsOf (ad : Option Addr) (n cap : Nat) (w : World) (hc : n ≤ 1048576 → Code w ad n) :
    Calls Tryd.prog 6 #[.slice ad n cap] w fun e w' => e = .returned (.bool true) ∧ Below w.heap.size w w' := by
  by_cases hbig : 1048576 < n
  · have CB : Hid _ := big_yes ad n cap hbig
    clear hc
    go_enter Tryd.func6, Tryd.ntmps6
    go_wp2_with fail
    refine Calls.mono (CB.out _) ?_
    rintro e w' ⟨rfl, rfl⟩
    go_wp2
    go_ret
    exact ⟨rfl, Below.refl _ _⟩
  have CB : Hid (∀ w, Calls Tryd.prog 8 #[.slice ad n cap] w fun e w' => e = .returned (.bool false) ∧ w' = w) := big_no ad n cap hbig
  have HC : Hid (Code w ad n) := hc (by omega)
  have hn : n ≤ 1048576 := by omega
  clear hc hbig
  go_enter Tryd.func6, Tryd.ntmps6
  go_wp2_with fail
  refine (CB.out _).mono ?_
  rintro e w0 ⟨rfl, rfl⟩
  go_wp2_with fail
  refine (drawPlaces_any ad n cap w0 hn HC.out).mono ?_
  rintro e w2 ⟨gp, cp, zs, hzl, hz, rfl, hgp, hgp2, hzc, b2⟩
  have B2 : Hid (Below w0.heap.size w0 w2) := b2
  have z0 := hzc 0 (by decide)
  have hz0 := hz 0
  generalize zs.getD 0 0 = p0 at z0 hz0
  clear b2 hzc hz hzl
  go_wp2_with fail
  refine (dNumOf_any ad n cap w2 hn (HC.out.keep B2.out)).mono ?_
  rintro e w1 ⟨l, hl, rfl, b1⟩
  have B1 : Hid (Below w0.heap.size w0 w1) := B2.out.trans (b1.mono B2.out.size)
  clear b1 z0 B2
  obtain ⟨s, hs⟩ : ∃ s : ByteArray, s = ⟨l.toArray⟩ := ⟨_, rfl⟩
  have hss : s.size ≤ 42 := by rw [hs]; exact hl
  rw [← hs]
  clear hs hl
  have C1 : Hid (∀ w, Calls Tryd.prog 29 #[.string s] w fun e w' => e = .returned (.int .i64 (Pv.nof s.data.toList : Int)) ∧ w' = w) := fun w => implNumOf_any s w (by omega)
  have C2 : Hid (∀ w, Calls Tryd.prog 35 #[.string s] w fun e w' => e = .returned (.int .i64 (Pv.nof s.data.toList : Int)) ∧ w' = w) := fun w => specNumOf_any s w (by omega)
  have hb := Pv.nof_lt s.data.toList
  generalize Pv.nof s.data.toList = b at *
  go_wp2_with fail
  refine (specDecimal_any (p0 : Int) w1 (by omega) (by omega)).mono ?_
  rintro e w3 ⟨rfl, b3⟩
  have B3 : Hid (Below w0.heap.size w0 w3) := B1.out.trans (b3.mono B1.out.size)
  clear b3
  obtain ⟨t, ht⟩ : ∃ t : ByteArray, t = ⟨(Pl.decL (p0 : Int)).toArray⟩ := ⟨_, rfl⟩
  have htl : t.data.toList = Pl.decL (p0 : Int) := by rw [ht]
  have hts : t.size ≤ 6 := by
    have := Pv.decL_len p0 6 (by omega) (by omega)
    rw [← htl, len_size] at this
    exact this
  rw [← ht]
  have C3 : Hid (∀ w, Calls Tryd.prog 29 #[.string t] w fun e w' => e = .returned (.int .i64 (p0 : Int)) ∧ w' = w) := numOf_at t p0 (by omega) (by rw [htl]; exact Pv.nof_dec p0 (by omega))
  have C4 : Hid (∀ w, Calls Tryd.prog 29 #[.string ((⟨#[32, 32]⟩ : ByteArray) ++ t)] w fun e w' => e = .returned (.int .i64 (p0 : Int)) ∧ w' = w) :=
    numOf_at _ p0 (by rw [app_size]; have : (⟨#[32, 32]⟩ : ByteArray).size = 2 := rfl; omega) (by rw [app_data, htl]; exact Pv.nof_blanks p0 (by omega))
  have C5 : Hid (∀ w, Calls Tryd.prog 29 #[.string (t ++ ⟨#[120, 57]⟩)] w fun e w' => e = .returned (.int .i64 (p0 : Int)) ∧ w' = w) :=
    numOf_at _ p0 (by rw [app_size]; have : (⟨#[120, 57]⟩ : ByteArray).size = 2 := rfl; omega) (by rw [app_data, htl]; exact Pv.nof_behind p0 (by omega))
  have C6 : Hid (∀ w, Calls Tryd.prog 29 #[.string ((⟨#[120]⟩ : ByteArray) ++ t)] w fun e w' => e = .returned (.int .i64 0) ∧ w' = w) :=
    numOf_at _ 0 (by rw [app_size]; have : (⟨#[120]⟩ : ByteArray).size = 1 := rfl; omega) (by rw [app_data]; exact Pv.nof_sign _)
  have C7 : Hid (∀ w, Calls Tryd.prog 29 #[.string ⟨#[]⟩] w fun e w' => e = .returned (.int .i64 0) ∧ w' = w) := numOf_at _ 0 (by decide) (by decide)
  have C8 : Hid (∀ w, Calls Tryd.prog 29 #[.string (t ++ ⟨#[48, 48, 48, 48, 48, 48]⟩)] w fun e w' => e = .returned (.int .i64 0) ∧ w' = w) :=
    numOf_at _ 0 (by rw [app_size]; have : (⟨#[48, 48, 48, 48, 48, 48]⟩ : ByteArray).size = 6 := rfl; omega) (by rw [app_data, htl]; exact Pv.nof_noughts p0 (by omega))
  clear ht htl
  go_wp2_with fail
  refine (C3.out _).mono ?_
  rintro e w4 ⟨rfl, rfl⟩
  go_wp2_with fail
  refine (C4.out _).mono ?_
  rintro e w4 ⟨rfl, rfl⟩
  go_wp2_with fail
  refine (C5.out _).mono ?_
  rintro e w4 ⟨rfl, rfl⟩
  go_wp2_with fail
  refine (C6.out _).mono ?_
  rintro e w4 ⟨rfl, rfl⟩
  go_wp2_with fail
  refine (C1.out _).mono ?_
  rintro e w4 ⟨rfl, rfl⟩
  go_wp2_with fail
  refine (C2.out _).mono ?_
  rintro e w4 ⟨rfl, rfl⟩
  go_wp2_with fail
  refine (C7.out _).mono ?_
  rintro e w4 ⟨rfl, rfl⟩
  go_wp2_with fail
  refine (C8.out _).mono ?_
  rintro e w4 ⟨rfl, rfl⟩
  go_wp2
  go_ret
  exact ⟨rfl, B3.out⟩
#print axioms lawNumsOf
end Go.Proofs.YtchieahfellcbaaDoor
