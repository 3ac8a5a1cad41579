/- The law on numbers answers true, at every draw. -/
import Derived.Test.YtnckjnkbpdfjpaaDoorNumC
namespace Go.Proofs.YtnckjnkbpdfjpaaDoor
open Go.RowKit

set_option maxHeartbeats 400000 in
theorem big_any (ad : Option Addr) (n cap : Nat) (w : World) : Calls Tryd.prog 4 #[.slice ad n cap] w fun e w' => e = .returned (.bool (decide ((1048576 : Int) < (n : Int)))) ∧ w' = w := by
  go_enter Tryd.func4, Tryd.ntmps4
  go_wp2
  go_ret
  exact ⟨rfl, rfl⟩

set_option maxHeartbeats 6000000 in
set_option maxRecDepth 100000 in
theorem lawNumbers (ad : Option Addr) (n cap : Nat) (w : World) (hc : n ≤ 1048576 → Code w ad n) (ht : Lib.TabIs Tryd.prog w "internal/strconv.uint64pow10" .u64 Lib.pow10Tab) :
    Calls Tryd.prog 3 #[.slice ad n cap] w fun e w' => e = .returned (.bool true) ∧ Below w.heap.size w w' := by
  by_cases hbig : 1048576 < n
  · have CB : Hid (∀ w, Calls Tryd.prog 4 #[.slice ad n cap] w fun e w' => e = .returned (.bool true) ∧ w' = w) := fun w => by
      have := big_any ad n cap w
      rwa [show decide ((1048576 : Int) < (n : Int)) = true by simp; omega] at this
    clear hc ht
    go_enter Tryd.func3, Tryd.ntmps3
    go_wp2_with (go_at_call 4; refine (CB.out _).mono ?_; rintro e w' ⟨rfl, rfl⟩)
    go_ret
    exact ⟨rfl, Below.refl _ _⟩
  have CB : Hid (∀ w, Calls Tryd.prog 4 #[.slice ad n cap] w fun e w' => e = .returned (.bool false) ∧ w' = w) := fun w => by
    have := big_any ad n cap w
    rwa [show decide ((1048576 : Int) < (n : Int)) = false by simp; omega] at this
  have HC : Hid (Code w ad n) := hc (by omega)
  have hn : n ≤ 1048576 := by omega
  have hlt := lt_of_tab ht
  have CD : Hid (∀ m : Nat, m ≤ 1000000000 → ∀ w1, Below w.heap.size w w1 → Calls Tryd.prog 9 #[.int .i64 (m : Int)] w1 fun e w' => e = .returned (.string ⟨(Pl.decL (m : Int)).toArray⟩) ∧ Below w1.heap.size w1 w') :=
    fun m hm w1 hb => implDecimal_any (m : Int) w1 (by omega) (by omega) (var?_below hb gPow hlt ht)
  clear hc ht hbig hlt
  go_enter Tryd.func3, Tryd.ntmps3
  go_wp2_with fail
  refine (CB.out _).mono ?_
  rintro e w0 ⟨rfl, rfl⟩
  go_wp2_with fail
  refine (drawVar_any ad n cap w0 hn HC.out).mono ?_
  rintro e w1 ⟨z, rfl, _, _, b1⟩
  have B1 : Hid (Below w0.heap.size w0 w1) := b1
  clear b1
  by_cases hz0 : z < 0
  · have dz : decide (z < 0) = true := by simp; omega
    go_wp2_with fail
    rw [show (12345 : Int) = ((12345 : Nat) : Int) from rfl]
    have hm : (12345 : Nat) ≤ 1000000000 := by decide
    generalize (12345 : Nat) = m at hm ⊢
    refine (cVar m w1 hm).mono ?_
    rintro e w2 ⟨rfl, b2⟩
    have B2 : Hid (Below w0.heap.size w0 w2) := B1.out.trans (b2.mono B1.out.size)
    clear b2
    have hvl := Pl.vb_len 8 m
    go_wp2_with fail
    refine (cRead m w2 hm).mono ?_
    rintro e w3 ⟨rfl, rfl⟩
    go_wp2_with fail
    refine (CD.out m hm w3 B2.out).mono ?_
    rintro e w4 ⟨rfl, b4⟩
    have B4 : Hid (Below w0.heap.size w0 w4) := B2.out.trans (b4.mono B2.out.size)
    clear b4
    go_wp2_with fail
    refine (cReadDec m w4 hm).mono ?_
    rintro e w5 ⟨rfl, b5⟩
    have B5 : Hid (Below w0.heap.size w0 w5) := B4.out.trans (b5.mono B4.out.size)
    clear b5
    go_wp2_with fail
    refine (drawHex_any ad n cap w5 hn (HC.out.keep B5.out)).mono ?_
    rintro e w6 ⟨t, ht, rfl, b6⟩
    have B6 : Hid (Below w0.heap.size w0 w6) := B5.out.trans (b6.mono B5.out.size)
    clear b6
    by_cases h300 : 300 < t.size
    · go_wp2_with fail
      have hs2 : (⟨#[97, 98, 99]⟩ : ByteArray).size ≤ 300 := by decide
      generalize (⟨#[97, 98, 99]⟩ : ByteArray) = t2 at hs2 ⊢
      clear h300
      refine (cShort t2 w6 hs2).mono ?_
      rintro e w7 ⟨rfl, b7⟩
      have B7 : Hid (Below w0.heap.size w0 w7) := B6.out.trans (b7.mono B6.out.size)
      clear b7
      go_wp2_with fail
      refine (cReadShort t2 w7 hs2).mono ?_
      rintro e w8 ⟨rfl, b8⟩
      have B8 : Hid (Below w0.heap.size w0 w8) := B7.out.trans (b8.mono B7.out.size)
      clear b8
      go_wp2_with fail
      refine (cHex t2 w8 hs2).mono ?_
      rintro e w9 ⟨rfl, b9⟩
      have B9 : Hid (Below w0.heap.size w0 w9) := B8.out.trans (b9.mono B8.out.size)
      clear b9
      go_wp2_with fail
      refine (cUnhex t2 w9 hs2).mono ?_
      rintro e w10 ⟨rfl, b10⟩
      have B10 : Hid (Below w0.heap.size w0 w10) := B9.out.trans (b10.mono B9.out.size)
      clear b10
      have q1 : (1 + ((Pl.vb 8 m).length : Int) == ((Pl.vb 8 m).length : Int) + 1) = true := by simp; omega
      go_wp2
      go_ret
      exact ⟨rfl, B10.out⟩
    · go_wp2_with fail
      have hs2 : t.size ≤ 300 := by omega
      clear h300 ht
      refine (cShort t w6 hs2).mono ?_
      rintro e w7 ⟨rfl, b7⟩
      have B7 : Hid (Below w0.heap.size w0 w7) := B6.out.trans (b7.mono B6.out.size)
      clear b7
      go_wp2_with fail
      refine (cReadShort t w7 hs2).mono ?_
      rintro e w8 ⟨rfl, b8⟩
      have B8 : Hid (Below w0.heap.size w0 w8) := B7.out.trans (b8.mono B7.out.size)
      clear b8
      go_wp2_with fail
      refine (cHex t w8 hs2).mono ?_
      rintro e w9 ⟨rfl, b9⟩
      have B9 : Hid (Below w0.heap.size w0 w9) := B8.out.trans (b9.mono B8.out.size)
      clear b9
      go_wp2_with fail
      refine (cUnhex t w9 hs2).mono ?_
      rintro e w10 ⟨rfl, b10⟩
      have B10 : Hid (Below w0.heap.size w0 w10) := B9.out.trans (b10.mono B9.out.size)
      clear b10
      have q1 : (1 + ((Pl.vb 8 m).length : Int) == ((Pl.vb 8 m).length : Int) + 1) = true := by simp; omega
      go_wp2
      go_ret
      exact ⟨rfl, B10.out⟩
  by_cases hz : 1000000000 < z
  · have dz : decide (z < 0) = false := by simp; omega
    have dz2 : decide ((1000000000 : Int) < z) = true := by simp; omega
    go_wp2_with fail
    rw [show (12345 : Int) = ((12345 : Nat) : Int) from rfl]
    have hm : (12345 : Nat) ≤ 1000000000 := by decide
    generalize (12345 : Nat) = m at hm ⊢
    refine (cVar m w1 hm).mono ?_
    rintro e w2 ⟨rfl, b2⟩
    have B2 : Hid (Below w0.heap.size w0 w2) := B1.out.trans (b2.mono B1.out.size)
    clear b2
    have hvl := Pl.vb_len 8 m
    go_wp2_with fail
    refine (cRead m w2 hm).mono ?_
    rintro e w3 ⟨rfl, rfl⟩
    go_wp2_with fail
    refine (CD.out m hm w3 B2.out).mono ?_
    rintro e w4 ⟨rfl, b4⟩
    have B4 : Hid (Below w0.heap.size w0 w4) := B2.out.trans (b4.mono B2.out.size)
    clear b4
    go_wp2_with fail
    refine (cReadDec m w4 hm).mono ?_
    rintro e w5 ⟨rfl, b5⟩
    have B5 : Hid (Below w0.heap.size w0 w5) := B4.out.trans (b5.mono B4.out.size)
    clear b5
    go_wp2_with fail
    refine (drawHex_any ad n cap w5 hn (HC.out.keep B5.out)).mono ?_
    rintro e w6 ⟨t, ht, rfl, b6⟩
    have B6 : Hid (Below w0.heap.size w0 w6) := B5.out.trans (b6.mono B5.out.size)
    clear b6
    by_cases h300 : 300 < t.size
    · go_wp2_with fail
      have hs2 : (⟨#[97, 98, 99]⟩ : ByteArray).size ≤ 300 := by decide
      generalize (⟨#[97, 98, 99]⟩ : ByteArray) = t2 at hs2 ⊢
      clear h300
      refine (cShort t2 w6 hs2).mono ?_
      rintro e w7 ⟨rfl, b7⟩
      have B7 : Hid (Below w0.heap.size w0 w7) := B6.out.trans (b7.mono B6.out.size)
      clear b7
      go_wp2_with fail
      refine (cReadShort t2 w7 hs2).mono ?_
      rintro e w8 ⟨rfl, b8⟩
      have B8 : Hid (Below w0.heap.size w0 w8) := B7.out.trans (b8.mono B7.out.size)
      clear b8
      go_wp2_with fail
      refine (cHex t2 w8 hs2).mono ?_
      rintro e w9 ⟨rfl, b9⟩
      have B9 : Hid (Below w0.heap.size w0 w9) := B8.out.trans (b9.mono B8.out.size)
      clear b9
      go_wp2_with fail
      refine (cUnhex t2 w9 hs2).mono ?_
      rintro e w10 ⟨rfl, b10⟩
      have B10 : Hid (Below w0.heap.size w0 w10) := B9.out.trans (b10.mono B9.out.size)
      clear b10
      have q1 : (1 + ((Pl.vb 8 m).length : Int) == ((Pl.vb 8 m).length : Int) + 1) = true := by simp; omega
      go_wp2
      go_ret
      exact ⟨rfl, B10.out⟩
    · go_wp2_with fail
      have hs2 : t.size ≤ 300 := by omega
      clear h300 ht
      refine (cShort t w6 hs2).mono ?_
      rintro e w7 ⟨rfl, b7⟩
      have B7 : Hid (Below w0.heap.size w0 w7) := B6.out.trans (b7.mono B6.out.size)
      clear b7
      go_wp2_with fail
      refine (cReadShort t w7 hs2).mono ?_
      rintro e w8 ⟨rfl, b8⟩
      have B8 : Hid (Below w0.heap.size w0 w8) := B7.out.trans (b8.mono B7.out.size)
      clear b8
      go_wp2_with fail
      refine (cHex t w8 hs2).mono ?_
      rintro e w9 ⟨rfl, b9⟩
      have B9 : Hid (Below w0.heap.size w0 w9) := B8.out.trans (b9.mono B8.out.size)
      clear b9
      go_wp2_with fail
      refine (cUnhex t w9 hs2).mono ?_
      rintro e w10 ⟨rfl, b10⟩
      have B10 : Hid (Below w0.heap.size w0 w10) := B9.out.trans (b10.mono B9.out.size)
      clear b10
      have q1 : (1 + ((Pl.vb 8 m).length : Int) == ((Pl.vb 8 m).length : Int) + 1) = true := by simp; omega
      go_wp2
      go_ret
      exact ⟨rfl, B10.out⟩
  · obtain ⟨m, rfl⟩ := Int.eq_ofNat_of_zero_le (by omega : 0 ≤ z)
    have hm : m ≤ 1000000000 := by omega
    have dz : decide ((1000000000 : Int) < (m : Int)) = false := by simp; omega
    clear hz hz0
    go_wp2_with fail
    refine (cVar m w1 hm).mono ?_
    rintro e w2 ⟨rfl, b2⟩
    have B2 : Hid (Below w0.heap.size w0 w2) := B1.out.trans (b2.mono B1.out.size)
    clear b2
    have hvl := Pl.vb_len 8 m
    go_wp2_with fail
    refine (cRead m w2 hm).mono ?_
    rintro e w3 ⟨rfl, rfl⟩
    go_wp2_with fail
    refine (CD.out m hm w3 B2.out).mono ?_
    rintro e w4 ⟨rfl, b4⟩
    have B4 : Hid (Below w0.heap.size w0 w4) := B2.out.trans (b4.mono B2.out.size)
    clear b4
    go_wp2_with fail
    refine (cReadDec m w4 hm).mono ?_
    rintro e w5 ⟨rfl, b5⟩
    have B5 : Hid (Below w0.heap.size w0 w5) := B4.out.trans (b5.mono B4.out.size)
    clear b5
    go_wp2_with fail
    refine (drawHex_any ad n cap w5 hn (HC.out.keep B5.out)).mono ?_
    rintro e w6 ⟨t, ht, rfl, b6⟩
    have B6 : Hid (Below w0.heap.size w0 w6) := B5.out.trans (b6.mono B5.out.size)
    clear b6
    by_cases h300 : 300 < t.size
    · go_wp2_with fail
      have hs2 : (⟨#[97, 98, 99]⟩ : ByteArray).size ≤ 300 := by decide
      generalize (⟨#[97, 98, 99]⟩ : ByteArray) = t2 at hs2 ⊢
      clear h300
      refine (cShort t2 w6 hs2).mono ?_
      rintro e w7 ⟨rfl, b7⟩
      have B7 : Hid (Below w0.heap.size w0 w7) := B6.out.trans (b7.mono B6.out.size)
      clear b7
      go_wp2_with fail
      refine (cReadShort t2 w7 hs2).mono ?_
      rintro e w8 ⟨rfl, b8⟩
      have B8 : Hid (Below w0.heap.size w0 w8) := B7.out.trans (b8.mono B7.out.size)
      clear b8
      go_wp2_with fail
      refine (cHex t2 w8 hs2).mono ?_
      rintro e w9 ⟨rfl, b9⟩
      have B9 : Hid (Below w0.heap.size w0 w9) := B8.out.trans (b9.mono B8.out.size)
      clear b9
      go_wp2_with fail
      refine (cUnhex t2 w9 hs2).mono ?_
      rintro e w10 ⟨rfl, b10⟩
      have B10 : Hid (Below w0.heap.size w0 w10) := B9.out.trans (b10.mono B9.out.size)
      clear b10
      have q1 : (1 + ((Pl.vb 8 m).length : Int) == ((Pl.vb 8 m).length : Int) + 1) = true := by simp; omega
      go_wp2
      go_ret
      exact ⟨rfl, B10.out⟩
    · go_wp2_with fail
      have hs2 : t.size ≤ 300 := by omega
      clear h300 ht
      refine (cShort t w6 hs2).mono ?_
      rintro e w7 ⟨rfl, b7⟩
      have B7 : Hid (Below w0.heap.size w0 w7) := B6.out.trans (b7.mono B6.out.size)
      clear b7
      go_wp2_with fail
      refine (cReadShort t w7 hs2).mono ?_
      rintro e w8 ⟨rfl, b8⟩
      have B8 : Hid (Below w0.heap.size w0 w8) := B7.out.trans (b8.mono B7.out.size)
      clear b8
      go_wp2_with fail
      refine (cHex t w8 hs2).mono ?_
      rintro e w9 ⟨rfl, b9⟩
      have B9 : Hid (Below w0.heap.size w0 w9) := B8.out.trans (b9.mono B8.out.size)
      clear b9
      go_wp2_with fail
      refine (cUnhex t w9 hs2).mono ?_
      rintro e w10 ⟨rfl, b10⟩
      have B10 : Hid (Below w0.heap.size w0 w10) := B9.out.trans (b10.mono B9.out.size)
      clear b10
      have q1 : (1 + ((Pl.vb 8 m).length : Int) == ((Pl.vb 8 m).length : Int) + 1) = true := by simp; omega
      go_wp2
      go_ret
      exact ⟨rfl, B10.out⟩
end Go.Proofs.YtnckjnkbpdfjpaaDoor
