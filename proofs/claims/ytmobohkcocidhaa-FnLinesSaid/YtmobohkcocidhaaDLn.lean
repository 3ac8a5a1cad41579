/- A drawn line, a drawn text: some text of not many bytes. -/
import Derived.Test.YtmobohkcocidhaaDPs
import Derived.Test.YtmobohkcocidhaaDOn
import Derived.Test.YtmobohkcocidhaaDLg
import Derived.Test.YtmobohkcocidhaaDPk
import Derived.Test.YtmobohkcocidhaaBig
namespace Go.Proofs.Ytmobohkcocidhaa
open Go.RowKit

def gaps03 : List (List UInt8) := [[], [32], [32, 32], [9]]
def words03 : List (List UInt8) := [[97], [98], [97, 98], [49], [50], [51, 48], [120, 55], [97, 98, 98, 97]]
theorem gaps03_len : ∀ t ∈ gaps03, t.length ≤ 2 := by decide
theorem words03_len : ∀ t ∈ words03, t.length ≤ 4 := by decide
theorem lst_size (l : List UInt8) : (⟨l.toArray⟩ : ByteArray).size = l.length := by
  show l.toArray.size = _
  simp

set_option maxHeartbeats 1000000 in
set_option maxRecDepth 100000 in
theorem l03LineD_any (B g n cap : Nat) (ad : Option Addr) (w : World) (hd : Drw B w g ad n cap) (hB : B ≤ w.heap.size) :
    Calls Try.prog 26 #[.pointer (some ⟨g, 0, none⟩)] w fun e w' => ∃ t : ByteArray, t.size ≤ 64 ∧ e = .returned (.string t) ∧ Drw B w' g ad n cap ∧ w.grownBy w' (some g) := by
  have HD : Hid (Drw B w g ad n cap) := hd
  clear hd
  go_enter Try.func26, Try.ntmps26
  go_wp2
  go_loopw [3, 4] (fun v i wr => ∃ (k : Nat) (t : ByteArray), i = .int .i64 (k : Int) ∧ v = .string t ∧ k ≤ 5 ∧ t.size ≤ 7 * k ∧ B ≤ wr.heap.size ∧ Hid (Drw B wr g ad n cap) ∧ Hid (w.grownBy wr (some g))) (fun _ i _ => 5 - (intOf i).toNat)
  case atStart => exact ⟨0, ⟨#[]⟩, rfl, rfl, by omega, by decide, hB, HD.out, grown_refl _ _⟩
  case round =>
    obtain ⟨k, t, rfl, rfl, hk, hts, hsz, HDR, HG⟩ := hrel
    go_wp2_with fail
    refine (below_any B g n cap ad 5 wr HDR.out (by decide) (by decide)).mono ?_
    rintro e w1 ⟨x, hx, rfl, d1, g1⟩
    have G1 : Hid (w.grownBy w1 (some g)) := grown_trans HG.out g1
    have s1 := g1.size
    have hB1 : B ≤ w1.heap.size := by omega
    have C1 : Hid (Calls Try.prog 30 #[.pointer (some ⟨g, 0, none⟩), .slice (some ⟨w1.heap.size, 0, none⟩) 4 4] (w1.alloc (.cells (gaps03.map sv).toArray 9))
      fun e w' => ∃ t : List UInt8, t ∈ gaps03 ∧ e = .returned (.string ⟨t.toArray⟩) ∧ Drw B w' g ad n cap ∧ w1.grownBy w' (some g)) := pickL_any B g n cap ad gaps03 w1 d1 hB1 (by decide) (by decide)
    have D1 : Hid (Drw B w1 g ad n cap) := d1
    clear d1 g1
    by_cases hlt : k < x
    · have dlt : decide ((k : Int) < (x : Int)) = true := by simp; omega
      go_wp2_with fail
      refine C1.out.mono ?_
      rintro e w2 ⟨p, hp, rfl, d2, g2⟩
      have hpl : (⟨p.toArray⟩ : ByteArray).size ≤ 2 := by rw [lst_size]; exact gaps03_len p hp
      generalize (⟨p.toArray⟩ : ByteArray) = pb at *
      have G2 : Hid (w.grownBy w2 (some g)) := grown_trans G1.out g2
      have s2 := g2.size
      have hB2 : B ≤ w2.heap.size := by omega
      have C2 : Hid (Calls Try.prog 30 #[.pointer (some ⟨g, 0, none⟩), .slice (some ⟨w2.heap.size, 0, none⟩) 8 8] (w2.alloc (.cells (words03.map sv).toArray 9))
        fun e w' => ∃ t : List UInt8, t ∈ words03 ∧ e = .returned (.string ⟨t.toArray⟩) ∧ Drw B w' g ad n cap ∧ w2.grownBy w' (some g)) := pickL_any B g n cap ad words03 w2 d2 hB2 (by decide) (by decide)
      clear d2 g2 hp C1
      go_wp2_with fail
      refine C2.out.mono ?_
      rintro e w3 ⟨q, hq, rfl, d3, g3⟩
      have hql : (⟨q.toArray⟩ : ByteArray).size ≤ 4 := by rw [lst_size]; exact words03_len q hq
      generalize (⟨q.toArray⟩ : ByteArray) = qb at *
      have G3 : Hid (w.grownBy w3 (some g)) := grown_trans G2.out g3
      have D3 : Hid (Drw B w3 g ad n cap) := d3
      have s3 := g3.size
      have e1 : (t ++ pb).size = t.size + pb.size := app_size _ _
      have e2 : (t ++ pb ++ qb).size = t.size + pb.size + qb.size := by rw [app_size, app_size]
      have HE : Hid ((t ++ pb ++ qb ++ (⟨#[32]⟩ : ByteArray)).size ≤ 7 * (k + 1)) := by
        show _ ≤ _
        rw [app_size, app_size, app_size, show (⟨#[32]⟩ : ByteArray).size = 1 from rfl]
        omega
      clear d3 g3 hq C2
      go_wp2
      go_roundw
      case rel => exact ⟨k + 1, _, by go_num, rfl, by omega, HE.out, by omega, D3.out, G3.out⟩
      case measure => simp [intOf]; omega
    · have dlt : decide ((k : Int) < (x : Int)) = false := by simp; omega
      clear C1
      go_wp2
      go_ret
      exact ⟨t, by omega, rfl, D1.out, G1.out⟩


set_option maxHeartbeats 1000000 in
set_option maxRecDepth 100000 in
theorem l09Text_any (B g n cap : Nat) (ad : Option Addr) (w : World) (hd : Drw B w g ad n cap) (hB : B ≤ w.heap.size) :
    Calls Try.prog 21 #[.pointer (some ⟨g, 0, none⟩)] w fun e w' => ∃ t : ByteArray, t.size ≤ 600 ∧ e = .returned (.string t) ∧ Drw B w' g ad n cap ∧ w.grownBy w' (some g) := by
  have HD : Hid (Drw B w g ad n cap) := hd
  clear hd
  go_enter Try.func21, Try.ntmps21
  go_wp2
  go_loopw [3, 4] (fun v i wr => ∃ (k : Nat) (t : ByteArray), i = .int .i64 (k : Int) ∧ v = .string t ∧ k ≤ 9 ∧ t.size ≤ 65 * k ∧ B ≤ wr.heap.size ∧ Hid (Drw B wr g ad n cap) ∧ Hid (w.grownBy wr (some g))) (fun _ i _ => 9 - (intOf i).toNat)
  case atStart => exact ⟨0, ⟨#[]⟩, rfl, rfl, by omega, by decide, hB, HD.out, grown_refl _ _⟩
  case round =>
    obtain ⟨k, t, rfl, rfl, hk, hts, hsz, HDR, HG⟩ := hrel
    go_wp2_with fail
    refine (below_any B g n cap ad 9 wr HDR.out (by decide) (by decide)).mono ?_
    rintro e w1 ⟨x, hx, rfl, d1, g1⟩
    have G1 : Hid (w.grownBy w1 (some g)) := grown_trans HG.out g1
    have s1 := g1.size
    have hB1 : B ≤ w1.heap.size := by omega
    have D1 : Hid (Drw B w1 g ad n cap) := d1
    clear d1 g1
    by_cases hlt : k < x
    · have dlt : decide ((k : Int) < (x : Int)) = true := by simp; omega
      go_wp2_with fail
      refine (l03LineD_any B g n cap ad w1 D1.out hB1).mono ?_
      rintro e w2 ⟨p, hp, rfl, d2, g2⟩
      have G2 : Hid (w.grownBy w2 (some g)) := grown_trans G1.out g2
      have s2 := g2.size
      have hB2 : B ≤ w2.heap.size := by omega
      have D2 : Hid (Drw B w2 g ad n cap) := d2
      have e1 : (t ++ p).size = t.size + p.size := app_size _ _
      have HE : Hid ((t ++ p ++ (⟨#[10]⟩ : ByteArray)).size ≤ 65 * (k + 1)) := by
        show _ ≤ _
        rw [app_size, app_size, show (⟨#[10]⟩ : ByteArray).size = 1 from rfl]
        omega
      clear d2 g2
      go_wp2
      go_roundw
      case rel => exact ⟨k + 1, _, by go_num, rfl, by omega, HE.out, by omega, D2.out, G2.out⟩
      case measure => simp [intOf]; omega
    · have dlt : decide ((k : Int) < (x : Int)) = false := by simp; omega
      have h585 : t.size ≤ 585 := by omega
      go_wp2_with fail
      refine (once_any B g n cap ad 6 w1 D1.out (by decide) (by decide)).mono ?_
      rintro e w2 ⟨b, rfl, d2, g2⟩
      have G2 : Hid (w.grownBy w2 (some g)) := grown_trans G1.out g2
      have D2 : Hid (Drw B w2 g ad n cap) := d2
      clear d2 g2
      have HE : Hid ((t ++ (⟨#[108, 97, 115, 116]⟩ : ByteArray)).size ≤ 600) := by
        show _ ≤ _
        rw [app_size, show (⟨#[108, 97, 115, 116]⟩ : ByteArray).size = 4 from rfl]
        omega
      cases b with
      | true =>
        go_wp2
        go_ret
        exact ⟨_, HE.out, rfl, D2.out, G2.out⟩
      | false =>
        go_wp2
        go_ret
        exact ⟨t, by omega, rfl, D2.out, G2.out⟩

def manyLines : List Int := [0, 19, 20, 21, 25]
theorem manyLines_le : ∀ z ∈ manyLines, 0 ≤ z ∧ z ≤ 25 := by decide

set_option maxHeartbeats 1000000 in
set_option maxRecDepth 100000 in
theorem dLinesOf_any (ad : Option Addr) (n cap : Nat) (w : World) (hn : n ≤ 1048576) (hc : Code w ad n) :
    Calls Try.prog 7 #[.slice ad n cap] w fun e w' => ∃ t : ByteArray, t.size ≤ 600 ∧ e = .returned (.string t) ∧ Below w.heap.size w w' := by
  have HC : Hid (Code w ad n) := hc
  clear hc
  go_enter Try.func7, Try.ntmps7
  go_wp2_with fail
  refine (new_any ad n cap w hn HC.out).mono ?_
  rintro e w1 ⟨rfl, d1, s1, b1⟩
  have D1 : Hid (Drw (w.heap.size + 1) w1 w.heap.size ad n cap) := d1
  clear d1
  go_wp2_with fail
  refine (once_any _ _ n cap ad 8 w1 D1.out (by decide) (by decide)).mono ?_
  rintro e w2 ⟨b, rfl, d2, g2⟩
  have D2 : Hid (Drw (w.heap.size + 1) w2 w.heap.size ad n cap) := d2
  have B2 : Hid (Below w.heap.size w w2) := b1.trans (below_of_grown g2 (Nat.le_refl _) (by omega))
  have s2 := g2.size
  have hsz2 : w.heap.size + 1 ≤ w2.heap.size := by omega
  clear d2 g2 D1 b1 s1 s2
  cases b with
  | true =>
    have C1 : Hid (Calls Try.prog 20 #[.pointer (some ⟨w.heap.size, 0, none⟩), .slice (some ⟨w2.heap.size, 0, none⟩) 5 5] (w2.alloc (.cells (manyLines.map (Value.int .i64)).toArray 3))
      fun e w' => ∃ z : Int, z ∈ manyLines ∧ e = .returned (.int .i64 z) ∧ Drw (w.heap.size + 1) w' w.heap.size ad n cap ∧ w2.grownBy w' (some w.heap.size)) := pickI_any _ _ n cap ad manyLines w2 D2.out hsz2 (by decide) (by decide)
    go_wp2_with fail
    refine C1.out.mono ?_
    rintro e w3 ⟨z, hz, rfl, d3, g3⟩
    have B3 : Hid (Below w.heap.size w w3) := B2.out.trans (below_of_grown g3 (Nat.le_refl _) (by omega))
    obtain ⟨hz0, hz1⟩ := manyLines_le z hz
    obtain ⟨m, rfl⟩ : ∃ m : Nat, z = (m : Int) := ⟨z.toNat, by omega⟩
    clear C1 d3 g3 hz D2 B2
    go_wp2_with fail
    refine (long_any m 10 w3 (by omega) (by decide)).mono ?_
    rintro e w4 ⟨bs, hbs, rfl, b4⟩
    have B4 : Hid (Below w.heap.size w w4) := B3.out.trans (b4.mono B3.out.size)
    have hbl : (⟨bs.toArray⟩ : ByteArray).size ≤ 25 := by rw [lst_size]; omega
    generalize (⟨bs.toArray⟩ : ByteArray) = t at *
    have HE : Hid ((t ++ (⟨#[120]⟩ : ByteArray)).size ≤ 600) := by
      show _ ≤ _
      rw [app_size, show (⟨#[120]⟩ : ByteArray).size = 1 from rfl]
      omega
    clear b4 hbs
    go_wp2
    go_ret
    exact ⟨_, HE.out, rfl, B4.out⟩
  | false =>
    go_wp2_with fail
    refine (l09Text_any _ _ n cap ad w2 D2.out hsz2).mono ?_
    rintro e w3 ⟨t, ht, rfl, d3, g3⟩
    have B3 : Hid (Below w.heap.size w w3) := B2.out.trans (below_of_grown g3 (Nat.le_refl _) (by omega))
    clear g3 d3
    go_wp2
    go_ret
    exact ⟨t, ht, rfl, B3.out⟩
#print axioms dLinesOf_any
end Go.Proofs.Ytmobohkcocidhaa
