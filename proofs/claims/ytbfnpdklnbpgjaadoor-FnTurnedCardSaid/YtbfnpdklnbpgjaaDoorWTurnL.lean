/- The law on turned bytes answers true, at every draw, wherever the program's table is as its text lays it. -/
import Derived.Test.YtbfnpdklnbpgjaaDoorWTurn
namespace Go.Proofs.YtbfnpdklnbpgjaaDoor
open Go.RowKit

set_option maxHeartbeats 6000000 in
set_option maxRecDepth 100000 in
theorem lawTurned (ad : Option Addr) (n cap : Nat) (w : World) (hc : n ≤ 1048576 → Code w ad n) (ht : Tabd w) :
    Calls Tryd.prog 4 #[.slice ad n cap] w fun e w' => e = .returned (.bool true) ∧ Below w.heap.size w w' := by
  by_cases hbig : 1048576 < n
  · have CB : Hid (∀ w, Calls Tryd.prog 5 #[.slice ad n cap] w fun e w' => e = .returned (.bool true) ∧ w' = w) := fun w => by
      have := big_any ad n cap w
      rwa [show decide ((1048576 : Int) < (n : Int)) = true by simp; omega] at this
    clear hc ht
    go_enter Tryd.func4, Tryd.ntmps4
    go_wp2_with (go_at_call 5; refine (CB.out _).mono ?_; rintro e w' ⟨rfl, rfl⟩)
    go_ret
    exact ⟨rfl, Below.refl _ _⟩
  have CB : Hid (∀ w, Calls Tryd.prog 5 #[.slice ad n cap] w fun e w' => e = .returned (.bool false) ∧ w' = w) := fun w => by
    have := big_any ad n cap w
    rwa [show decide ((1048576 : Int) < (n : Int)) = false by simp; omega] at this
  have HC : Hid (Code w ad n) := hc (by omega)
  have hn : n ≤ 1048576 := by omega
  have HT : Hid (Tabd w) := ht
  clear hc ht hbig
  go_enter Tryd.func4, Tryd.ntmps4
  go_wp2_with fail
  refine (CB.out _).mono ?_
  rintro e w0 ⟨rfl, rfl⟩
  go_wp2_with fail
  refine (drawSumOf_any ad n cap w0 hn HC.out).mono ?_
  rintro e w1 ⟨l, hl, rfl, b1⟩
  have B1 : Hid (Below w0.heap.size w0 w1) := b1
  clear b1
  go_wp2_with fail
  refine (drawPlaces_any ad n cap w1 hn (HC.out.keep B1.out)).mono ?_
  rintro e w2 ⟨gp, cp, zs, hzl, hz, rfl, hgp, hgp2, hzc, b2⟩
  have B2 : Hid (Below w0.heap.size w0 w2) := B1.out.trans (b2.mono B1.out.size)
  have z0 := hzc 0 (by decide)
  have z1 := hzc 1 (by decide)
  have hz0 := hz 0
  have hz1 := hz 1
  generalize zs.getD 0 0 = p0 at z0 hz0
  generalize zs.getD 1 0 = p1 at z1 hz1
  clear b2 hzc hz hzl
  have HZ : Hid (w2.cell? ⟨gp, 0, none⟩ = some (.int .i64 (p0 : Int)) ∧ w2.cell? ⟨gp, 1, none⟩ = some (.int .i64 (p1 : Int))) := ⟨z0, z1⟩
  clear z0 z1
  go_wp2_with fail
  refine (cSealed l w2 (by omega) (HT.out.keep B2.out)).mono ?_
  rintro e w3 ⟨rfl, b3⟩
  have B3 : Hid (Below w0.heap.size w0 w3) := B2.out.trans (b3.mono B2.out.size)
  have s3 := b3.size
  have HZ3 : Hid (w3.cell? ⟨gp, 0, none⟩ = some (.int .i64 (p0 : Int)) ∧ w3.cell? ⟨gp, 1, none⟩ = some (.int .i64 (p1 : Int))) := ⟨(b3.cell (by exact hgp2)).trans HZ.out.1, (b3.cell (by exact hgp2)).trans HZ.out.2⟩
  clear b3 HZ
  go_wp2_with fail
  refine (cUnsealed l w3 (by omega) (HT.out.keep B3.out)).mono ?_
  rintro e w4 ⟨rfl, b4⟩
  have B4 : Hid (Below w0.heap.size w0 w4) := B3.out.trans (b4.mono B3.out.size)
  have s4 := b4.size
  have hgp3 : gp < w3.heap.size := by omega
  have HZ4 : w4.cell? ⟨gp, 0, none⟩ = some (.int .i64 (p0 : Int)) ∧ w4.cell? ⟨gp, 1, none⟩ = some (.int .i64 (p1 : Int)) := ⟨(b4.cell (by exact hgp3)).trans HZ3.out.1, (b4.cell (by exact hgp3)).trans HZ3.out.2⟩
  clear b4 HZ3
  obtain ⟨cb, w5, hcv, hcl, hfz, b5, s5⟩ := conv_any (Ps.sld l) w4
  have hsl := Ps.sld_len l
  rw [hsl] at hcv
  have hgp4 : gp < w4.heap.size := by omega
  have Z0 : w5.cell? ⟨gp, 0, none⟩ = some (.int .i64 (p0 : Int)) := (b5.cell (by exact hgp4)).trans HZ4.1
  have Z1 : w5.cell? ⟨gp, 1, none⟩ = some (.int .i64 (p1 : Int)) := (b5.cell (by exact hgp4)).trans HZ4.2
  have B5 : Hid (Below w0.heap.size w0 w5) := B4.out.trans (b5.mono B4.out.size)
  clear HZ4 b5
  obtain ⟨i, hi⟩ : ∃ i, i = p0 % (l.length + 4) := ⟨_, rfl⟩
  have hil : i < l.length + 4 := by rw [hi]; exact Nat.mod_lt _ (by omega)
  have hmod : (p0 : Int) % ((l.length : Int) + 4) = (i : Int) := by rw [hi]; simp
  obtain ⟨y, hy⟩ : ∃ y, y = 1 + p1 % 255 := ⟨_, rfl⟩
  have hyl : 0 < y ∧ y < 256 := by omega
  have hyi : 1 + (p1 : Int) % 255 = (y : Int) := by omega
  clear hi hy
  have hbi := hcl i (by omega)
  have hfi := hfz i (by omega)
  obtain ⟨a, ha⟩ : ∃ a, a = (Ps.sld l).getD i 0 := ⟨_, rfl⟩
  rw [← ha] at hbi
  obtain ⟨hx1, hx2⟩ := Ps.xor_ne a y hyl.1 hyl.2
  have hxb : bits .xor .u8 (a.toNat : Int) (y : Int) = ((a.toNat ^^^ y : Nat) : Int) := u8_xor_nat _ _ a.toNat_lt hyl.2
  have hxc : ((a.toNat ^^^ y : Nat) : Int) = ((UInt8.ofNat (a.toNat ^^^ y)).toNat : Int) := by rw [UInt8.toNat_ofNat', Nat.mod_eq_of_lt hx1]
  rw [hxc] at hxb
  generalize UInt8.ofNat (a.toNat ^^^ y) = c at hx2 hxb hxc
  clear hxc hx1
  have HNE : Hid (c ≠ (Ps.sld l).getD i 0) := by rw [← ha]; exact hx2
  have HCL : Hid _ := hcl
  have HFZ : Hid _ := hfz
  clear hcl hfz ha hx2
  go_wp2_with fail
  have i1 : (i : Int) < (l.length : Int) + 4 := by omega
  have i0 : (0 : Int) ≤ (i : Int) := by omega
  go_big_region
  obtain ⟨w6, hw6⟩ : ∃ w6, w6 = (w5.setCell ⟨w4.heap.size, i, none⟩ (.int .u8 (c.toNat : Int))).drew := ⟨_, rfl⟩
  rw [← hw6]
  have hst := conv_back (Ps.sld l) w4.heap.size cb i c w5 w6 (by omega) HCL.out (fun j => by rw [hw6]; rfl)
  rw [hsl] at hst
  have B6 : Hid (Below w0.heap.size w0 w6) := by rw [hw6]; exact (B5.out.setCell B4.out.size _).drew
  clear hw6 Z0 Z1 hbi hfi hcv
  go_wp2_with fail
  refine (cTurned l i c w6 (by omega) (by omega) (by have := HNE.out; rwa [List.getD_eq_getElem?_getD, List.getElem?_eq_getElem (by omega), Option.getD_some] at this) (HT.out.keep B6.out)).mono ?_
  rintro e w7 ⟨rfl, b7⟩
  have B7 : Hid (Below w0.heap.size w0 w7) := B6.out.trans (b7.mono B6.out.size)
  have T7 : Hid (Tabd w7) := HT.out.keep B7.out
  clear b7 hst
  obtain ⟨x, hx⟩ : ∃ x, x = Ps.sm 4294967295 l := ⟨_, rfl⟩
  obtain ⟨q, hq⟩ : ∃ q, q = Ps.sm x [120] := ⟨_, rfl⟩
  have hxl : x < 4294967296 := by rw [hx]; exact Ps.sm_lt _ _ (by decide)
  have C1 : Hid (Calls Tryd.prog 21 #[.string ⟨l.toArray⟩] w7 fun e w' => e = .returned (.int .u32 (x : Int)) ∧ w' = w7) := by
    have := implSumOf_any ⟨l.toArray⟩ w7 (by rw [Ps.list_size]; omega) T7.out
    rw [Ps.list_data, ← hx] at this
    exact this
  have C2 : Hid (Calls Tryd.prog 20 #[.int .u32 (x : Int), .string ⟨#[120]⟩] w7 fun e w' => e = .returned (.int .u32 (q : Int)) ∧ w' = w7) := by
    have := implSumMore_any x ⟨#[120]⟩ w7 hxl (by decide) T7.out
    rw [hq]
    exact this
  have C3 : Hid (Calls Tryd.prog 21 #[.string ((⟨l.toArray⟩ : ByteArray) ++ ⟨#[120]⟩)] w7 fun e w' => e = .returned (.int .u32 (q : Int)) ∧ w' = w7) := by
    have e0 : ((⟨l.toArray⟩ : ByteArray) ++ ⟨#[120]⟩) = ⟨(l ++ [120]).toArray⟩ := by
      have := Ps.app_str ⟨l.toArray⟩ [120]
      rw [Ps.list_data] at this
      exact this
    rw [e0]
    have := implSumOf_any ⟨(l ++ [120]).toArray⟩ w7 (by rw [Ps.list_size, List.length_append]; simp; omega) T7.out
    rw [Ps.list_data, Ps.sm_app, ← hx, ← hq] at this
    exact this
  clear hx hq
  go_wp2_with (first | (go_at_call 20; refine C2.out.mono ?_; rintro e w' ⟨rfl, rfl⟩) | (go_at_call 21; first | (refine C1.out.mono ?_; rintro e w' ⟨rfl, rfl⟩) | (refine C3.out.mono ?_; rintro e w' ⟨rfl, rfl⟩)))
  go_ret
  exact ⟨rfl, B7.out⟩
end Go.Proofs.YtbfnpdklnbpgjaaDoor
