/- Drawn texts: each is some text within its bounds, and nothing that was there is written. -/
import Derived.Test.YtnckjnkbpdfjpaaDoorDrawB
import Derived.Test.YtnckjnkbpdfjpaaDoorKitM
namespace Go.Proofs.YtnckjnkbpdfjpaaDoor
open Go.RowKit

theorem Row.kept {B : Nat} {w w' : World} {v : Value} {bs : List UInt8} {g : Nat} (h : Row B w v bs) (hg : w.grownBy w' (some g)) (hB : g < B) : Row B w' v bs := by
  refine World.ownsRow.kept h hg (.inr ?_)
  intro e
  have := (World.ownsRow.lt h g e).1
  omega

theorem grown_below {w w1 w2 : World} {r : Option Nat} (h : w.grownBy w1 r) (hb : Below w.heap.size w1 w2) : w.grownBy w2 r :=
  ⟨hb.os.trans h.os, hb.tape.trans h.tape, hb.output.trans h.output, Nat.le_trans h.size hb.size, fun k hk hne => (hb.block k hk).trans (h.block k hk hne)⟩

set_option maxHeartbeats 1000000 in
set_option maxRecDepth 100000 in
/-- m drawn bytes. -/
theorem text_any (B g n cap : Nat) (ad : Option Addr) (m : Nat) (w : World) (hd : Drw B w g ad n cap) (hB : B ≤ w.heap.size) (hm : m ≤ 5000) :
    Calls Tryd.prog 22 #[.pointer (some ⟨g, 0, none⟩), .int .i64 (m : Int)] w fun e w' => ∃ bs : List UInt8, bs.length = m ∧ e = .returned (.string ⟨bs.toArray⟩) ∧ Drw B w' g ad n cap ∧ w.grownBy w' (some g) := by
  have HD : Hid (Drw B w g ad n cap) := hd
  have hgl := hd.low
  clear hd
  go_enter Tryd.func22, Tryd.ntmps22
  go_wp2
  go_loopw [5, 6] (fun v i wr => ∃ (k : Nat) (bs : List UInt8), i = .int .i64 (k : Int) ∧ k ≤ m ∧ Row w.heap.size wr v bs ∧ w.heap.size ≤ wr.heap.size ∧ Hid (bs.length = k) ∧ Hid (Drw B wr g ad n cap) ∧ Hid (w.grownBy wr (some g))) (fun _ i _ => m - (intOf i).toNat)
  case atStart => exact ⟨0, [], rfl, by omega, Row.made w #[] 0 (Nat.le_refl _) (by decide) rfl, by simp, rfl, HD.out.keep ((Below.refl _ _).alloc hB _), World.grownBy_alloc w _ _⟩
  case round =>
    obtain ⟨k, bs, rfl, hk, hrow, hsz, HL, HDR, HGR⟩ := hrel
    by_cases hlt : k < m
    · go_wp2_with fail
      refine (byte_any B g n cap ad wr HDR.out).mono ?_
      rintro e w1 ⟨x, hx, rfl, d1, g1⟩
      have hrow1 := hrow.kept g1 (by omega)
      have D1 : Hid (Drw B w1 g ad n cap) := d1
      have G1 : Hid (w.grownBy w1 (some g)) := grown_trans HGR.out g1
      have hs1 := g1.size
      have hlen : bs.length < 5000 := by have := HL.out; omega
      clear d1 g1 hrow
      go_wp2_with (at_builtin; go_must (refine hrow1.push rfl (.tmp 15) (.tmp 19) rfl rfl _ (UInt8.ofNat x) ?hz rfl ?hl ?hb ?_))
      case hz => have := Pl.small x hx; omega
      case hl => omega
      case hb => omega
      · intro v' w2 hrow' hbel'
        have hb2 : Below B w1 w2 := hbel'.mono (by omega)
        have GR : Hid (w.grownBy w2 (some g)) := grown_below G1.out hbel'
        go_wp2
        go_roundw
        case rel => exact ⟨k + 1, _, by go_num, by omega, hrow', by have := hbel'.size; omega, by have := HL.out; show _ = _; simp; omega, D1.out.keep hb2, GR.out⟩
        case measure => simp [intOf]; omega
    · have hst := hrow.str
      go_wp2
      go_ret
      exact ⟨bs, by have := HL.out; omega, rfl, HDR.out, HGR.out⟩

set_option maxHeartbeats 1000000 in
set_option maxRecDepth 100000 in
/-- m bytes of one kind. -/
theorem long_any (m : Nat) (x : Nat) (w : World) (hm : m ≤ 1000000) (hx : x < 256) :
    Calls Tryd.prog 20 #[.int .i64 (m : Int), .int .u8 (x : Int)] w fun e w' => ∃ bs : List UInt8, bs.length = m ∧ e = .returned (.string ⟨bs.toArray⟩) ∧ Below w.heap.size w w' := by
  obtain ⟨M, hMs, hMl, hmk⟩ := makeFull_run m (by omega)
  go_enter Tryd.func20, Tryd.ntmps20
  go_wp2
  clear hmk
  go_loopw [6] (fun i wr => ∃ (k : Nat) (bs : List UInt8), i = .int .i64 (k : Int) ∧ k ≤ m ∧ Row w.heap.size wr (.slice (some ⟨w.heap.size, 0, none⟩) m m) bs ∧ Below w.heap.size w wr ∧ Hid (bs.length = m)) (fun i _ => m - (intOf i).toNat)
  case atStart => exact ⟨0, List.replicate m 0, rfl, by omega, Row.full w (Nat.le_refl _) (by unfold maxLen; omega) hMs hMl, (Below.refl _ _).alloc (Nat.le_refl _) _, (by show _ = _; simp)⟩
  case round =>
    obtain ⟨k, bs, rfl, hk, hrow, hbel, HL⟩ := hrel
    by_cases hlt : k < m
    · have hc := hrow.cell HL.out k hlt
      have hf := hrow.free HL.out k
      have hs := hrow.store HL.out k (UInt8.ofNat x)
      rw [Pl.small x hx] at hs
      have HS : Hid _ := hs
      clear hs
      go_wp2
      go_roundw
      case rel => exact ⟨k + 1, _, by go_num, by omega, HS.out, hbel.setCell (Nat.le_refl _) _, by have := HL.out; show _ = _; simpa using this⟩
      case measure => simp [intOf]; omega
    · have hst := hrow.str
      go_wp2
      go_ret
      exact ⟨bs, HL.out, rfl, hbel⟩

set_option maxHeartbeats 1000000 in
set_option maxRecDepth 100000 in
/-- A drawn text: some text of at most 20001 bytes. -/
theorem drawHex_any (ad : Option Addr) (n cap : Nat) (w : World) (hn : n ≤ 1048576) (hc : Code w ad n) :
    Calls Tryd.prog 10 #[.slice ad n cap] w fun e w' => ∃ t : ByteArray, t.size ≤ 20001 ∧ e = .returned (.string t) ∧ Below w.heap.size w w' := by
  have HC : Hid (Code w ad n) := hc
  clear hc
  go_enter Tryd.func10, Tryd.ntmps10
  go_wp2_with fail
  refine (new_any ad n cap w hn HC.out).mono ?_
  rintro e w1 ⟨rfl, d1, s1, b1⟩
  have D1 : Hid (Drw (w.heap.size + 1) w1 w.heap.size ad n cap) := d1
  clear d1
  go_wp2_with fail
  refine (once_any _ _ n cap ad 60 w1 D1.out (by decide) (by decide)).mono ?_
  rintro e w2 ⟨b, rfl, d2, g2⟩
  have D2 : Hid (Drw (w.heap.size + 1) w2 w.heap.size ad n cap) := d2
  have B2 : Hid (Below w.heap.size w w2) := b1.trans (below_of_grown g2 (Nat.le_refl _) (by omega))
  have s2 := g2.size
  clear d2 g2
  cases b with
  | true =>
    go_wp2_with fail
    refine (below_any _ _ n cap ad 2 w2 D2.out (by decide) (by decide)).mono ?_
    rintro e w3 ⟨x, hx, rfl, d3, g3⟩
    have B3 : Hid (Below w.heap.size w w3) := B2.out.trans (below_of_grown g3 (Nat.le_refl _) (by omega))
    clear d3 g3
    go_wp2_with fail
    have CL : Hid (Calls Tryd.prog 20 #[.int .i64 (20000 + (x : Int)), .int .u8 200] w3 fun e w' => ∃ bs : List UInt8, bs.length = 20000 + x ∧ e = .returned (.string ⟨bs.toArray⟩) ∧ Below w3.heap.size w3 w') := by
      have := long_any (20000 + x) 200 w3 (by omega) (by decide)
      rwa [show ((20000 + x : Nat) : Int) = 20000 + (x : Int) by omega] at this
    refine CL.out.mono ?_
    rintro e w4 ⟨bs, hbs, rfl, b4⟩
    have B4 : Hid (Below w.heap.size w w4) := B3.out.trans (b4.mono B3.out.size)
    have HB : Hid (bs.length = 20000 + x) := hbs
    clear b4 hbs
    go_wp2
    go_ret
    exact ⟨_, by have := HB.out; show bs.toArray.size ≤ _; simp; omega, rfl, B4.out⟩
  | false =>
    go_wp2_with fail
    refine (below_any _ _ n cap ad 30 w2 D2.out (by decide) (by decide)).mono ?_
    rintro e w3 ⟨x, hx, rfl, d3, g3⟩
    have D3 : Hid (Drw (w.heap.size + 1) w3 w.heap.size ad n cap) := d3
    have B3 : Hid (Below w.heap.size w w3) := B2.out.trans (below_of_grown g3 (Nat.le_refl _) (by omega))
    have s3 := g3.size
    clear d3 g3
    go_wp2_with fail
    refine (text_any _ _ n cap ad x w3 D3.out (by omega) (by omega)).mono ?_
    rintro e w4 ⟨bs, hbs, rfl, d4, g4⟩
    have B4 : Hid (Below w.heap.size w w4) := B3.out.trans (below_of_grown g4 (Nat.le_refl _) (by omega))
    have HB : Hid (bs.length = x) := hbs
    clear d4 g4 hbs
    go_wp2
    go_ret
    exact ⟨_, by have := HB.out; show bs.toArray.size ≤ _; simp; omega, rfl, B4.out⟩
end Go.Proofs.YtnckjnkbpdfjpaaDoor
