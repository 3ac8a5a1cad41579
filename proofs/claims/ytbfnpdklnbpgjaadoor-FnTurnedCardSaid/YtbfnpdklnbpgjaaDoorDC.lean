/- Drawn texts: each is some text within its bounds, and nothing that was there is written. -/
import Derived.Test.YtbfnpdklnbpgjaaDoorDB
import Derived.Test.YtbfnpdklnbpgjaaDoorKitM
namespace Go.Proofs.YtbfnpdklnbpgjaaDoor
open Go.RowKit

theorem Row.kept {B : Nat} {w w' : World} {v : Value} {bs : List UInt8} {g : Nat} (h : Row B w v bs) (hg : w.grownBy w' (some g)) (hB : g < B) : Row B w' v bs := by
  refine World.ownsRow.kept h hg (.inr ?_)
  intro e
  have := (World.ownsRow.lt h g e).1
  omega

theorem grown_below {w w1 w2 : World} {r : Option Nat} (h : w.grownBy w1 r) (hb : Below w.heap.size w1 w2) : w.grownBy w2 r :=
  ⟨hb.os.trans h.os, hb.tape.trans h.tape, hb.output.trans h.output, Nat.le_trans h.size hb.size, fun k hk hne => (hb.block k hk).trans (h.block k hk hne)⟩

set_option maxHeartbeats 1000000 in
set_option maxRecDepth 100000 in
/-- m drawn bytes. -/
theorem text_any (B g n cap : Nat) (ad : Option Addr) (m : Nat) (w : World) (hd : Drw B w g ad n cap) (hB : B ≤ w.heap.size) (hm : m ≤ 5000) :
    Calls Tryd.prog 29 #[.pointer (some ⟨g, 0, none⟩), .int .i64 (m : Int)] w fun e w' => ∃ bs : List UInt8, bs.length = m ∧ e = .returned (.string ⟨bs.toArray⟩) ∧ Drw B w' g ad n cap ∧ w.grownBy w' (some g) := by
  have HD : Hid (Drw B w g ad n cap) := hd
  have hgl := hd.low
  clear hd
  go_enter Tryd.func29, Tryd.ntmps29
  go_wp2
  go_loopw [5, 6] (fun v i wr => ∃ (k : Nat) (bs : List UInt8), i = .int .i64 (k : Int) ∧ k ≤ m ∧ Row w.heap.size wr v bs ∧ w.heap.size ≤ wr.heap.size ∧ Hid (bs.length = k) ∧ Hid (Drw B wr g ad n cap) ∧ Hid (w.grownBy wr (some g))) (fun _ i _ => m - (intOf i).toNat)
  case atStart => exact ⟨0, [], rfl, by omega, Row.made w #[] 0 (Nat.le_refl _) (by decide) rfl, by simp, rfl, HD.out.keep ((Below.refl _ _).alloc hB _), World.grownBy_alloc w _ _⟩
  case round =>
    obtain ⟨k, bs, rfl, hk, hrow, hsz, HL, HDR, HGR⟩ := hrel
    by_cases hlt : k < m
    · go_wp2_with fail
      refine (byte_any B g n cap ad wr HDR.out).mono ?_
      rintro e w1 ⟨x, hx, rfl, d1, g1⟩
      have hrow1 := hrow.kept g1 (by omega)
      have D1 : Hid (Drw B w1 g ad n cap) := d1
      have G1 : Hid (w.grownBy w1 (some g)) := grown_trans HGR.out g1
      have hs1 := g1.size
      have hlen : bs.length < 5000 := by have := HL.out; omega
      clear d1 g1 hrow
      go_wp2_with (at_builtin; go_must (refine hrow1.push rfl (.tmp 15) (.tmp 19) rfl rfl _ (UInt8.ofNat x) ?hz rfl ?hl ?hb ?_))
      case hz => have := Pl.small x hx; omega
      case hl => omega
      case hb => omega
      · intro v' w2 hrow' hbel'
        have hb2 : Below B w1 w2 := hbel'.mono (by omega)
        have GR : Hid (w.grownBy w2 (some g)) := grown_below G1.out hbel'
        go_wp2
        go_roundw
        case rel => exact ⟨k + 1, _, by go_num, by omega, hrow', by have := hbel'.size; omega, by have := HL.out; show _ = _; simp; omega, D1.out.keep hb2, GR.out⟩
        case measure => simp [intOf]; omega
    · have hst := hrow.str
      go_wp2
      go_ret
      exact ⟨bs, by have := HL.out; omega, rfl, HDR.out, HGR.out⟩
end Go.Proofs.YtbfnpdklnbpgjaaDoor
