/- A drawn line, a drawn text: some text of not many bytes. -/
import Derived.Test.YteajkkcelajadaaDPs
import Derived.Test.YteajkkcelajadaaDOn
import Derived.Test.YteajkkcelajadaaDLg
import Derived.Test.YteajkkcelajadaaDPk
import Derived.Test.YteajkkcelajadaaBig
namespace Go.Proofs.Yteajkkcelajadaa
open Go.RowKit

def gaps03 : List (List UInt8) := [[], [32], [32, 32], [9]]
def words03 : List (List UInt8) := [[97], [98], [97, 98], [49], [50], [51, 48], [120, 55], [97, 98, 98, 97]]
theorem gaps03_len : ∀ t ∈ gaps03, t.length ≤ 2 := by decide
theorem words03_len : ∀ t ∈ words03, t.length ≤ 4 := by decide
theorem lst_size (l : List UInt8) : (⟨l.toArray⟩ : ByteArray).size = l.length := by
  show l.toArray.size = _
  simp

set_option maxHeartbeats 1000000 in
set_option maxRecDepth 100000 in
theorem l03LineD_any (B g n cap : Nat) (ad : Option Addr) (w : World) (hd : Drw B w g ad n cap) (hB : B ≤ w.heap.size) :
    Calls Try.prog 24 #[.pointer (some ⟨g, 0, none⟩)] w fun e w' => ∃ t : ByteArray, t.size ≤ 64 ∧ e = .returned (.string t) ∧ Drw B w' g ad n cap ∧ w.grownBy w' (some g) := by
  have HD : Hid (Drw B w g ad n cap) := hd
  clear hd
  go_enter Try.func24, Try.ntmps24
  go_wp2
  go_loopw [3, 4] (fun v i wr => ∃ (k : Nat) (t : ByteArray), i = .int .i64 (k : Int) ∧ v = .string t ∧ k ≤ 5 ∧ t.size ≤ 7 * k ∧ B ≤ wr.heap.size ∧ Hid (Drw B wr g ad n cap) ∧ Hid (w.grownBy wr (some g))) (fun _ i _ => 5 - (intOf i).toNat)
  case atStart => exact ⟨0, ⟨#[]⟩, rfl, rfl, by omega, by decide, hB, HD.out, grown_refl _ _⟩
  case round =>
    obtain ⟨k, t, rfl, rfl, hk, hts, hsz, HDR, HG⟩ := hrel
    go_wp2_with fail
    refine (below_any B g n cap ad 5 wr HDR.out (by decide) (by decide)).mono ?_
    rintro e w1 ⟨x, hx, rfl, d1, g1⟩
    have G1 : Hid (w.grownBy w1 (some g)) := grown_trans HG.out g1
    have s1 := g1.size
    have hB1 : B ≤ w1.heap.size := by omega
    have C1 : Hid (Calls Try.prog 27 #[.pointer (some ⟨g, 0, none⟩), .slice (some ⟨w1.heap.size, 0, none⟩) 4 4] (w1.alloc (.cells (gaps03.map sv).toArray 9))
      fun e w' => ∃ t : List UInt8, t ∈ gaps03 ∧ e = .returned (.string ⟨t.toArray⟩) ∧ Drw B w' g ad n cap ∧ w1.grownBy w' (some g)) := pickL_any B g n cap ad gaps03 w1 d1 hB1 (by decide) (by decide)
    have D1 : Hid (Drw B w1 g ad n cap) := d1
    clear d1 g1
    by_cases hlt : k < x
    · have dlt : decide ((k : Int) < (x : Int)) = true := by simp; omega
      go_wp2_with fail
      refine C1.out.mono ?_
      rintro e w2 ⟨p, hp, rfl, d2, g2⟩
      have hpl : (⟨p.toArray⟩ : ByteArray).size ≤ 2 := by rw [lst_size]; exact gaps03_len p hp
      generalize (⟨p.toArray⟩ : ByteArray) = pb at *
      have G2 : Hid (w.grownBy w2 (some g)) := grown_trans G1.out g2
      have s2 := g2.size
      have hB2 : B ≤ w2.heap.size := by omega
      have C2 : Hid (Calls Try.prog 27 #[.pointer (some ⟨g, 0, none⟩), .slice (some ⟨w2.heap.size, 0, none⟩) 8 8] (w2.alloc (.cells (words03.map sv).toArray 9))
        fun e w' => ∃ t : List UInt8, t ∈ words03 ∧ e = .returned (.string ⟨t.toArray⟩) ∧ Drw B w' g ad n cap ∧ w2.grownBy w' (some g)) := pickL_any B g n cap ad words03 w2 d2 hB2 (by decide) (by decide)
      clear d2 g2 hp C1
      go_wp2_with fail
      refine C2.out.mono ?_
      rintro e w3 ⟨q, hq, rfl, d3, g3⟩
      have hql : (⟨q.toArray⟩ : ByteArray).size ≤ 4 := by rw [lst_size]; exact words03_len q hq
      generalize (⟨q.toArray⟩ : ByteArray) = qb at *
      have G3 : Hid (w.grownBy w3 (some g)) := grown_trans G2.out g3
      have D3 : Hid (Drw B w3 g ad n cap) := d3
      have s3 := g3.size
      have e1 : (t ++ pb).size = t.size + pb.size := app_size _ _
      have e2 : (t ++ pb ++ qb).size = t.size + pb.size + qb.size := by rw [app_size, app_size]
      have HE : Hid ((t ++ pb ++ qb ++ (⟨#[32]⟩ : ByteArray)).size ≤ 7 * (k + 1)) := by
        show _ ≤ _
        rw [app_size, app_size, app_size, show (⟨#[32]⟩ : ByteArray).size = 1 from rfl]
        omega
      clear d3 g3 hq C2
      go_wp2
      go_roundw
      case rel => exact ⟨k + 1, _, by go_num, rfl, by omega, HE.out, by omega, D3.out, G3.out⟩
      case measure => simp [intOf]; omega
    · have dlt : decide ((k : Int) < (x : Int)) = false := by simp; omega
      clear C1
      go_wp2
      go_ret
      exact ⟨t, by omega, rfl, D1.out, G1.out⟩


end Go.Proofs.Yteajkkcelajadaa
