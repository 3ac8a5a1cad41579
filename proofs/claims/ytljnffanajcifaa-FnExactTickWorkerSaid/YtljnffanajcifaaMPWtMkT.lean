/- The law's own marks: the text of a mark. -/
import Derived.Test.YtljnffanajcifaaMPWtRdF
import Derived.Test.YtljnffanajcifaaMPWtPlainF
namespace Go.Proofs.Ytljnffanajcifaa
open Go.RowKit

theorem cat1 (c : UInt8) (t : List UInt8) : (⟨[c].toArray⟩ : ByteArray) ++ (⟨t.toArray⟩ : ByteArray) = ⟨(c :: t).toArray⟩ := by
  apply ByteArray.ext
  simp

theorem dg_round (n f m : Nat) (t : List UInt8) (hf : m < 10 ^ f) (he : Pl.dg f m ++ t = Pl.dg 20 n) (h : m ≠ 0) :
    ∃ g, f = g + 1 ∧ m / 10 < 10 ^ g ∧ Pl.dg g (m / 10) ++ (Pl.ch (m % 10) :: t) = Pl.dg 20 n := by
  cases f with
  | zero => simp at hf; omega
  | succ g =>
    refine ⟨g, rfl, ?_, ?_⟩
    · rw [Nat.pow_succ] at hf; omega
    · rw [Pl.dg_more g m h] at he; simpa using he

theorem ret_str {a b : ByteArray} (h : a = b) : Ending.returned (.string a) = Ending.returned (.string b) := by rw [h]

/-- The mark of k. -/
def mk (k : Nat) : List UInt8 := 109 :: Pl.dg 20 k

set_option maxHeartbeats 800000 in
set_option maxRecDepth 100000 in
theorem markText_any (n : Nat) (w : World) (h0 : 0 < n) (hn : n ≤ 100000000) :
    Calls Try.prog 21 #[.int .i64 (n : Int)] w fun e w' => e = .returned (.string ⟨(mk n).toArray⟩) ∧ Below w.heap.size w w' := by
  go_enter Try.func21, Try.ntmps21
  go_wp2
  go_loopw [0, 3] (fun i v wr => ∃ (m f : Nat) (t : List UInt8), i = .int .i64 (m : Int) ∧ v = .string ⟨t.toArray⟩ ∧ m ≤ 100000000 ∧ t.length + f = 20 ∧ Below w.heap.size w wr ∧ Hid (m < 10 ^ f) ∧ Hid (Pl.dg f m ++ t = Pl.dg 20 n)) (fun i _ _ => (intOf i).toNat)
  case atStart => exact ⟨n, 20, [], rfl, rfl, hn, rfl, Below.refl _ _, (by show n < 10 ^ 20; omega), (by show _ = _; simp)⟩
  case round =>
    obtain ⟨m, f, t, rfl, rfl, hm, htf, hbel, H1, H2⟩ := hrel
    have hsz := hbel.size
    by_cases hm0 : m = 0
    · subst hm0
      have h3 : Hid (t = Pl.dg 20 n) := by have := H2.out; rw [Pl.dg_zero] at this; exact this
      have htl : t.length ≤ 20 := by omega
      go_wp2
      go_ret
      exact ⟨ret_str (by unfold mk; rw [← h3.out]; exact cat1 109 t), hbel⟩
    · obtain ⟨g, hg, hq, hv⟩ := dg_round n f m t H1.out H2.out hm0
      have HG : Hid (f = g + 1) := hg
      have HQ : Hid (m / 10 < 10 ^ g) := hq
      have HV : Hid (Pl.dg g (m / 10) ++ (Pl.ch (m % 10) :: t) = Pl.dg 20 n) := hv
      clear hg hq hv
      have hpos : 0 < m := by omega
      have hcv := conv1 wr (Pl.ch (m % 10))
      rw [show ((Pl.ch (m % 10)).toNat : Int) = 48 + (m : Int) % 10 by have := Pl.ch_nat (m % 10) (by omega); omega] at hcv
      go_wp2
      go_roundw
      case rel =>
        refine ⟨m / 10, g, Pl.ch (m % 10) :: t, by go_num, ?_, by omega, ?_, hbel.alloc hsz _, HQ.out, HV.out⟩
        · rw [← cat1]
          rfl
        · have := HG.out; simp; omega
      case measure => simp [intOf]; omega

set_option maxRecDepth 100000 in
theorem markText_int (z : Int) (n : Nat) (w : World) (hz : z = (n : Int)) (h0 : 0 < n) (hn : n ≤ 100000000) :
    Calls Try.prog 21 #[.int .i64 z] w fun e w' => e = .returned (.string ⟨(mk n).toArray⟩) ∧ Below w.heap.size w w' := by
  subst hz
  exact markText_any n w h0 hn

end Go.Proofs.Ytljnffanajcifaa
