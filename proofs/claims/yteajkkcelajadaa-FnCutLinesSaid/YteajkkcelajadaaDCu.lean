/- Drawn lines, and a drawn number of lines a part. -/
import Derived.Test.YteajkkcelajadaaDLn
import Derived.Test.YteajkkcelajadaaDPk
import Derived.Test.YteajkkcelajadaaTxA
namespace Go.Proofs.Yteajkkcelajadaa
open Go.RowKit

set_option maxHeartbeats 1000000 in
set_option maxRecDepth 100000 in
theorem l11Lines_any (B g n cap : Nat) (ad : Option Addr) (w : World) (hd : Drw B w g ad n cap) (hB : B ≤ w.heap.size) :
    Calls Try.prog 19 #[.pointer (some ⟨g, 0, none⟩)] w fun e w' => ∃ (q c : Nat) (ts : List ByteArray), e = .returned (.slice (some ⟨q, 0, none⟩) ts.length c) ∧ TxRow w.heap.size w' (.slice (some ⟨q, 0, none⟩) ts.length c) ts ∧ ts.length ≤ 8 ∧ (∀ t ∈ ts, t.size ≤ 64) ∧ Drw B w' g ad n cap ∧ w.grownBy w' (some g) := by
  have HD : Hid (Drw B w g ad n cap) := hd
  have hgl : g < w.heap.size := hd.lt
  clear hd
  go_enter Try.func19, Try.ntmps19
  have HG0 : Hid (w.grownBy (w.alloc (.cells #[] 9)) (some g)) := World.grownBy_alloc w _ _
  have HD0 : Hid (Drw B (w.alloc (.cells #[] 9)) g ad n cap) := HD.out.keep ((Below.refl _ _).alloc hB _)
  have HR0 : Hid (TxRow w.heap.size (w.alloc (.cells #[] 9)) (.slice (some ⟨w.heap.size, 0, none⟩) 0 0) []) := World.ownsRow_made w #[] 0 (Nat.le_refl _) (by decide) rfl
  go_wp2
  go_loopw [3, 4] (fun v i wr => ∃ (k rq rc : Nat) (ts : List ByteArray), i = .int .i64 (k : Int) ∧ v = .slice (some ⟨rq, 0, none⟩) k rc ∧ k ≤ 8 ∧ ts.length = k ∧ Hid (∀ t ∈ ts, t.size ≤ 64) ∧ w.heap.size ≤ wr.heap.size ∧ Hid (TxRow w.heap.size wr v ts) ∧ Hid (Drw B wr g ad n cap) ∧ Hid (w.grownBy wr (some g))) (fun _ i _ => 8 - (intOf i).toNat)
  case atStart => exact ⟨0, _, _, [], rfl, rfl, by omega, rfl, fun t ht => by simp at ht, by simp, HR0, HD0, HG0⟩
  case round =>
    clear HR0 HD0 HG0
    obtain ⟨k, rq, rc, ts, rfl, rfl, hk, hlk, HTS, hsz, HR, HDR, HG⟩ := hrel
    have HLK : Hid (ts.length = k) := hlk
    clear hlk
    go_wp2_with fail
    refine (below_any B g n cap ad 8 wr HDR.out (by decide) (by decide)).mono ?_
    rintro e w1 ⟨x, hx, rfl, d1, g1⟩
    have G1 : Hid (w.grownBy w1 (some g)) := grown_trans HG.out g1
    have s1 := g1.size
    have HR1 : Hid (TxRow w.heap.size w1 (.slice (some ⟨rq, 0, none⟩) k rc) ts) := ownKeep HR.out (fun q hq => g1.block q (World.ownsRow.lt HR.out q hq).2 (by intro e; have h1 := (World.ownsRow.lt HR.out q hq).1; have h2 := Option.some.inj e; omega))
    have D1 : Hid (Drw B w1 g ad n cap) := d1
    have hB1 : B ≤ w1.heap.size := by omega
    clear d1 g1 HR HDR HG
    by_cases hlt : k < x
    · have dlt : decide ((k : Int) < (x : Int)) = true := by simp; omega
      go_wp2_with fail
      refine (l03LineD_any B g n cap ad w1 D1.out hB1).mono ?_
      rintro e w2 ⟨t, ht, rfl, d2, g2⟩
      have G2 : Hid (w.grownBy w2 (some g)) := grown_trans G1.out g2
      have s2 := g2.size
      have HR2 : Hid (TxRow w.heap.size w2 (.slice (some ⟨rq, 0, none⟩) k rc) ts) := ownKeep HR1.out (fun q hq => g2.block q (World.ownsRow.lt HR1.out q hq).2 (by intro e; have h1 := (World.ownsRow.lt HR1.out q hq).1; have h2 := Option.some.inj e; omega))
      have D2 : Hid (Drw B w2 g ad n cap) := d2
      have hs2 : w.heap.size ≤ w2.heap.size := by omega
      have hglow : g < B := d2.low
      clear d2 g2 HR1 D1 G1
      go_wp2_with (at_builtin; go_must (refine TxRow.push HR2.out rfl _ _ rfl rfl t _ rfl rfl (by have := HLK.out; omega) hs2 ?_))
      intro q cp w3 r3 s3 b3
      rw [HLK.out] at r3 ⊢
      have HR3 : Hid (TxRow w.heap.size w3 (.slice (some ⟨q, 0, none⟩) (k + 1) cp) (ts ++ [t])) := r3
      have HG3 : Hid (w.grownBy w3 (some g)) := ⟨b3.os.trans G2.out.os, b3.tape.trans G2.out.tape, b3.output.trans G2.out.output, Nat.le_trans hs2 b3.size, fun j hj hne => (b3.block j hj).trans (G2.out.block j hj hne)⟩
      have HD3 : Hid (Drw B w3 g ad n cap) := D2.out.keep (b3.mono hB)
      have HTS3 : Hid (∀ t' ∈ ts ++ [t], t'.size ≤ 64) := by
        intro t' ht'
        rcases List.mem_append.1 ht' with h | h
        · exact HTS.out t' h
        · simp at h; subst h; exact ht
      have hs3 : w.heap.size ≤ w3.heap.size := by omega
      have HLK3 : Hid ((ts ++ [t]).length = k + 1) := by show _ = _; rw [List.length_append, HLK.out]; rfl
      clear r3 b3 HR2 D2 G2
      go_wp2
      go_roundw
      case rel => exact ⟨k + 1, q, cp, _, by go_num, rfl, by omega, HLK3.out, HTS3, hs3, HR3, HD3, HG3⟩
      case measure => simp [intOf]; omega
    · have dlt : decide ((k : Int) < (x : Int)) = false := by simp; omega
      go_wp2
      go_ret
      exact ⟨rq, rc, ts, by rw [HLK.out]; rfl, by rw [HLK.out]; exact HR1.out, by have := HLK.out; omega, HTS.out, D1.out, G1.out⟩

def cutNs : List Int := [1, 2, 3, 5, 20, 0, -1, 9223372036854775807]
set_option maxHeartbeats 1000000 in
set_option maxRecDepth 100000 in
theorem dCut_any (ad : Option Addr) (n cap : Nat) (w : World) (hn : n ≤ 1048576) (hc : Code w ad n) :
    Calls Try.prog 6 #[.slice ad n cap] w fun e w' => ∃ (q c : Nat) (ts : List ByteArray) (z : Int), e = .returned (.tuple #[.slice (some ⟨q, 0, none⟩) ts.length c, .int .i64 z]) ∧ TxRow w.heap.size w' (.slice (some ⟨q, 0, none⟩) ts.length c) ts ∧ ts.length ≤ 8 ∧ (∀ t ∈ ts, t.size ≤ 64) ∧ Below w.heap.size w w' := by
  have HC : Hid (Code w ad n) := hc
  clear hc
  go_enter Try.func6, Try.ntmps6
  go_wp2_with fail
  refine (new_any ad n cap w hn HC.out).mono ?_
  rintro e w1 ⟨rfl, d1, s1, b1⟩
  have D1 : Hid (Drw (w.heap.size + 1) w1 w.heap.size ad n cap) := d1
  have HB1 : Hid (Below w.heap.size w w1) := b1
  have C1 : Hid (Calls Try.prog 18 #[.pointer (some ⟨w.heap.size, 0, none⟩), .slice (some ⟨w1.heap.size, 0, none⟩) 8 8] (w1.alloc (.cells (cutNs.map (Value.int .i64)).toArray 3)) fun e w' => ∃ z : Int, z ∈ cutNs ∧ e = .returned (.int .i64 z) ∧ Drw (w.heap.size + 1) w' w.heap.size ad n cap ∧ w1.grownBy w' (some w.heap.size)) :=
    pickI_any _ _ n cap ad cutNs w1 d1 (by omega) (by decide) (by decide)
  have HS1 : Hid (w1.heap.size = w.heap.size + 1) := s1
  clear d1 b1 s1
  go_wp2_with fail
  refine C1.out.mono ?_
  rintro e w2 ⟨z, hz, rfl, d2, g2⟩
  have s2 := g2.size
  have s1 := HS1.out
  have HB2 : Hid (Below w.heap.size w w2) := HB1.out.trans (below_of_grown g2 (Nat.le_refl _) (by omega))
  have D2 : Hid (Drw (w.heap.size + 1) w2 w.heap.size ad n cap) := d2
  have hs2 : w.heap.size + 1 ≤ w2.heap.size := by omega
  clear d2 g2 C1 hz s1 s2
  go_wp2_with fail
  refine (l11Lines_any _ _ n cap ad w2 D2.out hs2).mono ?_
  rintro e w3 ⟨q, c, ts, rfl, r3, hl3, ht3, d3, g3⟩
  have HB3 : Hid (Below w.heap.size w w3) := HB2.out.trans (below_of_grown g3 (Nat.le_refl _) (by omega))
  have HR3 : Hid (TxRow w.heap.size w3 (.slice (some ⟨q, 0, none⟩) ts.length c) ts) := ownLower r3 HB2.out.size
  have HTS : Hid (∀ t ∈ ts, t.size ≤ 64) := ht3
  clear r3 d3 g3 ht3
  go_wp2
  go_ret2
  exact ⟨q, c, ts, z, rfl, HR3.out, hl3, HTS.out, HB3.out⟩
end Go.Proofs.Yteajkkcelajadaa
