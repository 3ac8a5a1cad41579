/- When a pattern is right: what PatternOk of the program answers, at every pattern. -/
import Derived.Test.YtlnmbahakdmkgaaPtE
namespace Go.Proofs.Ytlnmbahakdmkgaa
open Go.RowKit

set_option maxHeartbeats 2000000 in
theorem implOk_any (v : Value) (ps : List Pi) (w : World) (h : PcsAt w v ps) (hl : ps.length ≤ 1048576) (hs : Small ps ps.length) :
    Calls Try.prog 24 #[.agg #[v]] w fun e w' => e = .returned (.bool (Pk.pat ps)) ∧ Below w.heap.size w w' := by
  obtain ⟨ad, c, rfl, f⟩ := h
  obtain ⟨n, hn⟩ : ∃ n, n = ps.length := ⟨_, rfl⟩
  have HV : Hid (Pk.pat ps = (decide (1 ≤ n ∧ n ≤ 60) && Pk.upto ps n)) := by rw [hn]; rfl
  have HS : Hid (Small ps n) := by rw [hn]; exact hs
  rw [← hn] at f hl ⊢
  have HFP : Hid (0 < n → ∃ b o, ad = some ⟨b, o, none⟩ ∧ b < w.heap.size ∧ ∀ i, i < n → PieceAt w b (o + i * 3) (ps.getD i Pi.no)) := f
  clear hs hn f
  have HB : Hid (∀ o : Obj, Below w.heap.size w (w.alloc o)) := fun o => (Below.refl _ _).alloc (Nat.le_refl _) _
  by_cases h1 : n < 1
  · have d1 : decide ((n : Int) < 1) = true := decide_eq_true (by omega)
    have HR : Hid (Pk.pat ps = false) := by show _ = _; rw [HV.out, decide_eq_false (by omega), Bool.false_and]
    go_enter Try.func24, Try.ntmps24
    go_wp2
    go_ret
    rw [HR.out]
    exact ⟨rfl, HB.out _⟩
  · have d1 : decide ((n : Int) < 1) = false := decide_eq_false (by omega)
    by_cases h2 : 60 < n
    · have d2 : decide ((60 : Int) < (n : Int)) = true := decide_eq_true (by omega)
      have HR : Hid (Pk.pat ps = false) := by show _ = _; rw [HV.out, decide_eq_false (by omega), Bool.false_and]
      go_enter Try.func24, Try.ntmps24
      go_wp2
      go_ret
      rw [HR.out]
      exact ⟨rfl, HB.out _⟩
    · have d2 : decide ((60 : Int) < (n : Int)) = false := decide_eq_false (by omega)
      have HV2 : Hid (Pk.pat ps = Pk.upto ps n) := by show _ = _; rw [HV.out, decide_eq_true (by omega), Bool.true_and]
      obtain ⟨b, o, rfl, hb, hc⟩ := HFP.out (by omega)
      have HC : Hid (∀ i, i < n → PieceAt w b (o + i * 3) (ps.getD i Pi.no)) := hc
      clear HFP HV hc h1 h2
      go_enter Try.func24, Try.ntmps24
      go_wp2
      go_loopw [18] (fun i wr => ∃ k : Nat, i = .int .i64 (k : Int) ∧ k ≤ n ∧ Below w.heap.size w wr ∧ Hid (Pk.upto ps k = true)) (fun i _ => n - (intOf i).toNat)
      case atStart => exact ⟨0, rfl, by omega, HB.out _, rfl⟩
      case round =>
        obtain ⟨k, rfl, hk, hbel, HU⟩ := hrel
        have hsz := hbel.size
        by_cases hlt : k < n
        · have hpc := HC.out k hlt
          have hkl := (HS.out k hlt).1
          obtain ⟨p, hp⟩ : ∃ p, p = ps.getD k Pi.no := ⟨_, rfl⟩
          rw [← hp] at hpc hkl
          have HP : Hid (p = ps.getD k Pi.no) := hp
          clear hp
          obtain ⟨kv, c0, c1, c2, hkv⟩ := hpc
          have e0 := (hbel.cell hb).trans c0
          have e1 := (hbel.cell hb).trans c1
          have e2 := (hbel.cell hb).trans c2
          have hkv2 := hkv.keep hbel
          clear c0 c1 c2 hkv
          obtain ⟨pb, hpb⟩ : ∃ pb, pb = Pk.piece k p := ⟨_, rfl⟩
          have CP : Hid (∀ w', Below wr.heap.size wr w' → Calls Try.prog 46 #[.agg #[.int .i64 p.op, .string p.text, kv], .int .i64 (k : Int)] w' fun e w'' => e = .returned (.bool pb) ∧ Below w'.heap.size w' w'') := by
            rw [hpb]
            exact fun w' hb => pieceOk_any kv p k w' (hkv2.keep hb) hkl
          have HPB : Hid (pb = Pk.piece k (ps.getD k Pi.no)) := by show _ = _; rw [hpb, HP.out]
          clear hpb HP
          obtain ⟨op, t, ks⟩ := p
          simp only at e0 e1 CP
          obtain ⟨ka, kc, rfl, _⟩ := hkv2
          have i1 : (k : Int) < (n : Int) := by omega
          go_wp2_with fail
          refine (CP.out _ ((Below.refl _ _).alloc (Nat.le_refl _) _)).mono ?_
          rintro e w1 ⟨rfl, hb1⟩
          have hb2 : Below w.heap.size w w1 := (hbel.alloc hsz _).trans (hb1.mono (by simp; omega))
          cases pb with
          | true =>
            have HR : Hid (Pk.upto ps (k + 1) = true) := by show _ = _; rw [Pk.upto_succ, HU.out, ← HPB.out]; rfl
            go_wp2
            go_roundw
            case rel => exact ⟨k + 1, by go_num, by omega, hb2, HR.out⟩
            case measure => simp [intOf]; omega
          | false =>
            have HR : Hid (Pk.upto ps n = false) := Pk.upto_false ps n k hlt HPB.out.symm
            go_wp2
            go_ret
            rw [HV2.out, HR.out]
            exact ⟨rfl, hb2⟩
        · obtain rfl : k = n := by omega
          go_wp2
          go_ret
          rw [HV2.out, HU.out]
          exact ⟨rfl, hbel⟩
#print axioms implOk_any
end Go.Proofs.Ytlnmbahakdmkgaa
