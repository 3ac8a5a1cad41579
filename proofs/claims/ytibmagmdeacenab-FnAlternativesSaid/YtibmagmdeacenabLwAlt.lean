/- At every draw: an alternative of two drawn patterns takes just what either does. -/
import Derived.Test.YtibmagmdeacenabFnJ
import Derived.Test.YtibmagmdeacenabDT
namespace Go.Proofs.Ytibmagmdeacenab
open Go.RowKit

theorem alt_text (a b : List UInt8) : ((⟨#[40]⟩ : ByteArray) ++ ⟨a.toArray⟩ ++ ⟨#[41, 124, 40]⟩ ++ ⟨b.toArray⟩ ++ ⟨#[41]⟩).data.toList = Pp.altText a b := by
  simp [Pp.altText]

set_option maxHeartbeats 4000000 in
set_option maxRecDepth 100000 in
theorem lawAlternatives (ad : Option Addr) (n cap : Nat) (w : World) (hc : n ≤ 1048576 → Code w ad n) :
    Calls Try.prog 5 #[.slice ad n cap] w fun e w' => e = .returned (.bool true) ∧ Below w.heap.size w w' := by
  by_cases hbig : 1048576 < n
  · have CB : Hid _ := big_yes ad n cap hbig
    clear hc
    go_enter Try.func5, Try.ntmps5
    go_wp2_with fail
    refine Calls.mono (CB.out _) ?_
    rintro e w' ⟨rfl, rfl⟩
    go_wp2
    go_ret
    exact ⟨rfl, Below.refl _ _⟩
  have CB : Hid (∀ w, Calls Try.prog 9 #[.slice ad n cap] w fun e w' => e = .returned (.bool false) ∧ w' = w) := big_no ad n cap hbig
  have HC : Hid (Code w ad n) := hc (by omega)
  have hn : n ≤ 1048576 := by omega
  clear hc hbig
  go_enter Try.func5, Try.ntmps5
  go_wp2_with fail
  refine (CB.out _).mono ?_
  rintro e w0 ⟨rfl, rfl⟩
  go_wp2_with fail
  refine (drawPatterns_any ad n cap w0 hn HC.out).mono ?_
  rintro e w1 ⟨a, b, s, ha, hb, hs, rfl, b1⟩
  have B1 : Hid (Below w0.heap.size w0 w1) := b1
  obtain ⟨p, q, r, hp, hq, hr, hT⟩ := twoT_of (okAlt_all a ha b hb)
  have la := texts04_len a ha
  have lb := texts04_len b hb
  obtain ⟨A, hA⟩ : ∃ A : ByteArray, A = ⟨a.toArray⟩ := ⟨_, rfl⟩
  obtain ⟨B, hB⟩ : ∃ B : ByteArray, B = ⟨b.toArray⟩ := ⟨_, rfl⟩
  have sa : A.size ≤ 7 := by rw [hA, lst_size]; exact la
  have sb : B.size ≤ 7 := by rw [hB, lst_size]; exact lb
  have hrt : Pp.read ((⟨#[40]⟩ : ByteArray) ++ A ++ ⟨#[41, 124, 40]⟩ ++ B ++ ⟨#[41]⟩).data.toList = some r := by rw [hA, hB, alt_text]; exact hr
  have hst : ((⟨#[40]⟩ : ByteArray) ++ A ++ ⟨#[41, 124, 40]⟩ ++ B ++ ⟨#[41]⟩).size ≤ 1048576 := by
    rw [app_size, app_size, app_size, app_size]
    have e1 : (⟨#[40]⟩ : ByteArray).size = 1 := rfl
    have e2 : (⟨#[41, 124, 40]⟩ : ByteArray).size = 3 := rfl
    have e3 : (⟨#[41]⟩ : ByteArray).size = 1 := rfl
    omega
  have hs2 : s.size ≤ 1048576 := by omega
  have EA : Hid (∀ i w, i ≤ s.size → Calls Try.prog 20 #[.string A, .string s, .int .i64 (i : Int)] w fun e w' => ∃ y, e = .returned y ∧ LAt w' y (el p s i) ∧ Below w.heap.size w w') := fun i w hi => ends_any A s p i w (by rw [hA]; exact hp) hT.hp (by omega) hs2 hi
  have EB : Hid (∀ i w, i ≤ s.size → Calls Try.prog 20 #[.string B, .string s, .int .i64 (i : Int)] w fun e w' => ∃ y, e = .returned y ∧ LAt w' y (el q s i) ∧ Below w.heap.size w w') := fun i w hi => ends_any B s q i w (by rw [hB]; exact hq) hT.hq (by omega) hs2 hi
  have ET : Hid (∀ i w, i ≤ s.size → Calls Try.prog 20 #[.string ((⟨#[40]⟩ : ByteArray) ++ A ++ ⟨#[41, 124, 40]⟩ ++ B ++ ⟨#[41]⟩), .string s, .int .i64 (i : Int)] w fun e w' => ∃ y, e = .returned y ∧ LAt w' y (el r s i) ∧ Below w.heap.size w w') := fun i w hi => ends_any _ s r i w hrt hT.hr hst hs2 hi
  have HV : Hid (∀ i j, i ≤ s.size → decide (j ∈ el r s i) = (decide (j ∈ el p s i) || decide (j ∈ el q s i))) := by
    intro i j hi
    rw [Bool.eq_iff_iff]
    simp only [Bool.or_eq_true, decide_eq_true_eq]
    rw [el_mem hi, el_mem hi, el_mem hi]
    exact hT.alt
  have HR : Hid (∀ w, Calls Try.prog 22 #[.string ((⟨#[40]⟩ : ByteArray) ++ A ++ ⟨#[41, 124, 40]⟩ ++ B ++ ⟨#[41]⟩)] w fun e w' => Below w.heap.size w w' ∧ ∃ v, e = .returned (.tuple #[.agg #[v], .bool true]) ∧ PcsAt w' v (r.map tp) ∧ 0 < r.length ∧ r.length ≤ 60) := fun w => readC _ r w hrt hst
  have HO : Hid (∀ v w, PcsAt w v (r.map tp) → 0 < r.length → r.length ≤ 60 → Calls Try.prog 23 #[.agg #[v]] w fun e w' => e = .returned (.bool true) ∧ Below w.heap.size w w') := fun v w h h0 h60 => okC v r w h hT.hr h0 h60
  have HI : Hid (∀ (p : List Pp.Pc) (i : Nat) (y : Value) (x : Nat) (w : World), LAt w y (el p s i) → x ≤ s.size → Calls Try.prog 21 #[y, .int .i64 (x : Int)] w fun e w' => e = .returned (.bool (decide (x ∈ el p s i))) ∧ w' = w) := fun p i y x w h hx => inE p s i y x w h hs2 hx
  rw [← hA, ← hB]
  clear hp hq hr hrt hst hT la lb hA hB ha hb b1 hs2 CB HC
  go_wp2
  go_loopw [6] (fun i wr => ∃ k : Nat, i = .int .i64 (k : Int) ∧ k ≤ s.size + 1 ∧ Hid (Below w0.heap.size w0 wr)) (fun i _ => s.size + 1 - (intOf i).toNat)
  case atStart => exact ⟨0, rfl, by omega, B1.out⟩
  case round =>
    obtain ⟨k, rfl, hk, HB⟩ := hrel
    by_cases hlt : k ≤ s.size
    · have i1 : (k : Int) ≤ (s.size : Int) := by omega
      go_wp2_with fail
      refine (EA.out k wr hlt).mono ?_
      rintro e w2 ⟨x, rfl, x1, b2⟩
      have X2 : Hid (LAt w2 x (el p s k)) := x1
      have B2 : Hid (Below w0.heap.size w0 w2) := HB.out.trans (b2.mono HB.out.size)
      clear x1 b2
      go_wp2_with fail
      refine (EB.out k w2 hlt).mono ?_
      rintro e w3 ⟨y, rfl, y1, b3⟩
      have X3 : Hid (LAt w3 x (el p s k)) := X2.out.keep b3
      have Y3 : Hid (LAt w3 y (el q s k)) := y1
      have B3 : Hid (Below w0.heap.size w0 w3) := B2.out.trans (b3.mono B2.out.size)
      clear y1 b3 X2 B2
      go_wp2_with fail
      refine (ET.out k w3 hlt).mono ?_
      rintro e w4 ⟨z, rfl, z1, b4⟩
      have X4 : Hid (LAt w4 x (el p s k)) := X3.out.keep b4
      have Y4 : Hid (LAt w4 y (el q s k)) := Y3.out.keep b4
      have Z4 : Hid (LAt w4 z (el r s k)) := z1
      have B4 : Hid (Below w0.heap.size w0 w4) := B3.out.trans (b4.mono B3.out.size)
      clear z1 b4 X3 Y3 B3 B1
      go_wp2
      go_loop [10] (fun i => ∃ j : Nat, i = .int .i64 (j : Int) ∧ j ≤ s.size + 1) (fun i => s.size + 1 - (intOf i).toNat)
      case atStart => exact ⟨0, rfl, by omega⟩
      case round =>
        obtain ⟨j, rfl, hj⟩ := hrel
        by_cases hlj : j ≤ s.size
        · have i2 : (j : Int) ≤ (s.size : Int) := by omega
          have CX : Hid (Calls Try.prog 21 #[x, .int .i64 (j : Int)] w4 fun e w' => e = .returned (.bool (decide (j ∈ el p s k))) ∧ w' = w4) := HI.out p k x j w4 X4.out hlj
          have CY : Hid (Calls Try.prog 21 #[y, .int .i64 (j : Int)] w4 fun e w' => e = .returned (.bool (decide (j ∈ el q s k))) ∧ w' = w4) := HI.out q k y j w4 Y4.out hlj
          have CZ : Hid (Calls Try.prog 21 #[z, .int .i64 (j : Int)] w4 fun e w' => e = .returned (.bool (decide (j ∈ el r s k))) ∧ w' = w4) := HI.out r k z j w4 Z4.out hlj
          have hv := HV.out k j hlt
          generalize decide (j ∈ el r s k) = bz at *
          generalize decide (j ∈ el p s k) = bx at *
          generalize decide (j ∈ el q s k) = by_ at *
          subst hv
          go_wp2_with fail
          refine CZ.out.mono ?_
          rintro e w5 ⟨rfl, rfl⟩
          go_wp2_with fail
          refine CX.out.mono ?_
          rintro e w6 ⟨rfl, rfl⟩
          cases bx with
          | true =>
            go_wp2
            go_round
            case rel => exact ⟨j + 1, by go_num, by omega⟩
            case measure => simp [intOf]; omega
          | false =>
            go_wp2_with fail
            refine CY.out.mono ?_
            rintro e w7 ⟨rfl, rfl⟩
            cases by_ with
            | true =>
              go_wp2
              go_round
              case rel => exact ⟨j + 1, by go_num, by omega⟩
              case measure => simp [intOf]; omega
            | false =>
              go_wp2
              go_round
              case rel => exact ⟨j + 1, by go_num, by omega⟩
              case measure => simp [intOf]; omega
        · go_wp2
          go_roundw
          case rel => exact ⟨k + 1, by go_num, by omega, B4.out⟩
          case measure => simp [intOf]; omega
    · have D24 : decide ((A.size : Int) + (B.size : Int) + 5 ≤ 24) = true := by simp; omega
      go_wp2_with fail
      refine (HR.out wr).mono ?_
      rintro e w2 ⟨b2, v, rfl, v1, v2, v3⟩
      have CO : Hid (∀ A : Obj, Calls Try.prog 23 #[.agg #[v]] (w2.alloc A) fun e w' => e = .returned (.bool true) ∧ Below (w2.alloc A).heap.size (w2.alloc A) w') := fun A => HO.out v _ (v1.keep ((Below.refl _ _).alloc (Nat.le_refl _) _)) v2 v3
      have B2 : Hid (Below w0.heap.size w0 w2) := HB.out.trans (b2.mono HB.out.size)
      obtain ⟨va, vc, rfl, -⟩ := v1
      generalize (r.map tp).length = rl at *
      clear b2 v2 v3
      go_wp2_with fail
      refine (CO.out _).mono ?_
      rintro e w3 ⟨rfl, b3⟩
      have B3 : Hid (Below w0.heap.size w0 w3) := (B2.out.alloc B2.out.size _).trans (b3.mono (by have := B2.out.size; simp; omega))
      clear b3 B2 CO
      go_wp2
      go_ret
      exact ⟨rfl, B3.out⟩
#print axioms lawAlternatives
end Go.Proofs.Ytibmagmdeacenab
