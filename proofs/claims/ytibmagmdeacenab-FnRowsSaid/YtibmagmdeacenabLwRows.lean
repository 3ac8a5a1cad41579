/- At every draw: two drawn patterns one behind the other take what the second one takes from where the first one ends. -/
import Derived.Test.YtibmagmdeacenabFnJ
import Derived.Test.YtibmagmdeacenabDT
namespace Go.Proofs.Ytibmagmdeacenab
open Go.RowKit

theorem row_text (a b : List UInt8) : ((⟨#[40]⟩ : ByteArray) ++ ⟨a.toArray⟩ ++ ⟨#[41, 40]⟩ ++ ⟨b.toArray⟩ ++ ⟨#[41]⟩).data.toList = Pp.rowText a b := by
  simp [Pp.rowText]
/-- Of the first m places: does the second pattern end at j from one of them? -/
noncomputable def bsm (lx : List Nat) (q : List Pp.Pc) (s : ByteArray) (j m : Nat) : Bool := (lx.take m).any fun u => decide (j ∈ el q s u)
theorem bsm_succ (lx : List Nat) (q : List Pp.Pc) (s : ByteArray) (j m : Nat) (h : m < lx.length) : bsm lx q s j (m + 1) = (bsm lx q s j m || decide (j ∈ el q s (lx.getD m 0))) := by
  unfold bsm
  rw [List.take_succ_eq_append_getElem h, List.any_append]
  simp [h]
theorem bsm_all {p q r : List Pp.Pc} (hT : Two 5 p q r) {s : ByteArray} {i j : Nat} (hi : i ≤ s.size) : decide (j ∈ el r s i) = bsm (el p s i) q s j (el p s i).length := by
  rw [Bool.eq_iff_iff]
  unfold bsm
  rw [List.take_of_length_le (Nat.le_refl _)]
  simp only [List.any_eq_true, decide_eq_true_eq]
  rw [el_mem hi, hT.row]
  constructor
  · rintro ⟨u, h1, h2⟩
    have hu : u ≤ s.size := (En.Ends.le h1).2 hi
    exact ⟨u, (el_mem hi).2 h1, (el_mem hu).2 h2⟩
  · rintro ⟨u, h1, h2⟩
    exact ⟨u, (el_mem hi).1 h1, (el_mem (el_le h1)).1 h2⟩

set_option maxHeartbeats 4000000 in
set_option maxRecDepth 100000 in
theorem lawRows (ad : Option Addr) (n cap : Nat) (w : World) (hc : n ≤ 1048576 → Code w ad n) :
    Calls Try.prog 6 #[.slice ad n cap] w fun e w' => e = .returned (.bool true) ∧ Below w.heap.size w w' := by
  by_cases hbig : 1048576 < n
  · have CB : Hid _ := big_yes ad n cap hbig
    clear hc
    go_enter Try.func6, Try.ntmps6
    go_wp2_with fail
    refine Calls.mono (CB.out _) ?_
    rintro e w' ⟨rfl, rfl⟩
    go_wp2
    go_ret
    exact ⟨rfl, Below.refl _ _⟩
  have CB : Hid (∀ w, Calls Try.prog 9 #[.slice ad n cap] w fun e w' => e = .returned (.bool false) ∧ w' = w) := big_no ad n cap hbig
  have HC : Hid (Code w ad n) := hc (by omega)
  have hn : n ≤ 1048576 := by omega
  clear hc hbig
  go_enter Try.func6, Try.ntmps6
  go_wp2_with fail
  refine (CB.out _).mono ?_
  rintro e w0 ⟨rfl, rfl⟩
  go_wp2_with fail
  refine (drawPatterns_any ad n cap w0 hn HC.out).mono ?_
  rintro e w1 ⟨a, b, s, ha, hb, hs, rfl, b1⟩
  have B1 : Hid (Below w0.heap.size w0 w1) := b1
  obtain ⟨p, q, r, hp, hq, hr, hT⟩ := twoT_of (okRow_all a ha b hb)
  have la := texts04_len a ha
  have lb := texts04_len b hb
  obtain ⟨A, hA⟩ : ∃ A : ByteArray, A = ⟨a.toArray⟩ := ⟨_, rfl⟩
  obtain ⟨B, hB⟩ : ∃ B : ByteArray, B = ⟨b.toArray⟩ := ⟨_, rfl⟩
  have sa : A.size ≤ 7 := by rw [hA, lst_size]; exact la
  have sb : B.size ≤ 7 := by rw [hB, lst_size]; exact lb
  have hrt : Pp.read ((⟨#[40]⟩ : ByteArray) ++ A ++ ⟨#[41, 40]⟩ ++ B ++ ⟨#[41]⟩).data.toList = some r := by rw [hA, hB, row_text]; exact hr
  have hst : ((⟨#[40]⟩ : ByteArray) ++ A ++ ⟨#[41, 40]⟩ ++ B ++ ⟨#[41]⟩).size ≤ 1048576 := by
    rw [app_size, app_size, app_size, app_size]
    have e1 : (⟨#[40]⟩ : ByteArray).size = 1 := rfl
    have e2 : (⟨#[41, 40]⟩ : ByteArray).size = 2 := rfl
    have e3 : (⟨#[41]⟩ : ByteArray).size = 1 := rfl
    omega
  have hs2 : s.size ≤ 1048576 := by omega
  have EA : Hid (∀ i w, i ≤ s.size → Calls Try.prog 20 #[.string A, .string s, .int .i64 (i : Int)] w fun e w' => ∃ y, e = .returned y ∧ LAt w' y (el p s i) ∧ Below w.heap.size w w') := fun i w hi => ends_any A s p i w (by rw [hA]; exact hp) hT.hp (by omega) hs2 hi
  have EB : Hid (∀ i w, i ≤ s.size → Calls Try.prog 20 #[.string B, .string s, .int .i64 (i : Int)] w fun e w' => ∃ y, e = .returned y ∧ LAt w' y (el q s i) ∧ Below w.heap.size w w') := fun i w hi => ends_any B s q i w (by rw [hB]; exact hq) hT.hq (by omega) hs2 hi
  have ET : Hid (∀ i w, i ≤ s.size → Calls Try.prog 20 #[.string ((⟨#[40]⟩ : ByteArray) ++ A ++ ⟨#[41, 40]⟩ ++ B ++ ⟨#[41]⟩), .string s, .int .i64 (i : Int)] w fun e w' => ∃ y, e = .returned y ∧ LAt w' y (el r s i) ∧ Below w.heap.size w w') := fun i w hi => ends_any _ s r i w hrt hT.hr hst hs2 hi
  have HV : Hid (∀ i j, i ≤ s.size → decide (j ∈ el r s i) = bsm (el p s i) q s j (el p s i).length) := fun i j hi => bsm_all hT hi
  have HSP : Hid (∀ w, Calls Try.prog 24 #[.string ((⟨#[40]⟩ : ByteArray) ++ A ++ ⟨#[41, 40]⟩ ++ B ++ ⟨#[41]⟩)] w fun e w' => Below w.heap.size w w' ∧ ∃ va vn vc, e = .returned (.tuple #[.agg #[.slice va vn vc], .bool true])) := by
    intro w
    refine (specRead_any _ w hst).mono ?_
    rintro e w' ⟨h1, h2⟩
    rw [hrt] at h2
    obtain ⟨v, rfl, h3, -⟩ := h2
    obtain ⟨va, vn, vc, rfl⟩ := h3.form
    exact ⟨h1, va, vn, vc, rfl⟩
  have HR : Hid (∀ w, Calls Try.prog 22 #[.string A] w fun e w' => Below w.heap.size w w' ∧ ∃ v, e = .returned (.tuple #[.agg #[v], .bool true]) ∧ PcsAt w' v (p.map tp) ∧ 0 < p.length ∧ p.length ≤ 60) := fun w => readC _ p w (by rw [hA]; exact hp) (by omega)
  have HO : Hid (∀ v w, PcsAt w v (p.map tp) → 0 < p.length → p.length ≤ 60 → Calls Try.prog 23 #[.agg #[v]] w fun e w' => e = .returned (.bool true) ∧ Below w.heap.size w w') := fun v w h h0 h60 => okC v p w h hT.hp h0 h60
  have HI : Hid (∀ (p : List Pp.Pc) (i : Nat) (y : Value) (x : Nat) (w : World), LAt w y (el p s i) → x ≤ s.size → Calls Try.prog 21 #[y, .int .i64 (x : Int)] w fun e w' => e = .returned (.bool (decide (x ∈ el p s i))) ∧ w' = w) := fun p i y x w h hx => inE p s i y x w h hs2 hx
  rw [← hA, ← hB]
  clear hp hq hr hrt hst hT la lb hA hB ha hb b1 hs2 CB HC
  go_wp2_with fail
  refine (HSP.out _).mono ?_
  rintro e w2 ⟨b2, ua, un, uc, rfl⟩
  have B2 : Hid (Below w0.heap.size w0 w2) := B1.out.trans (b2.mono B1.out.size)
  clear B1 b2 HSP
  go_wp2
  go_loopw [8] (fun i wr => ∃ k : Nat, i = .int .i64 (k : Int) ∧ k ≤ s.size + 1 ∧ Hid (Below w0.heap.size w0 wr)) (fun i _ => s.size + 1 - (intOf i).toNat)
  case atStart => exact ⟨0, rfl, by omega, by first | exact B2.out | exact B2.out.alloc B2.out.size _⟩
  case round =>
    obtain ⟨k, rfl, hk, HB⟩ := hrel
    by_cases hlt : k ≤ s.size
    · have i1 : (k : Int) ≤ (s.size : Int) := by omega
      go_wp2_with fail
      refine (EA.out k wr hlt).mono ?_
      rintro e w3 ⟨x, rfl, x1, b3⟩
      have X3 : Hid (LAt w3 x (el p s k)) := x1
      have B3 : Hid (Below w0.heap.size w0 w3) := HB.out.trans (b3.mono HB.out.size)
      clear x1 b3
      go_wp2_with fail
      refine (ET.out k w3 hlt).mono ?_
      rintro e w4 ⟨z, rfl, z1, b4⟩
      have X4 := X3.out.keep b4
      have Z4 : Hid (LAt w4 z (el r s k)) := z1
      have B4 : Hid (Below w0.heap.size w0 w4) := B3.out.trans (b4.mono B3.out.size)
      clear z1 b4 X3 B3 B2
      obtain ⟨lx, hlx⟩ : ∃ lx, lx = el p s k := ⟨_, rfl⟩
      have hll : lx.length ≤ s.size + 1 := by rw [hlx]; exact el_len p s k
      have HV2 : Hid (∀ j, decide (j ∈ el r s k) = bsm lx q s j lx.length) := fun j => by rw [hlx]; exact HV.out k j hlt
      have HLE : Hid (∀ m, m < lx.length → lx.getD m 0 ≤ s.size) := by
        intro m hm
        have : lx.getD m 0 ∈ lx := by
          rw [List.getD_eq_getElem?_getD, List.getElem?_eq_getElem hm]
          exact List.getElem_mem _
        rw [hlx] at this ⊢
        exact el_le this
      rw [← hlx] at X4
      obtain ⟨xa, xc, rfl, hxf⟩ := X4
      obtain ⟨xn, hxn⟩ : ∃ xn, xn = lx.length := ⟨_, rfl⟩
      have XF : Hid (∀ wr, Below w4.heap.size w4 wr → ∀ m, m < xn → ∃ g, xa = some ⟨g, 0, none⟩ ∧ wr.cell? ⟨g, m, none⟩ = some (.int .i64 ((lx.getD m 0 : Nat) : Int)) ∧ lx.getD m 0 ≤ s.size) := by
        intro wr hb m hm
        obtain ⟨g, rfl, hg, hcl⟩ := hxf (by omega)
        exact ⟨g, rfl, (hb.cell (p := ⟨g, m, none⟩) hg).trans (hcl m (by omega)), HLE.out m (by omega)⟩
      have HBS : Hid (∀ j m, m < xn → bsm lx q s j (m + 1) = (bsm lx q s j m || decide (j ∈ el q s (lx.getD m 0)))) := fun j m hm => bsm_succ lx q s j m (by omega)
      have HV3 : Hid (∀ j, decide (j ∈ el r s k) = bsm lx q s j xn) := fun j => by rw [hxn]; exact HV2.out j
      rw [← hxn] at hll ⊢
      clear hxf hlx hxn HLE HV2 HV
      go_wp2
      go_loopw [11] (fun i wr => ∃ j : Nat, i = .int .i64 (j : Int) ∧ j ≤ s.size + 1 ∧ Hid (Below w4.heap.size w4 wr)) (fun i _ => s.size + 1 - (intOf i).toNat)
      case atStart => exact ⟨0, rfl, by omega, Below.refl _ _⟩
      case round =>
        obtain ⟨j, rfl, hj, HB5⟩ := hrel
        by_cases hlj : j ≤ s.size
        · have i2 : (j : Int) ≤ (s.size : Int) := by omega
          go_wp2
          go_loopw [12, 13] (fun so i wr => ∃ (m : Nat) (bo : Bool), i = .int .i64 (m : Int) ∧ so = .bool bo ∧ m ≤ xn ∧ Hid (bo = bsm lx q s j m) ∧ Hid (Below w4.heap.size w4 wr)) (fun _ i _ => xn - (intOf i).toNat)
          case atStart => exact ⟨0, false, rfl, rfl, by omega, rfl, HB5.out⟩
          case round =>
            obtain ⟨m, bo, rfl, rfl, hm, HM, HB6⟩ := hrel
            by_cases hlm : m < xn
            · have i3 : (m : Int) < (xn : Int) := by omega
              have hst := HBS.out j m hlm
              cases bo with
              | true =>
                have HM2 : Hid (true = bsm lx q s j (m + 1)) := by
                  show true = _
                  rw [hst, ← HM.out]
                  rfl
                clear hst
                go_wp2
                go_roundw
                case rel => exact ⟨m + 1, true, by go_num, rfl, by omega, HM2.out, HB6.out⟩
                case measure => simp [intOf]; omega
              | false =>
                obtain ⟨g, rfl, hcl, hu⟩ := XF.out wr HB6.out m hlm
                rw [← HM.out, Bool.false_or] at hst
                obtain ⟨u, hu2⟩ : ∃ u, u = lx.getD m 0 := ⟨_, rfl⟩
                rw [← hu2] at hcl hu hst
                have HST : Hid (bsm lx q s j (m + 1) = decide (j ∈ el q s u)) := hst
                clear hst hu2
                go_wp2_with fail
                refine (EB.out u wr hu).mono ?_
                rintro e w7 ⟨y, rfl, y1, b7⟩
                have B7 : Hid (Below w4.heap.size w4 w7) := HB6.out.trans (b7.mono HB6.out.size)
                have CI : Hid (Calls Try.prog 21 #[y, .int .i64 (j : Int)] w7 fun e w' => e = .returned (.bool (decide (j ∈ el q s u))) ∧ w' = w7) := HI.out q u y j w7 y1 hlj
                generalize decide (j ∈ el q s u) = bu at *
                clear y1 b7
                go_wp2_with fail
                refine CI.out.mono ?_
                rintro e w8 ⟨rfl, rfl⟩
                go_wp2
                go_roundw
                case rel => exact ⟨m + 1, bu, by go_num, rfl, by omega, HST.out.symm, B7.out⟩
                case measure => simp [intOf]; omega
            · obtain rfl : m = xn := by omega
              have CZ : Hid (Calls Try.prog 21 #[z, .int .i64 (j : Int)] wr fun e w' => e = .returned (.bool bo) ∧ w' = wr) := by
                have h := HI.out r k z j wr (Z4.out.keep HB6.out) hlj
                rw [HV3.out j, ← HM.out] at h
                exact h
              go_wp2_with fail
              refine CZ.out.mono ?_
              rintro e w7 ⟨rfl, rfl⟩
              cases bo with
              | true =>
                go_wp2
                go_roundw
                case rel => exact ⟨j + 1, by go_num, by omega, HB6.out⟩
                case measure => simp [intOf]; omega
              | false =>
                go_wp2
                go_roundw
                case rel => exact ⟨j + 1, by go_num, by omega, HB6.out⟩
                case measure => simp [intOf]; omega
        · have B5 : Hid (Below w0.heap.size w0 wr) := B4.out.trans (HB5.out.mono B4.out.size)
          go_wp2
          go_roundw
          case rel => exact ⟨k + 1, by go_num, by omega, B5.out⟩
          case measure => simp [intOf]; omega
    · go_wp2_with fail
      refine (HR.out wr).mono ?_
      rintro e w2 ⟨b2, v, rfl, v1, v2, v3⟩
      have CO : Hid (∀ A : Obj, Calls Try.prog 23 #[.agg #[v]] (w2.alloc A) fun e w' => e = .returned (.bool true) ∧ Below (w2.alloc A).heap.size (w2.alloc A) w') := fun A => HO.out v _ (v1.keep ((Below.refl _ _).alloc (Nat.le_refl _) _)) v2 v3
      have B2 : Hid (Below w0.heap.size w0 w2) := HB.out.trans (b2.mono HB.out.size)
      obtain ⟨va, vc, rfl, -⟩ := v1
      generalize (p.map tp).length = rl at *
      clear b2 v2 v3
      go_wp2_with fail
      refine (CO.out _).mono ?_
      rintro e w3 ⟨rfl, b3⟩
      have B3 : Hid (Below w0.heap.size w0 w3) := (B2.out.alloc B2.out.size _).trans (b3.mono (by have := B2.out.size; simp; omega))
      clear b3 B2 CO
      go_wp2
      go_ret
      exact ⟨rfl, B3.out⟩
#print axioms lawRows
end Go.Proofs.Ytibmagmdeacenab
