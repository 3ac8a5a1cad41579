/- At every draw: again and again is nothing, or once at least; once at least is once and again and again; maybe is nothing or once. -/
import Derived.Test.YtibmagmdeacenabFnJ
import Derived.Test.YtibmagmdeacenabDT
namespace Go.Proofs.Ytibmagmdeacenab
open Go.RowKit

theorem many_text (a : List UInt8) (c : UInt8) : ((⟨#[40]⟩ : ByteArray) ++ ⟨a.toArray⟩ ++ ⟨#[41, c]⟩).data.toList = Pp.manyText a c := by
  simp [Pp.manyText]
theorem more_text (a : List UInt8) : ((⟨#[40]⟩ : ByteArray) ++ ⟨a.toArray⟩ ++ ⟨#[41, 40]⟩ ++ ⟨a.toArray⟩ ++ ⟨#[41, 42]⟩).data.toList = Pp.moreText a := by
  simp [Pp.moreText]
theorem many_size (A : ByteArray) (c : UInt8) (h : A.size ≤ 7) : ((⟨#[40]⟩ : ByteArray) ++ A ++ ⟨#[41, c]⟩).size ≤ 1048576 := by
  rw [app_size, app_size]
  have e1 : (⟨#[40]⟩ : ByteArray).size = 1 := rfl
  have e2 : (⟨#[41, c]⟩ : ByteArray).size = 2 := rfl
  omega
theorem more_size (A : ByteArray) (h : A.size ≤ 7) : ((⟨#[40]⟩ : ByteArray) ++ A ++ ⟨#[41, 40]⟩ ++ A ++ ⟨#[41, 42]⟩).size ≤ 1048576 := by
  rw [app_size, app_size, app_size, app_size]
  have e1 : (⟨#[40]⟩ : ByteArray).size = 1 := rfl
  have e2 : (⟨#[41, 40]⟩ : ByteArray).size = 2 := rfl
  have e3 : (⟨#[41, 42]⟩ : ByteArray).size = 2 := rfl
  omega
/-- All that is asked of one drawn pattern. -/
theorem stars_of (a : List UInt8) (ha : a ∈ texts04) : ∃ p rs rp ro rm, Pp.read a = some p ∧ Pp.read (Pp.manyText a 42) = some rs ∧ Pp.read (Pp.manyText a 43) = some rp ∧ Pp.read (Pp.manyText a 63) = some ro ∧ Pp.read (Pp.moreText a) = some rm ∧ Many 7 p rs ∧ Many 8 p rp ∧ Many 9 p ro ∧ More p rm := by
  obtain ⟨p, rs, h1, h2, h3⟩ := manyT_of (okStar_all a ha)
  obtain ⟨p', rp, k1, k2, k3⟩ := manyT_of (okPlus_all a ha)
  obtain ⟨p'', ro, l1, l2, l3⟩ := manyT_of (okOpt_all a ha)
  obtain ⟨p3, rm, m1, m2, m3⟩ := moreT_of (okMore_all a ha)
  obtain rfl := Option.some.inj (h1.symm.trans k1)
  obtain rfl := Option.some.inj (h1.symm.trans l1)
  obtain rfl := Option.some.inj (h1.symm.trans m1)
  exact ⟨p, rs, rp, ro, rm, h1, h2, k2, l2, m2, h3, k3, l3, m3⟩

set_option maxHeartbeats 8000000 in
set_option maxRecDepth 100000 in
theorem lawStars (ad : Option Addr) (n cap : Nat) (w : World) (hc : n ≤ 1048576 → Code w ad n) :
    Calls Try.prog 7 #[.slice ad n cap] w fun e w' => e = .returned (.bool true) ∧ Below w.heap.size w w' := by
  by_cases hbig : 1048576 < n
  · have CB : Hid _ := big_yes ad n cap hbig
    clear hc
    go_enter Try.func7, Try.ntmps7
    go_wp2_with fail
    refine Calls.mono (CB.out _) ?_
    rintro e w' ⟨rfl, rfl⟩
    go_wp2
    go_ret
    exact ⟨rfl, Below.refl _ _⟩
  have CB : Hid (∀ w, Calls Try.prog 9 #[.slice ad n cap] w fun e w' => e = .returned (.bool false) ∧ w' = w) := big_no ad n cap hbig
  have HC : Hid (Code w ad n) := hc (by omega)
  have hn : n ≤ 1048576 := by omega
  clear hc hbig
  go_enter Try.func7, Try.ntmps7
  go_wp2_with fail
  refine (CB.out _).mono ?_
  rintro e w0 ⟨rfl, rfl⟩
  go_wp2_with fail
  refine (drawPatterns_any ad n cap w0 hn HC.out).mono ?_
  rintro e w1 ⟨a, b, s, ha, hb, hs, rfl, b1⟩
  have B1 : Hid (Below w0.heap.size w0 w1) := b1
  obtain ⟨p, rs, rp, ro, rm, hp, hrs, hrp, hro, hrm, hS, hP, hO, hM⟩ := stars_of a ha
  have la := texts04_len a ha
  obtain ⟨A, hA⟩ : ∃ A : ByteArray, A = ⟨a.toArray⟩ := ⟨_, rfl⟩
  obtain ⟨B, hB⟩ : ∃ B : ByteArray, B = ⟨b.toArray⟩ := ⟨_, rfl⟩
  have sa : A.size ≤ 7 := by rw [hA, lst_size]; exact la
  have trs : Pp.read ((⟨#[40]⟩ : ByteArray) ++ A ++ ⟨#[41, 42]⟩).data.toList = some rs := by rw [hA, many_text]; exact hrs
  have trp : Pp.read ((⟨#[40]⟩ : ByteArray) ++ A ++ ⟨#[41, 43]⟩).data.toList = some rp := by rw [hA, many_text]; exact hrp
  have tro : Pp.read ((⟨#[40]⟩ : ByteArray) ++ A ++ ⟨#[41, 63]⟩).data.toList = some ro := by rw [hA, many_text]; exact hro
  have trm : Pp.read ((⟨#[40]⟩ : ByteArray) ++ A ++ ⟨#[41, 40]⟩ ++ A ++ ⟨#[41, 42]⟩).data.toList = some rm := by rw [hA, more_text]; exact hrm
  have hs2 : s.size ≤ 1048576 := by omega
  have EA : Hid (∀ i w, i ≤ s.size → Calls Try.prog 20 #[.string A, .string s, .int .i64 (i : Int)] w fun e w' => ∃ y, e = .returned y ∧ LAt w' y (el p s i) ∧ Below w.heap.size w w') := fun i w hi => ends_any A s p i w (by rw [hA]; exact hp) hS.hp (by omega) hs2 hi
  have ES : Hid (∀ i w, i ≤ s.size → Calls Try.prog 20 #[.string ((⟨#[40]⟩ : ByteArray) ++ A ++ ⟨#[41, 42]⟩), .string s, .int .i64 (i : Int)] w fun e w' => ∃ y, e = .returned y ∧ LAt w' y (el rs s i) ∧ Below w.heap.size w w') := fun i w hi => ends_any _ s rs i w trs hS.hr (many_size A _ sa) hs2 hi
  have EP : Hid (∀ i w, i ≤ s.size → Calls Try.prog 20 #[.string ((⟨#[40]⟩ : ByteArray) ++ A ++ ⟨#[41, 43]⟩), .string s, .int .i64 (i : Int)] w fun e w' => ∃ y, e = .returned y ∧ LAt w' y (el rp s i) ∧ Below w.heap.size w w') := fun i w hi => ends_any _ s rp i w trp hP.hr (many_size A _ sa) hs2 hi
  have EO : Hid (∀ i w, i ≤ s.size → Calls Try.prog 20 #[.string ((⟨#[40]⟩ : ByteArray) ++ A ++ ⟨#[41, 63]⟩), .string s, .int .i64 (i : Int)] w fun e w' => ∃ y, e = .returned y ∧ LAt w' y (el ro s i) ∧ Below w.heap.size w w') := fun i w hi => ends_any _ s ro i w tro hO.hr (many_size A _ sa) hs2 hi
  have EM : Hid (∀ i w, i ≤ s.size → Calls Try.prog 20 #[.string ((⟨#[40]⟩ : ByteArray) ++ A ++ ⟨#[41, 40]⟩ ++ A ++ ⟨#[41, 42]⟩), .string s, .int .i64 (i : Int)] w fun e w' => ∃ y, e = .returned y ∧ LAt w' y (el rm s i) ∧ Below w.heap.size w w') := fun i w hi => ends_any _ s rm i w trm hM.hr (more_size A sa) hs2 hi
  have HV1 : Hid (∀ i j, i ≤ s.size → decide (j ∈ el rs s i) = (decide (j = i) || decide (j ∈ el rp s i))) := by
    intro i j hi
    rw [Bool.eq_iff_iff]
    simp only [Bool.or_eq_true, decide_eq_true_eq]
    rw [el_mem hi, el_mem hi, hS.star, hP.plus, Rm.iff]
  have HV2 : Hid (∀ i j, i ≤ s.size → decide (j ∈ el ro s i) = (decide (j = i) || decide (j ∈ el p s i))) := by
    intro i j hi
    rw [Bool.eq_iff_iff]
    simp only [Bool.or_eq_true, decide_eq_true_eq]
    rw [el_mem hi, el_mem hi, hO.opt]
  have HV3 : Hid (∀ i j, i ≤ s.size → decide (j ∈ el rm s i) = decide (j ∈ el rp s i)) := by
    intro i j hi
    rw [Bool.eq_iff_iff]
    simp only [decide_eq_true_eq]
    rw [el_mem hi, el_mem hi, hP.plus, hM.more]
  have HSP : Hid (∀ w, Calls Try.prog 24 #[.string ((⟨#[40]⟩ : ByteArray) ++ A ++ ⟨#[41, 40]⟩ ++ A ++ ⟨#[41, 42]⟩)] w fun e w' => Below w.heap.size w w' ∧ ∃ va vn vc, e = .returned (.tuple #[.agg #[.slice va vn vc], .bool true])) := by
    intro w
    refine (specRead_any _ w (more_size A sa)).mono ?_
    rintro e w' ⟨h1, h2⟩
    rw [trm] at h2
    obtain ⟨v, rfl, h3, -⟩ := h2
    obtain ⟨va, vn, vc, rfl⟩ := h3.form
    exact ⟨h1, va, vn, vc, rfl⟩
  have HR : Hid (∀ w, Calls Try.prog 22 #[.string ((⟨#[40]⟩ : ByteArray) ++ A ++ ⟨#[41, 42]⟩)] w fun e w' => Below w.heap.size w w' ∧ ∃ v, e = .returned (.tuple #[.agg #[v], .bool true]) ∧ PcsAt w' v (rs.map tp) ∧ 0 < rs.length ∧ rs.length ≤ 60) := fun w => readC _ rs w trs (many_size A _ sa)
  have HO : Hid (∀ v w, PcsAt w v (rs.map tp) → 0 < rs.length → rs.length ≤ 60 → Calls Try.prog 23 #[.agg #[v]] w fun e w' => e = .returned (.bool true) ∧ Below w.heap.size w w') := fun v w h h0 h60 => okC v rs w h hS.hr h0 h60
  have HI : Hid (∀ (p : List Pp.Pc) (i : Nat) (y : Value) (x : Nat) (w : World), LAt w y (el p s i) → x ≤ s.size → Calls Try.prog 21 #[y, .int .i64 (x : Int)] w fun e w' => e = .returned (.bool (decide (x ∈ el p s i))) ∧ w' = w) := fun p i y x w h hx => inE p s i y x w h hs2 hx
  have HLS : Hid (rs.length = p.length + 1 ∧ ((rs.map tp).getD p.length Pi.no).op = 7) := ⟨hS.len, by rw [tp_at hS.top]; rfl⟩
  rw [← hA, ← hB]
  clear hp hrs hrp hro hrm trs trp tro trm hS hP hO hM la hA hB ha hb b1 hs2 CB HC
  go_wp2
  go_loopw [6] (fun i wr => ∃ k : Nat, i = .int .i64 (k : Int) ∧ k ≤ s.size + 1 ∧ Hid (Below w0.heap.size w0 wr)) (fun i _ => s.size + 1 - (intOf i).toNat)
  case atStart => exact ⟨0, rfl, by omega, B1.out⟩
  case round =>
    obtain ⟨k, rfl, hk, HB⟩ := hrel
    by_cases hlt : k ≤ s.size
    · have i1 : (k : Int) ≤ (s.size : Int) := by omega
      go_wp2_with fail
      refine (ES.out k wr hlt).mono ?_
      rintro e w2 ⟨xs, rfl, x1, b2⟩
      have S2 : Hid (LAt w2 xs (el rs s k)) := x1
      have B2 : Hid (Below w0.heap.size w0 w2) := HB.out.trans (b2.mono HB.out.size)
      clear x1 b2
      go_wp2_with fail
      refine (EP.out k w2 hlt).mono ?_
      rintro e w3 ⟨xp, rfl, x1, b3⟩
      have S3 : Hid (LAt w3 xs (el rs s k)) := S2.out.keep b3
      have P3 : Hid (LAt w3 xp (el rp s k)) := x1
      have B3 : Hid (Below w0.heap.size w0 w3) := B2.out.trans (b3.mono B2.out.size)
      clear x1 b3 S2 B2
      go_wp2_with fail
      refine (EO.out k w3 hlt).mono ?_
      rintro e w4 ⟨xo, rfl, x1, b4⟩
      have S4 : Hid (LAt w4 xs (el rs s k)) := S3.out.keep b4
      have P4 : Hid (LAt w4 xp (el rp s k)) := P3.out.keep b4
      have O4 : Hid (LAt w4 xo (el ro s k)) := x1
      have B4 : Hid (Below w0.heap.size w0 w4) := B3.out.trans (b4.mono B3.out.size)
      clear x1 b4 S3 P3 B3
      go_wp2_with fail
      refine (EA.out k w4 hlt).mono ?_
      rintro e w5 ⟨xa, rfl, x1, b5⟩
      have S5 : Hid (LAt w5 xs (el rs s k)) := S4.out.keep b5
      have P5 : Hid (LAt w5 xp (el rp s k)) := P4.out.keep b5
      have O5 : Hid (LAt w5 xo (el ro s k)) := O4.out.keep b5
      have A5 : Hid (LAt w5 xa (el p s k)) := x1
      have B5 : Hid (Below w0.heap.size w0 w5) := B4.out.trans (b5.mono B4.out.size)
      clear x1 b5 S4 P4 O4 B4
      go_wp2_with fail
      refine (EM.out k w5 hlt).mono ?_
      rintro e w6 ⟨xm, rfl, x1, b6⟩
      have S6 : Hid (LAt w6 xs (el rs s k)) := S5.out.keep b6
      have P6 : Hid (LAt w6 xp (el rp s k)) := P5.out.keep b6
      have O6 : Hid (LAt w6 xo (el ro s k)) := O5.out.keep b6
      have A6 : Hid (LAt w6 xa (el p s k)) := A5.out.keep b6
      have M6 : Hid (LAt w6 xm (el rm s k)) := x1
      have B6 : Hid (Below w0.heap.size w0 w6) := B5.out.trans (b6.mono B5.out.size)
      clear x1 b6 S5 P5 O5 A5 B5
      go_wp2_with fail
      refine (HSP.out w6).mono ?_
      rintro e w7 ⟨b7, ua, un, uc, rfl⟩
      have S7 : Hid (LAt w7 xs (el rs s k)) := S6.out.keep b7
      have P7 : Hid (LAt w7 xp (el rp s k)) := P6.out.keep b7
      have O7 : Hid (LAt w7 xo (el ro s k)) := O6.out.keep b7
      have A7 : Hid (LAt w7 xa (el p s k)) := A6.out.keep b7
      have M7 : Hid (LAt w7 xm (el rm s k)) := M6.out.keep b7
      have B7 : Hid (Below w0.heap.size w0 w7) := B6.out.trans (b7.mono B6.out.size)
      have hbA : Below w7.heap.size w7 (w7.alloc (.cells #[.slice ua un uc] 38)) := (Below.refl _ _).alloc (Nat.le_refl _) _
      replace S7 : Hid (LAt (w7.alloc (.cells #[.slice ua un uc] 38)) xs (el rs s k)) := S7.out.keep hbA
      replace P7 : Hid (LAt (w7.alloc (.cells #[.slice ua un uc] 38)) xp (el rp s k)) := P7.out.keep hbA
      replace O7 : Hid (LAt (w7.alloc (.cells #[.slice ua un uc] 38)) xo (el ro s k)) := O7.out.keep hbA
      replace A7 : Hid (LAt (w7.alloc (.cells #[.slice ua un uc] 38)) xa (el p s k)) := A7.out.keep hbA
      replace M7 : Hid (LAt (w7.alloc (.cells #[.slice ua un uc] 38)) xm (el rm s k)) := M7.out.keep hbA
      replace B7 : Hid (Below w0.heap.size w0 (w7.alloc (.cells #[.slice ua un uc] 38))) := B7.out.trans (hbA.mono B7.out.size)
      clear b7 S6 P6 O6 A6 M6 B6 HB B1 hbA
      go_wp2
      generalize w7.alloc (.cells #[.slice ua un uc] 38) = w7 at *
      go_loop [14] (fun i => ∃ j : Nat, i = .int .i64 (j : Int) ∧ j ≤ s.size + 1) (fun i => s.size + 1 - (intOf i).toNat)
      case atStart => exact ⟨0, rfl, by omega⟩
      case round =>
        obtain ⟨j, rfl, hj⟩ := hrel
        by_cases hlj : j ≤ s.size
        · have i2 : (j : Int) ≤ (s.size : Int) := by omega
          have CS : Hid (Calls Try.prog 21 #[xs, .int .i64 (j : Int)] w7 fun e w' => e = .returned (.bool (decide (j ∈ el rs s k))) ∧ w' = w7) := HI.out rs k xs j w7 S7.out hlj
          have CP : Hid (Calls Try.prog 21 #[xp, .int .i64 (j : Int)] w7 fun e w' => e = .returned (.bool (decide (j ∈ el rp s k))) ∧ w' = w7) := HI.out rp k xp j w7 P7.out hlj
          have CO : Hid (Calls Try.prog 21 #[xo, .int .i64 (j : Int)] w7 fun e w' => e = .returned (.bool (decide (j ∈ el ro s k))) ∧ w' = w7) := HI.out ro k xo j w7 O7.out hlj
          have CA : Hid (Calls Try.prog 21 #[xa, .int .i64 (j : Int)] w7 fun e w' => e = .returned (.bool (decide (j ∈ el p s k))) ∧ w' = w7) := HI.out p k xa j w7 A7.out hlj
          have CM : Hid (Calls Try.prog 21 #[xm, .int .i64 (j : Int)] w7 fun e w' => e = .returned (.bool (decide (j ∈ el rm s k))) ∧ w' = w7) := HI.out rm k xm j w7 M7.out hlj
          have v1 := HV1.out k j hlt
          have v2 := HV2.out k j hlt
          have v3 := HV3.out k j hlt
          generalize decide (j ∈ el rs s k) = bs at *
          generalize decide (j ∈ el rp s k) = bp at *
          generalize decide (j ∈ el ro s k) = bo at *
          generalize decide (j ∈ el p s k) = ba at *
          generalize decide (j ∈ el rm s k) = bm at *
          subst v3
          by_cases hjk : j = k
          · have dj : decide (j = k) = true := by simp [hjk]
            have dk : ((j : Int) == (k : Int)) = true := by simp [hjk]
            rw [dj, Bool.true_or] at v1 v2
            subst v1 v2
            clear dj hjk
            go_wp2_with fail
            refine CS.out.mono ?_
            rintro e w8 ⟨rfl, rfl⟩
            go_wp2_with fail
            refine CO.out.mono ?_
            rintro e w8 ⟨rfl, rfl⟩
            go_wp2_with fail
            refine CP.out.mono ?_
            rintro e w8 ⟨rfl, rfl⟩
            go_wp2_with fail
            refine CM.out.mono ?_
            rintro e w8 ⟨rfl, rfl⟩
            cases bm with
            | true =>
              go_wp2
              go_round
              case rel => exact ⟨j + 1, by go_num, by omega⟩
              case measure => simp [intOf]; omega
            | false =>
              go_wp2
              go_round
              case rel => exact ⟨j + 1, by go_num, by omega⟩
              case measure => simp [intOf]; omega
          · have dj : decide (j = k) = false := by simp [hjk]
            have dk : ((j : Int) == (k : Int)) = false := by simp; omega
            rw [dj, Bool.false_or] at v1 v2
            subst v1 v2
            clear dj hjk
            go_wp2_with fail
            refine CS.out.mono ?_
            rintro e w8 ⟨rfl, rfl⟩
            go_wp2_with fail
            refine CP.out.mono ?_
            rintro e w8 ⟨rfl, rfl⟩
            cases bs <;> cases bo <;>
            · go_wp2_with fail
              refine CO.out.mono ?_
              rintro e w8 ⟨rfl, rfl⟩
              go_wp2_with fail
              refine CA.out.mono ?_
              rintro e w8 ⟨rfl, rfl⟩
              go_wp2_with fail
              refine CP.out.mono ?_
              rintro e w8 ⟨rfl, rfl⟩
              go_wp2_with fail
              refine CM.out.mono ?_
              rintro e w8 ⟨rfl, rfl⟩
              go_wp2
              go_round
              case rel => exact ⟨j + 1, by go_num, by omega⟩
              case measure => simp [intOf]; omega
        · go_wp2
          go_roundw
          case rel => exact ⟨k + 1, by go_num, by omega, B7.out⟩
          case measure => simp [intOf]; omega
    · go_wp2_with fail
      refine (HR.out wr).mono ?_
      rintro e w2 ⟨b2, v, rfl, v1, v2, v3⟩
      have CO : Hid (∀ A : Obj, Calls Try.prog 23 #[.agg #[v]] (w2.alloc A) fun e w' => e = .returned (.bool true) ∧ Below (w2.alloc A).heap.size (w2.alloc A) w') := fun A => HO.out v _ (v1.keep ((Below.refl _ _).alloc (Nat.le_refl _) _)) v2 v3
      have B2 : Hid (Below w0.heap.size w0 w2) := HB.out.trans (b2.mono HB.out.size)
      obtain ⟨va, vc, rfl, hvf⟩ := v1
      rw [List.length_map, HLS.out.1] at hvf CO ⊢
      obtain ⟨b, o, rfl, hbl, hpc⟩ := hvf (by omega)
      obtain ⟨kv, hop, -⟩ := hpc p.length (by omega)
      rw [HLS.out.2] at hop
      obtain ⟨m, hm⟩ : ∃ m, m = p.length := ⟨_, rfl⟩
      have hm60 : m ≤ 60 := by have := HLS.out.1; omega
      rw [← hm] at hop CO ⊢
      have HOP : Hid (∀ w3, Below w2.heap.size w2 w3 → w3.cell? ⟨b, o + m * 3, none⟩ = some (.int .i64 7)) := fun w3 h => (h.cell (p := ⟨b, o + m * 3, none⟩) hbl).trans hop
      clear b2 v2 v3 hvf hpc hm HLS
      have m1 : (m : Int) < ((m + 1 : Nat) : Int) := by omega
      have m2 : IntKind.i64.wrap ((m : Int) + 1 - 1) = (m : Int) := by rw [show (m : Int) + 1 - 1 = (m : Int) by omega]; exact IntWalk.i64_in _ (by omega)
      go_wp2_with fail
      refine (CO.out _).mono ?_
      rintro e w3 ⟨rfl, b3⟩
      have hop3 := HOP.out w3 (((Below.refl _ _).alloc (Nat.le_refl _) _).trans (b3.mono (by simp)))
      have cp3 : w3.cell? ⟨w2.heap.size, 0, none⟩ = some (.slice (some ⟨b, o, none⟩) (m + 1) vc) := by
        rw [b3.cell (p := ⟨w2.heap.size, 0, none⟩) (by simp), blk_cell (heap_alloc_new w2 _)]
        rfl
      have B3 : Hid (Below w0.heap.size w0 w3) := (B2.out.alloc B2.out.size _).trans (b3.mono (by have := B2.out.size; simp; omega))
      clear b3 B2 CO HOP hop hbl
      go_wp2_with fail
      go_ret
      exact ⟨rfl, B3.out⟩
#print axioms lawStars
end Go.Proofs.Ytibmagmdeacenab
