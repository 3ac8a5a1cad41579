/- At every draw: a byte that stands for itself is found just where it is; with a stroke ahead any sign is; the begin and the end are there alone. -/
import Derived.Test.YtlnmbahakdmkgaaZbm
import Derived.Test.YtlnmbahakdmkgaaZbn
import Derived.Test.YtlnmbahakdmkgaaIpP
namespace Go.Proofs.Ytlnmbahakdmkgaa
open Go.RowKit

/-- f is the first place from m on that holds the byte c, or -1. -/
def FirstAt (s : ByteArray) (c : UInt8) (m : Nat) (f : Int) : Prop :=
  (f = -1 ∧ ∀ j, m ≤ j → ∀ h : j < s.size, s[j] ≠ c) ∨ (∃ j : Nat, f = (j : Int) ∧ m ≤ j ∧ (∃ h : j < s.size, s[j] = c) ∧ ∀ i, m ≤ i → i < j → ∀ h : i < s.size, s[i] ≠ c)
theorem FirstAt.hit {s : ByteArray} {c : UInt8} {m : Nat} (h : m < s.size) (e : s[m] = c) : FirstAt s c m (m : Int) := .inr ⟨m, rfl, Nat.le_refl _, ⟨h, e⟩, fun i h1 h2 => by omega⟩
theorem FirstAt.miss {s : ByteArray} {c : UInt8} {m : Nat} {f : Int} (k : FirstAt s c (m + 1) f) (h : m < s.size) (e : s[m] ≠ c) : FirstAt s c m f := by
  rcases k with ⟨rfl, k⟩ | ⟨j, rfl, k1, k2, k3⟩
  · refine .inl ⟨rfl, fun j h1 h2 => ?_⟩
    by_cases ej : j = m
    · subst ej; exact e
    · exact k j (by omega) h2
  · refine .inr ⟨j, rfl, by omega, k2, fun i h1 h2 h3 => ?_⟩
    by_cases ei : i = m
    · subst ei; exact e
    · exact k3 i (by omega) h2 h3
theorem tk_self (c : UInt8) (b : UInt8) : Pp.tk ⟨1, [c], []⟩ b = decide (b = c) := by
  unfold Pp.tk
  simp
/-- What FindIn tells of a byte that stands for itself. -/
theorem find_yes {s : ByteArray} {c : UInt8} {j : Nat} (hr : Pp.right [⟨1, [c], []⟩] = true) (h : j < s.size) (e : s[j] = c) (hno : ∀ i, i < j → ∀ h : i < s.size, s[i] ≠ c) : En.FindIs ([⟨1, [c], []⟩].map tp) s (j : Int) ((j : Int) + 1) true := by
  refine .inl ⟨rfl, right_pat hr (by simp) (by simp), j, j + 1, rfl, by simp, by omega, ?_, fun i hi => ?_, fun y hy i hi => ?_⟩
  · have := el_byte_in ⟨1, [c], []⟩ s j (Nat.le_refl 1) (by show (1 : Nat) ≤ 4; decide) h (by rw [tk_self, e]; simp)
    exact (el_mem (p := [⟨1, [c], []⟩]) (by omega)).1 (by rw [this]; simp)
  · have k := (el_mem (p := [⟨1, [c], []⟩]) (i := j) (j := i) (by omega)).2 hi
    rw [el_byte_in ⟨1, [c], []⟩ s j (Nat.le_refl 1) (by show (1 : Nat) ≤ 4; decide) h (by rw [tk_self, e]; simp)] at k
    have : i = j + 1 := by simpa using k
    omega
  · have k := (el_mem (p := [⟨1, [c], []⟩]) (i := y) (j := i) (by omega)).2 hi
    rw [el_byte_out ⟨1, [c], []⟩ s y (Nat.le_refl 1) (by show (1 : Nat) ≤ 4; decide) (by omega) (fun h => by rw [tk_self]; simpa using hno y hy h)] at k
    cases k
theorem find_no {s : ByteArray} {c : UInt8} (hno : ∀ i, ∀ h : i < s.size, s[i] ≠ c) : En.FindIs ([⟨1, [c], []⟩].map tp) s 0 0 false := by
  refine .inr ⟨rfl, rfl, rfl, .inr fun y hy i hi => ?_⟩
  have k := (el_mem (p := [⟨1, [c], []⟩]) (i := y) (j := i) hy).2 hi
  rw [el_byte_out ⟨1, [c], []⟩ s y (Nat.le_refl 1) (by show (1 : Nat) ≤ 4; decide) hy (fun h => by rw [tk_self]; simpa using hno y h)] at k
  cases k
theorem NoStar.at {s : ByteArray} (h : NoStar s) (i : Nat) (hi : i < s.size) : s[i] ≠ 42 := by
  refine h s[i] ?_
  show s.data[i] ∈ s.data.toList
  simp

theorem ext_one (s : ByteArray) (m : Nat) (h : m < s.size) : (s.extract m (m + 1)).toList = [s[m]] := by
  have hd : m < s.data.toList.length := by simpa using h
  rw [Lib.toList_data, ByteArray.data_extract, Array.toList_extract]
  simp only [List.extract_eq_take_drop]
  rw [List.drop_eq_getElem_cons hd, show m + 1 - m = 0 + 1 by omega, List.take_succ_cons, List.take_zero]
  rfl
theorem star_find {a b : Int} {r : Bool} (h : En.FindIs ([⟨1, [42], []⟩].map tp) ⟨#[97, 42]⟩ a b r) : r = true := by
  have k := find_yes (s := ⟨#[97, 42]⟩) (c := 42) (j := 1) rt_all.2.2.2.2.2 (by decide) (by decide) (fun i hi h => by
    have : i = 0 := by omega
    subst this
    show (97 : UInt8) ≠ 42
    decide)
  exact (h.one k).2.2
theorem star_none {s : ByteArray} (hs : NoStar s) {a b : Int} {r : Bool} (h : En.FindIs ([⟨1, [42], []⟩].map tp) s a b r) : r = false := (h.one (find_no fun i hi => hs.at i hi)).2.2

set_option maxHeartbeats 8000000 in
set_option maxRecDepth 100000 in
theorem lawBytes (ad : Option Addr) (n cap : Nat) (w : World) (hc : n ≤ 1048576 → Code w ad n) :
    Calls Try.prog 5 #[.slice ad n cap] w fun e w' => e = .returned (.bool true) ∧ Below w.heap.size w w' := by
  by_cases hbig : 1048576 < n
  · have CB : Hid _ := big_yes ad n cap hbig
    clear hc
    go_enter Try.func5, Try.ntmps5
    go_wp2_with fail
    refine Calls.mono (CB.out _) ?_
    rintro e w' ⟨rfl, rfl⟩
    go_wp2
    go_ret
    exact ⟨rfl, Below.refl _ _⟩
  have CB : Hid (∀ w, Calls Try.prog 11 #[.slice ad n cap] w fun e w' => e = .returned (.bool false) ∧ w' = w) := big_no ad n cap hbig
  have HC : Hid (Code w ad n) := hc (by omega)
  have hn : n ≤ 1048576 := by omega
  clear hc hbig
  go_enter Try.func5, Try.ntmps5
  go_wp2_with fail
  refine (CB.out _).mono ?_
  rintro e w0 ⟨rfl, rfl⟩
  go_wp2_with fail
  refine (drawPlaces_any ad n cap w0 hn HC.out).mono ?_
  rintro e w1 ⟨g, c, zs, -, hlt, rfl, -, hgl, hcell, b1⟩
  have B1 : Hid (Below w0.heap.size w0 w1) := b1
  have hc0 := hcell 0 (by omega)
  have hp0 := hlt 0
  generalize zs.getD 0 0 = p0 at *
  have HC1 : Hid (Code w1 ad n) := by
    intro hp
    obtain ⟨b, off, e1, e2, e3⟩ := HC.out hp
    exact ⟨b, off, e1, Nat.lt_of_lt_of_le e2 b1.size, fun j hj => by obtain ⟨z, hz, e⟩ := e3 j hj; exact ⟨z, hz, (b1.cell (p := ⟨b, off + j, none⟩) e2).trans e⟩⟩
  clear hlt hcell b1 CB
  go_wp2_with fail
  refine (drawPatternsS_any ad n cap w1 hn HC1.out).mono ?_
  rintro e w2 ⟨a, b, s, -, -, hs, hns, rfl, b2⟩
  have B2 : Hid (Below w0.heap.size w0 w2) := B1.out.trans (b2.mono B1.out.size)
  have hc2 := (b2.cell (p := ⟨g, 0, none⟩) hgl).trans hc0
  have HNS : Hid (NoStar s) := hns
  obtain ⟨A, hA⟩ : ∃ A : ByteArray, A = ⟨a.toArray⟩ := ⟨_, rfl⟩
  obtain ⟨B, hB⟩ : ∃ B : ByteArray, B = ⟨b.toArray⟩ := ⟨_, rfl⟩
  rw [← hA, ← hB]
  obtain ⟨k, hk⟩ : ∃ k, k = p0 % 4 := ⟨_, rfl⟩
  have hk4 : k < 4 := by omega
  have hmod : (p0 : Int) % 4 = (k : Int) := by rw [hk]; simp
  obtain ⟨cb, hcb⟩ : ∃ cb : UInt8, cb = UInt8.ofNat (97 + k) := ⟨_, rfl⟩
  have hcn : (cb.toNat : Int) = 97 + (k : Int) := by
    rw [hcb, UInt8.toNat_ofNat']
    omega
  have cv : (convert 34 9 (.slice (some ⟨w2.heap.size, 0, none⟩) 1 1)).run Try.prog (w2.alloc (.cells #[.int .u8 (97 + (k : Int))] 5)) = .ok (.string ⟨#[cb]⟩) (w2.alloc (.cells #[.int .u8 (97 + (k : Int))] 5)) := by
    rw [← hcn]
    exact conv_one cb w2
  have HCB : Hid (cb = UInt8.ofNat (97 + k)) := hcb
  have HK : Hid (∀ cb : UInt8, cb = UInt8.ofNat (97 + k) → Pp.read (⟨#[cb]⟩ : ByteArray).data.toList = some [⟨1, [cb], []⟩] ∧ Pp.right [⟨1, [cb], []⟩] = true) := by
    intro cb h
    rw [h]
    exact ⟨rd_byte k hk4, rt_byte k hk4⟩
  have hs2 : s.size ≤ 1048576 := by omega
  clear hA hB hk hc0 b2 hns B1 HC1 HC hcb hcn
  go_wp2_with fail
  clear cv
  obtain ⟨hrd, hrt⟩ := HK.out cb HCB.out
  have hbA : Below w2.heap.size w2 (w2.alloc (.cells #[.int .u8 (97 + (k : Int))] 5)) := (Below.refl _ _).alloc (Nat.le_refl _) _
  have B3 : Hid (Below w0.heap.size w0 (w2.alloc (.cells #[.int .u8 (97 + (k : Int))] 5))) := B2.out.trans (hbA.mono B2.out.size)
  generalize w2.alloc (.cells #[.int .u8 (97 + (k : Int))] 5) = w3 at *
  have HF : Hid (∀ (v : Value) (w : World), PcsAt w v ([⟨1, [cb], []⟩].map tp) → Calls Try.prog 9 #[.agg #[v], .string s] w (fun e w' => ∃ (x y : Int) (f : Bool), e = .returned (.tuple #[.int .i64 x, .int .i64 y, .bool f]) ∧ En.FindIs ([⟨1, [cb], []⟩].map tp) s x y f ∧ Below w.heap.size w w')) := fun v w h => implFind v _ s w h (by simp) (tp_small _ (right_small hrt)) hs2
  have HYES : Hid (∀ j : Nat, (∃ h : j < s.size, s[j] = cb) → (∀ i, i < j → ∀ h : i < s.size, s[i] ≠ cb) → En.FindIs ([⟨1, [cb], []⟩].map tp) s (j : Int) ((j : Int) + 1) true) := fun j ⟨h, e⟩ hno => find_yes hrt h e hno
  have HNOT : Hid ((∀ i, ∀ h : i < s.size, s[i] ≠ cb) → En.FindIs ([⟨1, [cb], []⟩].map tp) s 0 0 false) := fun hno => find_no hno
  have HR : Hid (∀ w, Calls Try.prog 13 #[.string ⟨#[cb]⟩] w fun e w' => Below w.heap.size w w' ∧ ∃ v, e = .returned (.tuple #[.agg #[v], .bool true]) ∧ PcsAt w' v ([⟨1, [cb], []⟩].map tp) ∧ 0 < [(⟨1, [cb], []⟩ : Pp.Pc)].length ∧ [(⟨1, [cb], []⟩ : Pp.Pc)].length ≤ 60) := fun w => readC _ _ w hrd (by show (1 : Nat) ≤ 1048576; decide)
  clear hrd hrt hbA HK HCB
  refine (HR.out _).mono ?_
  rintro e w4 ⟨b4, v, rfl, v1, -, -⟩
  have B4 : Hid (Below w0.heap.size w0 w4) := B3.out.trans (b4.mono B3.out.size)
  have CF : Hid (∀ O : Obj, Calls Try.prog 9 #[.agg #[v], .string s] (w4.alloc O) (fun e w' => ∃ (x y : Int) (f : Bool), e = .returned (.tuple #[.int .i64 x, .int .i64 y, .bool f]) ∧ En.FindIs ([⟨1, [cb], []⟩].map tp) s x y f ∧ Below (w4.alloc O).heap.size (w4.alloc O) w')) := fun O => HF.out v _ (v1.keep ((Below.refl _ _).alloc (Nat.le_refl _) _))
  obtain ⟨va, vc, rfl, -⟩ := v1
  generalize ([(⟨1, [cb], []⟩ : Pp.Pc)].map tp).length = vl at *
  clear b4 B3 HR HF
  go_wp2_with fail
  refine (CF.out _).mono ?_
  rintro e w5 ⟨fx, fy, ff, rfl, hfi, b5⟩
  have B5 : Hid (Below w0.heap.size w0 w5) := (B4.out.alloc B4.out.size _).trans (b5.mono (by have := B4.out.size; simp; omega))
  have HFI : Hid (En.FindIs ([⟨1, [cb], []⟩].map tp) s fx fy ff) := hfi
  clear b5 B4 CF hfi B2
  go_wp2
  go_loop [13, 14] (fun fi i => ∃ (m : Nat) (z f : Int), i = .int .i64 z ∧ z = (m : Int) - 1 ∧ fi = .int .i64 f ∧ m ≤ s.size ∧ Hid (FirstAt s cb m f)) (fun _ i => (intOf i + 1).toNat)
  case atStart => exact ⟨s.size, _, -1, rfl, by omega, rfl, Nat.le_refl _, .inl ⟨rfl, fun j h1 h2 => absurd h2 (by omega)⟩⟩
  case round =>
    obtain ⟨m, z, f, rfl, hz, rfl, hm, HFA⟩ := hrel
    cases m with
    | succ m =>
      obtain rfl : z = (m : Int) := by omega
      have hms : m < s.size := by omega
      have hx := ext_one s m hms
      clear hz
      by_cases he : s[m] = cb
      · have HF2 : Hid (FirstAt s cb m (m : Int)) := FirstAt.hit hms he
        have d1 : ((s.extract m (m + 1)).toList == [cb]) = true := by rw [hx, he]; simp
        clear hx he
        go_wp2
        go_round
        case rel => exact ⟨m, _, _, rfl, rfl, rfl, by omega, HF2.out⟩
        case measure => simp [intOf]
      · have HF2 : Hid (FirstAt s cb m f) := HFA.out.miss hms he
        have d1 : ((s.extract m (m + 1)).toList == [cb]) = false := by rw [hx]; simpa using he
        clear hx he
        go_wp2
        go_round
        case rel => exact ⟨m, _, _, rfl, rfl, rfl, by omega, HF2.out⟩
        case measure => simp [intOf]
    | zero =>
      obtain rfl : z = -1 := by omega
      have key : (f = -1 ∧ ff = false) ∨ ∃ j : Nat, j < s.size ∧ f = (j : Int) ∧ fx = (j : Int) ∧ fy = (j : Int) + 1 ∧ ff = true := by
        rcases HFA.out with ⟨h1, h2⟩ | ⟨j, h1, -, h2, h3⟩
        · exact .inl ⟨h1, (HFI.out.one (HNOT.out fun i hi => h2 i (Nat.zero_le _) hi)).2.2⟩
        · obtain ⟨k1, k2, k3⟩ := HFI.out.one (HYES.out j h2 fun i hi h => h3 i (Nat.zero_le _) hi h)
          exact .inr ⟨j, h2.1, h1, k1, k2, k3⟩
      have HRS : Hid (∀ w, Calls Try.prog 13 #[.string ⟨#[92, 42]⟩] w fun e w' => Below w.heap.size w w' ∧ ∃ va vc, e = .returned (.tuple #[.agg #[.slice va 1 vc], .bool true]) ∧ PcsAt w' (.slice va 1 vc) ([⟨1, [42], []⟩].map tp)) := by
        intro w
        refine (readC _ _ w rd_star (by decide)).mono ?_
        rintro e w' ⟨h1, v, rfl, v1, -, -⟩
        obtain ⟨va, vc, rfl, k⟩ := v1
        exact ⟨h1, va, vc, rfl, va, vc, rfl, k⟩
      have HFS : Hid (∀ (v : Value) (w : World), PcsAt w v ([⟨1, [42], []⟩].map tp) → Calls Try.prog 9 #[.agg #[v], .string ⟨#[97, 42]⟩] w (fun e w' => ∃ x y : Int, e = .returned (.tuple #[.int .i64 x, .int .i64 y, .bool true]) ∧ Below w.heap.size w w')) := by
        intro v w h
        refine (implFind v _ ⟨#[97, 42]⟩ w h (by decide) (tp_small _ (right_small rt_all.2.2.2.2.2)) (by decide)).mono ?_
        rintro e w' ⟨x, y, f, rfl, k, b⟩
        obtain rfl := star_find k
        exact ⟨x, y, rfl, b⟩
      have HFN : Hid (∀ (v : Value) (w : World), PcsAt w v ([⟨1, [42], []⟩].map tp) → Calls Try.prog 9 #[.agg #[v], .string s] w (fun e w' => ∃ x y : Int, e = .returned (.tuple #[.int .i64 x, .int .i64 y, .bool false]) ∧ Below w.heap.size w w')) := by
        intro v w h
        refine (implFind v _ s w h (by decide) (tp_small _ (right_small rt_all.2.2.2.2.2)) hs2).mono ?_
        rintro e w' ⟨x, y, f, rfl, k, b⟩
        obtain rfl := star_none HNS.out k
        exact ⟨x, y, rfl, b⟩
      have HE0 : Hid (∀ w, Calls Try.prog 14 #[.string ⟨#[94]⟩, .string s, .int .i64 0] w fun e w' => ∃ y, e = .returned y ∧ LAt w' y [0] ∧ Below w.heap.size w w') := by
        intro w
        have h := ends_any ⟨#[94]⟩ s _ 0 w rd_begin rt_all.2.2.2.1 (by decide) hs2 (Nat.zero_le _)
        rwa [el_begin] at h
      have HE1 : Hid (1 ≤ s.size → ∀ w, Calls Try.prog 14 #[.string ⟨#[94]⟩, .string s, .int .i64 1] w fun e w' => ∃ ya yc, e = .returned (.slice ya 0 yc) ∧ Below w.heap.size w w') := by
        intro h1 w
        have h := ends_any ⟨#[94]⟩ s _ 1 w rd_begin rt_all.2.2.2.1 (by decide) hs2 h1
        rw [el_begin1 s h1] at h
        refine h.mono ?_
        rintro e w' ⟨y, rfl, ⟨ya, yc, rfl, -⟩, b⟩
        exact ⟨ya, yc, rfl, b⟩
      have HE2 : Hid (∀ w, Calls Try.prog 14 #[.string ⟨#[36]⟩, .string s, .int .i64 (s.size : Int)] w fun e w' => ∃ y, e = .returned y ∧ LAt w' y [s.size] ∧ Below w.heap.size w w') := by
        intro w
        have h := ends_any ⟨#[36]⟩ s _ s.size w rd_end rt_all.2.2.2.2.1 (by decide) hs2 (Nat.le_refl _)
        rwa [el_end] at h
      clear HFA HFI HYES HNOT HNS hz hm
      rcases key with ⟨rfl, rfl⟩ | ⟨j, hj, rfl, rfl, rfl, rfl⟩
      all_goals
        go_wp2_with fail
        refine (HRS.out _).mono ?_
        rintro e w6 ⟨b6, ya, yc, rfl, y1⟩
        have B6 : Hid (Below w0.heap.size w0 w6) := B5.out.trans (b6.mono B5.out.size)
        have Y6 : Hid (∀ O : Obj, PcsAt (w6.alloc O) (.slice ya 1 yc) ([⟨1, [42], []⟩].map tp)) := fun O => y1.keep ((Below.refl _ _).alloc (Nat.le_refl _) _)
        clear b6 y1
        go_wp2_with fail
        refine (HFS.out _ _ (Y6.out _)).mono ?_
        rintro e w7 ⟨sx, sy, rfl, b7⟩
        have Y7 : Hid (PcsAt w7 (.slice ya 1 yc) ([⟨1, [42], []⟩].map tp)) := (Y6.out _).keep b7
        have B7 : Hid (Below w0.heap.size w0 w7) := (B6.out.alloc B6.out.size _).trans (b7.mono (by have := B6.out.size; simp; omega))
        have c7 : w7.cell? ⟨w6.heap.size, 0, none⟩ = some (.slice ya 1 yc) := by
          rw [b7.cell (p := ⟨w6.heap.size, 0, none⟩) (by simp), blk_cell (heap_alloc_new w6 _)]
          rfl
        clear b7 B6 Y6 B5
        go_wp2_with fail
        refine (HFN.out _ _ Y7.out).mono ?_
        rintro e w8 ⟨nx, ny, rfl, b8⟩
        have B8 : Hid (Below w0.heap.size w0 w8) := B7.out.trans (b8.mono B7.out.size)
        clear b8 B7 Y7 c7 HRS HFS HFN
        go_wp2_with fail
        refine (HE0.out w8).mono ?_
        rintro e w9 ⟨z0, rfl, l9, b9⟩
        have B9 : Hid (Below w0.heap.size w0 w9) := B8.out.trans (b9.mono B8.out.size)
        have S9 : Hid (Calls Try.prog 17 #[z0, .slice (some ⟨w9.heap.size, 0, none⟩) 1 1] (w9.alloc (.cells #[.int .i64 0] 3)) fun e w' => e = .returned (.bool true) ∧ Below (w9.alloc (.cells #[.int .i64 0] 3)).heap.size (w9.alloc (.cells #[.int .i64 0] 3)) w') := sameInts_any z0 _ [0] _ (l9.keep ((Below.refl _ _).alloc (Nat.le_refl _) _)) (LAt.lit w9 0) (by decide)
        clear b9 l9 HE0 B8
        go_wp2_with fail
        refine S9.out.mono ?_
        rintro e w10 ⟨rfl, b10⟩
        have B10 : Hid (Below w0.heap.size w0 w10) := (B9.out.alloc B9.out.size _).trans (b10.mono (by have := B9.out.size; simp; omega))
        clear b10 B9 S9
        have S12 : Hid (∀ (z2 : Value) (w12 : World), LAt w12 z2 [s.size] → Calls Try.prog 17 #[z2, .slice (some ⟨w12.heap.size, 0, none⟩) 1 1] (w12.alloc (.cells #[.int .i64 (s.size : Int)] 3)) fun e w' => e = .returned (.bool true) ∧ Below (w12.alloc (.cells #[.int .i64 (s.size : Int)] 3)).heap.size (w12.alloc (.cells #[.int .i64 (s.size : Int)] 3)) w') := fun z2 w12 l12 => sameInts_any z2 _ [s.size] _ (l12.keep ((Below.refl _ _).alloc (Nat.le_refl _) _)) (LAt.lit w12 s.size) (by show (1 : Nat) ≤ 1048577; decide)
        by_cases hs0 : s.size = 0
        · have d0 : ((s.size : Int) == 0) = true := by simp [hs0]
          clear HE1 hs0
          go_wp2_with fail
          refine (HE2.out w10).mono ?_
          rintro e w12 ⟨z2, rfl, l12, b12⟩
          have B12 : Hid (Below w0.heap.size w0 w12) := B10.out.trans (b12.mono B10.out.size)
          have S13 : Hid _ := S12.out z2 w12 l12
          clear b12 l12 B10 S12 HE2
          go_wp2_with fail
          refine Calls.mono S13.out ?_
          rintro e w13 ⟨rfl, b13⟩
          have B13 : Hid (Below w0.heap.size w0 w13) := (B12.out.alloc B12.out.size _).trans (b13.mono (by have := B12.out.size; simp; omega))
          clear b13 B12 S13
          go_wp2_with fail
          go_ret
          exact ⟨rfl, B13.out⟩
        · have d0 : ((s.size : Int) == 0) = false := beq_eq_false_iff_ne.2 (by omega)
          have HE3 : Hid _ := HE1.out (by omega) w10
          clear HE1 hs0
          go_wp2_with fail
          refine Calls.mono HE3.out ?_
          rintro e w11 ⟨ea, ec, rfl, b11⟩
          have B11 : Hid (Below w0.heap.size w0 w11) := B10.out.trans (b11.mono B10.out.size)
          clear b11 B10 HE3
          go_wp2_with fail
          refine (HE2.out w11).mono ?_
          rintro e w12 ⟨z2, rfl, l12, b12⟩
          have B12 : Hid (Below w0.heap.size w0 w12) := B11.out.trans (b12.mono B11.out.size)
          have S13 : Hid _ := S12.out z2 w12 l12
          clear b12 l12 B11 S12 HE2
          go_wp2_with fail
          refine Calls.mono S13.out ?_
          rintro e w13 ⟨rfl, b13⟩
          have B13 : Hid (Below w0.heap.size w0 w13) := (B12.out.alloc B12.out.size _).trans (b13.mono (by have := B12.out.size; simp; omega))
          clear b13 B12 S13
          go_wp2_with fail
          go_ret
          exact ⟨rfl, B13.out⟩
#print axioms lawBytes
end Go.Proofs.Ytlnmbahakdmkgaa
