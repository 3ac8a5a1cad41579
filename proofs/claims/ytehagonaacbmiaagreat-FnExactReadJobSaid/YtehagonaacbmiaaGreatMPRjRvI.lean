/- What is read of the bytes of a store: the program's ReadStore. -/
import Derived.Test.YtehagonaacbmiaaGreatMPRjZba
import Derived.Test.YtehagonaacbmiaaGreatMPRjZbb
namespace Go.Proofs.YtehagonaacbmiaaGreat
open Go.RowKit

set_option maxHeartbeats 8000000 in
set_option maxRecDepth 100000 in
theorem imReadStore (s : ByteArray) (w : World) (hs : s.size ≤ 1048576) :
    Calls Tryz.prog 36 #[.string s] w fun e w' => RdO w w' s.data.toList e := by
  have hsl : s.data.toList.length = s.size := by simp
  have HSL := hidOf9 hsl
  have CN : Hid (∀ (W : World) (a : Nat) (bad : Bool) (most : Nat), Br7 W (w.heap.size + 1) s a bad → a ≤ s.size → Calls Tryz.prog 70 #[.pointer (some ⟨w.heap.size + 1, 0, none⟩), .int .i64 (most : Int)] W fun e w' => ∃ (n a' : Nat) (bad' : Bool), e = .returned (.int .i64 (n : Int)) ∧ W.grownBy w' (some (w.heap.size + 1)) ∧ Br7 w' (w.heap.size + 1) s a' bad' ∧ n ≤ most ∧ a' ≤ s.size ∧
      (bad' = false → bad = false ∧ Rc.rv s.data.toList a = some (n, a')) ∧ (bad' = true → bad = true ∨ Rc.rv s.data.toList a = none ∨ ∃ m k, Rc.rv s.data.toList a = some (m, k) ∧ most < m)) := fun W a bad most h ha => imNumber1 (w.heap.size + 1) s a most bad W h ha hs
  have CS : Hid (∀ (W : World) (a : Nat) (bad : Bool), Br7 W (w.heap.size + 1) s a bad → a ≤ s.size → Calls Tryz.prog 35 #[.pointer (some ⟨w.heap.size + 1, 0, none⟩)] W fun e w' => ∃ (t : List UInt8) (a' : Nat) (bad' : Bool), e = .returned (.string ⟨t.toArray⟩) ∧ W.grownBy w' (some (w.heap.size + 1)) ∧ Br7 w' (w.heap.size + 1) s a' bad' ∧ t.length ≤ 20000 ∧ a' ≤ s.size ∧
      (bad' = false → bad = false ∧ Rc.rs s.data.toList a = some (t, a')) ∧ (bad' = true → bad = true ∨ Rc.rs s.data.toList a = none)) := fun W a bad h ha => imShort1 (w.heap.size + 1) s a bad W h ha hs
  have CW : Hid (∀ (W : World) (a : Nat) (bad : Bool), Br7 W (w.heap.size + 1) s a bad → Calls Tryz.prog 38 #[.pointer (some ⟨w.heap.size + 1, 0, none⟩)] W fun e w' => e = .returned (.bool (!bad && decide (a = s.size))) ∧ Below W.heap.size W w') := fun W a bad h => imWhole9 (w.heap.size + 1) s a bad W h
  have H0 := hidOf9 (SW.start 74 w s)
  clear hsl
  go_enter Tryz.func36, Tryz.ntmps36
  go_wp2_with fail
  generalize ((w.alloc (.cells #[.slice none 0 0, .slice none 0 0, .string ⟨#[]⟩] 40)).alloc (.cells #[.string s, .int .i64 0, .bool false] 74)).alloc (.cells #[.slice none 0 0, .slice none 0 0, .string ⟨#[]⟩] 40) = W0 at *
  refine (CN.out _ 0 false 60 H0.out.rd (Nat.zero_le _)).mono ?_
  rintro e w1 ⟨n, a1, b1, rfl, hg1, hr1, hn1, ha1, hgood1, hbad1⟩
  have H1 := hidOf9 (H0.out.call hg1 hr1)
  have HT1 := hidOf9 (Rs.V1.startI (L := s.data.toList) (by have := HSL.out; omega) (fun e => (hgood1 e).2) (fun e => (hbad1 e).resolve_left (by simp)))
  have HP1 := hidOf9 (Rs.P1.start (L := s.data.toList) (fun e => (hgood1 e).2))
  have HR1 : Hid (VrRow (w.heap.size + 3) w1 (.slice none 0 0) []) := World.ownsRow_nil _ _ _ _
  clear hg1 hr1 hgood1 hbad1 H0
  go_wp2_with fail
  go_loopw [11] (fun j wr => ∃ (k a : Nat) (bad : Bool) (u : Value) (vs : List Vr), j = .int .i64 (k : Int) ∧ k ≤ n ∧ a ≤ s.size ∧ Hid (SW 74 w wr s a bad u (.slice none 0 0) ⟨#[]⟩) ∧ Hid (VrRow (w.heap.size + 3) wr u vs) ∧ Hid (Rs.V1 s.data.toList n k a vs bad) ∧ Hid (Rs.P1 s.data.toList n a vs bad)) (fun j _ => n - (intOf j).toNat)
  case atStart => exact ⟨0, a1, b1, _, [], rfl, by omega, ha1, H1.out, HR1.out, HT1.out, HP1.out⟩
  case round =>
    clear H1 HR1 HT1 HP1 ha1
    obtain ⟨k, a, bad, u, vs, rfl, hk, ha, HW, HR, HT, HP⟩ := hrel
    by_cases hkn : k < n
    · have d1 : decide ((k : Int) < (n : Int)) = true := decide_eq_true (by omega)
      have hki : (k : Int) < (n : Int) := by omega
      have HL := hidOf9 HT.out.len
      have x0 : wr.drew.cell? ⟨w.heap.size + 2, 0, none⟩ = some u := (blk_cell HW.out.co 0).trans rfl
      have hz0 := HW.out.size
      go_wp2_with fail
      go_region_law ((first | (refine VrRow.step9 (B := w.heap.size + 3) (W := w3.alloc (.cells #[.string ⟨t1.toArray⟩, .string ⟨t2.toArray⟩] 87)) (v := u) (xs := vs) (World.ownsRow.alloc HR3.out _) (by rfl) _ _ (by rfl) (by rfl) ⟨⟨t1.toArray⟩, ⟨t2.toArray⟩⟩ w3.heap.size (heap_alloc_new w3 _) (by rfl) (by have := HL.out; omega) (by have := HW3.out.size; simp; omega) ?_; intro q cap w4 hp4 hg4; have HW4 : Hid (SW 74 w w4 s a3 b3 u (.slice none 0 0) ⟨#[]⟩) := (HW3.out.alloc _).grow hg4 (fun k hk => (World.ownsRow.lt HR3.out k hk).1); have y0 := (blk_cell HW4.out.co 0).trans rfl; have yf := blk_free HW4.out.co 0) | (go_simp; go_at_call 35; refine (CS.out w2 a2 b2 HW2.out.rd ha2).mono ?_; rintro e w3 ⟨t2, a3, b3, rfl, hg3, hr3, hl3, ha3, hgood3, hbad3⟩; have HW3 : Hid (SW 74 w w3 s a3 b3 u (.slice none 0 0) ⟨#[]⟩) := HW2.out.call hg3 hr3; have HR3 : Hid (VrRow (w.heap.size + 3) w3 u vs) := own_call HR2.out hg3 (by omega); have x2 : w3.cell? ⟨w.heap.size + 2, 0, none⟩ = some u := (blk_cell HW3.out.co 0).trans rfl; have x3 : ∀ o : Obj, (w3.alloc o).cell? ⟨w.heap.size + 2, 0, none⟩ = some u := fun o => (blk_cell (HW3.out.alloc o).co 0).trans rfl; dsimp only) | (go_simp; go_at_call 35; refine (CS.out wr.drew a bad HW.out.drew.rd ha).mono ?_; rintro e w2 ⟨t1, a2, b2, rfl, hg2, hr2, hl2, ha2, hgood2, hbad2⟩; have HW2 : Hid (SW 74 w w2 s a2 b2 u (.slice none 0 0) ⟨#[]⟩) := HW.out.drew.call hg2 hr2; have HR2 : Hid (VrRow (w.heap.size + 3) w2 u vs) := own_call (World.ownsRow.drew HR.out) hg2 (by omega); have x1 : w2.cell? ⟨w.heap.size + 2, 0, none⟩ = some u := (blk_cell HW2.out.co 0).trans rfl; dsimp only)))
      all_goals
        have HT3 := hidOf9 (HT.out.nextI hkn (by have := HSL.out; omega) hl2 hl3 hgood2 hbad2 hgood3 hbad3)
        have HP3 := hidOf9 (HP.out.next (by have := HSL.out; omega) hgood2 hgood3)
        have HN : Hid _ := HW4.setC (u' := .slice (some ⟨q, 0, none⟩) (vs.length + 1) cap) (x' := .slice none 0 0) (o' := ⟨#[]⟩) 0 (.slice (some ⟨q, 0, none⟩) (vs.length + 1) cap) rfl
        have HRN : Hid (VrRow (w.heap.size + 3) _ _ _) := own_set hp4 (w.heap.size + 2) 0 (by omega) (.slice (some ⟨q, 0, none⟩) (vs.length + 1) cap)
        clear hp4 hg4 hg3 hr3 hgood3 hbad3 hg2 hr2 hgood2 hbad2 y0 yf x0 x1 x2 x3 HW4 HR3 HW3 HR2 HW2 HW HR HT HP CN CS CW
        go_wp2_with fail
        go_roundw
        case rel => exact ⟨k + 1, a3, b3, _, _, by go_num, by omega, ha3, HN.out, HRN.out, HT3.out, HP3.out⟩
        case measure => simp [intOf]; omega
    · have HKN : Hid (k = n) := (by omega : k = n)
      have d1 : decide ((k : Int) < (n : Int)) = false := decide_eq_false (by omega)
      go_wp2_with fail
      refine (CN.out _ a bad 2000 HW.out.rd ha).mono ?_
      rintro e w2 ⟨n2, a2, b2, rfl, hg2, hr2, hn2, ha2, hgood2, hbad2⟩
      have HT2 := hidOf9 (HT.out.turnI (fun _ _ => by have := HKN.out; omega) (by have := HSL.out; omega) hgood2 hbad2)
      have HP2 := hidOf9 (HP.out.turn (by have := HSL.out; omega) HT.out.len HKN.out hgood2)
      have HW2 := hidOf9 (HW.out.call hg2 hr2)
      have HR2 : Hid (VrRow (w.heap.size + 3) w2 u vs) := own_call HR.out hg2 (by omega)
      have HLV : Hid (vs.length ≤ 100) := by
        have h1 : vs.length = k := HT.out.len
        show vs.length ≤ 100
        omega
      have HSV := hidOf9 HT.out.small
      obtain ⟨B2, hB2⟩ : ∃ B2, B2 = w2.heap.size := ⟨_, rfl⟩
      have HB2 : Hid (w.heap.size + 3 ≤ B2) := by rw [hB2]; exact HW2.out.size
      have HC2 : Hid (ClRow B2 w2 (.slice none 0 0) []) := World.ownsRow_nil _ _ _ _
      have HQV : Hid (∀ q, u.ownBlock = some q → q < B2) := fun q hq => by rw [hB2]; exact (World.ownsRow.lt HR2.out q hq).2
      have HZ2 : B2 ≤ w2.heap.size := by rw [hB2]; exact Nat.le_refl _
      clear hg2 hr2 hgood2 hbad2 HW HR HT HP HKN hB2 ha hk
      go_wp2_with fail
      go_loopw [26] (fun j wr => ∃ (k a : Nat) (bad : Bool) (x : Value) (cs : List Cl), j = .int .i64 (k : Int) ∧ k ≤ n2 ∧ a ≤ s.size ∧ B2 ≤ wr.heap.size ∧ Hid (SW 74 w wr s a bad u x ⟨#[]⟩) ∧ Hid (VrRow (w.heap.size + 3) wr u vs) ∧ Hid (ClRow B2 wr x cs) ∧ Hid (Rs.V2 s.data.toList vs n2 k a cs bad) ∧ Hid (Rs.P2 s.data.toList vs n2 a cs bad)) (fun j _ => n2 - (intOf j).toNat)
      case atStart => exact ⟨0, a2, b2, _, [], rfl, by omega, ha2, HZ2, HW2.out, HR2.out, HC2.out, HT2.out, HP2.out⟩
      case round =>
        clear HW2 HR2 HC2 HT2 HP2 ha2 HZ2
        obtain ⟨k2, a, bad, x, cs, rfl, hk, ha, hBr, HW, HR, HC, HT, HP⟩ := hrel
        by_cases hkn2 : k2 < n2
        · have d2 : decide ((k2 : Int) < (n2 : Int)) = true := decide_eq_true (by omega)
          have hki : (k2 : Int) < (n2 : Int) := by omega
          have HL := hidOf9 HT.out.len
          have x0 : wr.drew.cell? ⟨w.heap.size + 2, 1, none⟩ = some x := (blk_cell HW.out.co 1).trans rfl
          have hz0 := HW.out.size
          go_wp2_with fail
          go_region_law ((first | (refine ClRow.step9 (B := B2) (W := w5.alloc (.cells #[.string ⟨t1.toArray⟩, .string ⟨t2.toArray⟩, .string ⟨t3.toArray⟩] 89)) (v := x) (xs := cs) (World.ownsRow.alloc HC5.out _) (by rfl) _ _ (by rfl) (by rfl) ⟨⟨t1.toArray⟩, ⟨t2.toArray⟩, ⟨t3.toArray⟩⟩ w5.heap.size (heap_alloc_new w5 _) (by rfl) (by have := HL.out; omega) (by simp; omega) ?_; intro q cap w6 hp6 hg6; have HW6 : Hid (SW 74 w w6 s a5 b5 u x ⟨#[]⟩) := (HW5.out.alloc _).grow hg6 (fun k hk => by have := (World.ownsRow.lt HC5.out k hk).1; have := HB2.out; omega); have HR6 : Hid (VrRow (w.heap.size + 3) w6 u vs) := own_keep (World.ownsRow.alloc HR5.out _) (fun q hq => hg6.block q (World.ownsRow.lt (World.ownsRow.alloc HR5.out _) q hq).2 (fun e => by have := (World.ownsRow.lt HC5.out q e.symm).1; have := HQV.out q hq; omega)); have hs6 := hg6.size; have y0 := (blk_cell HW6.out.co 1).trans rfl; have yf := blk_free HW6.out.co 1) | (go_simp; go_at_call 35; refine (CS.out w4 a4 b4 HW4.out.rd ha4).mono ?_; rintro e w5 ⟨t3, a5, b5, rfl, hg5, hr5, hl5, ha5, hgood5, hbad5⟩; have HW5 : Hid (SW 74 w w5 s a5 b5 u x ⟨#[]⟩) := HW4.out.call hg5 hr5; have HR5 : Hid (VrRow (w.heap.size + 3) w5 u vs) := own_call HR4.out hg5 (by omega); have HC5 : Hid (ClRow B2 w5 x cs) := own_call HC4.out hg5 (by have := HB2.out; omega); have hB5 : B2 ≤ w5.heap.size := Nat.le_trans hB4 hg5.size; have x3 : w5.cell? ⟨w.heap.size + 2, 1, none⟩ = some x := (blk_cell HW5.out.co 1).trans rfl; have x4 : ∀ o : Obj, (w5.alloc o).cell? ⟨w.heap.size + 2, 1, none⟩ = some x := fun o => (blk_cell (HW5.out.alloc o).co 1).trans rfl; dsimp only) | (go_simp; go_at_call 35; refine (CS.out w3 a3 b3 HW3.out.rd ha3).mono ?_; rintro e w4 ⟨t2, a4, b4, rfl, hg4, hr4, hl4, ha4, hgood4, hbad4⟩; have HW4 : Hid (SW 74 w w4 s a4 b4 u x ⟨#[]⟩) := HW3.out.call hg4 hr4; have HR4 : Hid (VrRow (w.heap.size + 3) w4 u vs) := own_call HR3.out hg4 (by omega); have HC4 : Hid (ClRow B2 w4 x cs) := own_call HC3.out hg4 (by have := HB2.out; omega); have hB4 : B2 ≤ w4.heap.size := Nat.le_trans hB3 hg4.size; have x2 : w4.cell? ⟨w.heap.size + 2, 1, none⟩ = some x := (blk_cell HW4.out.co 1).trans rfl; dsimp only) | (go_simp; go_at_call 35; refine (CS.out wr.drew a bad HW.out.drew.rd ha).mono ?_; rintro e w3 ⟨t1, a3, b3, rfl, hg3, hr3, hl3, ha3, hgood3, hbad3⟩; have HW3 : Hid (SW 74 w w3 s a3 b3 u x ⟨#[]⟩) := HW.out.drew.call hg3 hr3; have HR3 : Hid (VrRow (w.heap.size + 3) w3 u vs) := own_call (World.ownsRow.drew HR.out) hg3 (by omega); have HC3 : Hid (ClRow B2 w3 x cs) := own_call (World.ownsRow.drew HC.out) hg3 (by have := HB2.out; omega); have hB3 : B2 ≤ w3.heap.size := Nat.le_trans hBr hg3.size; have x1 : w3.cell? ⟨w.heap.size + 2, 1, none⟩ = some x := (blk_cell HW3.out.co 1).trans rfl; dsimp only)))
          all_goals
            have HT5 := hidOf9 (HT.out.nextI hkn2 (by have := HSL.out; omega) hl3 hl4 hl5 hgood3 hbad3 hgood4 hbad4 hgood5 hbad5)
            have HP5 := hidOf9 (HP.out.next (by have := HSL.out; omega) hgood3 hgood4 hgood5)
            have HN : Hid _ := HW6.setC (u' := u) (x' := .slice (some ⟨q, 0, none⟩) (cs.length + 1) cap) (o' := ⟨#[]⟩) 1 (.slice (some ⟨q, 0, none⟩) (cs.length + 1) cap) rfl
            have HRN : Hid (VrRow (w.heap.size + 3) (w6.setCell ⟨w.heap.size + 2, 1, none⟩ (.slice (some ⟨q, 0, none⟩) (cs.length + 1) cap)) u vs) := own_set HR6.out (w.heap.size + 2) 1 (by omega) (.slice (some ⟨q, 0, none⟩) (cs.length + 1) cap)
            have HCN : Hid (ClRow B2 _ _ _) := own_set hp6 (w.heap.size + 2) 1 (by have := HB2.out; omega) (.slice (some ⟨q, 0, none⟩) (cs.length + 1) cap)
            have hBN : B2 ≤ (w6.setCell ⟨w.heap.size + 2, 1, none⟩ (.slice (some ⟨q, 0, none⟩) (cs.length + 1) cap)).heap.size := by simp [World.setCell] at hs6 ⊢; omega
            clear hp6 hg6 hg5 hr5 hgood5 hbad5 hg4 hr4 hgood4 hbad4 hg3 hr3 hgood3 hbad3 y0 yf x0 x1 x2 x3 x4 HW6 HR6 HC5 HR5 HW5 HC4 HR4 HW4 HC3 HR3 HW3 HW HR HC HT HP CN CS CW hs6
            go_wp2_with fail
            go_roundw
            case rel => exact ⟨k2 + 1, a5, b5, _, _, by go_num, by omega, ha5, hBN, HN.out, HRN.out, HCN.out, HT5.out, HP5.out⟩
            case measure => simp [intOf]; omega
        · have HKN : Hid (k2 = n2) := (by omega : k2 = n2)
          have d2 : decide ((k2 : Int) < (n2 : Int)) = false := decide_eq_false (by omega)
          go_wp2_with fail
          refine (CS.out _ a bad HW.out.rd ha).mono ?_
          rintro e w5 ⟨tO, a5, b5, rfl, hg5, hr5, hl5, ha5, hgood5, hbad5⟩
          have HE := hidOf9 (HT.out.last (fun _ _ => by have := HKN.out; omega) hgood5 hbad5)
          have HE2 := hidOf9 (HT.out.lastI (fun _ _ => by have := HKN.out; omega) hgood5 hbad5)
          have HW5 := hidOf9 (HW.out.call hg5 hr5)
          have HR5 : Hid (VrRow (w.heap.size + 3) w5 u vs) := own_call HR.out hg5 (by omega)
          have HC5 : Hid (ClRow B2 w5 x cs) := own_call HC.out hg5 (by have := HB2.out; omega)
          have y2 := (blk_cell HW5.out.co 2).trans rfl
          have f2 := blk_free HW5.out.co 2
          have HSM := hidOf9 (Rs.small_of (vs := vs) (cs := cs) (o := ⟨tO.toArray⟩) (by have := HLV.out; omega) (by have := HT.out.len; omega) HSV.out HT.out.small (by rw [sz9]; omega))
          have HW6 := hidOf9 (HW5.out.setC (u' := u) (x' := x) (o' := ⟨tO.toArray⟩) 2 (.string ⟨tO.toArray⟩) rfl)
          have HR6 : Hid (VrRow (w.heap.size + 3) (w5.setCell ⟨w.heap.size + 2, 2, none⟩ (.string ⟨tO.toArray⟩)) u vs) := own_set HR5.out (w.heap.size + 2) 2 (by omega) _
          have HC6 : Hid (ClRow B2 (w5.setCell ⟨w.heap.size + 2, 2, none⟩ (.string ⟨tO.toArray⟩)) x cs) := own_set HC5.out (w.heap.size + 2) 2 (by have := HB2.out; omega) _
          have HBY : Hid (b5 = false → a5 = s.data.toList.length → St.bytes vs cs ⟨tO.toArray⟩ = s.data.toList) := HP.out.whole (by have := HSL.out; omega) HT.out.len HKN.out hgood5
          have CO := hidOf9 (fun W => imStoreOk u x ⟨tO.toArray⟩ vs cs W)
          generalize (⟨tO.toArray⟩ : ByteArray) = o at *
          clear hg5 hr5 hgood5 hbad5 HW HR HC HW5 HR5 HC5 HT HP HKN CN CS hk ha hBr
          go_wp2_with fail
          generalize w5.setCell ⟨w.heap.size + 2, 2, none⟩ (.string o) = W6 at *
          refine (CW.out _ a5 b5 HW6.out.rd).mono ?_
          rintro e w7 ⟨rfl, hb7⟩
          have HW7 := hidOf9 (HW6.out.grow (gr_below (r := none) hb7) (fun k hk => by cases hk))
          have HR7 : Hid (VrRow (w.heap.size + 3) w7 u vs) := own_keep HR6.out (fun q hq => hb7.block q (World.ownsRow.lt HR6.out q hq).2)
          have HC7 : Hid (ClRow B2 w7 x cs) := own_keep HC6.out (fun q hq => hb7.block q (World.ownsRow.lt HC6.out q hq).2)
          have r0 := (blk_cell HW7.out.res 0).trans rfl
          have r1 := (blk_cell HW7.out.res 1).trans rfl
          have r2 := (blk_cell HW7.out.res 2).trans rfl
          have e0 := blk_free HW7.out.res 0
          have e1 := blk_free HW7.out.res 1
          have e2 := blk_free HW7.out.res 2
          clear hb7 CW HW6 HR6 HC6 y2 f2
          by_cases hgd : b5 = false ∧ a5 = s.size
          · obtain ⟨rfl, rfl⟩ := hgd
            have HBZ : Hid (St.bytes vs cs o = s.data.toList) := HBY.out rfl HSL.out.symm
            have dw : (!false && decide (s.size = s.size)) = true := by simp
            rw [dw]
            have CO7 := hidOf9 (CO.out w7 HR7.out.in.at HC7.out.in.at HSM.out)
            obtain ⟨y0, y1, y2⟩ : _ ∧ _ ∧ _ := ⟨(blk_cell HW7.out.co 0).trans rfl, (blk_cell HW7.out.co 1).trans rfl, (blk_cell HW7.out.co 2).trans rfl⟩
            clear dw CO HBY HE2
            go_wp2_with fail
            refine CO7.out.mono ?_
            rintro e w8 ⟨rfl, hb8⟩
            have HW8 := hidOf9 (HW7.out.grow (gr_below (r := none) hb8) (fun k hk => by cases hk))
            have HR8 : Hid (VrRow (w.heap.size + 3) w8 u vs) := own_keep HR7.out (fun q hq => hb8.block q (World.ownsRow.lt HR7.out q hq).2)
            have HC8 : Hid (ClRow B2 w8 x cs) := own_keep HC7.out (fun q hq => hb8.block q (World.ownsRow.lt HC7.out q hq).2)
            clear hb8 CO7 r0 r1 r2 e0 e1 e2 y0 y1 y2 HR7 HC7 HW7
            have r0 := (blk_cell HW8.out.res 0).trans rfl
            have r1 := (blk_cell HW8.out.res 1).trans rfl
            have r2 := (blk_cell HW8.out.res 2).trans rfl
            have e0 := blk_free HW8.out.res 0
            have e1 := blk_free HW8.out.res 1
            have e2 := blk_free HW8.out.res 2
            cases hok : St.ok vs cs o with
            | false =>
              have HAN : Hid (∀ vs0 cs0 o0, ¬ Rs.isOf s.data.toList vs0 cs0 o0) := fun vs0 cs0 o0 hi => by
                obtain ⟨-, rfl, rfl, rfl⟩ := HE.out vs0 cs0 o0 hi
                have := hi.1
                rw [hok] at this
                cases this
              clear hok
              go_wp2_with fail
              refine bodyPost_ret (res_store9 rfl _ _ w.heap.size _ _ _ rfl (s3_set _ _ _ _ _ HW8.out.res)) rfl ?_
              exact ⟨s3_below HW8.out.env _ _ _, .inr ⟨HAN.out, rfl⟩⟩
            | true =>
              have HIS : Hid (Rs.isOf s.data.toList vs cs o) := ⟨hok, HBZ.out⟩
              obtain ⟨d0, d1, d2⟩ : _ ∧ _ ∧ _ := ⟨(blk_cell HW8.out.co 0).trans rfl, (blk_cell HW8.out.co 1).trans rfl, (blk_cell HW8.out.co 2).trans rfl⟩
              have hva := HR8.out.in.at
              have hca := HC8.out.in.at
              clear hok HE
              obtain ⟨ua, uc, rfl, -⟩ := hva
              obtain ⟨xa, xc, rfl, -⟩ := hca
              go_wp2_with fail
              refine bodyPost_ret (res_store9 rfl _ _ w.heap.size _ _ _ rfl (s3_set _ _ _ _ _ HW8.out.res)) rfl ?_
              refine ⟨s3_below HW8.out.env _ _ _, .inl ⟨_, _, vs, cs, o, B2, HIS.out, rfl, ?_, ?_, HB2.out, HQV.out⟩⟩
              · exact own_set (own_set (own_set HR8.out w.heap.size 0 (by omega) _) w.heap.size 1 (by omega) _) w.heap.size 2 (by omega) _
              · exact own_set (own_set (own_set HC8.out w.heap.size 0 (by have := HB2.out; omega) _) w.heap.size 1 (by have := HB2.out; omega) _) w.heap.size 2 (by have := HB2.out; omega) _
          · have HAN : Hid (∀ vs0 cs0 o0, ¬ Rs.isOf s.data.toList vs0 cs0 o0) := fun vs0 cs0 o0 hi => hgd ⟨(HE2.out vs0 cs0 o0 hi).1, by rw [(HE2.out vs0 cs0 o0 hi).2]; exact HSL.out⟩
            have dw : (!b5 && decide (a5 = s.size)) = false := by
              cases b5
              · simp at hgd ⊢; exact hgd
              · rfl
            rw [dw]
            clear dw HBY hgd HE HE2 CO
            go_wp2_with fail
            refine bodyPost_ret (res_store9 rfl _ _ w.heap.size _ _ _ rfl (s3_set _ _ _ _ _ HW7.out.res)) rfl ?_
            exact ⟨s3_below HW7.out.env _ _ _, .inr ⟨HAN.out, rfl⟩⟩
end Go.Proofs.YtehagonaacbmiaaGreat
