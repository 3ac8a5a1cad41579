/- The specification of Tokens: signs, and one token. -/
import Derived.Test.YtkfkbdgfnopokaaGreatDoorZae
namespace Go.Proofs.YtkfkbdgfnopokaaGreatDoor
open Go.RowKit
set_option maxHeartbeats 4000000 in
set_option maxRecDepth 100000 in
theorem spOne_sign (s : ByteArray) (a : Nat) (lk : Int) (lt : ByteArray) (w : World) (ha : a < s.size) (hs : s.size ≤ 1048576) (h1 : s[a] ≠ 10) (h2 : s[a] ≠ 59) (hn : Tk.letter s[a] = false) (hf : Tk.figure s[a] = false) (h3 : s[a] ≠ 34) (h4 : s[a] ≠ 47) :
  Calls Tryz.prog 43 #[.string s, .int .i64 (a : Int), .agg #[.int .i64 lk, .string lt]] w fun e w' => e = .returned (onev (if s.data.toList[a + 1]? = some 61 ∧ (s[a] = 43 ∨ s[a] = 61) then some (⟨5, Tk.cut s.data.toList a (a + 2)⟩, a + 2) else if s[a] ∈ Tk.signs then some (⟨5, Tk.cut s.data.toList a (a + 1)⟩, a + 1) else none)) ∧ Below w.heap.size w w' := by
 have hi : (a : Int) < (s.size : Int) := by omega
 have e1 : ((s[a].toNat : Int) == 10) = false := ne_byte h1 (by decide)
 have e2 : ((s[a].toNat : Int) == 59) = false := ne_byte h2 (by decide)
 have e3 : ((s[a].toNat : Int) == 34) = false := ne_byte h3 (by decide)
 have e4 : ((s[a].toNat : Int) == 47) = false := ne_byte h4 (by decide)
 have CN : Hid (∀ w, Calls Tryz.prog 76 #[.int .u8 (s[a].toNat : Int)] w fun e w' => e = .returned (.bool false) ∧ w' = w) := by
  intro w
  have := spLetter s[a] w
  rwa [hn] at this
 have CF : Hid (∀ w, Calls Tryz.prog 77 #[.int .u8 (s[a].toNat : Int)] w fun e w' => e = .returned (.bool false) ∧ w' = w) := by
  intro w
  have := spFigure s[a] w
  rwa [hf] at this
 have h256 : s[a].toNat < 256 := s[a].toNat_lt
 obtain ⟨V, hV⟩ : ∃ V, V = onev (if s.data.toList[a + 1]? = some 61 ∧ (s[a] = 43 ∨ s[a] = 61) then some (⟨5, Tk.cut s.data.toList a (a + 2)⟩, a + 2) else if s[a] ∈ Tk.signs then some (⟨5, Tk.cut s.data.toList a (a + 1)⟩, a + 1) else none) := ⟨_, rfl⟩
 rw [← hV]
 have HV : Hid (V = onev (if s.data.toList[a + 1]? = some 61 ∧ (s[a] = 43 ∨ s[a] = 61) then some (⟨5, Tk.cut s.data.toList a (a + 2)⟩, a + 2) else if s[a] ∈ Tk.signs then some (⟨5, Tk.cut s.data.toList a (a + 1)⟩, a + 1) else none)) := hV
 clear hV h1 h2 h3 h4 hn hf
 by_cases hw : s.data.toList[a + 1]? = some 61 ∧ (s[a] = 43 ∨ s[a] = 61)
 ·have HV2 : Hid (V = .tuple #[.agg #[.int .i64 5, .string (s.extract a (a + 2))], .int .i64 ((a : Int) + 2)]) := by
   show _ = _
   rw [HV.out, if_pos hw, ← cut_val]
   rfl
  clear HV
  obtain ⟨hw1, hw2⟩ := hw
  have hlt : a + 1 < s.size := by
   have := (List.getElem?_eq_some_iff.1 hw1).1
   simpa using this
  have i1 : (a : Int) + 1 < (s.size : Int) := by omega
  have d0 : decide ((a : Int) + 1 < (s.size : Int)) = true := decide_eq_true i1
  have d1 : ((s[a + 1].toNat : Int) == 61) = true := by
   rw [lst_some s _ hlt] at hw1
   rw [Option.some.inj hw1]
   rfl
  clear hw1
  rcases hw2 with hb | hb
  ·have d2 : ((s[a].toNat : Int) == 43) = true := by rw [hb]; rfl
   clear hb
   go_enter Tryz.func43, Tryz.ntmps43
   go_wp2_with fail
   refine (CN.out _).mono ?_
   rintro e w1 ⟨rfl, rfl⟩
   go_wp2_with fail
   refine (CF.out _).mono ?_
   rintro e w1 ⟨rfl, rfl⟩
   go_wp2
   exact bodyPost_ret (res_tok rfl _ _ (w.heap.size + 1) _ _ rfl (alloc2_1 _ _ _)) rfl ⟨by rw [HV2.out]; rfl, below2 _ _ _⟩
  ·have d2 : ((s[a].toNat : Int) == 43) = false := by rw [hb]; rfl
   have d3 : ((s[a].toNat : Int) == 61) = true := by rw [hb]; rfl
   clear hb
   go_enter Tryz.func43, Tryz.ntmps43
   go_wp2_with fail
   refine (CN.out _).mono ?_
   rintro e w1 ⟨rfl, rfl⟩
   go_wp2_with fail
   refine (CF.out _).mono ?_
   rintro e w1 ⟨rfl, rfl⟩
   go_wp2
   exact bodyPost_ret (res_tok rfl _ _ (w.heap.size + 1) _ _ rfl (alloc2_1 _ _ _)) rfl ⟨by rw [HV2.out]; rfl, below2 _ _ _⟩
 ·have HV2 : Hid (V = onev (if s[a] ∈ Tk.signs then some (⟨5, Tk.cut s.data.toList a (a + 1)⟩, a + 1) else none)) := by show _ = _; rw [HV.out, if_neg hw]
  have ways : (decide ((a : Int) + 1 < (s.size : Int)) = false) ∨ (∃ hlt : a + 1 < s.size, ((s[a + 1].toNat : Int) == 61) = false) ∨ (∃ hlt : a + 1 < s.size, ((s[a + 1].toNat : Int) == 61) = true ∧ ((s[a].toNat : Int) == 43) = false ∧ ((s[a].toNat : Int) == 61) = false) := by
   by_cases hlt : a + 1 < s.size
   ·by_cases h61 : s[a + 1] = 61
    ·refine .inr (.inr ⟨hlt, by rw [h61]; rfl, ne_byte (fun e => hw ⟨by rw [lst_some s _ hlt, h61], .inl e⟩) (by decide), ne_byte (fun e => hw ⟨by rw [lst_some s _ hlt, h61], .inr e⟩) (by decide)⟩)
    ·exact .inr (.inl ⟨hlt, ne_byte h61 (by decide)⟩)
   ·exact .inl (decide_eq_false (by omega))
  clear HV hw
  obtain ⟨SG, hSG⟩ : ∃ SG : ByteArray, SG = ⟨#[123, 125, 40, 41, 91, 93, 36, 126, 60, 43, 45, 42, 37, 46, 44, 61]⟩ := ⟨_, rfl⟩
  have HSZ : Hid (SG.size = 16) := by rw [hSG]; rfl
  have HM : Hid (∀ b, b ∈ Tk.signs ↔ ∃ i, ∃ h : i < SG.size, SG[i] = b) := by
   intro b
   rw [hSG]
   show b ∈ Tk.signs ↔ ∃ i, ∃ h : i < Tk.signs.length, Tk.signs[i] = b
   exact List.mem_iff_getElem
  rcases ways with d0 | ⟨hlt, d1⟩ | ⟨hlt, d1, d2, d3⟩
  ·go_enter Tryz.func43, Tryz.ntmps43
   go_wp2_with fail
   refine (CN.out _).mono ?_
   rintro e w1 ⟨rfl, rfl⟩
   go_wp2_with fail
   refine (CF.out _).mono ?_
   rintro e w1 ⟨rfl, rfl⟩
   go_wp2
   rw [← hSG]
   clear CN CF e1 e2 e3 e4 d0 hSG
   go_loop [15] (fun k => ∃ j : Nat, k = .int .i64 (j : Int) ∧ j ≤ 16 ∧ Hid (∀ i, i < j → ∀ h : i < SG.size, SG[i] ≠ s[a])) (fun k => 16 - (intOf k).toNat)
   case atStart => exact ⟨0, rfl, by omega, fun i hi => by omega⟩
   case round =>
    obtain ⟨j, rfl, hj, HJ⟩ := hrel
    by_cases hj16 : j < 16
    ·have hjs : j < SG.size := by rw [HSZ.out]; exact hj16
     have hjS : (j : Int) < (SG.size : Int) := by omega
     have dj : decide ((j : Int) < (SG.size : Int)) = true := decide_eq_true hjS
     by_cases hb : SG[j] = s[a]
     ·have db : ((SG[j].toNat : Int) == (s[a].toNat : Int)) = true := by rw [hb]; simp
      have HV3 : Hid (V = .tuple #[.agg #[.int .i64 5, .string (s.extract a (a + 1))], .int .i64 ((a : Int) + 1)]) := by
       show _ = _
       rw [HV2.out, if_pos ((HM.out _).2 ⟨j, hjs, hb⟩), ← cut_val]
       rfl
      clear hb HJ HV2
      go_wp2
      exact bodyPost_ret (res_tok rfl _ _ (w.heap.size + 1) _ _ rfl (alloc2_1 _ _ _)) rfl ⟨by rw [HV3.out]; rfl, below2 _ _ _⟩
     ·have db : ((SG[j].toNat : Int) == (s[a].toNat : Int)) = false := beq_eq_false_iff_ne.2 (fun e => hb (UInt8.toNat_inj.1 (by omega)))
      have HN : Hid (∀ i, i < j + 1 → ∀ h : i < SG.size, SG[i] ≠ s[a]) := by
       intro i hi h
       by_cases e : i = j
       ·subst e; exact hb
       ·exact HJ.out i (by omega) h
      clear hb HJ HV2
      go_wp2
      go_round
      case rel => exact ⟨j + 1, by go_num, by omega, HN.out⟩
      case measure => simp [intOf]; omega
    ·obtain rfl : j = SG.size := by rw [HSZ.out]; omega
     have dj : decide ((SG.size : Int) < (SG.size : Int)) = false := decide_eq_false (by omega)
     have HV3 : Hid (V = onev none) := by
      show _ = _
      rw [HV2.out, if_neg]
      intro hm
      obtain ⟨i, h, e⟩ := (HM.out _).1 hm
      exact HJ.out i h h e
     clear HJ HV2
     go_wp2
     exact bodyPost_ret (res_tok rfl _ _ (w.heap.size + 1) _ _ rfl (alloc2_1 _ _ _)) rfl ⟨by rw [HV3.out]; rfl, below2 _ _ _⟩
  ·have i1 : (a : Int) + 1 < (s.size : Int) := by omega
   have d0 : decide ((a : Int) + 1 < (s.size : Int)) = true := decide_eq_true i1
   go_enter Tryz.func43, Tryz.ntmps43
   go_wp2_with fail
   refine (CN.out _).mono ?_
   rintro e w1 ⟨rfl, rfl⟩
   go_wp2_with fail
   refine (CF.out _).mono ?_
   rintro e w1 ⟨rfl, rfl⟩
   go_wp2
   rw [← hSG]
   clear CN CF e1 e2 e3 e4 d0 d1 hSG
   go_loop [15] (fun k => ∃ j : Nat, k = .int .i64 (j : Int) ∧ j ≤ 16 ∧ Hid (∀ i, i < j → ∀ h : i < SG.size, SG[i] ≠ s[a])) (fun k => 16 - (intOf k).toNat)
   case atStart => exact ⟨0, rfl, by omega, fun i hi => by omega⟩
   case round =>
    obtain ⟨j, rfl, hj, HJ⟩ := hrel
    by_cases hj16 : j < 16
    ·have hjs : j < SG.size := by rw [HSZ.out]; exact hj16
     have hjS : (j : Int) < (SG.size : Int) := by omega
     have dj : decide ((j : Int) < (SG.size : Int)) = true := decide_eq_true hjS
     by_cases hb : SG[j] = s[a]
     ·have db : ((SG[j].toNat : Int) == (s[a].toNat : Int)) = true := by rw [hb]; simp
      have HV3 : Hid (V = .tuple #[.agg #[.int .i64 5, .string (s.extract a (a + 1))], .int .i64 ((a : Int) + 1)]) := by
       show _ = _
       rw [HV2.out, if_pos ((HM.out _).2 ⟨j, hjs, hb⟩), ← cut_val]
       rfl
      clear hb HJ HV2
      go_wp2
      exact bodyPost_ret (res_tok rfl _ _ (w.heap.size + 1) _ _ rfl (alloc2_1 _ _ _)) rfl ⟨by rw [HV3.out]; rfl, below2 _ _ _⟩
     ·have db : ((SG[j].toNat : Int) == (s[a].toNat : Int)) = false := beq_eq_false_iff_ne.2 (fun e => hb (UInt8.toNat_inj.1 (by omega)))
      have HN : Hid (∀ i, i < j + 1 → ∀ h : i < SG.size, SG[i] ≠ s[a]) := by
       intro i hi h
       by_cases e : i = j
       ·subst e; exact hb
       ·exact HJ.out i (by omega) h
      clear hb HJ HV2
      go_wp2
      go_round
      case rel => exact ⟨j + 1, by go_num, by omega, HN.out⟩
      case measure => simp [intOf]; omega
    ·obtain rfl : j = SG.size := by rw [HSZ.out]; omega
     have dj : decide ((SG.size : Int) < (SG.size : Int)) = false := decide_eq_false (by omega)
     have HV3 : Hid (V = onev none) := by
      show _ = _
      rw [HV2.out, if_neg]
      intro hm
      obtain ⟨i, h, e⟩ := (HM.out _).1 hm
      exact HJ.out i h h e
     clear HJ HV2
     go_wp2
     exact bodyPost_ret (res_tok rfl _ _ (w.heap.size + 1) _ _ rfl (alloc2_1 _ _ _)) rfl ⟨by rw [HV3.out]; rfl, below2 _ _ _⟩
  ·have i1 : (a : Int) + 1 < (s.size : Int) := by omega
   have d0 : decide ((a : Int) + 1 < (s.size : Int)) = true := decide_eq_true i1
   go_enter Tryz.func43, Tryz.ntmps43
   go_wp2_with fail
   refine (CN.out _).mono ?_
   rintro e w1 ⟨rfl, rfl⟩
   go_wp2_with fail
   refine (CF.out _).mono ?_
   rintro e w1 ⟨rfl, rfl⟩
   go_wp2
   rw [← hSG]
   clear CN CF e1 e2 e3 e4 d0 d1 d2 d3 hSG
   go_loop [15] (fun k => ∃ j : Nat, k = .int .i64 (j : Int) ∧ j ≤ 16 ∧ Hid (∀ i, i < j → ∀ h : i < SG.size, SG[i] ≠ s[a])) (fun k => 16 - (intOf k).toNat)
   case atStart => exact ⟨0, rfl, by omega, fun i hi => by omega⟩
   case round =>
    obtain ⟨j, rfl, hj, HJ⟩ := hrel
    by_cases hj16 : j < 16
    ·have hjs : j < SG.size := by rw [HSZ.out]; exact hj16
     have hjS : (j : Int) < (SG.size : Int) := by omega
     have dj : decide ((j : Int) < (SG.size : Int)) = true := decide_eq_true hjS
     by_cases hb : SG[j] = s[a]
     ·have db : ((SG[j].toNat : Int) == (s[a].toNat : Int)) = true := by rw [hb]; simp
      have HV3 : Hid (V = .tuple #[.agg #[.int .i64 5, .string (s.extract a (a + 1))], .int .i64 ((a : Int) + 1)]) := by
       show _ = _
       rw [HV2.out, if_pos ((HM.out _).2 ⟨j, hjs, hb⟩), ← cut_val]
       rfl
      clear hb HJ HV2
      go_wp2
      exact bodyPost_ret (res_tok rfl _ _ (w.heap.size + 1) _ _ rfl (alloc2_1 _ _ _)) rfl ⟨by rw [HV3.out]; rfl, below2 _ _ _⟩
     ·have db : ((SG[j].toNat : Int) == (s[a].toNat : Int)) = false := beq_eq_false_iff_ne.2 (fun e => hb (UInt8.toNat_inj.1 (by omega)))
      have HN : Hid (∀ i, i < j + 1 → ∀ h : i < SG.size, SG[i] ≠ s[a]) := by
       intro i hi h
       by_cases e : i = j
       ·subst e; exact hb
       ·exact HJ.out i (by omega) h
      clear hb HJ HV2
      go_wp2
      go_round
      case rel => exact ⟨j + 1, by go_num, by omega, HN.out⟩
      case measure => simp [intOf]; omega
    ·obtain rfl : j = SG.size := by rw [HSZ.out]; omega
     have dj : decide ((SG.size : Int) < (SG.size : Int)) = false := decide_eq_false (by omega)
     have HV3 : Hid (V = onev none) := by
      show _ = _
      rw [HV2.out, if_neg]
      intro hm
      obtain ⟨i, h, e⟩ := (HM.out _).1 hm
      exact HJ.out i h h e
     clear HJ HV2
     go_wp2
     exact bodyPost_ret (res_tok rfl _ _ (w.heap.size + 1) _ _ rfl (alloc2_1 _ _ _)) rfl ⟨by rw [HV3.out]; rfl, below2 _ _ _⟩
end Go.Proofs.YtkfkbdgfnopokaaGreatDoor
