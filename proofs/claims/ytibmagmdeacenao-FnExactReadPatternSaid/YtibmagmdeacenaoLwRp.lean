/- The law on ReadPattern: at every text it answers as the specification, and its answer owns its memory. -/
import Derived.Test.YtibmagmdeacenaoMkC
import Derived.Test.YtibmagmdeacenaoRiG
namespace Go.Proofs.Ytibmagmdeacenao
open Go.RowKit

/-- What a reader's answer is worth: its value, whether it is one, and its pieces. -/
theorem Answer.of {w' : World} {B : Nat} {l : List UInt8} {e : Ending} (h : Answer w' B (Pp.read l) e) :
    ∃ (v : Value) (n : Nat) (K Q : Nat → Nat) (ad : Option Addr) (c : Nat), e = .returned (.tuple #[.agg #[v], .bool (Pp.read l).isSome]) ∧ v = .slice ad n c ∧ n = ((Pp.read l).getD []).length ∧ n ≤ 60 ∧ (∀ i, K i ≤ 2) ∧ PcsAt w' v (((Pp.read l).getD []).map toPi) ∧ Wv B w' v n K Q 0 := by
  cases hR : Pp.read l with
  | none =>
    rw [hR] at h
    exact ⟨.slice none 0 0, 0, fun _ => 0, fun _ => 0, none, 0, h, rfl, rfl, by omega, fun _ => Nat.zero_le _, ⟨none, 0, rfl, fun h => by simp at h⟩, ⟨none, 0, rfl, fun h => by omega⟩⟩
  | some ps =>
    rw [hR] at h
    obtain ⟨v, he, hp, h0, h60⟩ := h
    obtain ⟨hg, hl⟩ := Pp.read_good l ps hR
    obtain ⟨Q, hw⟩ := hp.wv h0
    have hw' := hw
    obtain ⟨ad, c, hv, _⟩ := hw'
    refine ⟨v, ps.length, _, Q, ad, c, he, hv, rfl, h60, fun i => ?_, hp.pcs h0, hw⟩
    by_cases hi : i < ps.length
    · have := (hg (ps.getD i Pp.no) (by rw [List.getD_eq_getElem?_getD, List.getElem?_eq_getElem hi]; exact List.getElem_mem _)).1
      exact this
    · rw [List.getD_eq_getElem?_getD, List.getElem?_eq_none (by omega)]
      simp [Pp.no]
theorem read_small (l : List UInt8) : ((((Pp.read l).getD []).map toPi).length ≤ 1048576 ∧ Small (((Pp.read l).getD []).map toPi) (((Pp.read l).getD []).map toPi).length) ∨ 60 < ((Pp.read l).getD []).length := by
  by_cases h60 : 60 < ((Pp.read l).getD []).length
  · exact .inr h60
  · left
    refine ⟨by simp; omega, fun i hi => ?_⟩
    have hi2 : i < ((Pp.read l).getD []).length := by simpa using hi
    have hg : (((Pp.read l).getD []).map toPi).getD i Pi.no = toPi (((Pp.read l).getD []).getD i Pp.no) := by simp [hi2]
    rw [hg]
    cases hR : Pp.read l with
    | none => rw [hR] at hi2; simp at hi2
    | some ps =>
      rw [hR] at hi2
      have hi3 : i < ps.length := hi2
      obtain ⟨hgd, hl⟩ := Pp.read_good l ps hR
      have := hgd (ps.getD i Pp.no) (by rw [List.getD_eq_getElem?_getD, List.getElem?_eq_getElem hi3]; exact List.getElem_mem _)
      show (toPi (ps.getD i Pp.no)).kids.length ≤ _ ∧ (toPi (ps.getD i Pp.no)).text.size ≤ _
      unfold toPi
      simp only [List.length_map]
      refine ⟨by omega, ?_⟩
      show (ps.getD i Pp.no).text.toArray.size ≤ 1048576
      rw [List.size_toArray]
      omega

set_option maxRecDepth 100000 in
set_option maxHeartbeats 4000000 in
theorem lwRp_any (s : ByteArray) (w : World) :
    Calls Try.prog 5 #[.string s] w fun e w' => e = .returned (.bool true) ∧ Below w.heap.size w w' := by
  by_cases hs : 1048576 < s.size
  · have d1 : decide ((1048576 : Int) < (s.size : Int)) = true := decide_eq_true (by omega)
    go_enter Try.func5, Try.ntmps5
    go_wp2
    go_ret
    exact ⟨rfl, Below.refl _ _⟩
  · have d1 : decide ((1048576 : Int) < (s.size : Int)) = false := decide_eq_false (by omega)
    obtain ⟨P, hP⟩ : ∃ P, P = ((Pp.read s.data.toList).getD []).map toPi := ⟨_, rfl⟩
    obtain ⟨ok, hok⟩ : ∃ ok, ok = (Pp.read s.data.toList).isSome := ⟨_, rfl⟩
    obtain ⟨nn, hnn⟩ : ∃ nn, nn = ((Pp.read s.data.toList).getD []).length := ⟨_, rfl⟩
    have hrs := read_small s.data.toList
    rw [← hP, ← hnn] at hrs
    have CI : Hid (∀ W : World, Calls Try.prog 19 #[.string s] W fun e w' => Below W.heap.size W w' ∧ ∃ (K Q : Nat → Nat) (ad : Option Addr) (c : Nat), e = .returned (.tuple #[.agg #[.slice ad nn c], .bool ok]) ∧ nn ≤ 60 ∧ (∀ i, K i ≤ 2) ∧ PcsAt w' (.slice ad nn c) P ∧ Wv W.heap.size w' (.slice ad nn c) nn K Q 0) := by
      intro W
      refine (implRead_any s W (by omega)).mono ?_
      rintro e w' ⟨hb, ha⟩
      obtain ⟨v, n, K, Q, ad, c, h1, h2, h3, h4, h5, h6, h7⟩ := ha.of
      rw [← hnn] at h3
      rw [← hok] at h1
      rw [← hP] at h6
      subst h2 h3
      exact ⟨hb, K, Q, ad, c, h1, h4, h5, h6, h7⟩
    have CS : Hid (∀ W : World, Calls Try.prog 18 #[.string s] W fun e w' => Below W.heap.size W w' ∧ ∃ (ad : Option Addr) (c : Nat), e = .returned (.tuple #[.agg #[.slice ad nn c], .bool ok]) ∧ nn ≤ 60 ∧ PcsAt w' (.slice ad nn c) P) := by
      intro W
      refine (specRead_any s W (by omega)).mono ?_
      rintro e w' ⟨hb, ha⟩
      obtain ⟨v, n, K, Q, ad, c, h1, h2, h3, h4, h5, h6, h7⟩ := ha.of
      rw [← hnn] at h3
      rw [← hok] at h1
      rw [← hP] at h6
      subst h2 h3
      exact ⟨hb, ad, c, h1, h4, h6⟩
    clear hP hok hnn
    go_enter Try.func5, Try.ntmps5
    go_wp2_with fail
    refine (CS.out _).mono ?_
    rintro e w1 ⟨hb1, ad1, c1, rfl, h60, p1⟩
    obtain ⟨hl, hsm⟩ := hrs.resolve_right (by omega)
    have HL : Hid (P.length ≤ 1048576) := hl
    have HSM : Hid (Small P P.length) := hsm
    have HP1 : Hid (PcsAt w1 (.slice ad1 nn c1) P) := p1
    have HB1 : Hid (Below w.heap.size w w1) := hb1
    clear hrs hl hsm p1 CS hb1
    go_wp2_with fail
    refine (CI.out _).mono ?_
    rintro e w3 ⟨hb3, K, Q, ad2, c2, rfl, _, hK, p3, wv3⟩
    have B13 : Below w1.heap.size w1 w3 := ((Below.refl _ _).alloc (Nat.le_refl _) _).trans (hb3.mono (by simp))
    have x3 : w3.cell? ⟨w1.heap.size, 0, none⟩ = some (.slice ad1 nn c1) := (hb3.cell (by simp)).trans (by simp)
    have hl3 : w1.heap.size + 1 ≤ w3.heap.size := by have := hb3.size; simp at this; omega
    rw [show (w1.alloc (.cells #[.slice ad1 nn c1] 34)).heap.size = w1.heap.size + 1 by simp] at wv3
    have HP3 : Hid (PcsAt w3 (.slice ad2 nn c2) P) := p3
    have HW3 : Hid (Wv (w1.heap.size + 1) w3 (.slice ad2 nn c2) nn K Q 0) := wv3
    have HK : Hid (∀ i, K i ≤ 2) := hK
    have HB13 : Hid (Below w1.heap.size w1 w3) := B13
    clear p3 wv3 hK hb3 B13
    have UP : Hid (∀ o : Obj, Below w3.heap.size w3 (w3.alloc o)) := fun o => (Below.refl _ _).alloc (Nat.le_refl _) _
    have x4 : ∀ o : Obj, (w3.alloc o).cell? ⟨w1.heap.size, 0, none⟩ = some (.slice ad1 nn c1) := fun o => ((UP.out o).cell (by show w1.heap.size < w3.heap.size; omega)).trans x3
    go_wp2_with fail
    refine (eqPat_any _ _ P _ (HP3.out.keep (UP.out _)) (HP1.out.keep (HB13.out.trans ((UP.out _).mono (by omega)))) HL.out HSM.out).mono ?_
    rintro e w5 ⟨rfl, hb5⟩
    have hq : (ok != ok) = false := by simp
    have B35 : Below w3.heap.size w3 w5 := (UP.out _).trans (hb5.mono (by simp))
    have x5 : w5.cell? ⟨w3.heap.size, 0, none⟩ = some (.slice ad2 nn c2) := (hb5.cell (by simp)).trans (by simp)
    have z5 : w5.cell? ⟨w1.heap.size, 0, none⟩ = some (.slice ad1 nn c1) := (hb5.cell (by simp; omega)).trans (x4 _)
    have hl5 : w3.heap.size < w5.heap.size := by have := hb5.size; simp at this; omega
    have HB35 : Hid (Below w3.heap.size w3 w5) := B35
    clear hb5 B35 x4 UP
    go_wp2_with fail
    refine (markPat_any (w1.heap.size + 1) nn _ K Q w3 w5 HW3.out HB35.out h60 HK.out).mono ?_
    rintro e w6 ⟨rfl, wv6, fm6⟩
    have x6 : w6.cell? ⟨w3.heap.size, 0, none⟩ = some (.slice ad2 nn c2) := by
      have := fm6.2.2 w3.heap.size hl5 (.inr (Nat.le_refl _))
      have e : w6.cell? ⟨w3.heap.size, 0, none⟩ = w5.cell? ⟨w3.heap.size, 0, none⟩ := by simp [World.cell?, this]
      rw [e]
      exact x5
    have z6 : w6.cell? ⟨w1.heap.size, 0, none⟩ = some (.slice ad1 nn c1) := ((fm6.below (by omega)).cell (by show w1.heap.size < w1.heap.size + 1; omega)).trans z5
    have hl6 : w5.heap.size ≤ w6.heap.size := fm6.2.1
    have HB16 : Hid (Below w1.heap.size w1 w6) := (HB13.out.trans (HB35.out.mono (by omega))).trans ((fm6.below (by omega)).mono (by omega))
    have HW6 : Hid (Wv (w1.heap.size + 1) w6 (.slice ad2 nn c2) nn K Q nn) := wv6
    obtain ⟨m, hm⟩ : ∃ m, m = cn K nn := ⟨_, rfl⟩
    have CH : Hid (∀ W : World, Below w6.heap.size w6 W → Calls Try.prog 21 #[.agg #[.slice ad2 nn c2], .int .i64 1] W fun e w' => e = .returned (.int .i64 (m : Int)) ∧ Below W.heap.size W w') := by
      intro W hW
      rw [hm]
      exact heldPat_any (w1.heap.size + 1) nn _ K Q W (HW6.out.keep hW) h60 HK.out
    rw [← hm]
    have dm : decide ((m : Int) < 0) = false := decide_eq_false (by omega)
    have hqm : ((m : Int) != (m : Int)) = false := by simp
    clear wv6 fm6 hm HB35 HB13 HP3 HW3 HW6 HK x5 z5 x3
    go_wp2_with fail
    refine (CH.out _ (Below.refl _ _)).mono ?_
    rintro e w7 ⟨rfl, hb7⟩
    have x7 := (hb7.cell (p := ⟨w3.heap.size, 0, none⟩) (by show w3.heap.size < w6.heap.size; omega)).trans x6
    have z7 := (hb7.cell (p := ⟨w1.heap.size, 0, none⟩) (by show w1.heap.size < w6.heap.size; omega)).trans z6
    have hl7 := hb7.size
    go_wp2_with fail
    refine (CI.out _).mono ?_
    rintro e w8 ⟨hb8, K8, Q8, ad8, c8, rfl, _, _, p8, _⟩
    have x8 := (hb8.cell (p := ⟨w3.heap.size, 0, none⟩) (by show w3.heap.size < w7.heap.size; omega)).trans x7
    have z8 := (hb8.cell (p := ⟨w1.heap.size, 0, none⟩) (by show w1.heap.size < w7.heap.size; omega)).trans z7
    have hl8 := hb8.size
    have HP8 : Hid (PcsAt w8 (.slice ad8 nn c8) P) := p8
    have HB68 : Hid (Below w6.heap.size w6 w8) := hb7.trans (hb8.mono hl7)
    have UP : Hid (∀ o : Obj, Below w8.heap.size w8 (w8.alloc o)) := fun o => (Below.refl _ _).alloc (Nat.le_refl _) _
    have x9 : ∀ o : Obj, (w8.alloc o).cell? ⟨w3.heap.size, 0, none⟩ = some (.slice ad2 nn c2) := fun o => ((UP.out o).cell (by show w3.heap.size < w8.heap.size; omega)).trans x8
    have z9 : ∀ o : Obj, (w8.alloc o).cell? ⟨w1.heap.size, 0, none⟩ = some (.slice ad1 nn c1) := fun o => ((UP.out o).cell (by show w1.heap.size < w8.heap.size; omega)).trans z8
    clear p8 hb7 hb8 x6 z6 x7 z7 CI
    go_wp2_with fail
    refine (eqPat_any _ _ P _ (HP8.out.keep (UP.out _)) (HP1.out.keep (HB16.out.trans ((HB68.out.trans ((UP.out _).mono (by omega))).mono (by omega)))) HL.out HSM.out).mono ?_
    rintro e w10 ⟨rfl, hb10⟩
    have x10 := (hb10.cell (p := ⟨w3.heap.size, 0, none⟩) (by simp; omega)).trans (x9 _)
    have HB610 : Hid (Below w6.heap.size w6 w10) := (HB68.out.trans ((UP.out _).mono (by omega))).trans (hb10.mono (by simp; omega))
    clear hb10 x9 z9 x8 z8
    go_wp2_with fail
    refine (CH.out _ HB610.out).mono ?_
    rintro e w11 ⟨rfl, hb11⟩
    have hfin : Below w.heap.size w w11 := HB1.out.trans ((HB16.out.trans ((HB610.out.trans (hb11.mono HB610.out.size)).mono (by omega))).mono HB1.out.size)
    go_wp2
    go_ret
    exact ⟨rfl, hfin⟩
#print axioms lwRp_any
end Go.Proofs.Ytibmagmdeacenao
