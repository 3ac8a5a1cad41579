/- At every draw: fields of a line have no blanks; put together with one blank they are the same fields. -/
import Derived.Test.YtchieahfellcbabVFlS
import Derived.Test.YtchieahfellcbabPX
import Derived.Test.YtchieahfellcbabVTx
import Derived.Test.YtchieahfellcbabDLine
namespace Go.Proofs.Ytchieahfellcbab
open Go.RowKit

theorem join_step (ws : List (List UInt8)) (k : Nat) (h : k < ws.length) :
    (⟨(Pv.join (ws.take k)).toArray⟩ : ByteArray) ++ (⟨#[32]⟩ : ByteArray) ++ (⟨(ws.getD k []).toArray⟩ : ByteArray) = ⟨(Pv.join (ws.take (k + 1))).toArray⟩ := by
  rw [List.take_succ_eq_append_getElem h, Pv.join_snoc]
  apply ByteArray.ext
  simp [h]
theorem join_size (l : List UInt8) (k : Nat) : (⟨(Pv.join ((Pv.flds l).take k)).toArray⟩ : ByteArray).size ≤ 820 := by
  rw [lst_size]
  have h1 := Pv.join_len ((Pv.flds l).take k) (fun f hf => Pv.flds_all l f (List.mem_of_mem_take hf))
  have h2 := Pv.flds_len l
  rw [List.length_take] at h1
  omega
/-- What is asked of a field's text. -/
theorem fld_text (l : List UInt8) (k : Nat) (h : k < (Pv.flds l).length) (x : ByteArray) (hx : x = ⟨((Pv.flds l).getD k []).toArray⟩) :
    0 < x.size ∧ x.size ≤ 40 ∧ ∀ j (hj : j < x.size), x[j].toNat ≠ 32 ∧ x[j].toNat ≠ 9 := by
  have hm : (Pv.flds l).getD k [] ∈ Pv.flds l := by
    rw [List.getD_eq_getElem?_getD, List.getElem?_eq_getElem h]
    exact List.getElem_mem _
  obtain ⟨h1, h2, h3⟩ := Pv.flds_all l _ hm
  have hl : x.data.toList = (Pv.flds l).getD k [] := by rw [hx]
  have hs : x.size = ((Pv.flds l).getD k []).length := by rw [← hl, len_size]
  refine ⟨?_, by omega, ?_⟩
  · rw [hs]
    exact List.length_pos_iff.2 h1
  · intro j hj
    have hb := h2 x[j] (by rw [← hl]; exact List.getElem_mem (l := x.data.toList) (by rw [len_size]; exact hj))
    simp [Pv.gap] at hb
    exact hb
theorem three_fields : Pv.flds (⟨#[97, 32, 98, 9, 99]⟩ : ByteArray).data.toList = [[97], [98], [99]] := by decide

set_option maxHeartbeats 2000000 in
set_option maxRecDepth 100000 in
theorem lawFnFields (ad : Option Addr) (n cap : Nat) (w : World) (hc : n ≤ 1048576 → Code w ad n) :
    Calls Try.prog 4 #[.slice ad n cap] w fun e w' => e = .returned (.bool true) ∧ Below w.heap.size w w' := by
  by_cases hbig : 1048576 < n
  · have CB : Hid _ := big_yes ad n cap hbig
    clear hc
    go_enter Try.func4, Try.ntmps4
    go_wp2_with fail
    refine Calls.mono (CB.out _) ?_
    rintro e w' ⟨rfl, rfl⟩
    go_wp2
    go_ret
    exact ⟨rfl, Below.refl _ _⟩
  have CB : Hid (∀ w, Calls Try.prog 5 #[.slice ad n cap] w fun e w' => e = .returned (.bool false) ∧ w' = w) := big_no ad n cap hbig
  have HC : Hid (Code w ad n) := hc (by omega)
  have hn : n ≤ 1048576 := by omega
  clear hc hbig
  go_enter Try.func4, Try.ntmps4
  go_wp2_with fail
  refine (CB.out _).mono ?_
  rintro e w0 ⟨rfl, rfl⟩
  go_wp2_with fail
  refine (dFields_any ad n cap w0 hn HC.out).mono ?_
  rintro e w1 ⟨s, hs, rfl, b1⟩
  have B1 : Hid (Below w0.heap.size w0 w1) := b1
  clear b1
  go_wp2_with fail
  refine (implFields_any s w1 (by omega)).mono ?_
  rintro e w2 ⟨v1, rfl, r1, b2⟩
  have s2 := b2.size
  have B2 : Hid (Below w0.heap.size w0 w2) := B1.out.trans (b2.mono B1.out.size)
  clear b2
  go_wp2_with fail
  refine (specFields_any s w2 (by omega)).mono ?_
  rintro e w3 ⟨v2, rfl, r2, b3⟩
  have B3 : Hid (Below w0.heap.size w0 w3) := B2.out.trans (b3.mono B2.out.size)
  have r1' := r1.keep b3
  have s3 := b3.size
  clear b3 r1 B2 B1
  have CF : Hid (∀ w, Calls Try.prog 12 #[.string ⟨(Pv.join ((Pv.flds s.data.toList).take (Pv.flds s.data.toList).length)).toArray⟩] w fun e w' => ∃ v, e = .returned v ∧ SRow w.heap.size w' v (Pv.flds s.data.toList) ∧ Below w.heap.size w w') := by
    intro w
    have h := implFields_any (⟨(Pv.join ((Pv.flds s.data.toList).take (Pv.flds s.data.toList).length)).toArray⟩ : ByteArray) w (by have := join_size s.data.toList (Pv.flds s.data.toList).length; omega)
    have e : Pv.flds (⟨(Pv.join ((Pv.flds s.data.toList).take (Pv.flds s.data.toList).length)).toArray⟩ : ByteArray).data.toList = Pv.flds s.data.toList := by
      rw [List.take_of_length_le (Nat.le_refl _)]
      exact Pv.flds_join s.data.toList
    rwa [e] at h
  have CL : Hid (∀ w, Calls Try.prog 12 #[.string ⟨#[97, 32, 98, 9, 99]⟩] w fun e w' => ∃ v, e = .returned v ∧ SRow w.heap.size w' v [[97], [98], [99]] ∧ Below w.heap.size w w') := by
    intro w
    have h := implFields_any (⟨#[97, 32, 98, 9, 99]⟩ : ByteArray) w (by decide)
    rwa [three_fields] at h
  have HJ : Hid (∀ k, (⟨(Pv.join ((Pv.flds s.data.toList).take k)).toArray⟩ : ByteArray).size ≤ 820) := fun k => join_size s.data.toList k
  have HF : Hid (∀ k, k < (Pv.flds s.data.toList).length → ∀ x : ByteArray, x = ⟨((Pv.flds s.data.toList).getD k []).toArray⟩ → 0 < x.size ∧ x.size ≤ 40 ∧ ∀ j (hj : j < x.size), x[j].toNat ≠ 32 ∧ x[j].toNat ≠ 9) := fun k h x hx => fld_text s.data.toList k h x hx
  have hlen := Pv.flds_len s.data.toList
  generalize Pv.flds s.data.toList = ws at *
  have R1 : Hid (SRow w1.heap.size w3 v1 ws) := r1'
  have R2 : Hid (SRow w2.heap.size w3 v2 ws) := r2
  obtain ⟨ad1, c1, rfl, f1⟩ := r1'.form
  clear r1' r2
  have HL : Hid (ws.length ≤ 601) := by show _ ≤ _; omega
  have D20 : decide ((ws.length : Int) ≤ 20) = true := by simp; omega
  by_cases h0 : ws.length = 0
  · obtain rfl : ws = [] := List.eq_nil_of_length_eq_zero h0
    have CT : Hid (∀ w, Calls Try.prog 12 #[.string ⟨#[]⟩] w fun e w' => ∃ v, e = .returned v ∧ SRow w.heap.size w' v [] ∧ Below w.heap.size w w') := CF.out
    have RT : Hid (SRow w1.heap.size w3 (.slice ad1 0 c1) []) := R1.out
    clear f1 CF R1
    go_wp2
    refine wp_loop_rounds 1 ?_
    rw [rounds_succ]
    go_wp2_with fail
    refine (sameTexts_any _ v2 _ _ _ w3 RT.out R2.out HL.out).mono ?_
    rintro e w4 ⟨rfl, b4⟩
    have RT4 : Hid (SRow w1.heap.size w4 (.slice ad1 0 c1) []) := RT.out.keep b4
    have B4 : Hid (Below w0.heap.size w0 w4) := B3.out.trans (b4.mono B3.out.size)
    clear b4
    go_wp2_with fail
    refine (CT.out w4).mono ?_
    rintro e w5 ⟨v3, rfl, r3, b5⟩
    have RT5 : Hid (SRow w1.heap.size w5 (.slice ad1 0 c1) []) := RT4.out.keep b5
    have B5 : Hid (Below w0.heap.size w0 w5) := B4.out.trans (b5.mono B4.out.size)
    have R3 : Hid (SRow w4.heap.size w5 v3 []) := r3
    clear b5 r3 B4
    go_wp2_with fail
    refine (sameTexts_any v3 _ _ _ _ w5 R3.out RT5.out HL.out).mono ?_
    rintro e w6 ⟨rfl, b6⟩
    have B6 : Hid (Below w0.heap.size w0 w6) := B5.out.trans (b6.mono B5.out.size)
    clear b6 B5
    go_wp2_with fail
    refine (CL.out w6).mono ?_
    rintro e w7 ⟨v4, rfl, r4, b7⟩
    have B7 : Hid (Below w0.heap.size w0 w7) := B6.out.trans (b7.mono B6.out.size)
    obtain ⟨ad4, c4, h4, _⟩ := r4.form
    rw [show ([[97], [98], [99]] : List (List UInt8)).length = 3 from rfl] at h4
    subst h4
    clear r4 b7 B6
    go_wp2
    go_ret
    exact ⟨rfl, B7.out⟩
  · obtain ⟨g, rfl, hg1, hg2, hcell, _⟩ := f1 (by omega)
    have HCE : Hid (∀ j, j < ws.length → w3.cell? ⟨g, j, none⟩ = some (sv (ws.getD j []))) := hcell
    obtain ⟨m, hm⟩ : ∃ m, m = ws.length := ⟨_, rfl⟩
    have HM : Hid (m = ws.length) := hm
    rw [← hm] at D20 hlen h0 ⊢
    clear f1 hcell hm
    go_wp2
    go_loop [6, 7] (fun t i => ∃ k : Nat, i = .int .i64 (k : Int) ∧ t = .string ⟨(Pv.join (ws.take k)).toArray⟩ ∧ k ≤ m) (fun _ i => m - (intOf i).toNat)
    case atStart => exact ⟨0, rfl, rfl, by omega⟩
    case round =>
      obtain ⟨k, rfl, rfl, hk⟩ := hrel
      by_cases hlt : k < m
      · have hlw : k < ws.length := by have := HM.out; omega
        obtain ⟨x, hx⟩ : ∃ x : ByteArray, x = ⟨(ws.getD k []).toArray⟩ := ⟨_, rfl⟩
        have hc1 : w3.cell? ⟨g, k, none⟩ = some (.string x) := by rw [hx]; exact HCE.out k hlw
        obtain ⟨hx0, hx40, hxg⟩ := HF.out k hlw x hx
        have HXG : Hid (∀ j (hj : j < x.size), x[j].toNat ≠ 32 ∧ x[j].toNat ≠ 9) := hxg
        have hne : x.toList.isEmpty = false := by
          rw [Lib.toList_data]
          have e : x.data.toList.length = x.size := len_size x
          cases hd : x.data.toList with
          | nil => rw [hd] at e; simp at e; omega
          | cons a l => rfl
        have HST : Hid ((⟨(Pv.join (ws.take k)).toArray⟩ : ByteArray) ++ (⟨#[32]⟩ : ByteArray) ++ x = ⟨(Pv.join (ws.take (k + 1))).toArray⟩) := by
          show _ = _
          rw [hx]
          exact join_step ws k hlw
        have hts := HJ.out k
        generalize (⟨(Pv.join (ws.take k)).toArray⟩ : ByteArray) = t at *
        have ets : (t ++ (⟨#[32]⟩ : ByteArray)).size = t.size + 1 := app_size _ _
        have i1 : (k : Int) < (m : Int) := by omega
        clear hxg hx hlw
        go_wp2
        go_loop [8] (fun i => ∃ j : Nat, i = .int .i64 (j : Int) ∧ j ≤ x.size) (fun i => x.size - (intOf i).toNat)
        case atStart => exact ⟨0, rfl, by omega⟩
        case round =>
          obtain ⟨j, rfl, hj⟩ := hrel
          by_cases hlj : j < x.size
          · obtain ⟨g1, g2⟩ := HXG.out j hlj
            have h256 : x[j].toNat < 256 := x[j].toNat_lt
            have d1 : ((x[j].toNat : Int) == 32) = false := by simp; omega
            have d2 : ((x[j].toNat : Int) == 9) = false := by simp; omega
            clear g1 g2
            go_wp2
            go_round
            case rel => exact ⟨j + 1, by go_num, by omega⟩
            case measure => simp [intOf]; omega
          · go_wp2
            go_round
            case rel => exact ⟨k + 1, by go_num, by rw [← HST.out], by omega⟩
            case measure => simp [intOf]; omega
      · obtain rfl : k = m := by omega
        have CT : Hid (∀ w, Calls Try.prog 12 #[.string ⟨(Pv.join (ws.take k)).toArray⟩] w fun e w' => ∃ v, e = .returned v ∧ SRow w.heap.size w' v ws ∧ Below w.heap.size w w') := by rw [HM.out]; exact CF.out
        have RT : Hid (SRow w1.heap.size w3 (.slice (some ⟨g, 0, none⟩) k c1) ws) := by rw [HM.out]; exact R1.out
        have hts := HJ.out k
        generalize (⟨(Pv.join (ws.take k)).toArray⟩ : ByteArray) = t at *
        clear CF R1
        go_wp2_with fail
        refine (sameTexts_any _ v2 _ _ _ w3 RT.out R2.out HL.out).mono ?_
        rintro e w4 ⟨rfl, b4⟩
        have RT4 : Hid (SRow w1.heap.size w4 (.slice (some ⟨g, 0, none⟩) k c1) ws) := RT.out.keep b4
        have B4 : Hid (Below w0.heap.size w0 w4) := B3.out.trans (b4.mono B3.out.size)
        clear b4
        go_wp2_with fail
        refine (CT.out w4).mono ?_
        rintro e w5 ⟨v3, rfl, r3, b5⟩
        have RT5 : Hid (SRow w1.heap.size w5 (.slice (some ⟨g, 0, none⟩) k c1) ws) := RT4.out.keep b5
        have B5 : Hid (Below w0.heap.size w0 w5) := B4.out.trans (b5.mono B4.out.size)
        have R3 : Hid (SRow w4.heap.size w5 v3 ws) := r3
        clear b5 r3 B4
        go_wp2_with fail
        refine (sameTexts_any v3 _ _ _ _ w5 R3.out RT5.out HL.out).mono ?_
        rintro e w6 ⟨rfl, b6⟩
        have B6 : Hid (Below w0.heap.size w0 w6) := B5.out.trans (b6.mono B5.out.size)
        clear b6 B5
        go_wp2_with fail
        refine (CL.out w6).mono ?_
        rintro e w7 ⟨v4, rfl, r4, b7⟩
        have B7 : Hid (Below w0.heap.size w0 w7) := B6.out.trans (b7.mono B6.out.size)
        obtain ⟨ad4, c4, h4, _⟩ := r4.form
        rw [show ([[97], [98], [99]] : List (List UInt8)).length = 3 from rfl] at h4
        subst h4
        clear r4 b7 B6
        go_wp2
        go_ret
        exact ⟨rfl, B7.out⟩
#print axioms lawFnFields
end Go.Proofs.Ytchieahfellcbab
