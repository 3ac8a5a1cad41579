/- At every draw: lines of a text, put together, are it, or its beginning; no more than so many. -/
import Derived.Test.YtmobohkcocidhaaLnS
import Derived.Test.YtmobohkcocidhaaLnI
import Derived.Test.YtmobohkcocidhaaLnJ
import Derived.Test.YtmobohkcocidhaaVTx
import Derived.Test.YtmobohkcocidhaaDLn
namespace Go.Proofs.Ytmobohkcocidhaa
open Go.RowKit

theorem jn_step (ws : List (List UInt8)) (k : Nat) (h : k < ws.length) :
    (⟨(Ln.jn (ws.take k)).toArray⟩ : ByteArray) ++ (⟨(ws.getD k []).toArray⟩ : ByteArray) ++ (⟨#[10]⟩ : ByteArray) = ⟨(Ln.jn (ws.take (k + 1))).toArray⟩ := by
  rw [List.take_succ_eq_append_getElem h, Ln.jn_snoc]
  apply ByteArray.ext
  simp [h]
theorem jn_size (s : ByteArray) (k : Nat) : (⟨(Ln.jn ((Ln.all s.data.toList).take k)).toArray⟩ : ByteArray).size ≤ s.size + 1 := by
  rw [lst_size]
  have h1 := Ln.jn_take_len (Ln.all s.data.toList) k
  have h2 := Ln.jn_len s.data.toList
  rw [len_size] at h2
  omega
theorem jn_get_size (s : ByteArray) (k : Nat) (h : k < (Ln.all s.data.toList).length) : (⟨((Ln.all s.data.toList).getD k []).toArray⟩ : ByteArray).size ≤ s.size + 1 := by
  have h1 := jn_size s (k + 1)
  rw [← jn_step _ k h, app_size, app_size] at h1
  omega

set_option maxHeartbeats 400000 in
set_option maxRecDepth 100000 in
theorem begins_yes (s c : ByteArray) (w : World) (hc : c.size ≤ s.size) (he : s.extract 0 c.size = c) :
    Calls Try.prog 11 #[.string c, .string s] w fun e w' => e = .returned (.bool true) ∧ w' = w := by
  have d : decide ((c.size : Int) ≤ (s.size : Int)) = true := by simp; omega
  have hc2 : (c.size : Int) ≤ (s.size : Int) := by omega
  have hq : (c.toList == c.toList) = true := by simp
  go_enter Try.func11, Try.ntmps11
  go_wp2
  go_ret
  exact ⟨rfl, rfl⟩
set_option maxHeartbeats 400000 in
set_option maxRecDepth 100000 in
theorem begins_no (s c : ByteArray) (w : World) (hc : ¬ c.size ≤ s.size) :
    Calls Try.prog 11 #[.string c, .string s] w fun e w' => e = .returned (.bool false) ∧ w' = w := by
  have d : decide ((c.size : Int) ≤ (s.size : Int)) = false := by simp; omega
  go_enter Try.func11, Try.ntmps11
  go_wp2
  go_ret
  exact ⟨rfl, rfl⟩
/-- The lines put together are the beginning of the text, or it and an end. -/
theorem jn_or (s t : ByteArray) (ht : t = ⟨(Ln.jn ((Ln.all s.data.toList).take (Ln.all s.data.toList).length)).toArray⟩) :
    (t.size ≤ s.size ∧ s.extract 0 t.size = t) ∨ (¬ t.size ≤ s.size ∧ t = s ++ (⟨#[10]⟩ : ByteArray)) := by
  rw [List.take_of_length_le (Nat.le_refl _)] at ht
  have hl : t.data.toList = Ln.jn (Ln.all s.data.toList) := by rw [ht]
  rcases Ln.jn_go 20 s.data.toList with ⟨r, hr⟩ | hr
  · have hr' : s.data.toList = t.data.toList ++ r := by rw [hl]; exact hr
    have hsz : s.size = t.size + r.length := by rw [← len_size s, hr', List.length_append, len_size]
    refine .inl ⟨by omega, ?_⟩
    rw [Ln.ext_take, hr', ← len_size t, List.take_left']
    rfl
  · have hr' : t.data.toList = s.data.toList ++ [10] := by rw [hl]; exact hr
    have hsz : t.size = s.size + 1 := by rw [← len_size t, hr', List.length_append, len_size]; rfl
    refine .inr ⟨by omega, ?_⟩
    apply ByteArray.ext
    apply Array.toList_inj.1
    rw [hr', app_data]
theorem two_lines : Ln.all (⟨#[97, 10, 98]⟩ : ByteArray).data.toList = [[97], [98]] := by decide
theorem no_lines : Ln.all (⟨#[]⟩ : ByteArray).data.toList = [] := by decide

set_option maxHeartbeats 2000000 in
set_option maxRecDepth 100000 in
theorem lawFnLines (ad : Option Addr) (n cap : Nat) (w : World) (hc : n ≤ 1048576 → Code w ad n) :
    Calls Try.prog 3 #[.slice ad n cap] w fun e w' => e = .returned (.bool true) ∧ Below w.heap.size w w' := by
  by_cases hbig : 1048576 < n
  · have CB : Hid _ := big_yes ad n cap hbig
    clear hc
    go_enter Try.func3, Try.ntmps3
    go_wp2_with fail
    refine Calls.mono (CB.out _) ?_
    rintro e w' ⟨rfl, rfl⟩
    go_wp2
    go_ret
    exact ⟨rfl, Below.refl _ _⟩
  have CB : Hid (∀ w, Calls Try.prog 6 #[.slice ad n cap] w fun e w' => e = .returned (.bool false) ∧ w' = w) := big_no ad n cap hbig
  have HC : Hid (Code w ad n) := hc (by omega)
  have hn : n ≤ 1048576 := by omega
  clear hc hbig
  go_enter Try.func3, Try.ntmps3
  go_wp2_with fail
  refine (CB.out _).mono ?_
  rintro e w0 ⟨rfl, rfl⟩
  go_wp2_with fail
  refine (dLinesOf_any ad n cap w0 hn HC.out).mono ?_
  rintro e w1 ⟨s, hs, rfl, b1⟩
  have B1 : Hid (Below w0.heap.size w0 w1) := b1
  clear b1
  go_wp2_with fail
  refine (implLines_any s w1 (by omega)).mono ?_
  rintro e w2 ⟨v1, rfl, r1, b2⟩
  have B2 : Hid (Below w0.heap.size w0 w2) := B1.out.trans (b2.mono B1.out.size)
  clear b2 B1
  have CS : Hid (∀ w, Calls Try.prog 10 #[.string s] w fun e w' => ∃ v, e = .returned v ∧ SRow w.heap.size w' v (Ln.all s.data.toList) ∧ Below w.heap.size w w') := fun w => specLines_any s w (by omega)
  have CL : Hid (∀ w, Calls Try.prog 8 #[.string ⟨#[97, 10, 98]⟩] w fun e w' => ∃ v, e = .returned v ∧ SRow w.heap.size w' v [[97], [98]] ∧ Below w.heap.size w w') := by
    intro w
    have h := implLines_any (⟨#[97, 10, 98]⟩ : ByteArray) w (by decide)
    rwa [two_lines] at h
  have CE : Hid (∀ w, Calls Try.prog 8 #[.string ⟨#[]⟩] w fun e w' => ∃ v, e = .returned v ∧ SRow w.heap.size w' v [] ∧ Below w.heap.size w w') := by
    intro w
    have h := implLines_any (⟨#[]⟩ : ByteArray) w (by decide)
    rwa [no_lines] at h
  have HJ : Hid (∀ k, (⟨(Ln.jn ((Ln.all s.data.toList).take k)).toArray⟩ : ByteArray).size ≤ s.size + 1) := fun k => jn_size s k
  have HGS : Hid (∀ k, k < (Ln.all s.data.toList).length → (⟨((Ln.all s.data.toList).getD k []).toArray⟩ : ByteArray).size ≤ s.size + 1) := fun k h => jn_get_size s k h
  have HOR : Hid (∀ t, t = (⟨(Ln.jn ((Ln.all s.data.toList).take (Ln.all s.data.toList).length)).toArray⟩ : ByteArray) → (t.size ≤ s.size ∧ s.extract 0 t.size = t) ∨ (¬ t.size ≤ s.size ∧ t = s ++ (⟨#[10]⟩ : ByteArray))) := fun t ht => jn_or s t ht
  have hlen := Ln.all_len s.data.toList
  generalize Ln.all s.data.toList = ws at *
  have R1 : Hid (SRow w1.heap.size w2 v1 ws) := r1
  obtain ⟨ad1, c1, rfl, f1⟩ := r1.form
  have HL : Hid (ws.length ≤ 601) := by show _ ≤ _; omega
  have D20 : decide ((ws.length : Int) ≤ 20) = true := by simp; omega
  have HF : Hid (0 < ws.length → ∃ g, ad1 = some ⟨g, 0, none⟩ ∧ ∀ j, j < ws.length → w2.cell? ⟨g, j, none⟩ = some (sv (ws.getD j []))) := fun h => by
    obtain ⟨g, e, _, _, hcell, _⟩ := f1 h
    exact ⟨g, e, hcell⟩
  clear f1 r1
  obtain ⟨m, hm⟩ : ∃ m, m = ws.length := ⟨_, rfl⟩
  have HM : Hid (m = ws.length) := hm
  rw [← hm] at D20 hlen ⊢
  clear hm
  go_wp2
  go_loop [5, 6] (fun t i => ∃ k : Nat, i = .int .i64 (k : Int) ∧ t = .string ⟨(Ln.jn (ws.take k)).toArray⟩ ∧ k ≤ m) (fun _ i => m - (intOf i).toNat)
  case atStart => exact ⟨0, rfl, rfl, by omega⟩
  case round =>
    obtain ⟨k, rfl, rfl, hk⟩ := hrel
    by_cases hlt : k < m
    · have hlw : k < ws.length := by have := HM.out; omega
      obtain ⟨g, rfl, hcell⟩ := HF.out (by omega)
      obtain ⟨x, hx⟩ : ∃ x : ByteArray, x = ⟨(ws.getD k []).toArray⟩ := ⟨_, rfl⟩
      have hc1 : w2.cell? ⟨g, k, none⟩ = some (.string x) := by rw [hx]; exact hcell k hlw
      have hxs : x.size ≤ s.size + 1 := by rw [hx]; exact HGS.out k hlw
      have HST : Hid ((⟨(Ln.jn (ws.take k)).toArray⟩ : ByteArray) ++ x ++ (⟨#[10]⟩ : ByteArray) = ⟨(Ln.jn (ws.take (k + 1))).toArray⟩) := by
        show _ = _
        rw [hx]
        exact jn_step ws k hlw
      have hts := HJ.out k
      generalize (⟨(Ln.jn (ws.take k)).toArray⟩ : ByteArray) = t at *
      have ets : (t ++ x).size = t.size + x.size := app_size _ _
      have i1 : (k : Int) < (m : Int) := by omega
      clear hx hlw hcell HF
      go_wp2
      go_round
      case rel => exact ⟨k + 1, by go_num, by rw [← HST.out], by omega⟩
      case measure => simp [intOf]; omega
    · obtain rfl : k = m := by omega
      have HT := HOR.out (⟨(Ln.jn (ws.take k)).toArray⟩ : ByteArray) (by rw [HM.out])
      have RT : Hid (SRow w1.heap.size w2 (.slice ad1 k c1) ws) := by rw [HM.out]; exact R1.out
      have hts := HJ.out k
      generalize (⟨(Ln.jn (ws.take k)).toArray⟩ : ByteArray) = t at *
      clear R1 HF HOR HGS
      go_wp2_with fail
      refine (CS.out w2).mono ?_
      rintro e w3 ⟨v2, rfl, r2, b3⟩
      have RT3 : Hid (SRow w1.heap.size w3 (.slice ad1 k c1) ws) := RT.out.keep b3
      have B3 : Hid (Below w0.heap.size w0 w3) := B2.out.trans (b3.mono B2.out.size)
      have R2 : Hid (SRow w2.heap.size w3 v2 ws) := r2
      clear b3 r2 RT B2 CS
      go_wp2_with fail
      refine (sameTexts_any _ v2 _ _ _ w3 RT3.out R2.out HL.out).mono ?_
      rintro e w4 ⟨rfl, b4⟩
      have B4 : Hid (Below w0.heap.size w0 w4) := B3.out.trans (b4.mono B3.out.size)
      clear b4 B3 R2 RT3
      rcases HT with ⟨h1, h2⟩ | ⟨h1, rfl⟩
      · have HX : Hid (∀ w, Calls Try.prog 11 #[.string t, .string s] w fun e w' => e = .returned (.bool true) ∧ w' = w) := fun w => begins_yes s t w h1 h2
        clear h1 h2
        go_wp2_with fail
        refine (HX.out w4).mono ?_
        rintro e w5 ⟨rfl, rfl⟩
        go_wp2_with fail
        refine (CL.out _).mono ?_
        rintro e w6 ⟨v4, rfl, r4, b6⟩
        have B6 : Hid (Below w0.heap.size w0 w6) := B4.out.trans (b6.mono B4.out.size)
        obtain ⟨ad4, c4, h4, _⟩ := r4.form
        rw [show ([[97], [98]] : List (List UInt8)).length = 2 from rfl] at h4
        subst h4
        clear r4 b6 B4
        go_wp2_with fail
        refine (CE.out _).mono ?_
        rintro e w7 ⟨v5, rfl, r5, b7⟩
        have B7 : Hid (Below w0.heap.size w0 w7) := B6.out.trans (b7.mono B6.out.size)
        obtain ⟨ad5, c5, h5, _⟩ := r5.form
        rw [show ([] : List (List UInt8)).length = 0 from rfl] at h5
        subst h5
        clear r5 b7 B6
        go_wp2
        go_ret
        exact ⟨rfl, B7.out⟩
      · have HX : Hid (∀ w, Calls Try.prog 11 #[.string (s ++ (⟨#[10]⟩ : ByteArray)), .string s] w fun e w' => e = .returned (.bool false) ∧ w' = w) := fun w => begins_no s _ w h1
        clear h1
        go_wp2_with fail
        refine (HX.out w4).mono ?_
        rintro e w5 ⟨rfl, rfl⟩
        go_wp2_with fail
        refine (CL.out _).mono ?_
        rintro e w6 ⟨v4, rfl, r4, b6⟩
        have B6 : Hid (Below w0.heap.size w0 w6) := B4.out.trans (b6.mono B4.out.size)
        obtain ⟨ad4, c4, h4, _⟩ := r4.form
        rw [show ([[97], [98]] : List (List UInt8)).length = 2 from rfl] at h4
        subst h4
        clear r4 b6 B4
        go_wp2_with fail
        refine (CE.out _).mono ?_
        rintro e w7 ⟨v5, rfl, r5, b7⟩
        have B7 : Hid (Below w0.heap.size w0 w7) := B6.out.trans (b7.mono B6.out.size)
        obtain ⟨ad5, c5, h5, _⟩ := r5.form
        rw [show ([] : List (List UInt8)).length = 0 from rfl] at h5
        subst h5
        clear r5 b7 B6
        go_wp2
        go_ret
        exact ⟨rfl, B7.out⟩
#print axioms lawFnLines
end Go.Proofs.Ytmobohkcocidhaa
