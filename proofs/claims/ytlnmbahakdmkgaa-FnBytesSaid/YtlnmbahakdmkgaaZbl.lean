/- What ReadPattern of the program answers, at every text. What the laws on drawn patterns call. -/
import Derived.Test.YtlnmbahakdmkgaaZbk
import Derived.Test.YtlnmbahakdmkgaaZal
import Derived.Test.YtlnmbahakdmkgaaZbd
import Derived.Test.YtlnmbahakdmkgaaZbh
namespace Go.Proofs.Ytlnmbahakdmkgaa
section PartRiG
open Go.RowKit

set_option maxHeartbeats 2000000 in
set_option maxRecDepth 100000 in
theorem implRead_any (s : ByteArray) (w : World) (hs : s.size ≤ 1048576) :
    Calls Try.prog 13 #[.string s] w fun e w' => Below w.heap.size w w' ∧ Answer w' w.heap.size (Pp.read s.data.toList) e := by
  have hsl : s.data.toList.length = s.size := by simp
  by_cases hin : 1 ≤ s.size ∧ s.size ≤ 24
  · have hem : s.toList.isEmpty = false := by
      rw [Lib.toList_data]
      cases hq : s.data.toList with
      | nil => rw [hq] at hsl; simp at hsl; omega
      | cons b r => rfl
    have d24 : decide ((24 : Int) < (s.size : Int)) = false := decide_eq_false (by omega)
    obtain ⟨R, hR⟩ : ∃ R, R = Pp.read s.data.toList := ⟨_, rfl⟩
    have HR : Hid (R = match Pp.alt s.data.toList 200 0 [] with
        | none => none
        | some (e, o, _) => if e < s.size then none else some o) := by
      show _ = _
      rw [hR, Pp.read, hsl, if_pos hin]
      rfl
    rw [← hR]
    clear hR
    have HA := riAll (w.heap.size + 2) (w.heap.size + 1) s.data.toList (by omega) (by omega) 200 (Nat.le_refl _) 0 (.slice none 0 0) []
    have CA : Hid (∀ w1 : World, Ri w1 (w.heap.size + 1) s.data.toList 0 (.slice none 0 0) → w.heap.size + 2 ≤ w1.heap.size → Calls Try.prog 34 #[.pointer (some ⟨w.heap.size + 1, 0, none⟩)] w1 (RiPost (w.heap.size + 2) (w.heap.size + 1) s.data.toList w1 300 (Pp.alt s.data.toList 200 0 []))) :=
      fun w1 h1 h2 => HA w1 h1 ⟨fun _ => 0, [], World.ownsRow_nil _ _ _ _, fun i hi => by simp at hi, fun i j _ hj => by simp at hj⟩ h2 (by omega) (by simp; omega) (by omega)
    have hst : (⟨(s.data.toList.drop 0).toArray⟩ : ByteArray) = s := by apply ByteArray.ext; simp
    have HI : Hid (∀ A : Obj, Ri ((w.alloc A).alloc (.cells #[.string s, .slice none 0 0] 71)) (w.heap.size + 1) s.data.toList 0 (.slice none 0 0)) := by
      intro A
      show _ = _
      rw [alloc2_1, hst]
    clear HA hst
    go_enter Try.func13, Try.ntmps13
    go_wp2_with fail
    refine (CA.out _ (HI.out _) (by simp)).mono ?_
    intro e w5 hpost
    clear CA HI
    obtain ⟨hfb, hpost⟩ := hpost
    have B5 : Below w.heap.size w w5 := (((Below.refl _ _).alloc (Nat.le_refl _) _).alloc (by simp) _).trans (hfb.below (by omega) (by omega))
    have r0 := hfb.2.1 w.heap.size (by omega) (by omega)
    rw [alloc2_0] at r0
    have hsz5 : w.heap.size + 2 ≤ w5.heap.size := by have := hfb.1; simp at this; omega
    clear hfb
    have x0 := blk_cell r0 0
    have y0 := blk_free r0 0
    simp at x0
    cases hA : Pp.alt s.data.toList 200 0 [] with
    | none =>
      rw [hA] at hpost
      obtain ⟨k, a', v', n', cs', rfl, r', p', hn'⟩ := hpost
      have HRN : Hid (R = none) := by show _ = _; rw [HR.out, hA]
      clear HR hA
      go_wp2_with fail
      refine bodyPost_ret (res_pat rfl _ _ w.heap.size (.slice none 0 0) rfl (blk_set r0 0 (.slice none 0 0))) rfl ?_
      rw [HRN.out]
      exact ⟨B5.setCell (by exact Nat.le_refl _) _, rfl⟩
    | some r =>
      obtain ⟨e5, o5, k5⟩ := r
      rw [hA] at hpost
      obtain ⟨rfl, v', r', p'⟩ := hpost
      have hbd := (Pp.bd s.data.toList 200).alt 0 [] e5 o5 k5 (by omega) hA
      have hpos : 0 < o5.length := Pp.alt_pos _ _ _ _ _ _ _ hA
      simp at hbd
      have ho : o5.length ≤ 60 := by omega
      obtain ⟨c0, c1, f0, f1⟩ := cells2 r'
      obtain ⟨x, hx⟩ : ∃ x, x = tx (s.data.toList.drop e5) := ⟨_, rfl⟩
      have c0' : w5.cell? ⟨w.heap.size + 1, 0, none⟩ = some (.string x) := by rw [hx]; exact c0
      by_cases hend : e5 < s.size
      · have HRN : Hid (R = none) := by show _ = _; rw [HR.out, hA]; simp only [hend, ↓reduceIte]
        have hxe : x.toList.isEmpty = false := by
          rw [hx, tx_empty]
          cases hq : s.data.toList.drop e5 with
          | nil => have := congrArg List.length hq; simp at this; omega
          | cons b r => rfl
        clear HR hA hx c0
        go_wp2_with fail
        refine bodyPost_ret (res_pat rfl _ _ w.heap.size (.slice none 0 0) rfl (blk_set r0 0 (.slice none 0 0))) rfl ?_
        rw [HRN.out]
        exact ⟨B5.setCell (by exact Nat.le_refl _) _, rfl⟩
      · have HRS : Hid (R = some o5) := by show _ = _; rw [HR.out, hA]; simp only [hend, ↓reduceIte]
        have hxe : x.toList.isEmpty = true := by
          rw [hx, tx_empty, List.drop_of_length_le (by omega)]
          rfl
        obtain ⟨ad, cc, rfl⟩ : ∃ ad cc, v' = .slice ad o5.length cc := by
          obtain ⟨_, cs, hp, _⟩ := p'
          rcases hp.2 with ⟨rfl, h0⟩ | ⟨g, cap, cur, rfl, _⟩
          · exact ⟨none, 0, by rw [h0]⟩
          · exact ⟨_, _, rfl⟩
        have d60 : decide ((60 : Int) < (o5.length : Int)) = false := decide_eq_false (by omega)
        have HP' : Hid (RP (w.heap.size + 2) w5 (.slice ad o5.length cc) o5) := p'
        clear HR hA p' hx c0
        go_wp2_with fail
        refine bodyPost_ret (res_pat rfl _ _ w.heap.size (.slice ad o5.length cc) rfl (blk_set r0 0 (.slice ad o5.length cc))) rfl ?_
        rw [HRS.out]
        refine ⟨B5.setCell (by exact Nat.le_refl _) _, _, rfl, ?_, hpos, ho⟩
        exact RP.lower (RP.setg HP'.out (by omega) 0 _) (by omega)
  · have HR : Hid (Pp.read s.data.toList = none) := by show _ = _; rw [Pp.read, hsl, if_neg hin]
    by_cases h0 : s.size = 0
    · have hem : s.toList.isEmpty = true := by
        rw [Lib.toList_data, List.eq_nil_of_length_eq_zero (l := s.data.toList) (by omega)]
        rfl
      go_enter Try.func13, Try.ntmps13
      go_wp2_with fail
      refine bodyPost_ret (res_pat rfl _ _ w.heap.size (.slice none 0 0) rfl (heap_alloc_new _ _)) rfl ?_
      rw [HR.out]
      exact ⟨(Below.refl _ _).alloc (Nat.le_refl _) _, rfl⟩
    · have hem : s.toList.isEmpty = false := by
        rw [Lib.toList_data]
        cases hq : s.data.toList with
        | nil => rw [hq] at hsl; simp at hsl; omega
        | cons b r => rfl
      have d24 : decide ((24 : Int) < (s.size : Int)) = true := decide_eq_true (by omega)
      go_enter Try.func13, Try.ntmps13
      go_wp2_with fail
      refine bodyPost_ret (res_pat rfl _ _ w.heap.size (.slice none 0 0) rfl (heap_alloc_new _ _)) rfl ?_
      rw [HR.out]
      exact ⟨(Below.refl _ _).alloc (Nat.le_refl _) _, rfl⟩
end PartRiG
section PartFnS
open Go.RowKit

/-- The program's ReadPattern of a text that is read. -/
theorem readC (t : ByteArray) (p : List Pp.Pc) (w : World) (hp : Pp.read t.data.toList = some p) (ht : t.size ≤ 1048576) :
    Calls Try.prog 13 #[.string t] w fun e w' => Below w.heap.size w w' ∧ ∃ v, e = .returned (.tuple #[.agg #[v], .bool true]) ∧ PcsAt w' v (p.map tp) ∧ 0 < p.length ∧ p.length ≤ 60 := by
  refine (implRead_any t w ht).mono ?_
  rintro e w' ⟨h1, h2⟩
  rw [hp] at h2
  obtain ⟨v, rfl, h3, h4, h5⟩ := h2
  exact ⟨h1, v, rfl, h3.pcs h4, h4, h5⟩
/-- It is right. -/
theorem okC (v : Value) (p : List Pp.Pc) (w : World) (h : PcsAt w v (p.map tp)) (hr : Pp.right p = true) (h0 : 0 < p.length) (h60 : p.length ≤ 60) :
    Calls Try.prog 24 #[.agg #[v]] w fun e w' => e = .returned (.bool true) ∧ Below w.heap.size w w' := by
  have k := implOk_any v (p.map tp) w h (by simp; omega) (tp_small p (right_small hr))
  rwa [right_pat hr h0 h60] at k
theorem app_list (a b : ByteArray) : (a ++ b).data.toList = a.data.toList ++ b.data.toList := by simp
end PartFnS
end Go.Proofs.Ytlnmbahakdmkgaa
