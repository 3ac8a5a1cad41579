/- What the program's LinesOf answers, at every text. -/
import Derived.Test.YtmobohkcocidhaaLnP
import Derived.Test.YtmobohkcocidhaaKS
import Derived.Test.YtmobohkcocidhaaShelfC
import Derived.Test.YtmobohkcocidhaaShelfL
namespace Go.Proofs.Ytmobohkcocidhaa
open Go.RowKit

theorem ne_of_size (s : ByteArray) (h : 0 < s.size) : s.toList.isEmpty = false := by
  rw [Lib.toList_data]
  have e : s.data.toList.length = s.size := by simp
  cases hd : s.data.toList with
  | nil => rw [hd] at e; simp at e; omega
  | cons a l => rfl
theorem nil_of_size (s : ByteArray) (h : ¬ 0 < s.size) : s = (⟨#[]⟩ : ByteArray) := by
  apply ByteArray.ext
  apply Array.eq_empty_of_size_eq_zero
  have : s.data.size = s.size := rfl
  omega

set_option maxHeartbeats 2000000 in
set_option maxRecDepth 100000 in
theorem implLines_any (s : ByteArray) (w : World) (hs : s.size ≤ 2097152) :
    Calls Try.prog 8 #[.string s] w fun e w' => ∃ v, e = .returned v ∧ SRow w.heap.size w' v (Ln.all s.data.toList) ∧ Below w.heap.size w w' := by
  obtain ⟨O, hO⟩ : ∃ O, O = Ln.all s.data.toList := ⟨_, rfl⟩
  have HO : Hid (O = Ln.all s.data.toList) := hO
  have HS : Hid (Ln.Lf s.data.toList s []) := Ln.Lf.start s
  rw [← hO]
  clear hO
  go_enter Try.func8, Try.ntmps8
  go_wp2
  go_loopw [0, 3, 4, 5, 6] (fun tx v _ _ _ wr => ∃ (t : ByteArray) (ws : List (List UInt8)), tx = .string t ∧ t.size ≤ 2097152 ∧ SRow w.heap.size wr v ws ∧ Below w.heap.size w wr ∧ ws.length ≤ 20 ∧ Hid (Ln.Lf s.data.toList t ws)) (fun tx _ _ _ _ _ => match tx with | .string t => t.size | _ => 0)
  case atStart => exact ⟨s, [], rfl, hs, SRow.nil _ _, Below.refl _ _, by simp, HS⟩
  case round =>
    obtain ⟨t, ws, rfl, ht, hrow, hbel, hfew, HP⟩ := hrel
    have hsz := hbel.size
    obtain ⟨ad, cap, rfl, _⟩ := hrow.form
    by_cases h0 : 0 < t.size
    · have e0 := ne_of_size t h0
      by_cases h20 : ws.length < 20
      · have d2 : decide ((ws.length : Int) < 20) = true := by simp; omega
        go_wp2_with fail
        refine (cut10_any t _ ht).mono ?_
        rintro e w1 ⟨⟨k, rfl⟩, ⟨hi, rfl⟩ | ⟨i, hi, hil, rfl⟩⟩
        · have HN : Hid (Ln.Lf s.data.toList ⟨#[]⟩ (ws ++ [t.data.toList])) := HP.out.no h0 h20 (Lib.indexByte_none hi)
          clear hi
          go_wp2_with fail
          refine (clone_any t _ (by omega)).mono ?_
          rintro e w2 ⟨rfl, hb2⟩
          have hbd : Below w.heap.size w (wr.drewN k) := below_drewN hbel k
          have hrd : SRow w.heap.size (wr.drewN k) _ ws := hrow.keep (below_drewN (Below.refl _ _) k)
          go_wp2_with (at_builtin; go_must (refine (hrd.keep hb2).push rfl _ _ rfl rfl _ t.data.toList ?hz rfl ?hl ?hb ?_))
          case hz => rfl
          case hl => omega
          case hb => have := hb2.size; have := hbd.size; omega
          · intro v' w3 hrow' hbel'
            go_wp2
            go_roundw
            case rel => exact ⟨_, _, rfl, Nat.zero_le _, hrow', (hbd.trans (hb2.mono hbd.size)).trans hbel', by simp; omega, HN.out⟩
            case measure => exact h0
        · have hx := Lib.indexByte_some hi
          have HN : Hid (Ln.Lf s.data.toList (t.extract (i + 1) t.size) (ws ++ [t.data.toList.take i])) := HP.out.cut i hil h20 hx.1 hx.2
          have hxs : (t.extract 0 i).size ≤ 2097152 := by rw [ByteArray.size_extract]; omega
          clear hi hx
          go_wp2_with fail
          refine (clone_any (t.extract 0 i) _ (by omega)).mono ?_
          rintro e w2 ⟨rfl, hb2⟩
          have hbd : Below w.heap.size w (wr.drewN k) := below_drewN hbel k
          have hrd : SRow w.heap.size (wr.drewN k) _ ws := hrow.keep (below_drewN (Below.refl _ _) k)
          go_wp2_with (at_builtin; go_must (refine (hrd.keep hb2).push rfl _ _ rfl rfl _ (t.data.toList.take i) ?hz rfl ?hl ?hb ?_))
          case hz => exact Ln.ext_take t i
          case hl => omega
          case hb => have := hb2.size; have := hbd.size; omega
          · intro v' w3 hrow' hbel'
            go_wp2
            go_roundw
            case rel => exact ⟨_, _, rfl, by rw [ByteArray.size_extract]; omega, hrow', (hbd.trans (hb2.mono hbd.size)).trans hbel', by simp; omega, HN.out⟩
            case measure => simp [ByteArray.size_extract]; omega
      · have d2 : decide ((ws.length : Int) < 20) = false := by simp; omega
        have HE : Hid (ws = O) := (HP.out.full h20).trans HO.out.symm
        go_wp2
        go_ret
        exact ⟨_, rfl, by rw [← HE.out]; exact hrow, hbel⟩
    · obtain rfl := nil_of_size t h0
      have HE : Hid (ws = O) := (HP.out.over rfl).trans HO.out.symm
      go_wp2
      go_ret
      exact ⟨_, rfl, by rw [← HE.out]; exact hrow, hbel⟩
#print axioms implLines_any
end Go.Proofs.Ytmobohkcocidhaa
