/- What the program's PartsOf answers, at every line: its parts, in memory of their own, or none. -/
import Derived.Test.YtnckjnkbpdfjpamDoorKitS
import Derived.Test.YtnckjnkbpdfjpamDoorShelfSplit
namespace Go.Proofs.YtnckjnkbpdfjpamDoor
open Go.RowKit

/-- What PartsOf answers. -/
def ptL (s : ByteArray) : List (List UInt8) × Bool := if s.size ≤ 600 ∧ Pl.prt s.data.toList = true ∧ (Pl.wd [] s.data.toList).length ≤ 10 then (Pl.wd [] s.data.toList, true) else ([], false)
theorem ptL_no (s : ByteArray) (h : 600 < s.size ∨ Pl.prt s.data.toList = false ∨ 10 < (Pl.wd [] s.data.toList).length) : ptL s = ([], false) := by
  unfold ptL
  rw [if_neg]
  rintro ⟨h1, h2, h3⟩
  rcases h with h | h | h
  · omega
  · rw [h] at h2; cases h2
  · omega
theorem ptL_yes (s : ByteArray) (h1 : s.size ≤ 600) (h2 : Pl.prt s.data.toList = true) (h3 : (Pl.wd [] s.data.toList).length ≤ 10) : ptL s = (Pl.wd [] s.data.toList, true) := by
  unfold ptL
  rw [if_pos ⟨h1, h2, h3⟩]

set_option maxHeartbeats 400000 in
set_option maxRecDepth 100000 in
theorem isPrintable_any (s : ByteArray) (w : World) (hs : s.size ≤ 1048576) :
    Calls Tryd.prog 14 #[.string s] w fun e w' => e = .returned (.bool (Pl.prt s.data.toList)) ∧ w' = w := by
  go_enter Tryd.func14, Tryd.ntmps14
  go_wp2
  go_loop [3] (fun i => ∃ k : Nat, i = .int .i64 (k : Int) ∧ k ≤ s.size ∧ Hid (∀ j (hj : j < s.size), j < k → 32 ≤ s[j].toNat ∧ s[j].toNat ≤ 126)) (fun i => s.size - (intOf i).toNat)
  case atStart => exact ⟨0, rfl, by omega, fun j _ hj => by omega⟩
  case round =>
    obtain ⟨k, rfl, hk, HP⟩ := hrel
    by_cases hlt : k < s.size
    · have h256 : s[k].toNat < 256 := s[k].toNat_lt
      by_cases h1 : s[k].toNat < 32
      · have HN : Hid (Pl.prt s.data.toList = false) := Pl.prt_no s k hlt (.inl h1)
        go_wp2
        go_ret
        exact ⟨by rw [HN.out]; rfl, rfl⟩
      · by_cases h2 : 126 < s[k].toNat
        · have HN : Hid (Pl.prt s.data.toList = false) := Pl.prt_no s k hlt (.inr h2)
          have d2 : decide ((126 : Int) < (s[k].toNat : Int)) = true := by simp; omega
          go_wp2
          go_ret
          exact ⟨by rw [HN.out]; rfl, rfl⟩
        · have d2 : decide ((126 : Int) < (s[k].toNat : Int)) = false := by simp; omega
          have HN : Hid (∀ j (hj : j < s.size), j < k + 1 → 32 ≤ s[j].toNat ∧ s[j].toNat ≤ 126) := by
            intro j hj hjk
            by_cases e : j = k
            · subst e; omega
            · exact HP.out j hj (by omega)
          go_wp2
          go_round
          case rel => exact ⟨k + 1, by go_num, by omega, HN.out⟩
          case measure => simp [intOf]; omega
    · have HY : Hid (Pl.prt s.data.toList = true) := Pl.prt_yes s (fun j hj => HP.out j hj (by omega))
      go_wp2
      go_ret
      exact ⟨by rw [HY.out]; rfl, rfl⟩

set_option maxHeartbeats 400000 in
theorem clone_any (s : ByteArray) (w : World) (h : s.size ≤ 1048576) :
    Calls Tryd.prog 16 #[.string s] w fun e w' => e = .returned (.string s) ∧ Below w.heap.size w w' := by
  go_enter Tryd.func16, Tryd.ntmps16
  go_wp2_with (go_at_call 20; refine (Tryd.stringslite_Clone s _ (by omega)).mono ?_; rintro e w' ⟨rfl, hb⟩)
  go_ret
  exact ⟨rfl, hb⟩

/-- The pieces of a line, cut at every blank. -/
def pcs (s : ByteArray) : List ByteArray := Lib.splitB ⟨#[32]⟩ 0 (Lib.countB s ⟨#[32]⟩) s
theorem pcs_len (s : ByteArray) : (pcs s).length = Lib.countB s ⟨#[32]⟩ + 1 := Lib.splitB_all ⟨#[32]⟩ (by decide) 0 _ s rfl
theorem pcs_count (s : ByteArray) : Lib.countB s ⟨#[32]⟩ ≤ s.size := Lib.countB_le ⟨#[32]⟩ (by decide) s.size s (Nat.le_refl _)
theorem split_size (k : Nat) (s : ByteArray) : ∀ x ∈ Lib.splitB ⟨#[32]⟩ 0 k s, x.size ≤ s.size := by
  induction k generalizing s with
  | zero => intro x hx; simp [Lib.splitB] at hx; subst hx; exact Nat.le_refl _
  | succ k ih =>
    intro x hx
    rw [Lib.splitB] at hx
    split at hx
    · simp at hx; subst hx; exact Nat.le_refl _
    · simp only [List.mem_cons] at hx
      rcases hx with rfl | hx
      · rw [ByteArray.size_extract]; omega
      · have := ih _ x hx
        rw [ByteArray.size_extract] at this
        omega
theorem pcs_size (s : ByteArray) : ∀ x ∈ pcs s, x.size ≤ s.size := split_size _ s
/-- What is not empty among them: the parts. -/
theorem pcs_parts (s : ByteArray) : ((pcs s).map (·.data.toList)).filter (fun p => p ≠ []) = Pl.wd [] s.data.toList := by
  unfold pcs
  rw [Lib.splitB_data]
  exact Pl.split_wd s.data.toList
theorem empty_data (x : ByteArray) : x.toList.isEmpty = decide (x.data.toList = []) := by
  rw [Lib.toList_data]
  cases x.data.toList <;> simp
theorem filter_more (l : List ByteArray) (k : Nat) (h : k < l.length) :
    ((l.take (k + 1)).map (·.data.toList)).filter (fun p => p ≠ []) = ((l.take k).map (·.data.toList)).filter (fun p => p ≠ []) ++ (if (l[k]).data.toList = [] then [] else [(l[k]).data.toList]) := by
  rw [List.take_succ_eq_append_getElem h, List.map_append, List.filter_append]
  congr 1
  by_cases e : (l[k]).data.toList = [] <;> simp [e]

set_option maxHeartbeats 1000000 in
set_option maxRecDepth 100000 in
theorem implParts_any (s : ByteArray) (w : World) (hs : s.size ≤ 1048576) (hm : ∃ m : Int, w.cell? ⟨1, 0, none⟩ = some (.int .i64 m)) :
    Calls Tryd.prog 8 #[.string s] w fun e w' => ∃ v, e = .returned (.tuple #[v, .bool (ptL s).2]) ∧ SRow w.heap.size w' v (ptL s).1 ∧ Below w.heap.size w w' := by
  by_cases h6 : 600 < s.size
  · rw [ptL_no s (.inl h6)]
    have d6 : decide ((600 : Int) < (s.size : Int)) = true := by simp; omega
    go_enter Tryd.func8, Tryd.ntmps8
    go_wp2
    go_ret2
    exact ⟨_, rfl, SRow.nil _ _, Below.refl _ _⟩
  have d6 : decide ((600 : Int) < (s.size : Int)) = false := by simp; omega
  cases hp : Pl.prt s.data.toList with
  | false =>
    rw [ptL_no s (.inr (.inl hp))]
    have C : Hid (∀ w, Calls Tryd.prog 14 #[.string s] w fun e w' => e = .returned (.bool false) ∧ w' = w) := fun w => by have := isPrintable_any s w hs; rwa [hp] at this
    clear hp
    go_enter Tryd.func8, Tryd.ntmps8
    go_wp2_with (go_at_call 14; refine (C.out _).mono ?_; rintro e w' ⟨rfl, rfl⟩)
    go_ret2
    exact ⟨_, rfl, SRow.nil _ _, Below.refl _ _⟩
  | true =>
    have HPT : Hid (Pl.prt s.data.toList = true) := hp
    have C : Hid (∀ w, Calls Tryd.prog 14 #[.string s] w fun e w' => e = .returned (.bool true) ∧ w' = w) := fun w => by have := isPrintable_any s w hs; rwa [hp] at this
    clear hp
    obtain ⟨m, hm⟩ := hm
    have CS : Hid (Calls Tryd.prog 15 #[.string s, .string ⟨#[32]⟩] w fun e w' => e = .returned (.slice (some ⟨w.heap.size, 0, none⟩) (pcs s).length (pcs s).length) ∧ w' = w.alloc (.cells ((pcs s).map Value.string).toArray 9)) := by
      have := Tryd.strings_Split s ⟨#[32]⟩ m w (by omega) hm (by decide)
      rw [← pcs_len s] at this
      exact this
    have hN : (pcs s).length ≤ 601 := by rw [pcs_len]; have := pcs_count s; omega
    have HPS : Hid (∀ x ∈ pcs s, x.size ≤ s.size) := pcs_size s
    have HPP : Hid (((pcs s).map (·.data.toList)).filter (fun p => p ≠ []) = Pl.wd [] s.data.toList) := pcs_parts s
    generalize pcs s = ps at *
    clear hm
    go_enter Tryd.func8, Tryd.ntmps8
    go_wp2_with (first | (go_at_call 14; refine (C.out _).mono ?_; rintro e w' ⟨rfl, rfl⟩) | (go_at_call 15; refine CS.out.mono ?_; rintro e w1 ⟨rfl, rfl⟩))
    have hbw : Below w'.heap.size w' (w'.alloc (.cells (ps.map Value.string).toArray 9)) := (Below.refl _ _).alloc (Nat.le_refl _) _
    have HCL : Hid (∀ j (hj : j < ps.length), (w'.alloc (.cells (ps.map Value.string).toArray 9)).cell? ⟨w'.heap.size, j, none⟩ = some (.string ps[j])) := by
      intro j hj
      rw [cell_of_row _ w'.heap.size j _ 9 (0, 0) (heap_alloc_new w' _)]
      simp [hj]
    have hws : w'.heap.size + 1 = (w'.alloc (.cells (ps.map Value.string).toArray 9)).heap.size := by simp
    obtain ⟨w1, hw1⟩ : ∃ w1, w1 = w'.alloc (.cells (ps.map Value.string).toArray 9) := ⟨_, rfl⟩
    rw [← hw1] at hbw HCL hws ⊢
    clear hw1
    go_loopw [4, 18] (fun v i wr => ∃ (k : Nat) (ws : List (List UInt8)), i = .int .i64 (k : Int) ∧ k ≤ ps.length ∧ SRow w1.heap.size wr v ws ∧ Below w1.heap.size w1 wr ∧ ws.length ≤ k ∧ Hid (ws = ((ps.take k).map (·.data.toList)).filter (fun p => p ≠ []))) (fun _ i _ => ps.length - (intOf i).toNat)
    case atStart => exact ⟨0, [], rfl, by omega, SRow.nil _ _, Below.refl _ _, Nat.le_refl _, rfl⟩
    case round =>
      obtain ⟨k, ws, rfl, hk, hrow, hbel, hwl, HW⟩ := hrel
      have hsz := hbel.size
      by_cases hlt : k < ps.length
      · obtain ⟨x, hx⟩ : ∃ x, x = ps[k] := ⟨_, rfl⟩
        have hcell : wr.cell? ⟨w'.heap.size, k, none⟩ = some (.string x) := by
          rw [hx]; exact (hbel.cell (by show w'.heap.size < w1.heap.size; omega)).trans (HCL.out k hlt)
        have hxs : x.size ≤ 1048576 := by
          have := HPS.out x (by rw [hx]; exact List.getElem_mem _)
          omega
        have hfm := filter_more ps k hlt
        rw [← hx, ← HW.out] at hfm
        by_cases he : x.data.toList = []
        · rw [if_pos he, List.append_nil] at hfm
          have HF : Hid (ws = ((ps.take (k + 1)).map (·.data.toList)).filter (fun p => p ≠ [])) := hfm.symm
          have hem : x.toList.isEmpty = true := by rw [empty_data]; simpa using he
          clear hfm he hx
          go_wp2
          go_roundw
          case rel => exact ⟨k + 1, ws, by go_num, by omega, hrow, hbel, by omega, HF.out⟩
          case measure => simp [intOf]; omega
        · rw [if_neg he] at hfm
          have HF : Hid (ws ++ [x.data.toList] = ((ps.take (k + 1)).map (·.data.toList)).filter (fun p => p ≠ [])) := hfm.symm
          have hem : x.toList.isEmpty = false := by rw [empty_data]; simpa using he
          clear hfm he hx
          go_wp2_with (first | (go_at_call 16; refine (clone_any x _ hxs).mono ?_; rintro e w2 ⟨rfl, hb2⟩) | (at_builtin; go_must (refine (hrow.keep hb2).push rfl (.tmp 24) (.tmp 27) rfl rfl _ x.data.toList ?hz rfl ?hl ?hb ?_)))
          case hz => exact (Lib.mk_data x).symm
          case hl => omega
          case hb => have := hb2.size; omega
          · intro v' w3 hrow' hbel'
            go_wp2
            go_roundw
            case rel => exact ⟨k + 1, _, by go_num, by omega, hrow', (hbel.trans (hb2.mono hsz)).trans hbel', by simp; omega, HF.out⟩
            case measure => simp [intOf]; omega
      · have HE : Hid (ws = Pl.wd [] s.data.toList) := by
          have := HW.out
          rw [List.take_of_length_le (by omega), HPP.out] at this
          exact this
        obtain ⟨ad, cap, rfl, _⟩ := hrow.form
        have hfin : Below w'.heap.size w' wr := hbw.trans (hbel.mono (by omega))
        by_cases h10 : 10 < ws.length
        · go_wp2
          go_ret2
          rw [ptL_no s (.inr (.inr (by rw [← HE.out]; exact h10)))]
          exact ⟨_, rfl, SRow.nil _ _, hfin⟩
        · go_wp2
          go_ret2
          rw [ptL_yes s (by omega) HPT.out (by rw [← HE.out]; omega), ← HE.out]
          exact ⟨_, rfl, hrow.lower (by omega), hfin⟩
end Go.Proofs.YtnckjnkbpdfjpamDoor
