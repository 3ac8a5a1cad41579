/- What the specification's PartsOf answers, at every line. -/
import Derived.Test.YtnckjnkbpdfjpamDoorWPI
namespace Go.Proofs.YtnckjnkbpdfjpamDoor
open Go.RowKit

/-- What is held at a round's head: ws are the parts that are done, the next one begins at p, k signs are read. -/
structure PtAt (s : ByteArray) (k p : Nat) (ws : List (List UInt8)) : Prop where
  inside : k ≤ s.size → p ≤ k ∧ ws ++ Pl.wd ((s.data.toList.drop p).take (k - p)) (s.data.toList.drop k) = Pl.wd [] s.data.toList
  over : s.size < k → ws = Pl.wd [] s.data.toList
  prints : ∀ j (hj : j < s.size), j < k → 32 ≤ s[j].toNat ∧ s[j].toNat ≤ 126
  few : ws.length ≤ k

theorem drop_at' (s : ByteArray) (k : Nat) (h : k < s.size) : s.data.toList.drop k = s[k] :: s.data.toList.drop (k + 1) := by
  rw [List.drop_eq_getElem_cons (by simpa using h)]; rfl
theorem cur_more (s : ByteArray) (p k : Nat) (hp : p ≤ k) (h : k < s.size) : (s.data.toList.drop p).take (k - p) ++ [s[k]] = (s.data.toList.drop p).take (k + 1 - p) := by
  rw [show k + 1 - p = (k - p) + 1 by omega, List.take_add_one]
  congr 1
  rw [List.getElem?_drop, show p + (k - p) = k by omega, List.getElem?_eq_getElem (by simpa using h)]
  rfl
theorem cur_ne (s : ByteArray) (p k : Nat) (hp : p < k) (h : k ≤ s.size) : (s.data.toList.drop p).take (k - p) ≠ [] := by
  intro e
  have := congrArg List.length e
  simp at this
  omega
theorem cur_nil (s : ByteArray) (k : Nat) : (s.data.toList.drop k).take (k - k) = [] := by simp

theorem PtAt.start (s : ByteArray) : PtAt s 0 0 [] := ⟨fun _ => ⟨Nat.le_refl _, rfl⟩, fun h => by omega, fun j _ h => by omega, Nat.le_refl _⟩
theorem PtAt.sign {s : ByteArray} {k p : Nat} {ws : List (List UInt8)} (h : PtAt s k p ws) (hk : k < s.size) (h1 : 32 ≤ s[k].toNat) (h2 : s[k].toNat ≤ 126) (hb : s[k].toNat ≠ 32) : PtAt s (k + 1) p ws := by
  obtain ⟨i1, i2⟩ := h.inside (by omega)
  refine ⟨fun _ => ⟨by omega, ?_⟩, fun ho => by omega, ?_, by have := h.few; omega⟩
  · rw [← i2, drop_at' s k hk, Pl.wd_sign _ _ (fun e => hb (by rw [e]; rfl)), cur_more s p k i1 hk]
  · intro j hj hjk
    by_cases e : j = k
    · subst e; exact ⟨h1, h2⟩
    · exact h.prints j hj (by omega)
theorem PtAt.blank {s : ByteArray} {k p : Nat} {ws : List (List UInt8)} (h : PtAt s k p ws) (hk : k < s.size) (hb : s[k].toNat = 32) :
    (p < k → PtAt s (k + 1) (k + 1) (ws ++ [(s.data.toList.drop p).take (k - p)])) ∧ (¬ p < k → PtAt s (k + 1) (k + 1) ws) := by
  obtain ⟨i1, i2⟩ := h.inside (by omega)
  have hb2 : s[k] = 32 := UInt8.toNat_inj.1 (by rw [hb]; rfl)
  have hpr : ∀ j (hj : j < s.size), j < k + 1 → 32 ≤ s[j].toNat ∧ s[j].toNat ≤ 126 := by
    intro j hj hjk
    by_cases e : j = k
    · subst e; omega
    · exact h.prints j hj (by omega)
  constructor
  · intro hp
    refine ⟨fun _ => ⟨Nat.le_refl _, ?_⟩, fun ho => by omega, hpr, by have := h.few; simp; omega⟩
    rw [← i2, drop_at' s k hk, hb2, Pl.wd_blank _ (cur_ne s p k hp (by omega)), cur_nil]
    simp
  · intro hp
    obtain rfl : p = k := by omega
    refine ⟨fun _ => ⟨Nat.le_refl _, ?_⟩, fun ho => by omega, hpr, by have := h.few; omega⟩
    rw [← i2, cur_nil, cur_nil, drop_at' s p hk, hb2, Pl.wd_blank0]
theorem PtAt.last {s : ByteArray} {k p : Nat} {ws : List (List UInt8)} (h : PtAt s k p ws) (hk : k = s.size) :
    (p < k → PtAt s (k + 1) (k + 1) (ws ++ [(s.data.toList.drop p).take (k - p)])) ∧ (¬ p < k → PtAt s (k + 1) (k + 1) ws) := by
  obtain ⟨i1, i2⟩ := h.inside (by omega)
  have hd : s.data.toList.drop k = [] := List.drop_of_length_le (by simp; omega)
  have hpr : ∀ j (hj : j < s.size), j < k + 1 → 32 ≤ s[j].toNat ∧ s[j].toNat ≤ 126 := fun j hj _ => h.prints j hj (by omega)
  rw [hd] at i2
  constructor
  · intro hp
    refine ⟨fun ho => by omega, fun _ => ?_, hpr, by have := h.few; simp; omega⟩
    rw [← i2, Pl.wd_end _ (cur_ne s p k hp (by omega))]
  · intro hp
    obtain rfl : p = k := by omega
    refine ⟨fun ho => by omega, fun _ => ?_, hpr, by have := h.few; omega⟩
    rw [← i2, cur_nil, Pl.wd_end0, List.append_nil]

set_option maxHeartbeats 1000000 in
set_option maxRecDepth 100000 in
theorem specParts_any (s : ByteArray) (w : World) (hs : s.size ≤ 1048576) :
    Calls Tryd.prog 7 #[.string s] w fun e w' => ∃ v, e = .returned (.tuple #[v, .bool (ptL s).2]) ∧ SRow w.heap.size w' v (ptL s).1 ∧ Below w.heap.size w w' := by
  by_cases h6 : 600 < s.size
  · rw [ptL_no s (.inl h6)]
    go_enter Tryd.func7, Tryd.ntmps7
    go_wp2
    go_ret2
    exact ⟨_, rfl, SRow.none w (Nat.le_refl _), (Below.refl _ _).alloc (Nat.le_refl _) _⟩
  go_enter Tryd.func7, Tryd.ntmps7
  go_wp2
  go_loopw [4, 5, 6] (fun v b i wr => ∃ (k p : Nat) (ws : List (List UInt8)), i = .int .i64 (k : Int) ∧ b = .int .i64 (p : Int) ∧ k ≤ s.size + 1 ∧ p ≤ k ∧ SRow w.heap.size wr v ws ∧ Below w.heap.size w wr ∧ Hid (PtAt s k p ws)) (fun _ _ i _ => s.size + 1 - (intOf i).toNat)
  case atStart => exact ⟨0, 0, [], rfl, rfl, by omega, by omega, SRow.none w (Nat.le_refl _), (Below.refl _ _).alloc (Nat.le_refl _) _, PtAt.start s⟩
  case round =>
    obtain ⟨k, p, ws, rfl, rfl, hk, hpk, hrow, hbel, HP⟩ := hrel
    have hsz := hbel.size
    have hfew : ws.length ≤ 601 := by have := HP.out.few; omega
    by_cases hle : k ≤ s.size
    · by_cases hlt : k < s.size
      · have h256 : s[k].toNat < 256 := s[k].toNat_lt
        by_cases hbad : s[k].toNat < 32 ∨ 126 < s[k].toNat
        · have HN : Hid (ptL s = ([], false)) := ptL_no s (.inr (.inl (Pl.prt_no s k hlt hbad)))
          by_cases h1 : s[k].toNat < 32
          · have d1 : decide ((s[k].toNat : Int) < 32) = true := by simp; omega
            clear hbad
            go_wp2
            go_ret2
            rw [HN.out]
            exact ⟨_, rfl, (SRow.none wr (Nat.le_refl _)).lower hsz, hbel.alloc hsz _⟩
          · have d1 : decide ((s[k].toNat : Int) < 32) = false := by simp; omega
            have d2 : decide ((126 : Int) < (s[k].toNat : Int)) = true := by simp; omega
            clear hbad
            go_wp2
            go_ret2
            rw [HN.out]
            exact ⟨_, rfl, (SRow.none wr (Nat.le_refl _)).lower hsz, hbel.alloc hsz _⟩
        · have d1 : decide ((s[k].toNat : Int) < 32) = false := by simp; omega
          have d2 : decide ((126 : Int) < (s[k].toNat : Int)) = false := by simp; omega
          by_cases hb : s[k].toNat = 32
          · have d3 : ((s[k].toNat : Int) != 32) = false := by simp; omega
            by_cases hpl : p < k
            · have HN : Hid (PtAt s (k + 1) (k + 1) (ws ++ [(s.data.toList.drop p).take (k - p)])) := (HP.out.blank hlt hb).1 hpl
              clear hbad hb
              go_wp2_with (at_builtin; go_must (refine hrow.push rfl (.tmp 48) (.tmp 53) rfl rfl _ ((s.data.toList.drop p).take (k - p)) ?hz rfl ?hl ?hb ?_))
              case hz => exact Lib.extract_eq s p k
              case hl => omega
              case hb => omega
              · intro v' w1 hrow' hbel'
                go_wp2
                go_roundw
                case rel => exact ⟨k + 1, k + 1, _, by go_num, by go_num, by omega, by omega, hrow', hbel.trans hbel', HN.out⟩
                case measure => simp [intOf]; omega
            · have HN : Hid (PtAt s (k + 1) (k + 1) ws) := (HP.out.blank hlt hb).2 hpl
              clear hbad hb
              go_wp2
              go_roundw
              case rel => exact ⟨k + 1, k + 1, ws, by go_num, by go_num, by omega, by omega, hrow, hbel, HN.out⟩
              case measure => simp [intOf]; omega
          · have d3 : ((s[k].toNat : Int) != 32) = true := by simp; omega
            have HN : Hid (PtAt s (k + 1) p ws) := HP.out.sign hlt (by omega) (by omega) hb
            clear hbad hb
            go_wp2
            go_roundw
            case rel => exact ⟨k + 1, p, ws, by go_num, rfl, by omega, by omega, hrow, hbel, HN.out⟩
            case measure => simp [intOf]; omega
      · have hk2 : s.size ≤ k := by omega
        by_cases hpl : p < k
        · have HN : Hid (PtAt s (k + 1) (k + 1) (ws ++ [(s.data.toList.drop p).take (k - p)])) := (HP.out.last (by omega)).1 hpl
          clear hk
          go_wp2_with (at_builtin; go_must (refine hrow.push rfl (.tmp 48) (.tmp 53) rfl rfl _ ((s.data.toList.drop p).take (k - p)) ?hz rfl ?hl ?hb ?_))
          case hz => exact Lib.extract_eq s p k
          case hl => omega
          case hb => omega
          · intro v' w1 hrow' hbel'
            go_wp2
            go_roundw
            case rel => exact ⟨k + 1, k + 1, _, by go_num, by go_num, by omega, by omega, hrow', hbel.trans hbel', HN.out⟩
            case measure => simp [intOf]; omega
        · have HN : Hid (PtAt s (k + 1) (k + 1) ws) := (HP.out.last (by omega)).2 hpl
          clear hk
          go_wp2
          go_roundw
          case rel => exact ⟨k + 1, k + 1, ws, by go_num, by go_num, by omega, by omega, hrow, hbel, HN.out⟩
          case measure => simp [intOf]; omega
    · have HE : Hid (ws = Pl.wd [] s.data.toList) := HP.out.over (by omega)
      have HPR : Hid (Pl.prt s.data.toList = true) := Pl.prt_yes s (fun j hj => HP.out.prints j hj (by omega))
      obtain ⟨ad, cap, rfl, _⟩ := hrow.form
      by_cases h10 : 10 < ws.length
      · go_wp2
        go_ret2
        rw [ptL_no s (.inr (.inr (by rw [← HE.out]; exact h10)))]
        exact ⟨_, rfl, (SRow.none wr (Nat.le_refl _)).lower hsz, hbel.alloc hsz _⟩
      · go_wp2
        go_ret2
        rw [ptL_yes s (by omega) HPR.out (by rw [← HE.out]; omega), ← HE.out]
        exact ⟨_, rfl, hrow, hbel⟩
end Go.Proofs.YtnckjnkbpdfjpamDoor
