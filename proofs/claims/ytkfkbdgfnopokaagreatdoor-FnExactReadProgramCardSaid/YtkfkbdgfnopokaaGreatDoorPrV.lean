/- Plain facts: rounds over the rules of a program. -/
import Derived.Test.YtkfkbdgfnopokaaGreatDoorZas
namespace Go.Proofs.YtkfkbdgfnopokaaGreatDoor
namespace Pr
variable {ts : List Tk.Tok} {m : Nat} {st : PS}
theorem ends_bad (h : st.bad = true) : st.ends ts = st := by
 cases st
 simp at h
 simp [PS.ends, PS.endsN, h]
theorem block_bad {T : Rf} (h : st.is ts 5 [123] = false) : (block ts T st).1.bad = true := by
 have e : st.want ts [123] = st.fail := by rw [PS.want, if_neg (by simp [h])]
 unfold block
 rw [e, ends_bad rfl, blockL_end _ _ (.inl rfl)]
 unfold blockEnd
 rw [want_bad (st := st.fail) rfl]
 split
 ·exact put_badT rfl
 ·exact put_badT rfl
theorem block_go {T : Rf} (hT : Fn ts m T) (h : (block ts T st).1.bad = false) : st.a < (block ts T st).1.a := by
 cases hi : st.is ts 5 [123] with
 | true => exact block_prog hT hi
 | false => rw [block_bad hi] at h; cases h
theorem rulesL_end (f : Nat) (rs : List Pg.Rl) (h : st.over ts = true) : rulesL ts f st rs = (st, rs) := by
 cases f with
 | zero => rfl
 | succ f => rw [rulesL, if_pos h]
theorem rulesL_go (f : Nat) (rs : List Pg.Rl) (h : ¬ st.over ts = true) : rulesL ts (f + 1) st rs = rulesL ts f ((block ts (T ts 30) (ruleHead ts st).1).1.ends ts) (rs ++ [⟨(ruleHead ts st).2.1, (ruleHead ts st).2.2, (block ts (T ts 30) (ruleHead ts st).1).2⟩]) := by
 rw [rulesL, if_neg h]
theorem head_lm (ht : Tsm ts) (h : Lm ts 0 st) (hlt : st.a < ts.length) : Lm ts 154 (ruleHead ts st).1 ∧ st.a ≤ (ruleHead ts st).1.a := by
 unfold ruleHead
 split
 ·exact ⟨(h.go hlt).up (by omega), by simp [PS.go]⟩
 split
 ·exact ⟨(h.go hlt).up (by omega), by simp [PS.go]⟩
 split
 ·exact ⟨h.up (by omega), Nat.le_refl _⟩
 ·exact ⟨(h.fn (fnSE ht 30).2).up (by omega), (fnSE ht 30).2.mono st⟩
theorem round_lm (ht : Tsm ts) (hl : ts.length ≤ 200) (h : Lm ts 0 st) (hlt : st.a < ts.length) : Lm ts 280 ((block ts (T ts 30) (ruleHead ts st).1).1.ends ts) ∧ (((block ts (T ts 30) (ruleHead ts st).1).1.ends ts).bad = false → st.a < ((block ts (T ts 30) (ruleHead ts st).1).1.ends ts).a) := by
 obtain ⟨h1, h2⟩ := head_lm ht h hlt
 have hT := fnT ht hl 30
 have h3 := (block_lm (k := 185) hT (by omega) hl (h1.up (by omega))).1
 refine ⟨h3.ends.up (by omega), fun hb => ?_⟩
 have hb2 : (block ts (T ts 30) (ruleHead ts st).1).1.bad = false := hb
 exact Nat.lt_of_lt_of_le (Nat.lt_of_le_of_lt h2 (block_go hT hb2)) ends_mono
end Pr
end Go.Proofs.YtkfkbdgfnopokaaGreatDoor
