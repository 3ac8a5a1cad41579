/- What is dumped, no more lines than may stay: plain facts. -/
import Derived.Test.YtnlbbomejpopnaaDmP
import Derived.Test.YtnlbbomejpopnaaOwA
namespace Go.Proofs.Ytnlbbomejpopnaa
namespace St
def bstep (name : ByteArray) (acc : List UInt8) (x : Cl) : List UInt8 := if (x.name.toList == name.toList) = true ∧ acc.length < 3000 then acc ++ line x else acc
/-- The lines of the cells of a name, none more once there are 3000 bytes. -/
def bl (name : ByteArray) : List UInt8 → List Cl → List UInt8
  | acc, [] => acc
  | acc, x :: r => bl name (bstep name acc x) r
theorem bl_snoc (name : ByteArray) (cs : List Cl) (x : Cl) : ∀ acc, bl name acc (cs ++ [x]) = bstep name (bl name acc cs) x := by
  induction cs with
  | nil => intro acc; rfl
  | cons y r ih => intro acc; exact ih _
theorem bl_full (name : ByteArray) (cs : List Cl) : ∀ acc, 3000 ≤ acc.length → bl name acc cs = acc := by
  induction cs with
  | nil => intro acc _; rfl
  | cons y r ih =>
    intro acc h
    show bl name (bstep name acc y) r = acc
    have : bstep name acc y = acc := by unfold bstep; rw [if_neg (fun e => by omega)]
    rw [this]; exact ih acc h
theorem bl_pre (name : ByteArray) (cs : List Cl) : ∀ acc, ∃ r, acc ++ lines name cs = bl name acc cs ++ r ∧ (r = [] ∨ 3000 ≤ (bl name acc cs).length) := by
  induction cs with
  | nil => intro acc; exact ⟨[], by simp [lines, bl], .inl rfl⟩
  | cons y t ih =>
    intro acc
    show ∃ r, acc ++ ((if y.name.toList == name.toList then line y else []) ++ lines name t) = bl name (bstep name acc y) t ++ r ∧ (r = [] ∨ 3000 ≤ (bl name (bstep name acc y) t).length)
    cases hn : (y.name.toList == name.toList) with
    | false =>
      have : bstep name acc y = acc := by unfold bstep; rw [if_neg (fun e => by rw [hn] at e; cases e.1)]
      rw [this]
      simpa using ih acc
    | true =>
      by_cases hl : acc.length < 3000
      · have : bstep name acc y = acc ++ line y := by unfold bstep; rw [if_pos ⟨hn, hl⟩]
        rw [this]
        simp only [if_true]
        rw [← List.append_assoc]
        exact ih (acc ++ line y)
      · have : bstep name acc y = acc := by unfold bstep; rw [if_neg (fun e => hl e.2)]
        rw [this, bl_full name t acc (by omega)]
        exact ⟨_, rfl, .inr (by omega)⟩
theorem bl_len (name : ByteArray) (cs : List Cl) : (bl name [] cs).length ≤ (lines name cs).length := by
  obtain ⟨r, h, -⟩ := bl_pre name cs []
  rw [List.nil_append] at h
  rw [h, List.length_append]; omega
theorem dumped_bl (o name : ByteArray) (cs : List Cl) : dumped o name cs = outW o (ba (bl name [] cs)) := by
  obtain ⟨r, h, h2⟩ := bl_pre name cs []
  rw [List.nil_append] at h
  have hsz : (ba (bl name [] cs)).size = (bl name [] cs).length := by show (bl name [] cs).toArray.size = _; simp
  unfold dumped outW
  rw [hsz]
  by_cases hb : bl name [] cs = []
  · have hr : r = [] := by
      rcases h2 with h2 | h2
      · exact h2
      · rw [hb] at h2; simp at h2
    rw [if_pos (by rw [h, hb, hr]; rfl), if_pos (by rw [hb]; rfl)]
  · rw [if_neg (by rw [h]; simp [hb]), if_neg (by simpa using hb)]
    apply ba_ext
    rw [cut3_take, cut3_take, app_list, app_list]
    show List.take 3000 (o.data.toList ++ lines name cs) = List.take 3000 (o.data.toList ++ bl name [] cs)
    rw [h, ← List.append_assoc]
    rcases h2 with rfl | h2
    · rw [List.append_nil]
    · rw [List.take_append_of_le_length (by rw [List.length_append]; omega)]
end St
#print axioms St.dumped_bl
end Go.Proofs.Ytnlbbomejpopnaa
