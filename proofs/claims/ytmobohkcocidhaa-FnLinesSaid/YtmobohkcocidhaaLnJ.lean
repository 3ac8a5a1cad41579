/- Lines put together again, each with its end: plain facts. -/
import Derived.Test.YtmobohkcocidhaaLnP
namespace Go.Proofs.Ytmobohkcocidhaa
namespace Ln
/-- Lines put together, each with its end. -/
def jn : List (List UInt8) → List UInt8
  | [] => []
  | x :: xs => x ++ 10 :: jn xs
theorem jn_snoc (xs : List (List UInt8)) (x : List UInt8) : jn (xs ++ [x]) = jn xs ++ (x ++ [10]) := by
  induction xs with
  | nil => simp [jn]
  | cons a xs ih => simp [jn, ih]
theorem jn_app (xs ys : List (List UInt8)) : jn (xs ++ ys) = jn xs ++ jn ys := by
  induction xs with
  | nil => simp [jn]
  | cons a xs ih => simp [jn, ih]
theorem jn_take_len (xs : List (List UInt8)) (k : Nat) : (jn (xs.take k)).length ≤ (jn xs).length := by
  have := jn_app (xs.take k) (xs.drop k)
  rw [List.take_append_drop] at this
  rw [this, List.length_append]
  omega
theorem drop_head : ∀ (l : List UInt8) (c : UInt8) (r : List UInt8), l.dropWhile (fun x => x != 10) = c :: r → c = 10
  | [], _, _, h => by simp at h
  | b :: l, c, r, h => by
    by_cases hb : b = 10
    · subst hb
      simp at h
      exact h.1.symm
    · rw [List.dropWhile_cons_of_pos (by simpa using hb)] at h
      exact drop_head l c r h
theorem jn_go : ∀ (n : Nat) (l : List UInt8), (∃ r, l = jn (go n l) ++ r) ∨ jn (go n l) = l ++ [10]
  | 0, l => .inl ⟨l, by simp [go, jn]⟩
  | n + 1, [] => .inl ⟨[], by simp [go, jn]⟩
  | n + 1, b :: l => by
    have hs : (b :: l).takeWhile (fun x => x != 10) ++ (b :: l).dropWhile (fun x => x != 10) = b :: l := List.takeWhile_append_dropWhile
    unfold go
    generalize (b :: l).takeWhile (fun x => x != 10) = tw at *
    cases hd : (b :: l).dropWhile (fun x => x != 10) with
    | nil =>
      rw [hd] at hs
      refine .inr ?_
      rw [← hs]
      simp [go_nil, jn]
    | cons c r =>
      have hc := drop_head _ _ _ hd
      subst hc
      rw [hd] at hs
      rw [← hs]
      rcases jn_go n r with ⟨r', hr⟩ | hr
      · refine .inl ⟨r', ?_⟩
        simp only [List.drop_succ_cons, List.drop_zero, jn]
        rw [List.append_assoc, List.cons_append, ← hr]
      · refine .inr ?_
        simp only [List.drop_succ_cons, List.drop_zero, jn]
        rw [hr]
        simp
theorem jn_len (l : List UInt8) : (jn (all l)).length ≤ l.length + 1 := by
  rcases jn_go 20 l with ⟨r, hr⟩ | hr
  · have : l.length = (jn (all l) ++ r).length := congrArg List.length hr
    rw [List.length_append] at this
    omega
  · unfold all
    rw [hr]
    simp
end Ln
end Go.Proofs.Ytmobohkcocidhaa
