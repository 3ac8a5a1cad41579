/- Plain facts: the rounds of Tokens. -/
import Derived.Test.YtifbgdinjdgdfapTkP
namespace Go.Proofs.Ytifbgdinjdgdfap
namespace Tk
theorem loop_end {l : List UInt8} {f k : Nat} {last : Tok} {ts : List Tok} (h : l.length ≤ k) : loop l f k last ts = (ts, 0) := by
  cases f with
  | zero => rfl
  | succ f => unfold loop; rw [if_pos h]
theorem loop_blank {l : List UInt8} {f k : Nat} {last : Tok} {ts : List Tok} (h : k < l.length) (hb : l.getD k 0 = 32 ∨ l.getD k 0 = 9) : loop l (f + 1) k last ts = loop l f (k + 1) last ts := by
  conv => lhs; unfold loop
  rw [if_neg (by omega), if_pos hb]
theorem loop_hash {l : List UInt8} {f k : Nat} {last : Tok} {ts : List Tok} (h : k < l.length) (h1 : ¬ (l.getD k 0 = 32 ∨ l.getD k 0 = 9)) (hb : l.getD k 0 = 35) : loop l (f + 1) k last ts = loop l f (run (fun b => b != 10) l k) last ts := by
  conv => lhs; unfold loop
  rw [if_neg (by omega), if_neg h1, if_pos hb]
theorem loop_tok {l : List UInt8} {f k : Nat} {last : Tok} {ts : List Tok} (h : k < l.length) (h1 : ¬ (l.getD k 0 = 32 ∨ l.getD k 0 = 9)) (h2 : l.getD k 0 ≠ 35) : loop l (f + 1) k last ts = match one l k last with
      | none => ([], k + 1)
      | some (t, n) => if ts.length = 200 then ([], k + 1) else loop l f n t (ts ++ [t]) := by
  conv => lhs; unfold loop
  rw [if_neg (by omega), if_neg h1, if_neg h2]
  rfl
theorem loop_len (l : List UInt8) : ∀ f a last out, out.length ≤ 200 → (loop l f a last out).1.length ≤ 200 := by
  intro f
  induction f with
  | zero => exact fun a last out h => h
  | succ f ih =>
    intro a last out h
    unfold loop
    split
    · exact h
    split
    · exact ih _ _ _ h
    split
    · exact ih _ _ _ h
    split
    · simp
    · split
      · simp
      · exact ih _ _ _ (by simp; omega)
theorem tokens_len (l : List UInt8) : (tokens l).1.length ≤ 200 := by
  unfold tokens
  split
  · simp
  · exact loop_len _ _ _ _ _ (by simp)
end Tk
#print axioms Tk.tokens_len
end Go.Proofs.Ytifbgdinjdgdfap
