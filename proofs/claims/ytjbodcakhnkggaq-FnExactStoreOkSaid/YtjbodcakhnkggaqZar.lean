/- The specification's reader of a pattern: alternatives; and what ReadPattern of the specification answers, at every text. What ReadPattern of the specification answers, at every text. -/
import Derived.Test.YtjbodcakhnkggaqZaq
import Derived.Laws.ResultCell
import Derived.Laws.Rows
namespace Go.Proofs.Ytjbodcakhnkggaq
section PartRdJ
open Go.RowKit

theorem alts_end (l : List UInt8) (f a : Nat) (ps : List Pp.Pc) (k : Nat) (h : ¬ l[a]? = some 124) : Pp.alts l (f + 1) a ps k = some (a, ps, k) := by
  rw [Pp.alts, if_neg h]
theorem alts_go (l : List UInt8) (f a : Nat) (ps : List Pp.Pc) (k : Nat) (h : l[a]? = some 124) : Pp.alts l (f + 1) a ps k = match Pp.row l f (a + 1) ps with
    | none => none
    | some (e, o, j) => (Pp.put o ⟨6, [], [k, j]⟩).bind fun r => Pp.alts l f e r.1 r.2 := by
  rw [Pp.alts, if_pos h]
  cases Pp.row l f (a + 1) ps with
  | none => rfl
  | some r =>
    obtain ⟨e, o, j⟩ := r
    show (match Pp.put o ⟨6, [], [k, j]⟩ with | none => none | some (o2, k2) => _) = (Pp.put o ⟨6, [], [k, j]⟩).bind fun r => Pp.alts l f e r.1 r.2
    cases Pp.put o ⟨6, [], [k, j]⟩ <;> rfl

end PartRdJ
section PartRdK
open Go.RowKit

set_option maxRecDepth 100000 in
set_option maxHeartbeats 400000 in
theorem in_text (n : Nat) (w : World) : Calls Try.prog 28 #[.int .i64 (n : Int), .int .i64 1, .int .i64 24] w fun e w' => e = .returned (.bool (decide (1 ≤ n ∧ n ≤ 24))) ∧ w' = w := by
  by_cases h0 : 1 ≤ n
  · have d1 : decide ((1 : Int) ≤ (n : Int)) = true := decide_eq_true (by omega)
    have e : decide (1 ≤ n ∧ n ≤ 24) = decide ((n : Int) ≤ 24) := by
      by_cases h : n ≤ 24
      · rw [decide_eq_true (show (n : Int) ≤ 24 by omega), decide_eq_true ⟨h0, h⟩]
      · rw [decide_eq_false (show ¬ (n : Int) ≤ 24 by omega), decide_eq_false (by omega)]
    rw [e]
    go_enter Try.func28, Try.ntmps28
    go_wp2
    go_ret
    exact ⟨rfl, rfl⟩
  · have d1 : decide ((1 : Int) ≤ (n : Int)) = false := decide_eq_false (by omega)
    rw [decide_eq_false (by omega)]
    go_enter Try.func28, Try.ntmps28
    go_wp2
    go_ret
    exact ⟨rfl, rfl⟩

theorem alloc2_1 (w : World) (A B : Obj) : ((w.alloc A).alloc B).heap[w.heap.size + 1]? = some B := by
  show ((w.heap.push A).push B)[w.heap.size + 1]? = some B
  rw [Array.getElem?_push]
  simp
theorem alloc2_0 (w : World) (A B : Obj) : ((w.alloc A).alloc B).heap[w.heap.size]? = some A := by
  show ((w.heap.push A).push B)[w.heap.size]? = some A
  rw [Array.getElem?_push, if_neg (by simp), Array.getElem?_push]
  simp
theorem FB.below {g B C : Nat} {w w' : World} (h : FB g B w w') (hC : C ≤ B) (hg : C ≤ g) : Below C w w' := ⟨h.2.2.1, h.2.2.2.1, h.2.2.2.2, h.1, fun k hk => h.2.1 k (by omega) (by omega)⟩

end PartRdK
end Go.Proofs.Ytjbodcakhnkggaq
