/- Where a piece may end, by the specification: a new memory, and the list. -/
import Derived.Test.YtibmagmdeacenacEnC
import Derived.Deep.RegionLaw
import Derived.Deep.AppendLies
namespace Go.Proofs.Ytibmagmdeacenac
section PartSpO
open Go.RowKit

/-- A row of n that lies in block q. -/
def bsl (n q : Nat) : Value := .slice (some ⟨q, 0, none⟩) n n
theorem own_keep {w w' : World} {base : Nat} {e : TypeId} {v : Value} {n : Nat} {xs : List Value} (h : w.ownsRow base e 1 v n xs) (hb : ∀ q, v.ownBlock = some q → w'.heap[q]? = w.heap[q]?) : w'.ownsRow base e 1 v n xs := by
  refine ⟨h.1, ?_⟩
  rcases h.2 with hn | ⟨g, cap, cur, rfl, h1, hg, rest⟩
  · exact .inl hn
  · refine .inr ⟨g, cap, cur, rfl, h1, ?_, rest⟩
    rw [hb g rfl]
    exact hg
theorem own_type {w : World} {base : Nat} {e : TypeId} {v : Value} {n : Nat} {xs : List Value} (h : w.ownsRow base e 1 v n xs) (q : Nat) (hq : v.ownBlock = some q) : ∃ cur, w.heap[q]? = some (.cells cur e (0, 0)) := by
  rcases h.2 with ⟨rfl, _⟩ | ⟨g, cap, cur, rfl, h1, hg, rest⟩
  · simp [Value.ownBlock] at hq
  · simp [Value.ownBlock] at hq
    subst hq
    exact ⟨cur, hg⟩
theorem type_ne {w : World} {q r : Nat} {a b : Array Value} {t u : TypeId} {x y : Nat × Nat} (h : w.heap[q]? = some (.cells a t x)) (k : w.heap[r]? = some (.cells b u y)) (htu : t ≠ u) : q ≠ r := by
  rintro rfl
  rw [h] at k
  simp at k
  exact htu k.2.1

section
variable {w wr w3 : World} {pv : Value} {s : ByteArray} {m : Nat} {dv ev : Value} {ds es : List Nat}
end
theorem getD_inj {l : List Nat} (h : l.Nodup) {i j : Nat} (hi : i < l.length) (hj : j < l.length) (hij : i ≠ j) : l.getD i 0 ≠ l.getD j 0 := by
  have e1 : l.getD i 0 = l[i] := by simp [hi]
  have e2 : l.getD j 0 = l[j] := by simp [hj]
  rw [e1, e2]
  have hp := List.pairwise_iff_getElem.1 h
  rcases Nat.lt_or_gt_of_ne hij with hl | hl
  · exact hp i j hi hj hl
  · exact fun e => hp j i hj hi hl e.symm
theorem row_form {w : World} {base : Nat} {e : TypeId} {v : Value} {n : Nat} {qs : List Nat} (h : w.ownsRow base e 1 v qs.length (qs.map (bsl n))) (h0 : 0 < qs.length) : ∃ g cap cur, v = .slice (some ⟨g, 0, none⟩) qs.length cap ∧ base ≤ g ∧ w.heap[g]? = some (.cells cur e (0, 0)) ∧ ∀ j, j < qs.length → cur[j]? = some (bsl n (qs.getD j 0)) := by
  rcases h.2 with ⟨_, hn⟩ | ⟨g, cap, cur, rfl, h1, hg, _, _, _, ht⟩
  · omega
  · refine ⟨g, cap, cur, rfl, h1, hg, fun j hj => ?_⟩
    have := congrArg (fun l => l[j]?) ht
    simp only [Nat.mul_one] at this
    rw [List.getElem?_take_of_lt hj] at this
    rw [← Array.getElem?_toList, this]
    simp [hj]
end PartSpO
section PartSpP
open Go.RowKit


end PartSpP
section PartSpQ
open Go.RowKit

theorem Ws.push {ops : Array Oper} {rest : List Oper} {o : Oper} {a : Act} {Q : Exit → Act → World → Prop} {B : Nat} {wr : World} {y : Value} {ws : List Nat} (h : Ws B wr y ws) (hgd : o.guard = none) (s x : Operand)
    (ho : o.op = .call { callee := .builtin .append, args := #[s, x], argTypes := #[24, 24] })
    (hs : a.eval s = y) (j n0 : Nat) (hx : a.eval x = .slice (some ⟨n0, 0, none⟩) 1 1) (hn0 : n0 = wr.heap.size) (hB : B ≤ wr.heap.size) (hlen : ws.length ≤ 1048577)
    (k : ∀ y' w2, Ws B w2 y' (ws ++ [j]) → Below B wr w2 → wpList Try.prog ops Q rest (a.put o.dst y') w2) :
    wpList Try.prog ops Q (o :: rest) a (wr.alloc (.cells #[.int .i64 (j : Int)] 3)) := by
  subst hn0
  obtain ⟨i0, hi, hz0, hz1, hz2⟩ := info_parts Try.infoI
  refine wpList_append_own_at _ hgd s x 24 ho B 3 i0 (.int .i64 0) 1 8 Try.underlying24 hi hz0 hz1 hz2 rfl (by decide) y ws.length (ws.map fun (n : Nat) => iv n) hs (World.ownsRow.alloc h _) ⟨wr.heap.size, 0, none⟩ 1 1 [iv j] hx rfl (cell_one_new _ _ _) ?_ ?_ ?_ ?_ ?_
  · intro u hu; simp at hu; subst hu; rfl
  · unfold maxLen; omega
  · omega
  · simp; omega
  · intro y' w2 h2 h3 _ h5
    refine k y' w2 (by unfold Ws; simpa using h2) ?_
    exact (((Below.refl wr.heap.size wr).alloc (Nat.le_refl _) _).mono hB).grown h3 (by simp; omega) (fun q hq => (World.ownsRow.lt h q hq).1)

end PartSpQ
end Go.Proofs.Ytibmagmdeacenac
