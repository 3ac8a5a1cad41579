/- Where a piece may end, by the specification: 'at', one kind of piece after the other. Where a piece may end, by the specification: what 'at' does behind a call. -/
import Derived.Test.YtlnmbahakdmkgaaZan
namespace Go.Proofs.Ytlnmbahakdmkgaa
section PartSpJ
open Go.RowKit
namespace En
theorem Reach.first {ps : List Pi} {s : ByteArray} {k i v : Nat} (r : Reach ps s k i v) : v = i ∨ ∃ j, Ends ps s k i j ∧ Reach ps s k j v := by
  induction r with
  | here => exact .inl rfl
  | step _ h2 ih =>
    rcases ih with rfl | ⟨j, h, r2⟩
    · exact .inr ⟨_, h2, .here⟩
    · exact .inr ⟨j, h, .step r2 h2⟩
theorem star2 {ps : List Pi} {s : ByteArray} {k i e : Nat} (hop : (ps.getD k Pi.no).op = 7) : Ends ps s k i e ↔ e = i ∨ ∃ v, Reach ps s (kid (ps.getD k Pi.no) 0) i v ∧ Ends ps s (kid (ps.getD k Pi.no) 0) v e := by
  rw [star_iff hop]
  constructor
  · intro r
    cases r with
    | here => exact .inl rfl
    | step r h => exact .inr ⟨_, r, h⟩
  · rintro (rfl | ⟨v, r, h⟩)
    · exact .here
    · exact .step r h
theorem plus2 {ps : List Pi} {s : ByteArray} {k i e : Nat} (hop : (ps.getD k Pi.no).op = 8) : Ends ps s k i e ↔ ∃ v, Reach ps s (kid (ps.getD k Pi.no) 0) i v ∧ Ends ps s (kid (ps.getD k Pi.no) 0) v e := by
  rw [plus_iff hop]
  constructor
  · rintro ⟨j, h, r⟩
    cases r with
    | here => exact ⟨i, .here, h⟩
    | step r h2 => exact ⟨_, Reach.head h r, h2⟩
  · rintro ⟨v, r, h⟩
    rcases r.first with rfl | ⟨j, h1, r2⟩
    · exact ⟨e, h, .here⟩
    · exact ⟨j, h1, .step r2 h⟩
theorem opt2 {ps : List Pi} {s : ByteArray} {k i e : Nat} (hop : (ps.getD k Pi.no).op = 9) : Ends ps s k i e ↔ e = i ∨ Ends ps s (kid (ps.getD k Pi.no) 0) i e := by
  constructor
  · intro h
    cases h with
    | opt0 => exact .inl rfl
    | opt1 _ h => exact .inr h
    | one _ ho => omega
    | begin ho => omega
    | fin ho => omega
    | none ho => omega
    | cat ho => omega
    | altl ho => omega
    | altr ho => omega
    | star0 ho => omega
    | star1 ho => omega
    | plus0 ho => omega
    | plus1 ho => omega
  · rintro (rfl | h)
    · exact .opt0 hop
    · exact .opt1 hop h
theorem alt2 {ps : List Pi} {s : ByteArray} {k i e : Nat} (hop : (ps.getD k Pi.no).op = 6) : Ends ps s k i e ↔ Ends ps s (kid (ps.getD k Pi.no) 0) i e ∨ Ends ps s (kid (ps.getD k Pi.no) 1) i e := by
  constructor
  · intro h
    cases h with
    | altl _ h => exact .inl h
    | altr _ h => exact .inr h
    | one _ ho => omega
    | begin ho => omega
    | fin ho => omega
    | none ho => omega
    | cat ho => omega
    | opt0 ho => omega
    | opt1 ho => omega
    | star0 ho => omega
    | star1 ho => omega
    | plus0 ho => omega
    | plus1 ho => omega
  · rintro (h | h)
    · exact .altl hop h
    · exact .altr hop h
theorem cat2 {ps : List Pi} {s : ByteArray} {k i e : Nat} (hop : (ps.getD k Pi.no).op = 5) : Ends ps s k i e ↔ ∃ j, Ends ps s (kid (ps.getD k Pi.no) 0) i j ∧ Ends ps s (kid (ps.getD k Pi.no) 1) j e := by
  constructor
  · intro h
    cases h with
    | cat _ h1 h2 => exact ⟨_, h1, h2⟩
    | one _ ho => omega
    | begin ho => omega
    | fin ho => omega
    | none ho => omega
    | altl ho => omega
    | altr ho => omega
    | opt0 ho => omega
    | opt1 ho => omega
    | star0 ho => omega
    | star1 ho => omega
    | plus0 ho => omega
    | plus1 ho => omega
  · rintro ⟨j, h1, h2⟩
    exact .cat hop h1 h2
end En
theorem Pk.piece_kids {k : Nat} {p : Pi} (h : Pk.piece k p = true) : p.kids.length = Pk.kw p.op ∧ (∀ j, j < p.kids.length → ∃ a : Nat, p.kids.getD j 0 = (a : Int) ∧ a < k ∧ En.kid p j = a) ∧ 1 ≤ p.op ∧ p.op ≤ 12 ∧ p.text.size ≤ 24 := by
  unfold Pk.piece at h
  simp only [Bool.and_eq_true, decide_eq_true_eq] at h
  obtain ⟨h1, h2, h3, h4⟩ := h
  refine ⟨h3, fun j hj => ?_, h1.1, h1.2, ?_⟩
  · unfold Pk.ahead at h2
    rw [List.all_eq_true] at h2
    have := h2 p.kids[j] (List.getElem_mem hj)
    simp only [decide_eq_true_eq] at this
    have e : p.kids.getD j 0 = p.kids[j] := by simp [hj]
    refine ⟨p.kids[j].toNat, by rw [e]; omega, by omega, ?_⟩
    unfold En.kid
    rw [e]
  · unfold Pk.tx at h4
    split at h4
    · simp at h4; omega
    · split at h4
      · simp at h4; omega
      · simp at h4; simp [h4]
end PartSpJ
section PartSpK
open Go.RowKit

/-- The cells that 'at' writes at last. -/
theorem tail_cells {c : Mm} {X : Nat → Prop} {w : World} (L : Lie c) (h : Memo c X w) (k i : Nat) (hk : k < c.K) (hi : i < c.s.size + 1) :
    w.cell? ⟨c.m, 2, none⟩ = some (.slice (some ⟨c.d, 0, none⟩) c.K c.cd) ∧ w.cell? ⟨c.d, k, none⟩ = some (.slice (some ⟨c.D k, 0, none⟩) (c.s.size + 1) (c.s.size + 1)) ∧ w.frozen? ⟨c.D k, i, none⟩ = false ∧ (∃ b : Bool, w.cell? ⟨c.D k, i, none⟩ = some (.bool b)) ∧
    (w.setCell ⟨c.D k, i, none⟩ (.bool true)).cell? ⟨c.m, 3, none⟩ = some (.slice (some ⟨c.e, 0, none⟩) c.K c.ce) ∧ (w.setCell ⟨c.D k, i, none⟩ (.bool true)).cell? ⟨c.e, k, none⟩ = some (.slice (some ⟨c.E k, 0, none⟩) (c.s.size + 1) (c.s.size + 1)) ∧
    (w.setCell ⟨c.D k, i, none⟩ (.bool true)).frozen? ⟨c.E k, i, none⟩ = false ∧ ∃ u, (w.setCell ⟨c.D k, i, none⟩ (.bool true)).cell? ⟨c.E k, i, none⟩ = some u := by
  obtain ⟨-, -, h2, h3, h4, h5, h6, h7, b, u, h8, h9, -⟩ := h.cells k i hk hi
  have hDk := L.hD k hk
  have hDE := L.hDE k k hk hk
  have ho : ∀ q, q ≠ c.D k → (w.setCell ⟨c.D k, i, none⟩ (.bool true)).heap[q]? = w.heap[q]? := fun q hq => Below.heap_setCell _ _ _ _ (by show q ≠ c.D k; exact hq)
  refine ⟨h2, h4, h6, ⟨b, h8⟩, (cell_other (ho _ (fun e => hDk.2.2.1 e.symm))).trans h3, (cell_other (ho _ (fun e => hDk.2.2.2.2 e.symm))).trans h5, ?_, u, (cell_other (ho _ (fun e => hDE e.symm))).trans h9⟩
  rw [← h7]
  simp [World.frozen?, ho _ (fun e => hDE e.symm)]
/-- What 'at' answers at last. -/
theorem tail_post {c : Mm} {X : Nat → Prop} {w w2 : World} (L : Lie c) (h : Memo c X w2) (k i q cc : Nat) (hk : k < c.K) (hi : i < c.s.size + 1) (hq : c.M1 ≤ q) (hx : ¬ X q) (hb : BAt w2 q (c.s.size + 1) (En.Ends c.ps c.s k i)) (hf : FM c.M0 c.M1 w w2) :
    AtPost c X (En.Ends c.ps c.s k i) w (.returned (.slice (some ⟨q, 0, none⟩) (c.s.size + 1) cc)) ((w2.setCell ⟨c.D k, i, none⟩ (.bool true)).setCell ⟨c.E k, i, none⟩ (.slice (some ⟨q, 0, none⟩) (c.s.size + 1) cc)) := by
  have hDk := L.hD k hk
  have hEk := L.hE k hk
  refine ⟨q, cc, rfl, hq, hx, hb.keep ?_, h.learn L k i q cc hk hi hq hx hb, (hf.set _ _ _ hDk.1 hDk.2.1).set _ _ _ hEk.1 hEk.2.1⟩
  rw [Below.heap_setCell _ _ _ _ (by show q ≠ c.E k; omega), Below.heap_setCell _ _ _ _ (by show q ≠ c.D k; omega)]
/-- One write into a block of one's own. -/
theorem Memo.own {c : Mm} {X : Nat → Prop} {w : World} (L : Lie c) (hX : ∀ b, X b → c.M1 ≤ b) (q o : Nat) (u : Value) (hq : c.M1 ≤ q) (h : Memo c (fun b => X b ∨ b = q) w) : Memo c X (w.setCell ⟨q, o, none⟩ u) := by
  refine (h.frame (w' := w.setCell ⟨q, o, none⟩ u) L (fun b hb => ?_) ⟨rfl, rfl, rfl⟩ (by simp [World.setCell]) (fun b _ hn => Below.heap_setCell _ _ _ _ (by show b ≠ q; exact fun e => hn (.inr e)))).more (fun b hb => .inl (.inl hb))
  rcases hb with hb | rfl
  · exact hX b hb
  · exact hq
/-- Block q holds these Booleans first, and may be written. -/
def BFst (w : World) (q n : Nat) (f : Nat → Bool) : Prop := ∃ arr : Array Value, w.heap[q]? = some (.cells arr 4 (0, 0)) ∧ n ≤ arr.size ∧ ∀ j, j < n → arr[j]? = some (.bool (f j))
theorem BFst.cell {w : World} {q n : Nat} {f : Nat → Bool} (h : BFst w q n f) (j : Nat) (hj : j < n) : w.cell? ⟨q, j, none⟩ = some (.bool (f j)) ∧ w.frozen? ⟨q, j, none⟩ = false := by
  obtain ⟨arr, ha, hs, hf⟩ := h
  exact ⟨by rw [blk_cell ha]; exact hf j hj, blk_free ha j⟩
theorem BFst.set {w : World} {q n : Nat} {f : Nat → Bool} (h : BFst w q n f) (i : Nat) (b : Bool) (P : Nat → Prop) (hP : ∀ j, j < n → ((if j = i then b else f j) = true ↔ P j)) : BAt (w.setCell ⟨q, i, none⟩ (.bool b)) q n P := by
  obtain ⟨arr, ha, hs, hf⟩ := h
  have hh := blk_set ha i (.bool b)
  refine ⟨blk_lt hh, fun j hj => ⟨if j = i then b else f j, ?_, hP j hj⟩⟩
  rw [blk_cell hh, Array.getElem?_setIfInBounds]
  by_cases hji : i = j
  · subst hji
    rw [if_pos rfl, if_pos (by omega), if_pos rfl]
  · rw [if_neg hji, hf j hj, if_neg (fun e => hji e.symm)]
theorem BBlk.fst {w : World} {q n : Nat} {f : Nat → Bool} (h : BBlk w q n f) : BFst w q n f := by
  obtain ⟨arr, ha, hs, hf⟩ := h
  exact ⟨arr, ha, by omega, hf⟩
/-- append of a row of Booleans onto an empty one. -/
theorem opt_push {ops : Array Oper} {rest : List Oper} {o : Oper} {a : Act} {w : World} {Q : Exit → Act → World → Prop} (hgd : o.guard = none) (s x : Operand)
    (ho : o.op = .call { callee := .builtin .append, args := #[s, x], argTypes := #[51, 51] })
    (g q n cc : Nat) (hs : a.eval s = .slice (some ⟨g, 0, none⟩) 0 0) (hx : a.eval x = .slice (some ⟨q, 0, none⟩) n cc) (f : Nat → Bool) (hf : ∀ j, j < n → w.cell? ⟨q, j, none⟩ = some (.bool (f j))) (h0 : 0 < n) (hn : n ≤ 1048577)
    (k : ∀ w2 cap, Below w.heap.size w w2 → BFst w2 w.heap.size n f → wpList Try.prog ops Q rest (a.put o.dst (.slice (some ⟨w.heap.size, 0, none⟩) n cap)) w2) :
    wpList Try.prog ops Q (o :: rest) a w := by
  obtain ⟨i0, hi, hz0, hz1, hz2⟩ := info_parts Try.infoB
  have hfit : Builtin.nextslicecap (0 + n) 0 * i0.bytes ≤ 281474976710656 := by
    exact growslice_fits (by omega) (by rw [hz2]; omega)
  have hr := run_append_grow (P := Try.prog) w 51 o.type 4 i0 (.bool false) Try.underlying51 hi hz0 ⟨g, 0, none⟩ 0 0 [] (by simp) (by simp) ⟨q, 0, none⟩ n cc ((List.range n).map fun j => .bool (f j)) (by simp [hz1]) (fun j v hj => ?_) (by omega) (by omega) hfit
  · obtain ⟨W, hW⟩ : ∃ W, W = w.drew.alloc (.cells (([] : List Value).toArray ++ ((List.range n).map fun j => Value.bool (f j)).toArray ++ Builtin.zeroCells (Value.bool false).cells (grownCap w (0 + n) 0 4 - (0 + n))) 4) := ⟨_, rfl⟩
    rw [← hW, Nat.zero_add] at hr
    refine wpList_plain hgd fun K hK => ?_
    unfold Oper.wp execOp
    simp only [ho, resolve, invoke, builtin, Sem.run_bind, Sem.run_pure, Result.andThen_ok, List.map_toArray, List.map_cons, List.map_nil, hs, hx, hr]
    refine hK _ _ (k W _ ?_ ?_)
    · rw [hW]
      exact (Below.refl _ _).drew.alloc (by simp) _
    · rw [hW]
      refine ⟨_, heap_alloc_new w.drew _, by simp, fun j hj => ?_⟩
      rw [Array.getElem?_append_left (by simpa using hj)]
      simp [hj]
  · rw [List.getElem?_map] at hj
    by_cases h1 : j < n
    · rw [List.getElem?_range h1] at hj
      simp at hj
      subst hj
      have e : (⟨q, 0, none⟩ : Addr).add j = ⟨q, j, none⟩ := by cases j <;> simp [Addr.add]
      rw [e]
      exact hf j h1
    · simp [h1] at hj
theorem kids2 {ks : List Int} (h : ks.length = 2) : ks = [ks.getD 0 0, ks.getD 1 0] := by
  match ks, h with
  | [a, b], _ => rfl
theorem kids1 {ks : List Int} (h : ks.length = 1) : ks = [ks.getD 0 0] := by
  match ks, h with
  | [a], _ => rfl
end PartSpK
end Go.Proofs.Ytlnmbahakdmkgaa
