/- Where a piece may end, by the specification: every piece. -/
import Derived.Test.YtibmagmdeacenabEnB
namespace Go.Proofs.Ytibmagmdeacenab
section PartSpJ
open Go.RowKit
namespace En
theorem Reach.first {ps : List Pi} {s : ByteArray} {k i v : Nat} (r : Reach ps s k i v) : v = i ∨ ∃ j, Ends ps s k i j ∧ Reach ps s k j v := by
  induction r with
  | here => exact .inl rfl
  | step _ h2 ih =>
    rcases ih with rfl | ⟨j, h, r2⟩
    · exact .inr ⟨_, h2, .here⟩
    · exact .inr ⟨j, h, .step r2 h2⟩
theorem star2 {ps : List Pi} {s : ByteArray} {k i e : Nat} (hop : (ps.getD k Pi.no).op = 7) : Ends ps s k i e ↔ e = i ∨ ∃ v, Reach ps s (kid (ps.getD k Pi.no) 0) i v ∧ Ends ps s (kid (ps.getD k Pi.no) 0) v e := by
  rw [star_iff hop]
  constructor
  · intro r
    cases r with
    | here => exact .inl rfl
    | step r h => exact .inr ⟨_, r, h⟩
  · rintro (rfl | ⟨v, r, h⟩)
    · exact .here
    · exact .step r h
theorem plus2 {ps : List Pi} {s : ByteArray} {k i e : Nat} (hop : (ps.getD k Pi.no).op = 8) : Ends ps s k i e ↔ ∃ v, Reach ps s (kid (ps.getD k Pi.no) 0) i v ∧ Ends ps s (kid (ps.getD k Pi.no) 0) v e := by
  rw [plus_iff hop]
  constructor
  · rintro ⟨j, h, r⟩
    cases r with
    | here => exact ⟨i, .here, h⟩
    | step r h2 => exact ⟨_, Reach.head h r, h2⟩
  · rintro ⟨v, r, h⟩
    rcases r.first with rfl | ⟨j, h1, r2⟩
    · exact ⟨e, h, .here⟩
    · exact ⟨j, h1, .step r2 h⟩
theorem opt2 {ps : List Pi} {s : ByteArray} {k i e : Nat} (hop : (ps.getD k Pi.no).op = 9) : Ends ps s k i e ↔ e = i ∨ Ends ps s (kid (ps.getD k Pi.no) 0) i e := by
  constructor
  · intro h
    cases h with
    | opt0 => exact .inl rfl
    | opt1 _ h => exact .inr h
    | one _ ho => omega
    | begin ho => omega
    | fin ho => omega
    | none ho => omega
    | cat ho => omega
    | altl ho => omega
    | altr ho => omega
    | star0 ho => omega
    | star1 ho => omega
    | plus0 ho => omega
    | plus1 ho => omega
  · rintro (rfl | h)
    · exact .opt0 hop
    · exact .opt1 hop h
theorem alt2 {ps : List Pi} {s : ByteArray} {k i e : Nat} (hop : (ps.getD k Pi.no).op = 6) : Ends ps s k i e ↔ Ends ps s (kid (ps.getD k Pi.no) 0) i e ∨ Ends ps s (kid (ps.getD k Pi.no) 1) i e := by
  constructor
  · intro h
    cases h with
    | altl _ h => exact .inl h
    | altr _ h => exact .inr h
    | one _ ho => omega
    | begin ho => omega
    | fin ho => omega
    | none ho => omega
    | cat ho => omega
    | opt0 ho => omega
    | opt1 ho => omega
    | star0 ho => omega
    | star1 ho => omega
    | plus0 ho => omega
    | plus1 ho => omega
  · rintro (h | h)
    · exact .altl hop h
    · exact .altr hop h
theorem cat2 {ps : List Pi} {s : ByteArray} {k i e : Nat} (hop : (ps.getD k Pi.no).op = 5) : Ends ps s k i e ↔ ∃ j, Ends ps s (kid (ps.getD k Pi.no) 0) i j ∧ Ends ps s (kid (ps.getD k Pi.no) 1) j e := by
  constructor
  · intro h
    cases h with
    | cat _ h1 h2 => exact ⟨_, h1, h2⟩
    | one _ ho => omega
    | begin ho => omega
    | fin ho => omega
    | none ho => omega
    | altl ho => omega
    | altr ho => omega
    | opt0 ho => omega
    | opt1 ho => omega
    | star0 ho => omega
    | star1 ho => omega
    | plus0 ho => omega
    | plus1 ho => omega
  · rintro ⟨j, h1, h2⟩
    exact .cat hop h1 h2
end En
theorem Pk.piece_kids {k : Nat} {p : Pi} (h : Pk.piece k p = true) : p.kids.length = Pk.kw p.op ∧ (∀ j, j < p.kids.length → ∃ a : Nat, p.kids.getD j 0 = (a : Int) ∧ a < k ∧ En.kid p j = a) ∧ 1 ≤ p.op ∧ p.op ≤ 12 ∧ p.text.size ≤ 24 := by
  unfold Pk.piece at h
  simp only [Bool.and_eq_true, decide_eq_true_eq] at h
  obtain ⟨h1, h2, h3, h4⟩ := h
  refine ⟨h3, fun j hj => ?_, h1.1, h1.2, ?_⟩
  · unfold Pk.ahead at h2
    rw [List.all_eq_true] at h2
    have := h2 p.kids[j] (List.getElem_mem hj)
    simp only [decide_eq_true_eq] at this
    have e : p.kids.getD j 0 = p.kids[j] := by simp [hj]
    refine ⟨p.kids[j].toNat, by rw [e]; omega, by omega, ?_⟩
    unfold En.kid
    rw [e]
  · unfold Pk.tx at h4
    split at h4
    · simp at h4; omega
    · split at h4
      · simp at h4; omega
      · simp at h4; simp [h4]
end PartSpJ
section PartSpK
open Go.RowKit

/-- The cells that 'at' writes at last. -/
theorem tail_cells {c : Mm} {X : Nat → Prop} {w : World} (L : Lie c) (h : Memo c X w) (k i : Nat) (hk : k < c.K) (hi : i < c.s.size + 1) :
    w.cell? ⟨c.m, 2, none⟩ = some (.slice (some ⟨c.d, 0, none⟩) c.K c.cd) ∧ w.cell? ⟨c.d, k, none⟩ = some (.slice (some ⟨c.D k, 0, none⟩) (c.s.size + 1) (c.s.size + 1)) ∧ w.frozen? ⟨c.D k, i, none⟩ = false ∧ (∃ b : Bool, w.cell? ⟨c.D k, i, none⟩ = some (.bool b)) ∧
    (w.setCell ⟨c.D k, i, none⟩ (.bool true)).cell? ⟨c.m, 3, none⟩ = some (.slice (some ⟨c.e, 0, none⟩) c.K c.ce) ∧ (w.setCell ⟨c.D k, i, none⟩ (.bool true)).cell? ⟨c.e, k, none⟩ = some (.slice (some ⟨c.E k, 0, none⟩) (c.s.size + 1) (c.s.size + 1)) ∧
    (w.setCell ⟨c.D k, i, none⟩ (.bool true)).frozen? ⟨c.E k, i, none⟩ = false ∧ ∃ u, (w.setCell ⟨c.D k, i, none⟩ (.bool true)).cell? ⟨c.E k, i, none⟩ = some u := by
  obtain ⟨-, -, h2, h3, h4, h5, h6, h7, b, u, h8, h9, -⟩ := h.cells k i hk hi
  have hDk := L.hD k hk
  have hDE := L.hDE k k hk hk
  have ho : ∀ q, q ≠ c.D k → (w.setCell ⟨c.D k, i, none⟩ (.bool true)).heap[q]? = w.heap[q]? := fun q hq => Below.heap_setCell _ _ _ _ (by show q ≠ c.D k; exact hq)
  refine ⟨h2, h4, h6, ⟨b, h8⟩, (cell_other (ho _ (fun e => hDk.2.2.1 e.symm))).trans h3, (cell_other (ho _ (fun e => hDk.2.2.2.2 e.symm))).trans h5, ?_, u, (cell_other (ho _ (fun e => hDE e.symm))).trans h9⟩
  rw [← h7]
  simp [World.frozen?, ho _ (fun e => hDE e.symm)]
/-- What 'at' answers at last. -/
theorem tail_post {c : Mm} {X : Nat → Prop} {w w2 : World} (L : Lie c) (h : Memo c X w2) (k i q cc : Nat) (hk : k < c.K) (hi : i < c.s.size + 1) (hq : c.M1 ≤ q) (hx : ¬ X q) (hb : BAt w2 q (c.s.size + 1) (En.Ends c.ps c.s k i)) (hf : FM c.M0 c.M1 w w2) :
    AtPost c X (En.Ends c.ps c.s k i) w (.returned (.slice (some ⟨q, 0, none⟩) (c.s.size + 1) cc)) ((w2.setCell ⟨c.D k, i, none⟩ (.bool true)).setCell ⟨c.E k, i, none⟩ (.slice (some ⟨q, 0, none⟩) (c.s.size + 1) cc)) := by
  have hDk := L.hD k hk
  have hEk := L.hE k hk
  refine ⟨q, cc, rfl, hq, hx, hb.keep ?_, h.learn L k i q cc hk hi hq hx hb, (hf.set _ _ _ hDk.1 hDk.2.1).set _ _ _ hEk.1 hEk.2.1⟩
  rw [Below.heap_setCell _ _ _ _ (by show q ≠ c.E k; omega), Below.heap_setCell _ _ _ _ (by show q ≠ c.D k; omega)]
/-- One write into a block of one's own. -/
theorem Memo.own {c : Mm} {X : Nat → Prop} {w : World} (L : Lie c) (hX : ∀ b, X b → c.M1 ≤ b) (q o : Nat) (u : Value) (hq : c.M1 ≤ q) (h : Memo c (fun b => X b ∨ b = q) w) : Memo c X (w.setCell ⟨q, o, none⟩ u) := by
  refine (h.frame (w' := w.setCell ⟨q, o, none⟩ u) L (fun b hb => ?_) ⟨rfl, rfl, rfl⟩ (by simp [World.setCell]) (fun b _ hn => Below.heap_setCell _ _ _ _ (by show b ≠ q; exact fun e => hn (.inr e)))).more (fun b hb => .inl (.inl hb))
  rcases hb with hb | rfl
  · exact hX b hb
  · exact hq
/-- Block q holds these Booleans first, and may be written. -/
def BFst (w : World) (q n : Nat) (f : Nat → Bool) : Prop := ∃ arr : Array Value, w.heap[q]? = some (.cells arr 4 (0, 0)) ∧ n ≤ arr.size ∧ ∀ j, j < n → arr[j]? = some (.bool (f j))
theorem BFst.cell {w : World} {q n : Nat} {f : Nat → Bool} (h : BFst w q n f) (j : Nat) (hj : j < n) : w.cell? ⟨q, j, none⟩ = some (.bool (f j)) ∧ w.frozen? ⟨q, j, none⟩ = false := by
  obtain ⟨arr, ha, hs, hf⟩ := h
  exact ⟨by rw [blk_cell ha]; exact hf j hj, blk_free ha j⟩
theorem BFst.set {w : World} {q n : Nat} {f : Nat → Bool} (h : BFst w q n f) (i : Nat) (b : Bool) (P : Nat → Prop) (hP : ∀ j, j < n → ((if j = i then b else f j) = true ↔ P j)) : BAt (w.setCell ⟨q, i, none⟩ (.bool b)) q n P := by
  obtain ⟨arr, ha, hs, hf⟩ := h
  have hh := blk_set ha i (.bool b)
  refine ⟨blk_lt hh, fun j hj => ⟨if j = i then b else f j, ?_, hP j hj⟩⟩
  rw [blk_cell hh, Array.getElem?_setIfInBounds]
  by_cases hji : i = j
  · subst hji
    rw [if_pos rfl, if_pos (by omega), if_pos rfl]
  · rw [if_neg hji, hf j hj, if_neg (fun e => hji e.symm)]
theorem BBlk.fst {w : World} {q n : Nat} {f : Nat → Bool} (h : BBlk w q n f) : BFst w q n f := by
  obtain ⟨arr, ha, hs, hf⟩ := h
  exact ⟨arr, ha, by omega, hf⟩
/-- append of a row of Booleans onto an empty one. -/
theorem opt_push {ops : Array Oper} {rest : List Oper} {o : Oper} {a : Act} {w : World} {Q : Exit → Act → World → Prop} (hgd : o.guard = none) (s x : Operand)
    (ho : o.op = .call { callee := .builtin .append, args := #[s, x], argTypes := #[84, 84] })
    (g q n cc : Nat) (hs : a.eval s = .slice (some ⟨g, 0, none⟩) 0 0) (hx : a.eval x = .slice (some ⟨q, 0, none⟩) n cc) (f : Nat → Bool) (hf : ∀ j, j < n → w.cell? ⟨q, j, none⟩ = some (.bool (f j))) (h0 : 0 < n) (hn : n ≤ 1048577)
    (k : ∀ w2 cap, Below w.heap.size w w2 → BFst w2 w.heap.size n f → wpList Try.prog ops Q rest (a.put o.dst (.slice (some ⟨w.heap.size, 0, none⟩) n cap)) w2) :
    wpList Try.prog ops Q (o :: rest) a w := by
  obtain ⟨i0, hi, hz0, hz1, hz2⟩ := info_parts Try.infoB
  have hfit : Builtin.nextslicecap (0 + n) 0 * i0.bytes ≤ 281474976710656 := by
    exact growslice_fits (by omega) (by rw [hz2]; omega)
  have hr := run_append_grow (P := Try.prog) w 84 o.type 4 i0 (.bool false) Try.underlying84 hi hz0 ⟨g, 0, none⟩ 0 0 [] (by simp) (by simp) ⟨q, 0, none⟩ n cc ((List.range n).map fun j => .bool (f j)) (by simp [hz1]) (fun j v hj => ?_) (by omega) (by omega) hfit
  · obtain ⟨W, hW⟩ : ∃ W, W = w.drew.alloc (.cells (([] : List Value).toArray ++ ((List.range n).map fun j => Value.bool (f j)).toArray ++ Builtin.zeroCells (Value.bool false).cells (grownCap w (0 + n) 0 4 - (0 + n))) 4) := ⟨_, rfl⟩
    rw [← hW, Nat.zero_add] at hr
    refine wpList_plain hgd fun K hK => ?_
    unfold Oper.wp execOp
    simp only [ho, resolve, invoke, builtin, Sem.run_bind, Sem.run_pure, Result.andThen_ok, List.map_toArray, List.map_cons, List.map_nil, hs, hx, hr]
    refine hK _ _ (k W _ ?_ ?_)
    · rw [hW]
      exact (Below.refl _ _).drew.alloc (by simp) _
    · rw [hW]
      refine ⟨_, heap_alloc_new w.drew _, by simp, fun j hj => ?_⟩
      rw [Array.getElem?_append_left (by simpa using hj)]
      simp [hj]
  · rw [List.getElem?_map] at hj
    by_cases h1 : j < n
    · rw [List.getElem?_range h1] at hj
      simp at hj
      subst hj
      have e : (⟨q, 0, none⟩ : Addr).add j = ⟨q, j, none⟩ := by cases j <;> simp [Addr.add]
      rw [e]
      exact hf j h1
    · simp [h1] at hj
theorem kids2 {ks : List Int} (h : ks.length = 2) : ks = [ks.getD 0 0, ks.getD 1 0] := by
  match ks, h with
  | [a, b], _ => rfl
theorem kids1 {ks : List Int} (h : ks.length = 1) : ks = [ks.getD 0 0] := by
  match ks, h with
  | [a], _ => rfl
end PartSpK
section PartSpL
open Go.RowKit

set_option maxHeartbeats 4000000 in
set_option maxRecDepth 100000 in
theorem spAt_known (c : Mm) (k : Nat) (hk : k < c.K) (X : Nat → Prop) (w : World) (i : Nat) (h : Memo c X w) (hi : i < c.s.size + 1) (hd : w.cell? ⟨c.D k, i, none⟩ = some (.bool true)) :
    Calls Try.prog 55 #[.pointer (some ⟨c.m, 0, none⟩), .int .i64 (k : Int), .int .i64 (i : Int)] w (AtPost c X (En.Ends c.ps c.s k i) w) := by
  obtain ⟨c0, c1, c2, c3, c4, c5, -, -, b, u, c8, c9, c10⟩ := h.cells k i hk hi
  obtain rfl : b = true := by rw [hd] at c8; simpa using c8.symm
  obtain ⟨q, cc, rfl, j1, j2, j3⟩ := c10 rfl
  have HJ : Hid (BAt w q (c.s.size + 1) (En.Ends c.ps c.s k i)) := j3
  have HM : Hid (Memo c X w) := h
  have i0 : (i : Int) < ((c.s.size + 1 : Nat) : Int) := by omega
  have k0 : (k : Int) < (c.K : Int) := by omega
  clear j3 h c8 c10
  go_enter Try.func55, Try.ntmps55
  go_wp2_with fail
  go_ret
  exact ⟨q, cc, rfl, j1, j2, HJ.out, HM.out, FM.refl _ _ _⟩
/-- The piece that 'at' reads. -/
theorem Memo.piece {c : Mm} {X : Nat → Prop} {w : World} (L : Lie c) (h : Memo c X w) (k : Nat) (hk : k < c.K) : ∃ pb po pc kv, c.pv = .slice (some ⟨pb, po, none⟩) c.K pc ∧ pb < c.M0 ∧ w.cell? ⟨pb, po + k * 3, none⟩ = some (.int .i64 (c.ps.getD k Pi.no).op) ∧ w.cell? ⟨pb, po + k * 3 + 1, none⟩ = some (.string (c.ps.getD k Pi.no).text) ∧ w.cell? ⟨pb, po + k * 3 + 2, none⟩ = some kv ∧ KidsAt c.wI kv (c.ps.getD k Pi.no).kids := by
  obtain ⟨a, pc, e, hp⟩ := L.hp
  have hK := L.hK
  obtain ⟨pb, po, rfl, hl, hq⟩ := hp (by omega)
  obtain ⟨kv, h1, h2, h3, h4⟩ := hq k (by omega)
  have h5 := h.2.2.2.2.1
  rw [L.hI] at h5
  exact ⟨pb, po, pc, kv, by rw [e, hK], by rw [L.hI]; exact hl, (h5.cell hl).trans h1, (h5.cell hl).trans h2, (h5.cell hl).trans h3, h4⟩
/-- Two blocks more. -/
theorem two_more (w : World) (A B : Obj) : Below w.heap.size w ((w.alloc A).alloc B) ∧ ((w.alloc A).alloc B).heap.size = w.heap.size + 2 ∧ ((w.alloc A).alloc B).heap[w.heap.size]? = some A := by
  refine ⟨((Below.refl _ _).alloc (Nat.le_refl _) _).alloc (by simp) _, by simp, ?_⟩
  rw [((Below.refl (w.heap.size + 1) (w.alloc A)).alloc (by simp) B).block _ (by omega)]
  exact heap_alloc_new w A

set_option maxHeartbeats 4000000 in
set_option maxRecDepth 100000 in
theorem spAt_one (c : Mm) (L : Lie c) (k : Nat) (hk : k < c.K) (X : Nat → Prop) (w : World) (i : Nat) (hX : ∀ b, X b → c.M1 ≤ b ∧ b < w.heap.size) (h : Memo c X w) (hi : i < c.s.size + 1) (hd : w.cell? ⟨c.D k, i, none⟩ = some (.bool false)) (hop : (c.ps.getD k Pi.no).op = 1 ∨ (c.ps.getD k Pi.no).op = 2 ∨ (c.ps.getD k Pi.no).op = 3 ∨ (c.ps.getD k Pi.no).op = 4 ∨ (c.ps.getD k Pi.no).op = 10 ∨ (c.ps.getD k Pi.no).op = 11 ∨ (c.ps.getD k Pi.no).op = 12) (ht : (c.ps.getD k Pi.no).text.size ≤ 1048576) :
    Calls Try.prog 55 #[.pointer (some ⟨c.m, 0, none⟩), .int .i64 (k : Int), .int .i64 (i : Int)] w (AtPost c X (En.Ends c.ps c.s k i) w) := by
  obtain ⟨c0, c1, c2, c3, c4, c5, -, -, -⟩ := h.cells k i hk hi
  obtain ⟨pb, po, pc, kv, epv, hpb, p0, p1, p2, hkv⟩ := h.piece L k hk
  obtain ⟨ka, kc, rfl, -⟩ := hkv
  rw [epv] at c0
  have hs := L.hs
  have HE : Hid (∀ j, En.Ends c.ps c.s k i j ↔ EndsOne (c.ps.getD k Pi.no) c.s i j) := fun j => ends_one c.ps c.s k i j (by omega)
  obtain ⟨p, hp⟩ : ∃ p, p = c.ps.getD k Pi.no := ⟨_, rfl⟩
  rw [← hp] at p0 p1 p2 hop ht HE
  have HC : Hid (∀ W : World, W.cell? ⟨c.m, 1, none⟩ = some (.string c.s) → Calls Try.prog 76 #[.pointer (some ⟨c.m, 0, none⟩), .agg #[.int .i64 p.op, .string p.text, .slice ka p.kids.length kc], .int .i64 (i : Int)] W fun e w' => ∃ q, e = .returned (.slice (some ⟨q, 0, none⟩) (c.s.size + 1) (c.s.size + 1)) ∧ W.heap.size ≤ q ∧ BAt w' q (c.s.size + 1) (EndsOne p c.s i) ∧ Below W.heap.size W w') := fun W hW => spOne_any c.m i p c.s ka p.kids.length kc W hW hop ht hs (by omega)
  have HM : Hid (Memo c X w) := h
  have HX : Hid (∀ b, X b → c.M1 ≤ b ∧ b < w.heap.size) := hX
  have HL : Hid (Lie c) := L
  have HP : Hid (pb < w.heap.size ∧ c.m < w.heap.size ∧ c.M1 ≤ w.heap.size) := ⟨World.block_lt_of_cell? w _ p0, World.block_lt_of_cell? w _ c0, h.2.2.2.2.2⟩
  have i0 : (i : Int) < ((c.s.size + 1 : Nat) : Int) := by omega
  have k0 : (k : Int) < (c.K : Int) := by omega
  have HD : Hid (∀ A B : Obj, Below w.heap.size w ((w.alloc A).alloc B)) := fun A B => (two_more w A B).1
  have d5 : (p.op == 5) = false := by simp; omega
  have d6 : (p.op == 6) = false := by simp; omega
  have d7 : (p.op == 7) = false := by simp; omega
  have d8 : (p.op == 8) = false := by simp; omega
  have d9 : (p.op == 9) = false := by simp; omega
  clear L h hX hop epv hp
  go_enter Try.func55, Try.ntmps55
  go_wp2_with fail
  refine (HC.out _ ?_).mono ?_
  · exact ((HD.out _ _).cell (p := ⟨c.m, 1, none⟩) HP.out.2.1).trans c1
  rintro e w2 ⟨q, rfl, q1, q2, q3⟩
  have hb : Below w.heap.size w w2 := (HD.out _ _).trans (q3.mono (by simp; omega))
  have hqM : c.M1 ≤ q := by simp at q1; have := HP.out.2.2; omega
  have hqX : ¬ X q := fun hx => by have := (HX.out q hx).2; simp at q1; omega
  have HM2 : Hid (Memo c X w2) := HM.out.up HL.out (fun b hb => (HX.out b hb).1) hb
  have HF : Hid (FM c.M0 c.M1 w w2) := (FM.refl _ _ w).up hb
  have HQ : Hid (BAt w2 q (c.s.size + 1) (En.Ends c.ps c.s k i)) := ⟨q2.1, fun j hj => by
    obtain ⟨b, b1, b2⟩ := q2.2 j hj
    exact ⟨b, b1, b2.trans (HE.out j).symm⟩⟩
  obtain ⟨t1, t2, t3, ⟨tb, t4⟩, t5, t6, t7, tu, t8⟩ := tail_cells HL.out HM2.out k i hk hi
  clear q1 q2 q3 hb HM HE HC c0 c1 c2 c3 c4 c5 p0 p1 p2 hd d5 d6 d7 d8 d9 HD HX HP
  go_wp2_with fail
  go_ret
  exact tail_post HL.out HM2.out k i q _ hk hi hqM hqX HQ.out HF.out
end PartSpL
section PartSpM
open Go.RowKit

set_option maxHeartbeats 4000000 in
set_option maxRecDepth 100000 in
theorem spAt_Cat (c : Mm) (L : Lie c) (k : Nat) (hk : k < c.K) (X : Nat → Prop) (w : World) (i : Nat) (hX : ∀ b, X b → c.M1 ≤ b ∧ b < w.heap.size) (h : Memo c X w) (hi : i < c.s.size + 1) (hd : w.cell? ⟨c.D k, i, none⟩ = some (.bool false)) (hop : (c.ps.getD k Pi.no).op = 5) (a0 a1 : Nat) (hks : (c.ps.getD k Pi.no).kids = [(a0 : Int), (a1 : Int)]) (e0 : En.kid (c.ps.getD k Pi.no) 0 = a0) (e1 : En.kid (c.ps.getD k Pi.no) 1 = a1) (hC0 : AtC c a0) (hC1 : AtC c a1) :
    Calls Try.prog 55 #[.pointer (some ⟨c.m, 0, none⟩), .int .i64 (k : Int), .int .i64 (i : Int)] w (AtPost c X (En.Ends c.ps c.s k i) w) := by
  obtain ⟨c0, c1, c2, c3, c4, c5, -, -, -⟩ := h.cells k i hk hi
  obtain ⟨pb, po, pc, kv, epv, hpb, p0, p1, p2, hkv⟩ := h.piece L k hk
  rw [epv] at c0
  have hs := L.hs
  have HE : Hid (∀ j, En.Ends c.ps c.s k i j ↔ ∃ u, En.Ends c.ps c.s a0 i u ∧ En.Ends c.ps c.s a1 u j) := fun j => (En.cat2 hop).trans (by rw [e0, e1])
  obtain ⟨tx, htx⟩ : ∃ tx, tx = (c.ps.getD k Pi.no).text := ⟨_, rfl⟩
  rw [← htx] at p1
  rw [hop] at p0
  rw [hks] at hkv
  have HC : Hid (∀ W : World, (∀ b, X b → c.M1 ≤ b ∧ b < W.heap.size) → Memo c X W → Calls Try.prog 74 #[.pointer (some ⟨c.m, 0, none⟩), .agg #[.int .i64 5, .string tx, kv], .int .i64 (i : Int)] W (fun e w' => ∃ q, e = .returned (.slice (some ⟨q, 0, none⟩) (c.s.size + 1) (c.s.size + 1)) ∧ W.heap.size ≤ q ∧ BAt w' q (c.s.size + 1) (fun j => ∃ u, En.Ends c.ps c.s a0 i u ∧ En.Ends c.ps c.s a1 u j) ∧ Memo c (fun b => X b ∨ b = q) w' ∧ FM c.M0 c.M1 W w')) := fun W hXW hMW => spCat c L i a0 a1 tx kv hkv hC0 hC1 X W hXW hMW hi
  have HM : Hid (Memo c X w) := h
  have HX : Hid (∀ b, X b → c.M1 ≤ b ∧ b < w.heap.size) := hX
  have HL : Hid (Lie c) := L
  have HP : Hid (pb < w.heap.size ∧ c.m < w.heap.size ∧ c.M1 ≤ w.heap.size) := ⟨World.block_lt_of_cell? w _ p0, World.block_lt_of_cell? w _ c0, h.2.2.2.2.2⟩
  have i0 : (i : Int) < ((c.s.size + 1 : Nat) : Int) := by omega
  have k0 : (k : Int) < (c.K : Int) := by omega
  have HD : Hid (∀ A B : Obj, Below w.heap.size w ((w.alloc A).alloc B)) := fun A B => (two_more w A B).1
  obtain ⟨ka, kc, rfl, -⟩ := hkv
  clear L h hX hop epv htx hks e0 e1 hC0 hC1
  go_enter Try.func55, Try.ntmps55
  go_wp2_with fail
  refine (HC.out _ (fun b hb => ⟨(HX.out b hb).1, by have := (HX.out b hb).2; simp; omega⟩) (HM.out.up HL.out (fun b hb => (HX.out b hb).1) (HD.out _ _))).mono ?_
  rintro e w2 ⟨q, rfl, q1, q2, q3, q4⟩
  have hqM : c.M1 ≤ q := by simp at q1; have := HP.out.2.2; omega
  have hqX : ¬ X q := fun hx => by have := (HX.out q hx).2; simp at q1; omega
  have HM2 : Hid (Memo c X w2) := q3.more (fun b hb => .inl (.inl hb))
  have HF : Hid (FM c.M0 c.M1 w w2) := ((FM.refl _ _ w).up (HD.out _ _)).trans q4
  have HQ : Hid (BAt w2 q (c.s.size + 1) (En.Ends c.ps c.s k i)) := ⟨q2.1, fun j hj => by
    obtain ⟨b, b1, b2⟩ := q2.2 j hj
    exact ⟨b, b1, b2.trans (HE.out j).symm⟩⟩
  obtain ⟨t1, t2, t3, ⟨tb, t4⟩, t5, t6, t7, tu, t8⟩ := tail_cells HL.out HM2.out k i hk hi
  clear q1 q2 q3 q4 HM HE HC c0 c1 c2 c3 c4 c5 p0 p1 p2 hd HD HX HP
  go_wp2_with fail
  go_ret
  exact tail_post HL.out HM2.out k i q _ hk hi hqM hqX HQ.out HF.out

set_option maxHeartbeats 4000000 in
set_option maxRecDepth 100000 in
theorem spAt_Alt (c : Mm) (L : Lie c) (k : Nat) (hk : k < c.K) (X : Nat → Prop) (w : World) (i : Nat) (hX : ∀ b, X b → c.M1 ≤ b ∧ b < w.heap.size) (h : Memo c X w) (hi : i < c.s.size + 1) (hd : w.cell? ⟨c.D k, i, none⟩ = some (.bool false)) (hop : (c.ps.getD k Pi.no).op = 6) (a0 a1 : Nat) (hks : (c.ps.getD k Pi.no).kids = [(a0 : Int), (a1 : Int)]) (e0 : En.kid (c.ps.getD k Pi.no) 0 = a0) (e1 : En.kid (c.ps.getD k Pi.no) 1 = a1) (hC0 : AtC c a0) (hC1 : AtC c a1) :
    Calls Try.prog 55 #[.pointer (some ⟨c.m, 0, none⟩), .int .i64 (k : Int), .int .i64 (i : Int)] w (AtPost c X (En.Ends c.ps c.s k i) w) := by
  obtain ⟨c0, c1, c2, c3, c4, c5, -, -, -⟩ := h.cells k i hk hi
  obtain ⟨pb, po, pc, kv, epv, hpb, p0, p1, p2, hkv⟩ := h.piece L k hk
  rw [epv] at c0
  have hs := L.hs
  have HE : Hid (∀ j, En.Ends c.ps c.s k i j ↔ (En.Ends c.ps c.s a0 i j ∨ En.Ends c.ps c.s a1 i j)) := fun j => (En.alt2 hop).trans (by rw [e0, e1])
  obtain ⟨tx, htx⟩ : ∃ tx, tx = (c.ps.getD k Pi.no).text := ⟨_, rfl⟩
  rw [← htx] at p1
  rw [hop] at p0
  rw [hks] at hkv
  have HC : Hid (∀ W : World, (∀ b, X b → c.M1 ≤ b ∧ b < W.heap.size) → Memo c X W → Calls Try.prog 74 #[.pointer (some ⟨c.m, 0, none⟩), .agg #[.int .i64 6, .string tx, kv], .int .i64 (i : Int)] W (fun e w' => ∃ q, e = .returned (.slice (some ⟨q, 0, none⟩) (c.s.size + 1) (c.s.size + 1)) ∧ W.heap.size ≤ q ∧ BAt w' q (c.s.size + 1) (fun j => (En.Ends c.ps c.s a0 i j ∨ En.Ends c.ps c.s a1 i j)) ∧ Memo c (fun b => X b ∨ b = q) w' ∧ FM c.M0 c.M1 W w')) := fun W hXW hMW => spAlt c L i a0 a1 tx kv hkv hC0 hC1 X W hXW hMW hi
  have HM : Hid (Memo c X w) := h
  have HX : Hid (∀ b, X b → c.M1 ≤ b ∧ b < w.heap.size) := hX
  have HL : Hid (Lie c) := L
  have HP : Hid (pb < w.heap.size ∧ c.m < w.heap.size ∧ c.M1 ≤ w.heap.size) := ⟨World.block_lt_of_cell? w _ p0, World.block_lt_of_cell? w _ c0, h.2.2.2.2.2⟩
  have i0 : (i : Int) < ((c.s.size + 1 : Nat) : Int) := by omega
  have k0 : (k : Int) < (c.K : Int) := by omega
  have HD : Hid (∀ A B : Obj, Below w.heap.size w ((w.alloc A).alloc B)) := fun A B => (two_more w A B).1
  obtain ⟨ka, kc, rfl, -⟩ := hkv
  clear L h hX hop epv htx hks e0 e1 hC0 hC1
  go_enter Try.func55, Try.ntmps55
  go_wp2_with fail
  refine (HC.out _ (fun b hb => ⟨(HX.out b hb).1, by have := (HX.out b hb).2; simp; omega⟩) (HM.out.up HL.out (fun b hb => (HX.out b hb).1) (HD.out _ _))).mono ?_
  rintro e w2 ⟨q, rfl, q1, q2, q3, q4⟩
  have hqM : c.M1 ≤ q := by simp at q1; have := HP.out.2.2; omega
  have hqX : ¬ X q := fun hx => by have := (HX.out q hx).2; simp at q1; omega
  have HM2 : Hid (Memo c X w2) := q3.more (fun b hb => .inl (.inl hb))
  have HF : Hid (FM c.M0 c.M1 w w2) := ((FM.refl _ _ w).up (HD.out _ _)).trans q4
  have HQ : Hid (BAt w2 q (c.s.size + 1) (En.Ends c.ps c.s k i)) := ⟨q2.1, fun j hj => by
    obtain ⟨b, b1, b2⟩ := q2.2 j hj
    exact ⟨b, b1, b2.trans (HE.out j).symm⟩⟩
  obtain ⟨t1, t2, t3, ⟨tb, t4⟩, t5, t6, t7, tu, t8⟩ := tail_cells HL.out HM2.out k i hk hi
  clear q1 q2 q3 q4 HM HE HC c0 c1 c2 c3 c4 c5 p0 p1 p2 hd HD HX HP
  go_wp2_with fail
  go_ret
  exact tail_post HL.out HM2.out k i q _ hk hi hqM hqX HQ.out HF.out

set_option maxHeartbeats 4000000 in
set_option maxRecDepth 100000 in
theorem spAt_star (c : Mm) (L : Lie c) (k : Nat) (hk : k < c.K) (X : Nat → Prop) (w : World) (i : Nat) (hX : ∀ b, X b → c.M1 ≤ b ∧ b < w.heap.size) (h : Memo c X w) (hi : i < c.s.size + 1) (hd : w.cell? ⟨c.D k, i, none⟩ = some (.bool false)) (hop : (c.ps.getD k Pi.no).op = 7) (a0 : Nat) (ha0 : a0 < c.K) (hks : (c.ps.getD k Pi.no).kids = [(a0 : Int)]) (e0 : En.kid (c.ps.getD k Pi.no) 0 = a0) (hC0 : AtC c a0) :
    Calls Try.prog 55 #[.pointer (some ⟨c.m, 0, none⟩), .int .i64 (k : Int), .int .i64 (i : Int)] w (AtPost c X (En.Ends c.ps c.s k i) w) := by
  obtain ⟨c0, c1, c2, c3, c4, c5, -, -, -⟩ := h.cells k i hk hi
  obtain ⟨pb, po, pc, kv, epv, hpb, p0, p1, p2, hkv⟩ := h.piece L k hk
  rw [epv] at c0
  have hs := L.hs
  have HE : Hid (∀ j, En.Ends c.ps c.s k i j ↔ (j = i ∨ ∃ v, En.Reach c.ps c.s a0 i v ∧ En.Ends c.ps c.s a0 v j)) := fun j => (En.star2 hop).trans (by rw [e0])
  obtain ⟨tx, htx⟩ : ∃ tx, tx = (c.ps.getD k Pi.no).text := ⟨_, rfl⟩
  rw [← htx] at p1
  rw [hop] at p0
  rw [hks] at hkv
  have HC : Hid (∀ W : World, (∀ b, X b → c.M1 ≤ b ∧ b < W.heap.size) → Memo c X W → Calls Try.prog 75 #[.pointer (some ⟨c.m, 0, none⟩), .int .i64 (a0 : Int), .int .i64 (i : Int)] W (fun e w' => ∃ q, e = .returned (.slice (some ⟨q, 0, none⟩) (c.s.size + 1) (c.s.size + 1)) ∧ W.heap.size ≤ q ∧ (∃ fo, BBlk w' q (c.s.size + 1) fo ∧ ∀ j, j < c.s.size + 1 → (fo j = true ↔ ∃ v, En.Reach c.ps c.s a0 i v ∧ En.Ends c.ps c.s a0 v j)) ∧ Memo c (fun b => X b ∨ b = q) w' ∧ FM c.M0 c.M1 W w')) := fun W hXW hMW => spAgain c L a0 i ha0 hC0 X W hXW hMW hi
  have HM : Hid (Memo c X w) := h
  have HX : Hid (∀ b, X b → c.M1 ≤ b ∧ b < w.heap.size) := hX
  have HL : Hid (Lie c) := L
  have HP : Hid (pb < w.heap.size ∧ c.m < w.heap.size ∧ c.M1 ≤ w.heap.size) := ⟨World.block_lt_of_cell? w _ p0, World.block_lt_of_cell? w _ c0, h.2.2.2.2.2⟩
  have i0 : (i : Int) < ((c.s.size + 1 : Nat) : Int) := by omega
  have k0 : (k : Int) < (c.K : Int) := by omega
  have HD : Hid (∀ A B : Obj, Below w.heap.size w ((w.alloc A).alloc B)) := fun A B => (two_more w A B).1
  obtain ⟨ka, kc, rfl, hf⟩ := hkv
  obtain ⟨kb, ko, rfl, hkl, hkc⟩ := hf (by simp)
  have hbl := h.2.2.2.2.1
  rw [L.hI] at hbl
  have k00 : w.cell? ⟨kb, ko, none⟩ = some (.int .i64 (a0 : Int)) := (hbl.cell (p := ⟨kb, ko, none⟩) hkl).trans (hkc 0 (by simp))
  have hkbl : kb < w.heap.size := World.block_lt_of_cell? w _ k00
  have k01 : ∀ A B : Obj, ((w.alloc A).alloc B).cell? ⟨kb, ko, none⟩ = some (.int .i64 (a0 : Int)) := fun A B => ((HD.out A B).cell (p := ⟨kb, ko, none⟩) hkbl).trans k00
  simp only [List.length_cons, List.length_nil, Nat.zero_add] at p2 ⊢
  clear L h hX hop epv htx hks e0 hC0 hf hkc hkl hbl k00
  go_enter Try.func55, Try.ntmps55
  go_wp2_with fail
  refine (HC.out _ (fun b hb => ⟨(HX.out b hb).1, by have := (HX.out b hb).2; simp; omega⟩) (HM.out.up HL.out (fun b hb => (HX.out b hb).1) (HD.out _ _))).mono ?_
  rintro e w2 ⟨q, rfl, q1, ⟨fo, q2, q2'⟩, q3, q4⟩
  have hqM : c.M1 ≤ q := by simp at q1; have := HP.out.2.2; omega
  have hqX : ¬ X q := fun hx => by have := (HX.out q hx).2; simp at q1; omega
  have HB : Hid (BFst w2 q (c.s.size + 1) fo) := q2.fst
  obtain ⟨o1, o2⟩ := HB.out.cell i hi
  have HQ : Hid (BAt (w2.setCell ⟨q, i, none⟩ (.bool true)) q (c.s.size + 1) (En.Ends c.ps c.s k i)) := HB.out.set i true _ (fun j hj => by
    rw [HE.out j]
    by_cases hji : j = i
    · simp [hji]
    · rw [if_neg hji, q2' j hj]
      exact ⟨.inr, fun h => h.resolve_left hji⟩)
  have HM2 : Hid (Memo c X (w2.setCell ⟨q, i, none⟩ (.bool true))) := Memo.own HL.out (fun b hb => (HX.out b hb).1) q i _ hqM q3
  have HF : Hid (FM c.M0 c.M1 w (w2.setCell ⟨q, i, none⟩ (.bool true))) := (((FM.refl _ _ w).up (HD.out _ _)).trans q4).own q i _ (by simp at q1; omega)
  obtain ⟨t1, t2, t3, ⟨tb, t4⟩, t5, t6, t7, tu, t8⟩ := tail_cells HL.out HM2.out k i hk hi
  clear q1 q2 q2' q3 q4 HM HE HC c0 c1 c2 c3 c4 c5 p0 p1 p2 hd HD HX HP k01 hkbl
  go_wp2_with fail
  go_ret
  exact tail_post HL.out HM2.out k i q _ hk hi hqM hqX HQ.out HF.out

set_option maxHeartbeats 4000000 in
set_option maxRecDepth 100000 in
theorem spAt_plus (c : Mm) (L : Lie c) (k : Nat) (hk : k < c.K) (X : Nat → Prop) (w : World) (i : Nat) (hX : ∀ b, X b → c.M1 ≤ b ∧ b < w.heap.size) (h : Memo c X w) (hi : i < c.s.size + 1) (hd : w.cell? ⟨c.D k, i, none⟩ = some (.bool false)) (hop : (c.ps.getD k Pi.no).op = 8) (a0 : Nat) (ha0 : a0 < c.K) (hks : (c.ps.getD k Pi.no).kids = [(a0 : Int)]) (e0 : En.kid (c.ps.getD k Pi.no) 0 = a0) (hC0 : AtC c a0) :
    Calls Try.prog 55 #[.pointer (some ⟨c.m, 0, none⟩), .int .i64 (k : Int), .int .i64 (i : Int)] w (AtPost c X (En.Ends c.ps c.s k i) w) := by
  obtain ⟨c0, c1, c2, c3, c4, c5, -, -, -⟩ := h.cells k i hk hi
  obtain ⟨pb, po, pc, kv, epv, hpb, p0, p1, p2, hkv⟩ := h.piece L k hk
  rw [epv] at c0
  have hs := L.hs
  have HE : Hid (∀ j, En.Ends c.ps c.s k i j ↔ ∃ v, En.Reach c.ps c.s a0 i v ∧ En.Ends c.ps c.s a0 v j) := fun j => (En.plus2 hop).trans (by rw [e0])
  obtain ⟨tx, htx⟩ : ∃ tx, tx = (c.ps.getD k Pi.no).text := ⟨_, rfl⟩
  rw [← htx] at p1
  rw [hop] at p0
  rw [hks] at hkv
  have HC : Hid (∀ W : World, (∀ b, X b → c.M1 ≤ b ∧ b < W.heap.size) → Memo c X W → Calls Try.prog 75 #[.pointer (some ⟨c.m, 0, none⟩), .int .i64 (a0 : Int), .int .i64 (i : Int)] W (fun e w' => ∃ q, e = .returned (.slice (some ⟨q, 0, none⟩) (c.s.size + 1) (c.s.size + 1)) ∧ W.heap.size ≤ q ∧ (∃ fo, BBlk w' q (c.s.size + 1) fo ∧ ∀ j, j < c.s.size + 1 → (fo j = true ↔ ∃ v, En.Reach c.ps c.s a0 i v ∧ En.Ends c.ps c.s a0 v j)) ∧ Memo c (fun b => X b ∨ b = q) w' ∧ FM c.M0 c.M1 W w')) := fun W hXW hMW => spAgain c L a0 i ha0 hC0 X W hXW hMW hi
  have HM : Hid (Memo c X w) := h
  have HX : Hid (∀ b, X b → c.M1 ≤ b ∧ b < w.heap.size) := hX
  have HL : Hid (Lie c) := L
  have HP : Hid (pb < w.heap.size ∧ c.m < w.heap.size ∧ c.M1 ≤ w.heap.size) := ⟨World.block_lt_of_cell? w _ p0, World.block_lt_of_cell? w _ c0, h.2.2.2.2.2⟩
  have i0 : (i : Int) < ((c.s.size + 1 : Nat) : Int) := by omega
  have k0 : (k : Int) < (c.K : Int) := by omega
  have HD : Hid (∀ A B : Obj, Below w.heap.size w ((w.alloc A).alloc B)) := fun A B => (two_more w A B).1
  obtain ⟨ka, kc, rfl, hf⟩ := hkv
  obtain ⟨kb, ko, rfl, hkl, hkc⟩ := hf (by simp)
  have hbl := h.2.2.2.2.1
  rw [L.hI] at hbl
  have k00 : w.cell? ⟨kb, ko, none⟩ = some (.int .i64 (a0 : Int)) := (hbl.cell (p := ⟨kb, ko, none⟩) hkl).trans (hkc 0 (by simp))
  have hkbl : kb < w.heap.size := World.block_lt_of_cell? w _ k00
  have k01 : ∀ A B : Obj, ((w.alloc A).alloc B).cell? ⟨kb, ko, none⟩ = some (.int .i64 (a0 : Int)) := fun A B => ((HD.out A B).cell (p := ⟨kb, ko, none⟩) hkbl).trans k00
  simp only [List.length_cons, List.length_nil, Nat.zero_add] at p2 ⊢
  clear L h hX hop epv htx hks e0 hC0 hf hkc hkl hbl k00
  go_enter Try.func55, Try.ntmps55
  go_wp2_with fail
  refine (HC.out _ (fun b hb => ⟨(HX.out b hb).1, by have := (HX.out b hb).2; simp; omega⟩) (HM.out.up HL.out (fun b hb => (HX.out b hb).1) (HD.out _ _))).mono ?_
  rintro e w2 ⟨q, rfl, q1, ⟨fo, q2, q2'⟩, q3, q4⟩
  have hqM : c.M1 ≤ q := by simp at q1; have := HP.out.2.2; omega
  have hqX : ¬ X q := fun hx => by have := (HX.out q hx).2; simp at q1; omega
  have HM2 : Hid (Memo c X w2) := q3.more (fun b hb => .inl (.inl hb))
  have HF : Hid (FM c.M0 c.M1 w w2) := ((FM.refl _ _ w).up (HD.out _ _)).trans q4
  have HQ : Hid (BAt w2 q (c.s.size + 1) (En.Ends c.ps c.s k i)) := q2.at _ (fun j hj => (q2' j hj).trans (HE.out j).symm)
  obtain ⟨t1, t2, t3, ⟨tb, t4⟩, t5, t6, t7, tu, t8⟩ := tail_cells HL.out HM2.out k i hk hi
  clear q1 q2 q2' q3 q4 HM HE HC c0 c1 c2 c3 c4 c5 p0 p1 p2 hd HD HX HP k01 hkbl
  go_wp2_with fail
  go_ret
  exact tail_post HL.out HM2.out k i q _ hk hi hqM hqX HQ.out HF.out
end PartSpM
section PartSpN
open Go.RowKit

set_option maxHeartbeats 4000000 in
set_option maxRecDepth 100000 in
theorem spAt_opt (c : Mm) (L : Lie c) (k : Nat) (hk : k < c.K) (X : Nat → Prop) (w : World) (i : Nat) (hX : ∀ b, X b → c.M1 ≤ b ∧ b < w.heap.size) (h : Memo c X w) (hi : i < c.s.size + 1) (hd : w.cell? ⟨c.D k, i, none⟩ = some (.bool false)) (hop : (c.ps.getD k Pi.no).op = 9) (a0 : Nat) (hks : (c.ps.getD k Pi.no).kids = [(a0 : Int)]) (e0 : En.kid (c.ps.getD k Pi.no) 0 = a0) (hC0 : AtC c a0) :
    Calls Try.prog 55 #[.pointer (some ⟨c.m, 0, none⟩), .int .i64 (k : Int), .int .i64 (i : Int)] w (AtPost c X (En.Ends c.ps c.s k i) w) := by
  obtain ⟨c0, c1, c2, c3, c4, c5, -, -, -⟩ := h.cells k i hk hi
  obtain ⟨pb, po, pc, kv, epv, hpb, p0, p1, p2, hkv⟩ := h.piece L k hk
  rw [epv] at c0
  have hs := L.hs
  have HE : Hid (∀ j, En.Ends c.ps c.s k i j ↔ (j = i ∨ En.Ends c.ps c.s a0 i j)) := fun j => (En.opt2 hop).trans (by rw [e0])
  obtain ⟨tx, htx⟩ : ∃ tx, tx = (c.ps.getD k Pi.no).text := ⟨_, rfl⟩
  rw [← htx] at p1
  rw [hop] at p0
  rw [hks] at hkv
  have HC : Hid (AtC c a0) := hC0
  have HM : Hid (Memo c X w) := h
  have HX : Hid (∀ b, X b → c.M1 ≤ b ∧ b < w.heap.size) := hX
  have HL : Hid (Lie c) := L
  have HP : Hid (pb < w.heap.size ∧ c.m < w.heap.size ∧ c.M1 ≤ w.heap.size) := ⟨World.block_lt_of_cell? w _ p0, World.block_lt_of_cell? w _ c0, h.2.2.2.2.2⟩
  have i0 : (i : Int) < ((c.s.size + 1 : Nat) : Int) := by omega
  have k0 : (k : Int) < (c.K : Int) := by omega
  have HD : Hid (∀ A B : Obj, Below w.heap.size w ((w.alloc A).alloc B)) := fun A B => (two_more w A B).1
  obtain ⟨ka, kc, rfl, hf⟩ := hkv
  obtain ⟨kb, ko, rfl, hkl, hkc⟩ := hf (by simp)
  have hbl := h.2.2.2.2.1
  rw [L.hI] at hbl
  have k00 : w.cell? ⟨kb, ko, none⟩ = some (.int .i64 (a0 : Int)) := (hbl.cell (p := ⟨kb, ko, none⟩) hkl).trans (hkc 0 (by simp))
  have hkbl : kb < w.heap.size := World.block_lt_of_cell? w _ k00
  have k01 : ∀ A B : Obj, ((w.alloc A).alloc B).cell? ⟨kb, ko, none⟩ = some (.int .i64 (a0 : Int)) := fun A B => ((HD.out A B).cell (p := ⟨kb, ko, none⟩) hkbl).trans k00
  simp only [List.length_cons, List.length_nil, Nat.zero_add] at p2 ⊢
  clear L h hX hop epv htx hks e0 hC0 hf hkc hkl hbl k00
  go_enter Try.func55, Try.ntmps55
  go_wp2_with fail
  refine (HC.out X _ i (fun b hb => ⟨(HX.out b hb).1, by have := (HX.out b hb).2; simp; omega⟩) (HM.out.up HL.out (fun b hb => (HX.out b hb).1) (HD.out _ _)) hi).mono ?_
  rintro e w1 ⟨q, cc, rfl, q1, q2, q3, q4, q5⟩
  obtain ⟨f, hf⟩ := q3.fn
  have HFM : Hid (FM c.M0 c.M1 w w1) := ((FM.refl _ _ w).up (HD.out _ _)).trans q5
  have HM1 : Hid (Memo c X w1) := q4
  have HFF : Hid (∀ j, j < c.s.size + 1 → (f j = true ↔ En.Ends c.ps c.s a0 i j)) := fun j hj => (hf j hj).2
  have HFC : Hid (∀ j, j < c.s.size + 1 → w1.cell? ⟨q, j, none⟩ = some (.bool (f j))) := fun j hj => (hf j hj).1
  clear q1 q2 q3 q4 q5 hf HM HC c0 c1 c2 c3 c4 c5 p0 p1 p2 hd HD k01 hkbl
  go_wp2_with (at_builtin; go_must (refine opt_push rfl (.tmp 53) (.tmp 60) rfl (w.heap.size + 1) q (c.s.size + 1) cc rfl rfl f HFC.out (by omega) (by omega) ?_))
  intro w2 cap hb hB
  obtain ⟨q9, hq9⟩ : ∃ q9, q9 = w1.heap.size := ⟨_, rfl⟩
  have hqM : c.M1 ≤ q9 := by rw [hq9]; exact HM1.out.2.2.2.2.2
  have hqX : ¬ X q9 := fun hx => by have := (HX.out q9 hx).2; have := HFM.out.2.1; omega
  have HB : Hid (BFst w2 q9 (c.s.size + 1) f) := by rw [hq9]; exact hB
  obtain ⟨o1, o2⟩ := HB.out.cell i hi
  have HQ : Hid (BAt (w2.setCell ⟨q9, i, none⟩ (.bool true)) q9 (c.s.size + 1) (En.Ends c.ps c.s k i)) := HB.out.set i true _ (fun j hj => by
    rw [HE.out j]
    by_cases hji : j = i
    · simp [hji]
    · rw [if_neg hji, HFF.out j hj]
      exact ⟨.inr, fun h => h.resolve_left hji⟩)
  have m1 : Memo c (fun b => X b ∨ b = q9) w1 := HM1.out.more (fun b hb => by
    rcases hb with hb | rfl
    · exact .inl hb
    · exact .inr (by omega))
  have HM2 : Hid (Memo c X (w2.setCell ⟨q9, i, none⟩ (.bool true))) := Memo.own HL.out (fun b hb => (HX.out b hb).1) q9 i _ hqM (m1.up HL.out (fun b hb => by
    rcases hb with hb | rfl
    · exact (HX.out b hb).1
    · exact hqM) hb)
  have HF : Hid (FM c.M0 c.M1 w (w2.setCell ⟨q9, i, none⟩ (.bool true))) := (HFM.out.up hb).own q9 i _ (by have := HFM.out.2.1; omega)
  obtain ⟨t1, t2, t3, ⟨tb, t4⟩, t5, t6, t7, tu, t8⟩ := tail_cells HL.out HM2.out k i hk hi
  rw [← hq9]
  clear hq9 hb hB m1 HM1 HFM HB HFF HFC HE HX HP
  go_wp2_with fail
  go_ret
  exact tail_post HL.out HM2.out k i q9 _ hk hi hqM hqX HQ.out HF.out

/-- 'at', of every piece of a right row of pieces. -/
theorem spAt (c : Mm) (L : Lie c) (hpk : ∀ k, k < c.K → Pk.piece k (c.ps.getD k Pi.no) = true) : ∀ k, k < c.K → AtC c k := by
  intro k
  induction k using Nat.strongRecOn with
  | _ k ih =>
    intro hk X w i hX h hi
    obtain ⟨-, -, -, -, -, -, -, -, b, u, hb, -⟩ := h.cells k i hk hi
    cases b with
    | true => exact spAt_known c k hk X w i h hi hb
    | false =>
      obtain ⟨h1, h2, h3, h4, h5⟩ := Pk.piece_kids (hpk k hk)
      by_cases o5 : (c.ps.getD k Pi.no).op = 5
      · have hl : (c.ps.getD k Pi.no).kids.length = 2 := by rw [h1, o5]; rfl
        obtain ⟨a0, e0, l0, f0⟩ := h2 0 (by omega)
        obtain ⟨a1, e1, l1, f1⟩ := h2 1 (by omega)
        exact spAt_Cat c L k hk X w i hX h hi hb o5 a0 a1 ((kids2 hl).trans (by rw [e0, e1])) f0 f1 (ih a0 l0 (by omega)) (ih a1 l1 (by omega))
      by_cases o6 : (c.ps.getD k Pi.no).op = 6
      · have hl : (c.ps.getD k Pi.no).kids.length = 2 := by rw [h1, o6]; rfl
        obtain ⟨a0, e0, l0, f0⟩ := h2 0 (by omega)
        obtain ⟨a1, e1, l1, f1⟩ := h2 1 (by omega)
        exact spAt_Alt c L k hk X w i hX h hi hb o6 a0 a1 ((kids2 hl).trans (by rw [e0, e1])) f0 f1 (ih a0 l0 (by omega)) (ih a1 l1 (by omega))
      by_cases o7 : (c.ps.getD k Pi.no).op = 7
      · have hl : (c.ps.getD k Pi.no).kids.length = 1 := by rw [h1, o7]; rfl
        obtain ⟨a0, e0, l0, f0⟩ := h2 0 (by omega)
        exact spAt_star c L k hk X w i hX h hi hb o7 a0 (by omega) ((kids1 hl).trans (by rw [e0])) f0 (ih a0 l0 (by omega))
      by_cases o8 : (c.ps.getD k Pi.no).op = 8
      · have hl : (c.ps.getD k Pi.no).kids.length = 1 := by rw [h1, o8]; rfl
        obtain ⟨a0, e0, l0, f0⟩ := h2 0 (by omega)
        exact spAt_plus c L k hk X w i hX h hi hb o8 a0 (by omega) ((kids1 hl).trans (by rw [e0])) f0 (ih a0 l0 (by omega))
      by_cases o9 : (c.ps.getD k Pi.no).op = 9
      · have hl : (c.ps.getD k Pi.no).kids.length = 1 := by rw [h1, o9]; rfl
        obtain ⟨a0, e0, l0, f0⟩ := h2 0 (by omega)
        exact spAt_opt c L k hk X w i hX h hi hb o9 a0 ((kids1 hl).trans (by rw [e0])) f0 (ih a0 l0 (by omega))
      exact spAt_one c L k hk X w i hX h hi hb (by omega) (by omega)
end PartSpN
end Go.Proofs.Ytibmagmdeacenab
