/- Where a piece may end, by the specification: 'at', walked. Where a piece may end, by the specification: 'at', walked: pieces with kids. -/
import Derived.Test.YtlnmbahakdmkgaaZao
namespace Go.Proofs.Ytlnmbahakdmkgaa
section PartSpL
open Go.RowKit

set_option maxHeartbeats 4000000 in
set_option maxRecDepth 100000 in
theorem spAt_known (c : Mm) (k : Nat) (hk : k < c.K) (X : Nat → Prop) (w : World) (i : Nat) (h : Memo c X w) (hi : i < c.s.size + 1) (hd : w.cell? ⟨c.D k, i, none⟩ = some (.bool true)) :
    Calls Try.prog 22 #[.pointer (some ⟨c.m, 0, none⟩), .int .i64 (k : Int), .int .i64 (i : Int)] w (AtPost c X (En.Ends c.ps c.s k i) w) := by
  obtain ⟨c0, c1, c2, c3, c4, c5, -, -, b, u, c8, c9, c10⟩ := h.cells k i hk hi
  obtain rfl : b = true := by rw [hd] at c8; simpa using c8.symm
  obtain ⟨q, cc, rfl, j1, j2, j3⟩ := c10 rfl
  have HJ : Hid (BAt w q (c.s.size + 1) (En.Ends c.ps c.s k i)) := j3
  have HM : Hid (Memo c X w) := h
  have i0 : (i : Int) < ((c.s.size + 1 : Nat) : Int) := by omega
  have k0 : (k : Int) < (c.K : Int) := by omega
  clear j3 h c8 c10
  go_enter Try.func22, Try.ntmps22
  go_wp2_with fail
  go_ret
  exact ⟨q, cc, rfl, j1, j2, HJ.out, HM.out, FM.refl _ _ _⟩
/-- The piece that 'at' reads. -/
theorem Memo.piece {c : Mm} {X : Nat → Prop} {w : World} (L : Lie c) (h : Memo c X w) (k : Nat) (hk : k < c.K) : ∃ pb po pc kv, c.pv = .slice (some ⟨pb, po, none⟩) c.K pc ∧ pb < c.M0 ∧ w.cell? ⟨pb, po + k * 3, none⟩ = some (.int .i64 (c.ps.getD k Pi.no).op) ∧ w.cell? ⟨pb, po + k * 3 + 1, none⟩ = some (.string (c.ps.getD k Pi.no).text) ∧ w.cell? ⟨pb, po + k * 3 + 2, none⟩ = some kv ∧ KidsAt c.wI kv (c.ps.getD k Pi.no).kids := by
  obtain ⟨a, pc, e, hp⟩ := L.hp
  have hK := L.hK
  obtain ⟨pb, po, rfl, hl, hq⟩ := hp (by omega)
  obtain ⟨kv, h1, h2, h3, h4⟩ := hq k (by omega)
  have h5 := h.2.2.2.2.1
  rw [L.hI] at h5
  exact ⟨pb, po, pc, kv, by rw [e, hK], by rw [L.hI]; exact hl, (h5.cell hl).trans h1, (h5.cell hl).trans h2, (h5.cell hl).trans h3, h4⟩
/-- Two blocks more. -/
theorem two_more (w : World) (A B : Obj) : Below w.heap.size w ((w.alloc A).alloc B) ∧ ((w.alloc A).alloc B).heap.size = w.heap.size + 2 ∧ ((w.alloc A).alloc B).heap[w.heap.size]? = some A := by
  refine ⟨((Below.refl _ _).alloc (Nat.le_refl _) _).alloc (by simp) _, by simp, ?_⟩
  rw [((Below.refl (w.heap.size + 1) (w.alloc A)).alloc (by simp) B).block _ (by omega)]
  exact heap_alloc_new w A

set_option maxHeartbeats 4000000 in
set_option maxRecDepth 100000 in
theorem spAt_one (c : Mm) (L : Lie c) (k : Nat) (hk : k < c.K) (X : Nat → Prop) (w : World) (i : Nat) (hX : ∀ b, X b → c.M1 ≤ b ∧ b < w.heap.size) (h : Memo c X w) (hi : i < c.s.size + 1) (hd : w.cell? ⟨c.D k, i, none⟩ = some (.bool false)) (hop : (c.ps.getD k Pi.no).op = 1 ∨ (c.ps.getD k Pi.no).op = 2 ∨ (c.ps.getD k Pi.no).op = 3 ∨ (c.ps.getD k Pi.no).op = 4 ∨ (c.ps.getD k Pi.no).op = 10 ∨ (c.ps.getD k Pi.no).op = 11 ∨ (c.ps.getD k Pi.no).op = 12) (ht : (c.ps.getD k Pi.no).text.size ≤ 1048576) :
    Calls Try.prog 22 #[.pointer (some ⟨c.m, 0, none⟩), .int .i64 (k : Int), .int .i64 (i : Int)] w (AtPost c X (En.Ends c.ps c.s k i) w) := by
  obtain ⟨c0, c1, c2, c3, c4, c5, -, -, -⟩ := h.cells k i hk hi
  obtain ⟨pb, po, pc, kv, epv, hpb, p0, p1, p2, hkv⟩ := h.piece L k hk
  obtain ⟨ka, kc, rfl, -⟩ := hkv
  rw [epv] at c0
  have hs := L.hs
  have HE : Hid (∀ j, En.Ends c.ps c.s k i j ↔ EndsOne (c.ps.getD k Pi.no) c.s i j) := fun j => ends_one c.ps c.s k i j (by omega)
  obtain ⟨p, hp⟩ : ∃ p, p = c.ps.getD k Pi.no := ⟨_, rfl⟩
  rw [← hp] at p0 p1 p2 hop ht HE
  have HC : Hid (∀ W : World, W.cell? ⟨c.m, 1, none⟩ = some (.string c.s) → Calls Try.prog 44 #[.pointer (some ⟨c.m, 0, none⟩), .agg #[.int .i64 p.op, .string p.text, .slice ka p.kids.length kc], .int .i64 (i : Int)] W fun e w' => ∃ q, e = .returned (.slice (some ⟨q, 0, none⟩) (c.s.size + 1) (c.s.size + 1)) ∧ W.heap.size ≤ q ∧ BAt w' q (c.s.size + 1) (EndsOne p c.s i) ∧ Below W.heap.size W w') := fun W hW => spOne_any c.m i p c.s ka p.kids.length kc W hW hop ht hs (by omega)
  have HM : Hid (Memo c X w) := h
  have HX : Hid (∀ b, X b → c.M1 ≤ b ∧ b < w.heap.size) := hX
  have HL : Hid (Lie c) := L
  have HP : Hid (pb < w.heap.size ∧ c.m < w.heap.size ∧ c.M1 ≤ w.heap.size) := ⟨World.block_lt_of_cell? w _ p0, World.block_lt_of_cell? w _ c0, h.2.2.2.2.2⟩
  have i0 : (i : Int) < ((c.s.size + 1 : Nat) : Int) := by omega
  have k0 : (k : Int) < (c.K : Int) := by omega
  have HD : Hid (∀ A B : Obj, Below w.heap.size w ((w.alloc A).alloc B)) := fun A B => (two_more w A B).1
  have d5 : (p.op == 5) = false := by simp; omega
  have d6 : (p.op == 6) = false := by simp; omega
  have d7 : (p.op == 7) = false := by simp; omega
  have d8 : (p.op == 8) = false := by simp; omega
  have d9 : (p.op == 9) = false := by simp; omega
  clear L h hX hop epv hp
  go_enter Try.func22, Try.ntmps22
  go_wp2_with fail
  refine (HC.out _ ?_).mono ?_
  · exact ((HD.out _ _).cell (p := ⟨c.m, 1, none⟩) HP.out.2.1).trans c1
  rintro e w2 ⟨q, rfl, q1, q2, q3⟩
  have hb : Below w.heap.size w w2 := (HD.out _ _).trans (q3.mono (by simp; omega))
  have hqM : c.M1 ≤ q := by simp at q1; have := HP.out.2.2; omega
  have hqX : ¬ X q := fun hx => by have := (HX.out q hx).2; simp at q1; omega
  have HM2 : Hid (Memo c X w2) := HM.out.up HL.out (fun b hb => (HX.out b hb).1) hb
  have HF : Hid (FM c.M0 c.M1 w w2) := (FM.refl _ _ w).up hb
  have HQ : Hid (BAt w2 q (c.s.size + 1) (En.Ends c.ps c.s k i)) := ⟨q2.1, fun j hj => by
    obtain ⟨b, b1, b2⟩ := q2.2 j hj
    exact ⟨b, b1, b2.trans (HE.out j).symm⟩⟩
  obtain ⟨t1, t2, t3, ⟨tb, t4⟩, t5, t6, t7, tu, t8⟩ := tail_cells HL.out HM2.out k i hk hi
  clear q1 q2 q3 hb HM HE HC c0 c1 c2 c3 c4 c5 p0 p1 p2 hd d5 d6 d7 d8 d9 HD HX HP
  go_wp2_with fail
  go_ret
  exact tail_post HL.out HM2.out k i q _ hk hi hqM hqX HQ.out HF.out
end PartSpL
section PartSpM
open Go.RowKit

set_option maxHeartbeats 4000000 in
set_option maxRecDepth 100000 in
theorem spAt_Cat (c : Mm) (L : Lie c) (k : Nat) (hk : k < c.K) (X : Nat → Prop) (w : World) (i : Nat) (hX : ∀ b, X b → c.M1 ≤ b ∧ b < w.heap.size) (h : Memo c X w) (hi : i < c.s.size + 1) (hd : w.cell? ⟨c.D k, i, none⟩ = some (.bool false)) (hop : (c.ps.getD k Pi.no).op = 5) (a0 a1 : Nat) (hks : (c.ps.getD k Pi.no).kids = [(a0 : Int), (a1 : Int)]) (e0 : En.kid (c.ps.getD k Pi.no) 0 = a0) (e1 : En.kid (c.ps.getD k Pi.no) 1 = a1) (hC0 : AtC c a0) (hC1 : AtC c a1) :
    Calls Try.prog 22 #[.pointer (some ⟨c.m, 0, none⟩), .int .i64 (k : Int), .int .i64 (i : Int)] w (AtPost c X (En.Ends c.ps c.s k i) w) := by
  obtain ⟨c0, c1, c2, c3, c4, c5, -, -, -⟩ := h.cells k i hk hi
  obtain ⟨pb, po, pc, kv, epv, hpb, p0, p1, p2, hkv⟩ := h.piece L k hk
  rw [epv] at c0
  have hs := L.hs
  have HE : Hid (∀ j, En.Ends c.ps c.s k i j ↔ ∃ u, En.Ends c.ps c.s a0 i u ∧ En.Ends c.ps c.s a1 u j) := fun j => (En.cat2 hop).trans (by rw [e0, e1])
  obtain ⟨tx, htx⟩ : ∃ tx, tx = (c.ps.getD k Pi.no).text := ⟨_, rfl⟩
  rw [← htx] at p1
  rw [hop] at p0
  rw [hks] at hkv
  have HC : Hid (∀ W : World, (∀ b, X b → c.M1 ≤ b ∧ b < W.heap.size) → Memo c X W → Calls Try.prog 42 #[.pointer (some ⟨c.m, 0, none⟩), .agg #[.int .i64 5, .string tx, kv], .int .i64 (i : Int)] W (fun e w' => ∃ q, e = .returned (.slice (some ⟨q, 0, none⟩) (c.s.size + 1) (c.s.size + 1)) ∧ W.heap.size ≤ q ∧ BAt w' q (c.s.size + 1) (fun j => ∃ u, En.Ends c.ps c.s a0 i u ∧ En.Ends c.ps c.s a1 u j) ∧ Memo c (fun b => X b ∨ b = q) w' ∧ FM c.M0 c.M1 W w')) := fun W hXW hMW => spCat c L i a0 a1 tx kv hkv hC0 hC1 X W hXW hMW hi
  have HM : Hid (Memo c X w) := h
  have HX : Hid (∀ b, X b → c.M1 ≤ b ∧ b < w.heap.size) := hX
  have HL : Hid (Lie c) := L
  have HP : Hid (pb < w.heap.size ∧ c.m < w.heap.size ∧ c.M1 ≤ w.heap.size) := ⟨World.block_lt_of_cell? w _ p0, World.block_lt_of_cell? w _ c0, h.2.2.2.2.2⟩
  have i0 : (i : Int) < ((c.s.size + 1 : Nat) : Int) := by omega
  have k0 : (k : Int) < (c.K : Int) := by omega
  have HD : Hid (∀ A B : Obj, Below w.heap.size w ((w.alloc A).alloc B)) := fun A B => (two_more w A B).1
  obtain ⟨ka, kc, rfl, -⟩ := hkv
  clear L h hX hop epv htx hks e0 e1 hC0 hC1
  go_enter Try.func22, Try.ntmps22
  go_wp2_with fail
  refine (HC.out _ (fun b hb => ⟨(HX.out b hb).1, by have := (HX.out b hb).2; simp; omega⟩) (HM.out.up HL.out (fun b hb => (HX.out b hb).1) (HD.out _ _))).mono ?_
  rintro e w2 ⟨q, rfl, q1, q2, q3, q4⟩
  have hqM : c.M1 ≤ q := by simp at q1; have := HP.out.2.2; omega
  have hqX : ¬ X q := fun hx => by have := (HX.out q hx).2; simp at q1; omega
  have HM2 : Hid (Memo c X w2) := q3.more (fun b hb => .inl (.inl hb))
  have HF : Hid (FM c.M0 c.M1 w w2) := ((FM.refl _ _ w).up (HD.out _ _)).trans q4
  have HQ : Hid (BAt w2 q (c.s.size + 1) (En.Ends c.ps c.s k i)) := ⟨q2.1, fun j hj => by
    obtain ⟨b, b1, b2⟩ := q2.2 j hj
    exact ⟨b, b1, b2.trans (HE.out j).symm⟩⟩
  obtain ⟨t1, t2, t3, ⟨tb, t4⟩, t5, t6, t7, tu, t8⟩ := tail_cells HL.out HM2.out k i hk hi
  clear q1 q2 q3 q4 HM HE HC c0 c1 c2 c3 c4 c5 p0 p1 p2 hd HD HX HP
  go_wp2_with fail
  go_ret
  exact tail_post HL.out HM2.out k i q _ hk hi hqM hqX HQ.out HF.out

set_option maxHeartbeats 4000000 in
set_option maxRecDepth 100000 in
theorem spAt_Alt (c : Mm) (L : Lie c) (k : Nat) (hk : k < c.K) (X : Nat → Prop) (w : World) (i : Nat) (hX : ∀ b, X b → c.M1 ≤ b ∧ b < w.heap.size) (h : Memo c X w) (hi : i < c.s.size + 1) (hd : w.cell? ⟨c.D k, i, none⟩ = some (.bool false)) (hop : (c.ps.getD k Pi.no).op = 6) (a0 a1 : Nat) (hks : (c.ps.getD k Pi.no).kids = [(a0 : Int), (a1 : Int)]) (e0 : En.kid (c.ps.getD k Pi.no) 0 = a0) (e1 : En.kid (c.ps.getD k Pi.no) 1 = a1) (hC0 : AtC c a0) (hC1 : AtC c a1) :
    Calls Try.prog 22 #[.pointer (some ⟨c.m, 0, none⟩), .int .i64 (k : Int), .int .i64 (i : Int)] w (AtPost c X (En.Ends c.ps c.s k i) w) := by
  obtain ⟨c0, c1, c2, c3, c4, c5, -, -, -⟩ := h.cells k i hk hi
  obtain ⟨pb, po, pc, kv, epv, hpb, p0, p1, p2, hkv⟩ := h.piece L k hk
  rw [epv] at c0
  have hs := L.hs
  have HE : Hid (∀ j, En.Ends c.ps c.s k i j ↔ (En.Ends c.ps c.s a0 i j ∨ En.Ends c.ps c.s a1 i j)) := fun j => (En.alt2 hop).trans (by rw [e0, e1])
  obtain ⟨tx, htx⟩ : ∃ tx, tx = (c.ps.getD k Pi.no).text := ⟨_, rfl⟩
  rw [← htx] at p1
  rw [hop] at p0
  rw [hks] at hkv
  have HC : Hid (∀ W : World, (∀ b, X b → c.M1 ≤ b ∧ b < W.heap.size) → Memo c X W → Calls Try.prog 42 #[.pointer (some ⟨c.m, 0, none⟩), .agg #[.int .i64 6, .string tx, kv], .int .i64 (i : Int)] W (fun e w' => ∃ q, e = .returned (.slice (some ⟨q, 0, none⟩) (c.s.size + 1) (c.s.size + 1)) ∧ W.heap.size ≤ q ∧ BAt w' q (c.s.size + 1) (fun j => (En.Ends c.ps c.s a0 i j ∨ En.Ends c.ps c.s a1 i j)) ∧ Memo c (fun b => X b ∨ b = q) w' ∧ FM c.M0 c.M1 W w')) := fun W hXW hMW => spAlt c L i a0 a1 tx kv hkv hC0 hC1 X W hXW hMW hi
  have HM : Hid (Memo c X w) := h
  have HX : Hid (∀ b, X b → c.M1 ≤ b ∧ b < w.heap.size) := hX
  have HL : Hid (Lie c) := L
  have HP : Hid (pb < w.heap.size ∧ c.m < w.heap.size ∧ c.M1 ≤ w.heap.size) := ⟨World.block_lt_of_cell? w _ p0, World.block_lt_of_cell? w _ c0, h.2.2.2.2.2⟩
  have i0 : (i : Int) < ((c.s.size + 1 : Nat) : Int) := by omega
  have k0 : (k : Int) < (c.K : Int) := by omega
  have HD : Hid (∀ A B : Obj, Below w.heap.size w ((w.alloc A).alloc B)) := fun A B => (two_more w A B).1
  obtain ⟨ka, kc, rfl, -⟩ := hkv
  clear L h hX hop epv htx hks e0 e1 hC0 hC1
  go_enter Try.func22, Try.ntmps22
  go_wp2_with fail
  refine (HC.out _ (fun b hb => ⟨(HX.out b hb).1, by have := (HX.out b hb).2; simp; omega⟩) (HM.out.up HL.out (fun b hb => (HX.out b hb).1) (HD.out _ _))).mono ?_
  rintro e w2 ⟨q, rfl, q1, q2, q3, q4⟩
  have hqM : c.M1 ≤ q := by simp at q1; have := HP.out.2.2; omega
  have hqX : ¬ X q := fun hx => by have := (HX.out q hx).2; simp at q1; omega
  have HM2 : Hid (Memo c X w2) := q3.more (fun b hb => .inl (.inl hb))
  have HF : Hid (FM c.M0 c.M1 w w2) := ((FM.refl _ _ w).up (HD.out _ _)).trans q4
  have HQ : Hid (BAt w2 q (c.s.size + 1) (En.Ends c.ps c.s k i)) := ⟨q2.1, fun j hj => by
    obtain ⟨b, b1, b2⟩ := q2.2 j hj
    exact ⟨b, b1, b2.trans (HE.out j).symm⟩⟩
  obtain ⟨t1, t2, t3, ⟨tb, t4⟩, t5, t6, t7, tu, t8⟩ := tail_cells HL.out HM2.out k i hk hi
  clear q1 q2 q3 q4 HM HE HC c0 c1 c2 c3 c4 c5 p0 p1 p2 hd HD HX HP
  go_wp2_with fail
  go_ret
  exact tail_post HL.out HM2.out k i q _ hk hi hqM hqX HQ.out HF.out

set_option maxHeartbeats 4000000 in
set_option maxRecDepth 100000 in
theorem spAt_star (c : Mm) (L : Lie c) (k : Nat) (hk : k < c.K) (X : Nat → Prop) (w : World) (i : Nat) (hX : ∀ b, X b → c.M1 ≤ b ∧ b < w.heap.size) (h : Memo c X w) (hi : i < c.s.size + 1) (hd : w.cell? ⟨c.D k, i, none⟩ = some (.bool false)) (hop : (c.ps.getD k Pi.no).op = 7) (a0 : Nat) (ha0 : a0 < c.K) (hks : (c.ps.getD k Pi.no).kids = [(a0 : Int)]) (e0 : En.kid (c.ps.getD k Pi.no) 0 = a0) (hC0 : AtC c a0) :
    Calls Try.prog 22 #[.pointer (some ⟨c.m, 0, none⟩), .int .i64 (k : Int), .int .i64 (i : Int)] w (AtPost c X (En.Ends c.ps c.s k i) w) := by
  obtain ⟨c0, c1, c2, c3, c4, c5, -, -, -⟩ := h.cells k i hk hi
  obtain ⟨pb, po, pc, kv, epv, hpb, p0, p1, p2, hkv⟩ := h.piece L k hk
  rw [epv] at c0
  have hs := L.hs
  have HE : Hid (∀ j, En.Ends c.ps c.s k i j ↔ (j = i ∨ ∃ v, En.Reach c.ps c.s a0 i v ∧ En.Ends c.ps c.s a0 v j)) := fun j => (En.star2 hop).trans (by rw [e0])
  obtain ⟨tx, htx⟩ : ∃ tx, tx = (c.ps.getD k Pi.no).text := ⟨_, rfl⟩
  rw [← htx] at p1
  rw [hop] at p0
  rw [hks] at hkv
  have HC : Hid (∀ W : World, (∀ b, X b → c.M1 ≤ b ∧ b < W.heap.size) → Memo c X W → Calls Try.prog 43 #[.pointer (some ⟨c.m, 0, none⟩), .int .i64 (a0 : Int), .int .i64 (i : Int)] W (fun e w' => ∃ q, e = .returned (.slice (some ⟨q, 0, none⟩) (c.s.size + 1) (c.s.size + 1)) ∧ W.heap.size ≤ q ∧ (∃ fo, BBlk w' q (c.s.size + 1) fo ∧ ∀ j, j < c.s.size + 1 → (fo j = true ↔ ∃ v, En.Reach c.ps c.s a0 i v ∧ En.Ends c.ps c.s a0 v j)) ∧ Memo c (fun b => X b ∨ b = q) w' ∧ FM c.M0 c.M1 W w')) := fun W hXW hMW => spAgain c L a0 i ha0 hC0 X W hXW hMW hi
  have HM : Hid (Memo c X w) := h
  have HX : Hid (∀ b, X b → c.M1 ≤ b ∧ b < w.heap.size) := hX
  have HL : Hid (Lie c) := L
  have HP : Hid (pb < w.heap.size ∧ c.m < w.heap.size ∧ c.M1 ≤ w.heap.size) := ⟨World.block_lt_of_cell? w _ p0, World.block_lt_of_cell? w _ c0, h.2.2.2.2.2⟩
  have i0 : (i : Int) < ((c.s.size + 1 : Nat) : Int) := by omega
  have k0 : (k : Int) < (c.K : Int) := by omega
  have HD : Hid (∀ A B : Obj, Below w.heap.size w ((w.alloc A).alloc B)) := fun A B => (two_more w A B).1
  obtain ⟨ka, kc, rfl, hf⟩ := hkv
  obtain ⟨kb, ko, rfl, hkl, hkc⟩ := hf (by simp)
  have hbl := h.2.2.2.2.1
  rw [L.hI] at hbl
  have k00 : w.cell? ⟨kb, ko, none⟩ = some (.int .i64 (a0 : Int)) := (hbl.cell (p := ⟨kb, ko, none⟩) hkl).trans (hkc 0 (by simp))
  have hkbl : kb < w.heap.size := World.block_lt_of_cell? w _ k00
  have k01 : ∀ A B : Obj, ((w.alloc A).alloc B).cell? ⟨kb, ko, none⟩ = some (.int .i64 (a0 : Int)) := fun A B => ((HD.out A B).cell (p := ⟨kb, ko, none⟩) hkbl).trans k00
  simp only [List.length_cons, List.length_nil, Nat.zero_add] at p2 ⊢
  clear L h hX hop epv htx hks e0 hC0 hf hkc hkl hbl k00
  go_enter Try.func22, Try.ntmps22
  go_wp2_with fail
  refine (HC.out _ (fun b hb => ⟨(HX.out b hb).1, by have := (HX.out b hb).2; simp; omega⟩) (HM.out.up HL.out (fun b hb => (HX.out b hb).1) (HD.out _ _))).mono ?_
  rintro e w2 ⟨q, rfl, q1, ⟨fo, q2, q2'⟩, q3, q4⟩
  have hqM : c.M1 ≤ q := by simp at q1; have := HP.out.2.2; omega
  have hqX : ¬ X q := fun hx => by have := (HX.out q hx).2; simp at q1; omega
  have HB : Hid (BFst w2 q (c.s.size + 1) fo) := q2.fst
  obtain ⟨o1, o2⟩ := HB.out.cell i hi
  have HQ : Hid (BAt (w2.setCell ⟨q, i, none⟩ (.bool true)) q (c.s.size + 1) (En.Ends c.ps c.s k i)) := HB.out.set i true _ (fun j hj => by
    rw [HE.out j]
    by_cases hji : j = i
    · simp [hji]
    · rw [if_neg hji, q2' j hj]
      exact ⟨.inr, fun h => h.resolve_left hji⟩)
  have HM2 : Hid (Memo c X (w2.setCell ⟨q, i, none⟩ (.bool true))) := Memo.own HL.out (fun b hb => (HX.out b hb).1) q i _ hqM q3
  have HF : Hid (FM c.M0 c.M1 w (w2.setCell ⟨q, i, none⟩ (.bool true))) := (((FM.refl _ _ w).up (HD.out _ _)).trans q4).own q i _ (by simp at q1; omega)
  obtain ⟨t1, t2, t3, ⟨tb, t4⟩, t5, t6, t7, tu, t8⟩ := tail_cells HL.out HM2.out k i hk hi
  clear q1 q2 q2' q3 q4 HM HE HC c0 c1 c2 c3 c4 c5 p0 p1 p2 hd HD HX HP k01 hkbl
  go_wp2_with fail
  go_ret
  exact tail_post HL.out HM2.out k i q _ hk hi hqM hqX HQ.out HF.out

set_option maxHeartbeats 4000000 in
set_option maxRecDepth 100000 in
theorem spAt_plus (c : Mm) (L : Lie c) (k : Nat) (hk : k < c.K) (X : Nat → Prop) (w : World) (i : Nat) (hX : ∀ b, X b → c.M1 ≤ b ∧ b < w.heap.size) (h : Memo c X w) (hi : i < c.s.size + 1) (hd : w.cell? ⟨c.D k, i, none⟩ = some (.bool false)) (hop : (c.ps.getD k Pi.no).op = 8) (a0 : Nat) (ha0 : a0 < c.K) (hks : (c.ps.getD k Pi.no).kids = [(a0 : Int)]) (e0 : En.kid (c.ps.getD k Pi.no) 0 = a0) (hC0 : AtC c a0) :
    Calls Try.prog 22 #[.pointer (some ⟨c.m, 0, none⟩), .int .i64 (k : Int), .int .i64 (i : Int)] w (AtPost c X (En.Ends c.ps c.s k i) w) := by
  obtain ⟨c0, c1, c2, c3, c4, c5, -, -, -⟩ := h.cells k i hk hi
  obtain ⟨pb, po, pc, kv, epv, hpb, p0, p1, p2, hkv⟩ := h.piece L k hk
  rw [epv] at c0
  have hs := L.hs
  have HE : Hid (∀ j, En.Ends c.ps c.s k i j ↔ ∃ v, En.Reach c.ps c.s a0 i v ∧ En.Ends c.ps c.s a0 v j) := fun j => (En.plus2 hop).trans (by rw [e0])
  obtain ⟨tx, htx⟩ : ∃ tx, tx = (c.ps.getD k Pi.no).text := ⟨_, rfl⟩
  rw [← htx] at p1
  rw [hop] at p0
  rw [hks] at hkv
  have HC : Hid (∀ W : World, (∀ b, X b → c.M1 ≤ b ∧ b < W.heap.size) → Memo c X W → Calls Try.prog 43 #[.pointer (some ⟨c.m, 0, none⟩), .int .i64 (a0 : Int), .int .i64 (i : Int)] W (fun e w' => ∃ q, e = .returned (.slice (some ⟨q, 0, none⟩) (c.s.size + 1) (c.s.size + 1)) ∧ W.heap.size ≤ q ∧ (∃ fo, BBlk w' q (c.s.size + 1) fo ∧ ∀ j, j < c.s.size + 1 → (fo j = true ↔ ∃ v, En.Reach c.ps c.s a0 i v ∧ En.Ends c.ps c.s a0 v j)) ∧ Memo c (fun b => X b ∨ b = q) w' ∧ FM c.M0 c.M1 W w')) := fun W hXW hMW => spAgain c L a0 i ha0 hC0 X W hXW hMW hi
  have HM : Hid (Memo c X w) := h
  have HX : Hid (∀ b, X b → c.M1 ≤ b ∧ b < w.heap.size) := hX
  have HL : Hid (Lie c) := L
  have HP : Hid (pb < w.heap.size ∧ c.m < w.heap.size ∧ c.M1 ≤ w.heap.size) := ⟨World.block_lt_of_cell? w _ p0, World.block_lt_of_cell? w _ c0, h.2.2.2.2.2⟩
  have i0 : (i : Int) < ((c.s.size + 1 : Nat) : Int) := by omega
  have k0 : (k : Int) < (c.K : Int) := by omega
  have HD : Hid (∀ A B : Obj, Below w.heap.size w ((w.alloc A).alloc B)) := fun A B => (two_more w A B).1
  obtain ⟨ka, kc, rfl, hf⟩ := hkv
  obtain ⟨kb, ko, rfl, hkl, hkc⟩ := hf (by simp)
  have hbl := h.2.2.2.2.1
  rw [L.hI] at hbl
  have k00 : w.cell? ⟨kb, ko, none⟩ = some (.int .i64 (a0 : Int)) := (hbl.cell (p := ⟨kb, ko, none⟩) hkl).trans (hkc 0 (by simp))
  have hkbl : kb < w.heap.size := World.block_lt_of_cell? w _ k00
  have k01 : ∀ A B : Obj, ((w.alloc A).alloc B).cell? ⟨kb, ko, none⟩ = some (.int .i64 (a0 : Int)) := fun A B => ((HD.out A B).cell (p := ⟨kb, ko, none⟩) hkbl).trans k00
  simp only [List.length_cons, List.length_nil, Nat.zero_add] at p2 ⊢
  clear L h hX hop epv htx hks e0 hC0 hf hkc hkl hbl k00
  go_enter Try.func22, Try.ntmps22
  go_wp2_with fail
  refine (HC.out _ (fun b hb => ⟨(HX.out b hb).1, by have := (HX.out b hb).2; simp; omega⟩) (HM.out.up HL.out (fun b hb => (HX.out b hb).1) (HD.out _ _))).mono ?_
  rintro e w2 ⟨q, rfl, q1, ⟨fo, q2, q2'⟩, q3, q4⟩
  have hqM : c.M1 ≤ q := by simp at q1; have := HP.out.2.2; omega
  have hqX : ¬ X q := fun hx => by have := (HX.out q hx).2; simp at q1; omega
  have HM2 : Hid (Memo c X w2) := q3.more (fun b hb => .inl (.inl hb))
  have HF : Hid (FM c.M0 c.M1 w w2) := ((FM.refl _ _ w).up (HD.out _ _)).trans q4
  have HQ : Hid (BAt w2 q (c.s.size + 1) (En.Ends c.ps c.s k i)) := q2.at _ (fun j hj => (q2' j hj).trans (HE.out j).symm)
  obtain ⟨t1, t2, t3, ⟨tb, t4⟩, t5, t6, t7, tu, t8⟩ := tail_cells HL.out HM2.out k i hk hi
  clear q1 q2 q2' q3 q4 HM HE HC c0 c1 c2 c3 c4 c5 p0 p1 p2 hd HD HX HP k01 hkbl
  go_wp2_with fail
  go_ret
  exact tail_post HL.out HM2.out k i q _ hk hi hqM hqX HQ.out HF.out
end PartSpM
end Go.Proofs.Ytlnmbahakdmkgaa
