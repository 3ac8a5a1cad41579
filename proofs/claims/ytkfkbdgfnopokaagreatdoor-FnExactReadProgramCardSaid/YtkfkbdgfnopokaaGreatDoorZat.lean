/- The specification's reader of a program: statements and blocks, however deep; rows of rules. The program's writer of nodes: the program of some rules. -/
import Derived.Test.YtkfkbdgfnopokaaGreatDoorPrN
import Derived.Test.YtkfkbdgfnopokaaGreatDoorPgF
import Derived.Test.YtkfkbdgfnopokaaGreatDoorZas
namespace Go.Proofs.YtkfkbdgfnopokaaGreatDoor
section PartPrO
open Go.RowKit
section
variable {ts : List Tk.Tok} {B g : Nat} {L : Value} {Xs : Nat → Prop} {d : Int} {st : Pr.PS}
set_option maxRecDepth 100000 in
set_option maxHeartbeats 1000000 in
theorem conStatementBad (hdd : 30 < d) : Con ts B g L 83 d Pr.stop := by
 intro st hlm hd Xs w0 v0 w v h
 have HA : Hid (At ts B g L Xs w0 v0 w d st v) := h
 obtain ⟨c0, c1, c2, c3, c4, f1, f2, f3, f4⟩ := cells5 h.rs.rg
 rw [hd hdd] at c3
 obtain ⟨ad, cap, rfl, -⟩ := h.rs.tk
 clear h hd hdd hlm
 unfold me at *
 go_enter Tryz.func83, Tryz.ntmps83
 go_wp2_with fail
 go_quiet (fail)
 go_wp2
 go_ret
 exact ⟨v, rfl, (HA.out.drew _).fail⟩
theorem conT (hl : ts.length ≤ 200) (hts : Pr.Tsm ts) : ∀ n : Nat, n ≤ 30 → ∀ d : Int, d = 30 - (n : Int) → Con ts B g L 48 d (Pr.T ts n) := by
 intro n
 induction n with
 | zero =>
  intro _ d hd
  refine (conStatement (F := Pr.stop) (conStatementBad (by omega)) (by omega) (by omega)).of (fun st _ => ?_)
  rw [deeper_far (by omega)]
  rfl
 | succ n ih =>
  intro hn d hd
  have hT := ih (by omega) (d + 1) (by omega)
  have hE := (conSE (B := B) (g := g) (L := L) hl hts n (by omega) (d + 1) (by omega)).2
  refine (conStatement (conStatementOne hE hT ((Pr.fnSE (ts := ts) hts n).2.up (m' := 6 * n + 5) (by omega)) (Pr.fnT hts hl n) (fun st => Pr.T_prog hts hl n st) (by omega) hl hts) (by omega) (by omega)).of (fun st _ => ?_)
  rw [deeper_near (by omega)]
  rfl
theorem blockTop (hl : ts.length ≤ 200) (hts : Pr.Tsm ts) (hlm : Pr.Lm ts 280 st) : Step ts B g L 19 #[me g] 0 st (.int .i64 (Pr.block ts (Pr.T ts 30) st).2) 0 (Pr.block ts (Pr.T ts 30) st).1 :=
 stBlock (conT hl hts 30 (Nat.le_refl _) 0 (by omega)) (Pr.fnT hts hl 30) (fun st => Pr.T_prog hts hl 30 st) (by omega) hl hlm (by omega)
theorem exprTop (hl : ts.length ≤ 200) (hts : Pr.Tsm ts) : Con ts B g L 18 0 (Pr.SE ts 30).2 := (conSE hl hts 30 (Nat.le_refl _) 0 (by omega)).2
theorem At.touch {w0 w w' : World} {v0 v : Value} {x : Nat} (h : At ts B g L Xs w0 v0 w d st v) (hx : Xs x) (hw : w0.heap.size ≤ x) (hs : w'.heap.size = w.heap.size) (he : Env w w') (hk : ∀ k, k ≠ x → w'.heap[k]? = w.heap[k]?) : At ts B g L Xs w0 v0 w' d st v := by
 have hxb := h.rs.xb x hx
 have e : RS ts B g L (plus Xs x) w d st v := h.rs.sub fun y hy => hy.elim id (fun e => e ▸ hx)
 have e2 := e.poke (q' := x) (by omega) (fun k _ hne => hk k hne) (.inl rfl) (by omega)
 refine ⟨e2.sub (fun y hy => .inl hy), h.kb.1.trans he, by have := h.kb.2.1; omega, fun k hk2 hg hv => (hk k (by omega)).trans (h.kb.2.2.1 k hk2 hg hv), h.kb.2.2.2⟩
theorem At.setX {w0 w : World} {v0 v : Value} {x : Nat} (h : At ts B g L Xs w0 v0 w d st v) (hx : Xs x) (hw : w0.heap.size ≤ x) (o : Nat) (u : Value) : At ts B g L Xs w0 v0 (w.setCell ⟨x, o, none⟩ u) d st v :=
 h.touch hx hw (by simp [World.setCell]) ⟨rfl, rfl, rfl⟩ (fun k hk => Below.heap_setCell _ _ _ _ (by show k ≠ x; exact hk))
end
def rlc (r : Pg.Rl) : List Value := [.int .i64 r.when, .int .i64 r.cond, .int .i64 r.act]
theorem infoRl : (Tryz.prog.info? 48).map (fun i => (i.zero, i.size, i.bytes)) = some (some (.agg #[.int .i64 0, .int .i64 0, .int .i64 0]), 3, 24) := by kernel_rfl
def RRow (B : Nat) (w : World) (v : Value) (rs : List Pg.Rl) : Prop := w.ownsRow B 48 3 v rs.length (rs.flatMap rlc)
theorem rl_get (rs : List Pg.Rl) : ∀ j, j < rs.length → (rs.flatMap rlc)[j * 3]? = some (.int .i64 (rs.getD j Pg.Rl.no).when) ∧ (rs.flatMap rlc)[j * 3 + 1]? = some (.int .i64 (rs.getD j Pg.Rl.no).cond) ∧ (rs.flatMap rlc)[j * 3 + 2]? = some (.int .i64 (rs.getD j Pg.Rl.no).act) := by
 induction rs with
 | nil => intro j hj; simp at hj
 | cons r rs ih =>
  intro j hj
  cases j with
  | zero => simp [List.flatMap_cons, rlc]
  | succ j =>
   obtain ⟨h1, h2, h3⟩ := ih j (by simpa using hj)
   have hl : (rlc r).length = 3 := rfl
   have e0 : (j + 1) * 3 = 3 + j * 3 := by omega
   rw [List.flatMap_cons, e0]
   refine ⟨?_, ?_, ?_⟩
   ·rw [List.getElem?_append_right (by omega), hl, Nat.add_sub_cancel_left]; simpa using h1
   ·rw [List.getElem?_append_right (by omega), hl, show 3 + j * 3 + 1 - 3 = j * 3 + 1 by omega]; simpa using h2
   ·rw [List.getElem?_append_right (by omega), hl, show 3 + j * 3 + 2 - 3 = j * 3 + 2 by omega]; simpa using h3
theorem RRow.at {B : Nat} {w : World} {v : Value} {rs : List Pg.Rl} (h : RRow B w v rs) : RlsAt w v rs := by
 rcases h.2 with ⟨rfl, hn⟩ | ⟨b, cap, cur, rfl, h1, hg, hcap, hmax, hsz, htake⟩
 ·exact ⟨none, 0, by rw [hn], fun h0 => by omega⟩
 ·refine ⟨_, cap, rfl, fun _ => ⟨b, 0, rfl, blk_lt hg, fun i hi => ?_⟩⟩
  obtain ⟨g1, g2, g3⟩ := rl_get rs i hi
  have key : ∀ o, o < 3 → w.cell? ⟨b, 0 + i * 3 + o, none⟩ = (rs.flatMap rlc)[i * 3 + o]? := by
   intro o ho
   rw [blk_cell hg, ← htake, Nat.zero_add, List.getElem?_take_of_lt (by omega)]
   simp
  exact ⟨(key 0 (by omega)).trans g1, (key 1 (by omega)).trans g2, (key 2 (by omega)).trans g3⟩
theorem RRow.keep {B : Nat} {w w' : World} {u : Value} {zs : List Pg.Rl} (h : RRow B w u zs) (hb : ∀ q, u.ownBlock = some q → w'.heap[q]? = w.heap[q]?) : RRow B w' u zs := by
 refine ⟨h.1, ?_⟩
 rcases h.2 with hn | ⟨g, cap, cur, rfl, h1, hg, rest⟩
 ·exact .inl hn
 ·refine .inr ⟨g, cap, cur, rfl, h1, ?_, rest⟩
  rw [hb g rfl]
  exact hg
theorem NP.at {B g : Nat} {Xs : Nat → Prop} {w : World} {v : Value} {ps : List Pi} (h : NP B g Xs w v ps) : PcsAt w v ps := by
 obtain ⟨cs, hn, hcl, f⟩ := h
 rcases hn.2 with ⟨rfl, h0⟩ | ⟨b, cap, cur, rfl, h1, hg, hcap, hmax, hsz, htake⟩
 ·exact ⟨none, 0, by rw [h0], fun h => by omega⟩
 ·refine ⟨_, cap, rfl, fun _ => ⟨b, 0, rfl, blk_lt hg, fun i hi => ?_⟩⟩
  obtain ⟨g1, g2, u, g3, g4⟩ := f i hi
  have key : ∀ o, o < 3 → w.cell? ⟨b, 0 + i * 3 + o, none⟩ = cs[i * 3 + o]? := by
   intro o ho
   rw [blk_cell hg, ← htake, Nat.zero_add, List.getElem?_take_of_lt (by omega)]
   simp
  exact ⟨u, (key 0 (by omega)).trans g1, (key 1 (by omega)).trans g2, (key 2 (by omega)).trans g3, g4.at⟩
end PartPrO
section PartRsJ
open Go.RowKit
theorem RRow.pushR {ops : Array Oper} {rest : List Oper} {o : Oper} {a : Act} {Q : Exit → Act → World → Prop} {B : Nat} {w : World} {v : Value} {rs : List Pg.Rl}
  (hown : RRow B w v rs) (hgd : o.guard = none) (s x : Operand)
  (ho : o.op = .call { callee := .builtin .append, args := #[s, x], argTypes := #[23, 23] })
  (hs : a.eval s = v) (r : Pg.Rl) (arr : Array Value) (harr : arr = (rlc r).toArray) (hx : a.eval x = .slice (some ⟨w.heap.size, 0, none⟩) 1 1)
  (hlen : rs.length < 100000) (hB : B ≤ w.heap.size)
  (h : ∀ q cap w', RRow B w' (.slice (some ⟨q, 0, none⟩) (rs.length + 1) cap) (rs ++ [r]) → (v.ownBlock = some q ∨ w.heap.size ≤ q) → q < w'.heap.size → w.heap.size ≤ w'.heap.size → Env w w' → (∀ k, k < w.heap.size → v.ownBlock ≠ some k → w'.heap[k]? = w.heap[k]?) →
   wpList Tryz.prog ops Q rest (a.put o.dst (.slice (some ⟨q, 0, none⟩) (rs.length + 1) cap)) w') :
  wpList Tryz.prog ops Q (o :: rest) a (w.alloc (.cells arr 48)) := by
 subst harr
 obtain ⟨i0, hi, hz0, hz1, hz2⟩ := info_parts infoRl
 refine wpList_append_lies _ hgd s x 23 ho B 48 i0 (.agg #[.int .i64 0, .int .i64 0, .int .i64 0]) 3 24 Tryz.underlying23 hi hz0 hz1 hz2 rfl (by decide) v rs.length (rs.flatMap rlc) hs (World.ownsRow.alloc hown _) ⟨w.heap.size, 0, none⟩ 1 1 (rlc r) hx rfl
  (World.news_of_block (cs := (rlc r).toArray) (t := 48) (fr := (0, 0)) (heap_alloc_new w _)) ?_ (by omega) ?_ ?_ ?_ (w.heap.size + 1) (by simp) ?_
 ·intro z hz
  simp only [rlc, List.mem_cons, List.not_mem_nil, or_false] at hz
  rcases hz with rfl | rfl | rfl <;> rfl
 ·unfold maxLen; omega
 ·omega
 ·simp; omega
 ·intro g cap w' h2 h3 h4 h5
  have hb0 : Below w.heap.size w (w.alloc (.cells (rlc r).toArray 48)) := (Below.refl _ w).alloc (Nat.le_refl _) _
  have hs3 := h3.size
  simp at hs3
  have hb3 : Below B w w' := (hb0.mono hB).grown h3 (by simp; omega) (fun k hk => (World.ownsRow.lt hown k hk).1)
  refine h g cap w' ?_ (h4.imp id (fun e => by omega)) h5 (by omega) ⟨hb3.os, hb3.tape, hb3.output⟩ ?_
  ·unfold RRow
   rw [List.flatMap_append]
   simpa using h2
  ·intro k hk hne
   rw [h3.block k (by simp; omega) (fun e => hne e.symm)]
   exact hb0.block k hk
theorem ru_get (us : List Ru) : ∀ j (hj : j < us.length), (us.flatMap Ru.cells)[j * 3]? = some (.int .i64 ((us[j]).when : Int)) ∧ (us.flatMap Ru.cells)[j * 3 + 1]? = some (tvo (us[j]).test) ∧ (us.flatMap Ru.cells)[j * 3 + 2]? = some (tv (us[j]).doo.k) := by
 induction us with
 | nil => intro j hj; simp at hj
 | cons r us ih =>
  intro j hj
  cases j with
  | zero => simp [List.flatMap_cons, Ru.cells]
  | succ j =>
   obtain ⟨h1, h2, h3⟩ := ih j (by simpa using hj)
   have hl : (Ru.cells r).length = 3 := rfl
   have e0 : (j + 1) * 3 = 3 + j * 3 := by omega
   rw [List.flatMap_cons, e0]
   refine ⟨?_, ?_, ?_⟩
   ·rw [List.getElem?_append_right (by omega), hl, Nat.add_sub_cancel_left]; simpa using h1
   ·rw [List.getElem?_append_right (by omega), hl, show 3 + j * 3 + 1 - 3 = j * 3 + 1 by omega]; simpa using h2
   ·rw [List.getElem?_append_right (by omega), hl, show 3 + j * 3 + 2 - 3 = j * 3 + 2 by omega]; simpa using h3
theorem RRw.at {B : Nat} {w : World} {v : Value} {us : List Ru} (h : RRw B w v us) : ∃ ad cap, v = .slice ad us.length cap ∧ (0 < us.length → ∃ b, ad = some ⟨b, 0, none⟩ ∧ b < w.heap.size ∧ ∀ i (hi : i < us.length), w.cell? ⟨b, i * 3, none⟩ = some (.int .i64 ((us[i]).when : Int)) ∧ w.cell? ⟨b, i * 3 + 1, none⟩ = some (tvo (us[i]).test) ∧ w.cell? ⟨b, i * 3 + 2, none⟩ = some (tv (us[i]).doo.k)) := by
 rcases h.2 with ⟨rfl, hn⟩ | ⟨b, cap, cur, rfl, h1, hg, hcap, hmax, hsz, htake⟩
 ·exact ⟨none, 0, by rw [hn], fun h0 => by omega⟩
 ·refine ⟨_, cap, rfl, fun _ => ⟨b, rfl, blk_lt hg, fun i hi => ?_⟩⟩
  obtain ⟨g1, g2, g3⟩ := ru_get us i hi
  have key : ∀ o, o < 3 → w.cell? ⟨b, i * 3 + o, none⟩ = (us.flatMap Ru.cells)[i * 3 + o]? := by
   intro o ho
   rw [blk_cell hg, ← htake, List.getElem?_take_of_lt (by omega)]
   simp
  exact ⟨(key 0 (by omega)).trans g1, (key 1 (by omega)).trans g2, (key 2 (by omega)).trans g3⟩
def Fl.one (q : List Pi × List Pg.Rl) (p : Ru.P) : List Pi × List Pg.Rl :=
 match p.2.1 with
 | none => (q.1 ++ p.2.2 q.1.length, q.2 ++ [⟨(p.1 : Int), -1, ((q.1.length + (p.2.2 q.1.length).length : Nat) : Int) - 1⟩])
 | some T => (q.1 ++ T q.1.length ++ p.2.2 (q.1.length + (T q.1.length).length), q.2 ++ [⟨(p.1 : Int), ((q.1.length + (T q.1.length).length : Nat) : Int) - 1, ((q.1.length + (T q.1.length).length + (p.2.2 (q.1.length + (T q.1.length).length)).length : Nat) : Int) - 1⟩])
def Fl.prog (ps : List Ru.P) : List Pi × List Pg.Rl := ps.foldl Fl.one ([], [])
theorem Fl.prog_take (ps : List Ru.P) (i : Nat) (h : i < ps.length) : Fl.prog (ps.take (i + 1)) = Fl.one (Fl.prog (ps.take i)) ps[i] := by
 unfold Fl.prog
 rw [List.take_succ_eq_append_getElem h, List.foldl_append]
 rfl
theorem Fl.one_le (q : List Pi × List Pg.Rl) (p : Ru.P) : q.1.length ≤ (Fl.one q p).1.length := by
 unfold Fl.one
 split <;> simp <;> omega
theorem Fl.one_rl (q : List Pi × List Pg.Rl) (p : Ru.P) : (Fl.one q p).2.length = q.2.length + 1 := by
 unfold Fl.one
 split <;> simp
theorem Fl.prog_rl (ps : List Ru.P) : ∀ q : List Pi × List Pg.Rl, (ps.foldl Fl.one q).2.length = q.2.length + ps.length := by
 induction ps with
 | nil => intro q; rfl
 | cons p r ih => intro q; rw [List.foldl_cons, ih, Fl.one_rl, List.length_cons]; omega
theorem Fl.fold_le (ps : List Ru.P) : ∀ q : List Pi × List Pg.Rl, q.1.length ≤ (ps.foldl Fl.one q).1.length := by
 induction ps with
 | nil => intro q; exact Nat.le_refl _
 | cons p r ih => intro q; exact Nat.le_trans (Fl.one_le q p) (ih _)
theorem Fl.prog_le (ps : List Ru.P) (i : Nat) : (Fl.prog (ps.take i)).1.length ≤ (Fl.prog ps).1.length := by
 have h := Fl.fold_le (ps.drop i) (Fl.prog (ps.take i))
 unfold Fl.prog at h ⊢
 rw [← List.foldl_append, List.take_append_drop] at h
 exact h
end PartRsJ
end Go.Proofs.YtkfkbdgfnopokaaGreatDoor
