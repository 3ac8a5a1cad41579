/- Rows of numbers that the call itself made. The specification of ShowProgram: how many nodes its rules come to. The specification's reader of a program: rows of kids that grow while it reads on. The program's writer of nodes: what it holds. -/
import Derived.Test.YtkfkbdgfnopokaaGreatDoorZaa
import Derived.Test.YtkfkbdgfnopokaaGreatDoorPgF
import Derived.Test.YtkfkbdgfnopokaaGreatDoorZam
import Derived.Test.YtkfkbdgfnopokaaGreatDoorZak
namespace Go.Proofs.YtkfkbdgfnopokaaGreatDoor
section PartZRw
open Go.RowKit
def zvp (z : Nat) : Value := .int .i64 (z : Int)
theorem infoZ : (Tryz.prog.info? 3).map (fun i => (i.zero, i.size, i.bytes)) = some (some (.int .i64 0), 1, 8) := by kernel_rfl
def ZRow (B : Nat) (w : World) (v : Value) (zs : List Nat) : Prop := w.ownsRow B 3 1 v zs.length (zs.map zvp)
theorem ZRow.made {B : Nat} (w : World) (hb : B ≤ w.heap.size) : ZRow B (w.alloc (.cells #[] 3)) (.slice (some ⟨w.heap.size, 0, none⟩) 0 0) [] := World.ownsRow_made w #[] 0 hb (by decide) rfl
theorem ZRow.keep {B : Nat} {w w' : World} {v : Value} {zs : List Nat} (h : ZRow B w v zs) (hb : Below w.heap.size w w') : ZRow B w' v zs := by
 refine ⟨h.1, ?_⟩
 rcases h.2 with hn | ⟨g, cap, cur, rfl, h1, hg, rest⟩
 ·exact .inl hn
 ·refine .inr ⟨g, cap, cur, rfl, h1, ?_, rest⟩
  rw [hb.block g (Array.getElem?_eq_some_iff.1 hg).1]
  exact hg
theorem ZRow.push {ops : Array Oper} {rest : List Oper} {o : Oper} {a : Act} {Q : Exit → Act → World → Prop} {B : Nat} {w : World} {v : Value} {zs : List Nat}
  (hown : ZRow B w v zs) (hgd : o.guard = none) (s x : Operand)
  (ho : o.op = .call { callee := .builtin .append, args := #[s, x], argTypes := #[84, 84] })
  (hs : a.eval s = v) (z : Int) (c : Nat) (hz : z = (c : Int)) (hx : a.eval x = .slice (some ⟨w.heap.size, 0, none⟩) 1 1)
  (hlen : zs.length < 1000000) (hB : B ≤ w.heap.size)
  (h : ∀ v' w', ZRow B w' v' (zs ++ [c]) → Below B w w' → wpList Tryz.prog ops Q rest (a.put o.dst v') w') :
  wpList Tryz.prog ops Q (o :: rest) a (w.alloc (.cells #[.int .i64 z] 3)) := by
 subst hz
 obtain ⟨i0, hi, hz0, hz1, hz2⟩ := info_parts infoZ
 refine wpList_append_own _ hgd s x 84 ho B 3 i0 (.int .i64 0) 1 8 Tryz.underlying84 hi hz0 hz1 hz2 rfl (by decide) v zs.length (zs.map zvp) hs (World.ownsRow.alloc hown _) ⟨w.heap.size, 0, none⟩ 1 1 [zvp c] hx rfl (cell_one_new _ _ _) ?_ ?_ ?_ ?_ ?_
 ·intro u hu; simp at hu; subst hu; rfl
 ·unfold maxLen; omega
 ·omega
 ·simp; omega
 ·intro v' w' h2 h3 _
  refine h v' w' ?_ ?_
  ·unfold ZRow; simpa using h2
  ·exact ((Below.refl B w).alloc hB _).grown h3 (by simp; omega) (fun k hk => (hown.lt k hk).1)
theorem ZRow.form {B : Nat} {w : World} {v : Value} {zs : List Nat} (h : ZRow B w v zs) : ∃ ad cap, v = .slice ad zs.length cap ∧ (0 < zs.length → ∃ g, ad = some ⟨g, 0, none⟩ ∧ ∀ j, j < zs.length → w.cell? ⟨g, j, none⟩ = some (.int .i64 ((zs.getD j 0 : Nat) : Int))) := by
 rcases h.2 with ⟨rfl, hn⟩ | ⟨g, cap, cur, rfl, h1, hg, _⟩
 ·refine ⟨none, 0, by rw [hn], fun h0 => by omega⟩
 ·refine ⟨_, cap, rfl, fun _ => ⟨g, rfl, fun j hj => ?_⟩⟩
  rw [World.ownsRow.cellAt h j (by omega)]
  simp [hj, zvp]
end PartZRw
section PartPgG
open Go.RowKit
namespace Pg
end Pg
end PartPgG
section PartPrK
open Go.RowKit
def IRow (B : Nat) (w : World) (u : Value) (zs : List Int) : Prop := w.ownsRow B 3 1 u zs.length (zs.map iv)
theorem IRow.push {ops : Array Oper} {rest : List Oper} {o : Oper} {a : Act} {Q : Exit → Act → World → Prop} {B : Nat} {w : World} {v : Value} {zs : List Int}
  (hown : IRow B w v zs) (hgd : o.guard = none) (s x : Operand)
  (ho : o.op = .call { callee := .builtin .append, args := #[s, x], argTypes := #[84, 84] })
  (hs : a.eval s = v) (z : Int) (H : Nat) (hH : w.heap.size = H) (hx : a.eval x = .slice (some ⟨H, 0, none⟩) 1 1)
  (hlen : zs.length < 1000000) (hB : B ≤ w.heap.size)
  (h : ∀ q cap w', IRow B w' (.slice (some ⟨q, 0, none⟩) (zs.length + 1) cap) (zs ++ [z]) → (v.ownBlock = some q ∨ w.heap.size ≤ q) → q < w'.heap.size → w.heap.size ≤ w'.heap.size → Env w w' → (∀ k, k < w.heap.size → v.ownBlock ≠ some k → w'.heap[k]? = w.heap[k]?) →
   wpList Tryz.prog ops Q rest (a.put o.dst (.slice (some ⟨q, 0, none⟩) (zs.length + 1) cap)) w') :
  wpList Tryz.prog ops Q (o :: rest) a (w.alloc (.cells #[.int .i64 z] 3)) := by
 subst hH
 obtain ⟨i0, hi, hz0, hz1, hz2⟩ := info_parts infoZ
 refine wpList_append_lies _ hgd s x 84 ho B 3 i0 (.int .i64 0) 1 8 Tryz.underlying84 hi hz0 hz1 hz2 rfl (by decide) v zs.length (zs.map iv) hs (World.ownsRow.alloc hown _) ⟨w.heap.size, 0, none⟩ 1 1 [iv z] hx rfl
  (World.news_of_block (cs := #[.int .i64 z]) (t := 3) (fr := (0, 0)) (heap_alloc_new w _)) ?_ (by omega) ?_ ?_ ?_ (w.heap.size + 1) (by simp) ?_
 ·intro u hu
  simp at hu
  subst hu
  rfl
 ·unfold maxLen; omega
 ·omega
 ·simp; omega
 ·intro g cap w' h2 h3 h4 h5
  have hb0 : Below w.heap.size w (w.alloc (.cells #[.int .i64 z] 3)) := (Below.refl _ w).alloc (Nat.le_refl _) _
  have hs3 := h3.size
  simp at hs3
  have hb3 : Below B w w' := (hb0.mono hB).grown h3 (by simp; omega) (fun k hk => (World.ownsRow.lt hown k hk).1)
  refine h g cap w' ?_ (h4.imp id (fun e => by omega)) h5 (by omega) ⟨hb3.os, hb3.tape, hb3.output⟩ ?_
  ·unfold IRow
   simpa using h2
  ·intro k hk hne
   rw [h3.block k (by simp; omega) (fun e => hne e.symm)]
   exact hb0.block k hk
theorem IRow.keep {B : Nat} {w w' : World} {u : Value} {zs : List Int} (h : IRow B w u zs) (hb : ∀ q, u.ownBlock = some q → w'.heap[q]? = w.heap[q]?) : IRow B w' u zs := by
 refine ⟨h.1, ?_⟩
 rcases h.2 with hn | ⟨g, cap, cur, rfl, h1, hg, rest⟩
 ·exact .inl hn
 ·refine .inr ⟨g, cap, cur, rfl, h1, ?_, rest⟩
  rw [hb g rfl]
  exact hg
theorem IRow.new1 {B : Nat} (w : World) (hb : B ≤ w.heap.size) (z : Int) : IRow B (w.alloc (.cells #[.int .i64 z] 3)) (.slice (some ⟨w.heap.size, 0, none⟩) 1 1) [z] := ⟨rfl, .inr ⟨w.heap.size, 1, #[.int .i64 z], rfl, hb, heap_alloc_new w _, Nat.le_refl _, by decide, rfl, rfl⟩⟩
theorem IRow.new0 {B : Nat} (w : World) (hb : B ≤ w.heap.size) : IRow B (w.alloc (.cells #[] 3)) (.slice (some ⟨w.heap.size, 0, none⟩) 0 0) [] := World.ownsRow_made w #[] 0 hb (by decide) rfl
def plus (Xs : Nat → Prop) (q : Nat) : Nat → Prop := fun x => Xs x ∨ x = q
section
variable {ts : List Tk.Tok} {B g : Nat} {L : Value} {Xs : Nat → Prop} {d : Int} {st : Pr.PS}
theorem IRow.kf {w : World} {v u : Value} {zs : List Int} {q : Nat} (h : IRow B w u zs) (hr : RS ts B g L (plus Xs q) w d st v) (hu : u.ownBlock = some q) (hq : ¬ Xs q) : KF g Xs w v u zs := by
 have hx := hr.xb q (.inr rfl)
 rcases h.2 with ⟨rfl, hn⟩ | ⟨b, cap, cur, rfl, h1, hg, _⟩
 ·exact ⟨none, 0, by rw [hn], fun h0 => by omega⟩
 ·obtain rfl : b = q := by simpa [Value.ownBlock] using hu
  refine ⟨_, cap, rfl, fun _ => ⟨b, rfl, blk_lt hg, by have := hr.low; omega, hx.2.2, hq, fun j hj => ?_⟩⟩
  rw [World.ownsRow.cellAt h j (by omega)]
  simp [hj, iv]
theorem RS.sub {Ys : Nat → Prop} {w : World} {v : Value} (h : RS ts B g L Xs w d st v) (hs : ∀ x, Ys x → Xs x) : RS ts B g L Ys w d st v := by
 refine ⟨h.rg, ?_, h.tk, h.sz, h.far, h.low, fun x hx => h.xb x (hs x hx)⟩
 obtain ⟨cs, hn, hl, f⟩ := h.np
 refine ⟨cs, hn, hl, fun i hi => ?_⟩
 obtain ⟨h1, h2, u, h3, ka, kc, e, h4⟩ := f i hi
 refine ⟨h1, h2, u, h3, ka, kc, e, fun h0 => ?_⟩
 obtain ⟨b, k1, k2, k3, k4, k5, k6⟩ := h4 h0
 exact ⟨b, k1, k2, k3, k4, fun hy => k5 (hs b hy), k6⟩
theorem RS.poke {w w' : World} {v : Value} {q q' : Nat} (h : RS ts B g L (plus Xs q) w d st v) (hs : w.heap.size ≤ w'.heap.size) (hk : ∀ k, k < w.heap.size → k ≠ q → w'.heap[k]? = w.heap[k]?) (hq : q' = q ∨ w.heap.size ≤ q') (hq2 : q' < w'.heap.size) : RS ts B g L (plus Xs q') w' d st v := by
 have hx := h.xb q (.inr rfl)
 have hgl : g < w.heap.size := Nat.lt_of_lt_of_le h.low h.sz
 refine ⟨(hk g hgl (by have := h.low; omega)).trans h.rg, ?_, ?_, Nat.le_trans h.sz hs, h.far, h.low, fun x hx2 => ?_⟩
 ·obtain ⟨cs, hn, hl, f⟩ := h.np
  refine ⟨cs, NR.keep hn (fun b e => hk b (h.np.own b e).2 (fun e2 => hx.2.2 (e2 ▸ e))), hl, fun i hi => ?_⟩
  obtain ⟨h1, h2, u, h3, ka, kc, e, h4⟩ := f i hi
  refine ⟨h1, h2, u, h3, ka, kc, e, fun h0 => ?_⟩
  obtain ⟨b, k1, k2, k3, k4, k5, k6⟩ := h4 h0
  have hbq : b ≠ q := fun e => k5 (.inr e)
  refine ⟨b, k1, Nat.lt_of_lt_of_le k2 hs, k3, k4, fun hy => ?_, fun j hj => ?_⟩
  ·rcases hy with hy | hy
   ·exact k5 (.inl hy)
   ·rcases hq with e | e
    ·exact hbq (hy.trans e)
    ·omega
  ·rw [cell_blk (hk b k2 hbq)]
   exact k6 j hj
 ·obtain ⟨ad, cap, hL, f⟩ := h.tk
  refine ⟨ad, cap, hL, fun h0 => ?_⟩
  obtain ⟨b, rfl, hb, hc⟩ := f h0
  have hfar := h.far b (by rw [hL]; rfl)
  have hbk := hk b hb (by omega)
  refine ⟨b, rfl, Nat.lt_of_lt_of_le hb hs, fun j hj => ?_⟩
  rw [cell_blk hbk, cell_blk hbk]
  exact hc j hj
 ·rcases hx2 with hx2 | hx2
  ·have := h.xb x (.inl hx2)
   exact ⟨this.1, Nat.lt_of_lt_of_le this.2.1 hs, this.2.2⟩
  ·rw [hx2]
   rcases hq with e | e
   ·rw [e]
    exact ⟨hx.1, Nat.lt_of_lt_of_le hx.2.1 hs, hx.2.2⟩
   ·exact ⟨by have := h.sz; omega, hq2, fun e2 => by have := (h.np.own _ e2).2; omega⟩
theorem RS.add {w : World} {v : Value} (h : RS ts B g L Xs w d st v) (o : Obj) : RS ts B g L (plus Xs w.heap.size) (w.alloc o) d st v := by
 have hb : Below w.heap.size w (w.alloc o) := (Below.refl _ _).alloc (Nat.le_refl _) _
 have h2 := h.below hb
 refine ⟨h2.rg, ?_, h2.tk, h2.sz, h2.far, h2.low, fun x hx => ?_⟩
 ·obtain ⟨cs, hn, hl, f⟩ := h.np
  obtain ⟨cs2, hn2, hl2, f2⟩ := h2.np
  refine ⟨cs, NR.keep hn (fun q e => hb.block q (h.np.own q e).2), hl, fun i hi => ?_⟩
  obtain ⟨h1, h2, u, h3, ka, kc, e, h4⟩ := f i hi
  refine ⟨h1, h2, u, h3, ka, kc, e, fun h0 => ?_⟩
  obtain ⟨b, k1, k2, k3, k4, k5, k6⟩ := h4 h0
  refine ⟨b, k1, Nat.lt_of_lt_of_le k2 hb.size, k3, k4, fun hy => ?_, fun j hj => ?_⟩
  ·rcases hy with hy | hy
   ·exact k5 hy
   ·omega
  ·rw [cell_blk (hb.block b k2)]
   exact k6 j hj
 ·rcases hx with hx | hx
  ·exact h2.xb x hx
  ·rw [hx]
   refine ⟨h.sz, ?_, fun e => by have := (h.np.own _ e).2; omega⟩
   show _ < (w.heap.push o).size
   simp
theorem At.here {w0 w : World} {v0 v : Value} (h : At ts B g L Xs w0 v0 w d st v) : At ts B g L Xs w v w d st v := ⟨h.rs, KB.refl g v w⟩
theorem At.then {w0 w w' : World} {v0 v v' : Value} {d' : Int} {st' : Pr.PS} (h : At ts B g L Xs w0 v0 w d st v) (k : At ts B g L Xs w v w' d' st' v') : At ts B g L Xs w0 v0 w' d' st' v' := ⟨k.rs, h.kb.trans k.kb⟩
theorem At.add {w0 w : World} {v0 v : Value} (h : At ts B g L Xs w0 v0 w d st v) (o : Obj) : At ts B g L (plus Xs w.heap.size) w0 v0 (w.alloc o) d st v := ⟨h.rs.add o, h.kb.trans (KB.below g v ((Below.refl _ _).alloc (Nat.le_refl _) _))⟩
theorem At.sub {w0 w : World} {v0 v : Value} {q : Nat} (h : At ts B g L (plus Xs q) w0 v0 w d st v) : At ts B g L Xs w0 v0 w d st v := ⟨h.rs.sub (fun _ hx => .inl hx), h.kb⟩
theorem At.poke {w0 w w' : World} {v0 v : Value} {q q' : Nat} (h : At ts B g L (plus Xs q) w0 v0 w d st v) (hw : w0.heap.size ≤ q) (hs : w.heap.size ≤ w'.heap.size) (he : Env w w') (hk : ∀ k, k < w.heap.size → k ≠ q → w'.heap[k]? = w.heap[k]?) (hq : q' = q ∨ w.heap.size ≤ q') (hq2 : q' < w'.heap.size) : At ts B g L (plus Xs q') w0 v0 w' d st v :=
 ⟨h.rs.poke hs hk hq hq2, ⟨h.kb.1.trans he, Nat.le_trans h.kb.2.1 hs, fun k hk2 hg hv => (hk k (Nat.lt_of_lt_of_le hk2 h.kb.2.1) (by omega)).trans (h.kb.2.2.1 k hk2 hg hv), h.kb.2.2.2⟩⟩
theorem IRow.at {w w' : World} {v v' u : Value} {zs : List Int} {q : Nat} {d' : Int} {st' : Pr.PS} (h : IRow B w u zs) (hr : RS ts B g L (plus Xs q) w d st v) (hu : u.ownBlock = some q) (k : At ts B g L (plus Xs q) w v w' d' st' v') : IRow B w' u zs := by
 refine h.keep fun q' e => ?_
 obtain rfl : q = q' := by rw [hu] at e; exact Option.some.inj e
 have hx := hr.xb q (.inr rfl)
 exact k.kb.2.2.1 q hx.2.1 (by have := hr.low; omega) hx.2.2
end
end PartPrK
section PartRrF
open Go.RowKit
def Ap (B : Nat) (w : World) (cs : List Value) : Prop :=
 (∀ i b o n c, cs[i * 3 + 2]? = some (.slice (some ⟨b, o, none⟩) (n + 1) c) → B ≤ b ∧ ∃ arr : Array Value, w.heap[b]? = some (.cells arr 3 (0, 0))) ∧
 (∀ i j b o n c o' n' c', cs[i * 3 + 2]? = some (.slice (some ⟨b, o, none⟩) (n + 1) c) → cs[j * 3 + 2]? = some (.slice (some ⟨b, o', none⟩) (n' + 1) c') → i = j)
theorem Ap.keep {B : Nat} {w w' : World} {cs : List Value} (h : Ap B w cs) (hk : ∀ i b o n c, cs[i * 3 + 2]? = some (.slice (some ⟨b, o, none⟩) (n + 1) c) → w'.heap[b]? = w.heap[b]?) : Ap B w' cs :=
 ⟨fun i b o n c e => by obtain ⟨h1, arr, h2⟩ := h.1 i b o n c e; exact ⟨h1, arr, (hk i b o n c e).trans h2⟩, h.2⟩
def NQ (B g : Nat) (Xs : Nat → Prop) (w : World) (v : Value) (ps : List Pi) : Prop := ∃ cs : List Value, NR B w v ps.length cs ∧ cs.length = ps.length * 3 ∧
 (∀ i, i < ps.length → cs[i * 3]? = some (.int .i64 (ps.getD i Pi.no).op) ∧ cs[i * 3 + 1]? = some (.string (ps.getD i Pi.no).text) ∧ ∃ u, cs[i * 3 + 2]? = some u ∧ KF g Xs w v u (ps.getD i Pi.no).kids) ∧ Ap B w cs
theorem NQ.np {B g : Nat} {Xs : Nat → Prop} {w : World} {v : Value} {ps : List Pi} (h : NQ B g Xs w v ps) : NP B g Xs w v ps := by
 obtain ⟨cs, h1, h2, h3, -⟩ := h
 exact ⟨cs, h1, h2, h3⟩
theorem kidOf {g : Nat} {Xs : Nat → Prop} {w : World} {v : Value} {ps : List Pi} {cs : List Value} (hl : cs.length = ps.length * 3)
  (f : ∀ i, i < ps.length → cs[i * 3]? = some (.int .i64 (ps.getD i Pi.no).op) ∧ cs[i * 3 + 1]? = some (.string (ps.getD i Pi.no).text) ∧ ∃ u, cs[i * 3 + 2]? = some u ∧ KF g Xs w v u (ps.getD i Pi.no).kids)
  {i b o n c : Nat} (e : cs[i * 3 + 2]? = some (.slice (some ⟨b, o, none⟩) (n + 1) c)) : b < w.heap.size ∧ b ≠ g ∧ v.ownBlock ≠ some b ∧ ¬ Xs b := by
 have hi : i < ps.length := by
  have := (List.getElem?_eq_some_iff.1 e).1
  omega
 obtain ⟨-, -, u, h3, ka, kc, hu, h4⟩ := f i hi
 rw [h3] at e
 obtain rfl : u = .slice (some ⟨b, o, none⟩) (n + 1) c := Option.some.inj e
 obtain ⟨e1, e2, e3⟩ : some (⟨b, o, none⟩ : Addr) = ka ∧ n + 1 = (ps.getD i Pi.no).kids.length ∧ c = kc := by simpa using hu
 obtain ⟨b', hb', h5, h6, h7, h8, -⟩ := h4 (by omega)
 rw [hb'] at e1
 obtain ⟨rfl, -⟩ : b = b' ∧ o = 0 := by simpa using e1
 exact ⟨h5, h6, h7, h8⟩
theorem NQ.keep {B g : Nat} {Xs : Nat → Prop} {w w' : World} {v : Value} {ps : List Pi} (h : NQ B g Xs w v ps) (k : KB g v w w' v) (hb : ∀ q, v.ownBlock = some q → w'.heap[q]? = w.heap[q]?) : NQ B g Xs w' v ps := by
 obtain ⟨cs, hn, hl, f, ha⟩ := h
 refine ⟨cs, NR.keep hn hb, hl, fun i hi => ?_, ha.keep fun i b o n c e => ?_⟩
 ·obtain ⟨h1, h2, u, h3, h4⟩ := f i hi
  exact ⟨h1, h2, u, h3, h4.keep k⟩
 ·obtain ⟨h5, h6, h7, -⟩ := kidOf hl f e
  exact k.2.2.1 b h5 h6 h7
structure Wr (B h : Nat) (Xs : Nat → Prop) (w : World) (v : Value) (ps : List Pi) : Prop where
 wr : w.heap[h]? = some (.cells #[v] 102 (0, 0))
 nq : NQ B h Xs w v ps
 sz : B ≤ w.heap.size
 low : h < B
 xb : ∀ x, Xs x → B ≤ x ∧ x < w.heap.size ∧ v.ownBlock ≠ some x
theorem Wr.np {B h : Nat} {Xs : Nat → Prop} {w : World} {v : Value} {ps : List Pi} (k : Wr B h Xs w v ps) : NP B h Xs w v ps := k.nq.np
theorem Wr.below {B h : Nat} {Xs : Nat → Prop} {w w' : World} {v : Value} {ps : List Pi} (k : Wr B h Xs w v ps) (hb : Below w.heap.size w w') : Wr B h Xs w' v ps :=
 ⟨(hb.block h (Nat.lt_of_lt_of_le k.low k.sz)).trans k.wr, k.nq.keep (KB.below h v hb) (fun q e => hb.block q (k.np.own q e).2), Nat.le_trans k.sz hb.size, k.low, fun x hx => ⟨(k.xb x hx).1, Nat.lt_of_lt_of_le (k.xb x hx).2.1 hb.size, (k.xb x hx).2.2⟩⟩
def and (Xs : Nat → Prop) (u : Value) : Nat → Prop := fun x => Xs x ∨ u.ownBlock = some x
theorem KF.sub {g : Nat} {Xs Ys : Nat → Prop} {w : World} {v u : Value} {ks : List Int} (h : KF g Xs w v u ks) (hs : ∀ x, Ys x → Xs x) : KF g Ys w v u ks := by
 obtain ⟨ka, kc, rfl, f⟩ := h
 refine ⟨ka, kc, rfl, fun h0 => ?_⟩
 obtain ⟨b, rfl, hb, hg, hv, hx, hc⟩ := f h0
 exact ⟨b, rfl, hb, hg, hv, fun e => hx (hs b e), hc⟩
theorem Wr.sub {B h : Nat} {Xs Ys : Nat → Prop} {w : World} {v : Value} {ps : List Pi} (k : Wr B h Xs w v ps) (hs : ∀ x, Ys x → Xs x) : Wr B h Ys w v ps := by
 obtain ⟨cs, h1, h2, h3, h9⟩ := k.nq
 refine ⟨k.wr, ⟨cs, h1, h2, fun i hi => ?_, h9⟩, k.sz, k.low, fun x hx => k.xb x (hs x hx)⟩
 obtain ⟨a, b, u, c, d⟩ := h3 i hi
 exact ⟨a, b, u, c, d.sub hs⟩
theorem Wr.poke {B h : Nat} {Xs : Nat → Prop} {w w' : World} {v u u' : Value} {ps : List Pi} (k : Wr B h (and Xs u) w v ps) (hs : w.heap.size ≤ w'.heap.size)
  (hk : ∀ j, j < w.heap.size → u.ownBlock ≠ some j → w'.heap[j]? = w.heap[j]?) (hq : ∀ q, u'.ownBlock = some q → (u.ownBlock = some q ∨ w.heap.size ≤ q) ∧ q < w'.heap.size) : Wr B h (and Xs u') w' v ps := by
 have hlt : h < w.heap.size := Nat.lt_of_lt_of_le k.low k.sz
 have hh : u.ownBlock ≠ some h := fun e => by have := (k.xb h (.inr e)).1; have := k.low; omega
 have hv : ∀ q, v.ownBlock = some q → w'.heap[q]? = w.heap[q]? := fun q e => hk q (k.np.own q e).2 (fun e2 => (k.xb q (.inr e2)).2.2 e)
 refine ⟨(hk h hlt hh).trans k.wr, ?_, Nat.le_trans k.sz hs, k.low, fun x hx => ?_⟩
 ·obtain ⟨cs, h1, h2, h3, h9⟩ := k.nq
  refine ⟨cs, NR.keep h1 hv, h2, fun i hi => ?_, h9.keep fun i b o n c e => ?_⟩
  rotate_left
  ·obtain ⟨h5, -, -, h8⟩ := kidOf h2 h3 e
   exact hk b h5 (fun e2 => h8 (.inr e2))
  obtain ⟨a, b, u1, c, d⟩ := h3 i hi
  refine ⟨a, b, u1, c, ?_⟩
  obtain ⟨ka, kc, rfl, f⟩ := d
  refine ⟨ka, kc, rfl, fun h0 => ?_⟩
  obtain ⟨b1, rfl, hb, hg, hvv, hx, hc⟩ := f h0
  refine ⟨b1, rfl, Nat.lt_of_lt_of_le hb hs, hg, hvv, fun e => ?_, fun i hi => ?_⟩
  ·rcases e with e | e
   ·exact hx (.inl e)
   ·rcases (hq b1 e).1 with e2 | e2
    ·exact hx (.inr e2)
    ·omega
  ·rw [cell_blk (hk b1 hb (fun e => hx (.inr e)))]
   exact hc i hi
 ·rcases hx with hx | hx
  ·exact ⟨(k.xb x (.inl hx)).1, Nat.lt_of_lt_of_le (k.xb x (.inl hx)).2.1 hs, (k.xb x (.inl hx)).2.2⟩
  ·obtain ⟨h1, h2⟩ := hq x hx
   rcases h1 with h1 | h1
   ·exact ⟨(k.xb x (.inr h1)).1, h2, (k.xb x (.inr h1)).2.2⟩
   ·exact ⟨Nat.le_trans k.sz h1, h2, fun e => by have := (k.np.own x e).2; omega⟩
theorem Wr.put {B h : Nat} {Xs : Nat → Prop} {w w' : World} {v v' u : Value} {ps : List Pi} {cs : List Value} {op : Int} {t : List UInt8} {ks : List Int} (k : Wr B h Xs w v ps)
  (hcl : cs.length = ps.length * 3)
  (hf : ∀ i, i < ps.length → cs[i * 3]? = some (.int .i64 (ps.getD i Pi.no).op) ∧ cs[i * 3 + 1]? = some (.string (ps.getD i Pi.no).text) ∧ ∃ u, cs[i * 3 + 2]? = some u ∧ KF h Xs w v u (ps.getD i Pi.no).kids)
  (hr : w'.heap[h]? = some (.cells #[v'] 102 (0, 0))) (hp2 : NR B w' v' (ps.length + 1) (cs ++ [.int .i64 op, .string ⟨t.toArray⟩, u])) (hkb : KB h v w w' v') (hu : KF h Xs w v u ks) (ha : Ap B w cs)
  (ha2 : ∀ b o n c, u = .slice (some ⟨b, o, none⟩) (n + 1) c → (B ≤ b ∧ ∃ arr : Array Value, w.heap[b]? = some (.cells arr 3 (0, 0))) ∧ ∀ i o' n' c', cs[i * 3 + 2]? ≠ some (.slice (some ⟨b, o', none⟩) (n' + 1) c')) :
  Wr B h Xs w' v' (ps ++ [Pr.nd op t ks]) := by
 refine ⟨hr, ?_, Nat.le_trans k.sz hkb.2.1, k.low, fun x hx => ⟨(k.xb x hx).1, Nat.lt_of_lt_of_le (k.xb x hx).2.1 hkb.2.1, fun e => ?_⟩⟩
 ·refine ⟨_, by simpa using hp2, by simp [hcl]; omega, fun i hi => ?_, ?_⟩
  rotate_left
  ·have old : ∀ i b o n c, cs[i * 3 + 2]? = some (.slice (some ⟨b, o, none⟩) (n + 1) c) → w'.heap[b]? = w.heap[b]? := fun i b o n c e => by
    obtain ⟨h5, h6, h7, -⟩ := kidOf hcl hf e
    exact hkb.2.2.1 b h5 h6 h7
   have part : ∀ i x, (cs ++ [.int .i64 op, .string ⟨t.toArray⟩, u])[i * 3 + 2]? = some x → cs[i * 3 + 2]? = some x ∨ (i = ps.length ∧ x = u) := fun i x e => by
    rcases Nat.lt_or_ge i ps.length with hlt | hge
    ·rw [List.getElem?_append_left (by omega)] at e; exact .inl e
    ·rw [List.getElem?_append_right (by omega), hcl] at e
     have h3 : i * 3 + 2 - ps.length * 3 < 3 := by
      have := (List.getElem?_eq_some_iff.1 e).1
      simpa using this
     obtain rfl : i = ps.length := by omega
     rw [show ps.length * 3 + 2 - ps.length * 3 = 2 by omega] at e
     exact .inr ⟨rfl, by simpa using e.symm⟩
   have ub : ∀ b o n c, u = .slice (some ⟨b, o, none⟩) (n + 1) c → w'.heap[b]? = w.heap[b]? := fun b o n c e => by
    obtain ⟨ka, kc, e2, f⟩ := hu
    rw [e2] at e
    obtain ⟨e3, e4, -⟩ : ka = some (⟨b, o, none⟩ : Addr) ∧ ks.length = n + 1 ∧ kc = c := by simpa using e
    obtain ⟨b', e5, k1, k2, k3, -⟩ := f (by omega)
    rw [e5] at e3
    obtain ⟨rfl, -⟩ : b' = b ∧ 0 = o := by simpa using e3
    exact hkb.2.2.1 _ k1 k2 k3
   refine ⟨fun i b o n c e => ?_, fun i j b o n c o' n' c' e e' => ?_⟩
   ·rcases part i _ e with e1 | ⟨-, e1⟩
    ·obtain ⟨k1, arr, k2⟩ := ha.1 i b o n c e1
     exact ⟨k1, arr, (old i b o n c e1).trans k2⟩
    ·obtain ⟨⟨k1, arr, k2⟩, -⟩ := ha2 b o n c e1.symm
     exact ⟨k1, arr, (ub b o n c e1.symm).trans k2⟩
   ·rcases part i _ e with e1 | ⟨ei, e1⟩ <;> rcases part j _ e' with e2 | ⟨ej, e2⟩
    ·exact ha.2 i j b o n c o' n' c' e1 e2
    ·exact absurd e1 ((ha2 b o' n' c' e2.symm).2 i o n c)
    ·exact absurd e2 ((ha2 b o n c e1.symm).2 j o' n' c')
    ·rw [ei, ej]
  have hi' : i < ps.length + 1 := by simpa using hi
  by_cases hlt : i < ps.length
  ·obtain ⟨h1, h2, u, h3, h4⟩ := hf i hlt
   have e : (ps ++ [Pr.nd op t ks]).getD i Pi.no = ps.getD i Pi.no := by
    simp [List.getD_eq_getElem?_getD, List.getElem?_append_left hlt]
   rw [e]
   refine ⟨?_, ?_, u, ?_, h4.keep hkb⟩
   ·rw [List.getElem?_append_left (by omega)]; exact h1
   ·rw [List.getElem?_append_left (by omega)]; exact h2
   ·rw [List.getElem?_append_left (by omega)]; exact h3
  ·obtain rfl : i = ps.length := by omega
   have e : (ps ++ [Pr.nd op t ks]).getD ps.length Pi.no = Pr.nd op t ks := by
    simp [List.getD_eq_getElem?_getD]
   rw [e]
   refine ⟨?_, ?_, u, ?_, hu.keep hkb⟩
   ·rw [List.getElem?_append_right (by omega), hcl, Nat.sub_self]; rfl
   ·rw [List.getElem?_append_right (by omega), hcl, show ps.length * 3 + 1 - ps.length * 3 = 1 by omega]; rfl
   ·rw [List.getElem?_append_right (by omega), hcl, show ps.length * 3 + 2 - ps.length * 3 = 2 by omega]; rfl
 ·rcases hkb.2.2.2 x e with e | e
  ·exact (k.xb x hx).2.2 e
  ·have := (k.xb x hx).2.1; omega
theorem IRow.wkf {B h : Nat} {Xs : Nat → Prop} {w : World} {v u : Value} {zs : List Int} {ps : List Pi} (hi : IRow B w u zs) (k : Wr B h (and Xs u) w v ps) (hq : ∀ q, u.ownBlock = some q → ¬ Xs q) : KF h Xs w v u zs := by
 rcases hi.2 with ⟨rfl, hn⟩ | ⟨b, cap, cur, rfl, h1, hg, _⟩
 ·exact ⟨none, 0, by rw [hn], fun h0 => by omega⟩
 ·refine ⟨_, cap, rfl, fun _ => ⟨b, rfl, blk_lt hg, by have := k.low; omega, (k.xb b (.inr rfl)).2.2, hq b rfl, fun j hj => ?_⟩⟩
  rw [World.ownsRow.cellAt hi j (by omega)]
  simp [hj, iv]
theorem IRow.apart {B h : Nat} {Xs : Nat → Prop} {w : World} {v u : Value} {zs : List Int} {ps : List Pi} {cs : List Value} (hi : IRow B w u zs) (hl : cs.length = ps.length * 3)
  (f : ∀ i, i < ps.length → cs[i * 3]? = some (.int .i64 (ps.getD i Pi.no).op) ∧ cs[i * 3 + 1]? = some (.string (ps.getD i Pi.no).text) ∧ ∃ u1, cs[i * 3 + 2]? = some u1 ∧ KF h (and Xs u) w v u1 (ps.getD i Pi.no).kids) (b o n c : Nat)
  (e : u = .slice (some ⟨b, o, none⟩) (n + 1) c) : (B ≤ b ∧ ∃ arr : Array Value, w.heap[b]? = some (.cells arr 3 (0, 0))) ∧ ∀ i o' n' c', cs[i * 3 + 2]? ≠ some (.slice (some ⟨b, o', none⟩) (n' + 1) c') := by
 refine ⟨?_, fun i o' n' c' e2 => (kidOf hl f e2).2.2.2 (.inr (by rw [e]; rfl))⟩
 rcases hi.2 with ⟨rfl, hn⟩ | ⟨b', cap, cur, rfl, h1, hg, _⟩
 ·simp at e
 ·obtain ⟨⟨rfl, -⟩, -⟩ : (b' = b ∧ 0 = o) ∧ _ := by simpa using e
  exact ⟨h1, cur, hg⟩
end PartRrF
end Go.Proofs.YtkfkbdgfnopokaaGreatDoor
