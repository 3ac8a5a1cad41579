/- The specification's reader of a program: what holds of it at each step. The specification's reader of a program: one of two, one deeper. The specification's reader of a program: products, sums, joined ones. The specification's reader of a program: expressions. -/
import Derived.Test.YtkfkbdgfnopokaaGreatDoorZak
import Derived.LoopTactic
namespace Go.Proofs.YtkfkbdgfnopokaaGreatDoor
section PartPrD
open Go.RowKit
def KF (g : Nat) (Xs : Nat → Prop) (w : World) (v u : Value) (ks : List Int) : Prop := ∃ (ka : Option Addr) (kc : Nat), u = .slice ka ks.length kc ∧
 (0 < ks.length → ∃ b, ka = some ⟨b, 0, none⟩ ∧ b < w.heap.size ∧ b ≠ g ∧ v.ownBlock ≠ some b ∧ ¬ Xs b ∧ ∀ i, i < ks.length → w.cell? ⟨b, i, none⟩ = some (.int .i64 (ks.getD i 0)))
def KB (g : Nat) (v : Value) (w w' : World) (v' : Value) : Prop := Env w w' ∧ w.heap.size ≤ w'.heap.size ∧ (∀ k, k < w.heap.size → k ≠ g → v.ownBlock ≠ some k → w'.heap[k]? = w.heap[k]?) ∧ (∀ q, v'.ownBlock = some q → v.ownBlock = some q ∨ w.heap.size ≤ q)
theorem KB.refl (g : Nat) (v : Value) (w : World) : KB g v w w v := ⟨Env.refl w, Nat.le_refl _, fun _ _ _ _ => rfl, fun _ h => .inl h⟩
theorem KB.trans {g : Nat} {v v1 v2 : Value} {w w1 w2 : World} (h : KB g v w w1 v1) (k : KB g v1 w1 w2 v2) : KB g v w w2 v2 := by
 refine ⟨h.1.trans k.1, Nat.le_trans h.2.1 k.2.1, fun j hj hg hv => ?_, fun q hq => ?_⟩
 ·rw [k.2.2.1 j (Nat.lt_of_lt_of_le hj h.2.1) hg (fun e => ?_)]
  ·exact h.2.2.1 j hj hg hv
  ·rcases h.2.2.2 j e with e | e
   ·exact hv e
   ·omega
 ·rcases k.2.2.2 q hq with e | e
  ·exact h.2.2.2 q e
  ·exact .inr (Nat.le_trans h.2.1 e)
theorem KB.onl {g : Nat} {w w' : World} (v : Value) (h : Onl g w w') : KB g v w w' v := ⟨h.1, by rw [h.2.1]; exact Nat.le_refl _, fun k _ hg _ => h.2.2 k hg, fun _ e => .inl e⟩
theorem KB.below {w w' : World} (g : Nat) (v : Value) (h : Below w.heap.size w w') : KB g v w w' v := ⟨⟨h.os, h.tape, h.output⟩, h.size, fun k hk _ _ => h.block k hk, fun _ e => .inl e⟩
theorem cell_blk {w w' : World} {b : Nat} (h : w'.heap[b]? = w.heap[b]?) (i : Nat) : w'.cell? ⟨b, i, none⟩ = w.cell? ⟨b, i, none⟩ := by simp [World.cell?, h]
theorem KF.keep {g : Nat} {Xs : Nat → Prop} {w w' : World} {v v' u : Value} {ks : List Int} (h : KF g Xs w v u ks) (k : KB g v w w' v') : KF g Xs w' v' u ks := by
 obtain ⟨ka, kc, rfl, f⟩ := h
 refine ⟨ka, kc, rfl, fun h0 => ?_⟩
 obtain ⟨b, rfl, hb, hg, hv, hx, hc⟩ := f h0
 refine ⟨b, rfl, Nat.lt_of_lt_of_le hb k.2.1, hg, fun e => ?_, hx, fun i hi => ?_⟩
 ·rcases k.2.2.2 b e with e | e
  ·exact hv e
  ·omega
 ·rw [cell_blk (k.2.2.1 b hb hg hv)]
  exact hc i hi
theorem KF.at {g : Nat} {Xs : Nat → Prop} {w : World} {v u : Value} {ks : List Int} (h : KF g Xs w v u ks) : KidsAt w u ks := by
 obtain ⟨ka, kc, rfl, f⟩ := h
 refine ⟨ka, kc, rfl, fun h0 => ?_⟩
 obtain ⟨b, rfl, hb, _, _, _, hc⟩ := f h0
 exact ⟨b, 0, rfl, hb, fun i hi => by rw [Nat.zero_add]; exact hc i hi⟩
def NP (B g : Nat) (Xs : Nat → Prop) (w : World) (v : Value) (ps : List Pi) : Prop := ∃ cs : List Value, NR B w v ps.length cs ∧ cs.length = ps.length * 3 ∧
 ∀ i, i < ps.length → cs[i * 3]? = some (.int .i64 (ps.getD i Pi.no).op) ∧ cs[i * 3 + 1]? = some (.string (ps.getD i Pi.no).text) ∧ ∃ u, cs[i * 3 + 2]? = some u ∧ KF g Xs w v u (ps.getD i Pi.no).kids
theorem NR.keep {B : Nat} {w w' : World} {v : Value} {n : Nat} {cs : List Value} (h : NR B w v n cs) (hb : ∀ q, v.ownBlock = some q → w'.heap[q]? = w.heap[q]?) : NR B w' v n cs := by
 refine ⟨h.1, ?_⟩
 rcases h.2 with hn | ⟨g2, cap2, cur, rfl, hb2, hc2, rest⟩
 ·exact .inl hn
 ·refine .inr ⟨g2, cap2, cur, rfl, hb2, ?_, rest⟩
  rw [hb g2 rfl]
  exact hc2
theorem NP.keep {B g : Nat} {Xs : Nat → Prop} {w w' : World} {v : Value} {ps : List Pi} (h : NP B g Xs w v ps) (k : KB g v w w' v) (hb : ∀ q, v.ownBlock = some q → w'.heap[q]? = w.heap[q]?) : NP B g Xs w' v ps := by
 obtain ⟨cs, hn, hl, f⟩ := h
 refine ⟨cs, NR.keep hn hb, hl, fun i hi => ?_⟩
 obtain ⟨h1, h2, u, h3, h4⟩ := f i hi
 exact ⟨h1, h2, u, h3, h4.keep k⟩
structure RS (ts : List Tk.Tok) (B g : Nat) (L : Value) (Xs : Nat → Prop) (w : World) (d : Int) (st : Pr.PS) (v : Value) : Prop where
 rg : Rg w g L st.a d st.bad v
 np : NP B g Xs w v st.out
 tk : TkAt w L ts
 sz : B ≤ w.heap.size
 far : ∀ q, L.ownBlock = some q → q < B ∧ q ≠ g
 low : g < B
 xb : ∀ x, Xs x → B ≤ x ∧ x < w.heap.size ∧ v.ownBlock ≠ some x
theorem NP.form {B g : Nat} {Xs : Nat → Prop} {w : World} {v : Value} {ps : List Pi} (h : NP B g Xs w v ps) : ∃ ad c, v = .slice ad ps.length c := by
 obtain ⟨cs, hn, _⟩ := h
 rcases hn.2 with ⟨rfl, h0⟩ | ⟨g2, cap, cur, rfl, _⟩
 ·exact ⟨none, 0, by rw [h0]⟩
 ·exact ⟨_, cap, rfl⟩
theorem NP.own {B g : Nat} {Xs : Nat → Prop} {w : World} {v : Value} {ps : List Pi} (h : NP B g Xs w v ps) (q : Nat) (e : v.ownBlock = some q) : B ≤ q ∧ q < w.heap.size := by
 obtain ⟨cs, hn, _⟩ := h
 exact World.ownsRow.lt hn q e
theorem RS.onl {ts : List Tk.Tok} {B g : Nat} {Xs : Nat → Prop} {L v : Value} {w w' : World} {d d' : Int} {st st' : Pr.PS} (h : RS ts B g L Xs w d st v) (ho : Onl g w w') (hr : Rg w' g L st'.a d' st'.bad v) (hout : st'.out = st.out) : RS ts B g L Xs w' d' st' v := by
 refine ⟨hr, ?_, ?_, by rw [ho.2.1]; exact h.sz, h.far, h.low, fun x hx => ⟨(h.xb x hx).1, by rw [ho.2.1]; exact (h.xb x hx).2.1, (h.xb x hx).2.2⟩⟩
 ·rw [hout]
  exact h.np.keep (KB.onl v ho) (fun q e => ho.2.2 q (by have := (h.np.own q e).1; have := h.low; omega))
 ·refine TkAt.onl h.tk (fun e => ?_) ho
  exact (h.far g e).2 rfl
theorem RS.below {ts : List Tk.Tok} {B g : Nat} {Xs : Nat → Prop} {L v : Value} {w w' : World} {d : Int} {st : Pr.PS} (h : RS ts B g L Xs w d st v) (hb : Below w.heap.size w w') : RS ts B g L Xs w' d st v := by
 have hgl : g < w.heap.size := Nat.lt_of_lt_of_le h.low h.sz
 exact ⟨(hb.block g hgl).trans h.rg, h.np.keep (KB.below g v hb) (fun q e => hb.block q (h.np.own q e).2), h.tk.keep hb, Nat.le_trans h.sz hb.size, h.far, h.low, fun x hx => ⟨(h.xb x hx).1, Nat.lt_of_lt_of_le (h.xb x hx).2.1 hb.size, (h.xb x hx).2.2⟩⟩
structure At (ts : List Tk.Tok) (B g : Nat) (L : Value) (Xs : Nat → Prop) (w0 : World) (v0 : Value) (w : World) (d : Int) (st : Pr.PS) (v : Value) : Prop where
 rs : RS ts B g L Xs w d st v
 kb : KB g v0 w0 w v
theorem At.alloc {ts : List Tk.Tok} {B g : Nat} {Xs : Nat → Prop} {L v0 v : Value} {w0 w : World} {d : Int} {st : Pr.PS} (h : At ts B g L Xs w0 v0 w d st v) (o : Obj) : At ts B g L Xs w0 v0 (w.alloc o) d st v := by
 have hb : Below w.heap.size w (w.alloc o) := (Below.refl _ _).alloc (Nat.le_refl _) _
 exact ⟨h.rs.below hb, h.kb.trans (KB.below g v hb)⟩
theorem At.below {ts : List Tk.Tok} {B g : Nat} {Xs : Nat → Prop} {L v0 v : Value} {w0 w w' : World} {d : Int} {st : Pr.PS} (h : At ts B g L Xs w0 v0 w d st v) (hb : Below w.heap.size w w') : At ts B g L Xs w0 v0 w' d st v := ⟨h.rs.below hb, h.kb.trans (KB.below g v hb)⟩
theorem At.drew {ts : List Tk.Tok} {B g : Nat} {Xs : Nat → Prop} {L v0 v : Value} {w0 w : World} {d : Int} {st : Pr.PS} (h : At ts B g L Xs w0 v0 w d st v) (k : Nat) : At ts B g L Xs w0 v0 (w.drewN k) d st v := h.below (below_drewN (Below.refl _ _) k)
def Step (ts : List Tk.Tok) (B g : Nat) (L : Value) (fid : Nat) (args : Array Value) (d : Int) (st : Pr.PS) (res : Value) (d' : Int) (st' : Pr.PS) : Prop :=
 ∀ Xs w0 v0 w v, At ts B g L Xs w0 v0 w d st v → Calls Tryz.prog fid args w fun e w' => ∃ v', e = .returned res ∧ At ts B g L Xs w0 v0 w' d' st' v'
def me (g : Nat) : Value := .pointer (some ⟨g, 0, none⟩)
section
variable {ts : List Tk.Tok} {B g : Nat} {L : Value} {Xs : Nat → Prop} {d : Int} {st : Pr.PS}
theorem stIs (kind : Nat) (x : List UInt8) (hl : ts.length ≤ 200) (ha : st.a ≤ ts.length) : Step ts B g L 17 #[me g, .int .i64 (kind : Int), .string ⟨x.toArray⟩] d st (.bool (st.is ts kind x)) d st := by
 intro Xs w0 v0 w v h
 refine (rgIs g st.a d L v ts st.bad kind x w h.rs.rg h.rs.tk (by omega) hl).mono ?_
 rintro e w' ⟨rfl, k, rfl⟩
 exact ⟨v, rfl, h.drew k⟩
theorem stSign (x : List UInt8) (hl : ts.length ≤ 200) (ha : st.a ≤ ts.length) : Step ts B g L 81 #[me g, .string ⟨x.toArray⟩] d st (.bool (st.is ts 5 x)) d (if st.is ts 5 x = true then st.go else st) := by
 intro Xs w0 v0 w v h
 refine (rgSign g st.a d L v ts st.bad x w h.rs.rg h.rs.tk (by omega) hl).mono ?_
 rintro e w' ⟨rfl, hr, ho⟩
 refine ⟨v, rfl, h.rs.onl ho ?_ ?_, h.kb.trans (KB.onl v ho)⟩
 ·show Rg w' g L (if st.is ts 5 x = true then st.go else st).a d (if st.is ts 5 x = true then st.go else st).bad v
  have e : Pr.is ts st.a st.bad 5 x = st.is ts 5 x := rfl
  rw [e] at hr
  cases hb : st.is ts 5 x with
  | true => rw [hb] at hr; exact hr
  | false => rw [hb] at hr; exact hr
 ·cases st.is ts 5 x <;> rfl
theorem stWord (x : List UInt8) (hl : ts.length ≤ 200) (ha : st.a ≤ ts.length) : Step ts B g L 16 #[me g, .string ⟨x.toArray⟩] d st (.bool (st.is ts 1 x)) d (if st.is ts 1 x = true then st.go else st) := by
 intro Xs w0 v0 w v h
 refine (rgWord g st.a d L v ts st.bad x w h.rs.rg h.rs.tk (by omega) hl).mono ?_
 rintro e w' ⟨rfl, hr, ho⟩
 refine ⟨v, rfl, h.rs.onl ho ?_ ?_, h.kb.trans (KB.onl v ho)⟩
 ·have e : Pr.is ts st.a st.bad 1 x = st.is ts 1 x := rfl
  rw [e] at hr
  cases hb : st.is ts 1 x with
  | true => rw [hb] at hr; exact hr
  | false => rw [hb] at hr; exact hr
 ·cases st.is ts 1 x <;> rfl
theorem stWant (x : List UInt8) (hl : ts.length ≤ 200) (ha : st.a ≤ ts.length) : Step ts B g L 47 #[me g, .string ⟨x.toArray⟩] d st (.tuple #[]) d (st.want ts x) := by
 intro Xs w0 v0 w v h
 refine (rgWant g st.a d L v ts st.bad x w h.rs.rg h.rs.tk (by omega) hl).mono ?_
 rintro e w' ⟨rfl, hr, ho⟩
 refine ⟨v, rfl, h.rs.onl ho ?_ ?_, h.kb.trans (KB.onl v ho)⟩
 ·have e : Pr.is ts st.a st.bad 5 x = st.is ts 5 x := rfl
  rw [e] at hr
  unfold Pr.PS.want
  cases hb : st.is ts 5 x with
  | true =>
   rw [hb] at hr
   simp at hr ⊢
   exact hr
  | false =>
   rw [hb] at hr
   simp at hr ⊢
   exact hr
 ·unfold Pr.PS.want
  cases st.is ts 5 x <;> rfl
theorem stEnds (hl : ts.length ≤ 200) (ha : st.a ≤ ts.length) : Step ts B g L 15 #[me g] d st (.int .i64 ((st.endsN ts : Nat) : Int)) d (st.ends ts) := by
 intro Xs w0 v0 w v h
 refine (rgEnds g st.a d L v ts st.bad w h.rs.rg h.rs.tk (fun e => (h.rs.far g e).2 rfl) (by omega) hl).mono ?_
 rintro e w' ⟨rfl, hr, ho⟩
 exact ⟨v, rfl, h.rs.onl ho hr rfl, h.kb.trans (KB.onl v ho)⟩
theorem stDown (hd : -1000 ≤ d) (hd2 : d ≤ 1000) : Step ts B g L 44 #[me g] d st (.tuple #[]) (d + 1) ⟨st.a, st.bad || decide (30 < d + 1), st.out⟩ := by
 intro Xs w0 v0 w v h
 refine (rgDown g st.a d L v st.bad w h.rs.rg hd hd2).mono ?_
 rintro e w' ⟨rfl, hr, ho⟩
 exact ⟨v, rfl, h.rs.onl ho hr rfl, h.kb.trans (KB.onl v ho)⟩
theorem stUp (hd : -1000 ≤ d) (hd2 : d ≤ 1000) : Step ts B g L 46 #[me g] d st (.tuple #[]) (d - 1) st := by
 intro Xs w0 v0 w v h
 refine (rgUp g st.a d L v st.bad w h.rs.rg hd hd2).mono ?_
 rintro e w' ⟨rfl, hr, ho⟩
 exact ⟨v, rfl, h.rs.onl ho hr rfl, h.kb.trans (KB.onl v ho)⟩
theorem stPut (op : Nat) (t : List UInt8) (ks : List Int) (ka : Option Addr) (kl kc : Nat) (w0 : World) (v0 : Value) (w : World) (v : Value) (h : At ts B g L Xs w0 v0 w d st v) (hn : st.out.length ≤ 1000) (hk : KF g Xs w v (.slice ka kl kc) ks) :
  Calls Tryz.prog 49 #[me g, .agg #[.int .i64 (op : Int), .string ⟨t.toArray⟩, .slice ka kl kc]] w fun e w' => ∃ v', e = .returned (.int .i64 (st.put (Pr.nd (op : Int) t ks)).2) ∧ At ts B g L Xs w0 v0 w' d (st.put (Pr.nd (op : Int) t ks)).1 v' := by
 obtain ⟨cs, hp, hcl, hf⟩ := h.rs.np
 refine (rgPut B g st.a st.out.length op d L ⟨t.toArray⟩ v cs ka kl kc st.bad w h.rs.rg hp hn h.rs.low h.rs.sz).mono ?_
 rintro e w' ⟨v', rfl, hr, hp2, hs, hk2, hq, hen⟩
 have hkb : KB g v w w' v' := ⟨hen, hs, hk2, hq⟩
 refine ⟨v', rfl, ⟨hr, ?_, ?_, Nat.le_trans h.rs.sz hs, h.rs.far, h.rs.low, fun x hx => ⟨(h.rs.xb x hx).1, Nat.lt_of_lt_of_le (h.rs.xb x hx).2.1 hs, fun e => ?_⟩⟩, h.kb.trans hkb⟩
 ·refine ⟨_, by simpa [Pr.PS.put] using hp2, by simp [Pr.PS.put, hcl]; omega, fun i hi => ?_⟩
  have hi' : i < st.out.length + 1 := by simpa [Pr.PS.put] using hi
  by_cases hlt : i < st.out.length
  ·obtain ⟨h1, h2, u, h3, h4⟩ := hf i hlt
   have e : (st.put (Pr.nd (op : Int) t ks)).1.out.getD i Pi.no = st.out.getD i Pi.no := by
    simp [Pr.PS.put, List.getD_eq_getElem?_getD, List.getElem?_append_left hlt]
   rw [e]
   refine ⟨?_, ?_, u, ?_, h4.keep hkb⟩
   ·rw [List.getElem?_append_left (by omega)]; exact h1
   ·rw [List.getElem?_append_left (by omega)]; exact h2
   ·rw [List.getElem?_append_left (by omega)]; exact h3
  ·obtain rfl : i = st.out.length := by omega
   have e : (st.put (Pr.nd (op : Int) t ks)).1.out.getD st.out.length Pi.no = Pr.nd (op : Int) t ks := by
    simp [Pr.PS.put, List.getD_eq_getElem?_getD]
   rw [e]
   refine ⟨?_, ?_, .slice ka kl kc, ?_, hk.keep hkb⟩
   ·rw [List.getElem?_append_right (by omega), hcl, Nat.sub_self]; rfl
   ·rw [List.getElem?_append_right (by omega), hcl, show st.out.length * 3 + 1 - st.out.length * 3 = 1 by omega]; rfl
   ·rw [List.getElem?_append_right (by omega), hcl, show st.out.length * 3 + 2 - st.out.length * 3 = 2 by omega]; rfl
 rotate_left
 ·rcases hq x e with e | e
  ·exact (h.rs.xb x hx).2.2 e
  ·have := (h.rs.xb x hx).2.1; omega
 ·obtain ⟨ad, cap, hL, f⟩ := h.rs.tk
  refine ⟨ad, cap, hL, fun h0 => ?_⟩
  obtain ⟨b, rfl, hb, hc⟩ := f h0
  have hfar := h.rs.far b (by rw [hL]; rfl)
  have hbk : w'.heap[b]? = w.heap[b]? := hk2 b hb hfar.2 (fun e => by have := (World.ownsRow.lt hp b e).1; omega)
  refine ⟨b, rfl, Nat.lt_of_lt_of_le hb hs, fun j hj => ?_⟩
  rw [cell_blk hbk, cell_blk hbk]
  exact hc j hj
theorem kf0 (w : World) (v : Value) : KF g Xs w v (.slice none 0 0) [] := ⟨none, 0, rfl, fun h => by simp at h⟩
theorem kf_new {w : World} {v : Value} {ks : List Int} (h : RS ts B g L Xs w d st v) (cs : Array Value) (hc : ∀ i, i < ks.length → cs[i]? = some (.int .i64 (ks.getD i 0))) (c : Nat) : KF g Xs (w.alloc (.cells cs 3)) v (.slice (some ⟨w.heap.size, 0, none⟩) ks.length c) ks := by
 refine ⟨_, c, rfl, fun _ => ⟨w.heap.size, rfl, ?_, ?_, fun e => ?_, fun e => ?_, fun i hi => ?_⟩⟩
 ·show _ < (w.heap.push _).size
  simp
 ·have := h.sz; have := h.low; omega
 ·have := (h.np.own _ e).2; omega
 ·have := (h.xb _ e).2.1; omega
 ·have e : (w.alloc (.cells cs 3)).heap[w.heap.size]? = some (.cells cs 3 (0, 0)) := heap_alloc_new w _
  rw [blk_cell e]
  exact hc i hi
end
end PartPrD
section PartPrE
open Go.RowKit
section
variable {ts : List Tk.Tok} {B g : Nat} {L : Value} {Xs : Nat → Prop} {d : Int} {st : Pr.PS}
theorem kf1 {w : World} {v : Value} (h : RS ts B g L Xs w d st v) (a : Int) : KF g Xs (w.alloc (.cells #[.int .i64 a] 3)) v (.slice (some ⟨w.heap.size, 0, none⟩) 1 1) [a] := by
 refine kf_new (ks := [a]) h #[.int .i64 a] (fun i hi => ?_) 1
 match i, hi with
 | 0, _ => rfl
theorem kf2 {w : World} {v : Value} (h : RS ts B g L Xs w d st v) (a b : Int) : KF g Xs (w.alloc (.cells #[.int .i64 a, .int .i64 b] 3)) v (.slice (some ⟨w.heap.size, 0, none⟩) 2 2) [a, b] := by
 refine kf_new (ks := [a, b]) h #[.int .i64 a, .int .i64 b] (fun i hi => ?_) 2
 match i, hi with
 | 0, _ => rfl
 | 1, _ => rfl
set_option maxRecDepth 100000 in
set_option maxHeartbeats 1000000 in
theorem stTwo (op : Nat) (a b : Int) (hn : st.out.length ≤ 1000) : Step ts B g L 82 #[me g, .int .i64 (op : Int), .int .i64 a, .int .i64 b] d st (.int .i64 (st.put (Pr.nd (op : Int) [] [a, b])).2) d (st.put (Pr.nd (op : Int) [] [a, b])).1 := by
 intro Xs w0 v0 w v h
 have HA : Hid (At ts B g L Xs w0 v0 w d st v) := h
 have CP : Hid (Calls Tryz.prog 49 #[me g, .agg #[.int .i64 (op : Int), .string ⟨#[]⟩, .slice (some ⟨w.heap.size, 0, none⟩) 2 2]] (w.alloc (.cells #[.int .i64 a, .int .i64 b] 3)) fun e w' => ∃ v', e = .returned (.int .i64 (st.put (Pr.nd (op : Int) [] [a, b])).2) ∧ At ts B g L Xs w0 v0 w' d (st.put (Pr.nd (op : Int) [] [a, b])).1 v') := by
  exact stPut op [] [a, b] _ 2 2 w0 v0 _ v (h.alloc _) hn (kf2 h.rs a b)
 clear h HA
 unfold me at *
 go_enter Tryz.func82, Tryz.ntmps82
 go_wp2_with fail
 refine CP.out.mono ?_
 rintro e w1 ⟨v1, rfl, a1⟩
 have HA1 : Hid _ := a1
 clear a1 CP
 go_wp2
 go_ret
 exact ⟨v1, rfl, HA1.out⟩
def Con (ts : List Tk.Tok) (B g : Nat) (L : Value) (fid : Nat) (d : Int) (F : Pr.Rf) : Prop := ∀ st, Pr.Lm ts 300 st → (30 < d → st.bad = true) → Step ts B g L fid #[me g] d st (.int .i64 (F st).2) d (F st).1
theorem Con.of {fid : Nat} {F G : Pr.Rf} (h : Con ts B g L fid d F) (he : ∀ st, (30 < d → st.bad = true) → G st = F st) : Con ts B g L fid d G := by
 intro st hl hd
 rw [he st hd]
 exact h st hl hd
def deeper (d : Int) (st : Pr.PS) : Pr.PS := ⟨st.a, st.bad || decide (30 < d + 1), st.out⟩
theorem lm_deeper {m : Nat} (h : Pr.Lm ts m st) : Pr.Lm ts m (deeper d st) := by
 refine ⟨fun hb => h.good ?_, h.len, h.top, h.sm⟩
 unfold deeper at hb
 simp at hb
 exact hb.1
set_option maxRecDepth 100000 in
set_option maxHeartbeats 1000000 in
theorem conSimple {F : Pr.Rf} (hF : Con ts B g L 165 (d + 1) F) (h0 : 0 ≤ d) (h1 : d ≤ 100) : Con ts B g L 146 d (fun st => F (deeper d st)) := by
 intro st hl hd Xs w0 v0 w v h
 have HA : Hid (At ts B g L Xs w0 v0 w d st v) := h
 have C1 : Hid (Step ts B g L 44 #[me g] d st (.tuple #[]) (d + 1) (deeper d st)) := stDown (by omega) (by omega)
 have C2 : Hid (Step ts B g L 165 #[me g] (d + 1) (deeper d st) (.int .i64 (F (deeper d st)).2) (d + 1) (F (deeper d st)).1) := hF _ (lm_deeper hl) (fun h => by simp [deeper, h])
 have C3 : Hid (Step ts B g L 46 #[me g] (d + 1) (F (deeper d st)).1 (.tuple #[]) (d + 1 - 1) (F (deeper d st)).1) := stUp (by omega) (by omega)
 have ed : d + 1 - 1 = d := by omega
 rw [ed] at C3
 show Calls _ _ _ _ fun e w' => ∃ v', e = .returned (.int .i64 (F (deeper d st)).2) ∧ At ts B g L Xs w0 v0 w' d (F (deeper d st)).1 v'
 generalize (F (deeper d st)).1 = s2 at *
 generalize (F (deeper d st)).2 = k2 at *
 clear h hl hd hF ed
 unfold me at *
 go_enter Tryz.func146, Tryz.ntmps146
 go_wp2_with fail
 refine (C1.out _ _ _ _ _ HA.out).mono ?_
 rintro e w1 ⟨v1, rfl, a1⟩
 have HA1 : Hid _ := a1
 clear a1 C1 HA
 go_wp2_with fail
 refine (C2.out _ _ _ _ _ HA1.out).mono ?_
 rintro e w2 ⟨v2, rfl, a2⟩
 have HA2 : Hid _ := a2
 clear a2 C2 HA1
 go_wp2_with fail
 refine (C3.out _ _ _ _ _ HA2.out).mono ?_
 rintro e w3 ⟨v3, rfl, a3⟩
 have HA3 : Hid _ := a3
 clear a3 C3 HA2
 go_wp2
 go_ret
 exact ⟨v3, rfl, HA3.out⟩
set_option maxRecDepth 100000 in
set_option maxHeartbeats 1000000 in
theorem conExpr {F : Pr.Rf} (hF : Con ts B g L 45 (d + 1) F) (h0 : 0 ≤ d) (h1 : d ≤ 100) : Con ts B g L 18 d (fun st => F (deeper d st)) := by
 intro st hl hd Xs w0 v0 w v h
 have HA : Hid (At ts B g L Xs w0 v0 w d st v) := h
 have C1 : Hid (Step ts B g L 44 #[me g] d st (.tuple #[]) (d + 1) (deeper d st)) := stDown (by omega) (by omega)
 have C2 : Hid (Step ts B g L 45 #[me g] (d + 1) (deeper d st) (.int .i64 (F (deeper d st)).2) (d + 1) (F (deeper d st)).1) := hF _ (lm_deeper hl) (fun h => by simp [deeper, h])
 have C3 : Hid (Step ts B g L 46 #[me g] (d + 1) (F (deeper d st)).1 (.tuple #[]) (d + 1 - 1) (F (deeper d st)).1) := stUp (by omega) (by omega)
 have ed : d + 1 - 1 = d := by omega
 rw [ed] at C3
 show Calls _ _ _ _ fun e w' => ∃ v', e = .returned (.int .i64 (F (deeper d st)).2) ∧ At ts B g L Xs w0 v0 w' d (F (deeper d st)).1 v'
 generalize (F (deeper d st)).1 = s2 at *
 generalize (F (deeper d st)).2 = k2 at *
 clear h hl hd hF ed
 unfold me at *
 go_enter Tryz.func18, Tryz.ntmps18
 go_wp2_with fail
 refine (C1.out _ _ _ _ _ HA.out).mono ?_
 rintro e w1 ⟨v1, rfl, a1⟩
 have HA1 : Hid _ := a1
 clear a1 C1 HA
 go_wp2_with fail
 refine (C2.out _ _ _ _ _ HA1.out).mono ?_
 rintro e w2 ⟨v2, rfl, a2⟩
 have HA2 : Hid _ := a2
 clear a2 C2 HA1
 go_wp2_with fail
 refine (C3.out _ _ _ _ _ HA2.out).mono ?_
 rintro e w3 ⟨v3, rfl, a3⟩
 have HA3 : Hid _ := a3
 clear a3 C3 HA2
 go_wp2
 go_ret
 exact ⟨v3, rfl, HA3.out⟩
set_option maxRecDepth 100000 in
set_option maxHeartbeats 1000000 in
theorem conStatement {F : Pr.Rf} (hF : Con ts B g L 83 (d + 1) F) (h0 : 0 ≤ d) (h1 : d ≤ 100) : Con ts B g L 48 d (fun st => F (deeper d st)) := by
 intro st hl hd Xs w0 v0 w v h
 have HA : Hid (At ts B g L Xs w0 v0 w d st v) := h
 have C1 : Hid (Step ts B g L 44 #[me g] d st (.tuple #[]) (d + 1) (deeper d st)) := stDown (by omega) (by omega)
 have C2 : Hid (Step ts B g L 83 #[me g] (d + 1) (deeper d st) (.int .i64 (F (deeper d st)).2) (d + 1) (F (deeper d st)).1) := hF _ (lm_deeper hl) (fun h => by simp [deeper, h])
 have C3 : Hid (Step ts B g L 46 #[me g] (d + 1) (F (deeper d st)).1 (.tuple #[]) (d + 1 - 1) (F (deeper d st)).1) := stUp (by omega) (by omega)
 have ed : d + 1 - 1 = d := by omega
 rw [ed] at C3
 show Calls _ _ _ _ fun e w' => ∃ v', e = .returned (.int .i64 (F (deeper d st)).2) ∧ At ts B g L Xs w0 v0 w' d (F (deeper d st)).1 v'
 generalize (F (deeper d st)).1 = s2 at *
 generalize (F (deeper d st)).2 = k2 at *
 clear h hl hd hF ed
 unfold me at *
 go_enter Tryz.func48, Tryz.ntmps48
 go_wp2_with fail
 refine (C1.out _ _ _ _ _ HA.out).mono ?_
 rintro e w1 ⟨v1, rfl, a1⟩
 have HA1 : Hid _ := a1
 clear a1 C1 HA
 go_wp2_with fail
 refine (C2.out _ _ _ _ _ HA1.out).mono ?_
 rintro e w2 ⟨v2, rfl, a2⟩
 have HA2 : Hid _ := a2
 clear a2 C2 HA1
 go_wp2_with fail
 refine (C3.out _ _ _ _ _ HA2.out).mono ?_
 rintro e w3 ⟨v3, rfl, a3⟩
 have HA3 : Hid _ := a3
 clear a3 C3 HA2
 go_wp2
 go_ret
 exact ⟨v3, rfl, HA3.out⟩
end
end PartPrE
section PartPrF
open Go.RowKit
def leftG (g n : Nat) (w : World) : Nat := match w.cell? ⟨g, 3, none⟩ with
 | some (.bool true) => 0
 | _ => match w.cell? ⟨g, 1, none⟩ with
  | some (.int _ z) => n + 1 - z.toNat
  | _ => 0
section
variable {ts : List Tk.Tok} {B g : Nat} {L : Value} {Xs : Nat → Prop} {d : Int} {st : Pr.PS}
theorem RS.left {w : World} {v : Value} (h : RS ts B g L Xs w d st v) (n : Nat) : leftG g n w = if st.bad = true then 0 else n + 1 - st.a := by
 obtain ⟨_, c1, _, c3, _⟩ := cells5 h.rg
 unfold leftG
 rw [c3, c1]
 cases st.bad <;> simp
theorem binL_a (F : Pr.Rf) (x1 x2 : List UInt8) (o1 o2 : Int) (f : Nat) (k : Int) (hb : st.bad = false) (h : st.is ts 5 x1 = true) : Pr.binL ts F x1 x2 o1 o2 (f + 1) st k = Pr.binL ts F x1 x2 o1 o2 f ((F st.go).1.put (Pr.nd o1 [] [k, (F st.go).2])).1 ((F st.go).1.put (Pr.nd o1 [] [k, (F st.go).2])).2 := by
 rw [Pr.binL, if_neg (by simp [hb]), if_pos h]
theorem binL_b (F : Pr.Rf) (x1 x2 : List UInt8) (o1 o2 : Int) (f : Nat) (k : Int) (hb : st.bad = false) (h1 : st.is ts 5 x1 = false) (h : st.is ts 5 x2 = true) : Pr.binL ts F x1 x2 o1 o2 (f + 1) st k = Pr.binL ts F x1 x2 o1 o2 f ((F st.go).1.put (Pr.nd o2 [] [k, (F st.go).2])).1 ((F st.go).1.put (Pr.nd o2 [] [k, (F st.go).2])).2 := by
 rw [Pr.binL, if_neg (by simp [hb]), if_neg (by simp [h1]), if_pos h]
theorem binL_c (F : Pr.Rf) (x1 x2 : List UInt8) (o1 o2 : Int) (f : Nat) (k : Int) (h1 : st.is ts 5 x1 = false) (h : st.is ts 5 x2 = false) : Pr.binL ts F x1 x2 o1 o2 f st k = (st, k) := by
 cases f with
 | zero => rfl
 | succ f =>
  rw [Pr.binL]
  split
  ·rfl
  ·rw [if_neg (by simp [h1]), if_neg (by simp [h])]
theorem joinL_a (F : Pr.Rf) (f : Nat) (k : Int) (h : st.is ts 5 [46] = true) : Pr.joinL ts F (f + 1) st k = Pr.joinL ts F f ((F st.go).1.put (Pr.nd 13 [] [k, (F st.go).2])).1 ((F st.go).1.put (Pr.nd 13 [] [k, (F st.go).2])).2 := by
 rw [Pr.joinL, if_pos h]
theorem joinL_c (F : Pr.Rf) (f : Nat) (k : Int) (h : st.is ts 5 [46] = false) : Pr.joinL ts F f st k = (st, k) := by
 cases f with
 | zero => rfl
 | succ f => rw [Pr.joinL, if_neg (by simp [h])]
set_option maxRecDepth 100000 in
set_option maxHeartbeats 4000000 in
theorem conProductL {m : Nat} {S : Pr.Rf} (hS : Con ts B g L 146 d S) (hF : Pr.Fn ts m S) (hm : m ≤ 250) (hl : ts.length ≤ 200) : Con ts B g L 128 d (fun st => Pr.binL ts S [42] [37] 11 12 (ts.length + 1) (S st).1 (S st).2) := by
 intro st hlm hd Xs w0 v0 w v h
 have HA : Hid (At ts B g L Xs w0 v0 w d st v) := h
 have C1 : Hid (Step ts B g L 146 #[me g] d st (.int .i64 (S st).2) d (S st).1) := hS st hlm hd
 have HS : Hid (∀ st, Pr.Lm ts 300 st → (30 < d → st.bad = true) → Step ts B g L 146 #[me g] d st (.int .i64 (S st).2) d (S st).1) := hS
 have HF : Hid (Pr.Fn ts m S) := hF
 obtain ⟨R, hR⟩ : ∃ R, R = Pr.binL ts S [42] [37] 11 12 (ts.length + 1) (S st).1 (S st).2 := ⟨_, rfl⟩
 show Calls _ _ _ _ fun e w' => ∃ v', e = .returned (.int .i64 (Pr.binL ts S [42] [37] 11 12 (ts.length + 1) (S st).1 (S st).2).2) ∧ At ts B g L Xs w0 v0 w' d (Pr.binL ts S [42] [37] 11 12 (ts.length + 1) (S st).1 (S st).2).1 v'
 rw [← hR]
 have HR0 : Hid (Pr.binL ts S [42] [37] 11 12 (ts.length + 1) (S st).1 (S st).2 = R) := hR.symm
 have HL0 : Hid (Pr.Lm ts 300 (S st).1) := (hlm.fn hF).up (by omega)
 have HD0 : Hid (30 < d → (S st).1.bad = true) := fun h => by rw [hF.bad st (hd h)]; exact hd h
 generalize (S st).1 = s1 at *
 generalize (S st).2 = k1 at *
 clear h hS hF hlm hd hR
 unfold me at *
 go_enter Tryz.func128, Tryz.ntmps128
 go_wp2_with fail
 refine (C1.out _ _ _ _ _ HA.out).mono ?_
 rintro e w1 ⟨v1, rfl, a1⟩
 have HA1 : Hid _ := a1
 clear a1 C1 HA
 go_wp2_with fail
 go_loopw [3] (fun k wr => ∃ (st : Pr.PS) (v : Value) (kk : Int) (f : Nat), k = .int .i64 kk ∧ Hid (At ts B g L Xs w0 v0 wr d st v) ∧ Hid (Pr.binL ts S [42] [37] 11 12 f st kk = R) ∧ Hid (Pr.Lm ts 300 st) ∧ (st.bad = false → ts.length < st.a + f) ∧ (30 < d → st.bad = true)) (fun _ wr => leftG g ts.length wr)
 case atStart => exact ⟨s1, v1, k1, ts.length + 1, rfl, HA1.out, HR0.out, HL0.out, fun _ => by omega, HD0.out⟩
 case round =>
  clear HR0 HL0 HD0 HA1
  obtain ⟨st, v, kk, f, rfl, HAr, HR, HLM, hf, hd⟩ := hrel
  obtain ⟨c0, c1, c2, c3, c4, -, -, -, -⟩ := cells5 HAr.out.rs.rg
  clear c0 c1 c2 c4
  cases hbad : st.bad with
  | true =>
   rw [hbad] at c3
   have HE : Hid (R = (st, kk)) := by show _ = _; rw [← HR.out, Pr.binL_bad _ _ _ _ _ _ _ hbad]
   clear HR HLM HS HF hf hd hbad
   go_wp2
   go_ret
   rw [HE.out]
   exact ⟨v, rfl, HAr.out⟩
  | false =>
   rw [hbad] at c3
   have hd30 : ¬ 30 < d := fun h => by rw [hd h] at hbad; cases hbad
   have hf := hf hbad
   have HT : Hid (st.a ≤ ts.length) := HLM.out.top
   have C2 : Hid (Step ts B g L 81 #[.pointer (some ⟨g, 0, none⟩), .string ⟨#[42]⟩] d st (.bool (st.is ts 5 [42])) d (if st.is ts 5 [42] = true then st.go else st)) := stSign [42] hl HT.out
   have C3 : Hid (Step ts B g L 81 #[.pointer (some ⟨g, 0, none⟩), .string ⟨#[37]⟩] d st (.bool (st.is ts 5 [37])) d (if st.is ts 5 [37] = true then st.go else st)) := stSign [37] hl HT.out
   clear hd HT
   cases hV : st.is ts 5 [42] with
   | true =>
    have htop := HLM.out.top
    obtain ⟨f, rfl⟩ : ∃ f', f = f' + 1 := ⟨f - 1, by omega⟩
    have CS : Hid (Step ts B g L 146 #[.pointer (some ⟨g, 0, none⟩)] d st.go (.int .i64 (S st.go).2) d (S st.go).1) := HS.out st.go (((HLM.out.zero hbad).go (Pr.is_lt hV).1).up (by omega)) (fun h => absurd h hd30)
    have hLM2 : Pr.Lm ts m (S st.go).1 := by
     have := ((HLM.out.zero hbad).go (Pr.is_lt hV).1).fn HF.out
     exact this.up (by omega)
    have CT : Hid (Step ts B g L 82 #[.pointer (some ⟨g, 0, none⟩), .int .i64 11, .int .i64 kk, .int .i64 (S st.go).2] d (S st.go).1 (.int .i64 ((S st.go).1.put (Pr.nd 11 [] [kk, (S st.go).2])).2) d ((S st.go).1.put (Pr.nd 11 [] [kk, (S st.go).2])).1) := stTwo 11 kk (S st.go).2 (by have := hLM2.len; omega)
    have HN : Hid (Pr.binL ts S [42] [37] 11 12 f ((S st.go).1.put (Pr.nd 11 [] [kk, (S st.go).2])).1 ((S st.go).1.put (Pr.nd 11 [] [kk, (S st.go).2])).2 = R) := by
     show _ = _
     rw [← HR.out]
     exact (binL_a S [42] [37] 11 12 f kk hbad hV).symm
    have HL2 : Hid (Pr.Lm ts 300 ((S st.go).1.put (Pr.nd 11 [] [kk, (S st.go).2])).1) := (hLM2.put (by simp [Pr.nd]) (by simp [Pr.nd_text])).up (by omega)
    have hmono : st.a + 1 ≤ ((S st.go).1.put (Pr.nd 11 [] [kk, (S st.go).2])).1.a := HF.out.mono st.go
    have HLE : Hid (leftG g ts.length wr = ts.length + 1 - st.a) := by
     show _ = _
     rw [HAr.out.rs.left, hbad]
     rfl
    rw [hV] at C2
    generalize ((S st.go).1.put (Pr.nd 11 [] [kk, (S st.go).2])).1 = s2 at *
    generalize ((S st.go).1.put (Pr.nd 11 [] [kk, (S st.go).2])).2 = k2 at *
    generalize (S st.go).1 = s1 at *
    generalize (S st.go).2 = k1 at *
    clear hLM2 HS HF HR HLM
    go_wp2_with fail
    refine (C2.out _ _ _ _ _ HAr.out).mono ?_
    rintro e w2 ⟨v2, rfl, a2⟩
    have HA2 : Hid _ := a2
    clear a2
    go_wp2_with fail
    refine (CS.out _ _ _ _ _ HA2.out).mono ?_
    rintro e w3 ⟨v3, rfl, a3⟩
    have HA3 : Hid _ := a3
    clear a3
    go_wp2_with fail
    refine (CT.out _ _ _ _ _ HA3.out).mono ?_
    rintro e w4 ⟨v4, rfl, a4⟩
    have HA4 : Hid _ := a4
    clear a4
    go_wp2
    go_roundw
    case rel => exact ⟨s2, v4, k2, f, rfl, HA4.out, HN.out, HL2.out, fun _ => by omega, fun h => by omega⟩
    case measure =>
     rw [HLE.out, HA4.out.rs.left]
     split <;> omega
   | false =>
    rw [hV] at C2
    cases hV2 : st.is ts 5 [37] with
    | true =>
     have htop := HLM.out.top
     obtain ⟨f, rfl⟩ : ∃ f', f = f' + 1 := ⟨f - 1, by omega⟩
     have CS : Hid (Step ts B g L 146 #[.pointer (some ⟨g, 0, none⟩)] d st.go (.int .i64 (S st.go).2) d (S st.go).1) := HS.out st.go (((HLM.out.zero hbad).go (Pr.is_lt hV2).1).up (by omega)) (fun h => absurd h hd30)
     have hLM2 : Pr.Lm ts m (S st.go).1 := by
      have := ((HLM.out.zero hbad).go (Pr.is_lt hV2).1).fn HF.out
      exact this.up (by omega)
     have CT : Hid (Step ts B g L 82 #[.pointer (some ⟨g, 0, none⟩), .int .i64 12, .int .i64 kk, .int .i64 (S st.go).2] d (S st.go).1 (.int .i64 ((S st.go).1.put (Pr.nd 12 [] [kk, (S st.go).2])).2) d ((S st.go).1.put (Pr.nd 12 [] [kk, (S st.go).2])).1) := stTwo 12 kk (S st.go).2 (by have := hLM2.len; omega)
     have HN : Hid (Pr.binL ts S [42] [37] 11 12 f ((S st.go).1.put (Pr.nd 12 [] [kk, (S st.go).2])).1 ((S st.go).1.put (Pr.nd 12 [] [kk, (S st.go).2])).2 = R) := by
      show _ = _
      rw [← HR.out]
      exact (binL_b S [42] [37] 11 12 f kk hbad hV hV2).symm
     have HL2 : Hid (Pr.Lm ts 300 ((S st.go).1.put (Pr.nd 12 [] [kk, (S st.go).2])).1) := (hLM2.put (by simp [Pr.nd]) (by simp [Pr.nd_text])).up (by omega)
     have hmono : st.a + 1 ≤ ((S st.go).1.put (Pr.nd 12 [] [kk, (S st.go).2])).1.a := HF.out.mono st.go
     have HLE : Hid (leftG g ts.length wr = ts.length + 1 - st.a) := by
      show _ = _
      rw [HAr.out.rs.left, hbad]
      rfl
     rw [hV2] at C3
     generalize ((S st.go).1.put (Pr.nd 12 [] [kk, (S st.go).2])).1 = s2 at *
     generalize ((S st.go).1.put (Pr.nd 12 [] [kk, (S st.go).2])).2 = k2 at *
     generalize (S st.go).1 = s1 at *
     generalize (S st.go).2 = k1 at *
     clear hLM2 HS HF HR HLM
     go_wp2_with fail
     refine (C2.out _ _ _ _ _ HAr.out).mono ?_
     rintro e w2 ⟨v2, rfl, a2⟩
     have HA2 : Hid _ := a2
     clear a2
     go_wp2_with fail
     refine (C3.out _ _ _ _ _ HA2.out).mono ?_
     rintro e w3 ⟨v3, rfl, a3⟩
     have HA3 : Hid _ := a3
     clear a3
     go_wp2_with fail
     refine (CS.out _ _ _ _ _ HA3.out).mono ?_
     rintro e w4 ⟨v4, rfl, a4⟩
     have HA4 : Hid _ := a4
     clear a4
     go_wp2_with fail
     refine (CT.out _ _ _ _ _ HA4.out).mono ?_
     rintro e w5 ⟨v5, rfl, a5⟩
     have HA5 : Hid _ := a5
     clear a5
     go_wp2
     go_roundw
     case rel => exact ⟨s2, v5, k2, f, rfl, HA5.out, HN.out, HL2.out, fun _ => by omega, fun h => by omega⟩
     case measure =>
      rw [HLE.out, HA5.out.rs.left]
      split <;> omega
    | false =>
     rw [hV2] at C3
     have HE : Hid (R = (st, kk)) := by show _ = _; rw [← HR.out, binL_c S _ _ _ _ f kk hV hV2]
     clear HR HLM HS HF hf hbad hV hV2
     go_wp2_with fail
     refine (C2.out _ _ _ _ _ HAr.out).mono ?_
     rintro e w2 ⟨v2, rfl, a2⟩
     have HA2 : Hid _ := a2
     clear a2
     go_wp2_with fail
     refine (C3.out _ _ _ _ _ HA2.out).mono ?_
     rintro e w3 ⟨v3, rfl, a3⟩
     have HA3 : Hid _ := a3
     clear a3
     go_wp2
     go_ret
     rw [HE.out]
     exact ⟨v3, rfl, HA3.out⟩
set_option maxRecDepth 100000 in
set_option maxHeartbeats 4000000 in
theorem conSumL {m : Nat} {S : Pr.Rf} (hS : Con ts B g L 128 d S) (hF : Pr.Fn ts m S) (hm : m ≤ 250) (hl : ts.length ≤ 200) : Con ts B g L 106 d (fun st => Pr.binL ts S [43] [45] 9 10 (ts.length + 1) (S st).1 (S st).2) := by
 intro st hlm hd Xs w0 v0 w v h
 have HA : Hid (At ts B g L Xs w0 v0 w d st v) := h
 have C1 : Hid (Step ts B g L 128 #[me g] d st (.int .i64 (S st).2) d (S st).1) := hS st hlm hd
 have HS : Hid (∀ st, Pr.Lm ts 300 st → (30 < d → st.bad = true) → Step ts B g L 128 #[me g] d st (.int .i64 (S st).2) d (S st).1) := hS
 have HF : Hid (Pr.Fn ts m S) := hF
 obtain ⟨R, hR⟩ : ∃ R, R = Pr.binL ts S [43] [45] 9 10 (ts.length + 1) (S st).1 (S st).2 := ⟨_, rfl⟩
 show Calls _ _ _ _ fun e w' => ∃ v', e = .returned (.int .i64 (Pr.binL ts S [43] [45] 9 10 (ts.length + 1) (S st).1 (S st).2).2) ∧ At ts B g L Xs w0 v0 w' d (Pr.binL ts S [43] [45] 9 10 (ts.length + 1) (S st).1 (S st).2).1 v'
 rw [← hR]
 have HR0 : Hid (Pr.binL ts S [43] [45] 9 10 (ts.length + 1) (S st).1 (S st).2 = R) := hR.symm
 have HL0 : Hid (Pr.Lm ts 300 (S st).1) := (hlm.fn hF).up (by omega)
 have HD0 : Hid (30 < d → (S st).1.bad = true) := fun h => by rw [hF.bad st (hd h)]; exact hd h
 generalize (S st).1 = s1 at *
 generalize (S st).2 = k1 at *
 clear h hS hF hlm hd hR
 unfold me at *
 go_enter Tryz.func106, Tryz.ntmps106
 go_wp2_with fail
 refine (C1.out _ _ _ _ _ HA.out).mono ?_
 rintro e w1 ⟨v1, rfl, a1⟩
 have HA1 : Hid _ := a1
 clear a1 C1 HA
 go_wp2_with fail
 go_loopw [3] (fun k wr => ∃ (st : Pr.PS) (v : Value) (kk : Int) (f : Nat), k = .int .i64 kk ∧ Hid (At ts B g L Xs w0 v0 wr d st v) ∧ Hid (Pr.binL ts S [43] [45] 9 10 f st kk = R) ∧ Hid (Pr.Lm ts 300 st) ∧ (st.bad = false → ts.length < st.a + f) ∧ (30 < d → st.bad = true)) (fun _ wr => leftG g ts.length wr)
 case atStart => exact ⟨s1, v1, k1, ts.length + 1, rfl, HA1.out, HR0.out, HL0.out, fun _ => by omega, HD0.out⟩
 case round =>
  clear HR0 HL0 HD0 HA1
  obtain ⟨st, v, kk, f, rfl, HAr, HR, HLM, hf, hd⟩ := hrel
  obtain ⟨c0, c1, c2, c3, c4, -, -, -, -⟩ := cells5 HAr.out.rs.rg
  clear c0 c1 c2 c4
  cases hbad : st.bad with
  | true =>
   rw [hbad] at c3
   have HE : Hid (R = (st, kk)) := by show _ = _; rw [← HR.out, Pr.binL_bad _ _ _ _ _ _ _ hbad]
   clear HR HLM HS HF hf hd hbad
   go_wp2
   go_ret
   rw [HE.out]
   exact ⟨v, rfl, HAr.out⟩
  | false =>
   rw [hbad] at c3
   have hd30 : ¬ 30 < d := fun h => by rw [hd h] at hbad; cases hbad
   have hf := hf hbad
   have HT : Hid (st.a ≤ ts.length) := HLM.out.top
   have C2 : Hid (Step ts B g L 81 #[.pointer (some ⟨g, 0, none⟩), .string ⟨#[43]⟩] d st (.bool (st.is ts 5 [43])) d (if st.is ts 5 [43] = true then st.go else st)) := stSign [43] hl HT.out
   have C3 : Hid (Step ts B g L 81 #[.pointer (some ⟨g, 0, none⟩), .string ⟨#[45]⟩] d st (.bool (st.is ts 5 [45])) d (if st.is ts 5 [45] = true then st.go else st)) := stSign [45] hl HT.out
   clear hd HT
   cases hV : st.is ts 5 [43] with
   | true =>
    have htop := HLM.out.top
    obtain ⟨f, rfl⟩ : ∃ f', f = f' + 1 := ⟨f - 1, by omega⟩
    have CS : Hid (Step ts B g L 128 #[.pointer (some ⟨g, 0, none⟩)] d st.go (.int .i64 (S st.go).2) d (S st.go).1) := HS.out st.go (((HLM.out.zero hbad).go (Pr.is_lt hV).1).up (by omega)) (fun h => absurd h hd30)
    have hLM2 : Pr.Lm ts m (S st.go).1 := by
     have := ((HLM.out.zero hbad).go (Pr.is_lt hV).1).fn HF.out
     exact this.up (by omega)
    have CT : Hid (Step ts B g L 82 #[.pointer (some ⟨g, 0, none⟩), .int .i64 9, .int .i64 kk, .int .i64 (S st.go).2] d (S st.go).1 (.int .i64 ((S st.go).1.put (Pr.nd 9 [] [kk, (S st.go).2])).2) d ((S st.go).1.put (Pr.nd 9 [] [kk, (S st.go).2])).1) := stTwo 9 kk (S st.go).2 (by have := hLM2.len; omega)
    have HN : Hid (Pr.binL ts S [43] [45] 9 10 f ((S st.go).1.put (Pr.nd 9 [] [kk, (S st.go).2])).1 ((S st.go).1.put (Pr.nd 9 [] [kk, (S st.go).2])).2 = R) := by
     show _ = _
     rw [← HR.out]
     exact (binL_a S [43] [45] 9 10 f kk hbad hV).symm
    have HL2 : Hid (Pr.Lm ts 300 ((S st.go).1.put (Pr.nd 9 [] [kk, (S st.go).2])).1) := (hLM2.put (by simp [Pr.nd]) (by simp [Pr.nd_text])).up (by omega)
    have hmono : st.a + 1 ≤ ((S st.go).1.put (Pr.nd 9 [] [kk, (S st.go).2])).1.a := HF.out.mono st.go
    have HLE : Hid (leftG g ts.length wr = ts.length + 1 - st.a) := by
     show _ = _
     rw [HAr.out.rs.left, hbad]
     rfl
    rw [hV] at C2
    generalize ((S st.go).1.put (Pr.nd 9 [] [kk, (S st.go).2])).1 = s2 at *
    generalize ((S st.go).1.put (Pr.nd 9 [] [kk, (S st.go).2])).2 = k2 at *
    generalize (S st.go).1 = s1 at *
    generalize (S st.go).2 = k1 at *
    clear hLM2 HS HF HR HLM
    go_wp2_with fail
    refine (C2.out _ _ _ _ _ HAr.out).mono ?_
    rintro e w2 ⟨v2, rfl, a2⟩
    have HA2 : Hid _ := a2
    clear a2
    go_wp2_with fail
    refine (CS.out _ _ _ _ _ HA2.out).mono ?_
    rintro e w3 ⟨v3, rfl, a3⟩
    have HA3 : Hid _ := a3
    clear a3
    go_wp2_with fail
    refine (CT.out _ _ _ _ _ HA3.out).mono ?_
    rintro e w4 ⟨v4, rfl, a4⟩
    have HA4 : Hid _ := a4
    clear a4
    go_wp2
    go_roundw
    case rel => exact ⟨s2, v4, k2, f, rfl, HA4.out, HN.out, HL2.out, fun _ => by omega, fun h => by omega⟩
    case measure =>
     rw [HLE.out, HA4.out.rs.left]
     split <;> omega
   | false =>
    rw [hV] at C2
    cases hV2 : st.is ts 5 [45] with
    | true =>
     have htop := HLM.out.top
     obtain ⟨f, rfl⟩ : ∃ f', f = f' + 1 := ⟨f - 1, by omega⟩
     have CS : Hid (Step ts B g L 128 #[.pointer (some ⟨g, 0, none⟩)] d st.go (.int .i64 (S st.go).2) d (S st.go).1) := HS.out st.go (((HLM.out.zero hbad).go (Pr.is_lt hV2).1).up (by omega)) (fun h => absurd h hd30)
     have hLM2 : Pr.Lm ts m (S st.go).1 := by
      have := ((HLM.out.zero hbad).go (Pr.is_lt hV2).1).fn HF.out
      exact this.up (by omega)
     have CT : Hid (Step ts B g L 82 #[.pointer (some ⟨g, 0, none⟩), .int .i64 10, .int .i64 kk, .int .i64 (S st.go).2] d (S st.go).1 (.int .i64 ((S st.go).1.put (Pr.nd 10 [] [kk, (S st.go).2])).2) d ((S st.go).1.put (Pr.nd 10 [] [kk, (S st.go).2])).1) := stTwo 10 kk (S st.go).2 (by have := hLM2.len; omega)
     have HN : Hid (Pr.binL ts S [43] [45] 9 10 f ((S st.go).1.put (Pr.nd 10 [] [kk, (S st.go).2])).1 ((S st.go).1.put (Pr.nd 10 [] [kk, (S st.go).2])).2 = R) := by
      show _ = _
      rw [← HR.out]
      exact (binL_b S [43] [45] 9 10 f kk hbad hV hV2).symm
     have HL2 : Hid (Pr.Lm ts 300 ((S st.go).1.put (Pr.nd 10 [] [kk, (S st.go).2])).1) := (hLM2.put (by simp [Pr.nd]) (by simp [Pr.nd_text])).up (by omega)
     have hmono : st.a + 1 ≤ ((S st.go).1.put (Pr.nd 10 [] [kk, (S st.go).2])).1.a := HF.out.mono st.go
     have HLE : Hid (leftG g ts.length wr = ts.length + 1 - st.a) := by
      show _ = _
      rw [HAr.out.rs.left, hbad]
      rfl
     rw [hV2] at C3
     generalize ((S st.go).1.put (Pr.nd 10 [] [kk, (S st.go).2])).1 = s2 at *
     generalize ((S st.go).1.put (Pr.nd 10 [] [kk, (S st.go).2])).2 = k2 at *
     generalize (S st.go).1 = s1 at *
     generalize (S st.go).2 = k1 at *
     clear hLM2 HS HF HR HLM
     go_wp2_with fail
     refine (C2.out _ _ _ _ _ HAr.out).mono ?_
     rintro e w2 ⟨v2, rfl, a2⟩
     have HA2 : Hid _ := a2
     clear a2
     go_wp2_with fail
     refine (C3.out _ _ _ _ _ HA2.out).mono ?_
     rintro e w3 ⟨v3, rfl, a3⟩
     have HA3 : Hid _ := a3
     clear a3
     go_wp2_with fail
     refine (CS.out _ _ _ _ _ HA3.out).mono ?_
     rintro e w4 ⟨v4, rfl, a4⟩
     have HA4 : Hid _ := a4
     clear a4
     go_wp2_with fail
     refine (CT.out _ _ _ _ _ HA4.out).mono ?_
     rintro e w5 ⟨v5, rfl, a5⟩
     have HA5 : Hid _ := a5
     clear a5
     go_wp2
     go_roundw
     case rel => exact ⟨s2, v5, k2, f, rfl, HA5.out, HN.out, HL2.out, fun _ => by omega, fun h => by omega⟩
     case measure =>
      rw [HLE.out, HA5.out.rs.left]
      split <;> omega
    | false =>
     rw [hV2] at C3
     have HE : Hid (R = (st, kk)) := by show _ = _; rw [← HR.out, binL_c S _ _ _ _ f kk hV hV2]
     clear HR HLM HS HF hf hbad hV hV2
     go_wp2_with fail
     refine (C2.out _ _ _ _ _ HAr.out).mono ?_
     rintro e w2 ⟨v2, rfl, a2⟩
     have HA2 : Hid _ := a2
     clear a2
     go_wp2_with fail
     refine (C3.out _ _ _ _ _ HA2.out).mono ?_
     rintro e w3 ⟨v3, rfl, a3⟩
     have HA3 : Hid _ := a3
     clear a3
     go_wp2
     go_ret
     rw [HE.out]
     exact ⟨v3, rfl, HA3.out⟩
set_option maxRecDepth 100000 in
set_option maxHeartbeats 4000000 in
theorem conJoinedL {m : Nat} {S : Pr.Rf} (hS : Con ts B g L 106 d S) (hF : Pr.Fn ts m S) (hm : m ≤ 250) (hl : ts.length ≤ 200) : Con ts B g L 80 d (fun st => Pr.joinL ts S  (ts.length + 1) (S st).1 (S st).2) := by
 intro st hlm hd Xs w0 v0 w v h
 have HA : Hid (At ts B g L Xs w0 v0 w d st v) := h
 have C1 : Hid (Step ts B g L 106 #[me g] d st (.int .i64 (S st).2) d (S st).1) := hS st hlm hd
 have HS : Hid (∀ st, Pr.Lm ts 300 st → (30 < d → st.bad = true) → Step ts B g L 106 #[me g] d st (.int .i64 (S st).2) d (S st).1) := hS
 have HF : Hid (Pr.Fn ts m S) := hF
 obtain ⟨R, hR⟩ : ∃ R, R = Pr.joinL ts S  (ts.length + 1) (S st).1 (S st).2 := ⟨_, rfl⟩
 show Calls _ _ _ _ fun e w' => ∃ v', e = .returned (.int .i64 (Pr.joinL ts S  (ts.length + 1) (S st).1 (S st).2).2) ∧ At ts B g L Xs w0 v0 w' d (Pr.joinL ts S  (ts.length + 1) (S st).1 (S st).2).1 v'
 rw [← hR]
 have HR0 : Hid (Pr.joinL ts S  (ts.length + 1) (S st).1 (S st).2 = R) := hR.symm
 have HL0 : Hid (Pr.Lm ts 300 (S st).1) := (hlm.fn hF).up (by omega)
 have HD0 : Hid (30 < d → (S st).1.bad = true) := fun h => by rw [hF.bad st (hd h)]; exact hd h
 generalize (S st).1 = s1 at *
 generalize (S st).2 = k1 at *
 clear h hS hF hlm hd hR
 unfold me at *
 go_enter Tryz.func80, Tryz.ntmps80
 go_wp2_with fail
 refine (C1.out _ _ _ _ _ HA.out).mono ?_
 rintro e w1 ⟨v1, rfl, a1⟩
 have HA1 : Hid _ := a1
 clear a1 C1 HA
 go_wp2_with fail
 go_loopw [3] (fun k wr => ∃ (st : Pr.PS) (v : Value) (kk : Int) (f : Nat), k = .int .i64 kk ∧ Hid (At ts B g L Xs w0 v0 wr d st v) ∧ Hid (Pr.joinL ts S  f st kk = R) ∧ Hid (Pr.Lm ts 300 st) ∧ (st.bad = false → ts.length < st.a + f) ∧ (30 < d → st.bad = true)) (fun _ wr => leftG g ts.length wr)
 case atStart => exact ⟨s1, v1, k1, ts.length + 1, rfl, HA1.out, HR0.out, HL0.out, fun _ => by omega, HD0.out⟩
 case round =>
  clear HR0 HL0 HD0 HA1
  obtain ⟨st, v, kk, f, rfl, HAr, HR, HLM, hf, hd⟩ := hrel
  obtain ⟨c0, c1, c2, c3, c4, -, -, -, -⟩ := cells5 HAr.out.rs.rg
  clear c0 c1 c2 c4
  cases hbad : st.bad with
  | true =>
   rw [hbad] at c3
   have HE : Hid (R = (st, kk)) := by show _ = _; rw [← HR.out, Pr.joinL_bad _ _ _ hbad]
   clear HR HLM HS HF hf hd hbad
   go_wp2
   go_ret
   rw [HE.out]
   exact ⟨v, rfl, HAr.out⟩
  | false =>
   rw [hbad] at c3
   have hd30 : ¬ 30 < d := fun h => by rw [hd h] at hbad; cases hbad
   have hf := hf hbad
   have HT : Hid (st.a ≤ ts.length) := HLM.out.top
   have C2 : Hid (Step ts B g L 81 #[.pointer (some ⟨g, 0, none⟩), .string ⟨#[46]⟩] d st (.bool (st.is ts 5 [46])) d (if st.is ts 5 [46] = true then st.go else st)) := stSign [46] hl HT.out
   clear hd HT
   cases hV : st.is ts 5 [46] with
   | true =>
    have htop := HLM.out.top
    obtain ⟨f, rfl⟩ : ∃ f', f = f' + 1 := ⟨f - 1, by omega⟩
    have CS : Hid (Step ts B g L 106 #[.pointer (some ⟨g, 0, none⟩)] d st.go (.int .i64 (S st.go).2) d (S st.go).1) := HS.out st.go (((HLM.out.zero hbad).go (Pr.is_lt hV).1).up (by omega)) (fun h => absurd h hd30)
    have hLM2 : Pr.Lm ts m (S st.go).1 := by
     have := ((HLM.out.zero hbad).go (Pr.is_lt hV).1).fn HF.out
     exact this.up (by omega)
    have CT : Hid (Step ts B g L 82 #[.pointer (some ⟨g, 0, none⟩), .int .i64 13, .int .i64 kk, .int .i64 (S st.go).2] d (S st.go).1 (.int .i64 ((S st.go).1.put (Pr.nd 13 [] [kk, (S st.go).2])).2) d ((S st.go).1.put (Pr.nd 13 [] [kk, (S st.go).2])).1) := stTwo 13 kk (S st.go).2 (by have := hLM2.len; omega)
    have HN : Hid (Pr.joinL ts S  f ((S st.go).1.put (Pr.nd 13 [] [kk, (S st.go).2])).1 ((S st.go).1.put (Pr.nd 13 [] [kk, (S st.go).2])).2 = R) := by
     show _ = _
     rw [← HR.out]
     exact (joinL_a S f kk hV).symm
    have HL2 : Hid (Pr.Lm ts 300 ((S st.go).1.put (Pr.nd 13 [] [kk, (S st.go).2])).1) := (hLM2.put (by simp [Pr.nd]) (by simp [Pr.nd_text])).up (by omega)
    have hmono : st.a + 1 ≤ ((S st.go).1.put (Pr.nd 13 [] [kk, (S st.go).2])).1.a := HF.out.mono st.go
    have HLE : Hid (leftG g ts.length wr = ts.length + 1 - st.a) := by
     show _ = _
     rw [HAr.out.rs.left, hbad]
     rfl
    rw [hV] at C2
    generalize ((S st.go).1.put (Pr.nd 13 [] [kk, (S st.go).2])).1 = s2 at *
    generalize ((S st.go).1.put (Pr.nd 13 [] [kk, (S st.go).2])).2 = k2 at *
    generalize (S st.go).1 = s1 at *
    generalize (S st.go).2 = k1 at *
    clear hLM2 HS HF HR HLM
    go_wp2_with fail
    refine (C2.out _ _ _ _ _ HAr.out).mono ?_
    rintro e w2 ⟨v2, rfl, a2⟩
    have HA2 : Hid _ := a2
    clear a2
    go_wp2_with fail
    refine (CS.out _ _ _ _ _ HA2.out).mono ?_
    rintro e w3 ⟨v3, rfl, a3⟩
    have HA3 : Hid _ := a3
    clear a3
    go_wp2_with fail
    refine (CT.out _ _ _ _ _ HA3.out).mono ?_
    rintro e w4 ⟨v4, rfl, a4⟩
    have HA4 : Hid _ := a4
    clear a4
    go_wp2
    go_roundw
    case rel => exact ⟨s2, v4, k2, f, rfl, HA4.out, HN.out, HL2.out, fun _ => by omega, fun h => by omega⟩
    case measure =>
     rw [HLE.out, HA4.out.rs.left]
     split <;> omega
   | false =>
    rw [hV] at C2
    have HE : Hid (R = (st, kk)) := by show _ = _; rw [← HR.out, joinL_c S f kk hV]
    clear HR HLM HS HF hf hbad hV
    go_wp2_with fail
    refine (C2.out _ _ _ _ _ HAr.out).mono ?_
    rintro e w2 ⟨v2, rfl, a2⟩
    have HA2 : Hid _ := a2
    clear a2
    go_wp2
    go_ret
    rw [HE.out]
    exact ⟨v2, rfl, HA2.out⟩
end
end PartPrF
section PartPrG
open Go.RowKit
section
variable {ts : List Tk.Tok} {B g : Nat} {L : Value} {Xs : Nat → Prop} {d : Int} {st : Pr.PS}
theorem At.fail {w0 w : World} {v0 v : Value} (h : At ts B g L Xs w0 v0 w d st v) : At ts B g L Xs w0 v0 (w.setCell ⟨g, 3, none⟩ (.bool true)) d st.fail v := ⟨h.rs.onl ((Onl.refl g w).set 3 _) (h.rs.rg.bads true) rfl, h.kb.trans (KB.onl v ((Onl.refl g w).set 3 _))⟩
theorem At.next {w0 w : World} {v0 v : Value} (h : At ts B g L Xs w0 v0 w d st v) : At ts B g L Xs w0 v0 (w.setCell ⟨g, 1, none⟩ (.int .i64 ((st.a + 1 : Nat) : Int))) d st.go v := ⟨h.rs.onl ((Onl.refl g w).set 1 _) (h.rs.rg.at1 (st.a + 1)) rfl, h.kb.trans (KB.onl v ((Onl.refl g w).set 1 _))⟩
theorem RS.tokAt {w : World} {v : Value} (h : RS ts B g L Xs w d st v) (ha : st.a < ts.length) : ∃ b cap, L = .slice (some ⟨b, 0, none⟩) ts.length cap ∧ w.cell? ⟨b, st.a * 2, none⟩ = some (.int .i64 ((st.tok ts).kind : Int)) ∧ w.cell? ⟨b, st.a * 2 + 1, none⟩ = some (.string ⟨(st.tok ts).text.toArray⟩) ∧ b ≠ g := by
 obtain ⟨ad, cap, hL, f⟩ := h.tk
 obtain ⟨b, rfl, hb, hc⟩ := f (by omega)
 exact ⟨b, cap, hL, (hc st.a ha).1, (hc st.a ha).2, (h.far b (by rw [hL]; rfl)).2⟩
set_option maxRecDepth 100000 in
set_option maxHeartbeats 4000000 in
theorem conExprOne {m : Nat} {J : Pr.Rf} (hJ : Con ts B g L 80 d J) (hF : Pr.Fn ts m J) (hm : m ≤ 250) (hl : ts.length ≤ 200) : Con ts B g L 45 d (fun st => Pr.held ts J (J st).1 (J st).2) := by
 intro st hlm hd Xs w0 v0 w v h
 have HA : Hid (At ts B g L Xs w0 v0 w d st v) := h
 have C1 : Hid (Step ts B g L 80 #[me g] d st (.int .i64 (J st).2) d (J st).1) := hJ st hlm hd
 have hlm1 : Pr.Lm ts 300 (J st).1 := (hlm.fn hF).up (by omega)
 have hd1 : 30 < d → (J st).1.bad = true := fun h => by rw [hF.bad st (hd h)]; exact hd h
 show Calls _ _ _ _ fun e w' => ∃ v', e = .returned (.int .i64 (Pr.held ts J (J st).1 (J st).2).2) ∧ At ts B g L Xs w0 v0 w' d (Pr.held ts J (J st).1 (J st).2).1 v'
 generalize (J st).1 = s1 at *
 generalize (J st).2 = k1 at *
 clear hlm hd
 have C2 : Hid (Step ts B g L 81 #[me g, .string ⟨#[60]⟩] d s1 (.bool (s1.is ts 5 [60])) d (if s1.is ts 5 [60] = true then s1.go else s1)) := stSign [60] hl hlm1.top
 have C3 : Hid (Step ts B g L 81 #[me g, .string ⟨#[61, 61]⟩] d s1 (.bool (s1.is ts 5 [61, 61])) d (if s1.is ts 5 [61, 61] = true then s1.go else s1)) := stSign [61, 61] hl hlm1.top
 have C4 : Hid (Step ts B g L 81 #[me g, .string ⟨#[126]⟩] d s1 (.bool (s1.is ts 5 [126])) d (if s1.is ts 5 [126] = true then s1.go else s1)) := stSign [126] hl hlm1.top
 obtain ⟨R, hR⟩ : ∃ R, R = Pr.held ts J s1 k1 := ⟨_, rfl⟩
 rw [← hR]
 have CJ : Hid (s1.bad = false → Pr.Lm ts 300 s1.go → Step ts B g L 80 #[me g] d s1.go (.int .i64 (J s1.go).2) d (J s1.go).1) := fun hb hlm => hJ s1.go hlm (fun h => by rw [hd1 h] at hb; cases hb)
 have HL2 : Hid (Pr.Lm ts 300 s1.go → (J s1.go).1.out.length ≤ 1000) := fun hlm => by have := (hlm.fn hF).len; omega
 have CT : Hid (∀ op : Nat, (J s1.go).1.out.length ≤ 1000 → Step ts B g L 82 #[me g, .int .i64 (op : Int), .int .i64 k1, .int .i64 (J s1.go).2] d (J s1.go).1 (.int .i64 ((J s1.go).1.put (Pr.nd (op : Int) [] [k1, (J s1.go).2])).2) d ((J s1.go).1.put (Pr.nd (op : Int) [] [k1, (J s1.go).2])).1) := fun op h => stTwo op k1 _ h
 have HR : Hid (R = Pr.held ts J s1 k1) := hR
 clear h hJ hF hR hd1
 unfold me at *
 cases hV : s1.is ts 5 [60] with
 | true =>
  have hg := hlm1.go (Pr.is_lt hV).1
  have CJ2 : Hid (Step ts B g L 80 #[.pointer (some ⟨g, 0, none⟩)] d s1.go (.int .i64 (J s1.go).2) d (J s1.go).1) := CJ.out (Pr.is_lt hV).2 hg
  have CT2 : Hid (Step ts B g L 82 #[.pointer (some ⟨g, 0, none⟩), .int .i64 14, .int .i64 k1, .int .i64 (J s1.go).2] d (J s1.go).1 (.int .i64 R.2) d R.1) := by
   have := CT.out 14 (HL2.out hg)
   rw [HR.out, Pr.held, if_pos hV]
   exact this
  rw [hV] at C2
  generalize (J s1.go).1 = s2 at *
  generalize (J s1.go).2 = k2 at *
  clear CJ HL2 CT HR hg hlm1 hV C3 C4
  go_enter Tryz.func45, Tryz.ntmps45
  go_wp2_with fail
  refine (C1.out _ _ _ _ _ HA.out).mono ?_
  rintro e w1 ⟨v1, rfl, a1⟩
  have HA1 : Hid _ := a1
  clear a1 HA
  go_wp2_with fail
  refine (C2.out _ _ _ _ _ HA1.out).mono ?_
  rintro e w2 ⟨v2, rfl, a2⟩
  have HA2 : Hid _ := a2
  clear a2 HA1
  go_wp2_with fail
  refine (CJ2.out _ _ _ _ _ HA2.out).mono ?_
  rintro e w3 ⟨v3, rfl, a3⟩
  have HA3 : Hid _ := a3
  clear a3 HA2
  go_wp2_with fail
  refine (CT2.out _ _ _ _ _ HA3.out).mono ?_
  rintro e w4 ⟨v4, rfl, a4⟩
  have HA4 : Hid _ := a4
  clear a4 HA3
  go_wp2
  go_ret
  exact ⟨v4, rfl, HA4.out⟩
 | false =>
 rw [hV] at C2
 cases hV2 : s1.is ts 5 [61, 61] with
 | true =>
  have hg := hlm1.go (Pr.is_lt hV2).1
  have CJ2 : Hid (Step ts B g L 80 #[.pointer (some ⟨g, 0, none⟩)] d s1.go (.int .i64 (J s1.go).2) d (J s1.go).1) := CJ.out (Pr.is_lt hV2).2 hg
  have CT2 : Hid (Step ts B g L 82 #[.pointer (some ⟨g, 0, none⟩), .int .i64 15, .int .i64 k1, .int .i64 (J s1.go).2] d (J s1.go).1 (.int .i64 R.2) d R.1) := by
   have := CT.out 15 (HL2.out hg)
   rw [HR.out, Pr.held, if_neg (by simp [hV]), if_pos hV2]
   exact this
  rw [hV2] at C3
  generalize (J s1.go).1 = s2 at *
  generalize (J s1.go).2 = k2 at *
  clear CJ HL2 CT HR hg hlm1 hV hV2 C4
  go_enter Tryz.func45, Tryz.ntmps45
  go_wp2_with fail
  refine (C1.out _ _ _ _ _ HA.out).mono ?_
  rintro e w1 ⟨v1, rfl, a1⟩
  have HA1 : Hid _ := a1
  clear a1 HA
  go_wp2_with fail
  refine (C2.out _ _ _ _ _ HA1.out).mono ?_
  rintro e w2 ⟨v2, rfl, a2⟩
  have HA2 : Hid _ := a2
  clear a2 HA1
  go_wp2_with fail
  refine (C3.out _ _ _ _ _ HA2.out).mono ?_
  rintro e w3 ⟨v3, rfl, a3⟩
  have HA3 : Hid _ := a3
  clear a3 HA2
  go_wp2_with fail
  refine (CJ2.out _ _ _ _ _ HA3.out).mono ?_
  rintro e w4 ⟨v4, rfl, a4⟩
  have HA4 : Hid _ := a4
  clear a4 HA3
  go_wp2_with fail
  refine (CT2.out _ _ _ _ _ HA4.out).mono ?_
  rintro e w5 ⟨v5, rfl, a5⟩
  have HA5 : Hid _ := a5
  clear a5 HA4
  go_wp2
  go_ret
  exact ⟨v5, rfl, HA5.out⟩
 | false =>
 rw [hV2] at C3
 cases hV3 : s1.is ts 5 [126] with
 | true =>
  rw [hV3] at C4
  have hb1 : s1.bad = false := (Pr.is_lt hV3).2
  have HE : Hid (R = if s1.go.over ts = true ∨ (s1.go.tok ts).kind ≠ 4 then (s1.go.fail, 0) else s1.go.go.put (Pr.nd 16 (s1.go.tok ts).text [k1])) := by
   show _ = _
   rw [HR.out, Pr.held, if_neg (by simp [hV]), if_neg (by simp [hV2]), if_pos hV3]
  have hV3 := (Pr.is_lt hV3).1
  clear CJ HL2 CT HR hV hV2
  go_enter Tryz.func45, Tryz.ntmps45
  go_wp2_with fail
  refine (C1.out _ _ _ _ _ HA.out).mono ?_
  rintro e w1 ⟨v1, rfl, a1⟩
  have HA1 : Hid _ := a1
  clear a1 HA
  go_wp2_with fail
  refine (C2.out _ _ _ _ _ HA1.out).mono ?_
  rintro e w2 ⟨v2, rfl, a2⟩
  have HA2 : Hid _ := a2
  clear a2 HA1
  go_wp2_with fail
  refine (C3.out _ _ _ _ _ HA2.out).mono ?_
  rintro e w3 ⟨v3, rfl, a3⟩
  have HA3 : Hid _ := a3
  clear a3 HA2
  go_wp2_with fail
  refine (C4.out _ _ _ _ _ HA3.out).mono ?_
  rintro e w4 ⟨v4, rfl, a4⟩
  have HA4 : Hid _ := a4
  clear a4 HA3
  have HB4 : Hid (At ts B g L Xs w0 v0 w4 d s1.go v4) := HA4.out
  have hla := (hlm1.go hV3).top
  have hlen := (hlm1.go hV3).len
  have hgb : s1.go.bad = false := hb1
  obtain ⟨c0, c1, c2, c3, c4, f1, f2, f3, f4⟩ := cells5 HB4.out.rs.rg
  rw [hgb] at c3
  clear HA4 C1 C2 C3 C4 hlm1 hb1 c2 c4 f2 f4 hV3
  generalize s1.go = s2 at *
  by_cases hov : ts.length ≤ s2.a
  ·have HE2 : Hid (R = (s2.fail, 0)) := by show _ = _; rw [HE.out, if_pos (.inl (by simp [Pr.PS.over, hov]))]
   obtain ⟨ad, cap, rfl, -⟩ := HB4.out.rs.tk
   have d1 : decide ((ts.length : Int) ≤ (s2.a : Int)) = true := decide_eq_true (by omega)
   clear HE hgb
   go_wp2_with fail
   go_quiet (fail)
   go_wp2
   go_ret
   rw [HE2.out]
   exact ⟨v4, rfl, (HB4.out.drew _).fail⟩
  ·obtain ⟨b, cap, rfl, t0, t1, hbg⟩ := HB4.out.rs.tokAt (by omega)
   have d1 : decide ((ts.length : Int) ≤ (s2.a : Int)) = false := decide_eq_false (by omega)
   have i1 : (s2.a : Int) < (ts.length : Int) := by omega
   have i0 : (0 : Int) ≤ (s2.a : Int) := by omega
   by_cases hk : (s2.tok ts).kind = 4
   ·have HE2 : Hid (R = s2.go.put (Pr.nd 16 (s2.tok ts).text [k1])) := by show _ = _; rw [HE.out, if_neg (by simp [Pr.PS.over, hgb, hk]; omega)]
    have CP : Hid (∀ (W : World) (q : Nat), At ts B g (.slice (some ⟨b, 0, none⟩) ts.length cap) Xs w0 v0 W d s2.go v4 → q = W.heap.size → Calls Tryz.prog 49 #[.pointer (some ⟨g, 0, none⟩), .agg #[.int .i64 16, .string ⟨(s2.tok ts).text.toArray⟩, .slice (some ⟨q, 0, none⟩) 1 1]] (W.alloc (.cells #[.int .i64 k1] 3)) fun e w' => ∃ v', e = .returned (.int .i64 R.2) ∧ At ts B g (.slice (some ⟨b, 0, none⟩) ts.length cap) Xs w0 v0 w' d R.1 v') := by
     intro W q h e
     subst e
     rw [HE2.out]
     exact stPut 16 (s2.tok ts).text [k1] _ 1 1 w0 v0 _ v4 (h.alloc _) (by have : s2.go.out.length = s2.out.length := rfl; omega) (kf1 h.rs k1)
    have HN : Hid (∀ k, At ts B g (.slice (some ⟨b, 0, none⟩) ts.length cap) Xs w0 v0 ((w4.drewN k).setCell ⟨g, 1, none⟩ (.int .i64 ((s2.a : Int) + 1))) d s2.go v4) := fun k => by
     have := (HB4.out.drew k).next
     have e1 : ((s2.a + 1 : Nat) : Int) = (s2.a : Int) + 1 := by omega
     rw [e1] at this
     exact this
    have dk : (((s2.tok ts).kind : Int) != 4) = false := by rw [hk]; rfl
    have dk2 : ((s2.tok ts).kind != 4) = false := by rw [hk]; rfl
    generalize (⟨(s2.tok ts).text.toArray⟩ : ByteArray) = X at *
    generalize (s2.tok ts).kind = K at *
    clear HE HE2 hgb hk
    go_wp2_with fail
    go_quiet (fail)
    go_wp2_with fail
    go_quiet (fail)
    go_wp2_with fail
    refine (CP.out _ _ (HN.out _) (by simp [World.setCell])).mono ?_
    rintro e w5 ⟨v5, rfl, a5⟩
    have HA5 : Hid _ := a5
    clear a5
    go_wp2
    go_ret
    exact ⟨v5, rfl, HA5.out⟩
   ·have HE2 : Hid (R = (s2.fail, 0)) := by show _ = _; rw [HE.out, if_pos (.inr hk)]
    have dk : (((s2.tok ts).kind : Int) != 4) = true := by simp; omega
    have dk2 : ((s2.tok ts).kind != 4) = true := by simp [hk]
    generalize (⟨(s2.tok ts).text.toArray⟩ : ByteArray) = X at *
    generalize (s2.tok ts).kind = K at *
    clear HE hgb hk
    go_wp2_with fail
    go_quiet (fail)
    go_wp2
    go_ret
    rw [HE2.out]
    exact ⟨v4, rfl, (HB4.out.drew _).fail⟩
 | false =>
 rw [hV3] at C4
 have HE : Hid (R = (s1, k1)) := by
  show _ = _
  rw [HR.out, Pr.held, if_neg (by simp [hV]), if_neg (by simp [hV2]), if_neg (by simp [hV3])]
 rw [HE.out]
 clear CJ HL2 CT HR hV hV2 hV3 hlm1 HE
 go_enter Tryz.func45, Tryz.ntmps45
 go_wp2_with fail
 refine (C1.out _ _ _ _ _ HA.out).mono ?_
 rintro e w1 ⟨v1, rfl, a1⟩
 have HA1 : Hid _ := a1
 clear a1 HA
 go_wp2_with fail
 refine (C2.out _ _ _ _ _ HA1.out).mono ?_
 rintro e w2 ⟨v2, rfl, a2⟩
 have HA2 : Hid _ := a2
 clear a2 HA1
 go_wp2_with fail
 refine (C3.out _ _ _ _ _ HA2.out).mono ?_
 rintro e w3 ⟨v3, rfl, a3⟩
 have HA3 : Hid _ := a3
 clear a3 HA2
 go_wp2_with fail
 refine (C4.out _ _ _ _ _ HA3.out).mono ?_
 rintro e w4 ⟨v4, rfl, a4⟩
 have HA4 : Hid _ := a4
 clear a4 HA3
 go_wp2
 go_ret
 exact ⟨v4, rfl, HA4.out⟩
end
end PartPrG
end Go.Proofs.YtkfkbdgfnopokaaGreatDoor
