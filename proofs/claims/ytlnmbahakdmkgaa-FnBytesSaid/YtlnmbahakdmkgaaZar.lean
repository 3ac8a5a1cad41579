/- Where a piece may end, by the specification: a new memory of what is known. Where a piece may end, by the specification: a new memory of what is known, walked. -/
import Derived.Test.YtlnmbahakdmkgaaZaq
import Derived.Deep.RegionLaw
import Derived.Deep.AppendLies
namespace Go.Proofs.Ytlnmbahakdmkgaa
section PartSpO
open Go.RowKit

theorem Try.infoSB : (Try.prog.info? 51).map (fun i => (i.zero, i.size, i.bytes)) = some (some (.slice none 0 0), 1, 24) := by kernel_rfl
theorem Try.infoSSB : (Try.prog.info? 83).map (fun i => (i.zero, i.size, i.bytes)) = some (some (.slice none 0 0), 1, 24) := by kernel_rfl
set_option maxRecDepth 100000 in
/-- make of n rows of Booleans, all nil. -/
theorem makeSB_run (n : Nat) (h : n ≤ 1000000000) : ∃ M : Array Value, M.size = n ∧ ∀ W : World, (Instr.makeSlice 83 (.int .i64 (n : Int)) (.int .i64 (n : Int))).run Try.prog W = .ok (.slice (some ⟨W.heap.size, 0, none⟩) n n) (W.alloc (.cells M 51)) := by
  obtain ⟨i0, hi, hz0, hz1, hz2⟩ := info_parts Try.infoSB
  refine ⟨madeCells (Value.slice none 0 0).cells (((n : Nat) : Int).toNat * i0.size), by rw [size_madeCells, hz1]; simp, fun W => ?_⟩
  have h := run_make (P := Try.prog) W 83 51 i0 (.slice none 0 0) Try.underlying83 hi hz0 .i64 .i64 (n : Int) (n : Int) (by omega) (by omega) (by rw [hz2]; omega) (by omega)
  simpa using h

/-- A row of n that lies in block q. -/
def bsl (n q : Nat) : Value := .slice (some ⟨q, 0, none⟩) n n
/-- The new memory, while it is made. -/
structure Nw (w : World) (pv : Value) (s : ByteArray) (m : Nat) (wr : World) (dv ev : Value) (ds es : List Nat) : Prop where
  mb : wr.heap[m]? = some (.cells #[pv, .string s, dv, ev] 86 (0, 0))
  lo : w.heap.size ≤ m
  dr : wr.ownsRow w.heap.size 51 1 dv ds.length (ds.map (bsl (s.size + 1)))
  er : wr.ownsRow w.heap.size 83 1 ev es.length (es.map (bsl (s.size + 1)))
  db : ∀ q, q ∈ ds → w.heap.size ≤ q ∧ BBlk wr q (s.size + 1) (fun _ => false)
  eb : ∀ q, q ∈ es → w.heap.size ≤ q ∧ ∃ arr, wr.heap[q]? = some (.cells arr 51 (0, 0)) ∧ arr.size = s.size + 1
  dd : ds.Nodup
  ee : es.Nodup
  de : ∀ q, q ∈ es → dv.ownBlock ≠ some q
  bel : Below w.heap.size w wr

theorem own_keep {w w' : World} {base : Nat} {e : TypeId} {v : Value} {n : Nat} {xs : List Value} (h : w.ownsRow base e 1 v n xs) (hb : ∀ q, v.ownBlock = some q → w'.heap[q]? = w.heap[q]?) : w'.ownsRow base e 1 v n xs := by
  refine ⟨h.1, ?_⟩
  rcases h.2 with hn | ⟨g, cap, cur, rfl, h1, hg, rest⟩
  · exact .inl hn
  · refine .inr ⟨g, cap, cur, rfl, h1, ?_, rest⟩
    rw [hb g rfl]
    exact hg
theorem own_type {w : World} {base : Nat} {e : TypeId} {v : Value} {n : Nat} {xs : List Value} (h : w.ownsRow base e 1 v n xs) (q : Nat) (hq : v.ownBlock = some q) : ∃ cur, w.heap[q]? = some (.cells cur e (0, 0)) := by
  rcases h.2 with ⟨rfl, _⟩ | ⟨g, cap, cur, rfl, h1, hg, rest⟩
  · simp [Value.ownBlock] at hq
  · simp [Value.ownBlock] at hq
    subst hq
    exact ⟨cur, hg⟩
theorem type_ne {w : World} {q r : Nat} {a b : Array Value} {t u : TypeId} {x y : Nat × Nat} (h : w.heap[q]? = some (.cells a t x)) (k : w.heap[r]? = some (.cells b u y)) (htu : t ≠ u) : q ≠ r := by
  rintro rfl
  rw [h] at k
  simp at k
  exact htu k.2.1

section
variable {w wr w3 : World} {pv : Value} {s : ByteArray} {m : Nat} {dv ev : Value} {ds es : List Nat}
theorem Nw.pushD (h : Nw w pv s m wr dv ev ds es) (M : Array Value) (hMs : M.size = s.size + 1) (hMat : ∀ j, j < s.size + 1 → M[j]? = some (.bool false)) (lit : Obj) (dv' : Value)
    (hr : w3.ownsRow w.heap.size 51 1 dv' (ds.length + 1) (ds.map (bsl (s.size + 1)) ++ [bsl (s.size + 1) wr.heap.size]))
    (hg : ((wr.alloc (.cells M 4)).alloc lit).grownBy w3 dv.ownBlock) (hat : dv'.ownBlock = dv.ownBlock ∨ dv'.ownBlock = some (wr.heap.size + 2)) :
    Nw w pv s m (w3.setCell ⟨m, 2, none⟩ dv') dv' ev (ds ++ [wr.heap.size]) es := by
  have keep : ∀ b, b < wr.heap.size → dv.ownBlock ≠ some b → w3.heap[b]? = wr.heap[b]? := by
    intro b hb hn
    rw [hg.block b (by simp; omega) (fun e => hn e.symm)]
    exact (two_more wr _ _).1.block b hb
  have hlt : ∀ b, dv.ownBlock = some b → b < wr.heap.size := fun b hb => (h.dr.lt b hb).2
  have hlo : ∀ b, dv.ownBlock = some b → w.heap.size ≤ b := fun b hb => (h.dr.lt b hb).1
  have new : w3.heap[wr.heap.size]? = some (.cells M 4 (0, 0)) := by
    rw [hg.block _ (by simp; omega) (fun e => by have := hlt _ e.symm; omega)]
    exact (two_more wr _ _).2.2
  have hsz : wr.heap.size + 2 ≤ w3.heap.size := by have := hg.size; simpa using this
  have hws : w.heap.size ≤ wr.heap.size := h.bel.size
  have hml : m < wr.heap.size := blk_lt h.mb
  have hmd : dv.ownBlock ≠ some m := fun e => by
    obtain ⟨cur, hc⟩ := own_type h.dr m e
    exact type_ne hc h.mb (by decide) rfl
  have m3 : w3.heap[m]? = some (.cells #[pv, .string s, dv, ev] 86 (0, 0)) := (keep m hml hmd).trans h.mb
  have other : ∀ b, b ≠ m → (w3.setCell ⟨m, 2, none⟩ dv').heap[b]? = w3.heap[b]? := fun b hb => Below.heap_setCell _ _ _ _ (by show b ≠ m; exact hb)
  refine ⟨?_, h.lo, ?_, ?_, ?_, ?_, ?_, h.ee, ?_, ?_⟩
  · have := blk_set m3 2 dv'
    exact this
  · rw [List.length_append, List.length_singleton, List.map_append]
    refine own_keep hr fun q hq => other q ?_
    rcases hat with e | e
    · rintro rfl; exact hmd (e.symm.trans hq)
    · rw [e] at hq; have := Option.some.inj hq; omega
  · refine own_keep h.er fun q hq => ?_
    obtain ⟨cur, hc⟩ := own_type h.er q hq
    rw [other q (type_ne hc h.mb (by decide)), keep q (h.er.lt q hq).2 (fun e => ?_)]
    obtain ⟨cur2, hc2⟩ := own_type h.dr q e
    exact type_ne hc hc2 (by decide) rfl
  · intro q hq
    rw [List.mem_append, List.mem_singleton] at hq
    rcases hq with hq | rfl
    · obtain ⟨h1, arr, h2, h3⟩ := h.db q hq
      refine ⟨h1, arr, ?_, h3⟩
      rw [other q (type_ne h2 h.mb (by decide)), keep q (blk_lt h2) (fun e => ?_)]
      · exact h2
      · obtain ⟨cur2, hc2⟩ := own_type h.dr q e
        exact type_ne h2 hc2 (by decide) rfl
    · exact ⟨hws, M, (other _ (by omega)).trans new, hMs, hMat⟩
  · intro q hq
    obtain ⟨h1, arr, h2, h3⟩ := h.eb q hq
    refine ⟨h1, arr, ?_, h3⟩
    rw [other q (type_ne h2 h.mb (by decide)), keep q (blk_lt h2) (h.de q hq)]
    exact h2
  · rw [List.nodup_append]
    refine ⟨h.dd, by simp, fun a ha b hb => ?_⟩
    rw [List.mem_singleton] at hb
    have := (h.db a ha).2.lt
    omega
  · intro q hq
    rcases hat with e | e
    · rw [e]; exact h.de q hq
    · obtain ⟨_, arr, h2, _⟩ := h.eb q hq
      have := blk_lt h2
      rw [e]
      intro e2
      have := Option.some.inj e2
      omega
  · refine ⟨hg.os.trans h.bel.os, hg.tape.trans h.bel.tape, hg.output.trans h.bel.output, by simp [World.setCell]; omega, fun b hb => ?_⟩
    rw [other b (by have := h.lo; omega), keep b (by omega) (fun e => by have := hlo _ e; omega)]
    exact h.bel.block b hb
theorem Nw.pushE (h : Nw w pv s m wr dv ev ds es) (M : Array Value) (hMs : M.size = s.size + 1) (lit : Obj) (ev' : Value)
    (hr : w3.ownsRow w.heap.size 83 1 ev' (es.length + 1) (es.map (bsl (s.size + 1)) ++ [bsl (s.size + 1) wr.heap.size]))
    (hg : ((wr.alloc (.cells M 51)).alloc lit).grownBy w3 ev.ownBlock) (hat : ev'.ownBlock = ev.ownBlock ∨ ev'.ownBlock = some (wr.heap.size + 2)) :
    Nw w pv s m (w3.setCell ⟨m, 3, none⟩ ev') dv ev' ds (es ++ [wr.heap.size]) := by
  have keep : ∀ b, b < wr.heap.size → ev.ownBlock ≠ some b → w3.heap[b]? = wr.heap[b]? := by
    intro b hb hn
    rw [hg.block b (by simp; omega) (fun e => hn e.symm)]
    exact (two_more wr _ _).1.block b hb
  have hlt : ∀ b, ev.ownBlock = some b → b < wr.heap.size := fun b hb => (h.er.lt b hb).2
  have hlo : ∀ b, ev.ownBlock = some b → w.heap.size ≤ b := fun b hb => (h.er.lt b hb).1
  have new : w3.heap[wr.heap.size]? = some (.cells M 51 (0, 0)) := by
    rw [hg.block _ (by simp; omega) (fun e => by have := hlt _ e.symm; omega)]
    exact (two_more wr _ _).2.2
  have hsz : wr.heap.size + 2 ≤ w3.heap.size := by have := hg.size; simpa using this
  have hws : w.heap.size ≤ wr.heap.size := h.bel.size
  have hml : m < wr.heap.size := blk_lt h.mb
  have hmd : ev.ownBlock ≠ some m := fun e => by
    obtain ⟨cur, hc⟩ := own_type h.er m e
    exact type_ne hc h.mb (by decide) rfl
  have m3 : w3.heap[m]? = some (.cells #[pv, .string s, dv, ev] 86 (0, 0)) := (keep m hml hmd).trans h.mb
  have other : ∀ b, b ≠ m → (w3.setCell ⟨m, 3, none⟩ ev').heap[b]? = w3.heap[b]? := fun b hb => Below.heap_setCell _ _ _ _ (by show b ≠ m; exact hb)
  refine ⟨?_, h.lo, ?_, ?_, ?_, ?_, h.dd, ?_, ?_, ?_⟩
  · have := blk_set m3 3 ev'
    exact this
  · refine own_keep h.dr fun q hq => ?_
    obtain ⟨cur, hc⟩ := own_type h.dr q hq
    rw [other q (type_ne hc h.mb (by decide)), keep q (h.dr.lt q hq).2 (fun e => ?_)]
    obtain ⟨cur2, hc2⟩ := own_type h.er q e
    exact type_ne hc hc2 (by decide) rfl
  · rw [List.length_append, List.length_singleton, List.map_append]
    refine own_keep hr fun q hq => other q ?_
    rcases hat with e | e
    · rintro rfl; exact hmd (e.symm.trans hq)
    · rw [e] at hq; have := Option.some.inj hq; omega
  · intro q hq
    obtain ⟨h1, arr, h2, h3⟩ := h.db q hq
    refine ⟨h1, arr, ?_, h3⟩
    rw [other q (type_ne h2 h.mb (by decide)), keep q (blk_lt h2) (fun e => ?_)]
    · exact h2
    · obtain ⟨cur2, hc2⟩ := own_type h.er q e
      exact type_ne h2 hc2 (by decide) rfl
  · intro q hq
    rw [List.mem_append, List.mem_singleton] at hq
    rcases hq with hq | rfl
    · obtain ⟨h1, arr, h2, h3⟩ := h.eb q hq
      refine ⟨h1, arr, ?_, h3⟩
      rw [other q (type_ne h2 h.mb (by decide)), keep q (blk_lt h2) (fun e => ?_)]
      · exact h2
      · obtain ⟨cur2, hc2⟩ := own_type h.er q e
        exact type_ne h2 hc2 (by decide) rfl
    · exact ⟨hws, M, (other _ (by omega)).trans new, hMs⟩
  · rw [List.nodup_append]
    refine ⟨h.ee, by simp, fun a ha b hb => ?_⟩
    rw [List.mem_singleton] at hb
    obtain ⟨_, arr, h2, _⟩ := h.eb a ha
    have := blk_lt h2
    omega
  · intro q hq
    rw [List.mem_append, List.mem_singleton] at hq
    rcases hq with hq | rfl
    · exact h.de q hq
    · intro e
      have := (h.dr.lt _ e).2
      omega
  · refine ⟨hg.os.trans h.bel.os, hg.tape.trans h.bel.tape, hg.output.trans h.bel.output, by simp [World.setCell]; omega, fun b hb => ?_⟩
    rw [other b (by have := h.lo; omega), keep b (by omega) (fun e => by have := hlo _ e; omega)]
    exact h.bel.block b hb
end
theorem getD_inj {l : List Nat} (h : l.Nodup) {i j : Nat} (hi : i < l.length) (hj : j < l.length) (hij : i ≠ j) : l.getD i 0 ≠ l.getD j 0 := by
  have e1 : l.getD i 0 = l[i] := by simp [hi]
  have e2 : l.getD j 0 = l[j] := by simp [hj]
  rw [e1, e2]
  have hp := List.pairwise_iff_getElem.1 h
  rcases Nat.lt_or_gt_of_ne hij with hl | hl
  · exact hp i j hi hj hl
  · exact fun e => hp j i hj hi hl e.symm
theorem row_form {w : World} {base : Nat} {e : TypeId} {v : Value} {n : Nat} {qs : List Nat} (h : w.ownsRow base e 1 v qs.length (qs.map (bsl n))) (h0 : 0 < qs.length) : ∃ g cap cur, v = .slice (some ⟨g, 0, none⟩) qs.length cap ∧ base ≤ g ∧ w.heap[g]? = some (.cells cur e (0, 0)) ∧ ∀ j, j < qs.length → cur[j]? = some (bsl n (qs.getD j 0)) := by
  rcases h.2 with ⟨_, hn⟩ | ⟨g, cap, cur, rfl, h1, hg, _, _, _, ht⟩
  · omega
  · refine ⟨g, cap, cur, rfl, h1, hg, fun j hj => ?_⟩
    have := congrArg (fun l => l[j]?) ht
    simp only [Nat.mul_one] at this
    rw [List.getElem?_take_of_lt hj] at this
    rw [← Array.getElem?_toList, this]
    simp [hj]
/-- What is made at last: nothing is known yet. -/
theorem Nw.memo {w wr : World} {pv : Value} {s : ByteArray} {m : Nat} {dv ev : Value} {ds es : List Nat} (h : Nw w pv s m wr dv ev ds es) (ps : List Pi) (hp : PcsAt w pv ps) (h0 : 0 < ps.length) (hd : ds.length = ps.length) (he : es.length = ps.length) (hs : s.size ≤ 1048576) :
    ∃ c : Mm, c.m = m ∧ c.s = s ∧ c.ps = ps ∧ c.K = ps.length ∧ c.M0 = w.heap.size ∧ c.M1 = wr.heap.size ∧ c.wI = w ∧ c.pv = pv ∧ Lie c ∧ Memo c (fun _ => False) wr := by
  obtain ⟨d, cd, dcur, rfl, d1, d2, d3⟩ := row_form h.dr (by omega)
  obtain ⟨e, ce, ecur, rfl, e1, e2, e3⟩ := row_form h.er (by omega)
  have inD : ∀ k, k < ps.length → ds.getD k 0 ∈ ds := fun k hk => by
    have : k < ds.length := by omega
    simp [this]
  have inE : ∀ k, k < ps.length → es.getD k 0 ∈ es := fun k hk => by
    have : k < es.length := by omega
    simp [this]
  have ml := blk_lt h.mb
  have dl := blk_lt d2
  have el := blk_lt e2
  refine ⟨⟨w.heap.size, wr.heap.size, m, ps.length, pv, cd, ce, s, ps, d, e, fun k => ds.getD k 0, fun k => es.getD k 0, w⟩, rfl, rfl, rfl, rfl, rfl, rfl, rfl, rfl, ?_, ?_⟩
  · refine ⟨⟨h.lo, ml⟩, ⟨d1, dl⟩, ⟨e1, el⟩, fun k hk => ?_, fun k hk => ?_, fun k j hk hj hkj => ?_, fun k j hk hj hkj => ?_, fun k j hk hj => ?_, rfl, hp, rfl, hs⟩
    · obtain ⟨g1, arr, g2, g3⟩ := h.db _ (inD k hk)
      exact ⟨g1, blk_lt g2, type_ne g2 h.mb (by decide), type_ne g2 d2 (by decide), type_ne g2 e2 (by decide)⟩
    · obtain ⟨g1, arr, g2, g3⟩ := h.eb _ (inE k hk)
      exact ⟨g1, blk_lt g2, type_ne g2 h.mb (by decide), fun eq => h.de _ (inE k hk) (by simp only [Value.ownBlock]; exact congrArg some eq.symm), type_ne g2 e2 (by decide)⟩
    · simp only at hk hj
      exact getD_inj h.dd (by omega) (by omega) hkj
    · simp only at hk hj
      exact getD_inj h.ee (by omega) (by omega) hkj
    · obtain ⟨_, arr, g2, _⟩ := h.db _ (inD k hk)
      obtain ⟨_, arr2, g3, _⟩ := h.eb _ (inE j hj)
      exact type_ne g2 g3 (by decide)
  · refine ⟨?_, ⟨dcur, d2, fun k hk => d3 k (by simp only at hk; omega)⟩, ⟨ecur, e2, fun k hk => e3 k (by simp only at hk; omega)⟩, fun k hk => ?_, h.bel, Nat.le_refl _⟩
    · rw [← hd]
      have := h.mb
      rw [he, ← hd] at this
      exact this
    · obtain ⟨arr, g2, g3⟩ := (h.eb _ (inE k hk)).2
      exact ⟨fun _ => false, arr, (h.db _ (inD k hk)).2, g2, g3, fun i _ hf => by cases hf⟩
end PartSpO
section PartSpP
open Go.RowKit


theorem Nw.stepD {ops : Array Oper} {o : Oper} {a : Act} {K : Act → World → Prop} {Q : Exit → Act → World → Prop} {F : Prop} {w wr : World} {pv : Value} {s : ByteArray} {m : Nat} {dv ev : Value} {ds es : List Nat} (h : Nw w pv s m wr dv ev ds es) (hgd : o.guard = none) (sl x : Operand)
    (ho : o.op = .call { callee := .builtin .append, args := #[sl, x], argTypes := #[83, 83] }) (hs : a.eval sl = dv) (M : Array Value) (hM : M.size = s.size + 1 ∧ ∀ j, j < s.size + 1 → M[j]? = some (.bool false)) (hx : a.eval x = .slice (some ⟨wr.heap.size + 1, 0, none⟩) 1 1) (hlen : ds.length ≤ 1000)
    (k : ∀ g cap w3, Nw w pv s m (w3.setCell ⟨m, 2, none⟩ (.slice (some ⟨g, 0, none⟩) (ds.length + 1) cap)) (.slice (some ⟨g, 0, none⟩) (ds.length + 1) cap) ev (ds ++ [wr.heap.size]) es → w3.cell? ⟨m, 2, none⟩ = some dv → w3.frozen? ⟨m, 2, none⟩ = false → K (a.put o.dst (.slice (some ⟨g, 0, none⟩) (ds.length + 1) cap)) w3) :
    if Region.wanted o (yielded ops a.tmps) = true then Oper.wp Try.prog o a ((wr.alloc (.cells M 4)).alloc (.cells #[.slice (some ⟨wr.heap.size, 0, none⟩) (s.size + 1) (s.size + 1)] 51)).drew K Q else F := by
  obtain ⟨i0, hi, hy0, hy1, hy2⟩ := info_parts Try.infoSB
  have hsz : ((wr.alloc (.cells M 4)).alloc (.cells #[.slice (some ⟨wr.heap.size, 0, none⟩) (s.size + 1) (s.size + 1)] 51)).drew.heap.size = wr.heap.size + 2 := by simp
  have hws : w.heap.size ≤ wr.heap.size := h.bel.size
  refine step_append_lies _ hgd sl x 83 ho w.heap.size 51 i0 (.slice none 0 0) 1 24 Try.underlying83 hi hy0 hy1 hy2 rfl (by decide) dv ds.length (ds.map (bsl (s.size + 1))) hs (World.ownsRow.drew (World.ownsRow.alloc (World.ownsRow.alloc h.dr _) _)) ⟨wr.heap.size + 1, 0, none⟩ 1 1 [bsl (s.size + 1) wr.heap.size] hx rfl
    (World.news_of_block (cs := #[bsl (s.size + 1) wr.heap.size]) (t := 51) (fr := (0, 0)) ?_) ?_ (by omega) ?_ ?_ ?_ (wr.heap.size + 2) hsz ?_
  · have := heap_alloc_new (wr.alloc (.cells M 4)) (.cells #[bsl (s.size + 1) wr.heap.size] 51)
    have e : (wr.alloc (.cells M 4)).heap.size = wr.heap.size + 1 := by simp
    rw [e] at this
    exact this
  · intro u hu
    simp at hu
    subst hu
    rfl
  · unfold maxLen; omega
  · omega
  · omega
  · intro g cap w3 h2 h3 h4 h5
    have hat : (Value.slice (some ⟨g, 0, none⟩) (ds.length + 1) cap).ownBlock = dv.ownBlock ∨ (Value.slice (some ⟨g, 0, none⟩) (ds.length + 1) cap).ownBlock = some (wr.heap.size + 2) := by
      rcases h4 with e | rfl
      · exact .inl e.symm
      · exact .inr rfl
    have hg : ((wr.alloc (.cells M 4)).alloc (.cells #[bsl (s.size + 1) wr.heap.size] 51)).grownBy w3 dv.ownBlock := ⟨h3.os, h3.tape, h3.output, h3.size, h3.block⟩
    have hmd : dv.ownBlock ≠ some m := fun e => by
      obtain ⟨cur, hc⟩ := own_type h.dr m e
      exact type_ne hc h.mb (by decide) rfl
    have hml : m < wr.heap.size := blk_lt h.mb
    have m3 : w3.heap[m]? = some (.cells #[pv, .string s, dv, ev] 86 (0, 0)) := by
      rw [hg.block m (by simp; omega) (fun e => hmd e.symm)]
      exact ((two_more wr _ _).1.block m hml).trans h.mb
    exact k g cap w3 (h.pushD M hM.1 hM.2 _ _ h2 hg hat) (by rw [blk_cell m3]; rfl) (blk_free m3 2)

theorem Nw.stepE {ops : Array Oper} {o : Oper} {a : Act} {K : Act → World → Prop} {Q : Exit → Act → World → Prop} {F : Prop} {w wr : World} {pv : Value} {s : ByteArray} {m : Nat} {dv ev : Value} {ds es : List Nat} (h : Nw w pv s m wr dv ev ds es) (hgd : o.guard = none) (sl x : Operand)
    (ho : o.op = .call { callee := .builtin .append, args := #[sl, x], argTypes := #[84, 84] }) (hs : a.eval sl = ev) (M : Array Value) (hM : M.size = s.size + 1) (hx : a.eval x = .slice (some ⟨wr.heap.size + 1, 0, none⟩) 1 1) (hlen : es.length ≤ 1000)
    (k : ∀ g cap w3, Nw w pv s m (w3.setCell ⟨m, 3, none⟩ (.slice (some ⟨g, 0, none⟩) (es.length + 1) cap)) dv (.slice (some ⟨g, 0, none⟩) (es.length + 1) cap) ds (es ++ [wr.heap.size]) → w3.cell? ⟨m, 3, none⟩ = some ev → w3.frozen? ⟨m, 3, none⟩ = false → K (a.put o.dst (.slice (some ⟨g, 0, none⟩) (es.length + 1) cap)) w3) :
    if Region.wanted o (yielded ops a.tmps) = true then Oper.wp Try.prog o a ((wr.alloc (.cells M 51)).alloc (.cells #[.slice (some ⟨wr.heap.size, 0, none⟩) (s.size + 1) (s.size + 1)] 83)).drew K Q else F := by
  obtain ⟨i0, hi, hy0, hy1, hy2⟩ := info_parts Try.infoSSB
  have hsz : ((wr.alloc (.cells M 51)).alloc (.cells #[.slice (some ⟨wr.heap.size, 0, none⟩) (s.size + 1) (s.size + 1)] 83)).drew.heap.size = wr.heap.size + 2 := by simp
  have hws : w.heap.size ≤ wr.heap.size := h.bel.size
  refine step_append_lies _ hgd sl x 84 ho w.heap.size 83 i0 (.slice none 0 0) 1 24 Try.underlying84 hi hy0 hy1 hy2 rfl (by decide) ev es.length (es.map (bsl (s.size + 1))) hs (World.ownsRow.drew (World.ownsRow.alloc (World.ownsRow.alloc h.er _) _)) ⟨wr.heap.size + 1, 0, none⟩ 1 1 [bsl (s.size + 1) wr.heap.size] hx rfl
    (World.news_of_block (cs := #[bsl (s.size + 1) wr.heap.size]) (t := 83) (fr := (0, 0)) ?_) ?_ (by omega) ?_ ?_ ?_ (wr.heap.size + 2) hsz ?_
  · have := heap_alloc_new (wr.alloc (.cells M 51)) (.cells #[bsl (s.size + 1) wr.heap.size] 83)
    have e : (wr.alloc (.cells M 51)).heap.size = wr.heap.size + 1 := by simp
    rw [e] at this
    exact this
  · intro u hu
    simp at hu
    subst hu
    rfl
  · unfold maxLen; omega
  · omega
  · omega
  · intro g cap w3 h2 h3 h4 h5
    have hat : (Value.slice (some ⟨g, 0, none⟩) (es.length + 1) cap).ownBlock = ev.ownBlock ∨ (Value.slice (some ⟨g, 0, none⟩) (es.length + 1) cap).ownBlock = some (wr.heap.size + 2) := by
      rcases h4 with e | rfl
      · exact .inl e.symm
      · exact .inr rfl
    have hg : ((wr.alloc (.cells M 51)).alloc (.cells #[bsl (s.size + 1) wr.heap.size] 83)).grownBy w3 ev.ownBlock := ⟨h3.os, h3.tape, h3.output, h3.size, h3.block⟩
    have hmd : ev.ownBlock ≠ some m := fun e => by
      obtain ⟨cur, hc⟩ := own_type h.er m e
      exact type_ne hc h.mb (by decide) rfl
    have hml : m < wr.heap.size := blk_lt h.mb
    have m3 : w3.heap[m]? = some (.cells #[pv, .string s, dv, ev] 86 (0, 0)) := by
      rw [hg.block m (by simp; omega) (fun e => hmd e.symm)]
      exact ((two_more wr _ _).1.block m hml).trans h.mb
    exact k g cap w3 (h.pushE M hM _ _ h2 hg hat) (by rw [blk_cell m3]; rfl) (blk_free m3 3)

set_option maxHeartbeats 4000000 in
set_option maxRecDepth 100000 in
theorem spNew (pv : Value) (s : ByteArray) (ps : List Pi) (w : World) (hp : PcsAt w pv ps) (h0 : 0 < ps.length) (h60 : ps.length ≤ 60) (hs : s.size ≤ 1048576) :
    Calls Try.prog 20 #[.agg #[pv], .string s] w (fun e w' => ∃ c : Mm, e = .returned (.pointer (some ⟨c.m, 0, none⟩)) ∧ c.s = s ∧ c.ps = ps ∧ c.K = ps.length ∧ c.M0 = w.heap.size + 1 ∧ c.M1 = w'.heap.size ∧ Lie c ∧ Memo c (fun _ => False) w' ∧ Below w.heap.size w w') := by
  obtain ⟨M, ⟨hMs, hMat⟩, hM, hmk⟩ := makeB_run (s.size + 1) (by omega)
  have hmk1 : ∀ W : World, (Instr.makeSlice 51 (.int .i64 ((s.size : Int) + 1)) (.int .i64 ((s.size : Int) + 1))).run Try.prog W = .ok (.slice (some ⟨W.heap.size, 0, none⟩) (s.size + 1) (s.size + 1)) (W.alloc (.cells M 4)) := hmk
  obtain ⟨R, hRs, hmr⟩ := makeSB_run (s.size + 1) (by omega)
  have hmr1 : ∀ W : World, (Instr.makeSlice 83 (.int .i64 ((s.size : Int) + 1)) (.int .i64 ((s.size : Int) + 1))).run Try.prog W = .ok (.slice (some ⟨W.heap.size, 0, none⟩) (s.size + 1) (s.size + 1)) (W.alloc (.cells R 51)) := hmr
  have HP : Hid (PcsAt w pv ps) := hp
  have HMat : Hid (M.size = s.size + 1 ∧ ∀ j, j < s.size + 1 → M[j]? = some (.bool false)) := ⟨hMs, hMat⟩
  have HRs : Hid (R.size = s.size + 1) := hRs
  obtain ⟨pa, pc, rfl, -⟩ := hp
  obtain ⟨n, hn⟩ : ∃ n, n = ps.length := ⟨_, rfl⟩
  have HN : Hid (n = ps.length) := hn
  rw [← hn] at h0 h60 HP ⊢
  clear hn hM hmk hmr hMs hMat hRs
  go_enter Try.func20, Try.ntmps20
  go_wp2_with fail
  obtain ⟨w0, hw0⟩ : ∃ w0, w0 = w.alloc (.cells #[.slice pa n pc] 30) := ⟨_, rfl⟩
  have hs0 : w0.heap.size = w.heap.size + 1 := by rw [hw0]; simp
  have HNW : Hid (Nw w0 (.slice pa n pc) s (w.heap.size + 1) ((w.alloc (.cells #[.slice pa n pc] 30)).alloc (.cells #[.slice pa n pc, .string s, .slice none 0 0, .slice none 0 0] 86)) (.slice none 0 0) (.slice none 0 0) [] []) := by
    rw [← hw0]
    refine ⟨?_, by omega, World.ownsRow_nil _ _ _ _, World.ownsRow_nil _ _ _ _, by simp, by simp, by simp, by simp, by simp, (Below.refl _ _).alloc (Nat.le_refl _) _⟩
    rw [← hs0]
    exact heap_alloc_new w0 _
  have HW0 : Hid (w0 = w.alloc (.cells #[.slice pa n pc] 30)) := hw0
  have HS0 : Hid (w0.heap.size = w.heap.size + 1) := hs0
  have HCP : Hid (∀ wr : World, Below w0.heap.size w0 wr → wr.cell? ⟨w.heap.size, 0, none⟩ = some (.slice pa n pc)) := by
    intro wr hb
    rw [hb.cell (p := ⟨w.heap.size, 0, none⟩) (by show w.heap.size < w0.heap.size; omega), hw0]
    rw [blk_cell (heap_alloc_new w _)]
    rfl
  have hz1 : (w.heap.size : Nat) ≠ w.heap.size + 1 := by omega
  clear hw0 hs0
  go_loopw [6] (fun j wr => ∃ (t : Nat) (dv ev : Value) (ds es : List Nat), j = .int .i64 (t : Int) ∧ t ≤ n ∧ Hid (ds.length = t ∧ es.length = t) ∧ Hid (Nw w0 (.slice pa n pc) s (w.heap.size + 1) wr dv ev ds es)) (fun j _ => n - (intOf j).toNat)
  case atStart => exact ⟨0, _, _, [], [], rfl, by omega, ⟨rfl, rfl⟩, HNW.out⟩
  case round =>
    obtain ⟨t, dv, ev, ds, es, rfl, ht, HL, HR⟩ := hrel
    clear HNW
    have cp := HCP.out wr HR.out.bel
    by_cases hlt : t < n
    · have m2 : wr.cell? ⟨w.heap.size + 1, 2, none⟩ = some dv := by rw [blk_cell HR.out.mb]; rfl
      have t1 : (t : Int) < (n : Int) := by omega
      have hwr : IntKind.i64.wrap ((s.size : Int) + 1) = (s.size : Int) + 1 := IntWalk.i64_in _ (by omega)
      have hml : w.heap.size + 1 < wr.heap.size := blk_lt HR.out.mb
      have m2a : ∀ o : Obj, (wr.alloc o).cell? ⟨w.heap.size + 1, 2, none⟩ = some dv := fun o => (((Below.refl wr.heap.size wr).alloc (Nat.le_refl _) o).cell (p := ⟨w.heap.size + 1, 2, none⟩) hml).trans m2
      have m2b : ∀ A B : Obj, ((wr.alloc A).alloc B).cell? ⟨w.heap.size + 1, 2, none⟩ = some dv := fun A B => ((two_more wr A B).1.cell (p := ⟨w.heap.size + 1, 2, none⟩) hml).trans m2
      have hl1 := HL.out.1
      have hl2 := HL.out.2
      go_wp2_with fail
      go_region_law ((refine HR.out.stepD (by rfl) _ _ (by rfl) (by rfl) M HMat.out (by rfl) (by omega) ?_; intro g cap w3 HR3 f2 f3; try rw [hl1] at HR3 ⊢))
      all_goals
        obtain ⟨w4, hw4⟩ : ∃ w4, w4 = w3.setCell ⟨w.heap.size + 1, 2, none⟩ (.slice (some ⟨g, 0, none⟩) (t + 1) cap) := ⟨_, rfl⟩
        obtain ⟨q1, hq1⟩ : ∃ q1, q1 = wr.heap.size := ⟨_, rfl⟩
        rw [← hw4, ← hq1] at HR3
        have HR4 : Hid (Nw w0 (.slice pa n pc) s (w.heap.size + 1) w4 (.slice (some ⟨g, 0, none⟩) (t + 1) cap) ev (ds ++ [q1]) es) := HR3
        rw [← hw4]
        clear hw4 hq1 HR3 f2 f3 m2 m2a m2b hml HR hmk1
        have m3 : w4.cell? ⟨w.heap.size + 1, 3, none⟩ = some ev := by rw [blk_cell HR4.out.mb]; rfl
        have hml : w.heap.size + 1 < w4.heap.size := blk_lt HR4.out.mb
        have m3a : ∀ o : Obj, (w4.alloc o).cell? ⟨w.heap.size + 1, 3, none⟩ = some ev := fun o => (((Below.refl w4.heap.size w4).alloc (Nat.le_refl _) o).cell (p := ⟨w.heap.size + 1, 3, none⟩) hml).trans m3
        have m3b : ∀ A B : Obj, ((w4.alloc A).alloc B).cell? ⟨w.heap.size + 1, 3, none⟩ = some ev := fun A B => ((two_more w4 A B).1.cell (p := ⟨w.heap.size + 1, 3, none⟩) hml).trans m3
        go_wp2_with fail
        go_region_law ((refine HR4.out.stepE (by rfl) _ _ (by rfl) (by rfl) R HRs.out (by rfl) (by omega) ?_; intro g2 cap2 w5 HR5 f2 f3; try rw [hl2] at HR5 ⊢))
        all_goals
          obtain ⟨w6, hw6⟩ : ∃ w6, w6 = w5.setCell ⟨w.heap.size + 1, 3, none⟩ (.slice (some ⟨g2, 0, none⟩) (t + 1) cap2) := ⟨_, rfl⟩
          obtain ⟨q2, hq2⟩ : ∃ q2, q2 = w4.heap.size := ⟨_, rfl⟩
          rw [← hw6, ← hq2] at HR5
          have HR6 : Hid (Nw w0 (.slice pa n pc) s (w.heap.size + 1) w6 (.slice (some ⟨g, 0, none⟩) (t + 1) cap) (.slice (some ⟨g2, 0, none⟩) (t + 1) cap2) (ds ++ [q1]) (es ++ [q2])) := HR5
          have HLL : Hid ((ds ++ [q1]).length = t + 1 ∧ (es ++ [q2]).length = t + 1) := by
            show _ ∧ _
            rw [List.length_append, List.length_append, hl1, hl2]
            exact ⟨rfl, rfl⟩
          rw [← hw6]
          clear hw6 hq2 HR5 f2 f3 m3 m3a m3b hml HR4 hl1 hl2
          go_wp2_with fail
          go_roundw
          case rel => exact ⟨t + 1, _, _, _, _, by go_num, by omega, HLL.out, HR6.out⟩
          case measure => simp [intOf]; omega
    · obtain rfl : t = n := by omega
      have hl := HL.out
      obtain ⟨c, e1, e2, e3, e4, e5, e6, -, -, e8, e9⟩ := HR.out.memo ps (by
        rw [HW0.out]
        exact HP.out.keep ((Below.refl _ _).alloc (Nat.le_refl _) _)) (by rw [← HN.out]; omega) (by rw [← HN.out]; exact hl.1) (by rw [← HN.out]; exact hl.2) hs
      have hbw : Below w.heap.size w wr := by
        have := HR.out.bel
        rw [HW0.out] at this
        exact ((Below.refl w.heap.size w).alloc (Nat.le_refl _) _).trans (this.mono (by simp))
      have HFIN : Hid (∃ c : Mm, c.m = w.heap.size + 1 ∧ c.s = s ∧ c.ps = ps ∧ c.K = t ∧ c.M0 = w.heap.size + 1 ∧ c.M1 = wr.heap.size ∧ Lie c ∧ Memo c (fun _ => False) wr ∧ Below w.heap.size w wr) := ⟨c, e1, e2, e3, by rw [e4, HN.out], by rw [e5, HS0.out], e6, e8, e9, hbw⟩
      clear e1 e2 e3 e4 e5 e6 e8 e9 hbw hl HR HL
      clear c
      go_wp2_with fail
      go_ret
      obtain ⟨c, e1, e2, e3, e4, e5, e6, e7, e8, e9⟩ := HFIN.out
      exact ⟨c, by rw [e1]; rfl, e2, e3, e4, e5, e6, e7, e8, e9⟩
end PartSpP
end Go.Proofs.Ytlnmbahakdmkgaa
