/- Where a piece may end, by the specification: a new memory of what is known. -/
import Derived.Test.YtlnmbahakdmkgaaSpN
namespace Go.Proofs.Ytlnmbahakdmkgaa
open Go.RowKit

theorem Try.infoSB : (Try.prog.info? 51).map (fun i => (i.zero, i.size, i.bytes)) = some (some (.slice none 0 0), 1, 24) := by kernel_rfl
theorem Try.infoSSB : (Try.prog.info? 83).map (fun i => (i.zero, i.size, i.bytes)) = some (some (.slice none 0 0), 1, 24) := by kernel_rfl
set_option maxRecDepth 100000 in
/-- make of n rows of Booleans, all nil. -/
theorem makeSB_run (n : Nat) (h : n ≤ 1000000000) : ∃ M : Array Value, M.size = n ∧ ∀ W : World, (Instr.makeSlice 83 (.int .i64 (n : Int)) (.int .i64 (n : Int))).run Try.prog W = .ok (.slice (some ⟨W.heap.size, 0, none⟩) n n) (W.alloc (.cells M 51)) := by
  obtain ⟨i0, hi, hz0, hz1, hz2⟩ := info_parts Try.infoSB
  refine ⟨madeCells (Value.slice none 0 0).cells (((n : Nat) : Int).toNat * i0.size), by rw [size_madeCells, hz1]; simp, fun W => ?_⟩
  have h := run_make (P := Try.prog) W 83 51 i0 (.slice none 0 0) Try.underlying83 hi hz0 .i64 .i64 (n : Int) (n : Int) (by omega) (by omega) (by rw [hz2]; omega) (by omega)
  simpa using h

/-- A row of n that lies in block q. -/
def bsl (n q : Nat) : Value := .slice (some ⟨q, 0, none⟩) n n
/-- The new memory, while it is made. -/
structure Nw (w : World) (pv : Value) (s : ByteArray) (m : Nat) (wr : World) (dv ev : Value) (ds es : List Nat) : Prop where
  mb : wr.heap[m]? = some (.cells #[pv, .string s, dv, ev] 86 (0, 0))
  lo : w.heap.size ≤ m
  dr : wr.ownsRow w.heap.size 51 1 dv ds.length (ds.map (bsl (s.size + 1)))
  er : wr.ownsRow w.heap.size 83 1 ev es.length (es.map (bsl (s.size + 1)))
  db : ∀ q, q ∈ ds → w.heap.size ≤ q ∧ BBlk wr q (s.size + 1) (fun _ => false)
  eb : ∀ q, q ∈ es → w.heap.size ≤ q ∧ ∃ arr, wr.heap[q]? = some (.cells arr 51 (0, 0)) ∧ arr.size = s.size + 1
  dd : ds.Nodup
  ee : es.Nodup
  de : ∀ q, q ∈ es → dv.ownBlock ≠ some q
  bel : Below w.heap.size w wr

theorem own_keep {w w' : World} {base : Nat} {e : TypeId} {v : Value} {n : Nat} {xs : List Value} (h : w.ownsRow base e 1 v n xs) (hb : ∀ q, v.ownBlock = some q → w'.heap[q]? = w.heap[q]?) : w'.ownsRow base e 1 v n xs := by
  refine ⟨h.1, ?_⟩
  rcases h.2 with hn | ⟨g, cap, cur, rfl, h1, hg, rest⟩
  · exact .inl hn
  · refine .inr ⟨g, cap, cur, rfl, h1, ?_, rest⟩
    rw [hb g rfl]
    exact hg
theorem own_type {w : World} {base : Nat} {e : TypeId} {v : Value} {n : Nat} {xs : List Value} (h : w.ownsRow base e 1 v n xs) (q : Nat) (hq : v.ownBlock = some q) : ∃ cur, w.heap[q]? = some (.cells cur e (0, 0)) := by
  rcases h.2 with ⟨rfl, _⟩ | ⟨g, cap, cur, rfl, h1, hg, rest⟩
  · simp [Value.ownBlock] at hq
  · simp [Value.ownBlock] at hq
    subst hq
    exact ⟨cur, hg⟩
theorem type_ne {w : World} {q r : Nat} {a b : Array Value} {t u : TypeId} {x y : Nat × Nat} (h : w.heap[q]? = some (.cells a t x)) (k : w.heap[r]? = some (.cells b u y)) (htu : t ≠ u) : q ≠ r := by
  rintro rfl
  rw [h] at k
  simp at k
  exact htu k.2.1

section
variable {w wr w3 : World} {pv : Value} {s : ByteArray} {m : Nat} {dv ev : Value} {ds es : List Nat}
theorem Nw.pushD (h : Nw w pv s m wr dv ev ds es) (M : Array Value) (hMs : M.size = s.size + 1) (hMat : ∀ j, j < s.size + 1 → M[j]? = some (.bool false)) (lit : Obj) (dv' : Value)
    (hr : w3.ownsRow w.heap.size 51 1 dv' (ds.length + 1) (ds.map (bsl (s.size + 1)) ++ [bsl (s.size + 1) wr.heap.size]))
    (hg : ((wr.alloc (.cells M 4)).alloc lit).grownBy w3 dv.ownBlock) (hat : dv'.ownBlock = dv.ownBlock ∨ dv'.ownBlock = some (wr.heap.size + 2)) :
    Nw w pv s m (w3.setCell ⟨m, 2, none⟩ dv') dv' ev (ds ++ [wr.heap.size]) es := by
  have keep : ∀ b, b < wr.heap.size → dv.ownBlock ≠ some b → w3.heap[b]? = wr.heap[b]? := by
    intro b hb hn
    rw [hg.block b (by simp; omega) (fun e => hn e.symm)]
    exact (two_more wr _ _).1.block b hb
  have hlt : ∀ b, dv.ownBlock = some b → b < wr.heap.size := fun b hb => (h.dr.lt b hb).2
  have hlo : ∀ b, dv.ownBlock = some b → w.heap.size ≤ b := fun b hb => (h.dr.lt b hb).1
  have new : w3.heap[wr.heap.size]? = some (.cells M 4 (0, 0)) := by
    rw [hg.block _ (by simp; omega) (fun e => by have := hlt _ e.symm; omega)]
    exact (two_more wr _ _).2.2
  have hsz : wr.heap.size + 2 ≤ w3.heap.size := by have := hg.size; simpa using this
  have hws : w.heap.size ≤ wr.heap.size := h.bel.size
  have hml : m < wr.heap.size := blk_lt h.mb
  have hmd : dv.ownBlock ≠ some m := fun e => by
    obtain ⟨cur, hc⟩ := own_type h.dr m e
    exact type_ne hc h.mb (by decide) rfl
  have m3 : w3.heap[m]? = some (.cells #[pv, .string s, dv, ev] 86 (0, 0)) := (keep m hml hmd).trans h.mb
  have other : ∀ b, b ≠ m → (w3.setCell ⟨m, 2, none⟩ dv').heap[b]? = w3.heap[b]? := fun b hb => Below.heap_setCell _ _ _ _ (by show b ≠ m; exact hb)
  refine ⟨?_, h.lo, ?_, ?_, ?_, ?_, ?_, h.ee, ?_, ?_⟩
  · have := blk_set m3 2 dv'
    exact this
  · rw [List.length_append, List.length_singleton, List.map_append]
    refine own_keep hr fun q hq => other q ?_
    rcases hat with e | e
    · rintro rfl; exact hmd (e.symm.trans hq)
    · rw [e] at hq; have := Option.some.inj hq; omega
  · refine own_keep h.er fun q hq => ?_
    obtain ⟨cur, hc⟩ := own_type h.er q hq
    rw [other q (type_ne hc h.mb (by decide)), keep q (h.er.lt q hq).2 (fun e => ?_)]
    obtain ⟨cur2, hc2⟩ := own_type h.dr q e
    exact type_ne hc hc2 (by decide) rfl
  · intro q hq
    rw [List.mem_append, List.mem_singleton] at hq
    rcases hq with hq | rfl
    · obtain ⟨h1, arr, h2, h3⟩ := h.db q hq
      refine ⟨h1, arr, ?_, h3⟩
      rw [other q (type_ne h2 h.mb (by decide)), keep q (blk_lt h2) (fun e => ?_)]
      · exact h2
      · obtain ⟨cur2, hc2⟩ := own_type h.dr q e
        exact type_ne h2 hc2 (by decide) rfl
    · exact ⟨hws, M, (other _ (by omega)).trans new, hMs, hMat⟩
  · intro q hq
    obtain ⟨h1, arr, h2, h3⟩ := h.eb q hq
    refine ⟨h1, arr, ?_, h3⟩
    rw [other q (type_ne h2 h.mb (by decide)), keep q (blk_lt h2) (h.de q hq)]
    exact h2
  · rw [List.nodup_append]
    refine ⟨h.dd, by simp, fun a ha b hb => ?_⟩
    rw [List.mem_singleton] at hb
    have := (h.db a ha).2.lt
    omega
  · intro q hq
    rcases hat with e | e
    · rw [e]; exact h.de q hq
    · obtain ⟨_, arr, h2, _⟩ := h.eb q hq
      have := blk_lt h2
      rw [e]
      intro e2
      have := Option.some.inj e2
      omega
  · refine ⟨hg.os.trans h.bel.os, hg.tape.trans h.bel.tape, hg.output.trans h.bel.output, by simp [World.setCell]; omega, fun b hb => ?_⟩
    rw [other b (by have := h.lo; omega), keep b (by omega) (fun e => by have := hlo _ e; omega)]
    exact h.bel.block b hb
theorem Nw.pushE (h : Nw w pv s m wr dv ev ds es) (M : Array Value) (hMs : M.size = s.size + 1) (lit : Obj) (ev' : Value)
    (hr : w3.ownsRow w.heap.size 83 1 ev' (es.length + 1) (es.map (bsl (s.size + 1)) ++ [bsl (s.size + 1) wr.heap.size]))
    (hg : ((wr.alloc (.cells M 51)).alloc lit).grownBy w3 ev.ownBlock) (hat : ev'.ownBlock = ev.ownBlock ∨ ev'.ownBlock = some (wr.heap.size + 2)) :
    Nw w pv s m (w3.setCell ⟨m, 3, none⟩ ev') dv ev' ds (es ++ [wr.heap.size]) := by
  have keep : ∀ b, b < wr.heap.size → ev.ownBlock ≠ some b → w3.heap[b]? = wr.heap[b]? := by
    intro b hb hn
    rw [hg.block b (by simp; omega) (fun e => hn e.symm)]
    exact (two_more wr _ _).1.block b hb
  have hlt : ∀ b, ev.ownBlock = some b → b < wr.heap.size := fun b hb => (h.er.lt b hb).2
  have hlo : ∀ b, ev.ownBlock = some b → w.heap.size ≤ b := fun b hb => (h.er.lt b hb).1
  have new : w3.heap[wr.heap.size]? = some (.cells M 51 (0, 0)) := by
    rw [hg.block _ (by simp; omega) (fun e => by have := hlt _ e.symm; omega)]
    exact (two_more wr _ _).2.2
  have hsz : wr.heap.size + 2 ≤ w3.heap.size := by have := hg.size; simpa using this
  have hws : w.heap.size ≤ wr.heap.size := h.bel.size
  have hml : m < wr.heap.size := blk_lt h.mb
  have hmd : ev.ownBlock ≠ some m := fun e => by
    obtain ⟨cur, hc⟩ := own_type h.er m e
    exact type_ne hc h.mb (by decide) rfl
  have m3 : w3.heap[m]? = some (.cells #[pv, .string s, dv, ev] 86 (0, 0)) := (keep m hml hmd).trans h.mb
  have other : ∀ b, b ≠ m → (w3.setCell ⟨m, 3, none⟩ ev').heap[b]? = w3.heap[b]? := fun b hb => Below.heap_setCell _ _ _ _ (by show b ≠ m; exact hb)
  refine ⟨?_, h.lo, ?_, ?_, ?_, ?_, h.dd, ?_, ?_, ?_⟩
  · have := blk_set m3 3 ev'
    exact this
  · refine own_keep h.dr fun q hq => ?_
    obtain ⟨cur, hc⟩ := own_type h.dr q hq
    rw [other q (type_ne hc h.mb (by decide)), keep q (h.dr.lt q hq).2 (fun e => ?_)]
    obtain ⟨cur2, hc2⟩ := own_type h.er q e
    exact type_ne hc hc2 (by decide) rfl
  · rw [List.length_append, List.length_singleton, List.map_append]
    refine own_keep hr fun q hq => other q ?_
    rcases hat with e | e
    · rintro rfl; exact hmd (e.symm.trans hq)
    · rw [e] at hq; have := Option.some.inj hq; omega
  · intro q hq
    obtain ⟨h1, arr, h2, h3⟩ := h.db q hq
    refine ⟨h1, arr, ?_, h3⟩
    rw [other q (type_ne h2 h.mb (by decide)), keep q (blk_lt h2) (fun e => ?_)]
    · exact h2
    · obtain ⟨cur2, hc2⟩ := own_type h.er q e
      exact type_ne h2 hc2 (by decide) rfl
  · intro q hq
    rw [List.mem_append, List.mem_singleton] at hq
    rcases hq with hq | rfl
    · obtain ⟨h1, arr, h2, h3⟩ := h.eb q hq
      refine ⟨h1, arr, ?_, h3⟩
      rw [other q (type_ne h2 h.mb (by decide)), keep q (blk_lt h2) (fun e => ?_)]
      · exact h2
      · obtain ⟨cur2, hc2⟩ := own_type h.er q e
        exact type_ne h2 hc2 (by decide) rfl
    · exact ⟨hws, M, (other _ (by omega)).trans new, hMs⟩
  · rw [List.nodup_append]
    refine ⟨h.ee, by simp, fun a ha b hb => ?_⟩
    rw [List.mem_singleton] at hb
    obtain ⟨_, arr, h2, _⟩ := h.eb a ha
    have := blk_lt h2
    omega
  · intro q hq
    rw [List.mem_append, List.mem_singleton] at hq
    rcases hq with hq | rfl
    · exact h.de q hq
    · intro e
      have := (h.dr.lt _ e).2
      omega
  · refine ⟨hg.os.trans h.bel.os, hg.tape.trans h.bel.tape, hg.output.trans h.bel.output, by simp [World.setCell]; omega, fun b hb => ?_⟩
    rw [other b (by have := h.lo; omega), keep b (by omega) (fun e => by have := hlo _ e; omega)]
    exact h.bel.block b hb
end
theorem getD_inj {l : List Nat} (h : l.Nodup) {i j : Nat} (hi : i < l.length) (hj : j < l.length) (hij : i ≠ j) : l.getD i 0 ≠ l.getD j 0 := by
  have e1 : l.getD i 0 = l[i] := by simp [hi]
  have e2 : l.getD j 0 = l[j] := by simp [hj]
  rw [e1, e2]
  have hp := List.pairwise_iff_getElem.1 h
  rcases Nat.lt_or_gt_of_ne hij with hl | hl
  · exact hp i j hi hj hl
  · exact fun e => hp j i hj hi hl e.symm
theorem row_form {w : World} {base : Nat} {e : TypeId} {v : Value} {n : Nat} {qs : List Nat} (h : w.ownsRow base e 1 v qs.length (qs.map (bsl n))) (h0 : 0 < qs.length) : ∃ g cap cur, v = .slice (some ⟨g, 0, none⟩) qs.length cap ∧ base ≤ g ∧ w.heap[g]? = some (.cells cur e (0, 0)) ∧ ∀ j, j < qs.length → cur[j]? = some (bsl n (qs.getD j 0)) := by
  rcases h.2 with ⟨_, hn⟩ | ⟨g, cap, cur, rfl, h1, hg, _, _, _, ht⟩
  · omega
  · refine ⟨g, cap, cur, rfl, h1, hg, fun j hj => ?_⟩
    have := congrArg (fun l => l[j]?) ht
    simp only [Nat.mul_one] at this
    rw [List.getElem?_take_of_lt hj] at this
    rw [← Array.getElem?_toList, this]
    simp [hj]
/-- What is made at last: nothing is known yet. -/
theorem Nw.memo {w wr : World} {pv : Value} {s : ByteArray} {m : Nat} {dv ev : Value} {ds es : List Nat} (h : Nw w pv s m wr dv ev ds es) (ps : List Pi) (hp : PcsAt w pv ps) (h0 : 0 < ps.length) (hd : ds.length = ps.length) (he : es.length = ps.length) (hs : s.size ≤ 1048576) :
    ∃ c : Mm, c.m = m ∧ c.s = s ∧ c.ps = ps ∧ c.K = ps.length ∧ c.M0 = w.heap.size ∧ c.M1 = wr.heap.size ∧ c.wI = w ∧ c.pv = pv ∧ Lie c ∧ Memo c (fun _ => False) wr := by
  obtain ⟨d, cd, dcur, rfl, d1, d2, d3⟩ := row_form h.dr (by omega)
  obtain ⟨e, ce, ecur, rfl, e1, e2, e3⟩ := row_form h.er (by omega)
  have inD : ∀ k, k < ps.length → ds.getD k 0 ∈ ds := fun k hk => by
    have : k < ds.length := by omega
    simp [this]
  have inE : ∀ k, k < ps.length → es.getD k 0 ∈ es := fun k hk => by
    have : k < es.length := by omega
    simp [this]
  have ml := blk_lt h.mb
  have dl := blk_lt d2
  have el := blk_lt e2
  refine ⟨⟨w.heap.size, wr.heap.size, m, ps.length, pv, cd, ce, s, ps, d, e, fun k => ds.getD k 0, fun k => es.getD k 0, w⟩, rfl, rfl, rfl, rfl, rfl, rfl, rfl, rfl, ?_, ?_⟩
  · refine ⟨⟨h.lo, ml⟩, ⟨d1, dl⟩, ⟨e1, el⟩, fun k hk => ?_, fun k hk => ?_, fun k j hk hj hkj => ?_, fun k j hk hj hkj => ?_, fun k j hk hj => ?_, rfl, hp, rfl, hs⟩
    · obtain ⟨g1, arr, g2, g3⟩ := h.db _ (inD k hk)
      exact ⟨g1, blk_lt g2, type_ne g2 h.mb (by decide), type_ne g2 d2 (by decide), type_ne g2 e2 (by decide)⟩
    · obtain ⟨g1, arr, g2, g3⟩ := h.eb _ (inE k hk)
      exact ⟨g1, blk_lt g2, type_ne g2 h.mb (by decide), fun eq => h.de _ (inE k hk) (by simp only [Value.ownBlock]; exact congrArg some eq.symm), type_ne g2 e2 (by decide)⟩
    · simp only at hk hj
      exact getD_inj h.dd (by omega) (by omega) hkj
    · simp only at hk hj
      exact getD_inj h.ee (by omega) (by omega) hkj
    · obtain ⟨_, arr, g2, _⟩ := h.db _ (inD k hk)
      obtain ⟨_, arr2, g3, _⟩ := h.eb _ (inE j hj)
      exact type_ne g2 g3 (by decide)
  · refine ⟨?_, ⟨dcur, d2, fun k hk => d3 k (by simp only at hk; omega)⟩, ⟨ecur, e2, fun k hk => e3 k (by simp only at hk; omega)⟩, fun k hk => ?_, h.bel, Nat.le_refl _⟩
    · rw [← hd]
      have := h.mb
      rw [he, ← hd] at this
      exact this
    · obtain ⟨arr, g2, g3⟩ := (h.eb _ (inE k hk)).2
      exact ⟨fun _ => false, arr, (h.db _ (inD k hk)).2, g2, g3, fun i _ hf => by cases hf⟩
#print axioms Nw.pushD
#print axioms Nw.pushE
#print axioms Nw.memo
end Go.Proofs.Ytlnmbahakdmkgaa
