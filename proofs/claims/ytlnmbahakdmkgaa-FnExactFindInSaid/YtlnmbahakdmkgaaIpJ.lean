/- Where a piece may end, by the program: again and again: what lies in memory meanwhile. -/
import Derived.Test.YtlnmbahakdmkgaaIpI
namespace Go.Proofs.Ytlnmbahakdmkgaa
open Go.RowKit Go.Maps

/-- What 'againFrom' keeps: the set that is found, in block w.heap.size, and the places that are open. -/
structure Ao (c : Im) (X : Nat → Prop) (w : World) (y : Value) (wr : World) (S : Nat → Prop) (ws : List Nat) : Prop where
  fd : Fd c (fun b => X b ∨ y.ownBlock = some b) w w.heap.size wr S
  way : Ws (w.heap.size + 1) wr y ws
  few : ws.length + Unf (c.s.size + 1) S ≤ c.s.size + 1
section
variable {c : Im} {X : Nat → Prop} {w wr w2 : World} {y : Value} {S T : Nat → Prop} {ws : List Nat}
theorem Ao.far (h : Ao c X w y wr S ws) (q : Nat) (hq : y.ownBlock = some q) : w.heap.size + 1 ≤ q ∧ q < wr.heap.size := World.ownsRow.lt h.way q hq
theorem Ao.x1 (h : Ao c X w y wr S ws) (hM : c.M1 ≤ w.heap.size) (hX : ∀ b, X b → c.M1 ≤ b) (b : Nat) (hb : X b ∨ y.ownBlock = some b) : c.M1 ≤ b := by
  rcases hb with hb | hb
  · exact hX b hb
  · have := (h.far b hb).1; omega
theorem Ao.low (h : Ao c X w y wr S ws) (hM : c.M1 ≤ w.heap.size) (hX : ∀ b, X b → c.M1 ≤ b ∧ b < wr.heap.size) (b : Nat) (hb : (X b ∨ y.ownBlock = some b) ∨ b = w.heap.size) : c.M1 ≤ b ∧ b < wr.heap.size := by
  have h1 := h.fd.es.lt
  rcases hb with (hb | hb) | rfl
  · exact hX b hb
  · have := h.far b hb; omega
  · exact ⟨hM, h1⟩
theorem Ao.called (h : Ao c X w y wr S ws) (hM : c.M1 ≤ w.heap.size) (hm : IMemo c (fun b => (X b ∨ y.ownBlock = some b) ∨ b = w.heap.size) w2) (hf : FM c.M0 c.M1 wr w2) : Ao c X w y w2 S ws :=
  ⟨h.fd.called hM hm hf, h.way.keep fun q hq => hf.2.2 q (h.far q hq).2 (.inr (by have := (h.far q hq).1; omega)), h.few⟩
theorem Ao.pop {g n cap : Nat} {us : List Nat} {v : Nat} (h : Ao c X w (.slice (some ⟨g, 0, none⟩) n cap) wr S (us ++ [v])) : Ao c X w (.slice (some ⟨g, 0, none⟩) us.length cap) wr S us :=
  ⟨h.fd, h.way.pop, by have := h.few; simp at this; omega⟩
theorem Ao.up (h : Ao c X w y wr S ws) (L : ILie c) (hM : c.M1 ≤ w.heap.size) (hX : ∀ b, X b → c.M1 ≤ b) (hb : Below wr.heap.size wr w2) : Ao c X w y w2 S ws :=
  ⟨h.fd.up L hM (h.x1 hM hX) hb, h.way.keep fun q hq => hb.block q (h.far q hq).2, h.few⟩
/-- A range begins. -/
theorem Ao.range (h : Ao c X w y wr S ws) (L : ILie c) (hM : c.M1 ≤ w.heap.size) (hX : ∀ b, X b → c.M1 ≤ b) (hg : wr.grownBy w2 none) : Ao c (fun b => X b ∨ b = wr.heap.size) w y w2 S ws := by
  have hb : Below wr.heap.size wr w2 := ⟨hg.os, hg.tape, hg.output, hg.size, fun k hk => hg.block k hk (by simp)⟩
  have h2 := (h.up L hM hX hb)
  have h1 := h.fd.fm.2.1
  refine ⟨⟨h2.fd.es, h2.fd.bd, ?_, h2.fd.fm, h2.fd.hb⟩, h2.way, h2.few⟩
  refine IMemo.up L (h.fd.mem.more fun b hb => ?_) (fun b hb => ?_) hb
  · rcases hb with ((hb | rfl) | hb) | hb
    · exact .inl (.inl (.inl hb))
    · exact .inr (Nat.le_refl _)
    · exact .inl (.inl (.inr hb))
    · exact .inl (.inr hb)
  · rcases hb with ((hb | rfl) | hb) | hb
    · exact hX b hb
    · omega
    · have := (h.far b hb).1; omega
    · omega
theorem Ao.drop {r : Nat} (h : Ao c (fun b => X b ∨ b = r) w y wr S ws) : Ao c X w y wr S ws :=
  ⟨⟨h.fd.es, h.fd.bd, h.fd.mem.more (fun b hb => .inl (by
    rcases hb with (hb | hb) | hb
    · exact .inl (.inl (.inl hb))
    · exact .inl (.inr hb)
    · exact .inr hb)), h.fd.fm, h.fd.hb⟩, h.way, h.few⟩
theorem Ao.iter {r : Nat} (h : Ao c X w y wr S ws) (L : ILie c) (hM : c.M1 ≤ w.heap.size) (hX : ∀ b, X b → c.M1 ≤ b) (hg : wr.grownBy w2 (some r)) (hr : X r) (hr2 : w.heap.size < r) (hny : y.ownBlock ≠ some r) : Ao c X w y w2 S ws :=
  ⟨h.fd.iter L hM (h.x1 hM hX) hg (.inl hr) (by omega) (by omega), h.way.keep fun q hq => hg.block q (h.far q hq).2 (fun e => hny (by rw [hq, e])), h.few⟩
/-- One place more is found. -/
theorem Ao.put (h : Ao c X w y wr S ws) (L : ILie c) (hM : c.M1 ≤ w.heap.size) (hX : ∀ b, X b → c.M1 ≤ b) (hg : wr.grownBy w2 (some w.heap.size)) (e : Nat) (he : e < c.s.size + 1) (hn : ¬ S e) (hE : ES w2 w.heap.size (fun j => S j ∨ j = e)) : Ao c X w y w2 (fun j => S j ∨ j = e) ws :=
  ⟨h.fd.grown L hM (h.x1 hM hX) hg hE (fun j hj => by
    rcases hj with hj | rfl
    · exact h.fd.bd j hj
    · exact he), h.way.keep fun q hq => hg.block q (h.far q hq).2 (fun e => by have := (h.far q hq).1; have := Option.some.inj e; omega), by have := h.few; have := Unf.add he hn; omega⟩
theorem Ao.grown (h : Ao c X w y wr S ws) (L : ILie c) (hM : c.M1 ≤ w.heap.size) (hX : ∀ b, X b → c.M1 ≤ b) (o : Obj) (j : Nat) (y' : Value) (hway : Ws (w.heap.size + 1) w2 y' (ws ++ [j])) (hg : (wr.alloc o).grownBy w2 y.ownBlock) (hy : y'.ownBlock = y.ownBlock ∨ y'.ownBlock = some (wr.heap.size + 1)) (hfew : ws.length + 1 + Unf (c.s.size + 1) S ≤ c.s.size + 1) : Ao c X w y' w2 S (ws ++ [j]) := by
  have hs : wr.heap.size + 1 ≤ w2.heap.size := by have := hg.size; simpa using this
  have keep : ∀ b, b < wr.heap.size → y.ownBlock ≠ some b → w2.heap[b]? = wr.heap[b]? := by
    intro b hb hn
    rw [hg.block b (by simp; omega) (fun e => hn e.symm)]
    exact ((Below.refl wr.heap.size wr).alloc (Nat.le_refl _) o).block b hb
  have hen : Env wr w2 := ⟨hg.os, hg.tape, hg.output⟩
  have h0 := h.fd.es.lt
  refine ⟨⟨h.fd.es.keep (keep _ h0 (fun e => by have := (h.far _ e).1; omega)), h.fd.bd, ?_, ⟨h.fd.fm.1.trans hen, by have := h.fd.fm.2.1; omega, fun k hk hkk => (keep k (by have := h.fd.fm.2.1; omega) (fun e => by have := (h.far k e).1; omega)).trans (h.fd.fm.2.2 k hk hkk)⟩, h.fd.hb⟩, hway, by simpa using hfew⟩
  have m1 : IMemo c (fun b => ((X b ∨ y.ownBlock = some b) ∨ b = w.heap.size) ∨ b = wr.heap.size + 1) wr := h.fd.mem.more fun b hb => by
    rcases hb with hb | rfl
    · exact .inl hb
    · exact .inr (by omega)
  have m2 := m1.frame (w' := w2) L (fun b hb => by
    rcases hb with hb | rfl
    · exact h.fd.low1 hM (h.x1 hM hX) b hb
    · omega) (by omega) (fun b hb hn => keep b hb (fun e => hn (.inl (.inl (.inr e)))))
  refine m2.more fun b hb => .inl ?_
  rcases hb with (hb | hb) | hb
  · exact .inl (.inl (.inl hb))
  · rcases hy with e | e
    · exact .inl (.inl (.inr (e.symm.trans hb)))
    · exact .inr (by rw [e] at hb; exact (Option.some.inj hb).symm)
  · exact .inl (.inr hb)
/-- One place more to go on from: the append. -/
theorem Ao.push {ops : Array Oper} {rest : List Oper} {o : Oper} {a : Act} {Q : Exit → Act → World → Prop} (h : Ao c X w y wr S ws) (L : ILie c) (hM : c.M1 ≤ w.heap.size) (hX : ∀ b, X b → c.M1 ≤ b) (hgd : o.guard = none) (s x : Operand)
    (ho : o.op = .call { callee := .builtin .append, args := #[s, x], argTypes := #[40, 40] })
    (hs : a.eval s = y) (j n0 : Nat) (hx : a.eval x = .slice (some ⟨n0, 0, none⟩) 1 1) (hn0 : n0 = wr.heap.size) (hfew : ws.length + 1 + Unf (c.s.size + 1) S ≤ c.s.size + 1)
    (k : ∀ y' w2, Ao c X w y' w2 S (ws ++ [j]) → wr.heap.size ≤ w2.heap.size → (∀ b, b < wr.heap.size → y.ownBlock ≠ some b → w2.heap[b]? = wr.heap[b]?) → (y'.ownBlock = y.ownBlock ∨ y'.ownBlock = some (wr.heap.size + 1)) → wpList Try.prog ops Q rest (a.put o.dst y') w2) :
    wpList Try.prog ops Q (o :: rest) a (wr.alloc (.cells #[.int .i64 (j : Int)] 3)) := by
  subst hn0
  obtain ⟨i0, hi, hz0, hz1, hz2⟩ := info_parts Try.infoI
  have hls := L.hs
  have hB : w.heap.size + 1 ≤ wr.heap.size := by have := h.fd.es.lt; omega
  refine wpList_append_own_at _ hgd s x 40 ho (w.heap.size + 1) 3 i0 (.int .i64 0) 1 8 Try.underlying40 hi hz0 hz1 hz2 rfl (by decide) y ws.length (ws.map fun (n : Nat) => iv n) hs (World.ownsRow.alloc h.way _) ⟨wr.heap.size, 0, none⟩ 1 1 [iv j] hx rfl (cell_one_new _ _ _) ?_ ?_ ?_ ?_ ?_
  · intro u hu; simp at hu; subst hu; rfl
  · unfold maxLen; omega
  · omega
  · simp; omega
  · intro y' w2 h2 h3 _ h5
    have h5' : y'.ownBlock = y.ownBlock ∨ y'.ownBlock = some (wr.heap.size + 1) := by simpa using h5
    refine k y' w2 (h.grown L hM hX _ j y' (by unfold Ws; simpa using h2) h3 h5' hfew) ?_ ?_ h5'
    · have := h3.size; simp at this; omega
    · intro b hb hn
      rw [h3.block b (by simp; omega) (fun e => hn e.symm)]
      exact ((Below.refl wr.heap.size wr).alloc (Nat.le_refl _) _).block b hb
theorem Ao.len (h : Ao c X w y wr S ws) : lenOf y = ws.length := by
  rcases h.way.2 with ⟨e, hn⟩ | ⟨g, cap, cur, e, _⟩
  · rw [e, hn]; rfl
  · rw [e]; rfl
theorem Ao.form0 (h : Ao c X w y wr S []) : ∃ ya yc, y = .slice ya 0 yc := by
  rcases h.way.2 with ⟨e, _⟩ | ⟨g, cap, cur, e, _⟩
  · exact ⟨none, 0, e⟩
  · exact ⟨_, cap, e⟩
theorem Ao.form {us : List Nat} {v : Nat} (h : Ao c X w y wr S (us ++ [v])) : ∃ g cap, y = .slice (some ⟨g, 0, none⟩) (us.length + 1) cap ∧ us.length + 1 ≤ cap ∧ wr.cell? ⟨g, us.length, none⟩ = some (.int .i64 (v : Int)) := by
  obtain ⟨g, cap, e, _, _, hc⟩ := h.way.form (by simp)
  have h1 := hc us.length (by simp)
  have h2 : (us ++ [v]).getD us.length 0 = v := by simp
  rw [h2] at h1
  rcases h.way.2 with ⟨_, hn⟩ | ⟨g', cap', cur, e', _, _, hle, _⟩
  · simp at hn
  · rw [e] at e'
    simp at e'
    obtain ⟨rfl, rfl⟩ := e'
    exact ⟨g, cap, by rw [e]; simp, by simpa using hle, h1⟩
end
#print axioms Ao.push
#print axioms Ao.form
end Go.Proofs.Ytlnmbahakdmkgaa
