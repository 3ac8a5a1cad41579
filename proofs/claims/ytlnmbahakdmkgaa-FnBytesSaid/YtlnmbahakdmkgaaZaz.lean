/- Where a piece may end, by the program: again and again: what lies in memory meanwhile. Where a piece may end, by the program: again and again, walked. -/
import Derived.Test.YtlnmbahakdmkgaaZay
namespace Go.Proofs.Ytlnmbahakdmkgaa
section PartIpJ
open Go.RowKit Go.Maps

/-- What 'againFrom' keeps: the set that is found, in block w.heap.size, and the places that are open. -/
structure Ao (c : Im) (X : Nat → Prop) (w : World) (y : Value) (wr : World) (S : Nat → Prop) (ws : List Nat) : Prop where
  fd : Fd c (fun b => X b ∨ y.ownBlock = some b) w w.heap.size wr S
  way : Ws (w.heap.size + 1) wr y ws
  few : ws.length + Unf (c.s.size + 1) S ≤ c.s.size + 1
section
variable {c : Im} {X : Nat → Prop} {w wr w2 : World} {y : Value} {S T : Nat → Prop} {ws : List Nat}
theorem Ao.far (h : Ao c X w y wr S ws) (q : Nat) (hq : y.ownBlock = some q) : w.heap.size + 1 ≤ q ∧ q < wr.heap.size := World.ownsRow.lt h.way q hq
theorem Ao.x1 (h : Ao c X w y wr S ws) (hM : c.M1 ≤ w.heap.size) (hX : ∀ b, X b → c.M1 ≤ b) (b : Nat) (hb : X b ∨ y.ownBlock = some b) : c.M1 ≤ b := by
  rcases hb with hb | hb
  · exact hX b hb
  · have := (h.far b hb).1; omega
theorem Ao.low (h : Ao c X w y wr S ws) (hM : c.M1 ≤ w.heap.size) (hX : ∀ b, X b → c.M1 ≤ b ∧ b < wr.heap.size) (b : Nat) (hb : (X b ∨ y.ownBlock = some b) ∨ b = w.heap.size) : c.M1 ≤ b ∧ b < wr.heap.size := by
  have h1 := h.fd.es.lt
  rcases hb with (hb | hb) | rfl
  · exact hX b hb
  · have := h.far b hb; omega
  · exact ⟨hM, h1⟩
theorem Ao.called (h : Ao c X w y wr S ws) (hM : c.M1 ≤ w.heap.size) (hm : IMemo c (fun b => (X b ∨ y.ownBlock = some b) ∨ b = w.heap.size) w2) (hf : FM c.M0 c.M1 wr w2) : Ao c X w y w2 S ws :=
  ⟨h.fd.called hM hm hf, h.way.keep fun q hq => hf.2.2 q (h.far q hq).2 (.inr (by have := (h.far q hq).1; omega)), h.few⟩
theorem Ao.pop {g n cap : Nat} {us : List Nat} {v : Nat} (h : Ao c X w (.slice (some ⟨g, 0, none⟩) n cap) wr S (us ++ [v])) : Ao c X w (.slice (some ⟨g, 0, none⟩) us.length cap) wr S us :=
  ⟨h.fd, h.way.pop, by have := h.few; simp at this; omega⟩
theorem Ao.up (h : Ao c X w y wr S ws) (L : ILie c) (hM : c.M1 ≤ w.heap.size) (hX : ∀ b, X b → c.M1 ≤ b) (hb : Below wr.heap.size wr w2) : Ao c X w y w2 S ws :=
  ⟨h.fd.up L hM (h.x1 hM hX) hb, h.way.keep fun q hq => hb.block q (h.far q hq).2, h.few⟩
/-- A range begins. -/
theorem Ao.range (h : Ao c X w y wr S ws) (L : ILie c) (hM : c.M1 ≤ w.heap.size) (hX : ∀ b, X b → c.M1 ≤ b) (hg : wr.grownBy w2 none) : Ao c (fun b => X b ∨ b = wr.heap.size) w y w2 S ws := by
  have hb : Below wr.heap.size wr w2 := ⟨hg.os, hg.tape, hg.output, hg.size, fun k hk => hg.block k hk (by simp)⟩
  have h2 := (h.up L hM hX hb)
  have h1 := h.fd.fm.2.1
  refine ⟨⟨h2.fd.es, h2.fd.bd, ?_, h2.fd.fm, h2.fd.hb⟩, h2.way, h2.few⟩
  refine IMemo.up L (h.fd.mem.more fun b hb => ?_) (fun b hb => ?_) hb
  · rcases hb with ((hb | rfl) | hb) | hb
    · exact .inl (.inl (.inl hb))
    · exact .inr (Nat.le_refl _)
    · exact .inl (.inl (.inr hb))
    · exact .inl (.inr hb)
  · rcases hb with ((hb | rfl) | hb) | hb
    · exact hX b hb
    · omega
    · have := (h.far b hb).1; omega
    · omega
theorem Ao.drop {r : Nat} (h : Ao c (fun b => X b ∨ b = r) w y wr S ws) : Ao c X w y wr S ws :=
  ⟨⟨h.fd.es, h.fd.bd, h.fd.mem.more (fun b hb => .inl (by
    rcases hb with (hb | hb) | hb
    · exact .inl (.inl (.inl hb))
    · exact .inl (.inr hb)
    · exact .inr hb)), h.fd.fm, h.fd.hb⟩, h.way, h.few⟩
theorem Ao.iter {r : Nat} (h : Ao c X w y wr S ws) (L : ILie c) (hM : c.M1 ≤ w.heap.size) (hX : ∀ b, X b → c.M1 ≤ b) (hg : wr.grownBy w2 (some r)) (hr : X r) (hr2 : w.heap.size < r) (hny : y.ownBlock ≠ some r) : Ao c X w y w2 S ws :=
  ⟨h.fd.iter L hM (h.x1 hM hX) hg (.inl hr) (by omega) (by omega), h.way.keep fun q hq => hg.block q (h.far q hq).2 (fun e => hny (by rw [hq, e])), h.few⟩
/-- One place more is found. -/
theorem Ao.put (h : Ao c X w y wr S ws) (L : ILie c) (hM : c.M1 ≤ w.heap.size) (hX : ∀ b, X b → c.M1 ≤ b) (hg : wr.grownBy w2 (some w.heap.size)) (e : Nat) (he : e < c.s.size + 1) (hn : ¬ S e) (hE : ES w2 w.heap.size (fun j => S j ∨ j = e)) : Ao c X w y w2 (fun j => S j ∨ j = e) ws :=
  ⟨h.fd.grown L hM (h.x1 hM hX) hg hE (fun j hj => by
    rcases hj with hj | rfl
    · exact h.fd.bd j hj
    · exact he), h.way.keep fun q hq => hg.block q (h.far q hq).2 (fun e => by have := (h.far q hq).1; have := Option.some.inj e; omega), by have := h.few; have := Unf.add he hn; omega⟩
theorem Ao.grown (h : Ao c X w y wr S ws) (L : ILie c) (hM : c.M1 ≤ w.heap.size) (hX : ∀ b, X b → c.M1 ≤ b) (o : Obj) (j : Nat) (y' : Value) (hway : Ws (w.heap.size + 1) w2 y' (ws ++ [j])) (hg : (wr.alloc o).grownBy w2 y.ownBlock) (hy : y'.ownBlock = y.ownBlock ∨ y'.ownBlock = some (wr.heap.size + 1)) (hfew : ws.length + 1 + Unf (c.s.size + 1) S ≤ c.s.size + 1) : Ao c X w y' w2 S (ws ++ [j]) := by
  have hs : wr.heap.size + 1 ≤ w2.heap.size := by have := hg.size; simpa using this
  have keep : ∀ b, b < wr.heap.size → y.ownBlock ≠ some b → w2.heap[b]? = wr.heap[b]? := by
    intro b hb hn
    rw [hg.block b (by simp; omega) (fun e => hn e.symm)]
    exact ((Below.refl wr.heap.size wr).alloc (Nat.le_refl _) o).block b hb
  have hen : Env wr w2 := ⟨hg.os, hg.tape, hg.output⟩
  have h0 := h.fd.es.lt
  refine ⟨⟨h.fd.es.keep (keep _ h0 (fun e => by have := (h.far _ e).1; omega)), h.fd.bd, ?_, ⟨h.fd.fm.1.trans hen, by have := h.fd.fm.2.1; omega, fun k hk hkk => (keep k (by have := h.fd.fm.2.1; omega) (fun e => by have := (h.far k e).1; omega)).trans (h.fd.fm.2.2 k hk hkk)⟩, h.fd.hb⟩, hway, by simpa using hfew⟩
  have m1 : IMemo c (fun b => ((X b ∨ y.ownBlock = some b) ∨ b = w.heap.size) ∨ b = wr.heap.size + 1) wr := h.fd.mem.more fun b hb => by
    rcases hb with hb | rfl
    · exact .inl hb
    · exact .inr (by omega)
  have m2 := m1.frame (w' := w2) L (fun b hb => by
    rcases hb with hb | rfl
    · exact h.fd.low1 hM (h.x1 hM hX) b hb
    · omega) (by omega) (fun b hb hn => keep b hb (fun e => hn (.inl (.inl (.inr e)))))
  refine m2.more fun b hb => .inl ?_
  rcases hb with (hb | hb) | hb
  · exact .inl (.inl (.inl hb))
  · rcases hy with e | e
    · exact .inl (.inl (.inr (e.symm.trans hb)))
    · exact .inr (by rw [e] at hb; exact (Option.some.inj hb).symm)
  · exact .inl (.inr hb)
/-- One place more to go on from: the append. -/
theorem Ao.push {ops : Array Oper} {rest : List Oper} {o : Oper} {a : Act} {Q : Exit → Act → World → Prop} (h : Ao c X w y wr S ws) (L : ILie c) (hM : c.M1 ≤ w.heap.size) (hX : ∀ b, X b → c.M1 ≤ b) (hgd : o.guard = none) (s x : Operand)
    (ho : o.op = .call { callee := .builtin .append, args := #[s, x], argTypes := #[40, 40] })
    (hs : a.eval s = y) (j n0 : Nat) (hx : a.eval x = .slice (some ⟨n0, 0, none⟩) 1 1) (hn0 : n0 = wr.heap.size) (hfew : ws.length + 1 + Unf (c.s.size + 1) S ≤ c.s.size + 1)
    (k : ∀ y' w2, Ao c X w y' w2 S (ws ++ [j]) → wr.heap.size ≤ w2.heap.size → (∀ b, b < wr.heap.size → y.ownBlock ≠ some b → w2.heap[b]? = wr.heap[b]?) → (y'.ownBlock = y.ownBlock ∨ y'.ownBlock = some (wr.heap.size + 1)) → wpList Try.prog ops Q rest (a.put o.dst y') w2) :
    wpList Try.prog ops Q (o :: rest) a (wr.alloc (.cells #[.int .i64 (j : Int)] 3)) := by
  subst hn0
  obtain ⟨i0, hi, hz0, hz1, hz2⟩ := info_parts Try.infoI
  have hls := L.hs
  have hB : w.heap.size + 1 ≤ wr.heap.size := by have := h.fd.es.lt; omega
  refine wpList_append_own_at _ hgd s x 40 ho (w.heap.size + 1) 3 i0 (.int .i64 0) 1 8 Try.underlying40 hi hz0 hz1 hz2 rfl (by decide) y ws.length (ws.map fun (n : Nat) => iv n) hs (World.ownsRow.alloc h.way _) ⟨wr.heap.size, 0, none⟩ 1 1 [iv j] hx rfl (cell_one_new _ _ _) ?_ ?_ ?_ ?_ ?_
  · intro u hu; simp at hu; subst hu; rfl
  · unfold maxLen; omega
  · omega
  · simp; omega
  · intro y' w2 h2 h3 _ h5
    have h5' : y'.ownBlock = y.ownBlock ∨ y'.ownBlock = some (wr.heap.size + 1) := by simpa using h5
    refine k y' w2 (h.grown L hM hX _ j y' (by unfold Ws; simpa using h2) h3 h5' hfew) ?_ ?_ h5'
    · have := h3.size; simp at this; omega
    · intro b hb hn
      rw [h3.block b (by simp; omega) (fun e => hn e.symm)]
      exact ((Below.refl wr.heap.size wr).alloc (Nat.le_refl _) _).block b hb
theorem Ao.len (h : Ao c X w y wr S ws) : lenOf y = ws.length := by
  rcases h.way.2 with ⟨e, hn⟩ | ⟨g, cap, cur, e, _⟩
  · rw [e, hn]; rfl
  · rw [e]; rfl
theorem Ao.form0 (h : Ao c X w y wr S []) : ∃ ya yc, y = .slice ya 0 yc := by
  rcases h.way.2 with ⟨e, _⟩ | ⟨g, cap, cur, e, _⟩
  · exact ⟨none, 0, e⟩
  · exact ⟨_, cap, e⟩
theorem Ao.form {us : List Nat} {v : Nat} (h : Ao c X w y wr S (us ++ [v])) : ∃ g cap, y = .slice (some ⟨g, 0, none⟩) (us.length + 1) cap ∧ us.length + 1 ≤ cap ∧ wr.cell? ⟨g, us.length, none⟩ = some (.int .i64 (v : Int)) := by
  obtain ⟨g, cap, e, _, _, hc⟩ := h.way.form (by simp)
  have h1 := hc us.length (by simp)
  have h2 : (us ++ [v]).getD us.length 0 = v := by simp
  rw [h2] at h1
  rcases h.way.2 with ⟨_, hn⟩ | ⟨g', cap', cur, e', _, _, hle, _⟩
  · simp at hn
  · rw [e] at e'
    simp at e'
    obtain ⟨rfl, rfl⟩ := e'
    exact ⟨g, cap, by rw [e]; simp, by simpa using hle, h1⟩
end
end PartIpJ
section PartIpK
open Go.RowKit Go.Maps

theorem upTo_unf (n : Nat) (S : Nat → Prop) : (upTo n S).length + Unf n S = n := by
  have h5 := filter_both (fun k => @decide (S k) (Classical.propDecidable _)) (List.range n)
  rw [List.length_range] at h5
  exact h5
theorem Ao.begin {c : Im} {X : Nat → Prop} {w w2 w4 : World} {v : Value} {S : Nat → Prop} {ns : List Nat} {B : Nat} (h : Fd c X w w.heap.size w2 S) (L : ILie c) (hM : c.M1 ≤ w.heap.size) (hX : ∀ b, X b → c.M1 ≤ b) (hb : Below w2.heap.size w2 w4) (hv : Ws B w4 v ns) (hB : w2.heap.size ≤ B) (hp : ns.Perm (upTo (c.s.size + 1) S)) : Ao c X w v w4 S ns := by
  have h0 := h.es.lt
  have hf : ∀ q, v.ownBlock = some q → w2.heap.size ≤ q := fun q hq => Nat.le_trans hB (World.ownsRow.lt hv q hq).1
  refine ⟨⟨h.es.keep (hb.block _ h0), h.bd, ?_, h.fm.up hb, h.hb⟩, hv.low (by omega), by rw [hp.length_eq]; exact Nat.le_of_eq (upTo_unf _ _)⟩
  refine IMemo.up L (h.mem.more fun b hb => ?_) (fun b hb => ?_) hb
  · rcases hb with (hb | hb) | hb
    · exact .inl (.inl hb)
    · exact .inr (hf b hb)
    · exact .inl (.inr hb)
  · rcases hb with (hb | hb) | hb
    · exact hX b hb
    · have := hf b hb; omega
    · omega

set_option maxHeartbeats 8000000 in
set_option maxRecDepth 100000 in
theorem again_any (c : Im) (L : ILie c) (k : Nat) (hC : EndC c k) (X : Nat → Prop) (w : World) (hX : ∀ b, X b → c.M1 ≤ b ∧ b < w.heap.size) (h : IMemo c X w) (ob : Option Nat) (S0 : Nat → Prop) (B : Nat) (ho : OS w B ob S0) (hS0 : ∀ j, S0 j → j < c.s.size + 1) :
    Calls Try.prog 68 #[.pointer (some ⟨c.P k, 0, none⟩), .string c.s, .map ob] w (KPost c X (fun e => ∃ j, S0 j ∧ En.Reach c.ps c.s k j e) w) := by
  have hs := L.hs
  have hM : c.M1 ≤ w.heap.size := h.hi
  have HX : Hid (∀ b, X b → c.M1 ≤ b ∧ b < w.heap.size) := hX
  have HX1 : Hid (∀ b, X b → c.M1 ≤ b) := fun b hb => (hX b hb).1
  have HL : Hid (ILie c) := L
  have HC : Hid (EndC c k) := hC
  have HF : Hid (Fd c X w w.heap.size (w.alloc (.map #[] 0)) (fun _ => False)) := Fd.begin L hX h
  have HN : Hid (ob ≠ some w.heap.size) := by
    intro e
    rcases ho with ⟨e2, _⟩ | ⟨b, e2, _, hE⟩
    · rw [e2] at e; cases e
    · rw [e2] at e; have := Option.some.inj e; have := hE.lt; omega
  have ho1 : OS (w.alloc (.map #[] 0)) B ob S0 := by
    rcases ho with h | ⟨b, e, h1, h2⟩
    · exact .inl h
    · exact .inr ⟨b, e, h1, h2.keep (((Below.refl w.heap.size w).alloc (Nat.le_refl _) _).block b h2.lt)⟩
  have HA : Hid (Calls Try.prog 67 #[.map (some w.heap.size), .map ob] (w.alloc (.map #[] 0)) fun e w' => e = .returned (.tuple #[]) ∧ Fd c X w w.heap.size w' (fun j => False ∨ S0 j) ∧ (w.alloc (.map #[] 0)).grownBy w' (some w.heap.size)) :=
    HF.out.add L hM HX1.out ho1 HN.out hS0
  have HO1 : Hid (OS (w.alloc (.map #[] 0)) B ob S0) := ho1
  have HS0 : Hid (∀ j, S0 j → j < c.s.size + 1) := hS0
  have hmm := @run_makeMap Try.prog
  clear L hX h hC ho ho1 hS0 HF
  go_enter Try.func68, Try.ntmps68
  go_wp2_with fail
  refine HA.out.mono ?_
  rintro e w2 ⟨rfl, hf2, hg2⟩
  have HF2 : Hid (Fd c X w w.heap.size w2 S0) := hf2.iff (fun j => by simp)
  have HO2 : Hid (OS w2 B ob S0) := by
    rcases HO1.out with h | ⟨b, e, h1, h2⟩
    · exact .inl h
    · exact .inr ⟨b, e, h1, h2.keep (hg2.block b h2.lt (fun e2 => HN.out (by rw [e, e2])))⟩
  clear hf2 hg2 HA HO1 HN hmm
  obtain ⟨wo, hwo⟩ : ∃ wo : World, wo = w2 := ⟨_, rfl⟩
  go_wp2_with fail
  refine (keys_run ob w2).mono ?_
  rintro e w3 ⟨rfl, rfl⟩
  have HCL : Hid (Calls Try.prog 28 #[.func (.func 50) #[] #[.pointer (some ⟨w2.heap.size, 0, none⟩)]] (w2.alloc (.cells #[.map ob] 57)) fun e w' => ∃ v ns, e = .returned v ∧ ns.Perm (upTo (c.s.size + 1) S0) ∧ Ws (w2.heap.size + 1) w' v ns ∧ Below (w2.heap.size + 1) (w2.alloc (.cells #[.map ob] 57)) w') := by
    have hsz : (w2.alloc (.cells #[.map ob] 57)).heap.size = w2.heap.size + 1 := by simp
    have h := collect_os (w := w2.alloc (.cells #[.map ob] 57)) (B := B) (Bm := w2.heap.size) (N := c.s.size + 1) (ob := ob) (S := S0) (by
      rcases HO2.out with h | ⟨b, e, h1, h2⟩
      · exact .inl h
      · exact .inr ⟨b, e, h1, h2.keep (((Below.refl w2.heap.size w2).alloc (Nat.le_refl _) _).block b h2.lt)⟩) (by omega) (by rw [blk_cell (heap_alloc_new w2 _)]; rfl) HS0.out (by omega)
    rw [hsz] at h
    exact h
  clear hwo
  go_wp2_with fail
  refine HCL.out.mono ?_
  rintro e w4 ⟨v0, ns, rfl, hp, hw4, hb4⟩
  have HAO : Hid (Ao c X w v0 w4 S0 ns) := Ao.begin HF2.out HL.out hM HX1.out (((Below.refl w2.heap.size w2).alloc (Nat.le_refl _) _).trans (hb4.mono (by omega))) hw4 (by omega) hp
  have HWO : Hid (En.Wo c.ps c.s k S0 S0 ns) := ⟨fun _ h => h, fun x hx => (upTo_mem HS0.out x).1 (hp.mem_iff.1 hx), fun e he => ⟨e, he, .here⟩, fun x hx hn => absurd (hp.mem_iff.2 ((upTo_mem HS0.out x).2 hx)) hn⟩
  clear hp hw4 hb4 HCL HF2 HO2
  go_wp2_with fail
  go_loopw [8] (fun y wr => ∃ (S : Nat → Prop) (ws : List Nat), Hid (Ao c X w y wr S ws) ∧ Hid (En.Wo c.ps c.s k S0 S ws)) (fun y wr => 2 * (c.s.size + 1 - setSize wr w.heap.size) + lenOf y)
  case atStart => exact ⟨_, _, HAO.out, HWO.out⟩
  case round =>
    obtain ⟨S, ws, HG, HW⟩ := hrel
    clear HAO HWO
    rcases List.eq_nil_or_concat ws with rfl | ⟨us, v, rfl⟩
    · obtain ⟨ya, yc, rfl⟩ := HG.out.form0
      have HP : Hid (KPost c X (fun e => ∃ j, S0 j ∧ En.Reach c.ps c.s k j e) w (.returned (.map (some w.heap.size))) wr) := HG.out.fd.post2 (fun b hb => .inl hb) (fun j => HW.out.fin j)
      go_wp2_with fail
      go_ret
      exact HP.out
    · rw [List.concat_eq_append] at HG HW
      obtain ⟨g, cap, rfl, hcap, hcv⟩ := HG.out.form
      have hfew := HG.out.few
      have hv : v < c.s.size + 1 := HG.out.fd.bd v (HW.out.todo v (by simp))
      obtain ⟨U, hU⟩ : ∃ U, U = Unf (c.s.size + 1) S := ⟨_, rfl⟩
      have HU : Hid (U = c.s.size + 1 - setSize wr w.heap.size) := hU.trans (Unf.size HG.out.fd.es HG.out.fd.bd).symm
      have HU2 : Hid (U = Unf (c.s.size + 1) S) := hU
      rw [List.length_append, List.length_singleton, ← hU] at hfew
      clear hU
      have HG1 : Hid (Ao c X w (.slice (some ⟨g, 0, none⟩) us.length cap) wr S us) := HG.out.pop
      have HW1 : Hid (En.Wv c.ps c.s k S0 S us v (fun _ => False)) := HW.out.pop
      clear HG HW
      obtain ⟨m, hm⟩ : ∃ m, m = us.length := ⟨_, rfl⟩
      rw [← hm] at hcap hcv hfew HG1 ⊢
      have HM : Hid (m = us.length) := hm
      clear hm
      have m1 : (m : Int) < ((m + 1 : Nat) : Int) := by omega
      have m2 : (m : Int) ≤ (cap : Int) := by omega
      go_wp2_with fail
      refine (HC.out _ wr v (HG1.out.low hM (fun b hb => ⟨HX1.out b hb, by have := (HX.out b hb).2; have := HG1.out.fd.fm.2.1; omega⟩)) HG1.out.fd.mem hv).mono ?_
      rintro e w1 ⟨ob1, rfl, o1, o2, o3, o4⟩
      have HG2 : Hid (Ao c X w (.slice (some ⟨g, 0, none⟩) m cap) w1 S us) := HG1.out.called hM o3 o4
      have HNX : Hid (∀ b, ob1 = some b → ¬ ((X b ∨ (Value.slice (some ⟨g, 0, none⟩) m cap).ownBlock = some b) ∨ b = w.heap.size)) := o2
      clear o2 o3 o4 HG1 hcv m1 m2 hcap
      rcases o1 with ⟨rfl, hno⟩ | ⟨bf, rfl, hbf, hE⟩
      · have HW2 : Hid (En.Wo c.ps c.s k S0 S us) := HW1.out.fin (fun e he => (hno e he).elim)
        have HG3 : Hid (∀ o : Obj, Ao c X w (.slice (some ⟨g, 0, none⟩) m cap) (w1.alloc o) S us) := fun o => HG2.out.up HL.out hM HX1.out ((Below.refl _ _).alloc (Nat.le_refl _) o)
        have hrg := run_range_nilMap (P := Try.prog) w1 57 3 64 under_eset
        have hnx : ∀ ty, (Instr.next (.pointer (some ⟨w1.heap.size, 0, none⟩)) false ty).run Try.prog (w1.alloc (.mapIter none 0 #[] 0)) = _ := fun ty => run_next_nilMap _ ty 0 0 #[]
        clear hno HG2 HW1
        go_wp2_with fail
        refine wp_loop_rounds 1 ?_
        rw [rounds_succ]
        go_wp2_with fail
        go_roundw
        case rel => exact ⟨S, us, HG3.out _, HW2.out⟩
        case measure =>
          rw [← HU.out]
          have e1 := Unf.size (HG3.out (.mapIter none 0 #[] 0)).fd.es (HG3.out (.mapIter none 0 #[] 0)).fd.bd
          rw [e1, ← HU2.out]
          simp only [lenOf]
          omega
      · obtain ⟨D, hD1, hD2⟩ := hE
        go_wp2_with (first | (at_range; refine wpList_range_own _ rfl _ 57 rfl 3 64 keyI under_eset _ bf _ D rfl hD1 ?_; intro w0 hrg0 hg0 hs0) | fail)
        go_frame
        obtain ⟨r, hr⟩ : ∃ r, r = w1.heap.size := ⟨_, rfl⟩
        rw [← hr] at hrg0 ⊢
        have HR0 : Hid (w0.ranges Try.prog 3 unitElem bf r (Maps.size D) D (Maps.has D) (Maps.size D)) := hrg0
        have HD2 : Hid (∀ x : Int, Maps.has D (.int .i64 x) = true ↔ ∃ u : Nat, x = (u : Int) ∧ En.Ends c.ps c.s k v u) := hD2
        have HG3 : Hid (Ao c (fun b => X b ∨ b = r) w (.slice (some ⟨g, 0, none⟩) m cap) w0 S us) := by
          rw [hr]
          exact HG2.out.range HL.out hM HX1.out hg0
        have HW3 : Hid (En.Wv c.ps c.s k S0 S us v (fun e => Maps.has D (.int .i64 (e : Int)) = false)) := by
          refine ⟨HW1.out.beg, HW1.out.todo, HW1.out.back, HW1.out.fwd, fun e h1 h2 => ?_, HW1.out.sv⟩
          rw [(hD2 (e : Int)).2 ⟨e, rfl, h2⟩] at h1
          cases h1
        have HLE : Hid (2 * Unf (c.s.size + 1) S + us.length < 2 * U + m + 1) := by rw [← HU2.out, ← HM.out]; show _ < _; omega
        have HNY : Hid ((Value.slice (some ⟨g, 0, none⟩) m cap).ownBlock ≠ some bf ∧ (Value.slice (some ⟨g, 0, none⟩) m cap).ownBlock ≠ some r) := ⟨fun e => HNX.out bf rfl (.inl (.inr e)), fun e => by have := (HG2.out.far r e).2; omega⟩
        have HRR : Hid (w.heap.size < r ∧ c.M1 ≤ r ∧ w.heap.size ≠ bf ∧ c.M1 ≤ bf ∧ bf < w1.heap.size ∧ r = w1.heap.size) := by
          have h1 := HG2.out.fd.es.lt
          exact ⟨by omega, by omega, fun e => HNX.out bf rfl (.inr e.symm), hbf, hD1.lt, hr⟩
        have HXR : Hid (∀ b, (X b ∨ b = r) → c.M1 ≤ b) := by
          rintro b (hb | rfl)
          · exact HX1.out b hb
          · exact HRR.out.2.1
        clear hrg0 hg0 hs0 hD1 hD2 HG2 HNX hbf hr HW1
        go_loopw [8] (fun y0 wr => ∃ (y : Value) (S : Nat → Prop) (ws : List Nat) (left : Lit → Bool) (cnt : Nat), y = y0 ∧ Hid (wr.ranges Try.prog 3 unitElem bf r (Maps.size D) D left cnt) ∧ Hid (Ao c (fun b => X b ∨ b = r) w y wr S ws) ∧ Hid (En.Wv c.ps c.s k S0 S ws v (fun e => left (.int .i64 (e : Int)) = false)) ∧ Hid (2 * Unf (c.s.size + 1) S + ws.length < 2 * U + m + 1) ∧ Hid (y.ownBlock ≠ some bf ∧ y.ownBlock ≠ some r))
          (fun _ wr => wr.rangeLeft bf r)
        case atStart => exact ⟨_, _, _, _, _, rfl, HR0.out, HG3.out, HW3.out, HLE.out, HNY.out⟩
        case round =>
          obtain ⟨y, S, ws, left, cnt, rfl, HR, HA, HV, HLT, HNB⟩ := hrel
          clear HR0 HG3 HW3 HLE HNY
          go_wp2_with (first
            | (at_next; refine wpList_next_ranges _ rfl _ rfl 3 keyI unitElem encZ (fun _ : Unit => Value.agg #[]) (fun key kl hk => by obtain ⟨x, hx, _⟩ := Maps.keyOf_i64 Try.underlying3 hk; exact ⟨x, hx⟩) (fun v y hv => ⟨(), (unitElem_inv hv).1⟩) bf r _ _ _ _ rfl HR.out ?_ ?_)
            | fail)
          · intro hc0 hl0
            have HV2 : Hid (En.Wo c.ps c.s k S0 S ws) := HV.out.fin (fun e _ => hl0 _)
            have HA2 : Hid (Ao c X w y wr S ws) := HA.out.drop
            clear hl0 hc0 HR HA HV HNB
            go_wp2_with fail
            go_roundw
            case rel => exact ⟨S, ws, HA2.out, HV2.out⟩
            case measure =>
              rw [← HU.out]
              have e1 := Unf.size HA2.out.fd.es HA2.out.fd.bd
              have e2 := HA2.out.len
              have e3 := HLT.out
              rw [e1, e2]
              simp only [lenOf]
              omega
          · intro x kl yd yp w5 cnt2 hkey hlk hvv hat hrg2 hlt hg2 hs2 hen
            obtain ⟨x', ex, rfl, _⟩ := Maps.keyOf_i64 Try.underlying3 hkey
            obtain rfl : x = x' := encZ_inj ex
            obtain ⟨u, rfl, hu⟩ := (HD2.out x).1 (has_true_of_atKey hat)
            have hul : u < c.s.size + 1 := by have := hu.le; omega
            have HR2 : Hid (w5.ranges Try.prog 3 unitElem bf r (Maps.size D) D (fun z => left z && !z.sameKey (.int .i64 (u : Int))) cnt2) := hrg2
            have HA2 : Hid (Ao c (fun b => X b ∨ b = r) w y w5 S ws) := HA.out.iter HL.out hM HXR.out hg2 (.inr rfl) HRR.out.1 HNB.out.2
            have HK : Hid (En.Ends c.ps c.s k v u ∧ cnt2 < cnt) := ⟨hu, hlt⟩
            have HDN : Hid (∀ e : Nat, (left (.int .i64 (e : Int)) = false ∨ e = u) ↔ (left (.int .i64 (e : Int)) && !(Lit.int .i64 (e : Int)).sameKey (.int .i64 (u : Int))) = false) := by
              intro e
              by_cases heu : e = u
              · subst heu; simp [Lit.sameKey]
              · have e1 : (Lit.int .i64 (e : Int)).sameKey (.int .i64 (u : Int)) = false := sameKey_ne (fun e2 => heu (by simp at e2; omega))
                simp [e1, heu]
            obtain ⟨De, hDe1, hDe2⟩ := HA2.out.fd.es
            have HDE2 : Hid (∀ x : Int, Maps.has De (.int .i64 x) = true ↔ ∃ k : Nat, x = (k : Int) ∧ S k) := hDe2
            have HRA : Hid (∀ o : Obj, (w5.alloc o).ranges Try.prog 3 unitElem bf r (Maps.size D) D (fun z => left z && !z.sameKey (.int .i64 (u : Int))) cnt2) := fun o => HR2.out.alloc o
            have HAA : Hid (∀ o : Obj, Ao c (fun b => X b ∨ b = r) w y (w5.alloc o) S ws) := fun o => HA2.out.up HL.out hM HXR.out ((Below.refl _ _).alloc (Nat.le_refl _) o)
            have hDa : ∀ o : Obj, (w5.alloc o).ownsMap Try.prog 3 unitElem w.heap.size (Maps.size De) De := fun o => hDe1.alloc o
            have hsz : Maps.size De ≤ c.s.size + 1 := ES.size hDe1 hDe2 _ HA2.out.fd.bd
            have HIM : Hid (IsMap De) := hDe1.isMap
            clear hg2 hs2 hat hlk hvv hkey hrg2 hlt hu ex hDe2
            by_cases hSu : S u
            · have hhas : Maps.has De (.int .i64 (u : Int)) = true := (HDE2.out _).2 ⟨u, rfl, hSu⟩
              have HV2 : Hid (En.Wv c.ps c.s k S0 S ws v (fun e => (left (.int .i64 (e : Int)) && !(Lit.int .i64 (e : Int)).sameKey (.int .i64 (u : Int))) = false)) := by
                have h1 := HV.out.old u hSu
                exact ⟨h1.beg, h1.todo, h1.back, h1.fwd, fun e h2 h3 => h1.vd e ((HDN.out e).2 h2) h3, h1.sv⟩
              clear hSu
              go_wp2_with (first | (at_lookup; refine wpList_lookup_own_unit _ rfl _ _ 57 rfl 3 64 keyI under_eset (zero_unit _) w.heap.size _ De rfl hDe1 _ _ rfl (keyOf_int_mk Try.underlying3 (small_wf (by omega))) ?_) | fail)
              go_roundw
              case rel => exact ⟨y, S, ws, _, _, rfl, HRA.out _, HAA.out _, HV2.out, HLT.out, HNB.out⟩
              case measure =>
                rw [(HRA.out _).left_eq, HR.out.left_eq]
                exact HK.out.2
            · have hhas : Maps.has De (.int .i64 (u : Int)) = false := by
                rw [← Bool.not_eq_true]
                intro hh
                obtain ⟨u', e, h⟩ := (HDE2.out _).1 hh
                obtain rfl : u = u' := by omega
                exact hSu h
              have HNS : Hid (¬ S u) := hSu
              clear hSu
              go_wp2_with (first
                | (at_lookup; refine wpList_lookup_own_unit _ rfl _ _ 57 rfl 3 64 keyI under_eset (zero_unit _) w.heap.size _ De rfl hDe1 _ _ rfl (keyOf_int_mk Try.underlying3 (small_wf (by omega))) ?_)
                | (at_mapUpdate; refine wpList_mapUpdate_own _ rfl _ _ _ 57 rfl 3 64 keyI under_eset _ w.heap.size _ _ rfl (hDa _) (by unfold maxLen; omega) _ _ _ rfl rfl (keyOf_int_mk Try.underlying3 (small_wf (by omega))) _ [] unitElem_mk ?_; intro w6 hown6 hg6
                   have HP6 : Hid (Ao c (fun b => X b ∨ b = r) w y w6 (fun j => S j ∨ j = u) ws) := (HAA.out _).put HL.out hM HXR.out hg6 u hul HNS.out (ES.put hown6 HIM.out HDE2.out)
                   have HR6 : Hid (w6.ranges Try.prog 3 unitElem bf r (Maps.size D) D (fun z => left z && !z.sameKey (.int .i64 (u : Int))) cnt2) := (HRA.out _).kept hg6 (fun e => HRR.out.2.2.1 (Option.some.inj e).symm) (fun e => by have := Option.some.inj e; have := HRR.out.1; omega)
                   have HF6 : Hid (ws.length + 1 + Unf (c.s.size + 1) (fun j => S j ∨ j = u) ≤ c.s.size + 1) := by
                     have h1 := HA2.out.few
                     have h2 := Unf.add hul HNS.out
                     show _ ≤ _
                     omega
                   clear hown6 hg6)
                | (at_builtin; go_must (refine HP6.out.push HL.out hM HXR.out rfl (.tmp 54) (.tmp 56) rfl rfl u _ rfl ?hx HF6.out ?_))
                | fail)
              case hx => rfl
              intro y7 w7 hao hsz7 hkp hoy
              have HR7 : Hid (w7.ranges Try.prog 3 unitElem bf r (Maps.size D) D (fun z => left z && !z.sameKey (.int .i64 (u : Int))) cnt2) := ranges_keep HR6.out (hkp bf HR6.out.owns.lt HNB.out.1) (hkp r HR6.out.lt HNB.out.2)
              have HA7 : Hid (Ao c (fun b => X b ∨ b = r) w y7 w7 (fun j => S j ∨ j = u) (ws ++ [u])) := hao
              have HV7 : Hid (En.Wv c.ps c.s k S0 (fun j => S j ∨ j = u) (ws ++ [u]) v (fun e => (left (.int .i64 (e : Int)) && !(Lit.int .i64 (e : Int)).sameKey (.int .i64 (u : Int))) = false)) := by
                have h1 := HV.out.new u HK.out.1
                exact ⟨h1.beg, h1.todo, h1.back, h1.fwd, fun e h2 h3 => h1.vd e ((HDN.out e).2 h2) h3, h1.sv⟩
              have HL7 : Hid (2 * Unf (c.s.size + 1) (fun j => S j ∨ j = u) + (ws ++ [u]).length < 2 * U + m + 1) := by
                have h1 := HLT.out
                have h2 := Unf.add hul HNS.out
                show _ < _
                rw [List.length_append, List.length_singleton]
                omega
              have HN7 : Hid (y7.ownBlock ≠ some bf ∧ y7.ownBlock ≠ some r) := by
                have h1 := HR6.out.owns.lt
                have h2 := HR6.out.lt
                rcases hoy with e | e
                · rw [e]; exact HNB.out
                · rw [e]
                  exact ⟨fun e2 => by have := Option.some.inj e2; omega, fun e2 => by have := Option.some.inj e2; omega⟩
              clear hao hsz7 hkp hoy HP6 HR6 HF6 HV HLT HNB HA2 HR2 HRA HAA HNS HDE2 HIM HDN
              go_wp2_with fail
              go_roundw
              case rel => exact ⟨_, _, _, _, _, rfl, HR7.out, HA7.out, HV7.out, HL7.out, HN7.out⟩
              case measure =>
                rw [HR7.out.left_eq, HR.out.left_eq]
                exact HK.out.2
end PartIpK
end Go.Proofs.Ytlnmbahakdmkgaa
