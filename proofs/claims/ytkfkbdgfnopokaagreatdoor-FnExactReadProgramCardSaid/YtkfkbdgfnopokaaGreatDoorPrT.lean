/- The specification's ReadProgram. -/
import Derived.Test.YtkfkbdgfnopokaaGreatDoorZax
import Derived.Test.YtkfkbdgfnopokaaGreatDoorZav
import Derived.Test.YtkfkbdgfnopokaaGreatDoorZaf
import Derived.Test.YtkfkbdgfnopokaaGreatDoorPrV
namespace Go.Proofs.YtkfkbdgfnopokaaGreatDoor
open Go.RowKit
theorem RRow.push {ops : Array Oper} {rest : List Oper} {o : Oper} {a : Act} {Q : Exit → Act → World → Prop} {B : Nat} {w : World} {v : Value} {ts : List Pg.Rl}
  (hown : RRow B w v ts) (hgd : o.guard = none) (s x : Operand)
  (ho : o.op = .call { callee := .builtin .append, args := #[s, x], argTypes := #[23, 23] })
  (hs : a.eval s = v) (t : Pg.Rl) (c1 c2 c3 : Value) (hc : rlc t = [c1, c2, c3]) (H : Nat) (hH : w.heap.size = H) (hx : a.eval x = .slice (some ⟨H, 0, none⟩) 1 1)
  (hlen : ts.length < 1000000) (hB : B ≤ w.heap.size)
  (h : ∀ q cap w', RRow B w' (.slice (some ⟨q, 0, none⟩) (ts.length + 1) cap) (ts ++ [t]) → (v.ownBlock = some q ∨ w.heap.size ≤ q) → q < w'.heap.size → w.heap.size ≤ w'.heap.size → Env w w' → (∀ k, k < w.heap.size → v.ownBlock ≠ some k → w'.heap[k]? = w.heap[k]?) →
   wpList Tryz.prog ops Q rest (a.put o.dst (.slice (some ⟨q, 0, none⟩) (ts.length + 1) cap)) w') :
  wpList Tryz.prog ops Q (o :: rest) a (w.alloc (.cells #[c1, c2, c3] 48)) := by
 subst hH
 obtain ⟨i0, hi, hz0, hz1, hz2⟩ := info_parts infoRl
 have hc1 : c1 = .int .i64 t.when ∧ c2 = .int .i64 t.cond ∧ c3 = .int .i64 t.act := by
  unfold rlc at hc
  simp only [List.cons.injEq] at hc
  exact ⟨hc.1.symm, hc.2.1.symm, hc.2.2.1.symm⟩
 refine wpList_append_lies _ hgd s x 23 ho B 48 i0 (.agg #[.int .i64 0, .int .i64 0, .int .i64 0]) 3 24 Tryz.underlying23 hi hz0 hz1 hz2 rfl (by decide) v ts.length (ts.flatMap rlc) hs (World.ownsRow.alloc hown _) ⟨w.heap.size, 0, none⟩ 1 1 [c1, c2, c3] hx rfl
  (World.news_of_block (cs := #[c1, c2, c3]) (t := 48) (fr := (0, 0)) (heap_alloc_new w _)) ?_ (by omega) ?_ ?_ ?_ (w.heap.size + 1) (by simp) ?_
 ·intro u hu
  simp at hu
  rcases hu with rfl | rfl | rfl
  ·rw [hc1.1]; rfl
  ·rw [hc1.2.1]; rfl
  ·rw [hc1.2.2]; rfl
 ·unfold maxLen; omega
 ·omega
 ·simp; omega
 ·intro g cap w' h2 h3 h4 h5
  have hb0 : Below w.heap.size w (w.alloc (.cells #[c1, c2, c3] 48)) := (Below.refl _ w).alloc (Nat.le_refl _) _
  have hs3 := h3.size
  simp at hs3
  have hb3 : Below B w w' := (hb0.mono hB).grown h3 (by simp; omega) (fun k hk => (World.ownsRow.lt hown k hk).1)
  refine h g cap w' ?_ (h4.imp id (fun e => by omega)) h5 (by omega) ⟨hb3.os, hb3.tape, hb3.output⟩ ?_
  ·unfold RRow
   rw [← hc] at h2
   simpa using h2
  ·intro k hk hne
   rw [h3.block k (by simp; omega) (fun e => hne e.symm)]
   exact hb0.block k hk
def RdAns (w' : World) (R : Option (List Pi × List Pg.Rl)) (e : Ending) : Prop :=
 match R with
 | none => e = .returned (.tuple #[.agg #[.slice none 0 0, .slice none 0 0], .bool false])
 | some (ps, rs) => ∃ v rv, e = .returned (.tuple #[.agg #[v, rv], .bool true]) ∧ PcsAt w' v ps ∧ RlsAt w' rv rs
theorem pcells2 {w : World} {g : Nat} {x y : Value} {t : TypeId} (h : w.heap[g]? = some (.cells #[x, y] t (0, 0))) :
  w.cell? ⟨g, 0, none⟩ = some x ∧ w.cell? ⟨g, 1, none⟩ = some y ∧ w.frozen? ⟨g, 0, none⟩ = false ∧ w.frozen? ⟨g, 1, none⟩ = false := by
 refine ⟨?_, ?_, ?_, ?_⟩ <;> simp [World.cell?, World.frozen?, h]
theorem cells3 {w : World} {g : Nat} {x y z : Value} {t : TypeId} (h : w.heap[g]? = some (.cells #[x, y, z] t (0, 0))) :
  w.cell? ⟨g, 0, none⟩ = some x ∧ w.cell? ⟨g, 1, none⟩ = some y ∧ w.cell? ⟨g, 2, none⟩ = some z ∧ w.frozen? ⟨g, 0, none⟩ = false ∧ w.frozen? ⟨g, 1, none⟩ = false ∧ w.frozen? ⟨g, 2, none⟩ = false := by
 refine ⟨?_, ?_, ?_, ?_, ?_, ?_⟩ <;> simp [World.cell?, World.frozen?, h]
theorem stored2 {w : World} {g : Nat} {x y : Value} {t : TypeId} (h : w.heap[g]? = some (.cells #[x, y] t (0, 0))) (u v : Value) : ((w.setCell ⟨g, 0, none⟩ u).setCell ⟨g, 1, none⟩ v).heap[g]? = some (.cells #[u, v] t (0, 0)) := by
 simp [World.setCell, Array.getElem?_modify, h]
set_option maxRecDepth 100000 in
theorem res_prog {fn : Func} {p u : Tmp} (h : fn.results = #[.cell p 25, .tmp u]) (tmps : Array Value) (w : World) (g : Nat) (x y : Value) (hp : tmps.getD p undef = .pointer (some ⟨g, 0, none⟩)) (hg : w.heap[g]? = some (.cells #[x, y] 25 (0, 0))) :
  (results fn tmps).run Tryz.prog w = .ok (.tuple #[.agg #[x, y], tmps.getD u undef]) w := by
 rw [results_cell_tmp h, hp]
 simp only [asAddr, Sem.run_pure, Result.andThen_ok, run_loadVar_row w g 25 25 #[x, y] (0, 0) _ hg Tryz.underlying25 rfl (by kernel_rfl)]
theorem readStart (ts : List Tk.Tok) (w w1 : World) (L : Value) (hrow : TkRow w.heap.size w1 L ts) (hb : Below w.heap.size w w1) :
  At ts (w1.heap.size + 1) w1.heap.size L (Xp (w1.heap.size + 1) (.slice none 0 0)) w (.slice none 0 0) ((w1.alloc (.cells #[L, .int .i64 0, .int .i64 0, .bool false, .slice none 0 0] 45)).alloc (.cells #[.slice none 0 0, .slice none 0 0] 25)) 0 ⟨0, false, []⟩ (.slice none 0 0) := by
 have hb2 := below2 w1 (.cells #[L, .int .i64 0, .int .i64 0, .bool false, .slice none 0 0] 45) (.cells #[.slice none 0 0, .slice none 0 0] 25)
 refine ⟨⟨alloc2_0 w1 _ _, ?_, hrow.at.keep hb2, by simp, fun q e => ?_, Nat.lt_succ_self _, fun x hx => ?_⟩, KB.below _ _ (hb.trans (hb2.mono hb.size))⟩
 ·exact ⟨[], ⟨rfl, .inl ⟨rfl, rfl⟩⟩, rfl, fun i hi => by simp at hi⟩
 ·have := (World.ownsRow.lt hrow q e).2
  exact ⟨by omega, by omega⟩
 ·rcases hx with rfl | hx
  ·exact ⟨Nat.le_refl _, by simp, by simp [Value.ownBlock]⟩
  ·simp [Value.ownBlock] at hx
set_option maxRecDepth 100000 in
set_option maxHeartbeats 4000000 in
theorem specReadProgram (l : List UInt8) (w : World) (hs : l.length ≤ 1048576) :
  Calls Tryz.prog 5 #[.string ⟨l.toArray⟩] w fun e w' => RdAns w' (Pr.read l) e ∧ Below w.heap.size w w' := by
 have C1 : Hid (∀ w : World, Calls Tryz.prog 14 #[.string ⟨l.toArray⟩] w fun e w' => ∃ v, e = .returned (.tuple #[v, .int .i64 ((Tk.tokens l).2 : Int)]) ∧ TkRow w.heap.size w' v (Tk.tokens l).1 ∧ Below w.heap.size w w') := fun w => by
  have := specTokens_any ⟨l.toArray⟩ w (by show l.length ≤ _; exact hs)
  exact this
 obtain ⟨R, hR⟩ : ∃ R, R = Pr.read l := ⟨_, rfl⟩
 rw [← hR]
 obtain ⟨F, hF⟩ : ∃ F, F = (Tk.tokens l).2 := ⟨_, rfl⟩
 obtain ⟨ts, hts⟩ : ∃ ts, ts = (Tk.tokens l).1 := ⟨_, rfl⟩
 have hl : ts.length ≤ 200 := by rw [hts]; exact Tk.tokens_len l
 have hsm : Pr.Tsm ts := by rw [hts]; exact Tk.tokens_sm l
 rw [← hF, ← hts] at C1
 have HRr : Hid (R = if F ≠ 0 then none else Pr.readEnd (Pr.rulesL ts (ts.length + 1) ((Pr.PS.mk 0 false []).ends ts) [])) := by show _ = _; rw [hR, hF, hts]; rfl
 clear hF hts hR
 by_cases h0 : F = 0
 ·obtain ⟨q0, hq0⟩ : ∃ q, q = Pr.rulesL ts (ts.length + 1) ((Pr.PS.mk 0 false []).ends ts) [] := ⟨_, rfl⟩
  have HR : Hid (R = Pr.readEnd q0) := by show _ = _; rw [HRr.out, if_neg (by simp [h0]), hq0]
  have HB0 : Hid (Pr.rulesL ts (ts.length + 1) ((Pr.PS.mk 0 false []).ends ts) [] = q0) := hq0.symm
  have d0 : ((F : Int) != 0) = false := by rw [h0]; rfl
  have HSM : Hid (Pr.Tsm ts) := hsm
  clear hq0 HRr h0 hsm hs
  generalize (⟨l.toArray⟩ : ByteArray) = S at *
  obtain ⟨Wr, hWr⟩ : ∃ Wr, Wr = w.alloc (.cells #[.slice none 0 0, .slice none 0 0] 25) := ⟨_, rfl⟩
  have HWr : Hid (Wr.heap[w.heap.size]? = some (.cells #[.slice none 0 0, .slice none 0 0] 25 (0, 0))) := by rw [hWr]; exact alloc1_0 _ _
  have HWb : Hid (Below w.heap.size w Wr) := by rw [hWr]; exact below1 _ _
  go_enter Tryz.func5, Tryz.ntmps5
  go_wp2_with fail
  rw [← hWr]
  clear hWr
  refine (C1.out _).mono ?_
  rintro e w1 ⟨L, rfl, hrow, b1⟩
  obtain ⟨g, hg⟩ : ∃ g, g = w1.heap.size := ⟨_, rfl⟩
  have hlow : Wr.heap.size ≤ g := by rw [hg]; exact b1.size
  have HA0 : Hid _ := readStart ts Wr w1 L hrow b1
  have HP0 : Hid (((w1.alloc (.cells #[L, .int .i64 0, .int .i64 0, .bool false, .slice none 0 0] 45)).alloc (.cells #[.slice none 0 0, .slice none 0 0] 25)).heap[w1.heap.size + 1]? = some (.cells #[.slice none 0 0, .slice none 0 0] 25 (0, 0))) := alloc2_1 _ _ _
  have C2 : Hid (Step ts (w1.heap.size + 1) w1.heap.size L 15 #[.pointer (some ⟨w1.heap.size, 0, none⟩)] 0 ⟨0, false, []⟩ (.int .i64 (((Pr.PS.mk 0 false []).endsN ts : Nat) : Int)) 0 ((Pr.PS.mk 0 false []).ends ts)) := stEnds hl (Nat.zero_le _)
  obtain ⟨La, Lc, rfl⟩ := hrow.form
  obtain ⟨L, hL⟩ : ∃ L, L = Value.slice La ts.length Lc := ⟨_, rfl⟩
  clear hrow b1 C1
  go_wp2_with fail
  refine (C2.out _ _ _ _ _ HA0.out.here).mono ?_
  rintro e w2 ⟨v2, rfl, a2⟩
  have HA2 : Hid (At ts (g + 1) g (.slice La ts.length Lc) (Xp (g + 1) (.slice none 0 0)) Wr (.slice none 0 0) w2 0 ((Pr.PS.mk 0 false []).ends ts) v2) := by rw [hg]; exact HA0.out.then a2
  have HP2 : Hid (w2.heap[g + 1]? = some (.cells #[.slice none 0 0, .slice none 0 0] 25 (0, 0))) := by
   rw [hg]
   exact (a2.kb.2.2.1 (w1.heap.size + 1) (by simp) (by omega) (by simp [Value.ownBlock])).trans HP0.out
  have HL2 : Hid (Pr.Lm ts 280 ((Pr.PS.mk 0 false []).ends ts)) := by
   have : Pr.Lm ts 280 (Pr.PS.mk 0 false []) := ⟨fun _ => by simp, by simp, by simp, fun p hp => by simp at hp⟩
   exact this.ends
  have HR2 : Hid (RRow (g + 1) w2 (.slice none 0 0) []) := ⟨rfl, .inl ⟨rfl, rfl⟩⟩
  rw [← hg]
  clear a2 HA0 HP0 C2 hg
  generalize (Pr.PS.mk 0 false []).ends ts = s2 at *
  generalize (Pr.PS.mk 0 false []).endsN ts = N2 at *
  clear hL L
  go_wp2_with fail
  go_loopw [] (fun wr => ∃ (st : Pr.PS) (v : Value) (rs : List Pg.Rl) (rv : Value) (f : Nat), Hid (At ts (g + 1) g (.slice La ts.length Lc) (Xp (g + 1) rv) Wr (.slice none 0 0) wr 0 st v) ∧ Hid (wr.heap[g + 1]? = some (.cells #[.slice none 0 0, rv] 25 (0, 0))) ∧ Hid (RRow (g + 1) wr rv rs) ∧ Hid (Pr.rulesL ts f st rs = q0) ∧ Hid (Pr.Lm ts 280 st) ∧ (st.bad = false → ts.length < st.a + f) ∧ rs.length + f ≤ ts.length + 1 ∧ rv.ownBlock ≠ some (g + 1)) (fun wr => leftG g ts.length wr)
  case atStart => exact ⟨s2, v2, [], .slice none 0 0, ts.length + 1, HA2.out, HP2.out, HR2.out, HB0.out, HL2.out, fun _ => by omega, by simp, by simp [Value.ownBlock]⟩
  case round =>
   clear HA2 HP2 HR2 HB0 HL2
   obtain ⟨st, v, rs, rv, f, HAr, HPr, HRr, HB, HLM, hf, hkf, hne3⟩ := hrel
   obtain ⟨c0, c1, c2, c3, c4, -, -, -, -⟩ := cells5 HAr.out.rs.rg
   clear c0 c2
   by_cases hov : st.over ts = true
   ·have HE : Hid (R = Pr.readEnd (st, rs)) := by show _ = _; rw [HR.out, ← HB.out, Pr.rulesL_end f rs hov]
    have HLE : Hid (st.a ≤ 200) := by show _ ≤ _; have := HLM.out.top; omega
    obtain ⟨p0, p1, pf0, pf1⟩ := pcells2 HPr.out
    have hrf : ∃ ra rc, rv = .slice ra rs.length rc := by
     rcases HRr.out.2 with ⟨e, hn⟩ | ⟨gg, cap, cur, e, _⟩
     ·exact ⟨none, 0, by rw [e, hn]⟩
     ·exact ⟨_, cap, e⟩
    obtain ⟨ra, rc, rfl⟩ := hrf
    obtain ⟨va, vc, rfl⟩ := HAr.out.rs.np.form
    have HSZ : Hid (Pr.Lm ts 280 st) := HLM.out
    have hrl : rs.length ≤ 1048576 := by omega
    have HRes : Hid (wr.heap[w.heap.size]? = some (.cells #[.slice none 0 0, .slice none 0 0] 25 (0, 0))) := (HAr.out.kb.2.2.1 w.heap.size (blk_lt HWr.out) (by have := blk_lt HWr.out; omega) (by simp [Value.ownBlock])).trans HWr.out
    have hne : w.heap.size ≠ g + 1 := by have := blk_lt HWr.out; omega
    have HBw : Hid (Below w.heap.size w wr) := by
     have k0 := HAr.out.kb
     refine HWb.out.trans ⟨k0.1.1, k0.1.2.1, k0.1.2.2, k0.2.1, fun k hk => k0.2.2.1 k (Nat.lt_trans hk (blk_lt HWr.out)) (by have := blk_lt HWr.out; omega) (by simp [Value.ownBlock])⟩
    have HA1 : Hid (At ts (g + 1) g (.slice La ts.length Lc) (Xp (g + 1) (.slice ra rs.length rc)) Wr (.slice none 0 0) (wr.setCell ⟨g + 1, 0, none⟩ (.slice va st.out.length vc)) 0 st (.slice va st.out.length vc)) := HAr.out.setX (.inl rfl) (by omega) 0 _
    have HPc : Hid (PcsAt (wr.setCell ⟨g + 1, 0, none⟩ (.slice va st.out.length vc)) (.slice va st.out.length vc) st.out) := HA1.out.rs.np.at
    have HRl : Hid (RlsAt (wr.setCell ⟨g + 1, 0, none⟩ (.slice va st.out.length vc)) (.slice ra rs.length rc) rs) := RRow.at (RRow.keep HRr.out (fun q e => Below.heap_setCell _ _ _ _ (by show q ≠ g + 1; exact fun e2 => hne3 (e2 ▸ e))))
    have HP1 : Hid ((wr.setCell ⟨g + 1, 0, none⟩ (.slice va st.out.length vc)).heap[g + 1]? = some (.cells #[.slice va st.out.length vc, .slice ra rs.length rc] 25 (0, 0))) := by show _ = _; simp [World.setCell, Array.getElem?_modify, HPr.out]
    have HRes1 : Hid ((wr.setCell ⟨g + 1, 0, none⟩ (.slice va st.out.length vc)).heap[w.heap.size]? = some (.cells #[.slice none 0 0, .slice none 0 0] 25 (0, 0))) := (Below.heap_setCell _ _ _ _ (by show w.heap.size ≠ g + 1; exact hne)).trans HRes.out
    have HBw1 : Hid (Below w.heap.size w (wr.setCell ⟨g + 1, 0, none⟩ (.slice va st.out.length vc))) := HBw.out.setCell (by show w.heap.size ≤ g + 1; have := blk_lt HWr.out; omega) _
    obtain ⟨u0, u1, u2, u3, u4, -, -, -, -⟩ := cells5 HA1.out.rs.rg
    clear u0 u1 u2 u4
    obtain ⟨q0', q1', -, -⟩ := pcells2 HP1.out
    obtain ⟨r0', r1', rf0', rf1'⟩ := pcells2 HRes1.out
    have hrne : w.heap.size < g + 1 := by have := blk_lt HWr.out; omega
    clear hf hkf HB HR HAr HPr HRr HLM HRes HBw hne3
    cases hbad : st.bad with
    | true =>
     rw [hbad] at c3 u3
     have HE2 : Hid (R = none) := by show _ = _; rw [HE.out, Pr.readEnd, if_pos (.inl hbad)]
     clear HE hov
     go_wp2
     refine bodyPost_ret (res_prog rfl _ _ w.heap.size _ _ rfl (stored2 HRes1.out _ _)) rfl ⟨?_, tok_below HBw1.out (Nat.le_refl _) _ _⟩
     rw [HE2.out]
     rfl
    | false =>
     rw [hbad] at c3 u3
     have hge : ts.length ≤ st.a := by
      unfold Pr.PS.over at hov
      rw [hbad] at hov
      simpa using hov
     have d1 : decide ((st.a : Int) < (ts.length : Int)) = false := decide_eq_false (by omega)
     have d1n : decide (st.a < ts.length) = false := decide_eq_false (by omega)
     have hout : st.out.length ≤ 1048576 := by have := HSZ.out.len; omega
     have CK : Hid (∀ W, Below (wr.setCell ⟨g + 1, 0, none⟩ (.slice va st.out.length vc)).heap.size (wr.setCell ⟨g + 1, 0, none⟩ (.slice va st.out.length vc)) W → Calls Tryz.prog 20 #[.agg #[.slice va st.out.length vc, .slice ra rs.length rc]] W fun e w' => e = .returned (.bool (Pg.ok st.out rs)) ∧ Below W.heap.size W w') := fun W hb => spProgOk _ _ st.out rs W (HPc.out.keep hb) (HRl.out.keep hb) hout hrl (sm_small HSZ.out.sm)
     have HE2 : Hid (R = if Pg.ok st.out rs = false then none else some (st.out, rs)) := by
      show _ = _
      rw [HE.out, Pr.readEnd]
      cases Pg.ok st.out rs <;> simp [hbad]
     generalize hOK : Pg.ok st.out rs = OK at *
     clear HE hov hge
     cases OK with
     | true =>
      go_wp2_with fail
      refine (CK.out _ (Below.refl _ _)).mono ?_
      rintro e w9 ⟨rfl, b9⟩
      have HP9 : Hid (w9.heap[g + 1]? = some (.cells #[.slice va st.out.length vc, .slice ra rs.length rc] 25 (0, 0))) := (b9.block _ (blk_lt HP1.out)).trans HP1.out
      have HRes9 : Hid (w9.heap[w.heap.size]? = some (.cells #[.slice none 0 0, .slice none 0 0] 25 (0, 0))) := (b9.block _ (blk_lt HRes1.out)).trans HRes1.out
      have HB9 : Hid (Below w.heap.size w w9) := HBw1.out.trans (b9.mono HBw1.out.size)
      have HPc9 : Hid (PcsAt w9 (.slice va st.out.length vc) st.out) := HPc.out.keep b9
      have HRl9 : Hid (RlsAt w9 (.slice ra rs.length rc) rs) := HRl.out.keep b9
      have HT9 : Hid (Two w9 w.heap.size) := ⟨_, _, _, _, _, _, _, HRes9.out⟩
      obtain ⟨s0', s1', -, -⟩ := pcells2 HP9.out
      obtain ⟨t0', t1', tf0', tf1'⟩ := pcells2 HRes9.out
      clear b9 CK q0' q1' r0' r1' rf0' rf1'
      go_wp2
      refine bodyPost_ret (res_prog rfl _ _ w.heap.size _ _ rfl (stored2 HRes9.out _ _)) rfl ⟨?_, tok_below HB9.out (Nat.le_refl _) _ _⟩
      rw [HE2.out]
      exact ⟨_, _, rfl, (HPc9.out.two HT9.out).two HT9.out.set, (HRl9.out.two HT9.out).two HT9.out.set⟩
     | false =>
      go_wp2_with fail
      refine (CK.out _ (Below.refl _ _)).mono ?_
      rintro e w9 ⟨rfl, b9⟩
      have HP9 : Hid (w9.heap[g + 1]? = some (.cells #[.slice va st.out.length vc, .slice ra rs.length rc] 25 (0, 0))) := (b9.block _ (blk_lt HP1.out)).trans HP1.out
      have HRes9 : Hid (w9.heap[w.heap.size]? = some (.cells #[.slice none 0 0, .slice none 0 0] 25 (0, 0))) := (b9.block _ (blk_lt HRes1.out)).trans HRes1.out
      have HB9 : Hid (Below w.heap.size w w9) := HBw1.out.trans (b9.mono HBw1.out.size)
      have HPc9 : Hid (PcsAt w9 (.slice va st.out.length vc) st.out) := HPc.out.keep b9
      have HRl9 : Hid (RlsAt w9 (.slice ra rs.length rc) rs) := HRl.out.keep b9
      have HT9 : Hid (Two w9 w.heap.size) := ⟨_, _, _, _, _, _, _, HRes9.out⟩
      obtain ⟨s0', s1', -, -⟩ := pcells2 HP9.out
      obtain ⟨t0', t1', tf0', tf1'⟩ := pcells2 HRes9.out
      clear b9 CK q0' q1' r0' r1' rf0' rf1'
      go_wp2
      refine bodyPost_ret (res_prog rfl _ _ w.heap.size _ _ rfl (stored2 HRes9.out _ _)) rfl ⟨?_, tok_below HB9.out (Nat.le_refl _) _ _⟩
      rw [HE2.out]
      rfl
   ·obtain ⟨hbad, hlt⟩ := Pr.over_no hov
    rw [hbad] at c3
    have d1 : decide ((st.a : Int) < (ts.length : Int)) = true := decide_eq_true (by omega)
    have d1n : decide (st.a < ts.length) = true := decide_eq_true hlt
    go_wp2_with fail
    obtain ⟨f, rfl⟩ : ∃ f', f = f' + 1 := ⟨f - 1, by have := hf hbad; omega⟩
    have hf := hf hbad
    have hlm0 := HLM.out.zero hbad
    have hrm := Pr.round_lm HSM.out hl hlm0 hlt
    have hhl := Pr.head_lm HSM.out hlm0 hlt
    have HB1 := HB.out
    rw [Pr.rulesL_go f rs hov] at HB1
    have HLE : Hid (leftG g ts.length wr = ts.length + 1 - st.a) := by
     show _ = _
     rw [HAr.out.rs.left, hbad]
     rfl
    obtain ⟨xb, hxb⟩ : ∃ xb, xb = wr.heap.size := ⟨_, rfl⟩
    have hPb := HAr.out.rs.xb (g + 1) (.inl rfl)
    have H1 : Hid (Rb ts g xb (.slice La ts.length Lc) Wr rv rs (wr.alloc (.cells #[.int .i64 2, .int .i64 (-1), .int .i64 0] 48)) st v 2 (-1) 0) := by
     have hbw : Below wr.heap.size wr (wr.alloc (.cells #[.int .i64 2, .int .i64 (-1), .int .i64 0] 48)) := below1 _ _
     refine ⟨by rw [hxb]; exact HAr.out.add _, (hbw.block _ hPb.2.1).trans HPr.out, by rw [hxb]; exact alloc1_0 _ _, RRow.keep HRr.out (fun q e => hbw.block q (World.ownsRow.lt HRr.out q e).2), hlow, by rw [hxb]; omega, fun e => ?_, hne3⟩
     have := (World.ownsRow.lt HRr.out xb e).2
     omega
    have W1 : Hid (Step ts (g + 1) g (.slice La ts.length Lc) 16 #[.pointer (some ⟨g, 0, none⟩), .string ⟨#[66, 69, 71, 73, 78]⟩] 0 st (.bool (st.is ts 1 [66, 69, 71, 73, 78])) 0 (if st.is ts 1 [66, 69, 71, 73, 78] = true then st.go else st)) := stWord [66, 69, 71, 73, 78] hl hlm0.top
    have W2 : Hid (Step ts (g + 1) g (.slice La ts.length Lc) 16 #[.pointer (some ⟨g, 0, none⟩), .string ⟨#[69, 78, 68]⟩] 0 st (.bool (st.is ts 1 [69, 78, 68])) 0 (if st.is ts 1 [69, 78, 68] = true then st.go else st)) := stWord [69, 78, 68] hl hlm0.top
    have W3 : Hid (Step ts (g + 1) g (.slice La ts.length Lc) 17 #[.pointer (some ⟨g, 0, none⟩), .int .i64 5, .string ⟨#[123]⟩] 0 st (.bool (st.is ts 5 [123])) 0 st) := stIs 5 [123] hl hlm0.top
    have CE : Hid (Step ts (g + 1) g (.slice La ts.length Lc) 18 #[.pointer (some ⟨g, 0, none⟩)] 0 st (.int .i64 ((Pr.SE ts 30).2 st).2) 0 ((Pr.SE ts 30).2 st).1) := exprTop hl HSM.out st (hlm0.up (by omega)) (by omega)
    clear HAr HPr HRr HB HLM hPb c1 c3 c4 d1 d1n hov
    rw [← hxb]
    clear hxb
    cases hV1 : st.is ts 1 [66, 69, 71, 73, 78] with
    | true =>
     rw [hV1] at W1
     have hhd : Pr.ruleHead ts st = (st.go, 1, (-1)) := by rw [Pr.ruleHead, if_pos hV1]
     rw [hhd] at HB1 hrm hhl
     have CB : Hid (Step ts (g + 1) g (.slice La ts.length Lc) 19 #[.pointer (some ⟨g, 0, none⟩)] 0 st.go (.int .i64 (Pr.block ts (Pr.T ts 30) st.go).2) 0 (Pr.block ts (Pr.T ts 30) st.go).1) := blockTop hl HSM.out (hhl.1.up (by omega))
     have hb7 := (Pr.block_lm (k := 185) (Pr.fnT HSM.out hl 30) (by omega) hl (hhl.1.up (by omega))).1
     have CN : Hid (Step ts (g + 1) g (.slice La ts.length Lc) 15 #[.pointer (some ⟨g, 0, none⟩)] 0 (Pr.block ts (Pr.T ts 30) st.go).1 (.int .i64 (((Pr.block ts (Pr.T ts 30) st.go).1.endsN ts : Nat) : Int)) 0 ((Pr.block ts (Pr.T ts 30) st.go).1.ends ts)) := stEnds hl hb7.top
     have HB2 : Hid (Pr.rulesL ts f ((Pr.block ts (Pr.T ts 30) st.go).1.ends ts) (rs ++ [⟨1, (-1), (Pr.block ts (Pr.T ts 30) st.go).2⟩]) = q0) := HB1
     have HLN : Hid (Pr.Lm ts 280 ((Pr.block ts (Pr.T ts 30) st.go).1.ends ts)) := hrm.1
     have HPG : Hid (((Pr.block ts (Pr.T ts 30) st.go).1.ends ts).bad = false → st.a < ((Pr.block ts (Pr.T ts 30) st.go).1.ends ts).a) := hrm.2
     generalize (Pr.block ts (Pr.T ts 30) st.go).1.ends ts = s10 at *
     generalize (Pr.block ts (Pr.T ts 30) st.go).1.endsN ts = N10 at *
     generalize (Pr.block ts (Pr.T ts 30) st.go).1 = s7 at *
     generalize (Pr.block ts (Pr.T ts 30) st.go).2 = k7 at *
     clear HB1 hrm hhl hhd hb7
     clear hV1 W2 W3 CE
     refine (W1.out _ _ _ _ _ H1.out.at'.here).mono ?_
     rintro e w2 ⟨v2, rfl, a2⟩
     have H2 : Hid (Rb ts g xb (.slice La ts.length Lc) Wr rv rs w2 st.go v2 2 (-1) 0) := H1.out.step a2
     clear a2 W1
     obtain ⟨x0, x1, x2, xf0, xf1, xf2⟩ := cells3 H2.out.xc
     have H3 : Hid (Rb ts g xb (.slice La ts.length Lc) Wr rv rs (w2.setCell ⟨xb, 0, none⟩ (.int .i64 1)) st.go v2 1 (-1) 0) := H2.out.set0 1
     go_wp2_with fail
     refine (CB.out _ _ _ _ _ H3.out.at'.here).mono ?_
     rintro e w7 ⟨v7, rfl, a7⟩
     have H7 : Hid (Rb ts g xb (.slice La ts.length Lc) Wr rv rs w7 s7 v7 1 (-1) 0) := H3.out.step a7
     clear a7 CB
     obtain ⟨x0, x1, x2, xf0, xf1, xf2⟩ := cells3 H7.out.xc
     have H8 : Hid (Rb ts g xb (.slice La ts.length Lc) Wr rv rs (w7.setCell ⟨xb, 2, none⟩ (.int .i64 k7)) s7 v7 1 (-1) k7) := H7.out.set2 k7
     obtain ⟨y0, y1, y2, -, -, -⟩ := cells3 H8.out.xc
     obtain ⟨p0, p1, pf0, pf1⟩ := pcells2 H8.out.pb
     have hs8 := H8.out.at'.rs.sz
     go_wp2_with (at_builtin; go_must (refine H8.out.rr.push rfl _ _ rfl rfl ⟨1, (-1), k7⟩ _ _ _ rfl w7.heap.size (by simp [World.setCell]) rfl ?hl ?hb ?_))
     case hl => omega
     case hb => exact hs8
     intro q9 cap9 w9 hrow hq hq2 hsz hen hblk
     obtain ⟨m1, m2, m3, m4, m5⟩ := H8.out.more hrow (by simpa [World.setCell] using hq) hq2 (by simpa [World.setCell] using hsz) hen (fun k hk hne => hblk k (by simpa [World.setCell] using hk) hne)
     obtain ⟨-, z1, -, zf1⟩ := pcells2 m5
     have HM1 : Hid (At ts (g + 1) g (.slice La ts.length Lc) (Xp (g + 1) (.slice (some ⟨q9, 0, none⟩) (rs.length + 1) cap9)) Wr (.slice none 0 0) (w9.setCell ⟨g + 1, 1, none⟩ (.slice (some ⟨q9, 0, none⟩) (rs.length + 1) cap9)) 0 s7 v7) := m1
     have HM2 : Hid _ := m2
     have HM3 : Hid (RRow (g + 1) (w9.setCell ⟨g + 1, 1, none⟩ (.slice (some ⟨q9, 0, none⟩) (rs.length + 1) cap9)) (.slice (some ⟨q9, 0, none⟩) (rs.length + 1) cap9) (rs ++ [⟨1, (-1), k7⟩])) := m3
     clear m1 m2 m3 m5 hrow hq hq2 hsz hen hblk x0 x1 x2 xf0 xf1 xf2 y0 y1 y2 p0 p1 pf0 pf1 H7 H8 hs8
     go_wp2_with fail
     refine (CN.out _ _ _ _ _ HM1.out.here).mono ?_
     rintro e w10 ⟨v10, rfl, a10⟩
     have kept : ∀ x, Xp (g + 1) (.slice (some ⟨q9, 0, none⟩) (rs.length + 1) cap9) x → w10.heap[x]? = (w9.setCell ⟨g + 1, 1, none⟩ (.slice (some ⟨q9, 0, none⟩) (rs.length + 1) cap9)).heap[x]? := fun x hx => by
      have := HM1.out.rs.xb x hx
      exact a10.kb.2.2.1 x this.2.1 (by have := this.1; omega) this.2.2
     have HN1 : Hid (At ts (g + 1) g (.slice La ts.length Lc) (Xp (g + 1) (.slice (some ⟨q9, 0, none⟩) (rs.length + 1) cap9)) Wr (.slice none 0 0) w10 0 s10 v10) := HM1.out.then a10
     have HN2 : Hid (w10.heap[g + 1]? = some (.cells #[.slice none 0 0, .slice (some ⟨q9, 0, none⟩) (rs.length + 1) cap9] 25 (0, 0))) := (kept _ (.inl rfl)).trans HM2.out
     have HN3 : Hid (RRow (g + 1) w10 (.slice (some ⟨q9, 0, none⟩) (rs.length + 1) cap9) (rs ++ [⟨1, (-1), k7⟩])) := RRow.keep HM3.out (fun q e => kept q (.inr e))
     clear kept a10 HM1 HM2 HM3 CN
     go_wp2
     go_roundw
     case rel => exact ⟨s10, v10, rs ++ [(⟨1, (-1), k7⟩ : Pg.Rl)], .slice (some ⟨q9, 0, none⟩) (rs.length + 1) cap9, f, HN1.out, HN2.out, HN3.out, HB2.out, HLN.out, fun h => by have := HPG.out h; omega, by simp; omega, m4⟩
     case measure =>
      rw [HLE.out, HN1.out.rs.left]
      split
      ·omega
      ·rename_i hb; have := HPG.out (by simpa using hb); omega
    | false =>
    rw [hV1] at W1
    cases hV2 : st.is ts 1 [69, 78, 68] with
    | true =>
     rw [hV2] at W2
     have hhd : Pr.ruleHead ts st = (st.go, 3, (-1)) := by rw [Pr.ruleHead, if_neg (by simp [hV1]), if_pos hV2]
     rw [hhd] at HB1 hrm hhl
     have CB : Hid (Step ts (g + 1) g (.slice La ts.length Lc) 19 #[.pointer (some ⟨g, 0, none⟩)] 0 st.go (.int .i64 (Pr.block ts (Pr.T ts 30) st.go).2) 0 (Pr.block ts (Pr.T ts 30) st.go).1) := blockTop hl HSM.out (hhl.1.up (by omega))
     have hb7 := (Pr.block_lm (k := 185) (Pr.fnT HSM.out hl 30) (by omega) hl (hhl.1.up (by omega))).1
     have CN : Hid (Step ts (g + 1) g (.slice La ts.length Lc) 15 #[.pointer (some ⟨g, 0, none⟩)] 0 (Pr.block ts (Pr.T ts 30) st.go).1 (.int .i64 (((Pr.block ts (Pr.T ts 30) st.go).1.endsN ts : Nat) : Int)) 0 ((Pr.block ts (Pr.T ts 30) st.go).1.ends ts)) := stEnds hl hb7.top
     have HB2 : Hid (Pr.rulesL ts f ((Pr.block ts (Pr.T ts 30) st.go).1.ends ts) (rs ++ [⟨3, (-1), (Pr.block ts (Pr.T ts 30) st.go).2⟩]) = q0) := HB1
     have HLN : Hid (Pr.Lm ts 280 ((Pr.block ts (Pr.T ts 30) st.go).1.ends ts)) := hrm.1
     have HPG : Hid (((Pr.block ts (Pr.T ts 30) st.go).1.ends ts).bad = false → st.a < ((Pr.block ts (Pr.T ts 30) st.go).1.ends ts).a) := hrm.2
     generalize (Pr.block ts (Pr.T ts 30) st.go).1.ends ts = s10 at *
     generalize (Pr.block ts (Pr.T ts 30) st.go).1.endsN ts = N10 at *
     generalize (Pr.block ts (Pr.T ts 30) st.go).1 = s7 at *
     generalize (Pr.block ts (Pr.T ts 30) st.go).2 = k7 at *
     clear HB1 hrm hhl hhd hb7
     clear hV1 hV2 W3 CE
     refine (W1.out _ _ _ _ _ H1.out.at'.here).mono ?_
     rintro e w2 ⟨v2, rfl, a2⟩
     have H2 : Hid (Rb ts g xb (.slice La ts.length Lc) Wr rv rs w2 st v2 2 (-1) 0) := H1.out.step a2
     clear a2 W1
     go_wp2_with fail
     refine (W2.out _ _ _ _ _ H2.out.at'.here).mono ?_
     rintro e w4 ⟨v4, rfl, a4⟩
     have H4 : Hid (Rb ts g xb (.slice La ts.length Lc) Wr rv rs w4 st.go v4 2 (-1) 0) := H2.out.step a4
     clear a4 W2
     obtain ⟨x0, x1, x2, xf0, xf1, xf2⟩ := cells3 H4.out.xc
     have H3 : Hid (Rb ts g xb (.slice La ts.length Lc) Wr rv rs (w4.setCell ⟨xb, 0, none⟩ (.int .i64 3)) st.go v4 3 (-1) 0) := H4.out.set0 3
     go_wp2_with fail
     refine (CB.out _ _ _ _ _ H3.out.at'.here).mono ?_
     rintro e w7 ⟨v7, rfl, a7⟩
     have H7 : Hid (Rb ts g xb (.slice La ts.length Lc) Wr rv rs w7 s7 v7 3 (-1) 0) := H3.out.step a7
     clear a7 CB
     obtain ⟨x0, x1, x2, xf0, xf1, xf2⟩ := cells3 H7.out.xc
     have H8 : Hid (Rb ts g xb (.slice La ts.length Lc) Wr rv rs (w7.setCell ⟨xb, 2, none⟩ (.int .i64 k7)) s7 v7 3 (-1) k7) := H7.out.set2 k7
     obtain ⟨y0, y1, y2, -, -, -⟩ := cells3 H8.out.xc
     obtain ⟨p0, p1, pf0, pf1⟩ := pcells2 H8.out.pb
     have hs8 := H8.out.at'.rs.sz
     go_wp2_with (at_builtin; go_must (refine H8.out.rr.push rfl _ _ rfl rfl ⟨3, (-1), k7⟩ _ _ _ rfl w7.heap.size (by simp [World.setCell]) rfl ?hl ?hb ?_))
     case hl => omega
     case hb => exact hs8
     intro q9 cap9 w9 hrow hq hq2 hsz hen hblk
     obtain ⟨m1, m2, m3, m4, m5⟩ := H8.out.more hrow (by simpa [World.setCell] using hq) hq2 (by simpa [World.setCell] using hsz) hen (fun k hk hne => hblk k (by simpa [World.setCell] using hk) hne)
     obtain ⟨-, z1, -, zf1⟩ := pcells2 m5
     have HM1 : Hid (At ts (g + 1) g (.slice La ts.length Lc) (Xp (g + 1) (.slice (some ⟨q9, 0, none⟩) (rs.length + 1) cap9)) Wr (.slice none 0 0) (w9.setCell ⟨g + 1, 1, none⟩ (.slice (some ⟨q9, 0, none⟩) (rs.length + 1) cap9)) 0 s7 v7) := m1
     have HM2 : Hid _ := m2
     have HM3 : Hid (RRow (g + 1) (w9.setCell ⟨g + 1, 1, none⟩ (.slice (some ⟨q9, 0, none⟩) (rs.length + 1) cap9)) (.slice (some ⟨q9, 0, none⟩) (rs.length + 1) cap9) (rs ++ [⟨3, (-1), k7⟩])) := m3
     clear m1 m2 m3 m5 hrow hq hq2 hsz hen hblk x0 x1 x2 xf0 xf1 xf2 y0 y1 y2 p0 p1 pf0 pf1 H7 H8 hs8
     go_wp2_with fail
     refine (CN.out _ _ _ _ _ HM1.out.here).mono ?_
     rintro e w10 ⟨v10, rfl, a10⟩
     have kept : ∀ x, Xp (g + 1) (.slice (some ⟨q9, 0, none⟩) (rs.length + 1) cap9) x → w10.heap[x]? = (w9.setCell ⟨g + 1, 1, none⟩ (.slice (some ⟨q9, 0, none⟩) (rs.length + 1) cap9)).heap[x]? := fun x hx => by
      have := HM1.out.rs.xb x hx
      exact a10.kb.2.2.1 x this.2.1 (by have := this.1; omega) this.2.2
     have HN1 : Hid (At ts (g + 1) g (.slice La ts.length Lc) (Xp (g + 1) (.slice (some ⟨q9, 0, none⟩) (rs.length + 1) cap9)) Wr (.slice none 0 0) w10 0 s10 v10) := HM1.out.then a10
     have HN2 : Hid (w10.heap[g + 1]? = some (.cells #[.slice none 0 0, .slice (some ⟨q9, 0, none⟩) (rs.length + 1) cap9] 25 (0, 0))) := (kept _ (.inl rfl)).trans HM2.out
     have HN3 : Hid (RRow (g + 1) w10 (.slice (some ⟨q9, 0, none⟩) (rs.length + 1) cap9) (rs ++ [⟨3, (-1), k7⟩])) := RRow.keep HM3.out (fun q e => kept q (.inr e))
     clear kept a10 HM1 HM2 HM3 CN
     go_wp2
     go_roundw
     case rel => exact ⟨s10, v10, rs ++ [(⟨3, (-1), k7⟩ : Pg.Rl)], .slice (some ⟨q9, 0, none⟩) (rs.length + 1) cap9, f, HN1.out, HN2.out, HN3.out, HB2.out, HLN.out, fun h => by have := HPG.out h; omega, by simp; omega, m4⟩
     case measure =>
      rw [HLE.out, HN1.out.rs.left]
      split
      ·omega
      ·rename_i hb; have := HPG.out (by simpa using hb); omega
    | false =>
    rw [hV2] at W2
    cases hV3 : st.is ts 5 [123] with
    | true =>
     rw [hV3] at W3
     have hhd : Pr.ruleHead ts st = (st, 2, (-1)) := by rw [Pr.ruleHead, if_neg (by simp [hV1]), if_neg (by simp [hV2]), if_pos hV3]
     rw [hhd] at HB1 hrm hhl
     have CB : Hid (Step ts (g + 1) g (.slice La ts.length Lc) 19 #[.pointer (some ⟨g, 0, none⟩)] 0 st (.int .i64 (Pr.block ts (Pr.T ts 30) st).2) 0 (Pr.block ts (Pr.T ts 30) st).1) := blockTop hl HSM.out (hhl.1.up (by omega))
     have hb7 := (Pr.block_lm (k := 185) (Pr.fnT HSM.out hl 30) (by omega) hl (hhl.1.up (by omega))).1
     have CN : Hid (Step ts (g + 1) g (.slice La ts.length Lc) 15 #[.pointer (some ⟨g, 0, none⟩)] 0 (Pr.block ts (Pr.T ts 30) st).1 (.int .i64 (((Pr.block ts (Pr.T ts 30) st).1.endsN ts : Nat) : Int)) 0 ((Pr.block ts (Pr.T ts 30) st).1.ends ts)) := stEnds hl hb7.top
     have HB2 : Hid (Pr.rulesL ts f ((Pr.block ts (Pr.T ts 30) st).1.ends ts) (rs ++ [⟨2, (-1), (Pr.block ts (Pr.T ts 30) st).2⟩]) = q0) := HB1
     have HLN : Hid (Pr.Lm ts 280 ((Pr.block ts (Pr.T ts 30) st).1.ends ts)) := hrm.1
     have HPG : Hid (((Pr.block ts (Pr.T ts 30) st).1.ends ts).bad = false → st.a < ((Pr.block ts (Pr.T ts 30) st).1.ends ts).a) := hrm.2
     generalize (Pr.block ts (Pr.T ts 30) st).1.ends ts = s10 at *
     generalize (Pr.block ts (Pr.T ts 30) st).1.endsN ts = N10 at *
     generalize (Pr.block ts (Pr.T ts 30) st).1 = s7 at *
     generalize (Pr.block ts (Pr.T ts 30) st).2 = k7 at *
     clear HB1 hrm hhl hhd hb7
     clear hV1 hV2 hV3 CE
     refine (W1.out _ _ _ _ _ H1.out.at'.here).mono ?_
     rintro e w2 ⟨v2, rfl, a2⟩
     have H2 : Hid (Rb ts g xb (.slice La ts.length Lc) Wr rv rs w2 st v2 2 (-1) 0) := H1.out.step a2
     clear a2 W1
     go_wp2_with fail
     refine (W2.out _ _ _ _ _ H2.out.at'.here).mono ?_
     rintro e w4 ⟨v4, rfl, a4⟩
     have H4 : Hid (Rb ts g xb (.slice La ts.length Lc) Wr rv rs w4 st v4 2 (-1) 0) := H2.out.step a4
     clear a4 W2
     go_wp2_with fail
     refine (W3.out _ _ _ _ _ H4.out.at'.here).mono ?_
     rintro e w3 ⟨v3, rfl, a3⟩
     have H3 : Hid (Rb ts g xb (.slice La ts.length Lc) Wr rv rs w3 st v3 2 (-1) 0) := H4.out.step a3
     clear a3 W3
     go_wp2_with fail
     refine (CB.out _ _ _ _ _ H3.out.at'.here).mono ?_
     rintro e w7 ⟨v7, rfl, a7⟩
     have H7 : Hid (Rb ts g xb (.slice La ts.length Lc) Wr rv rs w7 s7 v7 2 (-1) 0) := H3.out.step a7
     clear a7 CB
     obtain ⟨x0, x1, x2, xf0, xf1, xf2⟩ := cells3 H7.out.xc
     have H8 : Hid (Rb ts g xb (.slice La ts.length Lc) Wr rv rs (w7.setCell ⟨xb, 2, none⟩ (.int .i64 k7)) s7 v7 2 (-1) k7) := H7.out.set2 k7
     obtain ⟨y0, y1, y2, -, -, -⟩ := cells3 H8.out.xc
     obtain ⟨p0, p1, pf0, pf1⟩ := pcells2 H8.out.pb
     have hs8 := H8.out.at'.rs.sz
     go_wp2_with (at_builtin; go_must (refine H8.out.rr.push rfl _ _ rfl rfl ⟨2, (-1), k7⟩ _ _ _ rfl w7.heap.size (by simp [World.setCell]) rfl ?hl ?hb ?_))
     case hl => omega
     case hb => exact hs8
     intro q9 cap9 w9 hrow hq hq2 hsz hen hblk
     obtain ⟨m1, m2, m3, m4, m5⟩ := H8.out.more hrow (by simpa [World.setCell] using hq) hq2 (by simpa [World.setCell] using hsz) hen (fun k hk hne => hblk k (by simpa [World.setCell] using hk) hne)
     obtain ⟨-, z1, -, zf1⟩ := pcells2 m5
     have HM1 : Hid (At ts (g + 1) g (.slice La ts.length Lc) (Xp (g + 1) (.slice (some ⟨q9, 0, none⟩) (rs.length + 1) cap9)) Wr (.slice none 0 0) (w9.setCell ⟨g + 1, 1, none⟩ (.slice (some ⟨q9, 0, none⟩) (rs.length + 1) cap9)) 0 s7 v7) := m1
     have HM2 : Hid _ := m2
     have HM3 : Hid (RRow (g + 1) (w9.setCell ⟨g + 1, 1, none⟩ (.slice (some ⟨q9, 0, none⟩) (rs.length + 1) cap9)) (.slice (some ⟨q9, 0, none⟩) (rs.length + 1) cap9) (rs ++ [⟨2, (-1), k7⟩])) := m3
     clear m1 m2 m3 m5 hrow hq hq2 hsz hen hblk x0 x1 x2 xf0 xf1 xf2 y0 y1 y2 p0 p1 pf0 pf1 H7 H8 hs8
     go_wp2_with fail
     refine (CN.out _ _ _ _ _ HM1.out.here).mono ?_
     rintro e w10 ⟨v10, rfl, a10⟩
     have kept : ∀ x, Xp (g + 1) (.slice (some ⟨q9, 0, none⟩) (rs.length + 1) cap9) x → w10.heap[x]? = (w9.setCell ⟨g + 1, 1, none⟩ (.slice (some ⟨q9, 0, none⟩) (rs.length + 1) cap9)).heap[x]? := fun x hx => by
      have := HM1.out.rs.xb x hx
      exact a10.kb.2.2.1 x this.2.1 (by have := this.1; omega) this.2.2
     have HN1 : Hid (At ts (g + 1) g (.slice La ts.length Lc) (Xp (g + 1) (.slice (some ⟨q9, 0, none⟩) (rs.length + 1) cap9)) Wr (.slice none 0 0) w10 0 s10 v10) := HM1.out.then a10
     have HN2 : Hid (w10.heap[g + 1]? = some (.cells #[.slice none 0 0, .slice (some ⟨q9, 0, none⟩) (rs.length + 1) cap9] 25 (0, 0))) := (kept _ (.inl rfl)).trans HM2.out
     have HN3 : Hid (RRow (g + 1) w10 (.slice (some ⟨q9, 0, none⟩) (rs.length + 1) cap9) (rs ++ [⟨2, (-1), k7⟩])) := RRow.keep HM3.out (fun q e => kept q (.inr e))
     clear kept a10 HM1 HM2 HM3 CN
     go_wp2
     go_roundw
     case rel => exact ⟨s10, v10, rs ++ [(⟨2, (-1), k7⟩ : Pg.Rl)], .slice (some ⟨q9, 0, none⟩) (rs.length + 1) cap9, f, HN1.out, HN2.out, HN3.out, HB2.out, HLN.out, fun h => by have := HPG.out h; omega, by simp; omega, m4⟩
     case measure =>
      rw [HLE.out, HN1.out.rs.left]
      split
      ·omega
      ·rename_i hb; have := HPG.out (by simpa using hb); omega
    | false =>
     rw [hV3] at W3
     obtain ⟨s5, hs5⟩ : ∃ s, s = ((Pr.SE ts 30).2 st).1 := ⟨_, rfl⟩
     obtain ⟨k5, hk5⟩ : ∃ k, k = ((Pr.SE ts 30).2 st).2 := ⟨_, rfl⟩
     rw [← hs5, ← hk5] at CE
     have hhd : Pr.ruleHead ts st = (s5, 2, k5) := by rw [Pr.ruleHead, if_neg (by simp [hV1]), if_neg (by simp [hV2]), if_neg (by simp [hV3]), ← hs5, ← hk5]
     rw [hhd] at HB1 hrm hhl
     have CB : Hid (Step ts (g + 1) g (.slice La ts.length Lc) 19 #[.pointer (some ⟨g, 0, none⟩)] 0 s5 (.int .i64 (Pr.block ts (Pr.T ts 30) s5).2) 0 (Pr.block ts (Pr.T ts 30) s5).1) := blockTop hl HSM.out (hhl.1.up (by omega))
     have hb7 := (Pr.block_lm (k := 185) (Pr.fnT HSM.out hl 30) (by omega) hl (hhl.1.up (by omega))).1
     have CN : Hid (Step ts (g + 1) g (.slice La ts.length Lc) 15 #[.pointer (some ⟨g, 0, none⟩)] 0 (Pr.block ts (Pr.T ts 30) s5).1 (.int .i64 (((Pr.block ts (Pr.T ts 30) s5).1.endsN ts : Nat) : Int)) 0 ((Pr.block ts (Pr.T ts 30) s5).1.ends ts)) := stEnds hl hb7.top
     have HB2 : Hid (Pr.rulesL ts f ((Pr.block ts (Pr.T ts 30) s5).1.ends ts) (rs ++ [⟨2, k5, (Pr.block ts (Pr.T ts 30) s5).2⟩]) = q0) := HB1
     have HLN : Hid (Pr.Lm ts 280 ((Pr.block ts (Pr.T ts 30) s5).1.ends ts)) := hrm.1
     have HPG : Hid (((Pr.block ts (Pr.T ts 30) s5).1.ends ts).bad = false → st.a < ((Pr.block ts (Pr.T ts 30) s5).1.ends ts).a) := hrm.2
     generalize (Pr.block ts (Pr.T ts 30) s5).1.ends ts = s10 at *
     generalize (Pr.block ts (Pr.T ts 30) s5).1.endsN ts = N10 at *
     generalize (Pr.block ts (Pr.T ts 30) s5).1 = s7 at *
     generalize (Pr.block ts (Pr.T ts 30) s5).2 = k7 at *
     clear HB1 hrm hhl hhd hb7
     clear hV1 hV2 hV3 hs5 hk5
     refine (W1.out _ _ _ _ _ H1.out.at'.here).mono ?_
     rintro e w2 ⟨v2, rfl, a2⟩
     have H2 : Hid (Rb ts g xb (.slice La ts.length Lc) Wr rv rs w2 st v2 2 (-1) 0) := H1.out.step a2
     clear a2 W1
     go_wp2_with fail
     refine (W2.out _ _ _ _ _ H2.out.at'.here).mono ?_
     rintro e w4 ⟨v4, rfl, a4⟩
     have H4 : Hid (Rb ts g xb (.slice La ts.length Lc) Wr rv rs w4 st v4 2 (-1) 0) := H2.out.step a4
     clear a4 W2
     go_wp2_with fail
     refine (W3.out _ _ _ _ _ H4.out.at'.here).mono ?_
     rintro e w5 ⟨v5, rfl, a5⟩
     have H5 : Hid (Rb ts g xb (.slice La ts.length Lc) Wr rv rs w5 st v5 2 (-1) 0) := H4.out.step a5
     clear a5 W3
     go_wp2_with fail
     refine (CE.out _ _ _ _ _ H5.out.at'.here).mono ?_
     rintro e w6 ⟨v6, rfl, a6⟩
     have H6 : Hid (Rb ts g xb (.slice La ts.length Lc) Wr rv rs w6 s5 v6 2 (-1) 0) := H5.out.step a6
     clear a6 CE
     obtain ⟨x0, x1, x2, xf0, xf1, xf2⟩ := cells3 H6.out.xc
     have H3 : Hid (Rb ts g xb (.slice La ts.length Lc) Wr rv rs (w6.setCell ⟨xb, 1, none⟩ (.int .i64 k5)) s5 v6 2 k5 0) := H6.out.set1 k5
     go_wp2_with fail
     refine (CB.out _ _ _ _ _ H3.out.at'.here).mono ?_
     rintro e w7 ⟨v7, rfl, a7⟩
     have H7 : Hid (Rb ts g xb (.slice La ts.length Lc) Wr rv rs w7 s7 v7 2 k5 0) := H3.out.step a7
     clear a7 CB
     obtain ⟨x0, x1, x2, xf0, xf1, xf2⟩ := cells3 H7.out.xc
     have H8 : Hid (Rb ts g xb (.slice La ts.length Lc) Wr rv rs (w7.setCell ⟨xb, 2, none⟩ (.int .i64 k7)) s7 v7 2 k5 k7) := H7.out.set2 k7
     obtain ⟨y0, y1, y2, -, -, -⟩ := cells3 H8.out.xc
     obtain ⟨p0, p1, pf0, pf1⟩ := pcells2 H8.out.pb
     have hs8 := H8.out.at'.rs.sz
     go_wp2_with (at_builtin; go_must (refine H8.out.rr.push rfl _ _ rfl rfl ⟨2, k5, k7⟩ _ _ _ rfl w7.heap.size (by simp [World.setCell]) rfl ?hl ?hb ?_))
     case hl => omega
     case hb => exact hs8
     intro q9 cap9 w9 hrow hq hq2 hsz hen hblk
     obtain ⟨m1, m2, m3, m4, m5⟩ := H8.out.more hrow (by simpa [World.setCell] using hq) hq2 (by simpa [World.setCell] using hsz) hen (fun k hk hne => hblk k (by simpa [World.setCell] using hk) hne)
     obtain ⟨-, z1, -, zf1⟩ := pcells2 m5
     have HM1 : Hid (At ts (g + 1) g (.slice La ts.length Lc) (Xp (g + 1) (.slice (some ⟨q9, 0, none⟩) (rs.length + 1) cap9)) Wr (.slice none 0 0) (w9.setCell ⟨g + 1, 1, none⟩ (.slice (some ⟨q9, 0, none⟩) (rs.length + 1) cap9)) 0 s7 v7) := m1
     have HM2 : Hid _ := m2
     have HM3 : Hid (RRow (g + 1) (w9.setCell ⟨g + 1, 1, none⟩ (.slice (some ⟨q9, 0, none⟩) (rs.length + 1) cap9)) (.slice (some ⟨q9, 0, none⟩) (rs.length + 1) cap9) (rs ++ [⟨2, k5, k7⟩])) := m3
     clear m1 m2 m3 m5 hrow hq hq2 hsz hen hblk x0 x1 x2 xf0 xf1 xf2 y0 y1 y2 p0 p1 pf0 pf1 H7 H8 hs8
     go_wp2_with fail
     refine (CN.out _ _ _ _ _ HM1.out.here).mono ?_
     rintro e w10 ⟨v10, rfl, a10⟩
     have kept : ∀ x, Xp (g + 1) (.slice (some ⟨q9, 0, none⟩) (rs.length + 1) cap9) x → w10.heap[x]? = (w9.setCell ⟨g + 1, 1, none⟩ (.slice (some ⟨q9, 0, none⟩) (rs.length + 1) cap9)).heap[x]? := fun x hx => by
      have := HM1.out.rs.xb x hx
      exact a10.kb.2.2.1 x this.2.1 (by have := this.1; omega) this.2.2
     have HN1 : Hid (At ts (g + 1) g (.slice La ts.length Lc) (Xp (g + 1) (.slice (some ⟨q9, 0, none⟩) (rs.length + 1) cap9)) Wr (.slice none 0 0) w10 0 s10 v10) := HM1.out.then a10
     have HN2 : Hid (w10.heap[g + 1]? = some (.cells #[.slice none 0 0, .slice (some ⟨q9, 0, none⟩) (rs.length + 1) cap9] 25 (0, 0))) := (kept _ (.inl rfl)).trans HM2.out
     have HN3 : Hid (RRow (g + 1) w10 (.slice (some ⟨q9, 0, none⟩) (rs.length + 1) cap9) (rs ++ [⟨2, k5, k7⟩])) := RRow.keep HM3.out (fun q e => kept q (.inr e))
     clear kept a10 HM1 HM2 HM3 CN
     go_wp2
     go_roundw
     case rel => exact ⟨s10, v10, rs ++ [(⟨2, k5, k7⟩ : Pg.Rl)], .slice (some ⟨q9, 0, none⟩) (rs.length + 1) cap9, f, HN1.out, HN2.out, HN3.out, HB2.out, HLN.out, fun h => by have := HPG.out h; omega, by simp; omega, m4⟩
     case measure =>
      rw [HLE.out, HN1.out.rs.left]
      split
      ·omega
      ·rename_i hb; have := HPG.out (by simpa using hb); omega
 ·have d0 : ((F : Int) != 0) = true := by simp; omega
  have HR : Hid (R = none) := by show _ = _; rw [HRr.out, if_pos h0]
  clear HRr
  generalize (⟨l.toArray⟩ : ByteArray) = S at *
  go_enter Tryz.func5, Tryz.ntmps5
  go_wp2_with fail
  refine (C1.out _).mono ?_
  rintro e w1 ⟨L, rfl, hrow, b1⟩
  have r1 := (b1.block w.heap.size (size1 _ _)).trans (alloc1_0 _ _)
  have HB : Hid (Below w.heap.size w w1) := (below1 _ _).trans (b1.mono (Nat.le_of_lt (size1 _ _)))
  have HR1 : Hid _ := r1
  obtain ⟨c0, c1, f0, f1⟩ := pcells2 r1
  obtain ⟨La, Lc, rfl⟩ := hrow.form
  clear hrow b1 C1 r1
  go_wp2
  refine bodyPost_ret (res_prog rfl _ _ w.heap.size _ _ rfl (stored2 HR1.out _ _)) rfl ⟨?_, tok_below HB.out (Nat.le_refl _) _ _⟩
  rw [HR.out]
  rfl
end Go.Proofs.YtkfkbdgfnopokaaGreatDoor
