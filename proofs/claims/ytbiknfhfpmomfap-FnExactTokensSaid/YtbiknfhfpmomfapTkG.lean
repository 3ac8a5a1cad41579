/- The specification of Tokens, at every text. -/
import Derived.Test.YtbiknfhfpmomfapTkF
import Derived.Test.YtbiknfhfpmomfapTkQ
namespace Go.Proofs.Ytbiknfhfpmomfap
open Go.RowKit

/-- One token more. -/
theorem TkRow.push {ops : Array Oper} {rest : List Oper} {o : Oper} {a : Act} {Q : Exit → Act → World → Prop} {B : Nat} {w : World} {v : Value} {ts : List Tk.Tok}
    (hown : TkRow B w v ts) (hgd : o.guard = none) (s x : Operand)
    (ho : o.op = .call { callee := .builtin .append, args := #[s, x], argTypes := #[22, 22] })
    (hs : a.eval s = v) (t : Tk.Tok) (c1 c2 : Value) (hc : tkc t = [c1, c2]) (H : Nat) (hH : w.heap.size = H) (hx : a.eval x = .slice (some ⟨H, 0, none⟩) 1 1)
    (hlen : ts.length < 1000000) (hB : B ≤ w.heap.size)
    (h : ∀ g cap w', TkRow B w' (.slice (some ⟨g, 0, none⟩) (ts.length + 1) cap) (ts ++ [t]) → (v.ownBlock = some g ∨ w.heap.size ≤ g) → g < w'.heap.size → Below B w w' → (∀ k, k < w.heap.size → v.ownBlock ≠ some k → w'.heap[k]? = w.heap[k]?) →
      wpList Try.prog ops Q rest (a.put o.dst (.slice (some ⟨g, 0, none⟩) (ts.length + 1) cap)) w') :
    wpList Try.prog ops Q (o :: rest) a (w.alloc (.cells #[c1, c2] 29)) := by
  subst hH
  obtain ⟨i0, hi, hz0, hz1, hz2⟩ := info_parts infoTk
  have hc1 : c1 = .int .i64 (t.kind : Int) ∧ c2 = .string ⟨t.text.toArray⟩ := by
    unfold tkc at hc
    simp only [List.cons.injEq] at hc
    exact ⟨hc.1.symm, hc.2.1.symm⟩
  refine wpList_append_lies _ hgd s x 22 ho B 29 i0 (.agg #[.int .i64 0, .string ByteArray.empty]) 2 24 Try.underlying22 hi hz0 hz1 hz2 rfl (by decide) v ts.length (ts.flatMap tkc) hs (World.ownsRow.alloc hown _) ⟨w.heap.size, 0, none⟩ 1 1 [c1, c2] hx rfl
    (World.news_of_block (cs := #[c1, c2]) (t := 29) (fr := (0, 0)) (heap_alloc_new w _)) ?_ (by omega) ?_ ?_ ?_ (w.heap.size + 1) (by simp) ?_
  · intro u hu
    simp at hu
    rcases hu with rfl | rfl
    · rw [hc1.1]; rfl
    · rw [hc1.2]; rfl
  · unfold maxLen; omega
  · omega
  · simp; omega
  · intro g cap w' h2 h3 h4 h5
    have hb0 : Below w.heap.size w (w.alloc (.cells #[c1, c2] 29)) := (Below.refl _ w).alloc (Nat.le_refl _) _
    have hs3 := h3.size
    simp at hs3
    refine h g cap w' ?_ (h4.imp id (fun e => by omega)) h5 ?_ ?_
    · unfold TkRow
      rw [← hc] at h2
      simpa using h2
    · exact (hb0.mono hB).grown h3 (by simp; omega) (fun k hk => (World.ownsRow.lt hown k hk).1)
    · intro k hk hne
      rw [h3.block k (by simp; omega) (fun e => hne e.symm)]
      exact hb0.block k hk

theorem TkRow.set {B L : Nat} {w : World} {v : Value} {ts : List Tk.Tok} (h : TkRow B w v ts) (hL : v.ownBlock ≠ some L) (o : Nat) (u : Value) : TkRow B (w.setCell ⟨L, o, none⟩ u) v ts := by
  refine ⟨h.1, ?_⟩
  rcases h.2 with hn | ⟨g2, cap2, cur, rfl, hb2, hc2, rest⟩
  · exact .inl hn
  · refine .inr ⟨g2, cap2, cur, rfl, hb2, ?_, rest⟩
    rw [Below.heap_setCell _ _ _ _ (by
      show g2 ≠ L
      intro e
      exact hL (by simp [Value.ownBlock, e]))]
    exact hc2
/-- What holds at each round: the row of tokens, the last token in its block, and what is still to come. -/
structure TkInv (s : ByteArray) (w : World) (R : List Tk.Tok × Nat) (wr : World) (v : Value) (k : Nat) (last : Tk.Tok) (ts : List Tk.Tok) : Prop where
  row : TkRow w.heap.size wr v ts
  far : v.ownBlock ≠ some (w.heap.size + 1)
  blk : wr.heap[w.heap.size + 1]? = some (.cells #[.int .i64 (last.kind : Int), .string ⟨last.text.toArray⟩] 29 (0, 0))
  bel : Below w.heap.size w wr
  size : w.heap.size + 2 ≤ wr.heap.size
  more : ∃ f, s.size - k < f ∧ Tk.loop s.data.toList f k last ts = R

set_option maxHeartbeats 4000000 in
set_option maxRecDepth 100000 in
theorem specTokens_any (s : ByteArray) (w : World) (hs : s.size ≤ 1048576) :
    Calls Try.prog 4 #[.string s] w fun e w' => ∃ v, e = .returned (.tuple #[v, .int .i64 ((Tk.tokens s.data.toList).2 : Int)]) ∧ TkRow w.heap.size w' v (Tk.tokens s.data.toList).1 ∧ Below w.heap.size w w' := by
  obtain ⟨R, hR⟩ : ∃ R, R = Tk.tokens s.data.toList := ⟨_, rfl⟩
  rw [← hR]
  have hsl : s.data.toList.length = s.size := by simp
  have hsz : s.size < 4294967296 := by omega
  by_cases h600 : 600 < s.size
  · have HR : Hid (R = ([], 601)) := by show _ = _; rw [hR]; unfold Tk.tokens; rw [if_pos (by omega)]
    have d0 : decide ((600 : Int) < (s.size : Int)) = true := decide_eq_true (by omega)
    clear hR hsl h600
    go_enter Try.func4, Try.ntmps4
    go_wp2
    go_ret2
    rw [HR.out]
    exact ⟨_, rfl, TkRow.made w (Nat.le_refl _), (Below.refl _ _).alloc (Nat.le_refl _) _⟩
  · have HR : Hid (Tk.loop s.data.toList (s.size + 1) 0 Tk.no [] = R) := by show _ = _; rw [hR]; unfold Tk.tokens; rw [if_neg (by omega), hsl]
    have HSL : Hid (s.data.toList.length = s.size) := hsl
    have d0 : decide ((600 : Int) < (s.size : Int)) = false := decide_eq_false (by omega)
    have h6 : s.size ≤ 600 := by omega
    clear hR hsl h600
    go_enter Try.func4, Try.ntmps4
    go_wp2
    go_loopw [4, 6, 7, 8] (fun v a t n wr => ∃ (k : Nat) (last : Tk.Tok) (ts : List Tk.Tok), a = .int .i64 (k : Int) ∧ k ≤ s.size ∧ ts.length ≤ 200 ∧ (∃ ad cap, v = .slice ad ts.length cap) ∧ Hid (TkInv s w R wr v k last ts)) (fun _ a _ _ _ => s.size - (intOf a).toNat)
    case atStart =>
      refine ⟨0, Tk.no, [], rfl, by omega, by simp, ⟨_, _, rfl⟩, ⟨(TkRow.made w (Nat.le_refl _)).alloc _, ?_, alloc2_1 _ _ _, below2 _ _ _, by simp, s.size + 1, by omega, HR.out⟩⟩
      simp [Value.ownBlock]
    case round =>
      obtain ⟨k, last, ts, rfl, hk, hts, ⟨ad, cap, rfl⟩, HI⟩ := hrel
      by_cases hlt : k < s.size
      · have hi : (k : Int) < (s.size : Int) := by omega
        have dk : decide ((k : Int) < (s.size : Int)) = true := decide_eq_true hi
        have hg := lst_getD s k hlt
        by_cases hbl : s[k] = 32 ∨ s[k] = 9
        · have HN : Hid (TkInv s w R wr (.slice ad ts.length cap) (k + 1) last ts) := by
            obtain ⟨i1, i2, i3, i4, i5, f, h1, h2⟩ := HI.out
            cases f with
            | zero => omega
            | succ f => exact ⟨i1, i2, i3, i4, i5, f, by omega, by rw [← h2]; exact (Tk.loop_blank (by rw [HSL.out]; exact hlt) (by rw [hg]; exact hbl)).symm⟩
          clear HI hg
          rcases hbl with hb | hb
          · have d1 : ((s[k].toNat : Int) == 32) = true := by rw [hb]; rfl
            clear hb
            go_wp2
            go_roundw
            case rel => exact ⟨k + 1, last, ts, by go_num, by omega, hts, ⟨_, _, rfl⟩, HN.out⟩
            case measure => simp [intOf]; omega
          · have d1 : ((s[k].toNat : Int) == 32) = false := by rw [hb]; rfl
            have d2 : ((s[k].toNat : Int) == 9) = true := by rw [hb]; rfl
            clear hb
            go_wp2
            go_roundw
            case rel => exact ⟨k + 1, last, ts, by go_num, by omega, hts, ⟨_, _, rfl⟩, HN.out⟩
            case measure => simp [intOf]; omega
        · have d1 : ((s[k].toNat : Int) == 32) = false := ne_byte (fun e => hbl (.inl e)) (by decide)
          have d2 : ((s[k].toNat : Int) == 9) = false := ne_byte (fun e => hbl (.inr e)) (by decide)
          by_cases h35 : s[k] = 35
          · have d3 : ((s[k].toNat : Int) == 35) = true := by rw [h35]; rfl
            obtain ⟨Q, hQ⟩ : ∃ Q, Q = Tk.run (fun b => b != 10) s.data.toList k := ⟨_, rfl⟩
            have hQk : k < Q ∧ Q ≤ s.size := by
              have hk2 : k < s.data.toList.length := by rw [HSL.out]; exact hlt
              have e1 : Tk.run (fun b => b != 10) s.data.toList k = Tk.run (fun b => b != 10) s.data.toList (k + 1) := Tk.run_step hk2 (by rw [lst_at s k hlt, h35]; rfl)
              have e2 := Tk.run_ge (fun b => b != 10) s.data.toList (k + 1)
              have e3 := Tk.run_le (fun b => b != 10) (l := s.data.toList) (i := k) (by rw [HSL.out]; exact hk)
              rw [HSL.out] at e3
              omega
            have HN : Hid (TkInv s w R wr (.slice ad ts.length cap) Q last ts) := by
              obtain ⟨i1, i2, i3, i4, i5, f, h1, h2⟩ := HI.out
              cases f with
              | zero => omega
              | succ f => exact ⟨i1, i2, i3, i4, i5, f, by omega, by rw [← h2, hQ]; exact (Tk.loop_hash (by rw [HSL.out]; exact hlt) (by rw [hg]; exact hbl) (by rw [hg]; exact h35)).symm⟩
            have HQ : Hid (Tk.run (fun b => b != 10) s.data.toList k = Q) := hQ.symm
            obtain ⟨hQ1, hQ2⟩ := hQk
            clear HI hg hbl h35 hQ
            go_wp2
            clear d1 d2 d3
            go_loop [6] (fun a => ∃ j : Nat, a = .int .i64 (j : Int) ∧ j ≤ s.size ∧ Hid (Tk.run (fun b => b != 10) s.data.toList j = Q)) (fun a => s.size - (intOf a).toNat)
            case atStart => exact ⟨k, rfl, hk, HQ.out⟩
            case round =>
              obtain ⟨j, rfl, hj, HJ⟩ := hrel
              by_cases hjl : j < s.size
              · have hij : (j : Int) < (s.size : Int) := by omega
                have dj : decide ((j : Int) < (s.size : Int)) = true := decide_eq_true hij
                by_cases h10 : s[j] = 10
                · have d10 : ((s[j].toNat : Int) != 10) = false := by rw [h10]; rfl
                  have hQj : Q = j := by
                    rw [← HJ.out]
                    exact Tk.run_stop (by rw [HSL.out]; exact hjl) (by rw [lst_at s j hjl, h10]; rfl)
                  clear HJ h10 HQ
                  subst hQj
                  go_wp2
                  go_roundw
                  case rel => exact ⟨Q, last, ts, rfl, hj, hts, ⟨_, _, rfl⟩, HN.out⟩
                  case measure => simp [intOf]; omega
                · have d10 : ((s[j].toNat : Int) != 10) = true := by
                    have : s[j].toNat ≠ 10 := fun e => h10 (UInt8.toNat_inj.1 e)
                    simp
                    omega
                  have HJ2 : Hid (Tk.run (fun b => b != 10) s.data.toList (j + 1) = Q) := by
                    show _ = _
                    rw [← HJ.out]
                    exact (Tk.run_step (by rw [HSL.out]; exact hjl) (by rw [lst_at s j hjl]; simp [h10])).symm
                  clear HJ h10 HQ
                  go_wp2
                  go_round
                  case rel => exact ⟨j + 1, by go_num, by omega, HJ2.out⟩
                  case measure => simp [intOf]; omega
              · obtain rfl : j = s.size := by omega
                have dj : decide ((s.size : Int) < (s.size : Int)) = false := decide_eq_false (by omega)
                have hQj : Q = s.size := by
                  rw [← HJ.out]
                  exact Tk.run_end _ (by rw [HSL.out]; omega)
                clear HJ HQ
                subst hQj
                go_wp2
                go_roundw
                case rel => exact ⟨s.size, last, ts, rfl, hj, hts, ⟨_, _, rfl⟩, HN.out⟩
                case measure => simp [intOf]; omega
          · have d3 : ((s[k].toNat : Int) == 35) = false := ne_byte h35 (by decide)
            have HL : Hid (∀ f, Tk.loop s.data.toList (f + 1) k last ts = match Tk.one s.data.toList k last with
                | none => ([], k + 1)
                | some (t, n) => if ts.length = 200 then ([], k + 1) else Tk.loop s.data.toList f n t (ts ++ [t])) := fun f => Tk.loop_tok (by rw [HSL.out]; exact hlt) (by rw [hg]; exact hbl) (by rw [hg]; exact h35)
            have hsz5 := HI.out.size
            obtain ⟨l0, l1, -, -⟩ := tok_cells HI.out.blk
            clear hbl h35 hg
            have C1 : Hid (Calls Try.prog 9 #[.string s, .int .i64 (k : Int), .agg #[.int .i64 (last.kind : Int), .string ⟨last.text.toArray⟩]] wr fun e w' => e = .returned (onev (Tk.one s.data.toList k last)) ∧ Below wr.heap.size wr w') := spOne_any s k last wr hlt hs
            go_wp2_with fail
            refine C1.out.mono ?_
            rintro e w1 ⟨rfl, b1⟩
            have B1 : Hid (Below wr.heap.size wr w1) := b1
            have hs1 := b1.size
            have BW : Hid (∀ o1 o2 : Obj, Below w.heap.size w ((w1.alloc o1).alloc o2)) := fun o1 o2 => ((HI.out.bel.trans (B1.out.mono (by omega))).alloc (by omega) _).alloc (by simp; omega) _
            have HMADE : Hid (∀ o : Obj, TkRow w.heap.size ((w1.alloc o).alloc (.cells #[] 29)) (.slice (some ⟨w1.heap.size + 1, 0, none⟩) 0 0) []) := by
              intro o
              have := TkRow.made (B := w.heap.size) (w1.alloc o) (by simp; omega)
              rwa [show (w1.alloc o).heap.size = w1.heap.size + 1 by simp] at this
            clear C1 b1 d1 d2 d3 l0 l1
            cases hone : Tk.one s.data.toList k last with
            | none =>
              have HF : Hid (R = ([], k + 1)) := by
                obtain ⟨f, h1, h2⟩ := HI.out.more
                cases f with
                | zero => omega
                | succ f => show _ = _; rw [← h2, HL.out, hone]
              clear hone HL
              simp only [onev]
              go_wp2
              go_ret2
              rw [HF.out]
              exact ⟨_, rfl, HMADE.out _, BW.out _ _⟩
            | some p =>
              obtain ⟨t, n⟩ := p
              obtain ⟨hn1, hn2⟩ := Tk.one_gt (by rw [HSL.out]; exact hlt) hone
              rw [HSL.out] at hn2
              have d4 : ((n : Int) == 0) = false := beq_eq_false_iff_ne.2 (by omega)
              simp only [onev, tkv]
              by_cases h200 : ts.length = 200
              · have d5 : ((ts.length : Int) == 200) = true := by rw [h200]; rfl
                have HF : Hid (R = ([], k + 1)) := by
                  obtain ⟨f, h1, h2⟩ := HI.out.more
                  cases f with
                  | zero => omega
                  | succ f => show _ = _; rw [← h2, HL.out, hone]; show (if ts.length = 200 then _ else _) = _; rw [if_pos h200]
                clear hone HL h200
                go_wp2
                go_ret2
                rw [HF.out]
                exact ⟨_, rfl, HMADE.out _, BW.out _ _⟩
              · have d5 : ((ts.length : Int) == 200) = false := beq_eq_false_iff_ne.2 (by omega)
                have HM : Hid (∃ f, s.size - n < f ∧ Tk.loop s.data.toList f n t (ts ++ [t]) = R) := by
                  obtain ⟨f, h1, h2⟩ := HI.out.more
                  cases f with
                  | zero => omega
                  | succ f =>
                    refine ⟨f, by omega, ?_⟩
                    rw [← h2, HL.out, hone]
                    show _ = (if ts.length = 200 then _ else _)
                    rw [if_neg h200]
                have HROW : Hid (TkRow w.heap.size (w1.alloc (.cells #[.int .i64 (t.kind : Int), .string ⟨t.text.toArray⟩] 29)) (.slice ad ts.length cap) ts) := (HI.out.row.keep B1.out).alloc _
                have hlen : ts.length < 200 := by omega
                clear hone HL h200
                go_wp2_with (at_builtin; go_must (refine HROW.out.push rfl (.tmp 64) (.tmp 66) rfl rfl t _ _ rfl (w1.heap.size + 1) (by simp) rfl ?hl ?hb ?_))
                case hl => omega
                case hb => simp; omega
                · intro g cap2 w2 hrow hg1 hg2 hbel hblk
                  have hfar := HI.out.far
                  have hne : (Value.slice ad ts.length cap).ownBlock ≠ some w1.heap.size := by
                    intro e
                    have := (World.ownsRow.lt HI.out.row _ e).2
                    omega
                  have bA : Below w1.heap.size w1 (w1.alloc (.cells #[.int .i64 (t.kind : Int), .string ⟨t.text.toArray⟩] 29)) := (Below.refl _ _).alloc (Nat.le_refl _) _
                  have rT : w2.heap[w1.heap.size]? = some (.cells #[.int .i64 (t.kind : Int), .string ⟨t.text.toArray⟩] 29 (0, 0)) := (hblk w1.heap.size (by simp) hne).trans (heap_alloc_new w1 _)
                  have rL : w2.heap[w.heap.size + 1]? = some (.cells #[.int .i64 (last.kind : Int), .string ⟨last.text.toArray⟩] 29 (0, 0)) := (hblk _ (by simp; omega) hfar).trans ((bA.block _ (by omega)).trans ((B1.out.block _ (by omega)).trans HI.out.blk))
                  obtain ⟨t0, t1, -, -⟩ := tok_cells rT
                  obtain ⟨l0, l1, f0, f1⟩ := tok_cells rL
                  have hgL : (Value.slice (some ⟨g, 0, none⟩) (ts.length + 1) cap2).ownBlock ≠ some (w.heap.size + 1) := by
                    intro e
                    have e2 : g = w.heap.size + 1 := by simpa [Value.ownBlock] using e
                    rcases hg1 with h | h
                    · rw [e2] at h; exact hfar h
                    · have h2 : w1.heap.size + 1 ≤ g := by simpa using h
                      omega
                  have hsz2 : w.heap.size + 2 ≤ w2.heap.size := by have := hbel.size; simp at this; omega
                  have HN : Hid (TkInv s w R ((w2.setCell ⟨w.heap.size + 1, 0, none⟩ (.int .i64 (t.kind : Int))).setCell ⟨w.heap.size + 1, 1, none⟩ (.string ⟨t.text.toArray⟩)) (.slice (some ⟨g, 0, none⟩) (ts.length + 1) cap2) n t (ts ++ [t])) :=
                    ⟨(hrow.set hgL 0 _).set hgL 1 _, hgL, tok_stored rL _ _, tok_below (((HI.out.bel.trans (B1.out.mono (by omega))).alloc (by omega) _).trans hbel) (by omega) _ _, by simpa [World.setCell] using hsz2, HM.out⟩
                  clear hrow hg1 hg2 hbel hblk hfar hne bA rT rL hgL HI HROW HM HMADE BW B1
                  go_wp2
                  go_roundw
                  case rel => exact ⟨n, t, ts ++ [t], rfl, hn2, by simp; omega, ⟨some ⟨g, 0, none⟩, cap2, by simp⟩, HN.out⟩
                  case measure => simp [intOf]; omega
      · obtain rfl : k = s.size := by omega
        have dk : decide ((s.size : Int) < (s.size : Int)) = false := decide_eq_false (by omega)
        have HF : Hid (R = (ts, 0)) := by
          obtain ⟨f, h1, h2⟩ := HI.out.more
          show _ = _
          rw [← h2]
          exact Tk.loop_end (by rw [HSL.out]; omega)
        go_wp2
        go_ret2
        rw [HF.out]
        exact ⟨_, rfl, HI.out.row, HI.out.bel⟩
#print axioms specTokens_any
end Go.Proofs.Ytbiknfhfpmomfap
