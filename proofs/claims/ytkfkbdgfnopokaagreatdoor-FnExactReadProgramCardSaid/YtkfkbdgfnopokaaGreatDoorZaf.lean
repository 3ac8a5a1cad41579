/- The specification of Tokens: one token, whichever it is; rows of tokens. Plain facts: the rounds of Tokens. The specification of Tokens, at every text. Rows of tokens that are read. The program's reader of a program: what it holds, and whether it is this token that comes next. The program's reader of a program: a token is taken, or wanted; one deeper, and back. -/
import Derived.Test.YtkfkbdgfnopokaaGreatDoorTkE
import Derived.Test.YtkfkbdgfnopokaaGreatDoorZac
import Derived.Laws.StructEq
import Derived.Test.YtkfkbdgfnopokaaGreatDoorZaa
namespace Go.Proofs.YtkfkbdgfnopokaaGreatDoor
section PartTkF
open Go.RowKit
theorem spOne_any (s : ByteArray) (a : Nat) (last : Tk.Tok) (w : World) (ha : a < s.size) (hs : s.size ≤ 1048576) :
  Calls Tryz.prog 43 #[.string s, .int .i64 (a : Int), tkv last] w fun e w' => e = .returned (onev (Tk.one s.data.toList a last)) ∧ Below w.heap.size w w' := by
 unfold Tk.one
 rw [lst_getD s a ha]
 by_cases h1 : s[a] = 10 ∨ s[a] = 59
 ·rw [if_pos h1]
  exact spOne_end s a _ _ w ha hs h1
 rw [if_neg h1]
 have h10 : s[a] ≠ 10 := fun e => h1 (.inl e)
 have h59 : s[a] ≠ 59 := fun e => h1 (.inr e)
 by_cases h2 : Tk.letter s[a] = true
 ·rw [if_pos h2]
  exact spOne_letter s a _ _ w ha hs h10 h59 h2
 rw [if_neg h2]
 have hn := Bool.eq_false_iff.2 h2
 by_cases h3 : Tk.figure s[a] = true
 ·rw [if_pos h3]
  exact spOne_figure s a _ _ w ha hs h10 h59 hn h3
 rw [if_neg h3]
 by_cases h4 : s[a] = 34
 ·rw [if_pos h4]
  exact spOne_text s a _ _ w ha hs h4
 rw [if_neg h4]
 by_cases h5 : s[a] = 47
 ·rw [if_pos h5]
  exact spOne_pat s a _ _ w ha hs h5
 rw [if_neg h5]
 exact spOne_sign s a _ _ w ha hs h10 h59 hn (Bool.eq_false_iff.2 h3) h4 h5
def tkc (t : Tk.Tok) : List Value := [.int .i64 (t.kind : Int), .string ⟨t.text.toArray⟩]
theorem infoTk : (Tryz.prog.info? 80).map (fun i => (i.zero, i.size, i.bytes)) = some (some (.agg #[.int .i64 0, .string ByteArray.empty]), 2, 24) := by kernel_rfl
def TkRow (B : Nat) (w : World) (v : Value) (ts : List Tk.Tok) : Prop := w.ownsRow B 80 2 v ts.length (ts.flatMap tkc)
theorem TkRow.made {B : Nat} (w : World) (hb : B ≤ w.heap.size) : TkRow B (w.alloc (.cells #[] 80)) (.slice (some ⟨w.heap.size, 0, none⟩) 0 0) [] := World.ownsRow_made w #[] 0 hb (by decide) rfl
theorem TkRow.alloc {B : Nat} {w : World} {v : Value} {ts : List Tk.Tok} (h : TkRow B w v ts) (o : Obj) : TkRow B (w.alloc o) v ts := World.ownsRow.alloc h o
theorem TkRow.keep {B : Nat} {w w' : World} {v : Value} {ts : List Tk.Tok} (h : TkRow B w v ts) (hb : Below w.heap.size w w') : TkRow B w' v ts := by
 refine ⟨h.1, ?_⟩
 rcases h.2 with hn | ⟨g, cap, cur, rfl, h1, hg, rest⟩
 ·exact .inl hn
 ·refine .inr ⟨g, cap, cur, rfl, h1, ?_, rest⟩
  rw [hb.block g (Array.getElem?_eq_some_iff.1 hg).1]
  exact hg
theorem TkRow.form {B : Nat} {w : World} {v : Value} {ts : List Tk.Tok} (h : TkRow B w v ts) : ∃ ad cap, v = .slice ad ts.length cap := by
 rcases h.2 with ⟨rfl, hn⟩ | ⟨g, cap, cur, rfl, _⟩
 ·exact ⟨none, 0, by rw [hn]⟩
 ·exact ⟨_, cap, rfl⟩
end PartTkF
section PartTkQ
namespace Tk
theorem loop_end {l : List UInt8} {f k : Nat} {last : Tok} {ts : List Tok} (h : l.length ≤ k) : loop l f k last ts = (ts, 0) := by
 cases f with
 | zero => rfl
 | succ f => unfold loop; rw [if_pos h]
theorem loop_blank {l : List UInt8} {f k : Nat} {last : Tok} {ts : List Tok} (h : k < l.length) (hb : l.getD k 0 = 32 ∨ l.getD k 0 = 9) : loop l (f + 1) k last ts = loop l f (k + 1) last ts := by
 conv => lhs; unfold loop
 rw [if_neg (by omega), if_pos hb]
theorem loop_hash {l : List UInt8} {f k : Nat} {last : Tok} {ts : List Tok} (h : k < l.length) (h1 : ¬ (l.getD k 0 = 32 ∨ l.getD k 0 = 9)) (hb : l.getD k 0 = 35) : loop l (f + 1) k last ts = loop l f (run (fun b => b != 10) l k) last ts := by
 conv => lhs; unfold loop
 rw [if_neg (by omega), if_neg h1, if_pos hb]
theorem loop_tok {l : List UInt8} {f k : Nat} {last : Tok} {ts : List Tok} (h : k < l.length) (h1 : ¬ (l.getD k 0 = 32 ∨ l.getD k 0 = 9)) (h2 : l.getD k 0 ≠ 35) : loop l (f + 1) k last ts = match one l k last with
   | none => ([], k + 1)
   | some (t, n) => if ts.length = 200 then ([], k + 1) else loop l f n t (ts ++ [t]) := by
 conv => lhs; unfold loop
 rw [if_neg (by omega), if_neg h1, if_neg h2]
 rfl
theorem loop_len (l : List UInt8) : ∀ f a last out, out.length ≤ 200 → (loop l f a last out).1.length ≤ 200 := by
 intro f
 induction f with
 | zero => exact fun a last out h => h
 | succ f ih =>
  intro a last out h
  unfold loop
  split
  ·exact h
  split
  ·exact ih _ _ _ h
  split
  ·exact ih _ _ _ h
  split
  ·simp
  ·split
   ·simp
   ·exact ih _ _ _ (by simp; omega)
theorem tokens_len (l : List UInt8) : (tokens l).1.length ≤ 200 := by
 unfold tokens
 split
 ·simp
 ·exact loop_len _ _ _ _ _ (by simp)
end Tk
end PartTkQ
section PartTkG
open Go.RowKit
theorem TkRow.push {ops : Array Oper} {rest : List Oper} {o : Oper} {a : Act} {Q : Exit → Act → World → Prop} {B : Nat} {w : World} {v : Value} {ts : List Tk.Tok}
  (hown : TkRow B w v ts) (hgd : o.guard = none) (s x : Operand)
  (ho : o.op = .call { callee := .builtin .append, args := #[s, x], argTypes := #[40, 40] })
  (hs : a.eval s = v) (t : Tk.Tok) (c1 c2 : Value) (hc : tkc t = [c1, c2]) (H : Nat) (hH : w.heap.size = H) (hx : a.eval x = .slice (some ⟨H, 0, none⟩) 1 1)
  (hlen : ts.length < 1000000) (hB : B ≤ w.heap.size)
  (h : ∀ g cap w', TkRow B w' (.slice (some ⟨g, 0, none⟩) (ts.length + 1) cap) (ts ++ [t]) → (v.ownBlock = some g ∨ w.heap.size ≤ g) → g < w'.heap.size → Below B w w' → (∀ k, k < w.heap.size → v.ownBlock ≠ some k → w'.heap[k]? = w.heap[k]?) →
   wpList Tryz.prog ops Q rest (a.put o.dst (.slice (some ⟨g, 0, none⟩) (ts.length + 1) cap)) w') :
  wpList Tryz.prog ops Q (o :: rest) a (w.alloc (.cells #[c1, c2] 80)) := by
 subst hH
 obtain ⟨i0, hi, hz0, hz1, hz2⟩ := info_parts infoTk
 have hc1 : c1 = .int .i64 (t.kind : Int) ∧ c2 = .string ⟨t.text.toArray⟩ := by
  unfold tkc at hc
  simp only [List.cons.injEq] at hc
  exact ⟨hc.1.symm, hc.2.1.symm⟩
 refine wpList_append_lies _ hgd s x 40 ho B 80 i0 (.agg #[.int .i64 0, .string ByteArray.empty]) 2 24 Tryz.underlying40 hi hz0 hz1 hz2 rfl (by decide) v ts.length (ts.flatMap tkc) hs (World.ownsRow.alloc hown _) ⟨w.heap.size, 0, none⟩ 1 1 [c1, c2] hx rfl
  (World.news_of_block (cs := #[c1, c2]) (t := 80) (fr := (0, 0)) (heap_alloc_new w _)) ?_ (by omega) ?_ ?_ ?_ (w.heap.size + 1) (by simp) ?_
 ·intro u hu
  simp at hu
  rcases hu with rfl | rfl
  ·rw [hc1.1]; rfl
  ·rw [hc1.2]; rfl
 ·unfold maxLen; omega
 ·omega
 ·simp; omega
 ·intro g cap w' h2 h3 h4 h5
  have hb0 : Below w.heap.size w (w.alloc (.cells #[c1, c2] 80)) := (Below.refl _ w).alloc (Nat.le_refl _) _
  have hs3 := h3.size
  simp at hs3
  refine h g cap w' ?_ (h4.imp id (fun e => by omega)) h5 ?_ ?_
  ·unfold TkRow
   rw [← hc] at h2
   simpa using h2
  ·exact (hb0.mono hB).grown h3 (by simp; omega) (fun k hk => (World.ownsRow.lt hown k hk).1)
  ·intro k hk hne
   rw [h3.block k (by simp; omega) (fun e => hne e.symm)]
   exact hb0.block k hk
theorem TkRow.set {B L : Nat} {w : World} {v : Value} {ts : List Tk.Tok} (h : TkRow B w v ts) (hL : v.ownBlock ≠ some L) (o : Nat) (u : Value) : TkRow B (w.setCell ⟨L, o, none⟩ u) v ts := by
 refine ⟨h.1, ?_⟩
 rcases h.2 with hn | ⟨g2, cap2, cur, rfl, hb2, hc2, rest⟩
 ·exact .inl hn
 ·refine .inr ⟨g2, cap2, cur, rfl, hb2, ?_, rest⟩
  rw [Below.heap_setCell _ _ _ _ (by
   show g2 ≠ L
   intro e
   exact hL (by simp [Value.ownBlock, e]))]
  exact hc2
structure TkInv (s : ByteArray) (w : World) (R : List Tk.Tok × Nat) (wr : World) (v : Value) (k : Nat) (last : Tk.Tok) (ts : List Tk.Tok) : Prop where
 row : TkRow w.heap.size wr v ts
 far : v.ownBlock ≠ some (w.heap.size + 1)
 blk : wr.heap[w.heap.size + 1]? = some (.cells #[.int .i64 (last.kind : Int), .string ⟨last.text.toArray⟩] 80 (0, 0))
 bel : Below w.heap.size w wr
 size : w.heap.size + 2 ≤ wr.heap.size
 more : ∃ f, s.size - k < f ∧ Tk.loop s.data.toList f k last ts = R
set_option maxHeartbeats 4000000 in
set_option maxRecDepth 100000 in
theorem specTokens_any (s : ByteArray) (w : World) (hs : s.size ≤ 1048576) :
  Calls Tryz.prog 14 #[.string s] w fun e w' => ∃ v, e = .returned (.tuple #[v, .int .i64 ((Tk.tokens s.data.toList).2 : Int)]) ∧ TkRow w.heap.size w' v (Tk.tokens s.data.toList).1 ∧ Below w.heap.size w w' := by
 obtain ⟨R, hR⟩ : ∃ R, R = Tk.tokens s.data.toList := ⟨_, rfl⟩
 rw [← hR]
 have hsl : s.data.toList.length = s.size := by simp
 have hsz : s.size < 4294967296 := by omega
 by_cases h600 : 600 < s.size
 ·have HR : Hid (R = ([], 601)) := by show _ = _; rw [hR]; unfold Tk.tokens; rw [if_pos (by omega)]
  have d0 : decide ((600 : Int) < (s.size : Int)) = true := decide_eq_true (by omega)
  clear hR hsl h600
  go_enter Tryz.func14, Tryz.ntmps14
  go_wp2
  go_ret2
  rw [HR.out]
  exact ⟨_, rfl, TkRow.made w (Nat.le_refl _), (Below.refl _ _).alloc (Nat.le_refl _) _⟩
 ·have HR : Hid (Tk.loop s.data.toList (s.size + 1) 0 Tk.no [] = R) := by show _ = _; rw [hR]; unfold Tk.tokens; rw [if_neg (by omega), hsl]
  have HSL : Hid (s.data.toList.length = s.size) := hsl
  have d0 : decide ((600 : Int) < (s.size : Int)) = false := decide_eq_false (by omega)
  have h6 : s.size ≤ 600 := by omega
  clear hR hsl h600
  go_enter Tryz.func14, Tryz.ntmps14
  go_wp2
  go_loopw [4, 6, 7, 8] (fun v a t n wr => ∃ (k : Nat) (last : Tk.Tok) (ts : List Tk.Tok), a = .int .i64 (k : Int) ∧ k ≤ s.size ∧ ts.length ≤ 200 ∧ (∃ ad cap, v = .slice ad ts.length cap) ∧ Hid (TkInv s w R wr v k last ts)) (fun _ a _ _ _ => s.size - (intOf a).toNat)
  case atStart =>
   refine ⟨0, Tk.no, [], rfl, by omega, by simp, ⟨_, _, rfl⟩, ⟨(TkRow.made w (Nat.le_refl _)).alloc _, ?_, alloc2_1 _ _ _, below2 _ _ _, by simp, s.size + 1, by omega, HR.out⟩⟩
   simp [Value.ownBlock]
  case round =>
   obtain ⟨k, last, ts, rfl, hk, hts, ⟨ad, cap, rfl⟩, HI⟩ := hrel
   by_cases hlt : k < s.size
   ·have hi : (k : Int) < (s.size : Int) := by omega
    have dk : decide ((k : Int) < (s.size : Int)) = true := decide_eq_true hi
    have hg := lst_getD s k hlt
    by_cases hbl : s[k] = 32 ∨ s[k] = 9
    ·have HN : Hid (TkInv s w R wr (.slice ad ts.length cap) (k + 1) last ts) := by
      obtain ⟨i1, i2, i3, i4, i5, f, h1, h2⟩ := HI.out
      cases f with
      | zero => omega
      | succ f => exact ⟨i1, i2, i3, i4, i5, f, by omega, by rw [← h2]; exact (Tk.loop_blank (by rw [HSL.out]; exact hlt) (by rw [hg]; exact hbl)).symm⟩
     clear HI hg
     rcases hbl with hb | hb
     ·have d1 : ((s[k].toNat : Int) == 32) = true := by rw [hb]; rfl
      clear hb
      go_wp2
      go_roundw
      case rel => exact ⟨k + 1, last, ts, by go_num, by omega, hts, ⟨_, _, rfl⟩, HN.out⟩
      case measure => simp [intOf]; omega
     ·have d1 : ((s[k].toNat : Int) == 32) = false := by rw [hb]; rfl
      have d2 : ((s[k].toNat : Int) == 9) = true := by rw [hb]; rfl
      clear hb
      go_wp2
      go_roundw
      case rel => exact ⟨k + 1, last, ts, by go_num, by omega, hts, ⟨_, _, rfl⟩, HN.out⟩
      case measure => simp [intOf]; omega
    ·have d1 : ((s[k].toNat : Int) == 32) = false := ne_byte (fun e => hbl (.inl e)) (by decide)
     have d2 : ((s[k].toNat : Int) == 9) = false := ne_byte (fun e => hbl (.inr e)) (by decide)
     by_cases h35 : s[k] = 35
     ·have d3 : ((s[k].toNat : Int) == 35) = true := by rw [h35]; rfl
      obtain ⟨Q, hQ⟩ : ∃ Q, Q = Tk.run (fun b => b != 10) s.data.toList k := ⟨_, rfl⟩
      have hQk : k < Q ∧ Q ≤ s.size := by
       have hk2 : k < s.data.toList.length := by rw [HSL.out]; exact hlt
       have e1 : Tk.run (fun b => b != 10) s.data.toList k = Tk.run (fun b => b != 10) s.data.toList (k + 1) := Tk.run_step hk2 (by rw [lst_at s k hlt, h35]; rfl)
       have e2 := Tk.run_ge (fun b => b != 10) s.data.toList (k + 1)
       have e3 := Tk.run_le (fun b => b != 10) (l := s.data.toList) (i := k) (by rw [HSL.out]; exact hk)
       rw [HSL.out] at e3
       omega
      have HN : Hid (TkInv s w R wr (.slice ad ts.length cap) Q last ts) := by
       obtain ⟨i1, i2, i3, i4, i5, f, h1, h2⟩ := HI.out
       cases f with
       | zero => omega
       | succ f => exact ⟨i1, i2, i3, i4, i5, f, by omega, by rw [← h2, hQ]; exact (Tk.loop_hash (by rw [HSL.out]; exact hlt) (by rw [hg]; exact hbl) (by rw [hg]; exact h35)).symm⟩
      have HQ : Hid (Tk.run (fun b => b != 10) s.data.toList k = Q) := hQ.symm
      obtain ⟨hQ1, hQ2⟩ := hQk
      clear HI hg hbl h35 hQ
      go_wp2
      clear d1 d2 d3
      go_loop [6] (fun a => ∃ j : Nat, a = .int .i64 (j : Int) ∧ j ≤ s.size ∧ Hid (Tk.run (fun b => b != 10) s.data.toList j = Q)) (fun a => s.size - (intOf a).toNat)
      case atStart => exact ⟨k, rfl, hk, HQ.out⟩
      case round =>
       obtain ⟨j, rfl, hj, HJ⟩ := hrel
       by_cases hjl : j < s.size
       ·have hij : (j : Int) < (s.size : Int) := by omega
        have dj : decide ((j : Int) < (s.size : Int)) = true := decide_eq_true hij
        by_cases h10 : s[j] = 10
        ·have d10 : ((s[j].toNat : Int) != 10) = false := by rw [h10]; rfl
         have hQj : Q = j := by
          rw [← HJ.out]
          exact Tk.run_stop (by rw [HSL.out]; exact hjl) (by rw [lst_at s j hjl, h10]; rfl)
         clear HJ h10 HQ
         subst hQj
         go_wp2
         go_roundw
         case rel => exact ⟨Q, last, ts, rfl, hj, hts, ⟨_, _, rfl⟩, HN.out⟩
         case measure => simp [intOf]; omega
        ·have d10 : ((s[j].toNat : Int) != 10) = true := by
          have : s[j].toNat ≠ 10 := fun e => h10 (UInt8.toNat_inj.1 e)
          simp
          omega
         have HJ2 : Hid (Tk.run (fun b => b != 10) s.data.toList (j + 1) = Q) := by
          show _ = _
          rw [← HJ.out]
          exact (Tk.run_step (by rw [HSL.out]; exact hjl) (by rw [lst_at s j hjl]; simp [h10])).symm
         clear HJ h10 HQ
         go_wp2
         go_round
         case rel => exact ⟨j + 1, by go_num, by omega, HJ2.out⟩
         case measure => simp [intOf]; omega
       ·obtain rfl : j = s.size := by omega
        have dj : decide ((s.size : Int) < (s.size : Int)) = false := decide_eq_false (by omega)
        have hQj : Q = s.size := by
         rw [← HJ.out]
         exact Tk.run_end _ (by rw [HSL.out]; omega)
        clear HJ HQ
        subst hQj
        go_wp2
        go_roundw
        case rel => exact ⟨s.size, last, ts, rfl, hj, hts, ⟨_, _, rfl⟩, HN.out⟩
        case measure => simp [intOf]; omega
     ·have d3 : ((s[k].toNat : Int) == 35) = false := ne_byte h35 (by decide)
      have HL : Hid (∀ f, Tk.loop s.data.toList (f + 1) k last ts = match Tk.one s.data.toList k last with
        | none => ([], k + 1)
        | some (t, n) => if ts.length = 200 then ([], k + 1) else Tk.loop s.data.toList f n t (ts ++ [t])) := fun f => Tk.loop_tok (by rw [HSL.out]; exact hlt) (by rw [hg]; exact hbl) (by rw [hg]; exact h35)
      have hsz5 := HI.out.size
      obtain ⟨l0, l1, -, -⟩ := tok_cells HI.out.blk
      clear hbl h35 hg
      have C1 : Hid (Calls Tryz.prog 43 #[.string s, .int .i64 (k : Int), .agg #[.int .i64 (last.kind : Int), .string ⟨last.text.toArray⟩]] wr fun e w' => e = .returned (onev (Tk.one s.data.toList k last)) ∧ Below wr.heap.size wr w') := spOne_any s k last wr hlt hs
      go_wp2_with fail
      refine C1.out.mono ?_
      rintro e w1 ⟨rfl, b1⟩
      have B1 : Hid (Below wr.heap.size wr w1) := b1
      have hs1 := b1.size
      have BW : Hid (∀ o1 o2 : Obj, Below w.heap.size w ((w1.alloc o1).alloc o2)) := fun o1 o2 => ((HI.out.bel.trans (B1.out.mono (by omega))).alloc (by omega) _).alloc (by simp; omega) _
      have HMADE : Hid (∀ o : Obj, TkRow w.heap.size ((w1.alloc o).alloc (.cells #[] 80)) (.slice (some ⟨w1.heap.size + 1, 0, none⟩) 0 0) []) := by
       intro o
       have := TkRow.made (B := w.heap.size) (w1.alloc o) (by simp; omega)
       rwa [show (w1.alloc o).heap.size = w1.heap.size + 1 by simp] at this
      clear C1 b1 d1 d2 d3 l0 l1
      cases hone : Tk.one s.data.toList k last with
      | none =>
       have HF : Hid (R = ([], k + 1)) := by
        obtain ⟨f, h1, h2⟩ := HI.out.more
        cases f with
        | zero => omega
        | succ f => show _ = _; rw [← h2, HL.out, hone]
       clear hone HL
       simp only [onev]
       go_wp2
       go_ret2
       rw [HF.out]
       exact ⟨_, rfl, HMADE.out _, BW.out _ _⟩
      | some p =>
       obtain ⟨t, n⟩ := p
       obtain ⟨hn1, hn2⟩ := Tk.one_gt (by rw [HSL.out]; exact hlt) hone
       rw [HSL.out] at hn2
       have d4 : ((n : Int) == 0) = false := beq_eq_false_iff_ne.2 (by omega)
       simp only [onev, tkv]
       by_cases h200 : ts.length = 200
       ·have d5 : ((ts.length : Int) == 200) = true := by rw [h200]; rfl
        have HF : Hid (R = ([], k + 1)) := by
         obtain ⟨f, h1, h2⟩ := HI.out.more
         cases f with
         | zero => omega
         | succ f => show _ = _; rw [← h2, HL.out, hone]; show (if ts.length = 200 then _ else _) = _; rw [if_pos h200]
        clear hone HL h200
        go_wp2
        go_ret2
        rw [HF.out]
        exact ⟨_, rfl, HMADE.out _, BW.out _ _⟩
       ·have d5 : ((ts.length : Int) == 200) = false := beq_eq_false_iff_ne.2 (by omega)
        have HM : Hid (∃ f, s.size - n < f ∧ Tk.loop s.data.toList f n t (ts ++ [t]) = R) := by
         obtain ⟨f, h1, h2⟩ := HI.out.more
         cases f with
         | zero => omega
         | succ f =>
          refine ⟨f, by omega, ?_⟩
          rw [← h2, HL.out, hone]
          show _ = (if ts.length = 200 then _ else _)
          rw [if_neg h200]
        have HROW : Hid (TkRow w.heap.size (w1.alloc (.cells #[.int .i64 (t.kind : Int), .string ⟨t.text.toArray⟩] 80)) (.slice ad ts.length cap) ts) := (HI.out.row.keep B1.out).alloc _
        have hlen : ts.length < 200 := by omega
        clear hone HL h200
        go_wp2_with (at_builtin; go_must (refine HROW.out.push rfl (.tmp 64) (.tmp 66) rfl rfl t _ _ rfl (w1.heap.size + 1) (by simp) rfl ?hl ?hb ?_))
        case hl => omega
        case hb => simp; omega
        ·intro g cap2 w2 hrow hg1 hg2 hbel hblk
         have hfar := HI.out.far
         have hne : (Value.slice ad ts.length cap).ownBlock ≠ some w1.heap.size := by
          intro e
          have := (World.ownsRow.lt HI.out.row _ e).2
          omega
         have bA : Below w1.heap.size w1 (w1.alloc (.cells #[.int .i64 (t.kind : Int), .string ⟨t.text.toArray⟩] 80)) := (Below.refl _ _).alloc (Nat.le_refl _) _
         have rT : w2.heap[w1.heap.size]? = some (.cells #[.int .i64 (t.kind : Int), .string ⟨t.text.toArray⟩] 80 (0, 0)) := (hblk w1.heap.size (by simp) hne).trans (heap_alloc_new w1 _)
         have rL : w2.heap[w.heap.size + 1]? = some (.cells #[.int .i64 (last.kind : Int), .string ⟨last.text.toArray⟩] 80 (0, 0)) := (hblk _ (by simp; omega) hfar).trans ((bA.block _ (by omega)).trans ((B1.out.block _ (by omega)).trans HI.out.blk))
         obtain ⟨t0, t1, -, -⟩ := tok_cells rT
         obtain ⟨l0, l1, f0, f1⟩ := tok_cells rL
         have hgL : (Value.slice (some ⟨g, 0, none⟩) (ts.length + 1) cap2).ownBlock ≠ some (w.heap.size + 1) := by
          intro e
          have e2 : g = w.heap.size + 1 := by simpa [Value.ownBlock] using e
          rcases hg1 with h | h
          ·rw [e2] at h; exact hfar h
          ·have h2 : w1.heap.size + 1 ≤ g := by simpa using h
           omega
         have hsz2 : w.heap.size + 2 ≤ w2.heap.size := by have := hbel.size; simp at this; omega
         have HN : Hid (TkInv s w R ((w2.setCell ⟨w.heap.size + 1, 0, none⟩ (.int .i64 (t.kind : Int))).setCell ⟨w.heap.size + 1, 1, none⟩ (.string ⟨t.text.toArray⟩)) (.slice (some ⟨g, 0, none⟩) (ts.length + 1) cap2) n t (ts ++ [t])) :=
          ⟨(hrow.set hgL 0 _).set hgL 1 _, hgL, tok_stored rL _ _, tok_below (((HI.out.bel.trans (B1.out.mono (by omega))).alloc (by omega) _).trans hbel) (by omega) _ _, by simpa [World.setCell] using hsz2, HM.out⟩
         clear hrow hg1 hg2 hbel hblk hfar hne bA rT rL hgL HI HROW HM HMADE BW B1
         go_wp2
         go_roundw
         case rel => exact ⟨n, t, ts ++ [t], rfl, hn2, by simp; omega, ⟨some ⟨g, 0, none⟩, cap2, by simp⟩, HN.out⟩
         case measure => simp [intOf]; omega
   ·obtain rfl : k = s.size := by omega
    have dk : decide ((s.size : Int) < (s.size : Int)) = false := decide_eq_false (by omega)
    have HF : Hid (R = (ts, 0)) := by
     obtain ⟨f, h1, h2⟩ := HI.out.more
     show _ = _
     rw [← h2]
     exact Tk.loop_end (by rw [HSL.out]; omega)
    go_wp2
    go_ret2
    rw [HF.out]
    exact ⟨_, rfl, HI.out.row, HI.out.bel⟩
end PartTkG
section PartTkR
open Go.RowKit
theorem flat_get (ts : List Tk.Tok) : ∀ j, j < ts.length → (ts.flatMap tkc)[j * 2]? = some (.int .i64 ((ts.getD j Tk.no).kind : Int)) ∧ (ts.flatMap tkc)[j * 2 + 1]? = some (.string ⟨(ts.getD j Tk.no).text.toArray⟩) := by
 induction ts with
 | nil => intro j hj; simp at hj
 | cons t ts ih =>
  intro j hj
  cases j with
  | zero => exact ⟨rfl, rfl⟩
  | succ j =>
   obtain ⟨h1, h2⟩ := ih j (by simpa using hj)
   have e : (t :: ts).flatMap tkc = .int .i64 (t.kind : Int) :: .string ⟨t.text.toArray⟩ :: ts.flatMap tkc := rfl
   rw [e, show (j + 1) * 2 = j * 2 + 1 + 1 by omega, List.getElem?_cons_succ, List.getElem?_cons_succ, List.getElem?_cons_succ, List.getElem?_cons_succ]
   exact ⟨h1, h2⟩
def TkAt (w : World) (v : Value) (ts : List Tk.Tok) : Prop := ∃ ad cap, v = .slice ad ts.length cap ∧ (0 < ts.length → ∃ g, ad = some ⟨g, 0, none⟩ ∧ g < w.heap.size ∧ ∀ j, j < ts.length → w.cell? ⟨g, j * 2, none⟩ = some (.int .i64 ((ts.getD j Tk.no).kind : Int)) ∧ w.cell? ⟨g, j * 2 + 1, none⟩ = some (.string ⟨(ts.getD j Tk.no).text.toArray⟩))
theorem TkAt.keep {w w' : World} {v : Value} {ts : List Tk.Tok} (h : TkAt w v ts) (hb : Below w.heap.size w w') : TkAt w' v ts := by
 obtain ⟨ad, cap, rfl, f⟩ := h
 refine ⟨ad, cap, rfl, fun h0 => ?_⟩
 obtain ⟨g, rfl, hg, hc⟩ := f h0
 exact ⟨g, rfl, Nat.lt_of_lt_of_le hg hb.size, fun j hj => ⟨(hb.cell (p := ⟨g, j * 2, none⟩) hg).trans (hc j hj).1, (hb.cell (p := ⟨g, j * 2 + 1, none⟩) hg).trans (hc j hj).2⟩⟩
theorem TkRow.at {B : Nat} {w : World} {v : Value} {ts : List Tk.Tok} (h : TkRow B w v ts) : TkAt w v ts := by
 obtain ⟨ad, cap, rfl⟩ := h.form
 refine ⟨ad, cap, rfl, fun h0 => ?_⟩
 rcases h.2 with ⟨_, hn⟩ | ⟨g, cap2, cur, e, h1, hg, _⟩
 ·omega
 ·simp only [Value.slice.injEq] at e
  obtain ⟨rfl, -, rfl⟩ := e
  refine ⟨g, rfl, (Array.getElem?_eq_some_iff.1 hg).1, fun j hj => ?_⟩
  obtain ⟨k1, k2⟩ := flat_get ts j hj
  rw [World.ownsRow.cellAt h (j * 2) (by omega), World.ownsRow.cellAt h (j * 2 + 1) (by omega)]
  exact ⟨k1, k2⟩
end PartTkR
section PartRrA
open Go.RowKit
def Lf (X : Nat) (w : World) (v : Value) (ts : List Tk.Tok) : Prop :=
 ∃ ad cap, v = .slice ad ts.length cap ∧ ts.length ≤ cap ∧ cap ≤ maxLen ∧ (0 < ts.length → ∃ b o, ad = some ⟨b, o, none⟩ ∧ b < X ∧
  ∀ j, j < ts.length → w.cell? ⟨b, o + j * 2, none⟩ = some (.int .i64 ((ts.getD j Tk.no).kind : Int)) ∧ w.cell? ⟨b, o + j * 2 + 1, none⟩ = some (.string ⟨(ts.getD j Tk.no).text.toArray⟩))
def Rr (w : World) (g : Nat) (L : Value) (d : Int) : Prop := w.heap[g]? = some (.cells #[L, .int .i64 d] 98 (0, 0))
theorem Rr.cells {w : World} {g : Nat} {L : Value} {d : Int} (h : Rr w g L d) :
  w.cell? ⟨g, 0, none⟩ = some L ∧ w.cell? ⟨g, 1, none⟩ = some (.int .i64 d) ∧ w.frozen? ⟨g, 0, none⟩ = false ∧ w.frozen? ⟨g, 1, none⟩ = false := by
 unfold Rr at h
 refine ⟨?_, ?_, ?_, ?_⟩ <;> simp [World.cell?, World.frozen?, h]
def Rx.is (ts : List Tk.Tok) (k : Nat) (x : List UInt8) : Bool := match ts with | [] => false | t :: _ => decide (t.kind = k) && decide (t.text = x)
set_option maxHeartbeats 1000000 in
set_option maxRecDepth 100000 in
theorem rrIs (X g : Nat) (d : Int) (L : Value) (ts : List Tk.Tok) (kind : Nat) (x : List UInt8) (w : World) (h : Rr w g L d) (hL : Lf X w L ts) :
  Calls Tryz.prog 118 #[.pointer (some ⟨g, 0, none⟩), .int .i64 (kind : Int), .string ⟨x.toArray⟩] w fun e w' => e = .returned (.bool (Rx.is ts kind x)) ∧ w' = w := by
 obtain ⟨c0, c1, f0, f1⟩ := h.cells
 obtain ⟨ad, cap, rfl, hlc, hcm, f⟩ := hL
 obtain ⟨Y, hY⟩ : ∃ Y : ByteArray, Y = ⟨x.toArray⟩ := ⟨_, rfl⟩
 have hYl : Y.toList = x := by rw [hY, Lib.toList_data]
 rw [← hY]
 clear h c1 f0 f1 hY
 cases ts with
 | nil =>
  simp only [List.length_nil] at c0
  go_enter Tryz.func118, Tryz.ntmps118
  go_wp2_with fail
  go_ret
  exact ⟨rfl, rfl⟩
 | cons t r =>
  obtain ⟨b, o, rfl, hb, hc⟩ := f (by simp)
  obtain ⟨t0, t1⟩ := hc 0 (by simp)
  simp only [List.getD_cons_zero, Nat.zero_mul, Nat.add_zero] at t0 t1
  obtain ⟨n, hn⟩ : ∃ n, n = (t :: r).length := ⟨_, rfl⟩
  rw [← hn] at c0
  have h0 : 0 < n := by rw [hn]; simp
  have d1 : decide ((n : Int) > 0) = true := decide_eq_true (by omega)
  have hi : (0 : Int) < (n : Int) := by omega
  obtain ⟨K, hK⟩ : ∃ K, K = t.kind := ⟨_, rfl⟩
  obtain ⟨T, hT⟩ : ∃ T : ByteArray, T = ⟨t.text.toArray⟩ := ⟨_, rfl⟩
  have hTl : T.toList = t.text := by rw [hT, Lib.toList_data]
  rw [← hK] at t0
  rw [← hT] at t1
  obtain ⟨V, hV⟩ : ∃ V, V = Rx.is (t :: r) kind x := ⟨_, rfl⟩
  have HV : Hid (V = (((K : Int) == (kind : Int)) && (T.toList == Y.toList))) := by
   show _ = _
   rw [hV, hTl, hYl, hK, Bool.eq_iff_iff]
   simp only [Rx.is, Bool.and_eq_true, decide_eq_true_eq, beq_iff_eq, Int.ofNat_inj]
  rw [← hV]
  clear hc f hn hV hK hT hTl hYl hlc hcm
  by_cases hk : (K : Int) = (kind : Int)
  ·have e1 : ((K : Int) == (kind : Int)) = true := beq_iff_eq.2 hk
   cases hs : (T.toList == Y.toList) with
   | true =>
    rw [e1, hs] at HV
    go_enter Tryz.func118, Tryz.ntmps118
    go_wp2_with fail
    go_ret
    exact ⟨by rw [HV.out]; rfl, rfl⟩
   | false =>
    rw [e1, hs] at HV
    go_enter Tryz.func118, Tryz.ntmps118
    go_wp2_with fail
    go_ret
    exact ⟨by rw [HV.out]; rfl, rfl⟩
  ·have e1 : ((K : Int) == (kind : Int)) = false := beq_eq_false_iff_ne.2 hk
   rw [e1] at HV
   go_enter Tryz.func118, Tryz.ntmps118
   go_wp2_with fail
   go_ret
   exact ⟨by rw [HV.out]; rfl, rfl⟩
end PartRrA
section PartRrB
open Go.RowKit
theorem hidOf2 {p : Prop} (h : p) : Hid p := h
def noProg : Ending := .panicked [{ v := .iface 95 (.agg #[]), recovered := false }]
def Og (g : Nat) (w w' : World) : Prop := Env w w' ∧ w.heap.size ≤ w'.heap.size ∧ ∀ k, k < w.heap.size → k ≠ g → w'.heap[k]? = w.heap[k]?
theorem Og.refl (g : Nat) (w : World) : Og g w w := ⟨Env.refl w, Nat.le_refl _, fun _ _ _ => rfl⟩
theorem Og.trans {g : Nat} {w w1 w2 : World} (h : Og g w w1) (k : Og g w1 w2) : Og g w w2 := ⟨h.1.trans k.1, Nat.le_trans h.2.1 k.2.1, fun j hj hg => (k.2.2 j (Nat.lt_of_lt_of_le hj h.2.1) hg).trans (h.2.2 j hj hg)⟩
theorem Og.of {g : Nat} {w w' : World} (h : Below w.heap.size w w') : Og g w w' := ⟨⟨h.os, h.tape, h.output⟩, h.size, fun k hk _ => h.block k hk⟩
theorem Og.cell {g : Nat} {w w' : World} (h : Og g w w') {p : Addr} {x : Value} (hg : p.block ≠ g) (hc : w.cell? p = some x) : w'.cell? p = some x := by
 have hlt := World.block_lt_of_cell? w p hc
 unfold World.cell? at hc ⊢
 rw [h.2.2 p.block hlt hg]
 exact hc
theorem Og.set (g i : Nat) (x : Value) (w : World) : Og g w (w.setCell ⟨g, i, none⟩ x) := by
 exact ⟨⟨rfl, rfl, rfl⟩, by simp [World.setCell], fun k _ hg => Below.heap_setCell _ _ _ _ (by show k ≠ g; exact hg)⟩
theorem Lf.keep {X g : Nat} {w w' : World} {v : Value} {ts : List Tk.Tok} (h : Lf X w v ts) (hX : X ≤ g) (k : Og g w w') : Lf X w' v ts := by
 obtain ⟨ad, cap, rfl, h1, h2, f⟩ := h
 refine ⟨ad, cap, rfl, h1, h2, fun h0 => ?_⟩
 obtain ⟨b, o, rfl, hb, hc⟩ := f h0
 exact ⟨b, o, rfl, hb, fun j hj => ⟨k.cell (fun e => by simp only at e; omega) (hc j hj).1, k.cell (fun e => by simp only at e; omega) (hc j hj).2⟩⟩
def Rt (X g : Nat) (w : World) (ts : List Tk.Tok) (d : Int) : Prop := X ≤ g ∧ ∃ L, Rr w g L d ∧ Lf X w L ts
theorem Rt.lt {X g : Nat} {w : World} {ts : List Tk.Tok} {d : Int} (h : Rt X g w ts d) : g < w.heap.size := by
 obtain ⟨-, L, h, -⟩ := h
 exact (Array.getElem?_eq_some_iff.1 h).1
theorem Rt.keep {X g : Nat} {w w' : World} {ts : List Tk.Tok} {d : Int} (h : Rt X g w ts d) (hb : Below w.heap.size w w') : Rt X g w' ts d := by
 have hg := h.lt
 obtain ⟨hX, L, h1, h2⟩ := h
 exact ⟨hX, L, (hb.block g hg).trans h1, h2.keep hX (Og.of hb)⟩
theorem Rt.set0 {X g : Nat} {w : World} {ts ts' : List Tk.Tok} {d : Int} {L' : Value} (h : Rt X g w ts d) (hL : Lf X w L' ts') : Rt X g (w.setCell ⟨g, 0, none⟩ L') ts' d := by
 obtain ⟨hX, L, h1, h2⟩ := h
 refine ⟨hX, L', ?_, hL.keep hX (Og.set _ _ _ _)⟩
 unfold Rr at h1 ⊢
 simp [World.setCell, Array.getElem?_modify, h1]
theorem Rt.set1 {X g : Nat} {w : World} {ts : List Tk.Tok} {d : Int} (h : Rt X g w ts d) (d' : Int) : Rt X g (w.setCell ⟨g, 1, none⟩ (.int .i64 d')) ts d' := by
 obtain ⟨hX, L, h1, h2⟩ := h
 refine ⟨hX, L, ?_, h2.keep hX (Og.set _ _ _ _)⟩
 unfold Rr at h1 ⊢
 simp [World.setCell, Array.getElem?_modify, h1]
theorem Lf.tail {X : Nat} {w : World} {b o cap : Nat} {t : Tk.Tok} {r : List Tk.Tok} (h : Lf X w (.slice (some ⟨b, o, none⟩) (t :: r).length cap) (t :: r)) :
  Lf X w (.slice (some ⟨b, o + 2, none⟩) r.length (cap - 1)) r := by
 obtain ⟨ad, cap', e, h1, h2, f⟩ := h
 simp only [Value.slice.injEq] at e
 obtain ⟨rfl, -, rfl⟩ := e
 simp only [List.length_cons] at h1 f
 refine ⟨_, _, rfl, by omega, by omega, fun h0 => ?_⟩
 obtain ⟨b', o', e, hb, hc⟩ := f (by omega)
 simp only [Option.some.injEq, Addr.mk.injEq, and_true] at e
 obtain ⟨rfl, rfl⟩ := e
 refine ⟨b, o + 2, rfl, hb, fun j hj => ?_⟩
 have := hc (j + 1) (by omega)
 simp only [List.getD_cons_succ] at this
 rw [show o + (j + 1) * 2 = o + 2 + j * 2 by omega] at this
 exact this
set_option maxHeartbeats 1000000 in
set_option maxRecDepth 100000 in
theorem rrTakes_no (X g : Nat) (d : Int) (ts : List Tk.Tok) (kind : Nat) (x : List UInt8) (w : World) (h : Rt X g w ts d) (hn : Rx.is ts kind x = false) :
  Calls Tryz.prog 117 #[.pointer (some ⟨g, 0, none⟩), .int .i64 (kind : Int), .string ⟨x.toArray⟩] w fun e w' => e = .returned (.bool false) ∧ w' = w := by
 obtain ⟨hX, L, h1, h2⟩ := h
 have C := rrIs X g d L ts kind x w h1 h2
 rw [hn] at C
 go_enter Tryz.func117, Tryz.ntmps117
 go_wp2_with fail
 refine C.mono ?_
 rintro e w2 ⟨rfl, rfl⟩
 go_wp2
 go_ret
 exact ⟨rfl, rfl⟩
set_option maxHeartbeats 1000000 in
set_option maxRecDepth 100000 in
theorem rrTakes_yes (X g : Nat) (d : Int) (t : Tk.Tok) (r : List Tk.Tok) (kind : Nat) (x : List UInt8) (w : World) (h : Rt X g w (t :: r) d) (hn : Rx.is (t :: r) kind x = true) :
  Calls Tryz.prog 117 #[.pointer (some ⟨g, 0, none⟩), .int .i64 (kind : Int), .string ⟨x.toArray⟩] w fun e w' => e = .returned (.bool true) ∧ Rt X g w' r d ∧ Og g w w' := by
 have hR := h
 obtain ⟨hX, L, h1, h2⟩ := h
 have hL := h2
 have C := rrIs X g d L (t :: r) kind x w h1 h2
 rw [hn] at C
 obtain ⟨c0, c1, f0, f1⟩ := h1.cells
 obtain ⟨ad, cap, rfl, hlc, hcm, f⟩ := h2
 obtain ⟨b, o, rfl, hb, -⟩ := f (by simp)
 have HT : Hid (Lf X w (.slice (some ⟨b, o + 2, none⟩) r.length (cap - 1)) r) := hL.tail
 have HT1 : Hid (cap = 1 → Lf X w (.slice (some ⟨b, o, none⟩) r.length 0) r) := fun e => by
  have h0 : r.length = 0 := by simp only [List.length_cons] at hlc; omega
  exact ⟨_, _, rfl, by omega, by omega, fun h => by omega⟩
 have HR : Hid (Rt X g w (t :: r) d) := hR
 have C2 : Hid (Calls Tryz.prog 118 #[.pointer (some ⟨g, 0, none⟩), .int .i64 (kind : Int), .string ⟨x.toArray⟩] w fun e w' => e = .returned (.bool true) ∧ w' = w) := C
 simp only [List.length_cons] at c0 hlc
 obtain ⟨n, hn2⟩ : ∃ n, n = r.length := ⟨_, rfl⟩
 rw [← hn2] at c0 hlc HT HT1
 have hcast : ((n + 1 : Nat) : Int) = (n : Int) + 1 := by omega
 clear f hL h1 C hR hn c1 f1 hn2
 go_enter Tryz.func117, Tryz.ntmps117
 go_wp2_with fail
 refine C2.out.mono ?_
 rintro e w2 ⟨rfl, rfl⟩
 go_wp2
 ·go_ret
  subst h
  exact ⟨rfl, HR.out.set0 (HT1.out rfl), Og.set _ _ _ _⟩
 ·go_ret
  exact ⟨rfl, HR.out.set0 HT.out, Og.set _ _ _ _⟩
set_option maxHeartbeats 1000000 in
set_option maxRecDepth 100000 in
theorem rrWant_yes (X g : Nat) (d : Int) (t : Tk.Tok) (r : List Tk.Tok) (kind : Nat) (x : List UInt8) (w : World) (h : Rt X g w (t :: r) d) (hn : Rx.is (t :: r) kind x = true) :
  Calls Tryz.prog 138 #[.pointer (some ⟨g, 0, none⟩), .int .i64 (kind : Int), .string ⟨x.toArray⟩] w fun e w' => e = .returned (.tuple #[]) ∧ Rt X g w' r d ∧ Og g w w' := by
 have C := hidOf2 (rrTakes_yes X g d t r kind x w h hn)
 clear h hn
 go_enter Tryz.func138, Tryz.ntmps138
 go_wp2_with fail
 refine C.out.mono ?_
 rintro e w2 ⟨rfl, h2, h3⟩
 go_wp2
 go_end0
 exact ⟨rfl, h2, h3⟩
set_option maxHeartbeats 1000000 in
set_option maxRecDepth 100000 in
theorem rrWant_no (X g : Nat) (d : Int) (ts : List Tk.Tok) (kind : Nat) (x : List UInt8) (w : World) (h : Rt X g w ts d) (hn : Rx.is ts kind x = false) :
  Calls Tryz.prog 138 #[.pointer (some ⟨g, 0, none⟩), .int .i64 (kind : Int), .string ⟨x.toArray⟩] w fun e w' => e = noProg ∧ w' = w := by
 have C := hidOf2 (rrTakes_no X g d ts kind x w h hn)
 clear h hn
 go_enter Tryz.func138, Tryz.ntmps138
 go_wp2_with fail
 refine C.out.mono ?_
 rintro e w2 ⟨rfl, rfl⟩
 go_wp2
 exact ⟨rfl, rfl, rfl⟩
set_option maxHeartbeats 1000000 in
set_option maxRecDepth 100000 in
theorem rrDown_yes (X g : Nat) (d : Int) (ts : List Tk.Tok) (w : World) (h : Rt X g w ts d) (h0 : 0 ≤ d) (h1 : d < 30) :
  Calls Tryz.prog 133 #[.pointer (some ⟨g, 0, none⟩)] w fun e w' => e = .returned (.tuple #[]) ∧ Rt X g w' ts (d + 1) ∧ Og g w w' := by
 have HR : Hid (Rt X g w ts d) := h
 obtain ⟨hX, L, h2, h3⟩ := h
 obtain ⟨c0, c1, f0, f1⟩ := h2.cells
 have e1 : decide (d + 1 > 30) = false := decide_eq_false (by omega)
 have HN : Hid (Rt X g (w.setCell ⟨g, 1, none⟩ (.int .i64 (d + 1))) ts (d + 1)) := HR.out.set1 _
 have HO : Hid (Og g w (w.setCell ⟨g, 1, none⟩ (.int .i64 (d + 1)))) := Og.set _ _ _ _
 clear h2 h3
 go_enter Tryz.func133, Tryz.ntmps133
 go_wp2
 go_end0
 exact ⟨rfl, HN.out, HO.out⟩
set_option maxHeartbeats 1000000 in
set_option maxRecDepth 100000 in
theorem rrDown_no (X g : Nat) (ts : List Tk.Tok) (w : World) (h : Rt X g w ts 30) :
  Calls Tryz.prog 133 #[.pointer (some ⟨g, 0, none⟩)] w fun e w' => e = noProg ∧ Og g w w' := by
 obtain ⟨hX, L, h2, h3⟩ := h
 obtain ⟨c0, c1, f0, f1⟩ := h2.cells
 have HO : Hid (Og g w (w.setCell ⟨g, 1, none⟩ (.int .i64 31))) := Og.set _ _ _ _
 clear h2 h3
 go_enter Tryz.func133, Tryz.ntmps133
 go_wp2
 exact ⟨rfl, rfl, HO.out⟩
set_option maxHeartbeats 1000000 in
set_option maxRecDepth 100000 in
theorem rrUp (X g : Nat) (d : Int) (ts : List Tk.Tok) (w : World) (h : Rt X g w ts d) (h0 : 0 < d) (h1 : d ≤ 30) :
  Calls Tryz.prog 137 #[.pointer (some ⟨g, 0, none⟩)] w fun e w' => e = .returned (.tuple #[]) ∧ Rt X g w' ts (d - 1) ∧ Og g w w' := by
 have HR : Hid (Rt X g w ts d) := h
 obtain ⟨hX, L, h2, h3⟩ := h
 obtain ⟨c0, c1, f0, f1⟩ := h2.cells
 have HN : Hid (Rt X g (w.setCell ⟨g, 1, none⟩ (.int .i64 (d - 1))) ts (d - 1)) := HR.out.set1 _
 have HO : Hid (Og g w (w.setCell ⟨g, 1, none⟩ (.int .i64 (d - 1)))) := Og.set _ _ _ _
 clear h2 h3
 go_enter Tryz.func137, Tryz.ntmps137
 go_wp2
 go_end0
 exact ⟨rfl, HN.out, HO.out⟩
end PartRrB
end Go.Proofs.YtkfkbdgfnopokaaGreatDoor
