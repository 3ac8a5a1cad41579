/- The law's own helpers over tokens: rows held against each other, written and held. The law's own marks over tokens: written and held. The law on Tokens, out of what the program's Tokens answers. The program's endsInHas: whether the last token is the sign that a pattern stands behind. The program's Tokens, at every text. The specification's ReadProgram: what holds while a rule is read. -/
import Derived.Test.YtkfkbdgfnopokaaGreatDoorZaf
import Derived.Test.YtkfkbdgfnopokaaGreatDoorZac
import Derived.Test.YtkfkbdgfnopokaaGreatDoorZav
import Derived.Test.YtkfkbdgfnopokaaGreatDoorZat
namespace Go.Proofs.YtkfkbdgfnopokaaGreatDoor
section PartTkM
open Go.RowKit
end PartTkM
section PartTkN
open Go.RowKit
def WT (w : World) (g n m : Nat) : Prop := ∃ arr : Array Value, w.heap[g]? = some (.cells arr 80 (0, 0)) ∧ n * 2 ≤ arr.size ∧ ∀ i, i < m → arr[i * 2]? = some (.int .i64 ((2 * i + 1 : Nat) : Int)) ∧ arr[i * 2 + 1]? = some (.string ⟨(mk (2 * i + 2)).toArray⟩)
theorem WT.keep {w w' : World} {g n m : Nat} (h : WT w g n m) (hb : Below w.heap.size w w') : WT w' g n m := by
 obtain ⟨arr, ha, hs⟩ := h
 exact ⟨arr, (hb.block g (blk_lt ha)).trans ha, hs⟩
def FT (g : Nat) (w w' : World) : Prop := Env w w' ∧ w.heap.size ≤ w'.heap.size ∧ ∀ k, k < w.heap.size → k ≠ g → w'.heap[k]? = w.heap[k]?
theorem FT.refl (g : Nat) (w : World) : FT g w w := ⟨Env.refl w, Nat.le_refl _, fun _ _ _ => rfl⟩
theorem FT.set {g : Nat} {w w' : World} (h : FT g w w') (o : Nat) (u : Value) : FT g w (w'.setCell ⟨g, o, none⟩ u) :=
 ⟨h.1, by simpa [World.setCell] using h.2.1, fun k hk hkg => by rw [Below.heap_setCell _ _ _ _ (by show k ≠ g; exact hkg)]; exact h.2.2 k hk hkg⟩
theorem FT.up {g : Nat} {w w' w2 : World} (h : FT g w w') (hb : Below w'.heap.size w' w2) : FT g w w2 :=
 ⟨h.1.trans ⟨hb.os, hb.tape, hb.output⟩, Nat.le_trans h.2.1 hb.size, fun k hk hkg => (hb.block k (Nat.lt_of_lt_of_le hk h.2.1)).trans (h.2.2 k hk hkg)⟩
theorem FT.below {g B : Nat} {w w' : World} (h : FT g w w') (hB : B ≤ g) (hw : B ≤ w.heap.size) : Below B w w' := ⟨h.1.1, h.1.2.1, h.1.2.2, h.2.1, fun k hk => h.2.2 k (by omega) (by omega)⟩
theorem WT.next {wr a2 : World} {g n i : Nat} (h : WT wr g n i) (hi : i < n) (hb : Below (wr.setCell ⟨g, i * 2, none⟩ (.int .i64 ((2 * i + 1 : Nat) : Int))).heap.size (wr.setCell ⟨g, i * 2, none⟩ (.int .i64 ((2 * i + 1 : Nat) : Int))) a2) :
  WT (a2.setCell ⟨g, i * 2 + 1, none⟩ (.string ⟨(mk (2 * i + 2)).toArray⟩)) g n (i + 1) := by
 obtain ⟨arr, ha, hs, hm⟩ := h
 have hl := blk_lt ha
 have e1 : (wr.setCell ⟨g, i * 2, none⟩ (.int .i64 ((2 * i + 1 : Nat) : Int))).heap.size = wr.heap.size := by simp [World.setCell]
 have r1 := blk_set ha (i * 2) (.int .i64 ((2 * i + 1 : Nat) : Int))
 have r2 := (hb.block g (by rw [e1]; exact hl)).trans r1
 refine ⟨_, blk_set r2 (i * 2 + 1) _, by simpa using hs, fun j hj => ?_⟩
 by_cases hji : j = i
 ·subst hji
  refine ⟨?_, ?_⟩
  ·rw [Array.getElem?_setIfInBounds, if_neg (by omega), Array.getElem?_setIfInBounds, if_pos rfl, if_pos (by omega)]
  ·rw [Array.getElem?_setIfInBounds, if_pos rfl, if_pos (by simp; omega)]
 ·obtain ⟨k1, k2⟩ := hm j (by omega)
  refine ⟨?_, ?_⟩
  ·rw [Array.getElem?_setIfInBounds, if_neg (by omega), Array.getElem?_setIfInBounds, if_neg (by omega)]; exact k1
  ·rw [Array.getElem?_setIfInBounds, if_neg (by omega), Array.getElem?_setIfInBounds, if_neg (by omega)]; exact k2
end PartTkN
section PartTkL
open Go.RowKit
def OwnTk (B : Nat) (w : World) (v : Value) (ts : List Tk.Tok) : Prop := ∃ ad cap, v = .slice ad ts.length cap ∧ TkAt w v ts ∧ (0 < ts.length → ∃ g, ad = some ⟨g, 0, none⟩ ∧ B ≤ g ∧ WT w g ts.length 0)
theorem TkRow.own {B : Nat} {w : World} {v : Value} {ts : List Tk.Tok} (h : TkRow B w v ts) : OwnTk B w v ts := by
 have ha := h.at
 obtain ⟨ad, cap, rfl⟩ := h.form
 refine ⟨ad, cap, rfl, ha, fun h0 => ?_⟩
 obtain ⟨_, _, e, f⟩ := ha
 simp only [Value.slice.injEq] at e
 obtain ⟨rfl, -, -⟩ := e
 obtain ⟨g, rfl, hg, hc⟩ := f h0
 rcases h.2 with ⟨e, _⟩ | ⟨g2, cap2, cur, e, h1, hg2, _⟩
 ·simp at e
 ·simp only [Value.slice.injEq, Option.some.injEq, Addr.mk.injEq] at e
  obtain ⟨⟨rfl, -, -⟩, -, -⟩ := e
  refine ⟨g, rfl, h1, cur, hg2, ?_, fun i hi => by omega⟩
  have := (hc (ts.length - 1) (by omega)).2
  rw [blk_cell hg2] at this
  have := (Array.getElem?_eq_some_iff.1 this).1
  omega
theorem OwnTk.keep {B : Nat} {w w' : World} {v : Value} {ts : List Tk.Tok} (h : OwnTk B w v ts) (hb : Below w.heap.size w w') : OwnTk B w' v ts := by
 obtain ⟨ad, cap, rfl, h1, f⟩ := h
 refine ⟨ad, cap, rfl, h1.keep hb, fun h0 => ?_⟩
 obtain ⟨g, rfl, hg, k⟩ := f h0
 exact ⟨g, rfl, hg, k.keep hb⟩
def Mkd (w : World) (v : Value) (n : Nat) : Prop := ∃ ad cap, v = .slice ad n cap ∧ (0 < n → ∃ g, ad = some ⟨g, 0, none⟩ ∧ WT w g n n)
theorem Mkd.keep {w w' : World} {v : Value} {n : Nat} (h : Mkd w v n) (hb : Below w.heap.size w w') : Mkd w' v n := by
 obtain ⟨ad, cap, rfl, f⟩ := h
 refine ⟨ad, cap, rfl, fun h0 => ?_⟩
 obtain ⟨g, rfl, k⟩ := f h0
 exact ⟨g, rfl, k.keep hb⟩
end PartTkL
section PartItI
open Go.RowKit
def has (t : Tk.Tok) : Bool := decide (t.kind = 5) && decide (t.text = [126])
set_option maxRecDepth 100000 in
set_option maxHeartbeats 1000000 in
theorem endsInHas_any (v : Value) (ts : List Tk.Tok) (w : World) (h : TkAt w v ts) (hl : ts.length ≤ 1000) :
  Calls Tryz.prog 55 #[v] w fun e w' => e = .returned (.bool (has (ts.getLastD Tk.no))) ∧ Below w.heap.size w w' := by
 obtain ⟨ad, cap, rfl, f⟩ := h
 cases hn : ts.length with
 | zero =>
  have e : ts = [] := List.eq_nil_of_length_eq_zero hn
  subst e
  clear f hn
  go_enter Tryz.func55, Tryz.ntmps55
  go_wp2
  go_ret
  exact ⟨rfl, Below.refl _ _⟩
 | succ j =>
  obtain ⟨g, rfl, hg, hc⟩ := f (by omega)
  obtain ⟨c0, c1⟩ := hc j (by omega)
  have hlast : ts.getLastD Tk.no = ts.getD j Tk.no := by
   rw [List.getLastD_eq_getLast?, List.getLast?_eq_getElem?, hn]
   rfl
  rw [hlast]
  generalize ts.getD j Tk.no = t at *
  obtain ⟨X, hX⟩ : ∃ X : ByteArray, X = ⟨t.text.toArray⟩ := ⟨_, rfl⟩
  rw [← hX] at c1
  have HX : Hid (X.toList = t.text) := by show _ = _; rw [hX, Lib.toList_data]
  have i0 : (0 : Int) ≤ (j : Int) := by omega
  have i1 : (j : Int) < (j : Int) + 1 := by omega
  have d0 : decide ((0 : Int) < (j : Int) + 1) = true := decide_eq_true (by omega)
  clear hc f hlast hX
  go_enter Tryz.func55, Tryz.ntmps55
  go_wp2
  ·rename_i h1 h2
   have e : has t = true := by
    unfold has
    rw [← HX.out, decide_eq_true h2, decide_eq_true (by omega)]
    rfl
   rw [e]
   go_ret
   exact ⟨rfl, Below.refl _ _⟩
  ·rename_i h1 h2
   have e : has t = false := by
    unfold has
    rw [← HX.out, decide_eq_false h2, Bool.and_false]
   rw [e]
   go_ret
   exact ⟨rfl, Below.refl _ _⟩
  ·rename_i h1
   have e : has t = false := by
    unfold has
    rw [decide_eq_false (by omega), Bool.false_and]
   rw [e]
   go_ret
   exact ⟨rfl, Below.refl _ _⟩
end PartItI
section PartItJ
open Go.RowKit
def lenOf : Value → Nat
 | .string s => s.size
 | _ => 0
structure ImInv (l : List UInt8) (w : World) (R : List Tk.Tok × Nat) (wr : World) (v : Value) (a : Nat) (ts : List Tk.Tok) : Prop where
 row : TkRow w.heap.size wr v ts
 bel : Below w.heap.size w wr
 fit : a < l.length → ¬ (l.getD a 0 = 32 ∨ l.getD a 0 = 9) ∧ l.getD a 0 ≠ 35
 more : ∃ f, l.length < a + f ∧ Tk.loop l f a (ts.getLastD Tk.no) ts = R
theorem tkrow_nil (B : Nat) (w : World) : TkRow B w (.slice none 0 0) [] := World.ownsRow_nil _ _ _ _
def ImplTk2 : Prop := ∀ (s : ByteArray) (w : World), s.size ≤ 1048576 → Calls Tryz.prog 21 #[.string s] w fun e w' => ∃ v, e = .returned (.tuple #[v, .int .i64 ((Tk.tokens s.data.toList).2 : Int)]) ∧ TkRow w.heap.size w' v (Tk.tokens s.data.toList).1 ∧ Below w.heap.size w w'
set_option maxHeartbeats 4000000 in
set_option maxRecDepth 100000 in
theorem implTk2 : ImplTk2 := by
 intro s w hs
 obtain ⟨l, hl⟩ : ∃ l, l = s.data.toList := ⟨_, rfl⟩
 have hsl : s = tx l := by rw [hl]
 rw [← hl]
 subst hsl
 clear hl
 rw [tx_size] at hs
 obtain ⟨R, hR⟩ : ∃ R, R = Tk.tokens l := ⟨_, rfl⟩
 rw [← hR]
 have z1 : (tx l).size = l.length := tx_size l
 by_cases h600 : 600 < l.length
 ·have HR : Hid (R = ([], 601)) := by show _ = _; rw [hR]; unfold Tk.tokens; rw [if_pos h600]
  have d0 : decide ((600 : Int) < (l.length : Int)) = true := decide_eq_true (by omega)
  clear hR h600
  go_enter Tryz.func21, Tryz.ntmps21
  go_wp2
  go_ret2
  rw [HR.out]
  exact ⟨_, rfl, tkrow_nil _ _, Below.refl _ _⟩
 ·have HR : Hid (Tk.loop l (l.length + 1) 0 Tk.no [] = R) := by show _ = _; rw [hR]; unfold Tk.tokens; rw [if_neg h600]
  have d0 : decide ((600 : Int) < (l.length : Int)) = false := decide_eq_false (by omega)
  have h6 : l.length ≤ 600 := by omega
  have CG : Hid (∀ (a : Nat) (w : World), Calls Tryz.prog 53 #[.string (tx (l.drop a))] w fun e w' => e = .returned (.string (tx (l.drop (Tk.gap l a)))) ∧ Below w.heap.size w w') := fun a w => by
   have := behindGaps_any (l.drop a) w
   rw [List.drop_drop, ← Tk.gap_drop] at this
   exact this
  have CG0 : Hid (∀ (w : World), Calls Tryz.prog 53 #[.string (tx l)] w fun e w' => e = .returned (.string (tx (l.drop (Tk.gap l 0)))) ∧ Below w.heap.size w w') := fun w => CG.out 0 w
  clear hR h600 hs
  go_enter Tryz.func21, Tryz.ntmps21
  go_wp2_with fail
  refine (CG0.out _).mono ?_
  rintro e w1 ⟨rfl, b1⟩
  have I0 : Hid (ImInv l w R w1 (.slice (some ⟨w.heap.size, 0, none⟩) 0 0) (Tk.gap l 0) []) := by
   refine ⟨(TkRow.made w (Nat.le_refl _)).keep b1, (below1 _ _).trans (b1.mono (Nat.le_of_lt (size1 _ _))), Tk.gap_at l 0, ?_⟩
   obtain ⟨f, h1, h2⟩ := Tk.loop_gap l (l.length + 1) 0 Tk.no [] (Nat.zero_le _) (by omega)
   exact ⟨f, h1, by rw [← HR.out, h2]; rfl⟩
  have hg0 := Tk.gap_le l 0 (Nat.zero_le _)
  clear b1 HR CG0
  go_wp2_with fail
  go_loopw [4, 5] (fun v x wr => ∃ (a : Nat) (ts : List Tk.Tok), x = .string (tx (l.drop a)) ∧ a ≤ l.length ∧ ts.length ≤ 200 ∧ (∃ ad cap, v = .slice ad ts.length cap) ∧ Hid (ImInv l w R wr v a ts)) (fun _ x _ => lenOf x)
  case atStart => exact ⟨Tk.gap l 0, [], rfl, hg0, by simp, ⟨_, _, rfl⟩, I0.out⟩
  case round =>
   clear I0 hg0
   obtain ⟨a, ts, rfl, ha, hts, ⟨ad, cap, rfl⟩, HI⟩ := hrel
   by_cases hlt : a < l.length
   ·obtain ⟨b, r, hbr⟩ : ∃ b r, l.drop a = b :: r := ⟨_, _, List.drop_eq_getElem_cons hlt⟩
    have hlen : r.length + 1 = l.length - a := by
     have := congrArg List.length hbr
     simpa using this.symm
    have HBR : Hid (l.drop a = b :: r) := hbr
    have he : (tx (b :: r)).toList.isEmpty = false := by rw [tx_empty]; rfl
    have z2 : (tx (b :: r)).size = r.length + 1 := tx_size _
    have HL : Hid (∀ f, Tk.loop l (f + 1) a (ts.getLastD Tk.no) ts = match Tk.one l a (ts.getLastD Tk.no) with
      | none => ([], a + 1)
      | some (t, n) => if ts.length = 200 then ([], a + 1) else Tk.loop l f n t (ts ++ [t])) := fun f => Tk.loop_tok hlt (HI.out.fit hlt).1 (HI.out.fit hlt).2
    have HO : Hid (Tk.one l a (ts.getLastD Tk.no) = (fstTok b r (has (ts.getLastD Tk.no))).map fun x => (x.1, a + x.2)) := by
     show _ = _
     rw [Tk.one_drop, hbr, one_fst]
     rfl
    have C1 : Hid (Calls Tryz.prog 55 #[.slice ad ts.length cap] wr fun e w' => e = .returned (.bool (has (ts.getLastD Tk.no))) ∧ Below wr.heap.size wr w') := endsInHas_any _ ts wr HI.out.row.at (by omega)
    have C2 : Hid (∀ w, Calls Tryz.prog 54 #[.string (tx (b :: r)), .bool (has (ts.getLastD Tk.no))] w fun e w' => e = .returned (onev (fstTok b r (has (ts.getLastD Tk.no)))) ∧ Below w.heap.size w w') := fun w => firstToken_any b r _ w (by omega)
    rw [hbr]
    clear hbr
    generalize has (ts.getLastD Tk.no) = hh at *
    go_wp2_with fail
    refine C1.out.mono ?_
    rintro e w1 ⟨rfl, b1⟩
    go_wp2_with fail
    refine (C2.out _).mono ?_
    rintro e w2 ⟨rfl, b2⟩
    have B2 : Hid (Below wr.heap.size wr w2) := b1.trans (b2.mono b1.size)
    have hs2 := B2.out.size
    have BW : Hid (∀ o : Obj, Below w.heap.size w (w2.alloc o)) := fun o => (HI.out.bel.trans (B2.out.mono HI.out.bel.size)).trans ((below1 _ _).mono (by have := HI.out.bel.size; omega))
    clear C1 C2 b1 b2
    cases hone : fstTok b r hh with
    | none =>
     have HF : Hid (R = ([], a + 1)) := by
      obtain ⟨f, h1, h2⟩ := HI.out.more
      cases f with
      | zero => omega
      | succ f => show _ = _; rw [← h2, HL.out, HO.out, hone]; rfl
     clear hone HL HO
     simp only [onev]
     go_wp2
     go_ret2
     rw [HF.out]
     exact ⟨_, congrArg (fun z => Ending.returned (.tuple #[.slice none 0 0, .int .i64 z])) (by omega : (l.length : Int) - ((l.length - a : Nat) : Int) + 1 = ((a + 1 : Nat) : Int)), tkrow_nil _ _, BW.out _⟩
    | some p =>
     obtain ⟨t, m⟩ := p
     have hone2 : Tk.one l a (ts.getLastD Tk.no) = some (t, a + m) := by rw [HO.out, hone]; rfl
     obtain ⟨hn1, hn2⟩ := Tk.one_gt hlt hone2
     have d4 : ((m : Int) == 0) = false := beq_eq_false_iff_ne.2 (by omega)
     clear hone HO
     simp only [onev, tkv]
     by_cases h200 : ts.length = 200
     ·have d5 : ((ts.length : Int) == 200) = true := by rw [h200]; rfl
      have HF : Hid (R = ([], a + 1)) := by
       obtain ⟨f, h1, h2⟩ := HI.out.more
       cases f with
       | zero => omega
       | succ f => show _ = _; rw [← h2, HL.out, hone2]; show (if ts.length = 200 then _ else _) = _; rw [if_pos h200]
      clear hone2 HL h200
      go_wp2
      go_ret2
      rw [HF.out]
      exact ⟨_, congrArg (fun z => Ending.returned (.tuple #[.slice none 0 0, .int .i64 z])) (by omega : (l.length : Int) - ((l.length - a : Nat) : Int) + 1 = ((a + 1 : Nat) : Int)), tkrow_nil _ _, BW.out _⟩
     ·have d5 : ((ts.length : Int) == 200) = false := beq_eq_false_iff_ne.2 (by omega)
      have HM : Hid (∃ f, l.length < (a + m) + f ∧ Tk.loop l f (a + m) t (ts ++ [t]) = R) := by
       obtain ⟨f, h1, h2⟩ := HI.out.more
       cases f with
       | zero => omega
       | succ f =>
        refine ⟨f, by omega, ?_⟩
        rw [← h2, HL.out, hone2]
        show _ = (if ts.length = 200 then _ else _)
        rw [if_neg h200]
      have HROW : Hid (TkRow w.heap.size (w2.alloc (.cells #[.int .i64 (t.kind : Int), .string ⟨t.text.toArray⟩] 80)) (.slice ad ts.length cap) ts) := (HI.out.row.keep B2.out).alloc _
      have hlen2 : ts.length < 200 := by omega
      have hm1 : m ≤ r.length + 1 := by omega
      have CN : Hid (∀ (w : World), Calls Tryz.prog 53 #[.string (tx (l.drop (a + m)))] w fun e w' => e = .returned (.string (tx (l.drop (Tk.gap l (a + m))))) ∧ Below w.heap.size w w') := fun w => CG.out (a + m) w
      have e3 : (tx (b :: r)).extract m (r.length + 1) = tx (l.drop (a + m)) := by
       rw [ext_take, tx_list, List.take_of_length_le (by simp), ← HBR.out, List.drop_drop]
      have i1 : (m : Int) ≤ (r.length : Int) + 1 := by omega
      have i0 : (0 : Int) ≤ (m : Int) := by omega
      clear hone2 HL h200 CG hlen
      go_wp2_with (at_builtin; go_must (refine HROW.out.push rfl (.tmp 38) (.tmp 40) rfl rfl t _ _ rfl (w2.heap.size + 1) (by simp) rfl ?hl ?hb ?_))
      case hl => omega
      case hb => have := HI.out.bel.size; simp; omega
      ·intro g cap2 w3 hrow hg1 hg2 hbel hblk
       have HROW2 : Hid (TkRow w.heap.size w3 (.slice (some ⟨g, 0, none⟩) (ts.length + 1) cap2) (ts ++ [t])) := hrow
       have HB3 : Hid (Below w.heap.size w w3) := (BW.out _).trans hbel
       clear hrow hg1 hg2 hbel hblk HROW BW B2 HI
       go_wp2_with fail
       refine (CN.out _).mono ?_
       rintro e w4 ⟨rfl, b4⟩
       have HN : Hid (ImInv l w R w4 (.slice (some ⟨g, 0, none⟩) (ts.length + 1) cap2) (Tk.gap l (a + m)) (ts ++ [t])) := by
        refine ⟨HROW2.out.keep b4, HB3.out.trans (b4.mono HB3.out.size), Tk.gap_at l (a + m), ?_⟩
        obtain ⟨f, h1, h2⟩ := HM.out
        obtain ⟨f2, h3, h4⟩ := Tk.loop_gap l f (a + m) t (ts ++ [t]) hn2 h1
        refine ⟨f2, h3, ?_⟩
        rw [List.getLastD_concat, ← h4, h2]
       have hga := Tk.gap_ge l (a + m)
       have hgl := Tk.gap_le l (a + m) hn2
       clear b4 CN HM
       go_wp2
       go_roundw
       case rel => exact ⟨Tk.gap l (a + m), ts ++ [t], rfl, hgl, by simp; omega, ⟨some ⟨g, 0, none⟩, cap2, by simp⟩, HN.out⟩
       case measure =>
        show (tx (l.drop (Tk.gap l (a + m)))).size < (tx (b :: r)).size
        rw [← HBR.out, tx_size, tx_size, List.length_drop, List.length_drop]
        omega
   ·obtain rfl : a = l.length := by omega
    have he : (tx (l.drop l.length)).toList.isEmpty = true := by rw [tx_empty]; simp
    have HF : Hid (R = (ts, 0)) := by
     obtain ⟨f, h1, h2⟩ := HI.out.more
     show _ = _
     rw [← h2]
     exact Tk.loop_end (Nat.le_refl _)
    go_wp2
    go_ret2
    rw [HF.out]
    exact ⟨_, rfl, HI.out.row, HI.out.bel⟩
end PartItJ
section PartPrW
open Go.RowKit
section
variable {ts : List Tk.Tok} {B g : Nat} {L : Value} {Xs : Nat → Prop} {d : Int} {st : Pr.PS}
theorem RS.grow {w w' : World} {v : Value} {q' : Nat} (Z : Nat → Prop) (h : RS ts B g L Xs w d st v) (hs : w.heap.size ≤ w'.heap.size) (hk : ∀ k, k < w.heap.size → ¬ Z k → w'.heap[k]? = w.heap[k]?) (hZ : ∀ k, Z k → Xs k) (hq : Z q' ∨ w.heap.size ≤ q') (hq2 : q' < w'.heap.size) : RS ts B g L (fun x => Xs x ∨ x = q') w' d st v := by
 have hgl : g < w.heap.size := Nat.lt_of_lt_of_le h.low h.sz
 have hng : ∀ k, Z k → B ≤ k := fun k hz => (h.xb k (hZ k hz)).1
 refine ⟨(hk g hgl (fun hz => by have := hng g hz; have := h.low; omega)).trans h.rg, ?_, ?_, Nat.le_trans h.sz hs, h.far, h.low, fun x hx2 => ?_⟩
 ·obtain ⟨cs, hn, hl, f⟩ := h.np
  refine ⟨cs, NR.keep hn (fun b e => hk b (h.np.own b e).2 (fun hz => (h.xb b (hZ b hz)).2.2 e)), hl, fun i hi => ?_⟩
  obtain ⟨h1, h2, u, h3, ka, kc, e, h4⟩ := f i hi
  refine ⟨h1, h2, u, h3, ka, kc, e, fun h0 => ?_⟩
  obtain ⟨b, k1, k2, k3, k4, k5, k6⟩ := h4 h0
  have hbz : ¬ Z b := fun hz => k5 (hZ b hz)
  refine ⟨b, k1, Nat.lt_of_lt_of_le k2 hs, k3, k4, fun hy => ?_, fun j hj => ?_⟩
  ·rcases hy with hy | hy
   ·exact k5 hy
   ·rcases hq with e | e
    ·exact hbz (hy ▸ e)
    ·omega
  ·rw [cell_blk (hk b k2 hbz)]
   exact k6 j hj
 ·obtain ⟨ad, cap, hL, f⟩ := h.tk
  refine ⟨ad, cap, hL, fun h0 => ?_⟩
  obtain ⟨b, rfl, hb, hc⟩ := f h0
  have hfar := h.far b (by rw [hL]; rfl)
  have hbk := hk b hb (fun hz => by have := hng b hz; omega)
  refine ⟨b, rfl, Nat.lt_of_lt_of_le hb hs, fun j hj => ?_⟩
  rw [cell_blk hbk, cell_blk hbk]
  exact hc j hj
 ·rcases hx2 with hx2 | hx2
  ·have := h.xb x hx2
   exact ⟨this.1, Nat.lt_of_lt_of_le this.2.1 hs, this.2.2⟩
  ·rw [hx2]
   rcases hq with e | e
   ·have := h.xb q' (hZ q' e)
    exact ⟨this.1, Nat.lt_of_lt_of_le this.2.1 hs, this.2.2⟩
   ·exact ⟨by have := h.sz; omega, hq2, fun e2 => by have := (h.np.own _ e2).2; omega⟩
end
def Xp (P : Nat) (rv : Value) : Nat → Prop := fun x => x = P ∨ rv.ownBlock = some x
structure Rb (ts : List Tk.Tok) (g xb : Nat) (L : Value) (Wr : World) (rv : Value) (rs : List Pg.Rl) (w : World) (st : Pr.PS) (v : Value) (a b c : Int) : Prop where
 at' : At ts (g + 1) g L (plus (Xp (g + 1) rv) xb) Wr (.slice none 0 0) w 0 st v
 pb : w.heap[g + 1]? = some (.cells #[.slice none 0 0, rv] 25 (0, 0))
 xc : w.heap[xb]? = some (.cells #[.int .i64 a, .int .i64 b, .int .i64 c] 48 (0, 0))
 rr : RRow (g + 1) w rv rs
 low : Wr.heap.size ≤ g
 ne1 : g + 1 ≠ xb
 ne2 : rv.ownBlock ≠ some xb
 ne3 : rv.ownBlock ≠ some (g + 1)
section
variable {ts : List Tk.Tok} {g xb : Nat} {L : Value} {Wr : World} {rv : Value} {rs : List Pg.Rl} {w : World} {st : Pr.PS} {v : Value} {a b c : Int}
theorem Rb.step {w' : World} {st' : Pr.PS} {v' : Value} (h : Rb ts g xb L Wr rv rs w st v a b c) (k : At ts (g + 1) g L (plus (Xp (g + 1) rv) xb) w v w' 0 st' v') : Rb ts g xb L Wr rv rs w' st' v' a b c := by
 have kept : ∀ x, plus (Xp (g + 1) rv) xb x → w'.heap[x]? = w.heap[x]? := fun x hx => by
  have := h.at'.rs.xb x hx
  exact k.kb.2.2.1 x this.2.1 (by have := this.1; omega) this.2.2
 exact ⟨h.at'.then k, (kept _ (.inl (.inl rfl))).trans h.pb, (kept _ (.inr rfl)).trans h.xc, RRow.keep h.rr (fun q e => kept q (.inl (.inr e))), h.low, h.ne1, h.ne2, h.ne3⟩
theorem Rb.set (h : Rb ts g xb L Wr rv rs w st v a b c) (o : Nat) (z : Int) (a' b' c' : Int) (hc : (w.setCell ⟨xb, o, none⟩ (.int .i64 z)).heap[xb]? = some (.cells #[.int .i64 a', .int .i64 b', .int .i64 c'] 48 (0, 0))) : Rb ts g xb L Wr rv rs (w.setCell ⟨xb, o, none⟩ (.int .i64 z)) st v a' b' c' := by
 have hx := h.at'.rs.xb xb (.inr rfl)
 refine ⟨h.at'.setX (.inr rfl) (by have := h.low; omega) o _, ?_, hc, RRow.keep h.rr (fun q e => ?_), h.low, h.ne1, h.ne2, h.ne3⟩
 ·rw [Below.heap_setCell _ _ _ _ (by show g + 1 ≠ xb; exact h.ne1)]
  exact h.pb
 ·exact Below.heap_setCell _ _ _ _ (by show q ≠ xb; exact fun e2 => h.ne2 (e2 ▸ e))
theorem Rb.set0 (h : Rb ts g xb L Wr rv rs w st v a b c) (z : Int) : Rb ts g xb L Wr rv rs (w.setCell ⟨xb, 0, none⟩ (.int .i64 z)) st v z b c := h.set 0 z z b c (by simp [World.setCell, Array.getElem?_modify, h.xc])
theorem Rb.set1 (h : Rb ts g xb L Wr rv rs w st v a b c) (z : Int) : Rb ts g xb L Wr rv rs (w.setCell ⟨xb, 1, none⟩ (.int .i64 z)) st v a z c := h.set 1 z a z c (by simp [World.setCell, Array.getElem?_modify, h.xc])
theorem Rb.set2 (h : Rb ts g xb L Wr rv rs w st v a b c) (z : Int) : Rb ts g xb L Wr rv rs (w.setCell ⟨xb, 2, none⟩ (.int .i64 z)) st v a b z := h.set 2 z a b z (by simp [World.setCell, Array.getElem?_modify, h.xc])
theorem Rb.more {w' : World} {q' cap n : Nat} {r : Pg.Rl} (h : Rb ts g xb L Wr rv rs w st v a b c) (hrow : RRow (g + 1) w' (.slice (some ⟨q', 0, none⟩) n cap) (rs ++ [r])) (hq : rv.ownBlock = some q' ∨ w.heap.size ≤ q') (hq2 : q' < w'.heap.size) (hs : w.heap.size ≤ w'.heap.size) (he : Env w w') (hk : ∀ k, k < w.heap.size → rv.ownBlock ≠ some k → w'.heap[k]? = w.heap[k]?) :
  At ts (g + 1) g L (Xp (g + 1) (.slice (some ⟨q', 0, none⟩) n cap)) Wr (.slice none 0 0) (w'.setCell ⟨g + 1, 1, none⟩ (.slice (some ⟨q', 0, none⟩) n cap)) 0 st v ∧
  (w'.setCell ⟨g + 1, 1, none⟩ (.slice (some ⟨q', 0, none⟩) n cap)).heap[g + 1]? = some (.cells #[.slice none 0 0, .slice (some ⟨q', 0, none⟩) n cap] 25 (0, 0)) ∧
  RRow (g + 1) (w'.setCell ⟨g + 1, 1, none⟩ (.slice (some ⟨q', 0, none⟩) n cap)) (.slice (some ⟨q', 0, none⟩) n cap) (rs ++ [r]) ∧ (Value.slice (some ⟨q', 0, none⟩) n cap).ownBlock ≠ some (g + 1) ∧
  w'.heap[g + 1]? = some (.cells #[.slice none 0 0, rv] 25 (0, 0)) := by
 have hP := h.at'.rs.xb (g + 1) (.inl (.inl rfl))
 have hqP : q' ≠ g + 1 := by
  intro e
  rcases hq with e2 | e2
  ·exact h.ne3 (e ▸ e2)
  ·omega
 have hp7 : w'.heap[g + 1]? = some (.cells #[.slice none 0 0, rv] 25 (0, 0)) := (hk (g + 1) hP.2.1 h.ne3).trans h.pb
 have hr := RS.grow (q' := q') (fun k => rv.ownBlock = some k) h.at'.rs hs (fun k hk1 hz => hk k hk1 hz) (fun k hz => .inl (.inr hz)) hq hq2
 have hkb : KB g (.slice none 0 0) Wr w' v := by
  have k0 := h.at'.kb
  refine ⟨k0.1.trans he, Nat.le_trans k0.2.1 hs, fun k hk2 hg hv => ?_, k0.2.2.2⟩
  rw [hk k (Nat.lt_of_lt_of_le hk2 k0.2.1) (fun e => by have := (h.at'.rs.xb k (.inl (.inr e))).1; have := h.low; omega)]
  exact k0.2.2.1 k hk2 hg hv
 have hat : At ts (g + 1) g L (Xp (g + 1) (.slice (some ⟨q', 0, none⟩) n cap)) Wr (.slice none 0 0) w' 0 st v := by
  refine ⟨hr.sub fun x hx => ?_, hkb⟩
  rcases hx with hx | hx
  ·exact .inl (.inl (.inl hx))
  ·exact .inr (by simpa [Value.ownBlock] using hx.symm)
 refine ⟨hat.setX (.inl rfl) (by have := h.low; omega) 1 _, ?_, RRow.keep hrow (fun q e => ?_), ?_, hp7⟩
 ·simp [World.setCell, Array.getElem?_modify, hp7]
 ·have e2 : q' = q := by simpa [Value.ownBlock] using e
  exact Below.heap_setCell _ _ _ _ (by show q ≠ g + 1; omega)
 ·intro e
  exact hqP (by simpa [Value.ownBlock] using e)
end
end PartPrW
end Go.Proofs.YtkfkbdgfnopokaaGreatDoor
