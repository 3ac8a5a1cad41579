/- The law on Tokens. -/
import Derived.Test.YtbiknfhfpmomfapItH
import Derived.Test.YtbiknfhfpmomfapTkL
namespace Go.Proofs.Ytbiknfhfpmomfap
open Go.RowKit

def has (t : Tk.Tok) : Bool := decide (t.kind = 5) && decide (t.text = [126])
set_option maxRecDepth 100000 in
set_option maxHeartbeats 1000000 in
theorem endsInHas_any (v : Value) (ts : List Tk.Tok) (w : World) (h : TkAt w v ts) (hl : ts.length ≤ 1000) :
    Calls Try.prog 12 #[v] w fun e w' => e = .returned (.bool (has (ts.getLastD Tk.no))) ∧ Below w.heap.size w w' := by
  obtain ⟨ad, cap, rfl, f⟩ := h
  cases hn : ts.length with
  | zero =>
    have e : ts = [] := List.eq_nil_of_length_eq_zero hn
    subst e
    clear f hn
    go_enter Try.func12, Try.ntmps12
    go_wp2
    go_ret
    exact ⟨rfl, Below.refl _ _⟩
  | succ j =>
    obtain ⟨g, rfl, hg, hc⟩ := f (by omega)
    obtain ⟨c0, c1⟩ := hc j (by omega)
    have hlast : ts.getLastD Tk.no = ts.getD j Tk.no := by
      rw [List.getLastD_eq_getLast?, List.getLast?_eq_getElem?, hn]
      rfl
    rw [hlast]
    generalize ts.getD j Tk.no = t at *
    obtain ⟨X, hX⟩ : ∃ X : ByteArray, X = ⟨t.text.toArray⟩ := ⟨_, rfl⟩
    rw [← hX] at c1
    have HX : Hid (X.toList = t.text) := by show _ = _; rw [hX, Lib.toList_data]
    have i0 : (0 : Int) ≤ (j : Int) := by omega
    have i1 : (j : Int) < (j : Int) + 1 := by omega
    have d0 : decide ((0 : Int) < (j : Int) + 1) = true := decide_eq_true (by omega)
    clear hc f hlast hX
    go_enter Try.func12, Try.ntmps12
    go_wp2
    · rename_i h1 h2
      have e : has t = true := by
        unfold has
        rw [← HX.out, decide_eq_true h2, decide_eq_true (by omega)]
        rfl
      rw [e]
      go_ret
      exact ⟨rfl, Below.refl _ _⟩
    · rename_i h1 h2
      have e : has t = false := by
        unfold has
        rw [← HX.out, decide_eq_false h2, Bool.and_false]
      rw [e]
      go_ret
      exact ⟨rfl, Below.refl _ _⟩
    · rename_i h1
      have e : has t = false := by
        unfold has
        rw [decide_eq_false (by omega), Bool.false_and]
      rw [e]
      go_ret
      exact ⟨rfl, Below.refl _ _⟩
#print axioms endsInHas_any
open Go.RowKit

theorem own_nil (B : Nat) (w : World) : OwnTk B w (.slice none 0 0) [] := by
  refine ⟨none, 0, rfl, ⟨none, 0, rfl, fun h => ?_⟩, fun h => ?_⟩ <;> simp at h
def lenOf : Value → Nat
  | .string s => s.size
  | _ => 0
/-- What holds at each round: the row of tokens, and what is still to come. -/
structure ImInv (l : List UInt8) (w : World) (R : List Tk.Tok × Nat) (wr : World) (v : Value) (a : Nat) (ts : List Tk.Tok) : Prop where
  row : TkRow w.heap.size wr v ts
  bel : Below w.heap.size w wr
  fit : a < l.length → ¬ (l.getD a 0 = 32 ∨ l.getD a 0 = 9) ∧ l.getD a 0 ≠ 35
  more : ∃ f, l.length < a + f ∧ Tk.loop l f a (ts.getLastD Tk.no) ts = R

set_option maxHeartbeats 4000000 in
set_option maxRecDepth 100000 in
theorem implTk : ImplTk := by
  intro s w hs
  obtain ⟨l, hl⟩ : ∃ l, l = s.data.toList := ⟨_, rfl⟩
  have hsl : s = tx l := by rw [hl]
  rw [← hl]
  subst hsl
  clear hl
  rw [tx_size] at hs
  obtain ⟨R, hR⟩ : ∃ R, R = Tk.tokens l := ⟨_, rfl⟩
  rw [← hR]
  have z1 : (tx l).size = l.length := tx_size l
  by_cases h600 : 600 < l.length
  · have HR : Hid (R = ([], 601)) := by show _ = _; rw [hR]; unfold Tk.tokens; rw [if_pos h600]
    have d0 : decide ((600 : Int) < (l.length : Int)) = true := decide_eq_true (by omega)
    clear hR h600
    go_enter Try.func5, Try.ntmps5
    go_wp2
    go_ret2
    rw [HR.out]
    exact ⟨_, rfl, own_nil _ _, Below.refl _ _⟩
  · have HR : Hid (Tk.loop l (l.length + 1) 0 Tk.no [] = R) := by show _ = _; rw [hR]; unfold Tk.tokens; rw [if_neg h600]
    have d0 : decide ((600 : Int) < (l.length : Int)) = false := decide_eq_false (by omega)
    have h6 : l.length ≤ 600 := by omega
    have CG : Hid (∀ (a : Nat) (w : World), Calls Try.prog 10 #[.string (tx (l.drop a))] w fun e w' => e = .returned (.string (tx (l.drop (Tk.gap l a)))) ∧ Below w.heap.size w w') := fun a w => by
      have := behindGaps_any (l.drop a) w
      rw [List.drop_drop, ← Tk.gap_drop] at this
      exact this
    have CG0 : Hid (∀ (w : World), Calls Try.prog 10 #[.string (tx l)] w fun e w' => e = .returned (.string (tx (l.drop (Tk.gap l 0)))) ∧ Below w.heap.size w w') := fun w => CG.out 0 w
    clear hR h600 hs
    go_enter Try.func5, Try.ntmps5
    go_wp2_with fail
    refine (CG0.out _).mono ?_
    rintro e w1 ⟨rfl, b1⟩
    have I0 : Hid (ImInv l w R w1 (.slice (some ⟨w.heap.size, 0, none⟩) 0 0) (Tk.gap l 0) []) := by
      refine ⟨(TkRow.made w (Nat.le_refl _)).keep b1, (below1 _ _).trans (b1.mono (Nat.le_of_lt (size1 _ _))), Tk.gap_at l 0, ?_⟩
      obtain ⟨f, h1, h2⟩ := Tk.loop_gap l (l.length + 1) 0 Tk.no [] (Nat.zero_le _) (by omega)
      exact ⟨f, h1, by rw [← HR.out, h2]; rfl⟩
    have hg0 := Tk.gap_le l 0 (Nat.zero_le _)
    clear b1 HR CG0
    go_wp2_with fail
    go_loopw [4, 5] (fun v x wr => ∃ (a : Nat) (ts : List Tk.Tok), x = .string (tx (l.drop a)) ∧ a ≤ l.length ∧ ts.length ≤ 200 ∧ (∃ ad cap, v = .slice ad ts.length cap) ∧ Hid (ImInv l w R wr v a ts)) (fun _ x _ => lenOf x)
    case atStart => exact ⟨Tk.gap l 0, [], rfl, hg0, by simp, ⟨_, _, rfl⟩, I0.out⟩
    case round =>
      clear I0 hg0
      obtain ⟨a, ts, rfl, ha, hts, ⟨ad, cap, rfl⟩, HI⟩ := hrel
      by_cases hlt : a < l.length
      · obtain ⟨b, r, hbr⟩ : ∃ b r, l.drop a = b :: r := ⟨_, _, List.drop_eq_getElem_cons hlt⟩
        have hlen : r.length + 1 = l.length - a := by
          have := congrArg List.length hbr
          simpa using this.symm
        have HBR : Hid (l.drop a = b :: r) := hbr
        have he : (tx (b :: r)).toList.isEmpty = false := by rw [tx_empty]; rfl
        have z2 : (tx (b :: r)).size = r.length + 1 := tx_size _
        have HL : Hid (∀ f, Tk.loop l (f + 1) a (ts.getLastD Tk.no) ts = match Tk.one l a (ts.getLastD Tk.no) with
            | none => ([], a + 1)
            | some (t, n) => if ts.length = 200 then ([], a + 1) else Tk.loop l f n t (ts ++ [t])) := fun f => Tk.loop_tok hlt (HI.out.fit hlt).1 (HI.out.fit hlt).2
        have HO : Hid (Tk.one l a (ts.getLastD Tk.no) = (fstTok b r (has (ts.getLastD Tk.no))).map fun x => (x.1, a + x.2)) := by
          show _ = _
          rw [Tk.one_drop, hbr, one_fst]
          rfl
        have C1 : Hid (Calls Try.prog 12 #[.slice ad ts.length cap] wr fun e w' => e = .returned (.bool (has (ts.getLastD Tk.no))) ∧ Below wr.heap.size wr w') := endsInHas_any _ ts wr HI.out.row.at (by omega)
        have C2 : Hid (∀ w, Calls Try.prog 11 #[.string (tx (b :: r)), .bool (has (ts.getLastD Tk.no))] w fun e w' => e = .returned (onev (fstTok b r (has (ts.getLastD Tk.no)))) ∧ Below w.heap.size w w') := fun w => firstToken_any b r _ w (by omega)
        rw [hbr]
        clear hbr
        generalize has (ts.getLastD Tk.no) = hh at *
        go_wp2_with fail
        refine C1.out.mono ?_
        rintro e w1 ⟨rfl, b1⟩
        go_wp2_with fail
        refine (C2.out _).mono ?_
        rintro e w2 ⟨rfl, b2⟩
        have B2 : Hid (Below wr.heap.size wr w2) := b1.trans (b2.mono b1.size)
        have hs2 := B2.out.size
        have BW : Hid (∀ o : Obj, Below w.heap.size w (w2.alloc o)) := fun o => (HI.out.bel.trans (B2.out.mono HI.out.bel.size)).trans ((below1 _ _).mono (by have := HI.out.bel.size; omega))
        clear C1 C2 b1 b2
        cases hone : fstTok b r hh with
        | none =>
          have HF : Hid (R = ([], a + 1)) := by
            obtain ⟨f, h1, h2⟩ := HI.out.more
            cases f with
            | zero => omega
            | succ f => show _ = _; rw [← h2, HL.out, HO.out, hone]; rfl
          clear hone HL HO
          simp only [onev]
          go_wp2
          go_ret2
          rw [HF.out]
          exact ⟨_, congrArg (fun z => Ending.returned (.tuple #[.slice none 0 0, .int .i64 z])) (by omega : (l.length : Int) - ((l.length - a : Nat) : Int) + 1 = ((a + 1 : Nat) : Int)), own_nil _ _, BW.out _⟩
        | some p =>
          obtain ⟨t, m⟩ := p
          have hone2 : Tk.one l a (ts.getLastD Tk.no) = some (t, a + m) := by rw [HO.out, hone]; rfl
          obtain ⟨hn1, hn2⟩ := Tk.one_gt hlt hone2
          have d4 : ((m : Int) == 0) = false := beq_eq_false_iff_ne.2 (by omega)
          clear hone HO
          simp only [onev, tkv]
          by_cases h200 : ts.length = 200
          · have d5 : ((ts.length : Int) == 200) = true := by rw [h200]; rfl
            have HF : Hid (R = ([], a + 1)) := by
              obtain ⟨f, h1, h2⟩ := HI.out.more
              cases f with
              | zero => omega
              | succ f => show _ = _; rw [← h2, HL.out, hone2]; show (if ts.length = 200 then _ else _) = _; rw [if_pos h200]
            clear hone2 HL h200
            go_wp2
            go_ret2
            rw [HF.out]
            exact ⟨_, congrArg (fun z => Ending.returned (.tuple #[.slice none 0 0, .int .i64 z])) (by omega : (l.length : Int) - ((l.length - a : Nat) : Int) + 1 = ((a + 1 : Nat) : Int)), own_nil _ _, BW.out _⟩
          · have d5 : ((ts.length : Int) == 200) = false := beq_eq_false_iff_ne.2 (by omega)
            have HM : Hid (∃ f, l.length < (a + m) + f ∧ Tk.loop l f (a + m) t (ts ++ [t]) = R) := by
              obtain ⟨f, h1, h2⟩ := HI.out.more
              cases f with
              | zero => omega
              | succ f =>
                refine ⟨f, by omega, ?_⟩
                rw [← h2, HL.out, hone2]
                show _ = (if ts.length = 200 then _ else _)
                rw [if_neg h200]
            have HROW : Hid (TkRow w.heap.size (w2.alloc (.cells #[.int .i64 (t.kind : Int), .string ⟨t.text.toArray⟩] 29)) (.slice ad ts.length cap) ts) := (HI.out.row.keep B2.out).alloc _
            have hlen2 : ts.length < 200 := by omega
            have hm1 : m ≤ r.length + 1 := by omega
            have CN : Hid (∀ (w : World), Calls Try.prog 10 #[.string (tx (l.drop (a + m)))] w fun e w' => e = .returned (.string (tx (l.drop (Tk.gap l (a + m))))) ∧ Below w.heap.size w w') := fun w => CG.out (a + m) w
            have e3 : (tx (b :: r)).extract m (r.length + 1) = tx (l.drop (a + m)) := by
              rw [ext_take, tx_list, List.take_of_length_le (by simp), ← HBR.out, List.drop_drop]
            have i1 : (m : Int) ≤ (r.length : Int) + 1 := by omega
            have i0 : (0 : Int) ≤ (m : Int) := by omega
            clear hone2 HL h200 CG hlen
            go_wp2_with (at_builtin; go_must (refine HROW.out.push rfl (.tmp 38) (.tmp 40) rfl rfl t _ _ rfl (w2.heap.size + 1) (by simp) rfl ?hl ?hb ?_))
            case hl => omega
            case hb => have := HI.out.bel.size; simp; omega
            · intro g cap2 w3 hrow hg1 hg2 hbel hblk
              have HROW2 : Hid (TkRow w.heap.size w3 (.slice (some ⟨g, 0, none⟩) (ts.length + 1) cap2) (ts ++ [t])) := hrow
              have HB3 : Hid (Below w.heap.size w w3) := (BW.out _).trans hbel
              clear hrow hg1 hg2 hbel hblk HROW BW B2 HI
              go_wp2_with fail
              refine (CN.out _).mono ?_
              rintro e w4 ⟨rfl, b4⟩
              have HN : Hid (ImInv l w R w4 (.slice (some ⟨g, 0, none⟩) (ts.length + 1) cap2) (Tk.gap l (a + m)) (ts ++ [t])) := by
                refine ⟨HROW2.out.keep b4, HB3.out.trans (b4.mono HB3.out.size), Tk.gap_at l (a + m), ?_⟩
                obtain ⟨f, h1, h2⟩ := HM.out
                obtain ⟨f2, h3, h4⟩ := Tk.loop_gap l f (a + m) t (ts ++ [t]) hn2 h1
                refine ⟨f2, h3, ?_⟩
                rw [List.getLastD_concat, ← h4, h2]
              have hga := Tk.gap_ge l (a + m)
              have hgl := Tk.gap_le l (a + m) hn2
              clear b4 CN HM
              go_wp2
              go_roundw
              case rel => exact ⟨Tk.gap l (a + m), ts ++ [t], rfl, hgl, by simp; omega, ⟨some ⟨g, 0, none⟩, cap2, by simp⟩, HN.out⟩
              case measure =>
                show (tx (l.drop (Tk.gap l (a + m)))).size < (tx (b :: r)).size
                rw [← HBR.out, tx_size, tx_size, List.length_drop, List.length_drop]
                omega
      · obtain rfl : a = l.length := by omega
        have he : (tx (l.drop l.length)).toList.isEmpty = true := by rw [tx_empty]; simp
        have HF : Hid (R = (ts, 0)) := by
          obtain ⟨f, h1, h2⟩ := HI.out.more
          show _ = _
          rw [← h2]
          exact Tk.loop_end (Nat.le_refl _)
        go_wp2
        go_ret2
        rw [HF.out]
        exact ⟨_, rfl, HI.out.row.own, HI.out.bel⟩
#print axioms implTk
open Go.RowKit

theorem lawTokens (s : ByteArray) (w : World) :
    Calls Try.prog 3 #[.string s] w fun e w' => e = .returned (.bool true) ∧ Below w.heap.size w w' := lawTokens_of implTk s w
#print axioms lawTokens
end Go.Proofs.Ytbiknfhfpmomfap
