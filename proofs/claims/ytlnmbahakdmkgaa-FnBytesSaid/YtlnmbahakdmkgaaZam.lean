/- Where a piece may end, by the specification: again and again, walked. Where a piece may end, by the specification: two pieces, one behind the other or one of both. -/
import Derived.Test.YtlnmbahakdmkgaaZad
namespace Go.Proofs.Ytlnmbahakdmkgaa
section PartSpF
open Go.RowKit

set_option maxHeartbeats 4000000 in
set_option maxRecDepth 100000 in
theorem spAgain (c : Mm) (L : Lie c) (k i : Nat) (hk : k < c.K) (hC : AtC c k) (X : Nat → Prop) (w : World) (hX : ∀ b, X b → c.M1 ≤ b ∧ b < w.heap.size) (h : Memo c X w) (hi : i < c.s.size + 1) :
    Calls Try.prog 43 #[.pointer (some ⟨c.m, 0, none⟩), .int .i64 (k : Int), .int .i64 (i : Int)] w (fun e w' => ∃ q, e = .returned (.slice (some ⟨q, 0, none⟩) (c.s.size + 1) (c.s.size + 1)) ∧ w.heap.size ≤ q ∧ (∃ fo, BBlk w' q (c.s.size + 1) fo ∧ ∀ j, j < c.s.size + 1 → (fo j = true ↔ ∃ v, En.Reach c.ps c.s k i v ∧ En.Ends c.ps c.s k v j)) ∧ Memo c (fun b => X b ∨ b = q) w' ∧ FM c.M0 c.M1 w w') := by
  obtain ⟨-, c1, -⟩ := h.cells k i hk hi
  have hs := L.hs
  obtain ⟨M, ⟨hMs, hMat⟩, hM, hmk⟩ := makeB_run (c.s.size + 1) (by omega)
  have hmk1 : ∀ W : World, (Instr.makeSlice 51 (.int .i64 ((c.s.size : Int) + 1)) (.int .i64 ((c.s.size : Int) + 1))).run Try.prog W = .ok (.slice (some ⟨W.heap.size, 0, none⟩) (c.s.size + 1) (c.s.size + 1)) (W.alloc (.cells M 4)) := hmk
  have hMi := hMat i hi
  have i0 : (i : Int) < ((c.s.size + 1 : Nat) : Int) := by omega
  have HA : Hid (Ag c X w (.slice (some ⟨w.heap.size + 1 + 1, 0, none⟩) 1 1) (((w.alloc (.cells M 4)).alloc (.cells (M.setIfInBounds i (.bool true)) 4)).alloc (.cells #[.int .i64 (i : Int)] 3)) [i] (fun _ => false) (fun j => if j = i then true else false)) := Ag.begin c L X w hX h i hi M hMs hMat
  have hMl : c.M1 ≤ w.heap.size := h.2.2.2.2.2
  have HX : Hid (∀ b, X b → c.M1 ≤ b ∧ b < w.heap.size) := hX
  have HC : Hid (AtC c k) := hC
  have HL : Hid (Lie c) := L
  clear hmk h hX hC L hM hMat
  go_enter Try.func43, Try.ntmps43
  go_wp2_with fail
  clear c1 hmk1 hMi
  go_loopw [10] (fun y wr => ∃ (ws : List Nat) (fo fs : Nat → Bool), Hid (Ag c X w y wr ws fo fs) ∧ Hid (En.Wl c.ps c.s k i ws fo fs)) (fun y wr => 2 * unseen (w.heap.size + 1) (c.s.size + 1) wr + lenOf y)
  case atStart => exact ⟨[i], _, _, HA.out, En.Wl.start _ _ _ _ hi⟩
  case round =>
    obtain ⟨ws, fo, fs, HG, HW⟩ := hrel
    clear HA
    rcases List.eq_nil_or_concat ws with rfl | ⟨us, v, rfl⟩
    · obtain ⟨ya, yc, rfl⟩ := HG.out.form0
      go_wp2_with fail
      go_ret
      refine ⟨_, rfl, Nat.le_refl _, ⟨fo, HG.out.bo, fun j hj => HW.out.fin hi j hj⟩, HG.out.mem.more (fun b hb => .inl ?_), HG.out.fm⟩
      rcases hb with hb | hb
      · exact .inl hb
      · exact .inr (.inl hb)
    · rw [List.concat_eq_append] at HG HW
      obtain ⟨g, cap, rfl, hcap, hcv⟩ := HG.out.form
      have hfew := HG.out.few
      have hv := (HW.out.todo v (by simp)).1
      obtain ⟨U, hU⟩ : ∃ U, U = Uns (c.s.size + 1) fs := ⟨_, rfl⟩
      have HU : Hid (U = unseen (w.heap.size + 1) (c.s.size + 1) wr) := hU.trans (unseen_eq HG.out.bs).symm
      have HU2 : Hid (U = Uns (c.s.size + 1) fs) := hU
      rw [List.length_append, List.length_singleton, ← hU] at hfew
      clear hU
      have HG1 : Hid (Ag c X w (.slice (some ⟨g, 0, none⟩) us.length cap) wr us fo fs) := HG.out.pop
      have HW1 : Hid (En.Wj c.ps c.s k i v 0 us fo fs) := HW.out.pop
      clear HG HW
      obtain ⟨m, hm⟩ : ∃ m, m = us.length := ⟨_, rfl⟩
      rw [← hm] at hcap hcv hfew HG1 ⊢
      have HM : Hid (m = us.length) := hm
      clear hm
      have m1 : (m : Int) < ((m + 1 : Nat) : Int) := by omega
      have m2 : (m : Int) ≤ (cap : Int) := by omega
      go_wp2_with fail
      refine (HC.out (Yo X w.heap.size (.slice (some ⟨g, 0, none⟩) m cap)) wr v (HG1.out.low hMl HX.out) HG1.out.mem hv).mono ?_
      rintro e w1 ⟨q, cc, rfl, hq1, hq2, hq3, hq4, hq5⟩
      have HI : Hid (Ai c X w k i v q (2 * U + m + 1) (.slice (some ⟨g, 0, none⟩) m cap) w1 us fo fs 0) := ⟨HG1.out.called hMl hq4 hq5, HW1.out, hq3, hq2, by rw [← HU2.out, ← HM.out]; omega⟩
      clear hq1 hq2 hq3 hq4 hq5 HG1 HW1 HU2 HM hcv m1 m2 hcap
      obtain ⟨wo, rfl⟩ : ∃ wo : World, wo = wr := ⟨_, rfl⟩
      go_wp2_with fail
      go_loopw [10, 13] (fun y j wr => ∃ (t : Nat) (ws : List Nat) (fo fs : Nat → Bool), j = .int .i64 (t : Int) ∧ t ≤ c.s.size + 1 ∧ Hid (Ai c X w k i v q (2 * U + m + 1) y wr ws fo fs t)) (fun _ j _ => c.s.size + 1 - (intOf j).toNat)
      case atStart => exact ⟨0, us, fo, fs, rfl, by omega, HI.out⟩
      case round =>
        obtain ⟨t, ws, fo, fs, rfl, ht, HJ⟩ := hrel
        by_cases hlt : t < c.s.size + 1
        · obtain ⟨b, hb1, hb2⟩ := HJ.out.ls.2 t hlt
          have HB : Hid (b = true ↔ En.Ends c.ps c.s k v t) := hb2
          clear hb2 HI
          have t1 : (t : Int) < ((c.s.size + 1 : Nat) : Int) := by omega
          have t2 : (t : Int) < (c.s.size : Int) + 1 := by omega
          cases b with
          | false =>
            have HJ1 : Hid (Ai c X w k i v q (2 * U + m + 1) _ wr ws fo fs (t + 1)) := HJ.out.skip (fun he => by have := HB.out.2 he; cases this)
            clear HJ HB
            go_wp2_with fail
            go_roundw
            case rel => exact ⟨t + 1, ws, fo, fs, by go_num, by omega, HJ1.out⟩
            case measure => simp [intOf]; omega
          | true =>
            have HE : Hid (En.Ends c.ps c.s k v t) := HB.out.1 rfl
            clear HB
            obtain ⟨o1, o2⟩ := HJ.out.ag.bo.cell t hlt
            have HO : Hid (Ag c X w _ (wr.setCell ⟨w.heap.size, t, none⟩ (.bool true)) ws (fun j => if j = t then true else fo j) fs) := HJ.out.ag.out HL.out hMl HX.out t hlt
            obtain ⟨s1, s2⟩ := HO.out.bs.cell t hlt
            obtain ⟨sb, hsb⟩ : ∃ sb, sb = fs t := ⟨_, rfl⟩
            rw [← hsb] at s1
            have HS : Hid (fs t = sb) := hsb.symm
            clear hsb
            cases sb with
            | true =>
              have HJ1 : Hid (Ai c X w k i v q (2 * U + m + 1) _ (wr.setCell ⟨w.heap.size, t, none⟩ (.bool true)) ws (fun j => if j = t then true else fo j) fs (t + 1)) := HJ.out.old HL.out hMl HX.out hlt HE.out HS.out
              clear HJ HE HO HS
              go_wp2_with fail
              go_roundw
              case rel => exact ⟨t + 1, ws, _, fs, by go_num, by omega, HJ1.out⟩
              case measure => simp [intOf]; omega
            | false =>
              obtain ⟨fo1, hfo1⟩ : ∃ f : Nat → Bool, f = fun j => if j = t then true else fo j := ⟨_, rfl⟩
              obtain ⟨fs1, hfs1⟩ : ∃ f : Nat → Bool, f = fun j => if j = t then true else fs j := ⟨_, rfl⟩
              have hp0 := HO.out.seen HL.out hMl HX.out t hlt HS.out
              rw [← hfo1, ← hfs1] at hp0
              have HP : Hid _ := hp0
              clear hp0
              have HF : Hid (ws.length + 1 + Uns (c.s.size + 1) fs1 ≤ c.s.size + 1) := by
                have h1 := HJ.out.ag.few
                have h2 : Uns (c.s.size + 1) (fun j => if j = t then true else fs j) + 1 = Uns (c.s.size + 1) fs := unseen_set hlt HS.out
                rw [← hfs1] at h2
                show _ ≤ _
                omega
              have HF1 : Hid (fo1 = fun j => if j = t then true else fo j) := hfo1
              have HF2 : Hid (fs1 = fun j => if j = t then true else fs j) := hfs1
              clear HO hfo1 hfs1
              go_wp2_with (at_builtin; go_must (refine HP.out.push HL.out hMl HX.out rfl (.tmp 68) (.tmp 70) rfl rfl t _ rfl ?hx HF.out ?_))
              case hx => simp [World.setCell]
              · intro y' w2 hag hsz hkp hoy
                have HJ1 : Hid (Ai c X w k i v q (2 * U + m + 1) y' w2 (ws ++ [t]) fo1 fs1 (t + 1)) := by
                  rw [HF1.out, HF2.out] at hag ⊢
                  exact HJ.out.new hlt HE.out HS.out hag (fun b hb hn => hkp b (by simpa [World.setCell] using hb) hn) (by simpa [World.setCell] using hoy)
                clear HJ HE HS HP HF HF1 HF2 hag hsz hkp hoy
                go_wp2_with fail
                go_roundw
                case rel => exact ⟨t + 1, _, _, _, by go_num, by omega, HJ1.out⟩
                case measure => simp [intOf]; omega
        · obtain rfl : t = c.s.size + 1 := by omega
          have HG2 : Hid (Ag c X w _ wr ws fo fs) := HJ.out.ag
          have HW2 : Hid (En.Wl c.ps c.s k i ws fo fs) := HJ.out.wj.over
          have hle := HJ.out.le
          clear HJ HI
          go_wp2_with fail
          go_roundw
          case rel => exact ⟨ws, fo, fs, HG2.out, HW2.out⟩
          case measure =>
            rw [← HU.out]
            have e1 := unseen_eq HG2.out.bs
            have e2 := HG2.out.len
            unfold Uns at hle
            rw [e1, e2]
            simp only [lenOf]
            omega
end PartSpF
section PartSpG
open Go.RowKit

theorem BAt.fn {w : World} {q n : Nat} {P : Nat → Prop} (h : BAt w q n P) : ∃ f : Nat → Bool, ∀ j, j < n → w.cell? ⟨q, j, none⟩ = some (.bool (f j)) ∧ (f j = true ↔ P j) := by
  refine ⟨fun j => match w.cell? ⟨q, j, none⟩ with | some (.bool b) => b | _ => false, fun j hj => ?_⟩
  obtain ⟨b, h1, h2⟩ := h.2 j hj
  simp only [h1]
  exact ⟨trivial, h2⟩
/-- What 'both' keeps: its piece, and the row that it answers. -/
structure Bt (c : Mm) (X : Nat → Prop) (w : World) (op : Int) (tx : ByteArray) (kv : Value) (wr : World) (fo : Nat → Bool) : Prop where
  xb : wr.heap[w.heap.size]? = some (.cells #[.int .i64 op, .string tx, kv] 81 (0, 0))
  bo : BBlk wr (w.heap.size + 1) (c.s.size + 1) fo
  mem : Memo c (fun b => X b ∨ b = w.heap.size + 1) wr
  fm : FM c.M0 c.M1 w wr
section
variable {c : Mm} {X : Nat → Prop} {w wr w2 : World} {op : Int} {tx : ByteArray} {kv : Value} {fo : Nat → Bool}
theorem Bt.low (h : Bt c X w op tx kv wr fo) (hM : c.M1 ≤ w.heap.size) (hX : ∀ b, X b → c.M1 ≤ b ∧ b < w.heap.size) (b : Nat) (hb : X b ∨ b = w.heap.size + 1) : c.M1 ≤ b ∧ b < wr.heap.size := by
  have h2 := h.bo.lt
  rcases hb with hb | rfl
  · exact ⟨(hX b hb).1, by have := (hX b hb).2; omega⟩
  · exact ⟨by omega, h2⟩
theorem Bt.set (h : Bt c X w op tx kv wr fo) (L : Lie c) (hM : c.M1 ≤ w.heap.size) (hX : ∀ b, X b → c.M1 ≤ b ∧ b < w.heap.size) (j : Nat) (hj : j < c.s.size + 1) (b : Bool) : Bt c X w op tx kv (wr.setCell ⟨w.heap.size + 1, j, none⟩ (.bool b)) (fun t => if t = j then b else fo t) :=
  ⟨(Below.heap_setCell _ _ _ _ (by show w.heap.size ≠ w.heap.size + 1; omega)).trans h.xb, h.bo.set j b hj, h.mem.frame L (fun b hb => (h.low hM hX b hb).1) ⟨rfl, rfl, rfl⟩ (by simp [World.setCell]) (fun b _ hn => Below.heap_setCell _ _ _ _ (by show b ≠ w.heap.size + 1; exact fun e => hn (.inr e))), h.fm.own _ _ _ (by omega)⟩
theorem Bt.called (h : Bt c X w op tx kv wr fo) (hM : c.M1 ≤ w.heap.size) (hm : Memo c (fun b => X b ∨ b = w.heap.size + 1) w2) (hf : FM c.M0 c.M1 wr w2) : Bt c X w op tx kv w2 fo :=
  ⟨(hf.2.2 _ (blk_lt h.xb) (.inr hM)).trans h.xb, h.bo.keep (hf.2.2 _ h.bo.lt (.inr (by omega))), hm, h.fm.trans hf⟩
theorem Bt.drawn (h : Bt c X w op tx kv wr fo) (L : Lie c) (hM : c.M1 ≤ w.heap.size) (hX : ∀ b, X b → c.M1 ≤ b ∧ b < w.heap.size) (hb : Below wr.heap.size wr w2) : Bt c X w op tx kv w2 fo :=
  ⟨(hb.block _ (blk_lt h.xb)).trans h.xb, h.bo.keep (hb.block _ h.bo.lt), h.mem.up L (fun b hb => (h.low hM hX b hb).1) hb, h.fm.up hb⟩
theorem Bt.cells (h : Bt c X w op tx kv wr fo) : wr.cell? ⟨w.heap.size, 0, none⟩ = some (.int .i64 op) ∧ wr.cell? ⟨w.heap.size, 1, none⟩ = some (.string tx) ∧ wr.cell? ⟨w.heap.size, 2, none⟩ = some kv :=
  ⟨by rw [blk_cell h.xb]; rfl, by rw [blk_cell h.xb]; rfl, by rw [blk_cell h.xb]; rfl⟩
end
theorem Bt.begin (c : Mm) (L : Lie c) (X : Nat → Prop) (w : World) (hX : ∀ b, X b → c.M1 ≤ b ∧ b < w.heap.size) (h : Memo c X w) (op : Int) (tx : ByteArray) (kv : Value) (M : Array Value) (hMs : M.size = c.s.size + 1) (hMat : ∀ j, j < c.s.size + 1 → M[j]? = some (.bool false)) :
    Bt c X w op tx kv ((w.alloc (.cells #[.int .i64 op, .string tx, kv] 81)).alloc (.cells M 4)) (fun _ => false) := by
  have hM : c.M1 ≤ w.heap.size := h.2.2.2.2.2
  have hb : ∀ A B : Obj, Below w.heap.size w ((w.alloc A).alloc B) := fun A B => ((Below.refl _ _).alloc (Nat.le_refl _) _).alloc (by simp) _
  have e0 : ∀ A B : Obj, ((w.alloc A).alloc B).heap[w.heap.size]? = some A := fun A B => by
    rw [((Below.refl (w.heap.size + 1) (w.alloc A)).alloc (by simp) B).block _ (by omega)]
    exact heap_alloc_new w A
  have e1 : ∀ A B : Obj, ((w.alloc A).alloc B).heap[w.heap.size + 1]? = some B := fun A B => by
    have := heap_alloc_new (w.alloc A) B
    rwa [show (w.alloc A).heap.size = w.heap.size + 1 by simp] at this
  refine ⟨e0 _ _, ⟨M, e1 _ _, hMs, hMat⟩, ?_, (FM.refl _ _ w).up (hb _ _)⟩
  refine Memo.up L (h.more fun b hb => ?_) (fun b hb => ?_) (hb _ _)
  · rcases hb with hb | rfl
    · exact .inl hb
    · exact .inr (by omega)
  · rcases hb with hb | rfl
    · exact (hX b hb).1
    · omega

/-- The row of block q, f, is taken up into what is answered, below e. -/
structure Or (c : Mm) (X : Nat → Prop) (w : World) (op : Int) (tx : ByteArray) (kv : Value) (q : Nat) (f f0 : Nat → Bool) (e : Nat) (wr : World) (fo : Nat → Bool) : Prop where
  bt : Bt c X w op tx kv wr fo
  ls : ∀ j, j < c.s.size + 1 → wr.cell? ⟨q, j, none⟩ = some (.bool (f j))
  nq : q ≠ w.heap.size + 1
  is : ∀ t, t < c.s.size + 1 → fo t = (f0 t || (decide (t < e) && f t))
theorem cell_other {w w' : World} {q j : Nat} (h : w'.heap[q]? = w.heap[q]?) : w'.cell? ⟨q, j, none⟩ = w.cell? ⟨q, j, none⟩ := by simp [World.cell?, h]
section
variable {c : Mm} {X : Nat → Prop} {w wr : World} {op : Int} {tx : ByteArray} {kv : Value} {q : Nat} {f f0 : Nat → Bool} {e : Nat} {fo : Nat → Bool}
theorem Or.step (h : Or c X w op tx kv q f f0 e wr fo) (L : Lie c) (hM : c.M1 ≤ w.heap.size) (hX : ∀ b, X b → c.M1 ≤ b ∧ b < w.heap.size) (he : e < c.s.size + 1) (b : Bool) (hb : b = (fo e || f e)) : Or c X w op tx kv q f f0 (e + 1) (wr.setCell ⟨w.heap.size + 1, e, none⟩ (.bool b)) (fun t => if t = e then b else fo t) := by
  refine ⟨h.bt.set L hM hX e he b, fun j hj => (cell_other (Below.heap_setCell _ _ _ _ (by show q ≠ w.heap.size + 1; exact h.nq))).trans (h.ls j hj), h.nq, fun t ht => ?_⟩
  by_cases hte : t = e
  · subst hte
    show (if t = t then b else fo t) = _
    rw [if_pos rfl, hb, h.is t ht]
    simp
  · show (if t = e then b else fo t) = _
    rw [if_neg hte, h.is t ht]
    by_cases h2 : t < e
    · rw [decide_eq_true h2, decide_eq_true (by omega : t < e + 1)]
    · rw [decide_eq_false h2, decide_eq_false (by omega : ¬ t < e + 1)]
theorem Or.start (h : Bt c X w op tx kv wr fo) (P : Nat → Prop) (hq : BAt wr q (c.s.size + 1) P) (hn : ¬ (X q ∨ q = w.heap.size + 1)) : ∃ f : Nat → Bool, (∀ j, j < c.s.size + 1 → (f j = true ↔ P j)) ∧ Or c X w op tx kv q f fo 0 wr fo := by
  obtain ⟨f, hf⟩ := hq.fn
  exact ⟨f, fun j hj => (hf j hj).2, h, fun j hj => (hf j hj).1, fun e => hn (.inr e), fun t _ => by simp⟩
theorem Or.fin (h : Or c X w op tx kv q f f0 (c.s.size + 1) wr fo) (t : Nat) (ht : t < c.s.size + 1) : fo t = true ↔ f0 t = true ∨ f t = true := by
  rw [h.is t ht, decide_eq_true ht]
  simp
end
end PartSpG
end Go.Proofs.Ytlnmbahakdmkgaa
