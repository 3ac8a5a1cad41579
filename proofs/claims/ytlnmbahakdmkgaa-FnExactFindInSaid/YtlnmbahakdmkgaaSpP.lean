/- Where a piece may end, by the specification: a new memory of what is known, walked. -/
import Derived.Test.YtlnmbahakdmkgaaSpO
import Derived.Deep.RegionLaw
import Derived.Deep.AppendLies
namespace Go.Proofs.Ytlnmbahakdmkgaa
open Go.RowKit


theorem Nw.stepD {ops : Array Oper} {o : Oper} {a : Act} {K : Act → World → Prop} {Q : Exit → Act → World → Prop} {F : Prop} {w wr : World} {pv : Value} {s : ByteArray} {m : Nat} {dv ev : Value} {ds es : List Nat} (h : Nw w pv s m wr dv ev ds es) (hgd : o.guard = none) (sl x : Operand)
    (ho : o.op = .call { callee := .builtin .append, args := #[sl, x], argTypes := #[83, 83] }) (hs : a.eval sl = dv) (M : Array Value) (hM : M.size = s.size + 1 ∧ ∀ j, j < s.size + 1 → M[j]? = some (.bool false)) (hx : a.eval x = .slice (some ⟨wr.heap.size + 1, 0, none⟩) 1 1) (hlen : ds.length ≤ 1000)
    (k : ∀ g cap w3, Nw w pv s m (w3.setCell ⟨m, 2, none⟩ (.slice (some ⟨g, 0, none⟩) (ds.length + 1) cap)) (.slice (some ⟨g, 0, none⟩) (ds.length + 1) cap) ev (ds ++ [wr.heap.size]) es → w3.cell? ⟨m, 2, none⟩ = some dv → w3.frozen? ⟨m, 2, none⟩ = false → K (a.put o.dst (.slice (some ⟨g, 0, none⟩) (ds.length + 1) cap)) w3) :
    if Region.wanted o (yielded ops a.tmps) = true then Oper.wp Try.prog o a ((wr.alloc (.cells M 4)).alloc (.cells #[.slice (some ⟨wr.heap.size, 0, none⟩) (s.size + 1) (s.size + 1)] 51)).drew K Q else F := by
  obtain ⟨i0, hi, hy0, hy1, hy2⟩ := info_parts Try.infoSB
  have hsz : ((wr.alloc (.cells M 4)).alloc (.cells #[.slice (some ⟨wr.heap.size, 0, none⟩) (s.size + 1) (s.size + 1)] 51)).drew.heap.size = wr.heap.size + 2 := by simp
  have hws : w.heap.size ≤ wr.heap.size := h.bel.size
  refine step_append_lies _ hgd sl x 83 ho w.heap.size 51 i0 (.slice none 0 0) 1 24 Try.underlying83 hi hy0 hy1 hy2 rfl (by decide) dv ds.length (ds.map (bsl (s.size + 1))) hs (World.ownsRow.drew (World.ownsRow.alloc (World.ownsRow.alloc h.dr _) _)) ⟨wr.heap.size + 1, 0, none⟩ 1 1 [bsl (s.size + 1) wr.heap.size] hx rfl
    (World.news_of_block (cs := #[bsl (s.size + 1) wr.heap.size]) (t := 51) (fr := (0, 0)) ?_) ?_ (by omega) ?_ ?_ ?_ (wr.heap.size + 2) hsz ?_
  · have := heap_alloc_new (wr.alloc (.cells M 4)) (.cells #[bsl (s.size + 1) wr.heap.size] 51)
    have e : (wr.alloc (.cells M 4)).heap.size = wr.heap.size + 1 := by simp
    rw [e] at this
    exact this
  · intro u hu
    simp at hu
    subst hu
    rfl
  · unfold maxLen; omega
  · omega
  · omega
  · intro g cap w3 h2 h3 h4 h5
    have hat : (Value.slice (some ⟨g, 0, none⟩) (ds.length + 1) cap).ownBlock = dv.ownBlock ∨ (Value.slice (some ⟨g, 0, none⟩) (ds.length + 1) cap).ownBlock = some (wr.heap.size + 2) := by
      rcases h4 with e | rfl
      · exact .inl e.symm
      · exact .inr rfl
    have hg : ((wr.alloc (.cells M 4)).alloc (.cells #[bsl (s.size + 1) wr.heap.size] 51)).grownBy w3 dv.ownBlock := ⟨h3.os, h3.tape, h3.output, h3.size, h3.block⟩
    have hmd : dv.ownBlock ≠ some m := fun e => by
      obtain ⟨cur, hc⟩ := own_type h.dr m e
      exact type_ne hc h.mb (by decide) rfl
    have hml : m < wr.heap.size := blk_lt h.mb
    have m3 : w3.heap[m]? = some (.cells #[pv, .string s, dv, ev] 86 (0, 0)) := by
      rw [hg.block m (by simp; omega) (fun e => hmd e.symm)]
      exact ((two_more wr _ _).1.block m hml).trans h.mb
    exact k g cap w3 (h.pushD M hM.1 hM.2 _ _ h2 hg hat) (by rw [blk_cell m3]; rfl) (blk_free m3 2)

theorem Nw.stepE {ops : Array Oper} {o : Oper} {a : Act} {K : Act → World → Prop} {Q : Exit → Act → World → Prop} {F : Prop} {w wr : World} {pv : Value} {s : ByteArray} {m : Nat} {dv ev : Value} {ds es : List Nat} (h : Nw w pv s m wr dv ev ds es) (hgd : o.guard = none) (sl x : Operand)
    (ho : o.op = .call { callee := .builtin .append, args := #[sl, x], argTypes := #[84, 84] }) (hs : a.eval sl = ev) (M : Array Value) (hM : M.size = s.size + 1) (hx : a.eval x = .slice (some ⟨wr.heap.size + 1, 0, none⟩) 1 1) (hlen : es.length ≤ 1000)
    (k : ∀ g cap w3, Nw w pv s m (w3.setCell ⟨m, 3, none⟩ (.slice (some ⟨g, 0, none⟩) (es.length + 1) cap)) dv (.slice (some ⟨g, 0, none⟩) (es.length + 1) cap) ds (es ++ [wr.heap.size]) → w3.cell? ⟨m, 3, none⟩ = some ev → w3.frozen? ⟨m, 3, none⟩ = false → K (a.put o.dst (.slice (some ⟨g, 0, none⟩) (es.length + 1) cap)) w3) :
    if Region.wanted o (yielded ops a.tmps) = true then Oper.wp Try.prog o a ((wr.alloc (.cells M 51)).alloc (.cells #[.slice (some ⟨wr.heap.size, 0, none⟩) (s.size + 1) (s.size + 1)] 83)).drew K Q else F := by
  obtain ⟨i0, hi, hy0, hy1, hy2⟩ := info_parts Try.infoSSB
  have hsz : ((wr.alloc (.cells M 51)).alloc (.cells #[.slice (some ⟨wr.heap.size, 0, none⟩) (s.size + 1) (s.size + 1)] 83)).drew.heap.size = wr.heap.size + 2 := by simp
  have hws : w.heap.size ≤ wr.heap.size := h.bel.size
  refine step_append_lies _ hgd sl x 84 ho w.heap.size 83 i0 (.slice none 0 0) 1 24 Try.underlying84 hi hy0 hy1 hy2 rfl (by decide) ev es.length (es.map (bsl (s.size + 1))) hs (World.ownsRow.drew (World.ownsRow.alloc (World.ownsRow.alloc h.er _) _)) ⟨wr.heap.size + 1, 0, none⟩ 1 1 [bsl (s.size + 1) wr.heap.size] hx rfl
    (World.news_of_block (cs := #[bsl (s.size + 1) wr.heap.size]) (t := 83) (fr := (0, 0)) ?_) ?_ (by omega) ?_ ?_ ?_ (wr.heap.size + 2) hsz ?_
  · have := heap_alloc_new (wr.alloc (.cells M 51)) (.cells #[bsl (s.size + 1) wr.heap.size] 83)
    have e : (wr.alloc (.cells M 51)).heap.size = wr.heap.size + 1 := by simp
    rw [e] at this
    exact this
  · intro u hu
    simp at hu
    subst hu
    rfl
  · unfold maxLen; omega
  · omega
  · omega
  · intro g cap w3 h2 h3 h4 h5
    have hat : (Value.slice (some ⟨g, 0, none⟩) (es.length + 1) cap).ownBlock = ev.ownBlock ∨ (Value.slice (some ⟨g, 0, none⟩) (es.length + 1) cap).ownBlock = some (wr.heap.size + 2) := by
      rcases h4 with e | rfl
      · exact .inl e.symm
      · exact .inr rfl
    have hg : ((wr.alloc (.cells M 51)).alloc (.cells #[bsl (s.size + 1) wr.heap.size] 83)).grownBy w3 ev.ownBlock := ⟨h3.os, h3.tape, h3.output, h3.size, h3.block⟩
    have hmd : ev.ownBlock ≠ some m := fun e => by
      obtain ⟨cur, hc⟩ := own_type h.er m e
      exact type_ne hc h.mb (by decide) rfl
    have hml : m < wr.heap.size := blk_lt h.mb
    have m3 : w3.heap[m]? = some (.cells #[pv, .string s, dv, ev] 86 (0, 0)) := by
      rw [hg.block m (by simp; omega) (fun e => hmd e.symm)]
      exact ((two_more wr _ _).1.block m hml).trans h.mb
    exact k g cap w3 (h.pushE M hM _ _ h2 hg hat) (by rw [blk_cell m3]; rfl) (blk_free m3 3)

set_option maxHeartbeats 4000000 in
set_option maxRecDepth 100000 in
theorem spNew (pv : Value) (s : ByteArray) (ps : List Pi) (w : World) (hp : PcsAt w pv ps) (h0 : 0 < ps.length) (h60 : ps.length ≤ 60) (hs : s.size ≤ 1048576) :
    Calls Try.prog 20 #[.agg #[pv], .string s] w (fun e w' => ∃ c : Mm, e = .returned (.pointer (some ⟨c.m, 0, none⟩)) ∧ c.s = s ∧ c.ps = ps ∧ c.K = ps.length ∧ c.M0 = w.heap.size + 1 ∧ c.M1 = w'.heap.size ∧ Lie c ∧ Memo c (fun _ => False) w' ∧ Below w.heap.size w w') := by
  obtain ⟨M, ⟨hMs, hMat⟩, hM, hmk⟩ := makeB_run (s.size + 1) (by omega)
  have hmk1 : ∀ W : World, (Instr.makeSlice 51 (.int .i64 ((s.size : Int) + 1)) (.int .i64 ((s.size : Int) + 1))).run Try.prog W = .ok (.slice (some ⟨W.heap.size, 0, none⟩) (s.size + 1) (s.size + 1)) (W.alloc (.cells M 4)) := hmk
  obtain ⟨R, hRs, hmr⟩ := makeSB_run (s.size + 1) (by omega)
  have hmr1 : ∀ W : World, (Instr.makeSlice 83 (.int .i64 ((s.size : Int) + 1)) (.int .i64 ((s.size : Int) + 1))).run Try.prog W = .ok (.slice (some ⟨W.heap.size, 0, none⟩) (s.size + 1) (s.size + 1)) (W.alloc (.cells R 51)) := hmr
  have HP : Hid (PcsAt w pv ps) := hp
  have HMat : Hid (M.size = s.size + 1 ∧ ∀ j, j < s.size + 1 → M[j]? = some (.bool false)) := ⟨hMs, hMat⟩
  have HRs : Hid (R.size = s.size + 1) := hRs
  obtain ⟨pa, pc, rfl, -⟩ := hp
  obtain ⟨n, hn⟩ : ∃ n, n = ps.length := ⟨_, rfl⟩
  have HN : Hid (n = ps.length) := hn
  rw [← hn] at h0 h60 HP ⊢
  clear hn hM hmk hmr hMs hMat hRs
  go_enter Try.func20, Try.ntmps20
  go_wp2_with fail
  obtain ⟨w0, hw0⟩ : ∃ w0, w0 = w.alloc (.cells #[.slice pa n pc] 30) := ⟨_, rfl⟩
  have hs0 : w0.heap.size = w.heap.size + 1 := by rw [hw0]; simp
  have HNW : Hid (Nw w0 (.slice pa n pc) s (w.heap.size + 1) ((w.alloc (.cells #[.slice pa n pc] 30)).alloc (.cells #[.slice pa n pc, .string s, .slice none 0 0, .slice none 0 0] 86)) (.slice none 0 0) (.slice none 0 0) [] []) := by
    rw [← hw0]
    refine ⟨?_, by omega, World.ownsRow_nil _ _ _ _, World.ownsRow_nil _ _ _ _, by simp, by simp, by simp, by simp, by simp, (Below.refl _ _).alloc (Nat.le_refl _) _⟩
    rw [← hs0]
    exact heap_alloc_new w0 _
  have HW0 : Hid (w0 = w.alloc (.cells #[.slice pa n pc] 30)) := hw0
  have HS0 : Hid (w0.heap.size = w.heap.size + 1) := hs0
  have HCP : Hid (∀ wr : World, Below w0.heap.size w0 wr → wr.cell? ⟨w.heap.size, 0, none⟩ = some (.slice pa n pc)) := by
    intro wr hb
    rw [hb.cell (p := ⟨w.heap.size, 0, none⟩) (by show w.heap.size < w0.heap.size; omega), hw0]
    rw [blk_cell (heap_alloc_new w _)]
    rfl
  have hz1 : (w.heap.size : Nat) ≠ w.heap.size + 1 := by omega
  clear hw0 hs0
  go_loopw [6] (fun j wr => ∃ (t : Nat) (dv ev : Value) (ds es : List Nat), j = .int .i64 (t : Int) ∧ t ≤ n ∧ Hid (ds.length = t ∧ es.length = t) ∧ Hid (Nw w0 (.slice pa n pc) s (w.heap.size + 1) wr dv ev ds es)) (fun j _ => n - (intOf j).toNat)
  case atStart => exact ⟨0, _, _, [], [], rfl, by omega, ⟨rfl, rfl⟩, HNW.out⟩
  case round =>
    obtain ⟨t, dv, ev, ds, es, rfl, ht, HL, HR⟩ := hrel
    clear HNW
    have cp := HCP.out wr HR.out.bel
    by_cases hlt : t < n
    · have m2 : wr.cell? ⟨w.heap.size + 1, 2, none⟩ = some dv := by rw [blk_cell HR.out.mb]; rfl
      have t1 : (t : Int) < (n : Int) := by omega
      have hwr : IntKind.i64.wrap ((s.size : Int) + 1) = (s.size : Int) + 1 := IntWalk.i64_in _ (by omega)
      have hml : w.heap.size + 1 < wr.heap.size := blk_lt HR.out.mb
      have m2a : ∀ o : Obj, (wr.alloc o).cell? ⟨w.heap.size + 1, 2, none⟩ = some dv := fun o => (((Below.refl wr.heap.size wr).alloc (Nat.le_refl _) o).cell (p := ⟨w.heap.size + 1, 2, none⟩) hml).trans m2
      have m2b : ∀ A B : Obj, ((wr.alloc A).alloc B).cell? ⟨w.heap.size + 1, 2, none⟩ = some dv := fun A B => ((two_more wr A B).1.cell (p := ⟨w.heap.size + 1, 2, none⟩) hml).trans m2
      have hl1 := HL.out.1
      have hl2 := HL.out.2
      go_wp2_with fail
      go_region_law ((refine HR.out.stepD (by rfl) _ _ (by rfl) (by rfl) M HMat.out (by rfl) (by omega) ?_; intro g cap w3 HR3 f2 f3; try rw [hl1] at HR3 ⊢))
      all_goals
        obtain ⟨w4, hw4⟩ : ∃ w4, w4 = w3.setCell ⟨w.heap.size + 1, 2, none⟩ (.slice (some ⟨g, 0, none⟩) (t + 1) cap) := ⟨_, rfl⟩
        obtain ⟨q1, hq1⟩ : ∃ q1, q1 = wr.heap.size := ⟨_, rfl⟩
        rw [← hw4, ← hq1] at HR3
        have HR4 : Hid (Nw w0 (.slice pa n pc) s (w.heap.size + 1) w4 (.slice (some ⟨g, 0, none⟩) (t + 1) cap) ev (ds ++ [q1]) es) := HR3
        rw [← hw4]
        clear hw4 hq1 HR3 f2 f3 m2 m2a m2b hml HR hmk1
        have m3 : w4.cell? ⟨w.heap.size + 1, 3, none⟩ = some ev := by rw [blk_cell HR4.out.mb]; rfl
        have hml : w.heap.size + 1 < w4.heap.size := blk_lt HR4.out.mb
        have m3a : ∀ o : Obj, (w4.alloc o).cell? ⟨w.heap.size + 1, 3, none⟩ = some ev := fun o => (((Below.refl w4.heap.size w4).alloc (Nat.le_refl _) o).cell (p := ⟨w.heap.size + 1, 3, none⟩) hml).trans m3
        have m3b : ∀ A B : Obj, ((w4.alloc A).alloc B).cell? ⟨w.heap.size + 1, 3, none⟩ = some ev := fun A B => ((two_more w4 A B).1.cell (p := ⟨w.heap.size + 1, 3, none⟩) hml).trans m3
        go_wp2_with fail
        go_region_law ((refine HR4.out.stepE (by rfl) _ _ (by rfl) (by rfl) R HRs.out (by rfl) (by omega) ?_; intro g2 cap2 w5 HR5 f2 f3; try rw [hl2] at HR5 ⊢))
        all_goals
          obtain ⟨w6, hw6⟩ : ∃ w6, w6 = w5.setCell ⟨w.heap.size + 1, 3, none⟩ (.slice (some ⟨g2, 0, none⟩) (t + 1) cap2) := ⟨_, rfl⟩
          obtain ⟨q2, hq2⟩ : ∃ q2, q2 = w4.heap.size := ⟨_, rfl⟩
          rw [← hw6, ← hq2] at HR5
          have HR6 : Hid (Nw w0 (.slice pa n pc) s (w.heap.size + 1) w6 (.slice (some ⟨g, 0, none⟩) (t + 1) cap) (.slice (some ⟨g2, 0, none⟩) (t + 1) cap2) (ds ++ [q1]) (es ++ [q2])) := HR5
          have HLL : Hid ((ds ++ [q1]).length = t + 1 ∧ (es ++ [q2]).length = t + 1) := by
            show _ ∧ _
            rw [List.length_append, List.length_append, hl1, hl2]
            exact ⟨rfl, rfl⟩
          rw [← hw6]
          clear hw6 hq2 HR5 f2 f3 m3 m3a m3b hml HR4 hl1 hl2
          go_wp2_with fail
          go_roundw
          case rel => exact ⟨t + 1, _, _, _, _, by go_num, by omega, HLL.out, HR6.out⟩
          case measure => simp [intOf]; omega
    · obtain rfl : t = n := by omega
      have hl := HL.out
      obtain ⟨c, e1, e2, e3, e4, e5, e6, -, -, e8, e9⟩ := HR.out.memo ps (by
        rw [HW0.out]
        exact HP.out.keep ((Below.refl _ _).alloc (Nat.le_refl _) _)) (by rw [← HN.out]; omega) (by rw [← HN.out]; exact hl.1) (by rw [← HN.out]; exact hl.2) hs
      have hbw : Below w.heap.size w wr := by
        have := HR.out.bel
        rw [HW0.out] at this
        exact ((Below.refl w.heap.size w).alloc (Nat.le_refl _) _).trans (this.mono (by simp))
      have HFIN : Hid (∃ c : Mm, c.m = w.heap.size + 1 ∧ c.s = s ∧ c.ps = ps ∧ c.K = t ∧ c.M0 = w.heap.size + 1 ∧ c.M1 = wr.heap.size ∧ Lie c ∧ Memo c (fun _ => False) wr ∧ Below w.heap.size w wr) := ⟨c, e1, e2, e3, by rw [e4, HN.out], by rw [e5, HS0.out], e6, e8, e9, hbw⟩
      clear e1 e2 e3 e4 e5 e6 e8 e9 hbw hl HR HL
      clear c
      go_wp2_with fail
      go_ret
      obtain ⟨c, e1, e2, e3, e4, e5, e6, e7, e8, e9⟩ := HFIN.out
      exact ⟨c, by rw [e1]; rfl, e2, e3, e4, e5, e6, e7, e8, e9⟩
#print axioms spNew
end Go.Proofs.Ytlnmbahakdmkgaa
