/- Where a piece may end, by the specification: again and again, walked. -/
import Derived.Test.YtlnmbahakdmkgaaSpE
namespace Go.Proofs.Ytlnmbahakdmkgaa
open Go.RowKit

set_option maxHeartbeats 4000000 in
set_option maxRecDepth 100000 in
theorem spAgain (c : Mm) (L : Lie c) (k i : Nat) (hk : k < c.K) (hC : AtC c k) (X : Nat → Prop) (w : World) (hX : ∀ b, X b → c.M1 ≤ b ∧ b < w.heap.size) (h : Memo c X w) (hi : i < c.s.size + 1) :
    Calls Try.prog 43 #[.pointer (some ⟨c.m, 0, none⟩), .int .i64 (k : Int), .int .i64 (i : Int)] w (fun e w' => ∃ q, e = .returned (.slice (some ⟨q, 0, none⟩) (c.s.size + 1) (c.s.size + 1)) ∧ w.heap.size ≤ q ∧ (∃ fo, BBlk w' q (c.s.size + 1) fo ∧ ∀ j, j < c.s.size + 1 → (fo j = true ↔ ∃ v, En.Reach c.ps c.s k i v ∧ En.Ends c.ps c.s k v j)) ∧ Memo c (fun b => X b ∨ b = q) w' ∧ FM c.M0 c.M1 w w') := by
  obtain ⟨-, c1, -⟩ := h.cells k i hk hi
  have hs := L.hs
  obtain ⟨M, ⟨hMs, hMat⟩, hM, hmk⟩ := makeB_run (c.s.size + 1) (by omega)
  have hmk1 : ∀ W : World, (Instr.makeSlice 51 (.int .i64 ((c.s.size : Int) + 1)) (.int .i64 ((c.s.size : Int) + 1))).run Try.prog W = .ok (.slice (some ⟨W.heap.size, 0, none⟩) (c.s.size + 1) (c.s.size + 1)) (W.alloc (.cells M 4)) := hmk
  have hMi := hMat i hi
  have i0 : (i : Int) < ((c.s.size + 1 : Nat) : Int) := by omega
  have HA : Hid (Ag c X w (.slice (some ⟨w.heap.size + 1 + 1, 0, none⟩) 1 1) (((w.alloc (.cells M 4)).alloc (.cells (M.setIfInBounds i (.bool true)) 4)).alloc (.cells #[.int .i64 (i : Int)] 3)) [i] (fun _ => false) (fun j => if j = i then true else false)) := Ag.begin c L X w hX h i hi M hMs hMat
  have hMl : c.M1 ≤ w.heap.size := h.2.2.2.2.2
  have HX : Hid (∀ b, X b → c.M1 ≤ b ∧ b < w.heap.size) := hX
  have HC : Hid (AtC c k) := hC
  have HL : Hid (Lie c) := L
  clear hmk h hX hC L hM hMat
  go_enter Try.func43, Try.ntmps43
  go_wp2_with fail
  clear c1 hmk1 hMi
  go_loopw [10] (fun y wr => ∃ (ws : List Nat) (fo fs : Nat → Bool), Hid (Ag c X w y wr ws fo fs) ∧ Hid (En.Wl c.ps c.s k i ws fo fs)) (fun y wr => 2 * unseen (w.heap.size + 1) (c.s.size + 1) wr + lenOf y)
  case atStart => exact ⟨[i], _, _, HA.out, En.Wl.start _ _ _ _ hi⟩
  case round =>
    obtain ⟨ws, fo, fs, HG, HW⟩ := hrel
    clear HA
    rcases List.eq_nil_or_concat ws with rfl | ⟨us, v, rfl⟩
    · obtain ⟨ya, yc, rfl⟩ := HG.out.form0
      go_wp2_with fail
      go_ret
      refine ⟨_, rfl, Nat.le_refl _, ⟨fo, HG.out.bo, fun j hj => HW.out.fin hi j hj⟩, HG.out.mem.more (fun b hb => .inl ?_), HG.out.fm⟩
      rcases hb with hb | hb
      · exact .inl hb
      · exact .inr (.inl hb)
    · rw [List.concat_eq_append] at HG HW
      obtain ⟨g, cap, rfl, hcap, hcv⟩ := HG.out.form
      have hfew := HG.out.few
      have hv := (HW.out.todo v (by simp)).1
      obtain ⟨U, hU⟩ : ∃ U, U = Uns (c.s.size + 1) fs := ⟨_, rfl⟩
      have HU : Hid (U = unseen (w.heap.size + 1) (c.s.size + 1) wr) := hU.trans (unseen_eq HG.out.bs).symm
      have HU2 : Hid (U = Uns (c.s.size + 1) fs) := hU
      rw [List.length_append, List.length_singleton, ← hU] at hfew
      clear hU
      have HG1 : Hid (Ag c X w (.slice (some ⟨g, 0, none⟩) us.length cap) wr us fo fs) := HG.out.pop
      have HW1 : Hid (En.Wj c.ps c.s k i v 0 us fo fs) := HW.out.pop
      clear HG HW
      obtain ⟨m, hm⟩ : ∃ m, m = us.length := ⟨_, rfl⟩
      rw [← hm] at hcap hcv hfew HG1 ⊢
      have HM : Hid (m = us.length) := hm
      clear hm
      have m1 : (m : Int) < ((m + 1 : Nat) : Int) := by omega
      have m2 : (m : Int) ≤ (cap : Int) := by omega
      go_wp2_with fail
      refine (HC.out (Yo X w.heap.size (.slice (some ⟨g, 0, none⟩) m cap)) wr v (HG1.out.low hMl HX.out) HG1.out.mem hv).mono ?_
      rintro e w1 ⟨q, cc, rfl, hq1, hq2, hq3, hq4, hq5⟩
      have HI : Hid (Ai c X w k i v q (2 * U + m + 1) (.slice (some ⟨g, 0, none⟩) m cap) w1 us fo fs 0) := ⟨HG1.out.called hMl hq4 hq5, HW1.out, hq3, hq2, by rw [← HU2.out, ← HM.out]; omega⟩
      clear hq1 hq2 hq3 hq4 hq5 HG1 HW1 HU2 HM hcv m1 m2 hcap
      obtain ⟨wo, rfl⟩ : ∃ wo : World, wo = wr := ⟨_, rfl⟩
      go_wp2_with fail
      go_loopw [10, 13] (fun y j wr => ∃ (t : Nat) (ws : List Nat) (fo fs : Nat → Bool), j = .int .i64 (t : Int) ∧ t ≤ c.s.size + 1 ∧ Hid (Ai c X w k i v q (2 * U + m + 1) y wr ws fo fs t)) (fun _ j _ => c.s.size + 1 - (intOf j).toNat)
      case atStart => exact ⟨0, us, fo, fs, rfl, by omega, HI.out⟩
      case round =>
        obtain ⟨t, ws, fo, fs, rfl, ht, HJ⟩ := hrel
        by_cases hlt : t < c.s.size + 1
        · obtain ⟨b, hb1, hb2⟩ := HJ.out.ls.2 t hlt
          have HB : Hid (b = true ↔ En.Ends c.ps c.s k v t) := hb2
          clear hb2 HI
          have t1 : (t : Int) < ((c.s.size + 1 : Nat) : Int) := by omega
          have t2 : (t : Int) < (c.s.size : Int) + 1 := by omega
          cases b with
          | false =>
            have HJ1 : Hid (Ai c X w k i v q (2 * U + m + 1) _ wr ws fo fs (t + 1)) := HJ.out.skip (fun he => by have := HB.out.2 he; cases this)
            clear HJ HB
            go_wp2_with fail
            go_roundw
            case rel => exact ⟨t + 1, ws, fo, fs, by go_num, by omega, HJ1.out⟩
            case measure => simp [intOf]; omega
          | true =>
            have HE : Hid (En.Ends c.ps c.s k v t) := HB.out.1 rfl
            clear HB
            obtain ⟨o1, o2⟩ := HJ.out.ag.bo.cell t hlt
            have HO : Hid (Ag c X w _ (wr.setCell ⟨w.heap.size, t, none⟩ (.bool true)) ws (fun j => if j = t then true else fo j) fs) := HJ.out.ag.out HL.out hMl HX.out t hlt
            obtain ⟨s1, s2⟩ := HO.out.bs.cell t hlt
            obtain ⟨sb, hsb⟩ : ∃ sb, sb = fs t := ⟨_, rfl⟩
            rw [← hsb] at s1
            have HS : Hid (fs t = sb) := hsb.symm
            clear hsb
            cases sb with
            | true =>
              have HJ1 : Hid (Ai c X w k i v q (2 * U + m + 1) _ (wr.setCell ⟨w.heap.size, t, none⟩ (.bool true)) ws (fun j => if j = t then true else fo j) fs (t + 1)) := HJ.out.old HL.out hMl HX.out hlt HE.out HS.out
              clear HJ HE HO HS
              go_wp2_with fail
              go_roundw
              case rel => exact ⟨t + 1, ws, _, fs, by go_num, by omega, HJ1.out⟩
              case measure => simp [intOf]; omega
            | false =>
              obtain ⟨fo1, hfo1⟩ : ∃ f : Nat → Bool, f = fun j => if j = t then true else fo j := ⟨_, rfl⟩
              obtain ⟨fs1, hfs1⟩ : ∃ f : Nat → Bool, f = fun j => if j = t then true else fs j := ⟨_, rfl⟩
              have hp0 := HO.out.seen HL.out hMl HX.out t hlt HS.out
              rw [← hfo1, ← hfs1] at hp0
              have HP : Hid _ := hp0
              clear hp0
              have HF : Hid (ws.length + 1 + Uns (c.s.size + 1) fs1 ≤ c.s.size + 1) := by
                have h1 := HJ.out.ag.few
                have h2 : Uns (c.s.size + 1) (fun j => if j = t then true else fs j) + 1 = Uns (c.s.size + 1) fs := unseen_set hlt HS.out
                rw [← hfs1] at h2
                show _ ≤ _
                omega
              have HF1 : Hid (fo1 = fun j => if j = t then true else fo j) := hfo1
              have HF2 : Hid (fs1 = fun j => if j = t then true else fs j) := hfs1
              clear HO hfo1 hfs1
              go_wp2_with (at_builtin; go_must (refine HP.out.push HL.out hMl HX.out rfl (.tmp 68) (.tmp 70) rfl rfl t _ rfl ?hx HF.out ?_))
              case hx => simp [World.setCell]
              · intro y' w2 hag hsz hkp hoy
                have HJ1 : Hid (Ai c X w k i v q (2 * U + m + 1) y' w2 (ws ++ [t]) fo1 fs1 (t + 1)) := by
                  rw [HF1.out, HF2.out] at hag ⊢
                  exact HJ.out.new hlt HE.out HS.out hag (fun b hb hn => hkp b (by simpa [World.setCell] using hb) hn) (by simpa [World.setCell] using hoy)
                clear HJ HE HS HP HF HF1 HF2 hag hsz hkp hoy
                go_wp2_with fail
                go_roundw
                case rel => exact ⟨t + 1, _, _, _, by go_num, by omega, HJ1.out⟩
                case measure => simp [intOf]; omega
        · obtain rfl : t = c.s.size + 1 := by omega
          have HG2 : Hid (Ag c X w _ wr ws fo fs) := HJ.out.ag
          have HW2 : Hid (En.Wl c.ps c.s k i ws fo fs) := HJ.out.wj.over
          have hle := HJ.out.le
          clear HJ HI
          go_wp2_with fail
          go_roundw
          case rel => exact ⟨ws, fo, fs, HG2.out, HW2.out⟩
          case measure =>
            rw [← HU.out]
            have e1 := unseen_eq HG2.out.bs
            have e2 := HG2.out.len
            unfold Uns at hle
            rw [e1, e2]
            simp only [lenOf]
            omega
#print axioms spAgain
end Go.Proofs.Ytlnmbahakdmkgaa
