/- The law on EndsAt: at every argument it answers as the specification, keeps nothing of what it was handed, and its answer owns its memory. -/
import Derived.Test.YtibmagmdeacenaoIpO
import Derived.Test.YtibmagmdeacenaoPtC
import Derived.Test.YtibmagmdeacenaoEnJ
namespace Go.Proofs.Ytibmagmdeacenao
open Go.RowKit

theorem ans_len (ps : List Pi) (s : ByteArray) (k i : Int) : (En.ans ps s k i).length ≤ s.size + 1 := by
  unfold En.ans
  split
  · unfold En.list
    refine Nat.le_trans (List.length_filter_le _ _) (by simp)
  · simp

set_option maxHeartbeats 8000000 in
set_option maxRecDepth 100000 in
theorem lwEnds_any (v : Value) (ps : List Pi) (pk : Int) (s : ByteArray) (pat : Int) (w : World) (h : PcsAt w v ps) (hf : Fit ps) :
    Calls Try.prog 6 #[.agg #[v], .int .i64 pk, .string s, .int .i64 pat] w fun e w' => e = .returned (.bool true) ∧ Below w.heap.size w w' := by
  have hv : ∃ ad c, v = .slice ad ps.length c := by obtain ⟨ad, c, e, _⟩ := h; exact ⟨ad, c, e⟩
  obtain ⟨ad, c, rfl⟩ := hv
  obtain ⟨n, hn⟩ : ∃ n, n = ps.length := ⟨_, rfl⟩
  rw [← hn] at h ⊢
  have HH : Hid (PcsAt w (.slice ad n c) ps) := h
  have HFT : Hid (Fit ps) := hf
  have HN : Hid (n = ps.length) := hn
  clear h hf hn
  have HB0 : Hid (Below w.heap.size w (w.alloc (.cells #[.slice ad n c] 29))) := (Below.refl _ _).alloc (Nat.le_refl _) _
  by_cases hs : (1048576 : Int) < (s.size : Int)
  · have d0 : decide ((1048576 : Int) < (s.size : Int)) = true := decide_eq_true hs
    have d0' : decide (1048576 < s.size) = true := decide_eq_true (by omega)
    go_enter Try.func6, Try.ntmps6
    go_wp2_with fail
    go_ret
    exact ⟨rfl, HB0.out⟩
  · have d0 : decide ((1048576 : Int) < (s.size : Int)) = false := decide_eq_false hs
    have d0' : decide (1048576 < s.size) = false := decide_eq_false (by omega)
    have hs2 : s.size ≤ 1048576 := by omega
    obtain ⟨ws, hws⟩ : ∃ ws, ws = En.ans ps s pk pat := ⟨_, rfl⟩
    have hwl : ws.length ≤ 2000000 := by have := ans_len ps s pk pat; rw [hws]; omega
    have HWS : Hid (ws = En.ans ps s pk pat) := hws
    clear hws
    go_enter Try.func6, Try.ntmps6
    go_wp2_with fail
    refine (szPat_any _ ps _ _ (HH.out.keep HB0.out) (by omega) (by omega) HFT.out).mono ?_
    rintro e w1 ⟨hb1, r, rfl, hr⟩
    have B1 : Below w.heap.size w w1 := HB0.out.trans (hb1.mono (by simp))
    have hl1 : w.heap.size < w1.heap.size := by have := hb1.size; simp at this; omega
    have c1 : w1.cell? ⟨w.heap.size, 0, none⟩ = some (.slice ad n c) := (hb1.cell (by simp)).trans (by simp)
    clear hb1
    rcases hr with rfl | ⟨hr0, hr1, hlen, hsm⟩
    · go_wp2
      go_ret
      exact ⟨rfl, B1⟩
    · have d1 : decide (r < 0) = false := decide_eq_false (by omega)
      have HL : Hid (ps.length ≤ 1048576) := hlen
      have HSM : Hid (Small ps ps.length) := hsm
      clear hlen hsm
      go_wp2_with fail
      refine (toPat_any _ ps _ (HH.out.keep B1) HL.out HSM.out).mono ?_
      rintro e w2 ⟨u1, rfl, hb2, hc2⟩
      obtain ⟨g1, rfl, hg1, hcc1⟩ := hc2
      have p2 : PcsAt w2 (.slice (some ⟨g1, 0, none⟩) n n) ps := by have := hcc1.at ps.length; rwa [← HN.out] at this
      rw [← HN.out]
      have HP2 : Hid (PcsAt w2 (.slice (some ⟨g1, 0, none⟩) n n) ps) := p2
      clear p2 hcc1 hg1
      go_wp2_with fail
      refine (spEnds _ ps s pk pat _ HP2.out HL.out HSM.out hs2).mono ?_
      rintro e w3 ⟨y0, rfl, hy0, hb3⟩
      have HY0 : Hid (Ws 0 w3 y0 ws ∧ ∀ q, y0.ownBlock = some q → q < w3.heap.size) := by
        rw [HWS.out]
        exact ⟨hy0.low (Nat.zero_le _), fun q hq => (World.ownsRow.lt hy0 q hq).2⟩
      have B3 : Below w.heap.size w w3 := B1.trans ((hb2.trans (hb3.mono hb2.size)).mono (by omega))
      have c3 : w3.cell? ⟨w.heap.size, 0, none⟩ = some (.slice ad n c) := ((hb2.trans (hb3.mono hb2.size)).cell (by exact hl1)).trans c1
      have hl3 : w.heap.size < w3.heap.size := by have := hb2.size; have := hb3.size; omega
      clear hb2 hb3 HP2 c1 B1 hy0
      obtain ⟨wo, hwo⟩ : ∃ wo : World, wo = w3 := ⟨_, rfl⟩
      go_wp2_with fail
      refine (toPat_any _ ps _ (HH.out.keep B3) HL.out HSM.out).mono ?_
      rintro e w4 ⟨u2, rfl, hb4, hc4⟩
      obtain ⟨g2, rfl, hg2, hcc2⟩ := hc4
      have p4 : PcsAt w4 (.slice (some ⟨g2, 0, none⟩) n n) ps := by have := hcc2.at ps.length; rwa [← HN.out] at this
      have HMC : Hid (∀ W, Below w4.heap.size w4 W → ∃ ln Q, Mc W g2 n ln Q w3.heap.size w4.heap.size) := fun W hb => by
        have := hcc2.mc hg2 HSM.out hb
        rwa [← HN.out] at this
      rw [← HN.out]
      have HP4 : Hid (PcsAt w4 (.slice (some ⟨g2, 0, none⟩) n n) ps) := p4
      have B4 : Below w.heap.size w w4 := B3.trans (hb4.mono (by omega))
      have c4 : w4.cell? ⟨w.heap.size, 0, none⟩ = some (.slice ad n c) := (hb4.cell (by exact hl3)).trans c3
      have hl34 : w3.heap.size ≤ w4.heap.size := hb4.size
      have hl4 : w.heap.size < w4.heap.size := by omega
      have HY4 : Hid (Ws 0 w4 y0 ws ∧ ∀ q, y0.ownBlock = some q → q < w3.heap.size) := ⟨HY0.out.1.keep fun q hq => hb4.block q (HY0.out.2 q hq), HY0.out.2⟩
      have HB5 : Hid (Below w4.heap.size w4 (w4.alloc (.cells #[.slice (some ⟨g2, 0, none⟩) n n] 34))) := (Below.refl _ _).alloc (Nat.le_refl _) _
      clear p4 hb4 c3 B3 hg2 hcc2 HY0 hwo
      go_wp2_with fail
      refine (implEnds _ ps s pk pat _ (HP4.out.keep HB5.out) HL.out HSM.out hs2).mono ?_
      rintro e w6 ⟨y1, rfl, hy1, hb6⟩
      rw [← HWS.out] at hy1
      have hsz5 : (w4.alloc (.cells #[.slice (some ⟨g2, 0, none⟩) n n] 34)).heap.size = w4.heap.size + 1 := by simp
      rw [hsz5] at hy1 hb6
      have hb46 : Below w4.heap.size w4 w6 := HB5.out.trans (hb6.mono (by omega))
      have c6 : w6.cell? ⟨w.heap.size, 0, none⟩ = some (.slice ad n c) := (hb46.cell (by exact hl4)).trans c4
      have x6 : w6.cell? ⟨w4.heap.size, 0, none⟩ = some (.slice (some ⟨g2, 0, none⟩) n n) := (hb6.cell (p := ⟨w4.heap.size, 0, none⟩) (by show w4.heap.size < w4.heap.size + 1; omega)).trans (by rw [blk_cell (heap_alloc_new w4 _)]; rfl)
      have hl6 : w4.heap.size < w6.heap.size := by have := hb6.size; rw [hsz5] at this; omega
      have HP6 : Hid (PcsAt w6 (.slice (some ⟨g2, 0, none⟩) n n) ps) := HP4.out.keep hb46
      have HB6 : Hid (Below w.heap.size w w6) := B4.trans (hb46.mono (by omega))
      have HM6 : Hid (∀ W, Below w6.heap.size w6 W → ∃ ln Q, Mc W g2 n ln Q w3.heap.size w4.heap.size) := fun W hb => HMC.out W (hb46.trans (hb.mono hb46.size))
      have HY6 : Hid (Ws 0 w6 y0 ws ∧ ∀ q, y0.ownBlock = some q → q < w3.heap.size) := ⟨HY4.out.1.keep fun q hq => hb46.block q (by have := HY4.out.2 q hq; omega), HY4.out.2⟩
      have HG6 : Hid (Ws (w4.heap.size + 1) w6 y1 ws) := hy1
      clear HP4 hb46 hb6 c4 B4 HB5 hy1 HY4 HMC hsz5
      obtain ⟨wo, hwo⟩ : ∃ wo : World, wo = w6 := ⟨_, rfl⟩
      go_wp2_with fail
      refine (eqRow_any HG6.out HY6.out.1 hwl).mono ?_
      rintro e w7 ⟨rfl, hb7⟩
      clear hwo
      have c7 : w7.cell? ⟨w.heap.size, 0, none⟩ = some (.slice ad n c) := (hb7.cell (p := ⟨w.heap.size, 0, none⟩) (by show w.heap.size < w6.heap.size; omega)).trans c6
      have x7 : w7.cell? ⟨w4.heap.size, 0, none⟩ = some (.slice (some ⟨g2, 0, none⟩) n n) := (hb7.cell (p := ⟨w4.heap.size, 0, none⟩) hl6).trans x6
      have hl7 : w4.heap.size < w7.heap.size := by have := hb7.size; omega
      have HP7 : Hid (PcsAt w7 (.slice (some ⟨g2, 0, none⟩) n n) ps) := HP6.out.keep hb7
      have HB7 : Hid (Below w.heap.size w w7) := HB6.out.trans (hb7.mono HB6.out.size)
      have HM7 : Hid (∀ W, Below w7.heap.size w7 W → ∃ ln Q, Mc W g2 n ln Q w3.heap.size w4.heap.size) := fun W hb => HM6.out W (hb7.trans (hb.mono hb7.size))
      have HY7 : Hid (Ws 0 w7 y0 ws ∧ ∀ q, y0.ownBlock = some q → q < w3.heap.size) := ⟨HY6.out.1.keep fun q hq => hb7.block q (by have := HY6.out.2 q hq; omega), HY6.out.2⟩
      have HG7 : Hid (Ws (w4.heap.size + 1) w7 y1 ws) := HG6.out.keep fun q hq => hb7.block q (World.ownsRow.lt HG6.out q hq).2
      clear hb7 c6 x6 HP6 HB6 HM6 HY6 HG6 hl6
      go_wp2_with fail
      have CT : Hid (∀ w', Below w7.heap.size w7 w' → Calls Try.prog 15 #[.agg #[.slice ad n c]] w' fun e w'' => ∃ s3, e = .returned (.agg #[.slice s3 n n]) ∧ Below w'.heap.size w' w'' ∧ PcsAt w'' (.slice s3 n n) ps) := by
        intro w' hb'
        refine (toPat_any _ ps _ (HH.out.keep (HB7.out.trans (hb'.mono HB7.out.size))) HL.out HSM.out).mono ?_
        rintro e w'' ⟨u3, rfl, hb7, g3, rfl, _, hc7⟩
        have p7 := hc7.at ps.length
        rw [← HN.out] at p7 ⊢
        exact ⟨_, rfl, hb7, p7⟩
      have CE : Hid (∀ w' s3, Below w7.heap.size w7 w' → PcsAt w' (.slice s3 n n) ps → Calls Try.prog 17 #[.agg #[.slice (some ⟨g2, 0, none⟩) n n], .agg #[.slice s3 n n]] w' fun e w'' => e = .returned (.bool true) ∧ Below w'.heap.size w' w'') :=
        fun w' s3 hb' hp => eqPat_any _ _ ps w' (HP7.out.keep hb') hp HL.out HSM.out
      go_region_with ((first | (go_at_call 15; refine (CT.out _ (by first | exact Below.refl _ _ | exact (Below.refl _ _).drew)).mono ?_; rintro e w8 ⟨s3, rfl, hb8, p8⟩; have x8 := (hb8.cell (p := ⟨w4.heap.size, 0, none⟩) (by exact hl7)).trans x7) | (go_at_call 17; refine (CE.out _ _ ((Below.refl _ _).drew.trans hb8) p8).mono ?_; rintro e w9 ⟨rfl, hb9⟩)))
      all_goals
        have hb79 : Below w7.heap.size w7 w9 := ((Below.refl w7.heap.size w7).drew.trans hb8).trans (hb9.mono (((Below.refl w7.heap.size w7).drew.trans hb8).size))
        have c9 : w9.cell? ⟨w.heap.size, 0, none⟩ = some (.slice ad n c) := (hb79.cell (p := ⟨w.heap.size, 0, none⟩) (by show w.heap.size < w7.heap.size; omega)).trans c7
        have x9 : w9.cell? ⟨w4.heap.size, 0, none⟩ = some (.slice (some ⟨g2, 0, none⟩) n n) := (hb79.cell (p := ⟨w4.heap.size, 0, none⟩) hl7).trans x7
        have hl9 : w4.heap.size < w9.heap.size := by have := hb79.size; omega
        have HB9 : Hid (Below w.heap.size w w9) := HB7.out.trans (hb79.mono HB7.out.size)
        obtain ⟨ln, Q, hmc⟩ := HM7.out w9 hb79
        have HY9 : Hid (Ws 0 w9 y0 ws ∧ ∀ q, y0.ownBlock = some q → q < w3.heap.size) := ⟨HY7.out.1.keep fun q hq => hb79.block q (by have := HY7.out.2 q hq; omega), HY7.out.2⟩
        have HG9 : Hid (Ws (w4.heap.size + 1) w9 y1 ws) := HG7.out.keep fun q hq => hb79.block q (World.ownsRow.lt HG7.out q hq).2
        have HMK : Hid (Calls Try.prog 20 #[.agg #[.slice (some ⟨g2, 0, none⟩) n n], .int .i64 1] w9 fun e w' => ∃ k : Nat, e = .returned (.int .i64 (k : Int)) ∧ k ≤ 10000000000000 ∧ FM w3.heap.size w4.heap.size w9 w') := markPat_copy _ _ g2 n n ln Q w9 hmc (by have := HL.out; have := HN.out; omega)
        clear hb79 hb8 hb9 p8 x8 c7 x7 HP7 HB7 HM7 HY7 HG7 hl7 hmc CT CE
        go_wp2_with fail
        refine HMK.out.mono ?_
        rintro e w10 ⟨kk, rfl, hkk, hfm⟩
        have c10 : w10.cell? ⟨w.heap.size, 0, none⟩ = some (.slice ad n c) := by
          rw [← c9]
          have := hfm.2.2 w.heap.size (by omega) (.inl hl3)
          simp [World.cell?, this]
        have HB10 : Hid (Below w.heap.size w w10) := HB9.out.trans ((hfm.below (by omega)).mono (by omega))
        have HY10 : Hid (Ws 0 w10 y0 ws ∧ ∀ q, y0.ownBlock = some q → q < w3.heap.size) := ⟨HY9.out.1.keep fun q hq => hfm.2.2 q (by have := HY9.out.2 q hq; omega) (.inl (HY9.out.2 q hq)), HY9.out.2⟩
        have HG10 : Hid (Ws (w4.heap.size + 1) w10 y1 ws) := HG9.out.keep fun q hq => hfm.2.2 q (World.ownsRow.lt HG9.out q hq).2 (.inr (by have := (World.ownsRow.lt HG9.out q hq).1; omega))
        have hl10 : w4.heap.size < w10.heap.size := by have := hfm.2.1; omega
        have dk : decide ((kk : Int) < 0) = false := decide_eq_false (by omega)
        clear hfm HMK c9 x9 HB9 HY9 HG9 hl9
        obtain ⟨wo, hwo⟩ : ∃ wo : World, wo = w10 := ⟨_, rfl⟩
        go_wp2_with fail
        refine (eqRow_any HG10.out HY10.out.1 hwl).mono ?_
        rintro e w11 ⟨rfl, hb11⟩
        have c11 : w11.cell? ⟨w.heap.size, 0, none⟩ = some (.slice ad n c) := (hb11.cell (p := ⟨w.heap.size, 0, none⟩) (by show w.heap.size < w10.heap.size; omega)).trans c10
        have HB11 : Hid (Below w.heap.size w w11) := HB10.out.trans (hb11.mono HB10.out.size)
        have HY11 : Hid (Ws 0 w11 y0 ws ∧ ∀ q, y0.ownBlock = some q → q < w3.heap.size) := ⟨HY10.out.1.keep fun q hq => hb11.block q (by have := HY10.out.2 q hq; omega), HY10.out.2⟩
        have HG11 : Hid (Ws (w4.heap.size + 1) w11 y1 ws) := HG10.out.keep fun q hq => hb11.block q (World.ownsRow.lt HG10.out q hq).2
        have hl11 : w4.heap.size < w11.heap.size := by have := hb11.size; omega
        clear hb11 c10 HB10 HY10 HG10 hl10 hwo
        obtain ⟨wo, hwo⟩ : ∃ wo : World, wo = w11 := ⟨_, rfl⟩
        go_wp2_with fail
        refine (mark_any HG11.out hwl).mono ?_
        rintro e w12 ⟨rfl, hh12, hz12, hen12, hbl12⟩
        have c12 : w12.cell? ⟨w.heap.size, 0, none⟩ = some (.slice ad n c) := by
          rw [← c11]
          have := hbl12 w.heap.size (by omega)
          simp [World.cell?, this]
        have HB12 : Hid (Below w.heap.size w w12) := HB11.out.trans ⟨hen12.1, hen12.2.1, hen12.2.2, by omega, fun b hb => hbl12 b (by omega)⟩
        have HY12 : Hid (Ws 0 w12 y0 ws ∧ ∀ q, y0.ownBlock = some q → q < w3.heap.size) := ⟨HY11.out.1.keep fun q hq => hbl12 q (by have := HY11.out.2 q hq; omega), HY11.out.2⟩
        have HH12 : Hid (Held w12 y1 ws.length) := hh12
        have hl12 : w4.heap.size < w12.heap.size := by omega
        clear hh12 hz12 hen12 hbl12 c11 HB11 HY11 HG11 hl11 hwo
        obtain ⟨m, hm⟩ : ∃ m, m = ws.length := ⟨_, rfl⟩
        rw [← hm] at HH12 hwl ⊢
        have HM : Hid (m = ws.length) := hm
        clear hm
        have CH : Hid (∀ W : World, Below w12.heap.size w12 W → Calls Try.prog 26 #[y1, .int .i64 1] W fun e w' => e = .returned (.int .i64 ((1 + m : Nat) : Int)) ∧ w' = W) := fun W hb => held_any (HH12.out.keep hb) hwl
        obtain ⟨wo, hwo⟩ : ∃ wo : World, wo = w12 := ⟨_, rfl⟩
        go_wp2_with fail
        refine (CH.out _ (Below.refl _ _)).mono ?_
        rintro e w13 ⟨rfl, rfl⟩
        clear hwo
        go_wp2_with fail
        refine (toPat_any _ ps _ (HH.out.keep HB12.out) HL.out HSM.out).mono ?_
        rintro e w14 ⟨u4, rfl, hb14, g4, rfl, _, hc14⟩
        have p14 := hc14.at ps.length
        rw [← HN.out] at p14 ⊢
        have HP14 : Hid (PcsAt w14 (.slice (some ⟨g4, 0, none⟩) n n) ps) := p14
        clear p14 hc14
        go_wp2_with fail
        refine (implEnds _ ps s pk pat _ HP14.out HL.out HSM.out hs2).mono ?_
        rintro e w15 ⟨y2, rfl, hy2, hb15⟩
        rw [← HWS.out] at hy2
        have hb1315 := hb14.trans (hb15.mono hb14.size)
        have HB15 : Hid (Below w.heap.size w w15) := HB12.out.trans (hb1315.mono HB12.out.size)
        have HY15 : Hid (Ws 0 w15 y0 ws) := HY12.out.1.keep fun q hq => hb1315.block q (by have := HY12.out.2 q hq; omega)
        have HG15 : Hid (Ws w14.heap.size w15 y2 ws) := hy2
        have HBB : Hid (Below w13.heap.size w13 w15) := hb1315
        clear hb14 hb15 hb1315 hy2 HP14 HY12 HB12 c12
        have hwl2 : ws.length ≤ 2000000 := by rw [← HM.out]; exact hwl
        obtain ⟨wo, hwo⟩ : ∃ wo : World, wo = w15 := ⟨_, rfl⟩
        go_wp2_with fail
        refine (eqRow_any HG15.out HY15.out hwl2).mono ?_
        rintro e w16 ⟨rfl, hb16⟩
        have HB16 : Hid (Below w.heap.size w w16) := HB15.out.trans (hb16.mono HB15.out.size)
        have HBC : Hid (Below w13.heap.size w13 w16) := HBB.out.trans (hb16.mono HBB.out.size)
        clear hb16 HB15 HY15 HG15 HBB hwo
        obtain ⟨wo, hwo⟩ : ∃ wo : World, wo = w16 := ⟨_, rfl⟩
        go_wp2_with fail
        refine (CH.out _ HBC.out).mono ?_
        rintro e w17 ⟨rfl, rfl⟩
        clear hwo
        go_wp2_with fail
        go_ret
        exact ⟨rfl, HB16.out⟩
#print axioms lwEnds_any
end Go.Proofs.Ytibmagmdeacenao
