/- The law on StoreText: at every store it answers as the specification, and leaves what it was handed as it was. -/
import Derived.Test.YtbaoadfnmicijaaMStS
import Derived.Test.YtbaoadfnmicijaaMStX
import Derived.Test.YtbaoadfnmicijaaMStI
import Derived.Deep.RegionWith
namespace Go.Proofs.Ytbaoadfnmicijaa
open Go.RowKit

set_option maxRecDepth 100000 in
set_option maxHeartbeats 4000000 in
theorem lwStoreText_any (v rv : Value) (o : ByteArray) (vs : List Vr) (cs : List Cl) (w : World) (h : VrAt w v vs) (hr : ClAt w rv cs) (hf : StFit vs cs o) :
    Calls Try.prog 3 #[.agg #[v, rv, .string o]] w fun e w' => e = .returned (.bool true) ∧ Below w.heap.size w w' := by
  have HH : Hid (∀ W, Below w.heap.size w W → VrAt W v vs ∧ ClAt W rv cs) := fun W hb => ⟨h.keep hb, hr.keep hb⟩
  have HFT : Hid (StFit vs cs o) := hf
  obtain ⟨ad, c, rfl, -⟩ := h
  obtain ⟨bd, d, rfl, -⟩ := hr
  obtain ⟨n, hn⟩ : ∃ n, n = vs.length := ⟨_, rfl⟩
  obtain ⟨m, hm⟩ : ∃ m, m = cs.length := ⟨_, rfl⟩
  have HN : Hid (n = vs.length ∧ m = cs.length) := ⟨hn, hm⟩
  rw [← hn, ← hm] at HH
  rw [← hn, ← hm]
  clear hf hn hm
  have HB0 : Hid (Below w.heap.size w (w.alloc (.cells #[.slice ad n c, .slice bd m d, .string o] 25))) := (Below.refl _ _).alloc (Nat.le_refl _) _
  have q0 := heap_alloc_new w (.cells #[.slice ad n c, .slice bd m d, .string o] 25)
  have hz : w.heap.size < (w.alloc (.cells #[.slice ad n c, .slice bd m d, .string o] 25)).heap.size := by simp
  go_enter Try.func3, Try.ntmps3
  go_wp2_with fail
  generalize w.alloc (.cells #[.slice ad n c, .slice bd m d, .string o] 25) = W0 at *
  have HQ : Hid (∀ wr, Below W0.heap.size W0 wr → (wr.cell? ⟨w.heap.size, 0, none⟩ = some (.slice ad n c) ∧ wr.cell? ⟨w.heap.size, 1, none⟩ = some (.slice bd m d)) ∧ wr.cell? ⟨w.heap.size, 2, none⟩ = some (.string o)) := by
    intro wr hb
    have s0 := (hb.block _ hz).trans q0
    have z0 := blk_cell s0 0
    have z1 := blk_cell s0 1
    have z2 := blk_cell s0 2
    simp only [List.getElem?_toArray, List.getElem?_cons_zero, List.getElem?_cons_succ] at z0 z1 z2
    exact ⟨⟨z0, z1⟩, z2⟩
  have HW : Hid (∀ W, Below W0.heap.size W0 W → Below w.heap.size w W) := fun W hb => HB0.out.trans (hb.mono HB0.out.size)
  clear q0 hz
  refine (szStore_any _ _ o vs cs _ _ (HH.out _ HB0.out).1 (HH.out _ HB0.out).2 (by omega) (by omega) HFT.out).mono ?_
  rintro e w1 ⟨hb1, r, rfl, hr⟩
  have B1 : Hid (Below W0.heap.size W0 w1) := hb1
  clear hb1
  obtain ⟨⟨z0, z1⟩, z2⟩ := HQ.out _ B1.out
  rcases hr with rfl | ⟨hr0, hr1, hsm⟩
  · go_wp2
    go_ret
    exact ⟨rfl, HW.out _ B1.out⟩
  have d1 : decide (r < 0) = false := decide_eq_false (by omega)
  have HL : Hid (StSmall vs cs o) := hsm
  clear hsm hr0 hr1
  have CA : Hid (∀ W, Below W0.heap.size W0 W → Calls Try.prog 8 #[.agg #[.slice ad n c, .slice bd m d, .string o]] W fun e w' => ∃ s t, e = .returned (.agg #[.slice s n n, .slice t m m, .string o]) ∧ Below W.heap.size W w' ∧ VrAt w' (.slice s n n) vs ∧ ClAt w' (.slice t m m) cs) := fun W hb => by
    have := toStore_any _ _ o vs cs W (HH.out _ (HW.out _ hb)).1 (HH.out _ (HW.out _ hb)).2 HL.out.1 HL.out.2.2.1
    refine this.mono ?_
    rintro e w' ⟨u, rfl, hb, g, g', rfl, -, -, -, h1, h2⟩
    rw [HN.out.1, HN.out.2]
    exact ⟨_, _, rfl, hb, h1.at _, h2.at _⟩
  obtain ⟨S, V, hV⟩ : ∃ (S : ByteArray) (V : Bool), St.text? vs cs o = .tuple #[.string S, .bool V] := by
    unfold St.text?
    split
    · exact ⟨_, _, rfl⟩
    · exact ⟨_, _, rfl⟩
  have CS : Hid (∀ W s t, VrAt W (.slice s n n) vs → ClAt W (.slice t m m) cs → Calls Try.prog 7 #[.agg #[.slice s n n, .slice t m m, .string o]] W fun e w' => e = .returned (.tuple #[.string S, .bool V]) ∧ Below W.heap.size W w') := fun W s t k1 k2 => by rw [← hV]; exact spStoreText _ _ o vs cs W k1 k2 HL.out
  have CI : Hid (∀ W s t, VrAt W (.slice s n n) vs → ClAt W (.slice t m m) cs → Calls Try.prog 9 #[.agg #[.slice s n n, .slice t m m, .string o]] W fun e w' => e = .returned (.tuple #[.string S, .bool V]) ∧ Below W.heap.size W w') := fun W s t k1 k2 => by rw [← hV]; exact imStoreText _ _ o vs cs W k1 k2 HL.out
  have CE : Hid (∀ W s t s' t', VrAt W (.slice s n n) vs → ClAt W (.slice t m m) cs → VrAt W (.slice s' n n) vs → ClAt W (.slice t' m m) cs → Calls Try.prog 10 #[.agg #[.slice s n n, .slice t m m, .string o], .agg #[.slice s' n n, .slice t' m m, .string o]] W fun e w' => e = .returned (.bool true) ∧ Below W.heap.size W w') :=
    fun W s t s' t' k1 k2 k3 k4 => eqStore_any _ _ _ _ o vs cs W k1 k2 k3 k4 HL.out.1 HL.out.2.2.1
  clear hV HL HN HFT HH HB0
  go_wp2_with fail
  refine (CA.out _ B1.out).mono ?_
  rintro e w2 ⟨s2, t2, rfl, hb2, p2, r2⟩
  have B2 : Hid (Below W0.heap.size W0 w2) := B1.out.trans (hb2.mono B1.out.size)
  have P2 : Hid (VrAt w2 (.slice s2 n n) vs ∧ ClAt w2 (.slice t2 m m) cs) := ⟨p2, r2⟩
  clear hb2 p2 r2 B1 z0 z1 z2
  go_wp2_with fail
  refine (CS.out _ _ _ P2.out.1 P2.out.2).mono ?_
  rintro e w3 ⟨rfl, hb3⟩
  have B3 : Hid (Below W0.heap.size W0 w3) := B2.out.trans (hb3.mono B2.out.size)
  clear hb3 P2 B2
  obtain ⟨⟨z0, z1⟩, z2⟩ := HQ.out _ B3.out
  go_wp2_with fail
  refine (CA.out _ B3.out).mono ?_
  rintro e w4 ⟨s4, t4, rfl, hb4, p4, r4⟩
  have B4 : Hid (Below W0.heap.size W0 w4) := B3.out.trans (hb4.mono B3.out.size)
  have P4 : Hid (VrAt w4 (.slice s4 n n) vs ∧ ClAt w4 (.slice t4 m m) cs) := ⟨p4, r4⟩
  clear hb4 p4 r4 B3 z0 z1 z2
  have X4 : Hid (∀ W, Below (w4.alloc (.cells #[.slice s4 n n, .slice t4 m m, .string o] 32)).heap.size (w4.alloc (.cells #[.slice s4 n n, .slice t4 m m, .string o] 32)) W → (W.cell? ⟨w4.heap.size, 0, none⟩ = some (.slice s4 n n) ∧ W.cell? ⟨w4.heap.size, 1, none⟩ = some (.slice t4 m m) ∧ W.cell? ⟨w4.heap.size, 2, none⟩ = some (.string o)) ∧ Below W0.heap.size W0 W ∧ VrAt W (.slice s4 n n) vs ∧ ClAt W (.slice t4 m m) cs) := fun W hb => by
    have s0 := (hb.block w4.heap.size (by simp)).trans (heap_alloc_new w4 _)
    have a0 := blk_cell s0 0
    have a1 := blk_cell s0 1
    have a2 := blk_cell s0 2
    simp only [List.getElem?_toArray, List.getElem?_cons_zero, List.getElem?_cons_succ] at a0 a1 a2
    have hb7 : Below w4.heap.size w4 W := ((Below.refl w4.heap.size w4).alloc (Nat.le_refl _) (.cells #[.slice s4 n n, .slice t4 m m, .string o] 32)).trans (hb.mono (by simp))
    exact ⟨⟨a0, a1, a2⟩, B4.out.trans (hb7.mono B4.out.size), P4.out.1.keep hb7, P4.out.2.keep hb7⟩
  clear P4 B4
  obtain ⟨⟨y1, y2, y3⟩, -, k1, k2⟩ := X4.out _ (Below.refl _ _)
  have K4 : Hid _ := And.intro k1 k2
  clear k1 k2
  go_wp2_with fail
  generalize w4.alloc (.cells #[.slice s4 n n, .slice t4 m m, .string o] 32) = U4 at *
  refine (CI.out _ _ _ K4.out.1 K4.out.2).mono ?_
  rintro e w5 ⟨rfl, hb5⟩
  have HB5 : Hid (Below U4.heap.size U4 w5) := hb5
  clear hb5 y1 y2 y3 K4
  obtain ⟨⟨y1, y2, y3⟩, b5, -, -⟩ := X4.out _ HB5.out
  obtain ⟨⟨z0, z1⟩, z2⟩ := HQ.out _ b5
  have hq : (V != V) = false := by simp
  go_wp2_with fail
  have CT : Hid (∀ W, Below w5.heap.size w5 W → Calls Try.prog 8 #[.agg #[.slice ad n c, .slice bd m d, .string o]] W fun e w' => ∃ s t, e = .returned (.agg #[.slice s n n, .slice t m m, .string o]) ∧ Below W.heap.size W w' ∧ VrAt w' (.slice s n n) vs ∧ ClAt w' (.slice t m m) cs) := fun W hb => CA.out W (X4.out W (HB5.out.trans (hb.mono HB5.out.size))).2.1
  have CG : Hid (∀ W s t, Below w5.heap.size w5 W → VrAt W (.slice s n n) vs → ClAt W (.slice t m m) cs → Calls Try.prog 10 #[.agg #[.slice s4 n n, .slice t4 m m, .string o], .agg #[.slice s n n, .slice t m m, .string o]] W fun e w' => e = .returned (.bool true) ∧ Below W.heap.size W w') := fun W s t hb h1 h2 => by
    obtain ⟨-, -, k1, k2⟩ := X4.out W (HB5.out.trans (hb.mono HB5.out.size))
    exact CE.out _ _ _ _ _ k1 k2 h1 h2
  have hl5 : w4.heap.size < w5.heap.size := World.block_lt_of_cell? w5 _ y1
  have HE : Hid (∀ W, Below w5.heap.size w5 W → Below w.heap.size w W) := fun W hb => HW.out _ (X4.out W (HB5.out.trans (hb.mono HB5.out.size))).2.1
  clear CA CE b5 X4 HW HQ CS CI
  go_region_with ((first | (go_at_call 8; refine (CT.out _ (by first | exact Below.refl _ _ | exact (Below.refl _ _).drew)).mono ?_; rintro e w6 ⟨s6, t6, rfl, hb6, p6, r6⟩; have y11 := (hb6.cell (p := ⟨w4.heap.size, 0, none⟩) (by exact hl5)).trans y1; have y12 := (hb6.cell (p := ⟨w4.heap.size, 1, none⟩) (by exact hl5)).trans y2; have y13 := (hb6.cell (p := ⟨w4.heap.size, 2, none⟩) (by exact hl5)).trans y3) | (go_at_call 10; refine (CG.out _ _ _ ((Below.refl _ _).drew.trans hb6) p6 r6).mono ?_; rintro e w7 ⟨rfl, hb7⟩)))
  all_goals
    have HB7 : Hid (Below w5.heap.size w5 w7) := (Below.refl w5.heap.size w5).drew.trans (hb6.trans (hb7.mono hb6.size))
    clear hb6 hb7 p6 r6 y11 y12 y13 CT CG
    go_wp2
    go_ret
    exact ⟨rfl, HE.out _ HB7.out⟩
end Go.Proofs.Ytbaoadfnmicijaa
