/- What is said: the program's copies of a store, with more said. -/
import Derived.Test.YtnlbbomejpopnaaRwC
namespace Go.Proofs.Ytnlbbomejpopnaa
open Go.RowKit

/-- The first 3000 bytes. -/
def St.cut3 (s : ByteArray) : ByteArray := if 3000 < s.size then s.extract 0 3000 else s
theorem St.cut3_size (s : ByteArray) : (St.cut3 s).size ≤ 3000 := by
  unfold St.cut3
  split
  · rw [ByteArray.size_extract]; omega
  · omega
theorem ext_whole (s : ByteArray) : s.extract 0 s.size = s := by
  apply ByteArray.ext
  rw [ByteArray.data_extract]
  simp

/-- A store in memory of its own: its Vars from lo to mid, its Cells from mid to hi. -/
def StIn (lo hi : Nat) (w : World) (u x : Value) (vs : List Vr) (cs : List Cl) : Prop := ∃ mid, lo ≤ mid ∧ mid ≤ hi ∧ VrIn lo mid w u vs ∧ ClIn mid hi w x cs

theorem StIn.keep {lo hi : Nat} {w w' : World} {u x : Value} {vs : List Vr} {cs : List Cl} (h : StIn lo hi w u x vs cs) (hk : ∀ b, lo ≤ b → b < hi → w'.heap[b]? = w.heap[b]?) : StIn lo hi w' u x vs cs := by
  obtain ⟨mid, h1, h2, h3, h4⟩ := h
  exact ⟨mid, h1, h2, h3.keep (fun b e1 e2 => hk b e1 (by omega)), h4.keep (fun b e1 e2 => hk b (by omega) e2)⟩
theorem StIn.wide {lo hi lo' hi' : Nat} {w : World} {u x : Value} {vs : List Vr} {cs : List Cl} (h : StIn lo hi w u x vs cs) (h1 : lo' ≤ lo) (h2 : hi ≤ hi') : StIn lo' hi' w u x vs cs := by
  obtain ⟨mid, e1, e2, h3, h4⟩ := h
  exact ⟨mid, by omega, by omega, h3.wide h1 (Nat.le_refl _), h4.wide (Nat.le_refl _) h2⟩

set_option maxRecDepth 100000 in
set_option maxHeartbeats 4000000 in
theorem withOut_any (tv lv : Value) (o p : ByteArray) (vs : List Vr) (cs : List Cl) (w : World) (h1 : VrAt w tv vs) (h2 : ClAt w lv cs) (hs : StSmall vs cs o) (hp : p.size ≤ 100000000) :
    Calls Try.prog 54 #[.agg #[tv, lv, .string o], .string p] w fun e w' => ∃ u x, e = .returned (.agg #[u, x, .string p]) ∧ StIn w.heap.size w'.heap.size w' u x vs cs ∧ Below w.heap.size w w' := by
  have CV : Hid (∀ W, Below w.heap.size w W → Calls Try.prog 49 #[tv] W fun e w' => ∃ u, e = .returned u ∧ VrIn W.heap.size w'.heap.size w' u vs ∧ Below W.heap.size W w') := fun W hb => copyOfVar_any tv vs W (h1.keep hb) hs.1 hs.2.1
  have CC : Hid (∀ W, Below w.heap.size w W → Calls Try.prog 40 #[lv] W fun e w' => ∃ u, e = .returned u ∧ ClIn W.heap.size w'.heap.size w' u cs ∧ Below W.heap.size W w') := fun W hb => copyOfCell_any lv cs W (h2.keep hb) hs.2.2.1 hs.2.2.2.1
  have CP : Hid (∀ W, Calls Try.prog 41 #[.string p] W fun e w' => e = .returned (.string p) ∧ Below W.heap.size W w') := fun W => clone_any p W (by omega)
  obtain ⟨ad, c, rfl, -⟩ := h1
  obtain ⟨bd, d, rfl, -⟩ := h2
  obtain ⟨n, hn⟩ : ∃ n, n = vs.length := ⟨_, rfl⟩
  obtain ⟨m, hm⟩ : ∃ m, m = cs.length := ⟨_, rfl⟩
  rw [← hn] at CV ⊢
  rw [← hm] at CC ⊢
  have HNM : Hid (n = vs.length ∧ m = cs.length) := ⟨hn, hm⟩
  clear hn hm hs hp
  have HB : Hid (Below w.heap.size w ((w.alloc (.cells #[.slice ad n c, .slice bd m d, .string o] 27)).alloc (.cells #[.slice none 0 0, .slice none 0 0, .string ByteArray.empty] 27))) := ((Below.refl _ _).alloc (Nat.le_refl _) _).alloc (by simp) _
  have q0 := s2_0 w (.cells #[.slice ad n c, .slice bd m d, .string o] 27) (.cells #[.slice none 0 0, .slice none 0 0, .string ByteArray.empty] 27)
  have q1 := s2_1 w (.cells #[.slice ad n c, .slice bd m d, .string o] 27) (.cells #[.slice none 0 0, .slice none 0 0, .string ByteArray.empty] 27)
  have hz : w.heap.size + 1 < ((w.alloc (.cells #[.slice ad n c, .slice bd m d, .string o] 27)).alloc (.cells #[.slice none 0 0, .slice none 0 0, .string ByteArray.empty] 27)).heap.size := by simp
  have HZ : Hid _ := And.intro q1 hz
  have z0 := blk_cell q0 0
  have z1 := blk_cell q0 1
  simp only [List.getElem?_toArray, List.getElem?_cons_zero, List.getElem?_cons_succ] at z0 z1
  clear q0 q1 hz
  go_enter Try.func54, Try.ntmps54
  go_wp2_with fail
  change Code.wp _ _ _ _ ((w.alloc (.cells #[.slice ad n c, .slice bd m d, .string o] 27)).alloc (.cells #[.slice none 0 0, .slice none 0 0, .string ByteArray.empty] 27))
  generalize (w.alloc (.cells #[.slice ad n c, .slice bd m d, .string o] 27)).alloc (.cells #[.slice none 0 0, .slice none 0 0, .string ByteArray.empty] 27) = W0 at *
  have HST : Hid (∀ W, Below W0.heap.size W0 W → W.heap[w.heap.size + 1]? = some (.cells #[.slice none 0 0, .slice none 0 0, .string ByteArray.empty] 27 (0, 0))) := fun W hb => (hb.block _ HZ.out.2).trans HZ.out.1
  have HW0 : Hid (∀ W, Below W0.heap.size W0 W → Below w.heap.size w W) := fun W hb => HB.out.trans (hb.mono HB.out.size)
  go_region_held3 (fun W => W.cell? ⟨w.heap.size, 0, none⟩ = some (.slice ad n c) ∧ W.cell? ⟨w.heap.size, 1, none⟩ = some (.slice bd m d)) (first | exact keepC2 hb3 (by assumption) | exact keepC2 hb2 (by assumption) | exact keepC2 hb1 (by assumption) | go_keep | exact ⟨z0, z1⟩ | assumption)
    ((first
      | (go_at_call 49; refine (CV.out W0.drew (HW0.out _ (Below.refl _ _).drew)).mono ?_; rintro e w1 ⟨u, rfl, hu, hb1⟩; have B1 : Hid (Below W0.heap.size W0 w1) := (Below.refl _ _).drew.trans hb1; have HU : Hid (VrIn W0.heap.size w1.heap.size w1 u vs) := hu; obtain ⟨ua, uc, rfl, -⟩ := hu)
      | (go_at_call 40; refine (CC.out w1 (HW0.out _ B1.out)).mono ?_; rintro e w2 ⟨x, rfl, hx, hb2⟩; have B2 : Hid (Below W0.heap.size W0 w2) := B1.out.trans (hb2.mono B1.out.size); have HX : Hid (ClIn w1.heap.size w2.heap.size w2 x cs) := hx; have HU2 : Hid (VrIn W0.heap.size w1.heap.size w2 (.slice ua vs.length uc) vs) := HU.out.keep (fun b _ hb => hb2.block b hb); obtain ⟨xa, xc, rfl, -⟩ := hx)
      | (go_at_call 41; refine (CP.out _).mono ?_; rintro e w3 ⟨rfl, hb3⟩; have B3 : Hid (Below W0.heap.size W0 w3) := B2.out.trans (hb3.mono B2.out.size); have R3 := HST.out w3 B3.out; have y0 : w3.cell? ⟨w.heap.size + 1, 0, none⟩ = some (.slice none 0 0) := (blk_cell R3 0).trans rfl; have y1 : w3.cell? ⟨w.heap.size + 1, 1, none⟩ = some (.slice none 0 0) := (blk_cell R3 1).trans rfl; have y2 : w3.cell? ⟨w.heap.size + 1, 2, none⟩ = some (.string ByteArray.empty) := (blk_cell R3 2).trans rfl; have f0 := blk_free R3 0; have f1 := blk_free R3 1; have f2 := blk_free R3 2; clear R3)))
  all_goals
    have HU3 : Hid (VrIn W0.heap.size w1.heap.size w3 (.slice ua vs.length uc) vs) := HU2.out.keep (fun b _ hb => hb3.block b (by have := hb2.size; omega))
    have HX3 : Hid (ClIn w1.heap.size w2.heap.size w3 (.slice xa cs.length xc) cs) := HX.out.keep (fun b _ hb => hb3.block b hb)
    have hsz : w.heap.size + 1 < W0.heap.size ∧ W0.heap.size ≤ w1.heap.size ∧ w1.heap.size ≤ w2.heap.size ∧ w2.heap.size ≤ w3.heap.size := ⟨HZ.out.2, B1.out.size, hb2.size, hb3.size⟩
    have HSZ : Hid _ := hsz
    have HRR : Hid _ := HST.out w3 B3.out
    clear hsz hb1 hb2 hb3 HU HX HU2 CV CC CP
    go_wp2_with fail
    refine bodyPost_ret (results_cell_row (p := 4) (ty := 27) rfl _ _ (w.heap.size + 1) 27 _ (0, 0) _ rfl (blk_set (blk_set (blk_set HRR.out 0 _) 1 _) 2 _) Try.underlying27 rfl (by kernel_rfl)) rfl ?_
    have hsz := HSZ.out
    have hk : ∀ b, W0.heap.size ≤ b → (((w3.setCell ⟨w.heap.size + 1, 0, none⟩ (.slice ua vs.length uc)).setCell ⟨w.heap.size + 1, 1, none⟩ (.slice xa cs.length xc)).setCell ⟨w.heap.size + 1, 2, none⟩ (.string p)).heap[b]? = w3.heap[b]? := fun b hb => by
      rw [Below.heap_setCell _ _ _ _ (by show b ≠ w.heap.size + 1; omega), Below.heap_setCell _ _ _ _ (by show b ≠ w.heap.size + 1; omega), Below.heap_setCell _ _ _ _ (by show b ≠ w.heap.size + 1; omega)]
    refine ⟨_, _, rfl, ⟨w1.heap.size, by omega, by simp [World.setCell]; omega, ?_, ?_⟩, ?_⟩
    · exact (HU3.out.keep (fun b hb _ => hk b hb)).wide (by omega) (Nat.le_refl _)
    · exact (HX3.out.keep (fun b hb _ => hk b (by omega))).wide (Nat.le_refl _) (by simp [World.setCell]; omega)
    · exact (((HW0.out _ B3.out).setCell (by show _ ≤ w.heap.size + 1; omega) _).setCell (by show _ ≤ w.heap.size + 1; omega) _).setCell (by show _ ≤ w.heap.size + 1; omega) _

#print axioms withOut_any
end Go.Proofs.Ytnlbbomejpopnaa
