/- The law on SameStore: at every two stores it answers as the specification, and leaves what it was handed as it was. -/
import Derived.Test.YtjbodcakhnkggarStS
import Derived.Test.YtjbodcakhnkggarEqB
import Derived.Deep.RegionWith
namespace Go.Proofs.Ytjbodcakhnkggar
open Go.RowKit

theorem cell_goT {W W' : World} {p : Addr} {u : Value} (hb : Below W.heap.size W W') (h : W.cell? p = some u) : W'.cell? p = some u := (hb.cell (World.block_lt_of_cell? W _ h)).trans h
theorem lastT6 {w W : World} {p0 p1 p2 p3 p4 p5 : Addr} {u0 u1 u2 u3 u4 u5 : Value} (h : W.cell? p0 = some u0 ∧ W.cell? p1 = some u1 ∧ W.cell? p2 = some u2 ∧ W.cell? p3 = some u3 ∧ W.cell? p4 = some u4 ∧ W.cell? p5 = some u5 ∧ Hid (Below w.heap.size w W)) : Hid (Below w.heap.size w W) := h.2.2.2.2.2.2
theorem keepT6 {w W W' : World} {p0 p1 p2 p3 p4 p5 : Addr} {u0 u1 u2 u3 u4 u5 : Value} (hb : Below W.heap.size W W') (h : W.cell? p0 = some u0 ∧ W.cell? p1 = some u1 ∧ W.cell? p2 = some u2 ∧ W.cell? p3 = some u3 ∧ W.cell? p4 = some u4 ∧ W.cell? p5 = some u5 ∧ Hid (Below w.heap.size w W)) :
    W'.cell? p0 = some u0 ∧ W'.cell? p1 = some u1 ∧ W'.cell? p2 = some u2 ∧ W'.cell? p3 = some u3 ∧ W'.cell? p4 = some u4 ∧ W'.cell? p5 = some u5 ∧ Hid (Below w.heap.size w W') :=
  ⟨cell_goT hb h.1, cell_goT hb h.2.1, cell_goT hb h.2.2.1, cell_goT hb h.2.2.2.1, cell_goT hb h.2.2.2.2.1, cell_goT hb h.2.2.2.2.2.1, h.2.2.2.2.2.2.out.trans (hb.mono h.2.2.2.2.2.2.out.size)⟩
theorem toStoreV (v rv : Value) (o : ByteArray) (ps : List Vr) (rs : List Cl) (w : World) (h : VrAt w v ps) (hr : ClAt w rv rs) (hk : ps.length ≤ 1048576) (hkr : rs.length ≤ 1048576) :
    Calls Try.prog 9 #[.agg #[v, rv, .string o]] w fun e w' => ∃ s t, e = .returned (.agg #[.slice s ps.length ps.length, .slice t rs.length rs.length, .string o]) ∧ Below w.heap.size w w' ∧ VrAt w' (.slice s ps.length ps.length) ps ∧ ClAt w' (.slice t rs.length rs.length) rs := by
  refine (toStore_any v rv o ps rs w h hr hk hkr).mono ?_
  rintro e w' ⟨u, rfl, hb, g, g', rfl, -, -, -, h1, h2⟩
  exact ⟨_, _, rfl, hb, h1.at _, h2.at _⟩

set_option maxRecDepth 100000 in
set_option maxHeartbeats 4000000 in
theorem lwSameStore_any (v rv : Value) (o : ByteArray) (v' rv' : Value) (o' : ByteArray) (ps : List Vr) (rs : List Cl) (qs : List Vr) (ss : List Cl) (w : World) (h : VrAt w v ps) (hr : ClAt w rv rs) (hf : StFit ps rs o) (h' : VrAt w v' qs) (hr' : ClAt w rv' ss) (hf' : StFit qs ss o') :
    Calls Try.prog 6 #[.agg #[v, rv, .string o], .agg #[v', rv', .string o']] w fun e w' => e = .returned (.bool true) ∧ Below w.heap.size w w' := by
  have HH : Hid (∀ W, Below w.heap.size w W → VrAt W v ps ∧ ClAt W rv rs ∧ VrAt W v' qs ∧ ClAt W rv' ss) := fun W hb => ⟨h.keep hb, hr.keep hb, h'.keep hb, hr'.keep hb⟩
  have HFT : Hid (StFit ps rs o ∧ StFit qs ss o') := ⟨hf, hf'⟩
  obtain ⟨ad, c, rfl, -⟩ := h
  obtain ⟨bd, d, rfl, -⟩ := hr
  obtain ⟨ad', c', rfl, -⟩ := h'
  obtain ⟨bd', d', rfl, -⟩ := hr'
  obtain ⟨n, hn⟩ : ∃ n, n = ps.length := ⟨_, rfl⟩
  obtain ⟨m, hm⟩ : ∃ m, m = rs.length := ⟨_, rfl⟩
  obtain ⟨n', hn'⟩ : ∃ n, n = qs.length := ⟨_, rfl⟩
  obtain ⟨m', hm'⟩ : ∃ m, m = ss.length := ⟨_, rfl⟩
  have HN : Hid (n = ps.length ∧ m = rs.length ∧ n' = qs.length ∧ m' = ss.length) := ⟨hn, hm, hn', hm'⟩
  rw [← hn, ← hm, ← hn', ← hm'] at HH
  rw [← hn, ← hm, ← hn', ← hm']
  clear hf hf' hn hm hn' hm'
  have HB0 : Hid (Below w.heap.size w ((w.alloc (.cells #[.slice ad n c, .slice bd m d, .string o] 25)).alloc (.cells #[.slice ad' n' c', .slice bd' m' d', .string o'] 25))) := ((Below.refl _ _).alloc (Nat.le_refl _) _).alloc (by simp) _
  have q0 := s2_0 w (.cells #[.slice ad n c, .slice bd m d, .string o] 25) (.cells #[.slice ad' n' c', .slice bd' m' d', .string o'] 25)
  have q1 := s2_1 w (.cells #[.slice ad n c, .slice bd m d, .string o] 25) (.cells #[.slice ad' n' c', .slice bd' m' d', .string o'] 25)
  have hz : w.heap.size + 1 < ((w.alloc (.cells #[.slice ad n c, .slice bd m d, .string o] 25)).alloc (.cells #[.slice ad' n' c', .slice bd' m' d', .string o'] 25)).heap.size := by simp
  go_enter Try.func6, Try.ntmps6
  go_wp2_with fail
  generalize (w.alloc (.cells #[.slice ad n c, .slice bd m d, .string o] 25)).alloc (.cells #[.slice ad' n' c', .slice bd' m' d', .string o'] 25) = W0 at *
  have HQ : Hid (∀ wr, Below W0.heap.size W0 wr → (wr.cell? ⟨w.heap.size, 0, none⟩ = some (.slice ad n c) ∧ wr.cell? ⟨w.heap.size, 1, none⟩ = some (.slice bd m d) ∧ wr.cell? ⟨w.heap.size, 2, none⟩ = some (.string o)) ∧ wr.cell? ⟨w.heap.size + 1, 0, none⟩ = some (.slice ad' n' c') ∧ wr.cell? ⟨w.heap.size + 1, 1, none⟩ = some (.slice bd' m' d') ∧ wr.cell? ⟨w.heap.size + 1, 2, none⟩ = some (.string o')) := by
    intro wr hb
    have s0 := (hb.block _ (by omega)).trans q0
    have s1 := (hb.block _ (by omega)).trans q1
    have z0 := blk_cell s0 0
    have z1 := blk_cell s0 1
    have z2 := blk_cell s1 0
    have z3 := blk_cell s1 1
    have z4 := blk_cell s0 2
    have z5 := blk_cell s1 2
    simp only [List.getElem?_toArray, List.getElem?_cons_zero, List.getElem?_cons_succ] at z0 z1 z2 z3 z4 z5
    exact ⟨⟨z0, z1, z4⟩, z2, z3, z5⟩
  have HW : Hid (∀ W, Below W0.heap.size W0 W → Below w.heap.size w W) := fun W hb => HB0.out.trans (hb.mono HB0.out.size)
  clear q0 q1 hz
  refine (szStore_any _ _ o ps rs _ _ (HH.out _ HB0.out).1 (HH.out _ HB0.out).2.1 (by omega) (by omega) HFT.out.1).mono ?_
  rintro e w1 ⟨hb1, r, rfl, hr⟩
  have B1 : Hid (Below W0.heap.size W0 w1) := hb1
  clear hb1
  obtain ⟨⟨z0, z1, z4⟩, z2, z3, z5⟩ := HQ.out _ B1.out
  rcases hr with rfl | ⟨hr0, hr1, hsm⟩
  · go_wp2
    go_ret
    exact ⟨rfl, HW.out _ B1.out⟩
  have d1 : decide (r < 0) = false := decide_eq_false (by omega)
  have HL : Hid (StSmall ps rs o) := hsm
  clear hsm
  go_wp2_with fail
  refine (szStore_any _ _ o' qs ss _ _ (HH.out _ (HW.out _ B1.out)).2.2.1 (HH.out _ (HW.out _ B1.out)).2.2.2 hr0 (by omega) HFT.out.2).mono ?_
  rintro e w2 ⟨hb2, r2, rfl, hr2⟩
  have B2 : Hid (Below W0.heap.size W0 w2) := B1.out.trans (hb2.mono B1.out.size)
  clear hb2 z0 z1 z2 z3 z4 z5
  obtain ⟨⟨z0, z1, z4⟩, z2, z3, z5⟩ := HQ.out _ B2.out
  rcases hr2 with rfl | ⟨hr0', hr1', hsm⟩
  · go_wp2
    go_ret
    exact ⟨rfl, HW.out _ B2.out⟩
  have d2 : decide (r2 < 0) = false := decide_eq_false (by omega)
  have HL' : Hid (StSmall qs ss o') := hsm
  clear hsm B1 hr0 hr1 hr0' hr1'
  have CA : Hid (∀ W, Below W0.heap.size W0 W → Calls Try.prog 9 #[.agg #[.slice ad n c, .slice bd m d, .string o]] W fun e w' => ∃ s t, e = .returned (.agg #[.slice s n n, .slice t m m, .string o]) ∧ Below W.heap.size W w' ∧ VrAt w' (.slice s n n) ps ∧ ClAt w' (.slice t m m) rs) := fun W hb => by
    have := toStoreV _ _ o ps rs W (HH.out _ (HW.out _ hb)).1 (HH.out _ (HW.out _ hb)).2.1 HL.out.1 HL.out.2.2.1
    rw [← HN.out.1, ← HN.out.2.1] at this
    exact this
  have CB : Hid (∀ W, Below W0.heap.size W0 W → Calls Try.prog 9 #[.agg #[.slice ad' n' c', .slice bd' m' d', .string o']] W fun e w' => ∃ s t, e = .returned (.agg #[.slice s n' n', .slice t m' m', .string o']) ∧ Below W.heap.size W w' ∧ VrAt w' (.slice s n' n') qs ∧ ClAt w' (.slice t m' m') ss) := fun W hb => by
    have := toStoreV _ _ o' qs ss W (HH.out _ (HW.out _ hb)).2.2.1 (HH.out _ (HW.out _ hb)).2.2.2 HL'.out.1 HL'.out.2.2.1
    rw [← HN.out.2.2.1, ← HN.out.2.2.2] at this
    exact this
  have CS : Hid (∀ W s t s' t', VrAt W (.slice s n n) ps → ClAt W (.slice t m m) rs → VrAt W (.slice s' n' n') qs → ClAt W (.slice t' m' m') ss → Calls Try.prog 18 #[.agg #[.slice s n n, .slice t m m, .string o], .agg #[.slice s' n' n', .slice t' m' m', .string o']] W fun e w' => e = .returned (.bool (St.same ps qs rs ss o o')) ∧ Below W.heap.size W w') :=
    fun W s t s' t' k1 k2 k3 k4 => specSame8 _ _ _ _ o o' ps qs rs ss W k1 k2 k3 k4 HL.out.1 HL'.out.1 HL.out.2.2.1 HL'.out.2.2.1
  have CI : Hid (∀ W s t s' t', VrAt W (.slice s n n) ps → ClAt W (.slice t m m) rs → VrAt W (.slice s' n' n') qs → ClAt W (.slice t' m' m') ss → Calls Try.prog 19 #[.agg #[.slice s n n, .slice t m m, .string o], .agg #[.slice s' n' n', .slice t' m' m', .string o']] W fun e w' => e = .returned (.bool (St.same ps qs rs ss o o')) ∧ Below W.heap.size W w') :=
    fun W s t s' t' k1 k2 k3 k4 => implSame8 _ _ _ _ o o' ps qs rs ss W k1 k2 k3 k4 HL.out.1 HL'.out.1 HL.out.2.2.1 HL'.out.2.2.1
  have CE : Hid (∀ W s t s' t', VrAt W (.slice s n n) ps → ClAt W (.slice t m m) rs → VrAt W (.slice s' n n) ps → ClAt W (.slice t' m m) rs → Calls Try.prog 11 #[.agg #[.slice s n n, .slice t m m, .string o], .agg #[.slice s' n n, .slice t' m m, .string o]] W fun e w' => e = .returned (.bool true) ∧ Below W.heap.size W w') :=
    fun W s t s' t' k1 k2 k3 k4 => eqStore_any _ _ _ _ o ps rs W k1 k2 k3 k4 HL.out.1 HL.out.2.2.1
  have CF : Hid (∀ W s t s' t', VrAt W (.slice s n' n') qs → ClAt W (.slice t m' m') ss → VrAt W (.slice s' n' n') qs → ClAt W (.slice t' m' m') ss → Calls Try.prog 11 #[.agg #[.slice s n' n', .slice t m' m', .string o'], .agg #[.slice s' n' n', .slice t' m' m', .string o']] W fun e w' => e = .returned (.bool true) ∧ Below W.heap.size W w') :=
    fun W s t s' t' k1 k2 k3 k4 => eqStore_any _ _ _ _ o' qs ss W k1 k2 k3 k4 HL'.out.1 HL'.out.2.2.1
  clear HL HL' HN HFT HH HB0
  go_wp2_with fail
  have BD : Hid (Below W0.heap.size W0 w2.drew) := B2.out.drew
  go_region_held3 (fun W => W.cell? ⟨w.heap.size, 0, none⟩ = some (.slice ad n c) ∧ W.cell? ⟨w.heap.size, 1, none⟩ = some (.slice bd m d) ∧ W.cell? ⟨w.heap.size, 2, none⟩ = some (.string o) ∧ W.cell? ⟨w.heap.size + 1, 0, none⟩ = some (.slice ad' n' c') ∧ W.cell? ⟨w.heap.size + 1, 1, none⟩ = some (.slice bd' m' d') ∧ W.cell? ⟨w.heap.size + 1, 2, none⟩ = some (.string o') ∧ Hid (Below W0.heap.size W0 W)) (first | exact keepT6 hb5 (by assumption) | exact keepT6 hb4 (by assumption) | exact keepT6 hb3 (by assumption) | exact ⟨z0, z1, z4, z2, z3, z5, BD⟩ | assumption) ((first
    | (go_at_call_of 9 (Value.agg #[Value.slice ad n c, Value.slice bd m d, Value.string o]); refine (CA.out _ (lastT6 (by assumption)).out).mono ?_; rintro e w3 ⟨s3, t3, rfl, hb3, p3, r3⟩)
    | (go_at_call_of 9 (Value.agg #[Value.slice ad' n' c', Value.slice bd' m' d', Value.string o']); refine (CB.out _ (lastT6 (by assumption)).out).mono ?_; rintro e w4 ⟨s4, t4, rfl, hb4, p4, r4⟩)
    | (go_at_call 18; refine (CS.out _ _ _ _ _ (p3.keep hb4) (r3.keep hb4) p4 r4).mono ?_; rintro e w5 ⟨rfl, hb5⟩)))
  all_goals
    have B5 : Hid (Below W0.heap.size W0 w5) := lastT6 (by assumption)
    clear hb5 hb4 hb3 p3 r3 p4 r4 z0 z1 z2 z3 z4 z5 BD B2
    obtain ⟨⟨z0, z1, z4⟩, z2, z3, z5⟩ := HQ.out _ B5.out
    generalize (St.same ps qs rs ss o o') = V at *
    go_wp2_with fail
    refine (CA.out _ B5.out).mono ?_
    rintro e w6 ⟨s6, t6, rfl, hb6, p6, r6⟩
    have B6 : Hid (Below W0.heap.size W0 w6) := B5.out.trans (hb6.mono B5.out.size)
    have P6 : Hid (VrAt w6 (.slice s6 n n) ps ∧ ClAt w6 (.slice t6 m m) rs) := ⟨p6, r6⟩
    clear z0 z1 z2 z3 z4 z5 hb6 p6 r6
    obtain ⟨⟨z0, z1, z4⟩, z2, z3, z5⟩ := HQ.out _ B6.out
    have X6 : Hid (∀ W, Below (w6.alloc (.cells #[.slice s6 n n, .slice t6 m m, .string o] 31)).heap.size (w6.alloc (.cells #[.slice s6 n n, .slice t6 m m, .string o] 31)) W → (W.cell? ⟨w6.heap.size, 0, none⟩ = some (.slice s6 n n) ∧ W.cell? ⟨w6.heap.size, 1, none⟩ = some (.slice t6 m m) ∧ W.cell? ⟨w6.heap.size, 2, none⟩ = some (.string o)) ∧ Below W0.heap.size W0 W ∧ VrAt W (.slice s6 n n) ps ∧ ClAt W (.slice t6 m m) rs) := fun W hb => by
      have s0 := (hb.block w6.heap.size (by simp)).trans (heap_alloc_new w6 _)
      have a0 := blk_cell s0 0
      have a1 := blk_cell s0 1
      have a2 := blk_cell s0 2
      simp only [List.getElem?_toArray, List.getElem?_cons_zero, List.getElem?_cons_succ] at a0 a1 a2
      have hb7 : Below w6.heap.size w6 W := ((Below.refl w6.heap.size w6).alloc (Nat.le_refl _) (.cells #[.slice s6 n n, .slice t6 m m, .string o] 31)).trans (hb.mono (by simp))
      exact ⟨⟨a0, a1, a2⟩, B6.out.trans (hb7.mono B6.out.size), P6.out.1.keep hb7, P6.out.2.keep hb7⟩
    clear P6 B6 B5 z0 z1 z2 z3 z4 z5
    obtain ⟨-, b7, -, -⟩ := X6.out _ (Below.refl _ _)
    obtain ⟨-, z2, z3, z5⟩ := HQ.out _ b7
    have B7 : Hid _ := b7
    clear b7
    go_wp2_with fail
    generalize w6.alloc (.cells #[.slice s6 n n, .slice t6 m m, .string o] 31) = U6 at *
    refine (CB.out _ B7.out).mono ?_
    rintro e w8 ⟨s8, t8, rfl, hb8, p8, r8⟩
    have P8 : Hid (VrAt w8 (.slice s8 n' n') qs ∧ ClAt w8 (.slice t8 m' m') ss) := ⟨p8, r8⟩
    have HB8 : Hid (Below U6.heap.size U6 w8) := hb8
    have X8 : Hid (∀ W, Below (w8.alloc (.cells #[.slice s8 n' n', .slice t8 m' m', .string o'] 31)).heap.size (w8.alloc (.cells #[.slice s8 n' n', .slice t8 m' m', .string o'] 31)) W → (W.cell? ⟨w8.heap.size, 0, none⟩ = some (.slice s8 n' n') ∧ W.cell? ⟨w8.heap.size, 1, none⟩ = some (.slice t8 m' m') ∧ W.cell? ⟨w8.heap.size, 2, none⟩ = some (.string o')) ∧ (VrAt W (.slice s8 n' n') qs ∧ ClAt W (.slice t8 m' m') ss) ∧ (W.cell? ⟨w6.heap.size, 0, none⟩ = some (.slice s6 n n) ∧ W.cell? ⟨w6.heap.size, 1, none⟩ = some (.slice t6 m m) ∧ W.cell? ⟨w6.heap.size, 2, none⟩ = some (.string o)) ∧ (VrAt W (.slice s6 n n) ps ∧ ClAt W (.slice t6 m m) rs) ∧ Below W0.heap.size W0 W) := fun W hb => by
      have s0 := (hb.block w8.heap.size (by simp)).trans (heap_alloc_new w8 _)
      have a0 := blk_cell s0 0
      have a1 := blk_cell s0 1
      have a2 := blk_cell s0 2
      simp only [List.getElem?_toArray, List.getElem?_cons_zero, List.getElem?_cons_succ] at a0 a1 a2
      have hb9 : Below w8.heap.size w8 W := ((Below.refl w8.heap.size w8).alloc (Nat.le_refl _) (.cells #[.slice s8 n' n', .slice t8 m' m', .string o'] 31)).trans (hb.mono (by simp))
      obtain ⟨e1, e2, e3, e4⟩ := X6.out W (HB8.out.trans (hb9.mono HB8.out.size))
      exact ⟨⟨a0, a1, a2⟩, ⟨P8.out.1.keep hb9, P8.out.2.keep hb9⟩, e1, ⟨e3, e4⟩, e2⟩
    clear P8 HB8 hb8 p8 r8 X6 B7 z2 z3 z5
    obtain ⟨⟨x1, x2, x3⟩, k8, ⟨y1, y2, y3⟩, k6, b9⟩ := X8.out _ (Below.refl _ _)
    have K9 : Hid _ := And.intro k6 k8
    have B9 : Hid _ := b9
    clear b9 k6 k8
    go_wp2_with fail
    generalize w8.alloc (.cells #[.slice s8 n' n', .slice t8 m' m', .string o'] 31) = U8 at *
    refine (CI.out _ _ _ _ _ K9.out.1.1 K9.out.1.2 K9.out.2.1 K9.out.2.2).mono ?_
    rintro e w10 ⟨rfl, hb10⟩
    have HB10 : Hid (Below U8.heap.size U8 w10) := hb10
    clear hb10 x1 x2 x3 y1 y2 y3 K9 B9
    obtain ⟨⟨x1, x2, x3⟩, -, ⟨y1, y2, y3⟩, -, b10⟩ := X8.out _ HB10.out
    obtain ⟨⟨z0, z1, z4⟩, z2, z3, z5⟩ := HQ.out _ b10
    have hq : (V != V) = false := by simp
    go_wp2_with fail
    have CT : Hid (∀ W, Below w10.heap.size w10 W → Calls Try.prog 9 #[.agg #[.slice ad n c, .slice bd m d, .string o]] W fun e w' => ∃ s t, e = .returned (.agg #[.slice s n n, .slice t m m, .string o]) ∧ Below W.heap.size W w' ∧ VrAt w' (.slice s n n) ps ∧ ClAt w' (.slice t m m) rs) := fun W hb => CA.out W (X8.out W (HB10.out.trans (hb.mono HB10.out.size))).2.2.2.2
    have CG : Hid (∀ W s t, Below w10.heap.size w10 W → VrAt W (.slice s n n) ps → ClAt W (.slice t m m) rs → Calls Try.prog 11 #[.agg #[.slice s6 n n, .slice t6 m m, .string o], .agg #[.slice s n n, .slice t m m, .string o]] W fun e w' => e = .returned (.bool true) ∧ Below W.heap.size W w') := fun W s t hb h1 h2 => by
      obtain ⟨-, -, -, ⟨k1, k2⟩, -⟩ := X8.out W (HB10.out.trans (hb.mono HB10.out.size))
      exact CE.out _ _ _ _ _ k1 k2 h1 h2
    have hl10 : w6.heap.size < w10.heap.size := World.block_lt_of_cell? w10 _ y1
    clear CA CE b10
    go_region_with ((first | (go_at_call 9; refine (CT.out _ (by first | exact Below.refl _ _ | exact (Below.refl _ _).drew)).mono ?_; rintro e w11 ⟨s11, t11, rfl, hb11, p11, r11⟩; have y11 := (hb11.cell (p := ⟨w6.heap.size, 0, none⟩) (by exact hl10)).trans y1; have y12 := (hb11.cell (p := ⟨w6.heap.size, 1, none⟩) (by exact hl10)).trans y2; have y13 := (hb11.cell (p := ⟨w6.heap.size, 2, none⟩) (by exact hl10)).trans y3) | (go_at_call 11; refine (CG.out _ _ _ ((Below.refl _ _).drew.trans hb11) p11 r11).mono ?_; rintro e w12 ⟨rfl, hb12⟩)))
    all_goals
      have HB12 : Hid (Below U8.heap.size U8 w12) := HB10.out.trans (((Below.refl w10.heap.size w10).drew.trans (hb11.trans (hb12.mono hb11.size))).mono HB10.out.size)
      clear hb11 hb12 p11 r11 y11 y12 y13 CT CG x1 x2 x3 y1 y2 y3 z0 z1 z2 z3 z4 z5 HB10
      obtain ⟨⟨x1, x2, x3⟩, -, -, -, b12⟩ := X8.out _ HB12.out
      obtain ⟨-, z2, z3, z5⟩ := HQ.out _ b12
      have CT : Hid (∀ W, Below w12.heap.size w12 W → Calls Try.prog 9 #[.agg #[.slice ad' n' c', .slice bd' m' d', .string o']] W fun e w' => ∃ s t, e = .returned (.agg #[.slice s n' n', .slice t m' m', .string o']) ∧ Below W.heap.size W w' ∧ VrAt w' (.slice s n' n') qs ∧ ClAt w' (.slice t m' m') ss) := fun W hb => CB.out W (X8.out W (HB12.out.trans (hb.mono HB12.out.size))).2.2.2.2
      have CG : Hid (∀ W s t, Below w12.heap.size w12 W → VrAt W (.slice s n' n') qs → ClAt W (.slice t m' m') ss → Calls Try.prog 11 #[.agg #[.slice s8 n' n', .slice t8 m' m', .string o'], .agg #[.slice s n' n', .slice t m' m', .string o']] W fun e w' => e = .returned (.bool true) ∧ Below W.heap.size W w') := fun W s t hb h1 h2 => by
        obtain ⟨-, ⟨k1, k2⟩, -, -, -⟩ := X8.out W (HB12.out.trans (hb.mono HB12.out.size))
        exact CF.out _ _ _ _ _ k1 k2 h1 h2
      have hl12 : w8.heap.size < w12.heap.size := World.block_lt_of_cell? w12 _ x1
      have HE : Hid (∀ W, Below w12.heap.size w12 W → Below w.heap.size w W) := fun W hb => HW.out _ (X8.out W (HB12.out.trans (hb.mono HB12.out.size))).2.2.2.2
      clear CB CF b12 X8 HW HQ
      go_wp2_with fail
      go_region_with ((first | (go_at_call 9; refine (CT.out _ (by first | exact Below.refl _ _ | exact (Below.refl _ _).drew)).mono ?_; rintro e w13 ⟨s13, t13, rfl, hb13, p13, r13⟩; have x11 := (hb13.cell (p := ⟨w8.heap.size, 0, none⟩) (by exact hl12)).trans x1; have x12 := (hb13.cell (p := ⟨w8.heap.size, 1, none⟩) (by exact hl12)).trans x2; have x13 := (hb13.cell (p := ⟨w8.heap.size, 2, none⟩) (by exact hl12)).trans x3) | (go_at_call 11; refine (CG.out _ _ _ ((Below.refl _ _).drew.trans hb13) p13 r13).mono ?_; rintro e w14 ⟨rfl, hb14⟩)))
      all_goals
        have HB14 : Hid (Below w12.heap.size w12 w14) := (Below.refl w12.heap.size w12).drew.trans (hb13.trans (hb14.mono hb13.size))
        clear hb13 hb14 p13 r13 x11 x12 x13 CT CG
        go_wp2
        go_ret
        exact ⟨rfl, HE.out _ HB14.out⟩
#print axioms lwSameStore_any
end Go.Proofs.Ytjbodcakhnkggar
