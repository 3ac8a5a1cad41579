/- The linked pieces, made: walked. When a pattern is right: one piece. -/
import Derived.Test.YtlnmbahakdmkgaaZba
import Derived.Test.YtlnmbahakdmkgaaZaa
namespace Go.Proofs.Ytlnmbahakdmkgaa
section PartIpN
open Go.RowKit Go.Maps

/-- Two blocks more, and a write into an old one. -/
theorem link3 {wr : World} {g t : Nat} {arr : Array Value} {T : TypeId} (hg : wr.heap[g]? = some (.cells arr T (0, 0))) (A B : Obj) (u : Value) :
    (((wr.alloc A).alloc B).setCell ⟨g, t, none⟩ u).heap[g]? = some (.cells (arr.setIfInBounds t u) T (0, 0)) ∧ (((wr.alloc A).alloc B).setCell ⟨g, t, none⟩ u).heap[wr.heap.size]? = some A ∧ (((wr.alloc A).alloc B).setCell ⟨g, t, none⟩ u).heap[wr.heap.size + 1]? = some B ∧
    (∀ x, x < wr.heap.size → x ≠ g → (((wr.alloc A).alloc B).setCell ⟨g, t, none⟩ u).heap[x]? = wr.heap[x]?) ∧ (((wr.alloc A).alloc B).setCell ⟨g, t, none⟩ u).heap.size = wr.heap.size + 2 := by
  have hgl := blk_lt hg
  obtain ⟨h1, h2, h3⟩ := two_more wr A B
  have h4 : ((wr.alloc A).alloc B).heap[wr.heap.size + 1]? = some B := by
    have := heap_alloc_new (wr.alloc A) B
    rwa [show (wr.alloc A).heap.size = wr.heap.size + 1 by simp] at this
  refine ⟨blk_set ((h1.block g hgl).trans hg) t u, ?_, ?_, fun x hx hne => ?_, by simp [World.setCell]⟩
  · rw [Below.heap_setCell _ _ _ _ (by show wr.heap.size ≠ g; omega)]; exact h3
  · rw [Below.heap_setCell _ _ _ _ (by show wr.heap.size + 1 ≠ g; omega)]; exact h4
  · rw [Below.heap_setCell _ _ _ _ (by show x ≠ g; exact hne)]; exact h1.block x hx

set_option maxHeartbeats 4000000 in
set_option maxRecDepth 100000 in
theorem linked_any (pv : Value) (s : ByteArray) (ps : List Pi) (k : Nat) (w : World) (hp : PcsAt w pv ps) (hk : k < ps.length) (h60 : ps.length ≤ 60) (hpk : ∀ j, j < ps.length → Pk.piece j (ps.getD j Pi.no) = true) (hs : s.size ≤ 1048576) :
    Calls Try.prog 25 #[.agg #[pv], .int .i64 (k : Int)] w (fun e w' => ∃ c : Im, e = .returned (.pointer (some ⟨c.P k, 0, none⟩)) ∧ c.s = s ∧ c.ps = ps ∧ c.K = k + 1 ∧ w.heap.size ≤ c.M0 ∧ c.M0 ≤ w'.heap.size ∧ ILie c ∧ IMemo c (fun _ => False) w' ∧ Below w.heap.size w w') := by
  obtain ⟨M, hMs, hMat, hmk⟩ := makePL_run (k + 1) (by omega)
  have hmk1 : ∀ W : World, (Instr.makeSlice 90 (.int .i64 ((k : Int) + 1)) (.int .i64 ((k : Int) + 1))).run Try.prog W = .ok (.slice (some ⟨W.heap.size, 0, none⟩) (k + 1) (k + 1)) (W.alloc (.cells M 54)) := hmk
  obtain ⟨pa, pc, rfl, hf⟩ := hp
  obtain ⟨pb, po, rfl, hpl, hpc⟩ := hf (by omega)
  obtain ⟨n, hn⟩ : ∃ n, n = ps.length := ⟨_, rfl⟩
  have HN : Hid (n = ps.length) := hn
  rw [← hn] at hk h60 hpk hpc ⊢
  clear hf hn hmk
  go_enter Try.func25, Try.ntmps25
  go_wp2_with fail
  obtain ⟨w0, hw0⟩ : ∃ w0, w0 = w.alloc (.cells #[.slice (some ⟨pb, po, none⟩) n pc] 30) := ⟨_, rfl⟩
  have hs0 : w0.heap.size = w.heap.size + 1 := by rw [hw0]; simp
  have HL0 : Hid (Lk w0 s ps (w.heap.size + 1) (k + 1) 0 ((w.alloc (.cells #[.slice (some ⟨pb, po, none⟩) n pc] 30)).alloc (.cells M 54)) M [] []) := by
    rw [← hw0]
    refine ⟨?_, hMs, fun j hj => by rw [hMat j hj, if_neg (by omega)], rfl, rfl, fun j hj => absurd hj (by omega), fun j hj => absurd hj (by omega), fun j hj => absurd hj (by omega), fun i j hi => absurd hi (by omega), by omega, (Below.refl _ _).alloc (Nat.le_refl _) _⟩
    rw [← hs0]
    exact heap_alloc_new w0 _
  have HCP : Hid (∀ wr : World, Below w0.heap.size w0 wr → wr.cell? ⟨w.heap.size, 0, none⟩ = some (.slice (some ⟨pb, po, none⟩) n pc)) := by
    intro wr hb
    rw [hb.cell (p := ⟨w.heap.size, 0, none⟩) (by show w.heap.size < w0.heap.size; omega), hw0, blk_cell (heap_alloc_new w _)]
    rfl
  have HBW : Hid (∀ wr : World, Below w0.heap.size w0 wr → Below w.heap.size w wr) := by
    intro wr hb
    rw [hw0] at hb
    exact ((Below.refl w.heap.size w).alloc (Nat.le_refl _) _).trans (hb.mono (by simp))
  have HPC : Hid (∀ i, i < n → PieceAt w pb (po + i * 3) (ps.getD i Pi.no)) := hpc
  have HPK : Hid (∀ j, j < n → Pk.piece j (ps.getD j Pi.no) = true) := hpk
  have HW0 : Hid (w0.heap.size = w.heap.size + 1) := hs0
  clear hmk1 hw0 hs0 hMat hMs hpc hpk
  go_loopw [13] (fun j wr => ∃ (t : Nat) (arr : Array Value) (qs bs : List Nat), j = .int .i64 (t : Int) ∧ t ≤ k + 1 ∧ Hid (Lk w0 s ps (w.heap.size + 1) (k + 1) t wr arr qs bs)) (fun j _ => k + 1 - (RowKit.intOf j).toNat)
  case atStart => exact ⟨0, M, [], [], rfl, by omega, HL0.out⟩
  case round =>
    obtain ⟨t, arr, qs, bs, rfl, ht, HR⟩ := hrel
    clear HL0
    have cp := HCP.out wr HR.out.bel
    by_cases hlt : t < k + 1
    · obtain ⟨kv, c0, c1, c2, hkv⟩ := HPC.out t (by omega)
      have hbw := HBW.out wr HR.out.bel
      have d0 := (hbw.cell (p := ⟨pb, po + t * 3, none⟩) hpl).trans c0
      have d1 := (hbw.cell (p := ⟨pb, po + t * 3 + 1, none⟩) hpl).trans c1
      have d2 := (hbw.cell (p := ⟨pb, po + t * 3 + 2, none⟩) hpl).trans c2
      have t1 : (t : Int) < ((k + 1 : Nat) : Int) := by omega
      have t2 : (t : Int) < (n : Int) := by omega
      have g1 : wr.cell? ⟨w.heap.size + 1, t, none⟩ = some (.pointer none) := by
        rw [blk_cell HR.out.gb, HR.out.ga t hlt, if_neg (by omega)]
      have g2 : wr.frozen? ⟨w.heap.size + 1, t, none⟩ = false := blk_free HR.out.gb t
      have hgl : w.heap.size + 1 < wr.heap.size := blk_lt HR.out.gb
      have g3 : ∀ A B : Obj, ((wr.alloc A).alloc B).cell? ⟨w.heap.size + 1, t, none⟩ = some (.pointer none) := fun A B => ((two_more wr A B).1.cell (p := ⟨w.heap.size + 1, t, none⟩) hgl).trans g1
      have g4 : ∀ A B : Obj, ((wr.alloc A).alloc B).frozen? ⟨w.heap.size + 1, t, none⟩ = false := fun A B => by
        rw [← g2]
        simp only [World.frozen?, (two_more wr A B).1.block _ hgl]
      obtain ⟨ka, kc, rfl, hkf⟩ := hkv
      obtain ⟨op, hop⟩ : ∃ op, op = (ps.getD t Pi.no).op := ⟨_, rfl⟩
      obtain ⟨tx, htx⟩ : ∃ tx, tx = (ps.getD t Pi.no).text := ⟨_, rfl⟩
      obtain ⟨kl, hkl⟩ : ∃ kl, kl = (ps.getD t Pi.no).kids.length := ⟨_, rfl⟩
      rw [← hop] at d0
      rw [← htx] at d1
      rw [← hkl] at d2
      have HOP : Hid (op = (ps.getD t Pi.no).op ∧ tx = (ps.getD t Pi.no).text ∧ kl = (ps.getD t Pi.no).kids.length) := ⟨hop, htx, hkl⟩
      have HKF : Hid (0 < (ps.getD t Pi.no).kids.length → ∃ b o, ka = some ⟨b, o, none⟩ ∧ b < w.heap.size ∧ ∀ i, i < (ps.getD t Pi.no).kids.length → w.cell? ⟨b, o + i, none⟩ = some (.int .i64 ((ps.getD t Pi.no).kids.getD i 0))) := hkf
      obtain ⟨z1, z2, z3, z4, z5⟩ := link3 (t := t) HR.out.gb (.cells #[.int .i64 op, .string tx, .slice ka kl kc] 81) (.cells #[.int .i64 op, .string tx, .pointer none, .pointer none, .map none] 93) (.pointer (some ⟨wr.heap.size + 1, 0, none⟩))
      have y2 : (((wr.alloc (.cells #[.int .i64 op, .string tx, .slice ka kl kc] 81)).alloc (.cells #[.int .i64 op, .string tx, .pointer none, .pointer none, .map none] 93)).setCell ⟨w.heap.size + 1, t, none⟩ (.pointer (some ⟨wr.heap.size + 1, 0, none⟩))).cell? ⟨wr.heap.size, 2, none⟩ = some (.slice ka kl kc) := by rw [blk_cell z2]; rfl
      clear c0 c1 c2 hkf hop htx hkl
      by_cases hk0 : kl = 0
      · subst hk0
        have HR1 : Hid (Lk w0 s ps (w.heap.size + 1) (k + 1) (t + 1) (((wr.alloc (.cells #[.int .i64 op, .string tx, .slice ka 0 kc] 81)).alloc (.cells #[.int .i64 op, .string tx, .pointer none, .pointer none, .map none] 93)).setCell ⟨w.heap.size + 1, t, none⟩ (.pointer (some ⟨wr.heap.size + 1, 0, none⟩))) (arr.setIfInBounds t (.pointer (some ⟨wr.heap.size + 1, 0, none⟩))) (qs ++ [wr.heap.size + 1]) (bs ++ [wr.heap.size + 1])) := by
          refine HR.out.step (fun j hj => HPK.out j (by omega)) hlt _ _ (by omega) (by omega) z4 z1 ?_ (fun h0 => by have := HOP.out.2.2; omega) ⟨rfl, rfl, rfl⟩ (by omega)
          obtain ⟨h1, h2, h3⟩ := HOP.out
          have f1 : (cI w0 s ps qs bs 0 0).f1 t = none := by
            show (if 0 < (ps.getD t Pi.no).kids.length then some _ else none) = none
            rw [if_neg (by omega)]
          have f2 : (cI w0 s ps qs bs 0 0).f2 t = none := by
            show (if 1 < (ps.getD t Pi.no).kids.length then some _ else none) = none
            rw [if_neg (by omega)]
          rw [f1, f2, if_neg (by omega), ← h1, ← h2]
          exact z3
        clear z1 z2 z3 z4 z5 HKF HOP
        go_wp2_with fail
        go_roundw
        case rel => exact ⟨t + 1, _, _, _, by go_num, by omega, HR1.out⟩
        case measure => simp [RowKit.intOf]; omega
      · have y3 : (((wr.alloc (.cells #[.int .i64 op, .string tx, .slice ka kl kc] 81)).alloc (.cells #[.int .i64 op, .string tx, .pointer none, .pointer none, .map none] 93)).setCell ⟨w.heap.size + 1, t, none⟩ (.pointer (some ⟨wr.heap.size + 1, 0, none⟩))).cell? ⟨w.heap.size + 1, t, none⟩ = some (.pointer (some ⟨wr.heap.size + 1, 0, none⟩)) := by
          rw [blk_cell z1, Array.getElem?_setIfInBounds, if_pos rfl, if_pos (by rw [HR.out.gs]; exact hlt)]
        obtain ⟨W3, hW3⟩ : ∃ W3, W3 = (((wr.alloc (.cells #[.int .i64 op, .string tx, .slice ka kl kc] 81)).alloc (.cells #[.int .i64 op, .string tx, .pointer none, .pointer none, .map none] 93)).setCell ⟨w.heap.size + 1, t, none⟩ (.pointer (some ⟨wr.heap.size + 1, 0, none⟩))) := ⟨_, rfl⟩
        have hmm := @run_makeMap Try.prog
        have hk1 : decide ((0 : Int) < (kl : Int)) = true := by simp; omega
        have hk2 : decide (0 < kl) = true := by simp; omega
        have b3 : ∀ o : Obj, Below W3.heap.size W3 (W3.alloc o) := fun o => (Below.refl _ _).alloc (Nat.le_refl _) o
        rw [← hW3] at z1 z2 z3 z4 z5
        have y4 : ∀ o : Obj, (W3.alloc o).cell? ⟨wr.heap.size + 1, 4, none⟩ = some (.map none) := fun o => ((b3 o).cell (p := ⟨wr.heap.size + 1, 4, none⟩) (by show wr.heap.size + 1 < W3.heap.size; omega)).trans (by rw [blk_cell z3]; rfl)
        have y5 : ∀ o : Obj, (W3.alloc o).frozen? ⟨wr.heap.size + 1, 4, none⟩ = false := fun o => by
          simp only [World.frozen?, (b3 o).block (wr.heap.size + 1) (by omega), z3]
          rfl
        obtain ⟨W5, hW5⟩ : ∃ W5, W5 = (W3.setCell ⟨wr.heap.size + 1, 4, none⟩ (.map (some (wr.heap.size + 1 + 1)))).alloc (.map #[] 0) := ⟨_, rfl⟩
        have v0 : (W3.setCell ⟨wr.heap.size + 1, 4, none⟩ (.map (some (wr.heap.size + 1 + 1)))).heap.size = wr.heap.size + 2 := by simp [World.setCell, z5]
        have vb : ∀ x, x < wr.heap.size + 2 → W5.heap[x]? = (W3.setCell ⟨wr.heap.size + 1, 4, none⟩ (.map (some (wr.heap.size + 1 + 1)))).heap[x]? := fun x hx => by
          rw [hW5]
          exact ((Below.refl _ _).alloc (Nat.le_refl _) _).block x (by omega)
        have vo : ∀ x, x < wr.heap.size + 2 → x ≠ wr.heap.size + 1 → W5.heap[x]? = W3.heap[x]? := fun x hx hne => (vb x hx).trans (Below.heap_setCell _ _ _ _ (by show x ≠ wr.heap.size + 1; exact hne))
        have v1 := (vo (w.heap.size + 1) (by omega) (by omega)).trans z1
        have v2 := (vo wr.heap.size (by omega) (by omega)).trans z2
        have v3 : W5.heap[wr.heap.size + 1]? = some (.cells #[.int .i64 op, .string tx, .pointer none, .pointer none, .map (some (wr.heap.size + 1 + 1))] 93 (0, 0)) := (vb _ (by omega)).trans (blk_set z3 4 _)
        have v4 : ∀ x, x < wr.heap.size → x ≠ w.heap.size + 1 → W5.heap[x]? = wr.heap[x]? := fun x hx hne => (vo x (by omega) (by omega)).trans (z4 x hx hne)
        have v5 : W5.heap[wr.heap.size + 1 + 1]? = some (.map #[] 0) := by
          have := heap_alloc_new (W3.setCell ⟨wr.heap.size + 1, 4, none⟩ (.map (some (wr.heap.size + 1 + 1)))) (.map #[] 0)
          rw [v0] at this
          rw [hW5]
          exact this
        have v6 : W5.heap.size = wr.heap.size + 3 := by rw [hW5]; simp [World.setCell, z5]
        have v7 : Env wr W5 := by rw [hW5, hW3]; exact ⟨rfl, rfl, rfl⟩
        obtain ⟨kb, ko, rfl, hkb, hkc⟩ := HKF.out (by have := HOP.out.2.2; omega)
        obtain ⟨pk1, pk2, -⟩ := Pk.piece_kids (HPK.out t (by omega))
        obtain ⟨a0, ha0, ha1, ha2⟩ := pk2 0 (by have := HOP.out.2.2; omega)
        have r1 : W5.cell? ⟨w.heap.size + 1, t, none⟩ = some (.pointer (some ⟨wr.heap.size + 1, 0, none⟩)) := by
          rw [blk_cell v1, Array.getElem?_setIfInBounds, if_pos rfl, if_pos (by rw [HR.out.gs]; exact hlt)]
        have r2 : W5.cell? ⟨wr.heap.size, 2, none⟩ = some (.slice (some ⟨kb, ko, none⟩) kl kc) := by rw [blk_cell v2]; rfl
        have rk : ∀ a : Addr, a.block < w.heap.size → W5.cell? a = w.cell? a := fun a ha => by
          have h1 : W5.heap[a.block]? = w.heap[a.block]? := (v4 a.block (by omega) (by omega)).trans (hbw.block _ ha)
          simp [World.cell?, h1]
        have r3 : W5.cell? ⟨kb, ko, none⟩ = some (.int .i64 (a0 : Int)) := by rw [rk _ hkb, ← ha0]; exact hkc 0 (by have := HOP.out.2.2; omega)
        obtain ⟨P0, hP0⟩ : ∃ P0, P0 = qs.getD a0 0 := ⟨_, rfl⟩
        have HP0 : Hid (P0 = qs.getD a0 0) := hP0
        have r4 : W5.cell? ⟨w.heap.size + 1, a0, none⟩ = some (.pointer (some ⟨P0, 0, none⟩)) := by
          rw [hP0, blk_cell v1, Array.getElem?_setIfInBounds, if_neg (by omega), HR.out.ga a0 (by omega), if_pos ha1]
        have r5 : W5.cell? ⟨wr.heap.size + 1, 2, none⟩ = some (.pointer none) := by rw [blk_cell v3]; rfl
        have r6 : W5.frozen? ⟨wr.heap.size + 1, 2, none⟩ = false := blk_free v3 2
        have a1 : (a0 : Int) < ((k + 1 : Nat) : Int) := by omega
        have HV : Hid (W5.heap[w.heap.size + 1]? = some (.cells (arr.setIfInBounds t (.pointer (some ⟨wr.heap.size + 1, 0, none⟩))) 54 (0, 0)) ∧ W5.heap[wr.heap.size]? = some (.cells #[.int .i64 op, .string tx, .slice (some ⟨kb, ko, none⟩) kl kc] 81 (0, 0)) ∧ W5.heap[wr.heap.size + 1]? = some (.cells #[.int .i64 op, .string tx, .pointer none, .pointer none, .map (some (wr.heap.size + 1 + 1))] 93 (0, 0)) ∧ (∀ x, x < wr.heap.size → x ≠ w.heap.size + 1 → W5.heap[x]? = wr.heap[x]?) ∧ W5.heap[wr.heap.size + 1 + 1]? = some (.map #[] 0) ∧ W5.heap.size = wr.heap.size + 3 ∧ Env wr W5) := ⟨v1, v2, v3, v4, v5, v6, v7⟩
        have HRK : Hid (∀ a : Addr, a.block < w.heap.size → W5.cell? a = w.cell? a) := rk
        have HKC : Hid (kb < w.heap.size ∧ ∀ i, i < (ps.getD t Pi.no).kids.length → w.cell? ⟨kb, ko + i, none⟩ = some (.int .i64 ((ps.getD t Pi.no).kids.getD i 0))) := ⟨hkb, hkc⟩
        have HA0 : Hid (En.kid (ps.getD t Pi.no) 0 = a0 ∧ a0 < t) := ⟨ha2, ha1⟩
        have HPK2 : Hid (∀ j, j < (ps.getD t Pi.no).kids.length → ∃ a : Nat, (ps.getD t Pi.no).kids.getD j 0 = (a : Int) ∧ a < t ∧ En.kid (ps.getD t Pi.no) j = a) := pk2
        have HKW : Hid ((ps.getD t Pi.no).kids.length = Pk.kw (ps.getD t Pi.no).op) := pk1
        clear v0 vb vo v1 v2 v3 v4 v5 v6 v7 rk hkc hkb ha0 ha2 pk1 pk2 z1 z2 z3 z4 z5 b3 HKF hP0
        rw [hW3] at y4 y5
        go_wp2_with fail
        rw [← hW3, ← hW5]
        clear y2 y3 y4 y5 hW3 hW5 g1 g2 g3 g4 d0 d1 d2 cp hmm hbw
        have hk3 : (0 : Int) < (kl : Int) := by omega
        go_big_region
        obtain ⟨W6, hW6⟩ : ∃ W6, W6 = (W5.setCell ⟨wr.heap.size + 1, 2, none⟩ (.pointer (some ⟨P0, 0, none⟩))).drew := ⟨_, rfl⟩
        rw [← hW6]
        have x3 : W6.heap[wr.heap.size + 1]? = some (.cells #[.int .i64 op, .string tx, .pointer (some ⟨P0, 0, none⟩), .pointer none, .map (some (wr.heap.size + 1 + 1))] 93 (0, 0)) := by
          rw [hW6]
          exact blk_set HV.out.2.2.1 2 _
        have xo : ∀ x, x ≠ wr.heap.size + 1 → W6.heap[x]? = W5.heap[x]? := fun x hx => by
          rw [hW6]
          exact Below.heap_setCell _ _ _ _ (by show x ≠ wr.heap.size + 1; exact hx)
        have x6 : W6.heap.size = wr.heap.size + 3 := by rw [hW6]; simp [World.setCell, HV.out.2.2.2.2.2.1]
        have x7 : Env wr W6 := by
          have := HV.out.2.2.2.2.2.2
          rw [hW6]
          exact ⟨this.1, this.2.1, this.2.2⟩
        have x2 : W6.cell? ⟨wr.heap.size, 2, none⟩ = some (.slice (some ⟨kb, ko, none⟩) kl kc) := by rw [blk_cell ((xo _ (by omega)).trans HV.out.2.1)]; rfl
        have HX : Hid (W6.heap[w.heap.size + 1]? = some (.cells (arr.setIfInBounds t (.pointer (some ⟨wr.heap.size + 1, 0, none⟩))) 54 (0, 0)) ∧ W6.heap[wr.heap.size]? = some (.cells #[.int .i64 op, .string tx, .slice (some ⟨kb, ko, none⟩) kl kc] 81 (0, 0)) ∧ W6.heap[wr.heap.size + 1]? = some (.cells #[.int .i64 op, .string tx, .pointer (some ⟨P0, 0, none⟩), .pointer none, .map (some (wr.heap.size + 1 + 1))] 93 (0, 0)) ∧ (∀ x, x < wr.heap.size → x ≠ w.heap.size + 1 → W6.heap[x]? = wr.heap[x]?) ∧ W6.heap[wr.heap.size + 1 + 1]? = some (.map #[] 0) ∧ W6.heap.size = wr.heap.size + 3 ∧ Env wr W6) :=
          ⟨(xo _ (by omega)).trans HV.out.1, (xo _ (by omega)).trans HV.out.2.1, x3, fun x hx hne => (xo x (by omega)).trans (HV.out.2.2.2.1 x hx hne), (xo _ (by omega)).trans HV.out.2.2.2.2.1, x6, x7⟩
        have HRL : Hid (∀ a : Addr, a.block < w.heap.size → W6.cell? a = w.cell? a) := fun a ha => by
          rw [← HRK.out a ha]
          have := xo a.block (by omega)
          simp [World.cell?, this]
        clear hW6 x3 xo x6 x7 HV HRK r1 r2 r3 r4 r5 r6
        by_cases hk4 : kl = 1
        · subst hk4
          have HR1 : Hid (Lk w0 s ps (w.heap.size + 1) (k + 1) (t + 1) W6 (arr.setIfInBounds t (.pointer (some ⟨wr.heap.size + 1, 0, none⟩))) (qs ++ [wr.heap.size + 1]) (bs ++ [wr.heap.size + 1 + 1])) := by
            obtain ⟨i1, i2, i3, i4, i5, i6, i7⟩ := HX.out
            refine HR.out.step (fun j hj => HPK.out j (by omega)) hlt _ _ (by omega) (by omega) i4 i1 ?_ (fun _ => i5) i7 (by omega)
            obtain ⟨h1, h2, h3⟩ := HOP.out
            have f1 : (cI w0 s ps qs bs 0 0).f1 t = some ⟨P0, 0, none⟩ := by
              show (if 0 < (ps.getD t Pi.no).kids.length then some (⟨qs.getD (En.kid (ps.getD t Pi.no) 0) 0, 0, none⟩ : Addr) else none) = _
              rw [if_pos (by omega), HA0.out.1, ← HP0.out]
            have f2 : (cI w0 s ps qs bs 0 0).f2 t = none := by
              show (if 1 < (ps.getD t Pi.no).kids.length then some _ else none) = none
              rw [if_neg (by omega)]
            rw [f1, f2, if_pos (by omega), ← h1, ← h2]
            exact i3
          clear HX HRL HOP HKC HPK2 HKW HA0 HP0
          go_wp2_with fail
          go_roundw
          case rel => exact ⟨t + 1, _, _, _, by go_num, by omega, HR1.out⟩
          case measure => simp [RowKit.intOf]; omega
        · have hkl2 : kl = 2 := by
            have h1 := HKW.out
            have h2 := HOP.out.2.2
            unfold Pk.kw at h1
            split at h1
            · omega
            · split at h1 <;> omega
          subst hkl2
          obtain ⟨b0, hb0, hb1, hb2⟩ := HPK2.out 1 (by have := HOP.out.2.2; omega)
          obtain ⟨P1, hP1⟩ : ∃ P1, P1 = qs.getD b0 0 := ⟨_, rfl⟩
          have HP1 : Hid (P1 = qs.getD b0 0 ∧ En.kid (ps.getD t Pi.no) 1 = b0) := ⟨hP1, hb2⟩
          have s1 : W6.cell? ⟨w.heap.size + 1, t, none⟩ = some (.pointer (some ⟨wr.heap.size + 1, 0, none⟩)) := by
            rw [blk_cell HX.out.1, Array.getElem?_setIfInBounds, if_pos rfl, if_pos (by rw [HR.out.gs]; exact hlt)]
          have s3 : W6.cell? ⟨kb, ko + 1, none⟩ = some (.int .i64 (b0 : Int)) := by rw [HRL.out _ HKC.out.1, ← hb0]; exact HKC.out.2 1 (by have := HOP.out.2.2; omega)
          have s4 : W6.cell? ⟨w.heap.size + 1, b0, none⟩ = some (.pointer (some ⟨P1, 0, none⟩)) := by
            rw [hP1, blk_cell HX.out.1, Array.getElem?_setIfInBounds, if_neg (by omega), HR.out.ga b0 (by omega), if_pos hb1]
          have s5 : W6.cell? ⟨wr.heap.size + 1, 3, none⟩ = some (.pointer none) := by rw [blk_cell HX.out.2.2.1]; rfl
          have s6 : W6.frozen? ⟨wr.heap.size + 1, 3, none⟩ = false := blk_free HX.out.2.2.1 3
          have b1 : (b0 : Int) < ((k + 1 : Nat) : Int) := by omega
          clear hP1 hb0 hb2 HKC HRL HPK2
          go_wp2_with fail
          go_big_region
          obtain ⟨W7, hW7⟩ : ∃ W7, W7 = (W6.setCell ⟨wr.heap.size + 1, 3, none⟩ (.pointer (some ⟨P1, 0, none⟩))).drew := ⟨_, rfl⟩
          rw [← hW7]
          have HR1 : Hid (Lk w0 s ps (w.heap.size + 1) (k + 1) (t + 1) W7 (arr.setIfInBounds t (.pointer (some ⟨wr.heap.size + 1, 0, none⟩))) (qs ++ [wr.heap.size + 1]) (bs ++ [wr.heap.size + 1 + 1])) := by
            obtain ⟨i1, i2, i3, i4, i5, i6, i7⟩ := HX.out
            have xo : ∀ x, x ≠ wr.heap.size + 1 → W7.heap[x]? = W6.heap[x]? := fun x hx => by
              rw [hW7]
              exact Below.heap_setCell _ _ _ _ (by show x ≠ wr.heap.size + 1; exact hx)
            have x3 : W7.heap[wr.heap.size + 1]? = some (.cells #[.int .i64 op, .string tx, .pointer (some ⟨P0, 0, none⟩), .pointer (some ⟨P1, 0, none⟩), .map (some (wr.heap.size + 1 + 1))] 93 (0, 0)) := by
              rw [hW7]
              exact blk_set i3 3 _
            have x6 : wr.heap.size ≤ W7.heap.size := by rw [hW7]; simp [World.setCell]; omega
            refine HR.out.step (fun j hj => HPK.out j (by omega)) hlt _ _ (by omega) (by omega) (fun x hx hne => (xo x (by omega)).trans (i4 x hx hne)) ((xo _ (by omega)).trans i1) ?_ (fun _ => (xo _ (by omega)).trans i5) (by rw [hW7]; exact ⟨i7.1, i7.2.1, i7.2.2⟩) x6
            obtain ⟨h1, h2, h3⟩ := HOP.out
            have f1 : (cI w0 s ps qs bs 0 0).f1 t = some ⟨P0, 0, none⟩ := by
              show (if 0 < (ps.getD t Pi.no).kids.length then some (⟨qs.getD (En.kid (ps.getD t Pi.no) 0) 0, 0, none⟩ : Addr) else none) = _
              rw [if_pos (by omega), HA0.out.1, ← HP0.out]
            have f2 : (cI w0 s ps qs bs 0 0).f2 t = some ⟨P1, 0, none⟩ := by
              show (if 1 < (ps.getD t Pi.no).kids.length then some (⟨qs.getD (En.kid (ps.getD t Pi.no) 1) 0, 0, none⟩ : Addr) else none) = _
              rw [if_pos (by omega), HP1.out.2, ← HP1.out.1]
            rw [f1, f2, if_pos (by omega), ← h1, ← h2]
            exact x3
          clear hW7 HX HOP HKW HA0 HP0 HP1 s1 s3 s4 s5 s6 x2
          go_wp2_with fail
          go_roundw
          case rel => exact ⟨t + 1, _, _, _, by go_num, by omega, HR1.out⟩
          case measure => simp [RowKit.intOf]; omega
    · obtain rfl : t = k + 1 := by omega
      obtain ⟨L, hm⟩ := HR.out.fin (fun j hj => HPK.out j (by omega)) hs
      have g1 : wr.cell? ⟨w.heap.size + 1, k, none⟩ = some (.pointer (some ⟨qs.getD k 0, 0, none⟩)) := by
        rw [blk_cell HR.out.gb, HR.out.ga k (by omega), if_pos (by omega)]
      obtain ⟨P0, hP0⟩ : ∃ P0, P0 = qs.getD k 0 := ⟨_, rfl⟩
      rw [← hP0] at g1
      have HF : Hid (∃ c : Im, c.P k = P0 ∧ c.s = s ∧ c.ps = ps ∧ c.K = k + 1 ∧ w.heap.size ≤ c.M0 ∧ c.M0 ≤ wr.heap.size ∧ ILie c ∧ IMemo c (fun _ => False) wr ∧ Below w.heap.size w wr) := by
        have hb := HBW.out wr HR.out.bel
        have hz := HR.out.bel.size
        have hw := HW0.out
        refine ⟨cI w0 s ps qs bs wr.heap.size (k + 1), hP0.symm, rfl, rfl, rfl, ?_, hz, L, hm, hb⟩
        show w.heap.size ≤ w0.heap.size
        omega
      clear hP0 L hm HR
      go_wp2_with fail
      go_ret
      obtain ⟨c, e1, e2, e3, e4, e5, e6, e7, e8, e9⟩ := HF.out
      exact ⟨c, by rw [e1]; rfl, e2, e3, e4, e5, e6, e7, e8, e9⟩
end PartIpN
section PartPtE
open Go.RowKit

/-- A box of a piece. -/
def Bx (w : World) (g : Nat) (op : Int) (t : ByteArray) (v : Value) : Prop := w.cell? ⟨g, 0, none⟩ = some (.int .i64 op) ∧ w.cell? ⟨g, 1, none⟩ = some (.string t) ∧ w.cell? ⟨g, 2, none⟩ = some v
theorem Bx.keep {w w' : World} {g : Nat} {op : Int} {t : ByteArray} {v : Value} (h : Bx w g op t v) (hb : Below w.heap.size w w') : Bx w' g op t v := by
  obtain ⟨h1, h2, h3⟩ := h
  have hl : g < w.heap.size := World.block_lt_of_cell? w _ h1
  exact ⟨(hb.cell hl).trans h1, (hb.cell hl).trans h2, (hb.cell hl).trans h3⟩

set_option maxHeartbeats 1600000 in
theorem pieceOk_any (kv : Value) (p : Pi) (i : Nat) (w : World) (h : KidsAt w kv p.kids) (hl : p.kids.length ≤ 1048576) :
    Calls Try.prog 46 #[.agg #[.int .i64 p.op, .string p.text, kv], .int .i64 (i : Int)] w fun e w' => e = .returned (.bool (Pk.piece i p)) ∧ Below w.heap.size w w' := by
  obtain ⟨op, t, ks⟩ := p
  simp only at h hl ⊢
  obtain ⟨ka, kc, rfl, f⟩ := h
  obtain ⟨m, hm⟩ : ∃ m, m = Pk.kw op := ⟨_, rfl⟩
  obtain ⟨tb, htb⟩ : ∃ tb, tb = Pk.tx op t.size := ⟨_, rfl⟩
  have hm2 : m ≤ 2 := by rw [hm]; unfold Pk.kw; split <;> (try split) <;> omega
  have CK : Hid (∀ w' : World, Calls Try.prog 64 #[.int .i64 op] w' fun e w'' => e = .returned (.int .i64 (m : Int)) ∧ w'' = w') := fun w' => by rw [hm]; exact kidsWanted_any op w'
  have CT : Hid (∀ w' : World, Calls Try.prog 65 #[.agg #[.int .i64 op, .string t, .slice ka ks.length kc]] w' fun e w'' => e = .returned (.bool tb) ∧ Below w'.heap.size w' w'') := fun w' => by rw [htb]; exact textOk_any op t ka ks.length kc w'
  have HB : Hid (∀ o : Obj, Below w.heap.size w (w.alloc o)) := fun o => (Below.refl _ _).alloc (Nat.le_refl _) _
  by_cases hop : 1 ≤ op ∧ op ≤ 12
  · have d1 : decide (op < 1) = false := by simp; omega
    have d2 : decide (12 < op) = false := by simp; omega
    have HP : Hid (Pk.piece i ⟨op, t, ks⟩ = (Pk.ahead i ks && (decide (ks.length = m) && tb))) := by show _ = _; rw [hm, htb]; simp [Pk.piece, hop]
    clear hm htb
    have hbw : w.heap.size < w.heap.size + 1 := by omega
    have HF : Hid (0 < ks.length → ∃ b o, ka = some ⟨b, o, none⟩ ∧ b < w.heap.size ∧ ∀ j, j < ks.length → w.cell? ⟨b, o + j, none⟩ = some (.int .i64 (ks.getD j 0))) := f
    clear f
    go_enter Try.func46, Try.ntmps46
    go_wp2_with fail
    go_loop [18] (fun j => ∃ k : Nat, j = .int .i64 (k : Int) ∧ k ≤ ks.length ∧ Hid (Pk.ahead i (ks.take k) = true)) (fun j => ks.length - (intOf j).toNat)
    case atStart => exact ⟨0, rfl, by omega, rfl⟩
    case round =>
      obtain ⟨k, rfl, hk, HA⟩ := hrel
      by_cases hlt : k < ks.length
      · obtain ⟨b, o, rfl, hb, hc⟩ := HF.out (by omega)
        have c1 := hc k hlt
        clear hc
        have HA2 := Pk.ahead_take i ks k hlt
        have HA3 : Hid (¬ (0 ≤ ks.getD k 0 ∧ ks.getD k 0 < (i : Int)) → Pk.ahead i ks = false) := fun hh => Pk.ahead_false i ks k hlt hh
        rw [HA.out, Bool.true_and] at HA2
        have HA4 : Hid (Pk.ahead i (ks.take (k + 1)) = decide (0 ≤ ks.getD k 0 ∧ ks.getD k 0 < (i : Int))) := HA2
        obtain ⟨x, hx⟩ : ∃ x, x = ks.getD k 0 := ⟨_, rfl⟩
        rw [← hx] at c1 HA3 HA4
        clear hx HA2
        have i1 : (k : Int) < (ks.length : Int) := by omega
        by_cases hx0 : x < 0
        · have dx : decide (x < 0) = true := by simpa using hx0
          have e : Hid (Pk.piece i ⟨op, t, ks⟩ = false) := by
            show _ = _
            rw [HP.out, HA3.out (by omega)]; rfl
          go_wp2
          go_ret
          rw [e.out]
          exact ⟨rfl, HB.out _⟩
        · have dx : decide (x < 0) = false := by simpa using hx0
          by_cases hxi : (i : Int) ≤ x
          · have dy : decide ((i : Int) ≤ x) = true := by simpa using hxi
            have e : Hid (Pk.piece i ⟨op, t, ks⟩ = false) := by
              show _ = _
              rw [HP.out, HA3.out (by omega)]; rfl
            go_wp2
            go_ret
            rw [e.out]
            exact ⟨rfl, HB.out _⟩
          · have dy : decide ((i : Int) ≤ x) = false := by simpa using hxi
            go_wp2
            go_round
            case rel => exact ⟨k + 1, by go_num, by omega, by show _ = _; rw [HA4.out]; simp; omega⟩
            case measure => simp [intOf]; omega
      · have HQ : Hid (Pk.piece i ⟨op, t, ks⟩ = (decide (ks.length = m) && tb)) := by
          show _ = _
          have := HA.out
          rw [List.take_of_length_le (by omega)] at this
          rw [HP.out, this]; rfl
        have d9 : decide ((k : Int) < (ks.length : Int)) = false := by simp; omega
        by_cases hkw : ks.length = m
        · subst hkw
          have HR : Hid (Pk.piece i ⟨op, t, ks⟩ = tb) := by show _ = _; rw [HQ.out]; simp
          go_wp2_with fail
          have HCL : Hid (∀ (w' w'' : World), (w'.cell? ⟨w.heap.size, 0, none⟩ = some (.int .i64 op) ∧ w'.cell? ⟨w.heap.size, 1, none⟩ = some (.string t) ∧ w'.cell? ⟨w.heap.size, 2, none⟩ = some (.slice ka ks.length kc)) → Below w'.heap.size w' w'' → (w''.cell? ⟨w.heap.size, 0, none⟩ = some (.int .i64 op) ∧ w''.cell? ⟨w.heap.size, 1, none⟩ = some (.string t) ∧ w''.cell? ⟨w.heap.size, 2, none⟩ = some (.slice ka ks.length kc))) :=
            fun w' w'' h hb => Bx.keep h hb
          clear HF HP HQ HA
          go_region_held3 (fun w' => w'.cell? ⟨w.heap.size, 0, none⟩ = some (.int .i64 op) ∧ w'.cell? ⟨w.heap.size, 1, none⟩ = some (.string t) ∧ w'.cell? ⟨w.heap.size, 2, none⟩ = some (.slice ka ks.length kc)) (first | (refine HCL.out _ _ ?_ hb1; go_keep) | go_keep) ((first | (go_at_call 64; refine (CK.out _).mono ?_; rintro e w1 ⟨rfl, rfl⟩) | (go_at_call 65; refine (CT.out _).mono ?_; rintro e w1 ⟨rfl, hb1⟩)))
          go_wp2
          go_ret
          rw [HR.out]
          exact ⟨rfl, (HB.out _).drew.trans (hb1.mono (by simp))⟩
        · have dk : ((ks.length : Int) == (m : Int)) = false := by simp; omega
          have HR : Hid (Pk.piece i ⟨op, t, ks⟩ = false) := by show _ = _; rw [HQ.out]; simp [hkw]
          go_wp2_with fail
          clear HF HP HQ HA hkw CT
          go_quiet ((go_at_call 64; refine Calls.quiet_of_same (CK.out _)))
          go_wp2
          go_ret
          rw [HR.out]
          exact ⟨rfl, below_drewN (HB.out _) _⟩
  · have e : Pk.piece i ⟨op, t, ks⟩ = false := by
      simp only [Pk.piece, hop, decide_false, Bool.false_and]
    rw [e]
    by_cases h1 : op < 1
    · have d1 : decide (op < 1) = true := by simpa using h1
      go_enter Try.func46, Try.ntmps46
      go_wp2
      go_ret
      exact ⟨rfl, HB.out _⟩
    · have d1 : decide (op < 1) = false := by simpa using h1
      have d2 : decide (12 < op) = true := by simp; omega
      go_enter Try.func46, Try.ntmps46
      go_wp2
      go_ret
      exact ⟨rfl, HB.out _⟩
end PartPtE
end Go.Proofs.Ytlnmbahakdmkgaa
