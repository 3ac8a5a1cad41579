/- Programs in memory: the law's own copy of a row of rules. Patterns in memory: two of the same pieces are told the same. Programs in memory: two of the same nodes are told the same. -/
import Derived.Test.YtknojhmnadmilaaGreatDoorZac
import Derived.Test.YtknojhmnadmilaaGreatDoorZab
import Derived.Test.YtknojhmnadmilaaGreatDoorZaa
namespace Go.Proofs.YtknojhmnadmilaaGreatDoor
section PartLgE
open Go.RowKit

theorem Tryz.infoR : (Tryz.prog.info? 41).map (fun i => (i.zero, i.size, i.bytes)) = some (some (.agg #[.int .i64 0, .int .i64 0, .int .i64 0]), 3, 24) := by kernel_rfl
/-- make of n rules. -/
theorem makeR_run (n : Nat) (h : n ≤ 1000000000) : ∃ M : Array Value, M.size = n * 3 ∧ ∀ W : World, (Instr.makeSlice 30 (.int .i64 (n : Int)) (.int .i64 (n : Int))).run Tryz.prog W = .ok (.slice (some ⟨W.heap.size, 0, none⟩) n n) (W.alloc (.cells M 41)) := by
  obtain ⟨i0, hi, hz0, hz1, hz2⟩ := info_parts Tryz.infoR
  refine ⟨madeCells (Value.agg #[.int .i64 0, .int .i64 0, .int .i64 0]).cells (((n : Nat) : Int).toNat * i0.size), ?_, fun W => ?_⟩
  · rw [size_madeCells, hz1]; simp
  · have h := run_make (P := Tryz.prog) W 30 41 i0 _ Tryz.underlying30 hi hz0 .i64 .i64 (n : Int) (n : Int) (by omega) (by omega) (by rw [hz2]; omega) (by omega)
    simpa using h

set_option maxHeartbeats 800000 in
theorem toRule_any (x y z : Int) (w : World) :
    Calls Tryz.prog 30 #[.agg #[.int .i64 x, .int .i64 y, .int .i64 z]] w fun e w' => e = .returned (.agg #[.int .i64 x, .int .i64 y, .int .i64 z]) ∧ Below w.heap.size w w' := by
  go_enter Tryz.func30, Tryz.ntmps30
  go_wp2_with fail
  refine bodyPost_ret (results_cell_row (p := 2) (ty := 41) rfl _ _ (w.heap.size + 1) 41 _ (0, 0) _ rfl (alloc3_1 _ _ _ _) Tryz.underlying41 rfl (by kernel_rfl)) rfl ?_
  exact ⟨rfl, (((Below.refl _ _).alloc (Nat.le_refl _) _).alloc (by simp) _).alloc (by simp; omega) _⟩

/-- The law's own copy of the rules rs: its row in block g. -/
def RCopy (w : World) (g n : Nat) (rs : List Pg.Rl) (k : Nat) : Prop :=
  (∃ arr, w.heap[g]? = some (.cells arr 41 (0, 0)) ∧ arr.size = n * 3) ∧
  ∀ i, i < k → w.cell? ⟨g, i * 3, none⟩ = some (.int .i64 (rs.getD i Pg.Rl.no).when) ∧ w.cell? ⟨g, i * 3 + 1, none⟩ = some (.int .i64 (rs.getD i Pg.Rl.no).cond) ∧ w.cell? ⟨g, i * 3 + 2, none⟩ = some (.int .i64 (rs.getD i Pg.Rl.no).act)
theorem RCopy.keep {w w' : World} {g n k : Nat} {rs : List Pg.Rl} (h : RCopy w g n rs k) (hb : Below w.heap.size w w') : RCopy w' g n rs k := by
  obtain ⟨⟨arr, ha, hs⟩, hQ⟩ := h
  have hl := blk_lt ha
  exact ⟨⟨arr, (hb.block g hl).trans ha, hs⟩, fun i hi => ⟨(hb.cell hl).trans (hQ i hi).1, (hb.cell hl).trans (hQ i hi).2.1, (hb.cell hl).trans (hQ i hi).2.2⟩⟩
theorem RCopy.at {w : World} {g : Nat} {rs : List Pg.Rl} (h : RCopy w g rs.length rs rs.length) (c : Nat) : RlsAt w (.slice (some ⟨g, 0, none⟩) rs.length c) rs := by
  obtain ⟨⟨arr, ha, hs⟩, hQ⟩ := h
  refine ⟨_, _, rfl, fun _ => ⟨g, 0, rfl, blk_lt ha, fun i hi => ?_⟩⟩
  rw [Nat.zero_add]
  exact hQ i hi
theorem RCopy.setFar {w : World} {g n k : Nat} {rs : List Pg.Rl} (h : RCopy w g n rs k) (p : Addr) (u : Value) (hp : p.block < g) : RCopy (w.setCell p u) g n rs k := by
  obtain ⟨⟨arr, ha, hs⟩, hQ⟩ := h
  have hO : ∀ j, g ≤ j → (w.setCell p u).heap[j]? = w.heap[j]? := fun j hj => Below.heap_setCell _ _ _ _ (by omega)
  have hC : ∀ j, (w.setCell p u).cell? ⟨g, j, none⟩ = w.cell? ⟨g, j, none⟩ := fun j => by rw [blk_cell ((hO g (Nat.le_refl _)).trans ha), blk_cell ha]
  exact ⟨⟨arr, (hO g (Nat.le_refl _)).trans ha, hs⟩, fun i hi => ⟨(hC _).trans (hQ i hi).1, (hC _).trans (hQ i hi).2.1, (hC _).trans (hQ i hi).2.2⟩⟩
theorem RCopy.more {w w1 : World} {g n k : Nat} {rs : List Pg.Rl} (h : RCopy w g n rs k) (hk : k < n) (hb : Below w.heap.size w w1) :
    RCopy (((w1.setCell ⟨g, k * 3, none⟩ (.int .i64 (rs.getD k Pg.Rl.no).when)).setCell ⟨g, k * 3 + 1, none⟩ (.int .i64 (rs.getD k Pg.Rl.no).cond)).setCell ⟨g, k * 3 + 2, none⟩ (.int .i64 (rs.getD k Pg.Rl.no).act)) g n rs (k + 1) := by
  obtain ⟨⟨arr, ha, hs⟩, hQ⟩ := h.keep hb
  have R := blk_set (blk_set (blk_set ha (k * 3) (.int .i64 (rs.getD k Pg.Rl.no).when)) (k * 3 + 1) (.int .i64 (rs.getD k Pg.Rl.no).cond)) (k * 3 + 2) (.int .i64 (rs.getD k Pg.Rl.no).act)
  obtain ⟨w2, hw2⟩ : ∃ w2, w2 = (((w1.setCell ⟨g, k * 3, none⟩ (.int .i64 (rs.getD k Pg.Rl.no).when)).setCell ⟨g, k * 3 + 1, none⟩ (.int .i64 (rs.getD k Pg.Rl.no).cond)).setCell ⟨g, k * 3 + 2, none⟩ (.int .i64 (rs.getD k Pg.Rl.no).act)) := ⟨_, rfl⟩
  rw [← hw2] at R ⊢
  clear hw2
  have hC : ∀ j, j < k * 3 → w2.cell? ⟨g, j, none⟩ = w1.cell? ⟨g, j, none⟩ := by
    intro j hj
    rw [blk_cell R, blk_cell ha]
    simp [Array.getElem?_setIfInBounds]
    rw [if_neg (by omega), if_neg (by omega), if_neg (by omega)]
  refine ⟨⟨_, R, by simpa using hs⟩, fun i hi => ?_⟩
  by_cases hik : i = k
  · subst hik
    refine ⟨?_, ?_, ?_⟩
    · rw [blk_cell R]; simp [Array.getElem?_setIfInBounds]; omega
    · rw [blk_cell R]; simp [Array.getElem?_setIfInBounds]; omega
    · rw [blk_cell R]; simp [Array.getElem?_setIfInBounds]; omega
  · obtain ⟨h1, h2, h3⟩ := hQ i (by omega)
    exact ⟨(hC _ (by omega)).trans h1, (hC _ (by omega)).trans h2, (hC _ (by omega)).trans h3⟩

set_option maxHeartbeats 800000 in
theorem toRules_any (v : Value) (rs : List Pg.Rl) (w : World) (h : RlsAt w v rs) (hk : rs.length ≤ 1048576) :
    Calls Tryz.prog 16 #[v] w fun e w' => e = .returned (.slice (some ⟨w.heap.size, 0, none⟩) rs.length rs.length) ∧ Below w.heap.size w w' ∧ RCopy w' w.heap.size rs.length rs rs.length := by
  obtain ⟨ad, c, rfl, f⟩ := h
  obtain ⟨n, hn⟩ : ∃ n, n = rs.length := ⟨_, rfl⟩
  rw [← hn] at f hk ⊢
  obtain ⟨M, hM, hmk⟩ := makeR_run n (by omega)
  have HW : Hid (RCopy (w.alloc (.cells M 41)) w.heap.size n rs 0) := ⟨⟨M, heap_alloc_new w (.cells M 41), hM⟩, fun i hi => by omega⟩
  by_cases h0 : n = 0
  · subst h0
    have hmk0 : ∀ W : World, (Instr.makeSlice 30 (.int .i64 0) (.int .i64 0)).run Tryz.prog W = .ok (.slice (some ⟨W.heap.size, 0, none⟩) 0 0) (W.alloc (.cells M 41)) := hmk
    clear f hn hM hmk
    go_enter Tryz.func16, Tryz.ntmps16
    go_wp2
    refine wp_loop_rounds 1 ?_
    rw [rounds_succ]
    go_wp2
    go_ret
    exact ⟨rfl, (Below.refl _ _).alloc (Nat.le_refl _) _, HW.out⟩
  · obtain ⟨b, o, rfl, hb, hc⟩ := f (by omega)
    have HC : Hid (∀ i, i < n → w.cell? ⟨b, o + i * 3, none⟩ = some (.int .i64 (rs.getD i Pg.Rl.no).when) ∧ w.cell? ⟨b, o + i * 3 + 1, none⟩ = some (.int .i64 (rs.getD i Pg.Rl.no).cond) ∧ w.cell? ⟨b, o + i * 3 + 2, none⟩ = some (.int .i64 (rs.getD i Pg.Rl.no).act)) := hc
    clear f hn hM hc
    go_enter Tryz.func16, Tryz.ntmps16
    go_wp2
    clear hmk
    go_loopw [4] (fun i wr => ∃ k : Nat, i = .int .i64 (k : Int) ∧ k ≤ n ∧ Below w.heap.size w wr ∧ w.heap.size < wr.heap.size ∧ Hid (RCopy wr w.heap.size n rs k)) (fun i _ => n - (intOf i).toNat)
    case atStart => exact ⟨0, rfl, by omega, (Below.refl _ _).alloc (Nat.le_refl _) _, by simp, HW.out⟩
    case round =>
      obtain ⟨k, rfl, hk2, hbel, hsz, HH⟩ := hrel
      by_cases hlt : k < n
      · obtain ⟨p, hp⟩ : ∃ p, p = rs.getD k Pg.Rl.no := ⟨_, rfl⟩
        have hpc := HC.out k hlt
        rw [← hp] at hpc
        obtain ⟨c0, c1, c2⟩ := hpc
        have e0 := (hbel.cell hb).trans c0
        have e1 := (hbel.cell hb).trans c1
        have e2 := (hbel.cell hb).trans c2
        have CC : Hid (Calls Tryz.prog 30 #[.agg #[.int .i64 p.when, .int .i64 p.cond, .int .i64 p.act]] wr fun e w' => e = .returned (.agg #[.int .i64 p.when, .int .i64 p.cond, .int .i64 p.act]) ∧ Below wr.heap.size wr w') := toRule_any _ _ _ wr
        have CM : Hid (∀ (w1 : World), Below wr.heap.size wr w1 → RCopy (((w1.setCell ⟨w.heap.size, k * 3, none⟩ (.int .i64 p.when)).setCell ⟨w.heap.size, k * 3 + 1, none⟩ (.int .i64 p.cond)).setCell ⟨w.heap.size, k * 3 + 2, none⟩ (.int .i64 p.act)) w.heap.size n rs (k + 1)) := by
          rw [hp]
          exact fun w1 h1 => HH.out.more hlt h1
        clear hp c0 c1 c2
        obtain ⟨⟨arr, ha, hsa⟩, _⟩ := HH.out
        obtain ⟨x, y, z⟩ := p
        simp only at e0 e1 e2 CC CM
        have i1 : (k : Int) < (n : Int) := by omega
        go_wp2_with fail
        refine CC.out.mono ?_
        rintro e w1 ⟨rfl, hb1⟩
        have R := (hb1.block w.heap.size hsz).trans ha
        have c0 := blk_cell R (k * 3)
        have c1 := blk_cell R (k * 3 + 1)
        have c2 := blk_cell R (k * 3 + 2)
        have f0 := blk_free R (k * 3)
        have f1 := blk_free R (k * 3 + 1)
        have f2 := blk_free R (k * 3 + 2)
        rw [Array.getElem?_eq_getElem (by omega)] at c0 c1 c2
        have HCM : Hid _ := CM.out w1 hb1
        clear R ha CC CM
        go_wp2_with fail
        go_roundw
        case rel => exact ⟨k + 1, by go_num, by omega, (((hbel.trans (hb1.mono (by omega))).setCell (by exact Nat.le_refl _) _).setCell (by exact Nat.le_refl _) _).setCell (by exact Nat.le_refl _) _, by have := hb1.size; simp [World.setCell]; omega, HCM.out⟩
        case measure => simp [intOf]; omega
      · obtain rfl : k = n := by omega
        go_wp2
        go_ret
        exact ⟨rfl, hbel, HH.out⟩

theorem alloc3_0 (w : World) (A B C : Obj) : (((w.alloc A).alloc B).alloc C).heap[w.heap.size]? = some A := by
  show (((w.heap.push A).push B).push C)[w.heap.size]? = some A
  rw [Array.getElem?_push, if_neg (by simp; omega), Array.getElem?_push, if_neg (by simp), Array.getElem?_push]
  simp
/-- A program's copy. -/
def ProgCopy (w : World) (v : Value) (B : Nat) (ps : List Pi) (rs : List Pg.Rl) : Prop := ∃ g h, v = .agg #[.slice (some ⟨g, 0, none⟩) ps.length ps.length, .slice (some ⟨h, 0, none⟩) rs.length rs.length] ∧ B ≤ g ∧ B ≤ h ∧ NCopy w g ps.length ps ps.length ∧ RCopy w h rs.length rs rs.length

set_option maxHeartbeats 1600000 in
theorem toProg_any (v rv : Value) (ps : List Pi) (rs : List Pg.Rl) (w : World) (h : PcsAt w v ps) (hr : RlsAt w rv rs) (hk : ps.length ≤ 1048576) (hs : Small ps ps.length) (hkr : rs.length ≤ 1048576) :
    Calls Tryz.prog 6 #[.agg #[v, rv]] w fun e w' => ∃ u, e = .returned u ∧ Below w.heap.size w w' ∧ ProgCopy w' u w.heap.size ps rs := by
  have CC : Hid (∀ w' : World, Below w.heap.size w w' → Calls Tryz.prog 15 #[v] w' fun e w'' => e = .returned (.slice (some ⟨w'.heap.size, 0, none⟩) ps.length ps.length) ∧ Below w'.heap.size w' w'' ∧ NCopy w'' w'.heap.size ps.length ps ps.length) :=
    fun w' hb => toNodes_any v ps w' (h.keep hb) hk hs
  have CR : Hid (∀ w' : World, Below w.heap.size w w' → Calls Tryz.prog 16 #[rv] w' fun e w'' => e = .returned (.slice (some ⟨w'.heap.size, 0, none⟩) rs.length rs.length) ∧ Below w'.heap.size w' w'' ∧ RCopy w'' w'.heap.size rs.length rs rs.length) :=
    fun w' hb => toRules_any rv rs w' (hr.keep hb) hkr
  obtain ⟨ad, c, rfl, _⟩ := h
  obtain ⟨ra, rc, rfl, _⟩ := hr
  go_enter Tryz.func6, Tryz.ntmps6
  go_wp2_with fail
  refine (CC.out _ ((((Below.refl _ _).alloc (Nat.le_refl _) _).alloc (by simp) _).alloc (by simp; omega) _)).mono ?_
  rintro e w1 ⟨rfl, hb1, hk1⟩
  have R3 := hb1.block (w.heap.size + 1 + 1) (by simp)
  have R2 := hb1.block (w.heap.size + 1) (by simp)
  have R1 := hb1.block w.heap.size (by simp; omega)
  rw [alloc3_2] at R3
  rw [alloc3_1] at R2
  rw [alloc3_0] at R1
  have HB1 : Hid (Below w.heap.size w w1) := ((((Below.refl _ _).alloc (Nat.le_refl _) _).alloc (by simp) _).alloc (by simp; omega) _).trans (hb1.mono (by simp; omega))
  have hs1 : w.heap.size + 1 + 1 + 1 ≤ w1.heap.size := by have := hb1.size; simpa using this
  simp only [World.size_alloc] at hk1
  have HK1 : Hid _ := hk1
  clear hk1 hb1 CC
  have c3 := blk_cell R3 0
  have f3 := blk_free R3 0
  have S3 := blk_set R3 0 (.slice (some ⟨w.heap.size + 1 + 1 + 1, 0, none⟩) ps.length ps.length)
  have S2 := (Below.heap_setCell w1 ⟨w.heap.size + 1 + 1, 0, none⟩ (.slice (some ⟨w.heap.size + 1 + 1 + 1, 0, none⟩) ps.length ps.length) (w.heap.size + 1) (by simp)).trans R2
  have S1 := (Below.heap_setCell w1 ⟨w.heap.size + 1 + 1, 0, none⟩ (.slice (some ⟨w.heap.size + 1 + 1 + 1, 0, none⟩) ps.length ps.length) w.heap.size (by simp; omega)).trans R1
  have a1 := blk_cell S1 1
  simp at c3 a1
  have HS3 : Hid _ := S3
  have HS2 : Hid _ := S2
  have HB2 : Hid (Below w.heap.size w (w1.setCell ⟨w.heap.size + 1 + 1, 0, none⟩ (.slice (some ⟨w.heap.size + 1 + 1 + 1, 0, none⟩) ps.length ps.length))) := HB1.out.setCell (by show _ ≤ w.heap.size + 1 + 1; omega) _
  have HK2 : Hid (NCopy (w1.setCell ⟨w.heap.size + 1 + 1, 0, none⟩ (.slice (some ⟨w.heap.size + 1 + 1 + 1, 0, none⟩) ps.length ps.length)) (w.heap.size + 1 + 1 + 1) ps.length ps ps.length) := NCopy.setFar HK1.out _ _ (by show w.heap.size + 1 + 1 < _; omega)
  have hs2 : w.heap.size + 1 + 1 + 1 ≤ (w1.setCell ⟨w.heap.size + 1 + 1, 0, none⟩ (.slice (some ⟨w.heap.size + 1 + 1 + 1, 0, none⟩) ps.length ps.length)).heap.size := by simpa [World.setCell] using hs1
  clear S1 S2 S3 R1 R2 R3
  go_wp2_with fail
  refine (CR.out _ HB2.out).mono ?_
  generalize w1.setCell ⟨w.heap.size + 1 + 1, 0, none⟩ (.slice (some ⟨w.heap.size + 1 + 1 + 1, 0, none⟩) ps.length ps.length) = w2 at *
  rintro e w3 ⟨rfl, hb3, hk3⟩
  have R3 := (hb3.block (w.heap.size + 1 + 1) (by omega)).trans HS3.out
  have R2 := (hb3.block (w.heap.size + 1) (by omega)).trans HS2.out
  have HB3 : Hid (Below w.heap.size w w3) := HB2.out.trans (hb3.mono (by omega))
  have HN3 : Hid (NCopy w3 (w.heap.size + 1 + 1 + 1) ps.length ps ps.length) := HK2.out.keep hb3
  have HR3 : Hid (RCopy w3 w2.heap.size rs.length rs rs.length) := hk3
  clear hk3 hb3 HK2 HS3 HS2 HB2 HK1 HB1 CR c3 f3 a1
  obtain ⟨G, hG⟩ : ∃ G, G = w2.heap.size := ⟨_, rfl⟩
  rw [← hG] at HR3 hs2 ⊢
  clear hG
  have d1 := blk_cell R3 1
  have f1 := blk_free R3 1
  have T3 := blk_set R3 1 (.slice (some ⟨G, 0, none⟩) rs.length rs.length)
  have T2 := (Below.heap_setCell w3 ⟨w.heap.size + 1 + 1, 1, none⟩ (.slice (some ⟨G, 0, none⟩) rs.length rs.length) (w.heap.size + 1) (by simp)).trans R2
  have HT2 : Hid _ := T2
  have e0 := blk_cell T3 0
  have e1 := blk_cell T3 1
  have b0 := blk_cell T2 0
  have b1 := blk_cell T2 1
  have g0 := blk_free T2 0
  have g1 := blk_free T2 1
  simp at d1 e0 e1 b0 b1
  clear T2 T3 R2 R3
  go_wp2_with fail
  have Q := blk_set (blk_set HT2.out 0 (.slice (some ⟨w.heap.size + 1 + 1 + 1, 0, none⟩) ps.length ps.length)) 1 (.slice (some ⟨G, 0, none⟩) rs.length rs.length)
  refine bodyPost_ret (results_cell_row (p := 2) (ty := 32) rfl _ _ (w.heap.size + 1) 32 _ (0, 0) _ rfl Q Tryz.underlying32 rfl (by kernel_rfl)) rfl ?_
  refine ⟨_, rfl, ?_, w.heap.size + 1 + 1 + 1, G, rfl, by omega, by omega, ?_, ?_⟩
  · exact ((HB3.out.setCell (by show _ ≤ w.heap.size + 1 + 1; omega) _).setCell (by show _ ≤ w.heap.size + 1; omega) _).setCell (by show _ ≤ w.heap.size + 1; omega) _
  · exact ((HN3.out.setFar _ _ (by show w.heap.size + 1 + 1 < _; omega)).setFar _ _ (by show w.heap.size + 1 < _; omega)).setFar _ _ (by show w.heap.size + 1 < _; omega)
  · exact ((HR3.out.setFar _ _ (by show w.heap.size + 1 + 1 < _; omega)).setFar _ _ (by show w.heap.size + 1 < _; omega)).setFar _ _ (by show w.heap.size + 1 < _; omega)
end PartLgE
section PartPtC
open Go.RowKit

set_option maxHeartbeats 800000 in
theorem eqInts_any (v1 v2 : Value) (ks : List Int) (w : World) (h1 : KidsAt w v1 ks) (h2 : KidsAt w v2 ks) (hl : ks.length ≤ 1048576) :
    Calls Tryz.prog 52 #[v1, v2] w fun e w' => e = .returned (.bool true) ∧ Below w.heap.size w w' := by
  obtain ⟨a1, c1, rfl, f1⟩ := h1
  obtain ⟨a2, c2, rfl, f2⟩ := h2
  obtain ⟨n, hn⟩ : ∃ n, n = ks.length := ⟨_, rfl⟩
  rw [← hn] at f1 f2 hl ⊢
  have hq : ((n : Int) != (n : Int)) = false := by simp
  by_cases h0 : n = 0
  · subst h0
    clear f1 f2 hn
    go_enter Tryz.func52, Tryz.ntmps52
    go_wp2
    refine wp_loop_rounds 1 ?_
    rw [rounds_succ]
    go_wp2
    go_ret
    exact ⟨rfl, Below.refl _ _⟩
  · obtain ⟨g1, o1, rfl, l1, k1⟩ := f1 (by omega)
    obtain ⟨g2, o2, rfl, l2, k2⟩ := f2 (by omega)
    have K1 : Hid (∀ j, j < n → w.cell? ⟨g1, o1 + j, none⟩ = some (.int .i64 (ks.getD j 0))) := k1
    have K2 : Hid (∀ j, j < n → w.cell? ⟨g2, o2 + j, none⟩ = some (.int .i64 (ks.getD j 0))) := k2
    clear k1 k2 f1 f2 hn
    go_enter Tryz.func52, Tryz.ntmps52
    go_wp2
    go_loopw [5] (fun i wr => ∃ k : Nat, i = .int .i64 (k : Int) ∧ k ≤ n ∧ Below w.heap.size w wr) (fun i _ => n - (intOf i).toNat)
    case atStart => exact ⟨0, rfl, by omega, Below.refl _ _⟩
    case round =>
      obtain ⟨k, rfl, hk, hbel⟩ := hrel
      by_cases hlt : k < n
      · have c1 := (hbel.cell l1).trans (K1.out k hlt)
        have c2 := (hbel.cell l2).trans (K2.out k hlt)
        obtain ⟨x, hx⟩ : ∃ x, x = ks.getD k 0 := ⟨_, rfl⟩
        rw [← hx] at c1 c2
        have i1 : (k : Int) < (n : Int) := by omega
        have hq : (x != x) = false := by simp
        clear hx
        go_wp2_with fail
        go_quiet (fail)
        go_wp2
        go_roundw
        case rel => exact ⟨k + 1, by go_num, by omega, below_drewN hbel _⟩
        case measure => simp [intOf]; omega
      · go_wp2
        go_ret
        exact ⟨rfl, hbel⟩

end PartPtC
section PartLgC
open Go.RowKit

set_option maxHeartbeats 800000 in
theorem eqNode_any (v1 v2 : Value) (p : Pi) (w : World) (h1 : KidsAt w v1 p.kids) (h2 : KidsAt w v2 p.kids) (hl : p.kids.length ≤ 1048576) :
    Calls Tryz.prog 40 #[.agg #[.int .i64 p.op, .string p.text, v1], .agg #[.int .i64 p.op, .string p.text, v2]] w fun e w' => e = .returned (.bool true) ∧ Below w.heap.size w w' := by
  obtain ⟨op, t, ks⟩ := p
  simp only at h1 h2 hl ⊢
  have CC : Hid (∀ w', Below w.heap.size w w' → Calls Tryz.prog 52 #[v1, v2] w' fun e w'' => e = .returned (.bool true) ∧ Below w'.heap.size w' w'') := fun w' hb => eqInts_any v1 v2 ks w' (h1.keep hb) (h2.keep hb) hl
  obtain ⟨a1, c1, rfl, f1⟩ := h1
  obtain ⟨a2, c2, rfl, f2⟩ := h2
  clear f1 f2
  have hq : (op != op) = false := by simp
  go_enter Tryz.func40, Tryz.ntmps40
  go_wp2_with fail
  refine (CC.out _ (((Below.refl _ _).alloc (Nat.le_refl _) _).alloc (by simp) _)).mono ?_
  rintro e w1 ⟨rfl, hb1⟩
  go_wp2
  go_ret
  exact ⟨rfl, (((Below.refl _ _).alloc (Nat.le_refl _) _).alloc (by simp) _).trans (hb1.mono (by simp; omega))⟩

set_option maxHeartbeats 2000000 in
theorem eqNodes_any (v1 v2 : Value) (ps : List Pi) (w : World) (h1 : PcsAt w v1 ps) (h2 : PcsAt w v2 ps) (hl : ps.length ≤ 1048576) (hs : Small ps ps.length) :
    Calls Tryz.prog 23 #[v1, v2] w fun e w' => e = .returned (.bool true) ∧ Below w.heap.size w w' := by
  obtain ⟨a1, c1, rfl, f1⟩ := h1
  obtain ⟨a2, c2, rfl, f2⟩ := h2
  obtain ⟨n, hn⟩ : ∃ n, n = ps.length := ⟨_, rfl⟩
  have HS : Hid (Small ps n) := by rw [hn]; exact hs
  rw [← hn] at f1 f2 hl ⊢
  clear hs
  have hq : ((n : Int) != (n : Int)) = false := by simp
  by_cases h0 : n = 0
  · subst h0
    clear f1 f2 hn
    go_enter Tryz.func23, Tryz.ntmps23
    go_wp2
    refine wp_loop_rounds 1 ?_
    rw [rounds_succ]
    go_wp2
    go_ret
    exact ⟨rfl, Below.refl _ _⟩
  · obtain ⟨g1, o1, rfl, l1, k1⟩ := f1 (by omega)
    obtain ⟨g2, o2, rfl, l2, k2⟩ := f2 (by omega)
    have K1 : Hid (∀ j, j < n → PieceAt w g1 (o1 + j * 3) (ps.getD j Pi.no)) := k1
    have K2 : Hid (∀ j, j < n → PieceAt w g2 (o2 + j * 3) (ps.getD j Pi.no)) := k2
    clear k1 k2 f1 f2 hn
    go_enter Tryz.func23, Tryz.ntmps23
    go_wp2
    go_loopw [5] (fun i wr => ∃ k : Nat, i = .int .i64 (k : Int) ∧ k ≤ n ∧ Below w.heap.size w wr) (fun i _ => n - (intOf i).toNat)
    case atStart => exact ⟨0, rfl, by omega, Below.refl _ _⟩
    case round =>
      obtain ⟨k, rfl, hk, hbel⟩ := hrel
      have hsz := hbel.size
      by_cases hlt : k < n
      · have q1 := (K1.out k hlt).keep l1 hbel
        have q2 := (K2.out k hlt).keep l2 hbel
        have hkl := (HS.out k hlt).1
        obtain ⟨p, hp⟩ : ∃ p, p = ps.getD k Pi.no := ⟨_, rfl⟩
        rw [← hp] at q1 q2 hkl
        clear hp
        obtain ⟨kv1, x0, x1, x2, y1⟩ := q1
        obtain ⟨kv2, z0, z1, z2, y2⟩ := q2
        have CC : Hid (∀ w', Below wr.heap.size wr w' → Calls Tryz.prog 40 #[.agg #[.int .i64 p.op, .string p.text, kv1], .agg #[.int .i64 p.op, .string p.text, kv2]] w' fun e w'' => e = .returned (.bool true) ∧ Below w'.heap.size w' w'') :=
          fun w' hb => eqNode_any kv1 kv2 p w' (y1.keep hb) (y2.keep hb) hkl
        obtain ⟨op, t, ks⟩ := p
        simp only at x0 x1 z0 z1 CC
        obtain ⟨ka1, kc1, rfl, _⟩ := y1
        obtain ⟨ka2, kc2, rfl, _⟩ := y2
        have i1 : (k : Int) < (n : Int) := by omega
        have i0 : (0 : Int) ≤ (k : Int) := by omega
        go_wp2_with fail
        go_region_with ((go_at_call 40; refine (CC.out _ (by first | exact Below.refl _ _ | exact (Below.refl _ _).drew)).mono ?_; rintro e w1 ⟨rfl, hb1⟩))
        all_goals
          go_wp2
          go_roundw
          case rel => exact ⟨k + 1, by go_num, by omega, hbel.trans (((Below.refl _ _).drew.trans hb1).mono hsz)⟩
          case measure => simp [intOf]; omega
      · go_wp2
        go_ret
        exact ⟨rfl, hbel⟩

end PartLgC
end Go.Proofs.YtknojhmnadmilaaGreatDoor
