/- What is shown of a choice, and of a block of nothing. What is shown of a right statement. -/
import Derived.Test.YtifbgdinjdgdfapGreatDoorZ27
import Derived.Deep.RegionWith
namespace Go.Proofs.YtifbgdinjdgdfapGreatDoor
section PartShJ
open Go.RowKit

set_option maxRecDepth 100000 in
set_option maxHeartbeats 4000000 in
theorem showSt_if2 (v : Value) (ps : List Pi) (ra : Option Addr) (rn rc i : Nat) (w : World) (h : PcsAt w v ps) (hi : i < ps.length) (hl : ps.length ≤ 200) (hop : (ps.getD i Pi.no).op = 22) (hk : (ps.getD i Pi.no).kids.length = 2) (hkz0 : 0 ≤ (ps.getD i Pi.no).kids.getD 0 0) (hC0 : ∀ W, Below w.heap.size w W → Calls Tryz.prog 34 #[.agg #[v, .slice ra rn rc], .int .i64 (Sh.kid (ps.getD i Pi.no) 0 : Int)] W fun e w' => e = .returned (.string ⟨(Sh.exC ps (Sh.kid (ps.getD i Pi.no) 0)).toArray⟩) ∧ Below W.heap.size W w') (hkz1 : 0 ≤ (ps.getD i Pi.no).kids.getD 1 0) (hC1 : ∀ W, Below w.heap.size w W → Calls Tryz.prog 35 #[.agg #[v, .slice ra rn rc], .int .i64 (Sh.kid (ps.getD i Pi.no) 1 : Int)] W fun e w' => e = .returned (.string ⟨(Sh.st ps i (Sh.kid (ps.getD i Pi.no) 1)).toArray⟩) ∧ Below W.heap.size W w') (htl : (Sh.st ps (i + 1) i).length ≤ 1000000) :
    Calls Tryz.prog 35 #[.agg #[v, .slice ra rn rc], .int .i64 (i : Int)] w fun e w' => e = .returned (.string ⟨(Sh.st ps (i + 1) i).toArray⟩) ∧ Below w.heap.size w w' := by
  obtain ⟨va, vc, rfl, f⟩ := h
  obtain ⟨b, o, rfl, hb, hp⟩ := f (by omega)
  obtain ⟨kv, p0, p1, p2, ka, kc, rfl, fk⟩ := hp i hi
  obtain ⟨kb, ko, rfl, hkb, hkc⟩ := fk (by omega)
  have q0 := hkc 0 (by omega)
  rw [Nat.add_zero] at q0
  have q1 := hkc 1 (by omega)

  have hE : Sh.st ps (i + 1) i = [105, 102, 32, 40] ++ Sh.exC ps (Sh.kid (ps.getD i Pi.no) 0) ++ [41, 32] ++ Sh.st ps i (Sh.kid (ps.getD i Pi.no) 1) ++ [] := by
    rw [Sh.st, if_neg (by rw [hop]; decide), if_neg (by rw [hop]; decide), if_neg (by rw [hop]; decide), if_neg (by rw [hop]; decide), if_neg (by rw [hop]; decide), if_pos hop, if_neg (by omega)]
  rw [hk] at p2
  rw [hop] at p0
  have i1 : (i : Int) < (ps.length : Int) := by omega
  rw [hE] at htl ⊢
  have ekz0 : ((Sh.kid (ps.getD i Pi.no) 0 : Nat) : Int) = (ps.getD i Pi.no).kids.getD 0 0 := by unfold Sh.kid; omega
  rw [ekz0] at hC0
  generalize (Sh.exC ps (Sh.kid (ps.getD i Pi.no) 0)) = E0 at *
  have ekz1 : ((Sh.kid (ps.getD i Pi.no) 1 : Nat) : Int) = (ps.getD i Pi.no).kids.getD 1 0 := by unfold Sh.kid; omega
  rw [ekz1] at hC1
  generalize (Sh.st ps i (Sh.kid (ps.getD i Pi.no) 1)) = E1 at *
  generalize (ps.getD i Pi.no).text = X at *
  generalize (ps.getD i Pi.no).kids.getD 0 0 = Z0 at *
  generalize (ps.getD i Pi.no).kids.getD 1 0 = Z1 at *
  simp only [List.length_append, List.length_cons, List.length_nil] at htl
  have n0 : ¬ 9223372036854775807 < 4 + E0.length := by omega
  have n1 : ¬ 9223372036854775807 < 4 + E0.length + 2 := by omega
  have n2 : ¬ 9223372036854775807 < 4 + E0.length + 2 + E1.length := by omega
  have HC0 : Hid (∀ W, Below w.heap.size w W → Calls Tryz.prog 34 #[.agg #[.slice (some ⟨b, o, none⟩) ps.length vc, .slice ra rn rc], .int .i64 Z0] W fun e w' => e = .returned (.string ⟨E0.toArray⟩) ∧ Below W.heap.size W w') := hC0
  have HC1 : Hid (∀ W, Below w.heap.size w W → Calls Tryz.prog 35 #[.agg #[.slice (some ⟨b, o, none⟩) ps.length vc, .slice ra rn rc], .int .i64 Z1] W fun e w' => e = .returned (.string ⟨E1.toArray⟩) ∧ Below W.heap.size W w') := hC1
  generalize ps.length = n at *
  clear hp fk f hop hk hE htl hkc hC0 ekz0 hkz0 hC1 ekz1 hkz1
  obtain ⟨m0, m1⟩ := blk2 (alloc2_0 w (.cells #[.slice (some ⟨b, o, none⟩) n vc, .slice ra rn rc] 25) (.cells #[.int .i64 22, .string X, .slice (some ⟨kb, ko, none⟩) 2 kc] 87))
  obtain ⟨-, -, m3⟩ := blk3 (alloc2_1 w (.cells #[.slice (some ⟨b, o, none⟩) n vc, .slice ra rn rc] 25) (.cells #[.int .i64 22, .string X, .slice (some ⟨kb, ko, none⟩) 2 kc] 87))
  have hb0 := below2 w (.cells #[.slice (some ⟨b, o, none⟩) n vc, .slice ra rn rc] 25) (.cells #[.int .i64 22, .string X, .slice (some ⟨kb, ko, none⟩) 2 kc] 87)
  have m4 := (hb0.cell hkb).trans q0
  have m6 := (hb0.cell hkb).trans q1

  have HB0 : Hid _ := hb0
  clear hb0
  have HD0 : Hid (∀ W, (W.cell? ⟨w.heap.size, 0, none⟩ = some (.slice (some ⟨b, o, none⟩) n vc) ∧ W.cell? ⟨w.heap.size, 1, none⟩ = some (.slice ra rn rc) ∧ W.cell? ⟨w.heap.size + 1, 2, none⟩ = some (.slice (some ⟨kb, ko, none⟩) 2 kc) ∧ W.cell? ⟨kb, ko, none⟩ = some (.int .i64 Z0) ∧ W.cell? ⟨kb, ko + 1, none⟩ = some (.int .i64 Z1) ∧ Hid (Below w.heap.size w W)) → Calls Tryz.prog 34 #[.agg #[.slice (some ⟨b, o, none⟩) n vc, .slice ra rn rc], .int .i64 Z0] W fun e w' => e = .returned (.string ⟨E0.toArray⟩) ∧ Below W.heap.size W w') := fun W h => HC0.out W h.2.2.2.2.2.out
  have HD1 : Hid (∀ W, (W.cell? ⟨w.heap.size, 0, none⟩ = some (.slice (some ⟨b, o, none⟩) n vc) ∧ W.cell? ⟨w.heap.size, 1, none⟩ = some (.slice ra rn rc) ∧ W.cell? ⟨w.heap.size + 1, 2, none⟩ = some (.slice (some ⟨kb, ko, none⟩) 2 kc) ∧ W.cell? ⟨kb, ko, none⟩ = some (.int .i64 Z0) ∧ W.cell? ⟨kb, ko + 1, none⟩ = some (.int .i64 Z1) ∧ Hid (Below w.heap.size w W)) → Calls Tryz.prog 35 #[.agg #[.slice (some ⟨b, o, none⟩) n vc, .slice ra rn rc], .int .i64 Z1] W fun e w' => e = .returned (.string ⟨E1.toArray⟩) ∧ Below W.heap.size W w') := fun W h => HC1.out W h.2.2.2.2.2.out
  go_enter Tryz.func35, Tryz.ntmps35
  go_wp2_with fail
  generalize (w.alloc (.cells #[.slice (some ⟨b, o, none⟩) n vc, .slice ra rn rc] 25)).alloc (.cells #[.int .i64 22, .string X, .slice (some ⟨kb, ko, none⟩) 2 kc] 87) = W2 at *
  clear HC0 HC1 p0 p1 p2 q0 q1
  go_region_held3 (fun W => W.cell? ⟨w.heap.size, 0, none⟩ = some (.slice (some ⟨b, o, none⟩) n vc) ∧ W.cell? ⟨w.heap.size, 1, none⟩ = some (.slice ra rn rc) ∧ W.cell? ⟨w.heap.size + 1, 2, none⟩ = some (.slice (some ⟨kb, ko, none⟩) 2 kc) ∧ W.cell? ⟨kb, ko, none⟩ = some (.int .i64 Z0) ∧ W.cell? ⟨kb, ko + 1, none⟩ = some (.int .i64 Z1) ∧ Hid (Below w.heap.size w W)) (first | exact keep5 hb3 (keep5 hb2 (by assumption)) | exact keep5 hb3 (by assumption) | exact keep5 hb2 (by assumption) | exact ⟨m0, m1, m3, m4, m6, HB0.out.drew⟩ | assumption) (first | (go_at_call 34; refine (HD0.out _ (by assumption)).mono ?_; rintro e a2 ⟨rfl, hb2⟩) | (go_at_call 35; refine (HD1.out _ (by assumption)).mono ?_; rintro e a3 ⟨rfl, hb3⟩))
  all_goals
    have HBW : Hid (Below W2.heap.size W2 a3) := ((Below.refl _ _).drew).trans (hb2.trans (hb3.mono hb2.size))
    have HBF : Hid (Below w.heap.size w a3) := HB0.out.trans (HBW.out.mono HB0.out.size)
    have s3 := (HBW.out.cell (World.block_lt_of_cell? W2 _ m3)).trans m3
    go_wp2
    go_ret
    refine ⟨?_, HBF.out⟩
    apply congrArg Ending.returned
    apply congrArg Value.string
    apply ByteArray.ext
    simp
set_option maxRecDepth 100000 in
set_option maxHeartbeats 4000000 in
theorem showSt_if3 (v : Value) (ps : List Pi) (ra : Option Addr) (rn rc i : Nat) (w : World) (h : PcsAt w v ps) (hi : i < ps.length) (hl : ps.length ≤ 200) (hop : (ps.getD i Pi.no).op = 22) (hk : (ps.getD i Pi.no).kids.length = 3) (hkz0 : 0 ≤ (ps.getD i Pi.no).kids.getD 0 0) (hC0 : ∀ W, Below w.heap.size w W → Calls Tryz.prog 34 #[.agg #[v, .slice ra rn rc], .int .i64 (Sh.kid (ps.getD i Pi.no) 0 : Int)] W fun e w' => e = .returned (.string ⟨(Sh.exC ps (Sh.kid (ps.getD i Pi.no) 0)).toArray⟩) ∧ Below W.heap.size W w') (hkz1 : 0 ≤ (ps.getD i Pi.no).kids.getD 1 0) (hC1 : ∀ W, Below w.heap.size w W → Calls Tryz.prog 35 #[.agg #[v, .slice ra rn rc], .int .i64 (Sh.kid (ps.getD i Pi.no) 1 : Int)] W fun e w' => e = .returned (.string ⟨(Sh.st ps i (Sh.kid (ps.getD i Pi.no) 1)).toArray⟩) ∧ Below W.heap.size W w') (hkz2 : 0 ≤ (ps.getD i Pi.no).kids.getD 2 0) (hC2 : ∀ W, Below w.heap.size w W → Calls Tryz.prog 35 #[.agg #[v, .slice ra rn rc], .int .i64 (Sh.kid (ps.getD i Pi.no) 2 : Int)] W fun e w' => e = .returned (.string ⟨(Sh.st ps i (Sh.kid (ps.getD i Pi.no) 2)).toArray⟩) ∧ Below W.heap.size W w') (htl : (Sh.st ps (i + 1) i).length ≤ 1000000) :
    Calls Tryz.prog 35 #[.agg #[v, .slice ra rn rc], .int .i64 (i : Int)] w fun e w' => e = .returned (.string ⟨(Sh.st ps (i + 1) i).toArray⟩) ∧ Below w.heap.size w w' := by
  obtain ⟨va, vc, rfl, f⟩ := h
  obtain ⟨b, o, rfl, hb, hp⟩ := f (by omega)
  obtain ⟨kv, p0, p1, p2, ka, kc, rfl, fk⟩ := hp i hi
  obtain ⟨kb, ko, rfl, hkb, hkc⟩ := fk (by omega)
  have q0 := hkc 0 (by omega)
  rw [Nat.add_zero] at q0
  have q1 := hkc 1 (by omega)
  have q2 := hkc 2 (by omega)
  have hE : Sh.st ps (i + 1) i = [105, 102, 32, 40] ++ Sh.exC ps (Sh.kid (ps.getD i Pi.no) 0) ++ [41, 32] ++ Sh.st ps i (Sh.kid (ps.getD i Pi.no) 1) ++ ([32, 101, 108, 115, 101, 32] ++ Sh.st ps i (Sh.kid (ps.getD i Pi.no) 2)) := by
    rw [Sh.st, if_neg (by rw [hop]; decide), if_neg (by rw [hop]; decide), if_neg (by rw [hop]; decide), if_neg (by rw [hop]; decide), if_neg (by rw [hop]; decide), if_pos hop, if_pos (by omega)]
  rw [hk] at p2
  rw [hop] at p0
  have i1 : (i : Int) < (ps.length : Int) := by omega
  rw [hE] at htl ⊢
  have ekz0 : ((Sh.kid (ps.getD i Pi.no) 0 : Nat) : Int) = (ps.getD i Pi.no).kids.getD 0 0 := by unfold Sh.kid; omega
  rw [ekz0] at hC0
  generalize (Sh.exC ps (Sh.kid (ps.getD i Pi.no) 0)) = E0 at *
  have ekz1 : ((Sh.kid (ps.getD i Pi.no) 1 : Nat) : Int) = (ps.getD i Pi.no).kids.getD 1 0 := by unfold Sh.kid; omega
  rw [ekz1] at hC1
  generalize (Sh.st ps i (Sh.kid (ps.getD i Pi.no) 1)) = E1 at *
  have ekz2 : ((Sh.kid (ps.getD i Pi.no) 2 : Nat) : Int) = (ps.getD i Pi.no).kids.getD 2 0 := by unfold Sh.kid; omega
  rw [ekz2] at hC2
  generalize (Sh.st ps i (Sh.kid (ps.getD i Pi.no) 2)) = E2 at *
  generalize (ps.getD i Pi.no).text = X at *
  generalize (ps.getD i Pi.no).kids.getD 0 0 = Z0 at *
  generalize (ps.getD i Pi.no).kids.getD 1 0 = Z1 at *
  generalize (ps.getD i Pi.no).kids.getD 2 0 = Z2 at *
  simp only [List.length_append, List.length_cons, List.length_nil] at htl
  have n0 : ¬ 9223372036854775807 < 4 + E0.length := by omega
  have n1 : ¬ 9223372036854775807 < 4 + E0.length + 2 := by omega
  have n2 : ¬ 9223372036854775807 < 4 + E0.length + 2 + E1.length := by omega
  have n3 : ¬ 9223372036854775807 < 4 + E0.length + 2 + E1.length + 6 := by omega
  have n4 : ¬ 9223372036854775807 < 4 + E0.length + 2 + E1.length + 6 + E2.length := by omega
  have HC0 : Hid (∀ W, Below w.heap.size w W → Calls Tryz.prog 34 #[.agg #[.slice (some ⟨b, o, none⟩) ps.length vc, .slice ra rn rc], .int .i64 Z0] W fun e w' => e = .returned (.string ⟨E0.toArray⟩) ∧ Below W.heap.size W w') := hC0
  have HC1 : Hid (∀ W, Below w.heap.size w W → Calls Tryz.prog 35 #[.agg #[.slice (some ⟨b, o, none⟩) ps.length vc, .slice ra rn rc], .int .i64 Z1] W fun e w' => e = .returned (.string ⟨E1.toArray⟩) ∧ Below W.heap.size W w') := hC1
  have HC2 : Hid (∀ W, Below w.heap.size w W → Calls Tryz.prog 35 #[.agg #[.slice (some ⟨b, o, none⟩) ps.length vc, .slice ra rn rc], .int .i64 Z2] W fun e w' => e = .returned (.string ⟨E2.toArray⟩) ∧ Below W.heap.size W w') := hC2
  generalize ps.length = n at *
  clear hp fk f hop hk hE htl hkc hC0 ekz0 hkz0 hC1 ekz1 hkz1 hC2 ekz2 hkz2
  obtain ⟨m0, m1⟩ := blk2 (alloc2_0 w (.cells #[.slice (some ⟨b, o, none⟩) n vc, .slice ra rn rc] 25) (.cells #[.int .i64 22, .string X, .slice (some ⟨kb, ko, none⟩) 3 kc] 87))
  obtain ⟨-, -, m3⟩ := blk3 (alloc2_1 w (.cells #[.slice (some ⟨b, o, none⟩) n vc, .slice ra rn rc] 25) (.cells #[.int .i64 22, .string X, .slice (some ⟨kb, ko, none⟩) 3 kc] 87))
  have hb0 := below2 w (.cells #[.slice (some ⟨b, o, none⟩) n vc, .slice ra rn rc] 25) (.cells #[.int .i64 22, .string X, .slice (some ⟨kb, ko, none⟩) 3 kc] 87)
  have m4 := (hb0.cell hkb).trans q0
  have m6 := (hb0.cell hkb).trans q1
  have m8 := (hb0.cell hkb).trans q2
  have HB0 : Hid _ := hb0
  clear hb0
  have HD0 : Hid (∀ W, (W.cell? ⟨w.heap.size, 0, none⟩ = some (.slice (some ⟨b, o, none⟩) n vc) ∧ W.cell? ⟨w.heap.size, 1, none⟩ = some (.slice ra rn rc) ∧ W.cell? ⟨w.heap.size + 1, 2, none⟩ = some (.slice (some ⟨kb, ko, none⟩) 3 kc) ∧ W.cell? ⟨kb, ko, none⟩ = some (.int .i64 Z0) ∧ W.cell? ⟨kb, ko + 1, none⟩ = some (.int .i64 Z1) ∧ Hid (Below w.heap.size w W)) → Calls Tryz.prog 34 #[.agg #[.slice (some ⟨b, o, none⟩) n vc, .slice ra rn rc], .int .i64 Z0] W fun e w' => e = .returned (.string ⟨E0.toArray⟩) ∧ Below W.heap.size W w') := fun W h => HC0.out W h.2.2.2.2.2.out
  have HD1 : Hid (∀ W, (W.cell? ⟨w.heap.size, 0, none⟩ = some (.slice (some ⟨b, o, none⟩) n vc) ∧ W.cell? ⟨w.heap.size, 1, none⟩ = some (.slice ra rn rc) ∧ W.cell? ⟨w.heap.size + 1, 2, none⟩ = some (.slice (some ⟨kb, ko, none⟩) 3 kc) ∧ W.cell? ⟨kb, ko, none⟩ = some (.int .i64 Z0) ∧ W.cell? ⟨kb, ko + 1, none⟩ = some (.int .i64 Z1) ∧ Hid (Below w.heap.size w W)) → Calls Tryz.prog 35 #[.agg #[.slice (some ⟨b, o, none⟩) n vc, .slice ra rn rc], .int .i64 Z1] W fun e w' => e = .returned (.string ⟨E1.toArray⟩) ∧ Below W.heap.size W w') := fun W h => HC1.out W h.2.2.2.2.2.out
  have HD2 : Hid (∀ W, (W.cell? ⟨w.heap.size, 0, none⟩ = some (.slice (some ⟨b, o, none⟩) n vc) ∧ W.cell? ⟨w.heap.size, 1, none⟩ = some (.slice ra rn rc) ∧ W.cell? ⟨w.heap.size + 1, 2, none⟩ = some (.slice (some ⟨kb, ko, none⟩) 3 kc) ∧ W.cell? ⟨kb, ko + 2, none⟩ = some (.int .i64 Z2) ∧ Hid (Below w.heap.size w W)) → Calls Tryz.prog 35 #[.agg #[.slice (some ⟨b, o, none⟩) n vc, .slice ra rn rc], .int .i64 Z2] W fun e w' => e = .returned (.string ⟨E2.toArray⟩) ∧ Below W.heap.size W w') := fun W h => HC2.out W h.2.2.2.2.out
  go_enter Tryz.func35, Tryz.ntmps35
  go_wp2_with fail
  generalize (w.alloc (.cells #[.slice (some ⟨b, o, none⟩) n vc, .slice ra rn rc] 25)).alloc (.cells #[.int .i64 22, .string X, .slice (some ⟨kb, ko, none⟩) 3 kc] 87) = W2 at *
  clear HC0 HC1 p0 p1 p2 q0 q1 HC2 q2
  go_region_held3 (fun W => W.cell? ⟨w.heap.size, 0, none⟩ = some (.slice (some ⟨b, o, none⟩) n vc) ∧ W.cell? ⟨w.heap.size, 1, none⟩ = some (.slice ra rn rc) ∧ W.cell? ⟨w.heap.size + 1, 2, none⟩ = some (.slice (some ⟨kb, ko, none⟩) 3 kc) ∧ W.cell? ⟨kb, ko, none⟩ = some (.int .i64 Z0) ∧ W.cell? ⟨kb, ko + 1, none⟩ = some (.int .i64 Z1) ∧ Hid (Below w.heap.size w W)) (first | exact keep5 hb3 (keep5 hb2 (by assumption)) | exact keep5 hb3 (by assumption) | exact keep5 hb2 (by assumption) | exact ⟨m0, m1, m3, m4, m6, HB0.out.drew⟩ | assumption) (first | (go_at_call 34; refine (HD0.out _ (by assumption)).mono ?_; rintro e a2 ⟨rfl, hb2⟩) | (go_at_call 35; refine (HD1.out _ (by assumption)).mono ?_; rintro e a3 ⟨rfl, hb3⟩))
  all_goals
    have HBW : Hid (Below W2.heap.size W2 a3) := ((Below.refl _ _).drew).trans (hb2.trans (hb3.mono hb2.size))
    have HBF : Hid (Below w.heap.size w a3) := HB0.out.trans (HBW.out.mono HB0.out.size)
    have s3 := (HBW.out.cell (World.block_lt_of_cell? W2 _ m3)).trans m3
    have s0 := (HBW.out.cell (World.block_lt_of_cell? W2 _ m0)).trans m0
    have s1 := (HBW.out.cell (World.block_lt_of_cell? W2 _ m1)).trans m1
    have s8 := (HBW.out.cell (World.block_lt_of_cell? W2 _ m8)).trans m8
    clear m0 m1 m3 m4 m6 m8 hb2 hb3
    go_wp2_with fail
    go_region_held3 (fun W => W.cell? ⟨w.heap.size, 0, none⟩ = some (.slice (some ⟨b, o, none⟩) n vc) ∧ W.cell? ⟨w.heap.size, 1, none⟩ = some (.slice ra rn rc) ∧ W.cell? ⟨w.heap.size + 1, 2, none⟩ = some (.slice (some ⟨kb, ko, none⟩) 3 kc) ∧ W.cell? ⟨kb, ko + 2, none⟩ = some (.int .i64 Z2) ∧ Hid (Below w.heap.size w W)) (first | exact keep4 hb5 (by assumption) | exact ⟨s0, s1, s3, s8, HBF.out.drew⟩ | assumption) ((go_at_call 35; refine (HD2.out _ (by assumption)).mono ?_; rintro e a5 ⟨rfl, hb5⟩))
    have hbf : Below w.heap.size w a5 := HBF.out.drew.trans (hb5.mono HBF.out.size)
    go_wp2
    go_ret
    refine ⟨?_, hbf⟩
    apply congrArg Ending.returned
    apply congrArg Value.string
    apply ByteArray.ext
    simp
set_option maxRecDepth 100000 in
set_option maxHeartbeats 4000000 in
theorem showSt_block0 (v : Value) (ps : List Pi) (ra : Option Addr) (rn rc i : Nat) (w : World) (h : PcsAt w v ps) (hi : i < ps.length) (hl : ps.length ≤ 200) (hop : (ps.getD i Pi.no).op = 24) (hk : (ps.getD i Pi.no).kids.length = 0) :
    Calls Tryz.prog 35 #[.agg #[v, .slice ra rn rc], .int .i64 (i : Int)] w fun e w' => e = .returned (.string ⟨(Sh.st ps (i + 1) i).toArray⟩) ∧ Below w.heap.size w w' := by
  obtain ⟨va, vc, rfl, f⟩ := h
  obtain ⟨b, o, rfl, hb, hp⟩ := f (by omega)
  obtain ⟨kv, p0, p1, p2, ka, kc, rfl, fk⟩ := hp i hi
  have hks : (ps.getD i Pi.no).kids = [] := List.eq_nil_of_length_eq_zero hk
  have hE : Sh.st ps (i + 1) i = [123, 32, 125] := by
    rw [Sh.st, if_neg (by rw [hop]; decide), if_neg (by rw [hop]; decide), if_neg (by rw [hop]; decide), if_neg (by rw [hop]; decide), if_neg (by rw [hop]; decide), if_neg (by rw [hop]; decide), if_neg (by rw [hop]; decide), if_neg (by rw [hop]; decide), hks]
    rfl
  rw [hk] at p2
  rw [hop] at p0
  rw [hE]
  have i1 : (i : Int) < (ps.length : Int) := by omega
  generalize (ps.getD i Pi.no).text = X at *
  generalize ps.length = n at *
  clear hp fk f hop hk hE hks
  obtain ⟨-, -, m3⟩ := blk3 (alloc2_1 w (.cells #[.slice (some ⟨b, o, none⟩) n vc, .slice ra rn rc] 25) (.cells #[.int .i64 24, .string X, .slice ka 0 kc] 87))
  have HB0 : Hid _ := below2 w (.cells #[.slice (some ⟨b, o, none⟩) n vc, .slice ra rn rc] 25) (.cells #[.int .i64 24, .string X, .slice ka 0 kc] 87)
  go_enter Tryz.func35, Tryz.ntmps35
  go_wp2_with fail
  generalize (w.alloc (.cells #[.slice (some ⟨b, o, none⟩) n vc, .slice ra rn rc] 25)).alloc (.cells #[.int .i64 24, .string X, .slice ka 0 kc] 87) = W2 at *
  go_loopw [9, 10] (fun s k wr => k = .int .i64 0 ∧ s = .string ⟨#[123, 32]⟩ ∧ wr = W2) (fun _ _ _ => 0)
  case atStart => exact ⟨rfl, rfl, rfl⟩
  case round =>
    obtain ⟨rfl, rfl, rfl⟩ := hrel
    go_wp2
    go_ret
    exact ⟨rfl, HB0.out⟩
end PartShJ
section PartShK
open Go.RowKit

namespace Sh
/-- What a right statement has: its kids, ahead of it, expressions or statements. -/
theorem node_st {ps : List Pi} {i : Nat} (h : Pg.node ps i = true) (he : Pg.ex (ps.getD i Pi.no).op = false) :
    17 ≤ (ps.getD i Pi.no).op ∧ (ps.getD i Pi.no).op ≤ 25 ∧ ((Pg.many (ps.getD i Pi.no).op).1 ≤ (ps.getD i Pi.no).kids.length ∧ (ps.getD i Pi.no).kids.length ≤ (Pg.many (ps.getD i Pi.no).op).2) ∧
    ∀ k, k < (ps.getD i Pi.no).kids.length → 0 ≤ (ps.getD i Pi.no).kids.getD k 0 ∧ kid (ps.getD i Pi.no) k < i ∧ Pg.ex (ps.getD (kid (ps.getD i Pi.no) k) Pi.no).op = !(decide ((ps.getD i Pi.no).op = 24) || (decide ((ps.getD i Pi.no).op = 22) && decide (0 < k))) := by
  unfold Pg.node at h
  simp only [Bool.and_eq_true, decide_eq_true_eq, List.all_eq_true, List.mem_range] at h
  obtain ⟨⟨⟨hr, -⟩, hm⟩, hk⟩ := h
  unfold Pg.ex at he
  simp only [decide_eq_false_iff_not] at he
  refine ⟨by omega, hr.2, hm, fun k hk2 => ?_⟩
  have := hk k hk2
  unfold Pg.kid at this
  rw [Bool.and_eq_true] at this
  obtain ⟨h1, h3⟩ := this
  have h1 := of_decide_eq_true h1
  refine ⟨h1.1, by unfold kid; omega, ?_⟩
  unfold kid
  rw [Bool.not_eq_true', Bool.or_eq_false_iff] at h3
  have h4 := h3.1
  revert h4
  generalize (decide ((ps.getD i Pi.no).op = 24) || (decide ((ps.getD i Pi.no).op = 22) && decide (0 < k))) = a
  generalize Pg.ex (ps.getD ((ps.getD i Pi.no).kids.getD k 0).toNat Pi.no).op = b
  cases a <;> cases b <;> simp
theorem el_le (s : List UInt8) (f : Int → List UInt8) (ks : List Int) (k : Nat) (h : k < ks.length) : (f (ks.getD k 0)).length ≤ (sep s (ks.map f)).length := by
  refine Nat.le_trans ?_ (sep_mono s f ks (k + 1) h)
  rw [sep_take s f ks k h]
  split
  · exact Nat.le_refl _
  · simp only [List.length_append]; omega
theorem st_fuel {ps : List Pi} (hn : ∀ i, i < ps.length → Pg.node ps i = true) : ∀ j f, j < ps.length → j < f → Pg.ex (ps.getD j Pi.no).op = false → st ps f j = st ps (j + 1) j := by
  intro j
  induction j using Nat.strongRecOn with
  | ind j ih =>
    intro f hj hf he
    obtain ⟨g, rfl⟩ : ∃ g, f = g + 1 := ⟨f - 1, by omega⟩
    obtain ⟨h1, h2, hm, hk⟩ := node_st (hn j hj) he
    have key : ∀ k, k < (ps.getD j Pi.no).kids.length → Pg.ex (ps.getD (kid (ps.getD j Pi.no) k) Pi.no).op = false → st ps g (kid (ps.getD j Pi.no) k) = st ps j (kid (ps.getD j Pi.no) k) := fun k hk2 b2 => by
      obtain ⟨-, b1, -⟩ := hk k hk2
      rw [ih _ b1 g (by omega) (by omega) b2, ih _ b1 j (by omega) b1 b2]
    rw [st, st]
    by_cases c22 : (ps.getD j Pi.no).op = 22
    · have n : ∀ z : Int, z ≠ 22 → ¬ (ps.getD j Pi.no).op = z := fun z hz => by omega
      have hm2 : Pg.many (ps.getD j Pi.no).op = (2, 3) := by rw [c22]; rfl
      rw [hm2] at hm
      have hm1 : 2 ≤ (ps.getD j Pi.no).kids.length := hm.1
      rw [if_neg (n 17 (by decide)), if_neg (n 18 (by decide)), if_neg (n 19 (by decide)), if_neg (n 20 (by decide)), if_neg (n 21 (by decide)), if_pos c22,
        if_neg (n 17 (by decide)), if_neg (n 18 (by decide)), if_neg (n 19 (by decide)), if_neg (n 20 (by decide)), if_neg (n 21 (by decide)), if_pos c22]
      have fk : ∀ k, k < (ps.getD j Pi.no).kids.length → 0 < k → st ps g (kid (ps.getD j Pi.no) k) = st ps j (kid (ps.getD j Pi.no) k) := fun k hk2 h0 => key k hk2 (by rw [(hk k hk2).2.2, c22]; simp [h0])
      rw [fk 1 (by omega) (by omega)]
      by_cases c3 : 2 < (ps.getD j Pi.no).kids.length
      · rw [if_pos c3, if_pos c3, fk 2 c3 (by omega)]
      · rw [if_neg c3, if_neg c3]
    by_cases c24 : (ps.getD j Pi.no).op = 24
    · have n : ∀ z : Int, z ≠ 24 → ¬ (ps.getD j Pi.no).op = z := fun z hz => by omega
      have hmap : ((ps.getD j Pi.no).kids.map fun k => st ps g k.toNat) = ((ps.getD j Pi.no).kids.map fun k => st ps j k.toNat) := by
        refine List.map_congr_left fun z hz => ?_
        obtain ⟨k, hk2, rfl⟩ := List.getElem_of_mem hz
        have e : (ps.getD j Pi.no).kids[k] = (ps.getD j Pi.no).kids.getD k 0 := by
          generalize (ps.getD j Pi.no).kids = l at hk2
          rw [List.getD_eq_getElem?_getD, List.getElem?_eq_getElem hk2]; rfl
        rw [e]
        exact key k hk2 (by rw [(hk k hk2).2.2, c24]; simp)
      rw [if_neg (n 17 (by decide)), if_neg (n 18 (by decide)), if_neg (n 19 (by decide)), if_neg (n 20 (by decide)), if_neg (n 21 (by decide)), if_neg (n 22 (by decide)), if_neg (n 23 (by decide)), if_neg (n 25 (by decide)), if_neg (n 17 (by decide)), if_neg (n 18 (by decide)), if_neg (n 19 (by decide)), if_neg (n 20 (by decide)), if_neg (n 21 (by decide)), if_neg (n 22 (by decide)), if_neg (n 23 (by decide)), if_neg (n 25 (by decide)), hmap]
    · by_cases c17 : (ps.getD j Pi.no).op = 17
      · rw [if_pos c17, if_pos c17]
      rw [if_neg c17, if_neg c17]
      by_cases c18 : (ps.getD j Pi.no).op = 18
      · rw [if_pos c18, if_pos c18]
      rw [if_neg c18, if_neg c18]
      by_cases c19 : (ps.getD j Pi.no).op = 19
      · rw [if_pos c19, if_pos c19]
      rw [if_neg c19, if_neg c19]
      by_cases c20 : (ps.getD j Pi.no).op = 20
      · rw [if_pos c20, if_pos c20]
      rw [if_neg c20, if_neg c20]
      by_cases c21 : (ps.getD j Pi.no).op = 21
      · rw [if_pos c21, if_pos c21]
      rw [if_neg c21, if_neg c21, if_neg c22, if_neg c22]
      by_cases c23 : (ps.getD j Pi.no).op = 23
      · rw [if_pos c23, if_pos c23]
      rw [if_neg c23, if_neg c23]
      have c25 : (ps.getD j Pi.no).op = 25 := by omega
      rw [if_pos c25, if_pos c25]
end Sh
end PartShK
end Go.Proofs.YtifbgdinjdgdfapGreatDoor
