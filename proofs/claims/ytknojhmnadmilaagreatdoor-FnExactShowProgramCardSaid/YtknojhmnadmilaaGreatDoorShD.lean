/- What is shown of an expression of two. -/
import Derived.Test.YtknojhmnadmilaaGreatDoorShC
namespace Go.Proofs.YtknojhmnadmilaaGreatDoor
open Go.RowKit

set_option maxRecDepth 100000 in
set_option maxHeartbeats 4000000 in
theorem showEx_join (v : Value) (ps : List Pi) (ra : Option Addr) (rn rc i : Nat) (w : World) (h : PcsAt w v ps) (hi : i < ps.length) (hl : ps.length ≤ 200) (hop : (ps.getD i Pi.no).op = 13) (hk : (ps.getD i Pi.no).kids.length = 2) (hkz0 : 0 ≤ (ps.getD i Pi.no).kids.getD 0 0) (hC0 : ∀ W, Below w.heap.size w W → Calls Tryz.prog 13 #[.agg #[v, .slice ra rn rc], .int .i64 (Sh.kid (ps.getD i Pi.no) 0 : Int)] W fun e w' => e = .returned (.string ⟨(Sh.ex ps i (Sh.kid (ps.getD i Pi.no) 0)).toArray⟩) ∧ Below W.heap.size W w') (hkz1 : 0 ≤ (ps.getD i Pi.no).kids.getD 1 0) (hC1 : ∀ W, Below w.heap.size w W → Calls Tryz.prog 13 #[.agg #[v, .slice ra rn rc], .int .i64 (Sh.kid (ps.getD i Pi.no) 1 : Int)] W fun e w' => e = .returned (.string ⟨(Sh.ex ps i (Sh.kid (ps.getD i Pi.no) 1)).toArray⟩) ∧ Below W.heap.size W w') (htl : (Sh.ex ps (i + 1) i).length ≤ 1000000) :
    Calls Tryz.prog 13 #[.agg #[v, .slice ra rn rc], .int .i64 (i : Int)] w fun e w' => e = .returned (.string ⟨(Sh.ex ps (i + 1) i).toArray⟩) ∧ Below w.heap.size w w' := by
  obtain ⟨va, vc, rfl, f⟩ := h
  obtain ⟨b, o, rfl, hb, hp⟩ := f (by omega)
  obtain ⟨kv, p0, p1, p2, ka, kc, rfl, fk⟩ := hp i hi
  obtain ⟨kb, ko, rfl, hkb, hkc⟩ := fk (by omega)
  have q0 := hkc 0 (by omega)
  rw [Nat.add_zero] at q0
  have q1 := hkc 1 (by omega)
  rw [hk] at p2
  rw [hop] at p0
  have i1 : (i : Int) < (ps.length : Int) := by omega
  have hE : Sh.ex ps (i + 1) i = [40] ++ Sh.ex ps i (Sh.kid (ps.getD i Pi.no) 0) ++ [32] ++ Sh.sgn (ps.getD i Pi.no).op ++ [32] ++ Sh.ex ps i (Sh.kid (ps.getD i Pi.no) 1) ++ [41] := by
    rw [Sh.ex, if_neg (by rw [hop]; decide), if_neg (by rw [hop]; decide), if_neg (by rw [hop]; decide), if_neg (by rw [hop]; decide), if_neg (by rw [hop]; decide), if_neg (by rw [hop]; decide), if_neg (by rw [hop]; decide), if_neg (by rw [hop]; decide)]
  rw [hE] at htl ⊢
  generalize (Sh.ex ps i (Sh.kid (ps.getD i Pi.no) 0)) = E0 at *
  have ekz0 : ((Sh.kid (ps.getD i Pi.no) 0 : Nat) : Int) = (ps.getD i Pi.no).kids.getD 0 0 := by unfold Sh.kid; omega
  rw [ekz0] at hC0
  generalize (Sh.ex ps i (Sh.kid (ps.getD i Pi.no) 1)) = E1 at *
  have ekz1 : ((Sh.kid (ps.getD i Pi.no) 1 : Nat) : Int) = (ps.getD i Pi.no).kids.getD 1 0 := by unfold Sh.kid; omega
  rw [ekz1] at hC1
  have hsg : Sh.sgn (ps.getD i Pi.no).op = [46] := by rw [hop]; rfl
  rw [hsg] at htl ⊢
  generalize (ps.getD i Pi.no).text = X at *
  generalize (ps.getD i Pi.no).kids.getD 0 0 = Z0 at *
  generalize (ps.getD i Pi.no).kids.getD 1 0 = Z1 at *
  simp only [List.length_append, List.length_cons, List.length_nil] at htl
  have n0 : ¬ 9223372036854775807 < 1 + E0.length := by omega
  have n1 : ¬ 9223372036854775807 < 1 + E0.length + 1 := by omega
  have n2 : ¬ 9223372036854775807 < 1 + E0.length + 1 + 1 := by omega
  have n3 : ¬ 9223372036854775807 < 1 + E0.length + 1 + 1 + 1 := by omega
  have n4 : ¬ 9223372036854775807 < 1 + E0.length + 1 + 1 + 1 + E1.length := by omega
  have n5 : ¬ 9223372036854775807 < 1 + E0.length + 1 + 1 + 1 + E1.length + 1 := by omega
  have HC0 : Hid (∀ W, Below w.heap.size w W → Calls Tryz.prog 13 #[.agg #[.slice (some ⟨b, o, none⟩) ps.length vc, .slice ra rn rc], .int .i64 Z0] W fun e w' => e = .returned (.string ⟨E0.toArray⟩) ∧ Below W.heap.size W w') := hC0
  have HC1 : Hid (∀ W, Below w.heap.size w W → Calls Tryz.prog 13 #[.agg #[.slice (some ⟨b, o, none⟩) ps.length vc, .slice ra rn rc], .int .i64 Z1] W fun e w' => e = .returned (.string ⟨E1.toArray⟩) ∧ Below W.heap.size W w') := hC1
  generalize ps.length = n at *
  clear hp fk f hop hk hE htl hC0 ekz0 hkz0 hC1 ekz1 hkz1 hkc hsg
  obtain ⟨m0, m1⟩ := blk2 (alloc2_0 w (.cells #[.slice (some ⟨b, o, none⟩) n vc, .slice ra rn rc] 32) (.cells #[.int .i64 13, .string X, .slice (some ⟨kb, ko, none⟩) 2 kc] 67))
  obtain ⟨m5, m2, m3⟩ := blk3 (alloc2_1 w (.cells #[.slice (some ⟨b, o, none⟩) n vc, .slice ra rn rc] 32) (.cells #[.int .i64 13, .string X, .slice (some ⟨kb, ko, none⟩) 2 kc] 67))
  have hb0 := below2 w (.cells #[.slice (some ⟨b, o, none⟩) n vc, .slice ra rn rc] 32) (.cells #[.int .i64 13, .string X, .slice (some ⟨kb, ko, none⟩) 2 kc] 67)
  have hsz0 : ((w.alloc (.cells #[.slice (some ⟨b, o, none⟩) n vc, .slice ra rn rc] 32)).alloc (.cells #[.int .i64 13, .string X, .slice (some ⟨kb, ko, none⟩) 2 kc] 67)).heap.size = w.heap.size + 2 := by simp
  have m4 := (hb0.cell hkb).trans q0
  have m6 := (hb0.cell hkb).trans q1
  have e7 := heap_alloc_new ((w.alloc (.cells #[.slice (some ⟨b, o, none⟩) n vc, .slice ra rn rc] 32)).alloc (.cells #[.int .i64 13, .string X, .slice (some ⟨kb, ko, none⟩) 2 kc] 67)) (.cells #[.string ⟨#[43]⟩, .string ⟨#[45]⟩, .string ⟨#[42]⟩, .string ⟨#[37]⟩, .string ⟨#[46]⟩, .string ⟨#[60]⟩, .string ⟨#[61, 61]⟩] 9)
  rw [hsz0] at e7
  have m7 : (((w.alloc (.cells #[.slice (some ⟨b, o, none⟩) n vc, .slice ra rn rc] 32)).alloc (.cells #[.int .i64 13, .string X, .slice (some ⟨kb, ko, none⟩) 2 kc] 67)).alloc (.cells #[.string ⟨#[43]⟩, .string ⟨#[45]⟩, .string ⟨#[42]⟩, .string ⟨#[37]⟩, .string ⟨#[46]⟩, .string ⟨#[60]⟩, .string ⟨#[61, 61]⟩] 9)).cell? ⟨w.heap.size + 2, 4, none⟩ = some (.string ⟨#[46]⟩) := by rw [blk_cell e7]; rfl
  have hb1 : Below w.heap.size w (((w.alloc (.cells #[.slice (some ⟨b, o, none⟩) n vc, .slice ra rn rc] 32)).alloc (.cells #[.int .i64 13, .string X, .slice (some ⟨kb, ko, none⟩) 2 kc] 67)).alloc (.cells #[.string ⟨#[43]⟩, .string ⟨#[45]⟩, .string ⟨#[42]⟩, .string ⟨#[37]⟩, .string ⟨#[46]⟩, .string ⟨#[60]⟩, .string ⟨#[61, 61]⟩] 9)) := hb0.alloc hb0.size _
  replace m0 := cell_alloc (.cells #[.string ⟨#[43]⟩, .string ⟨#[45]⟩, .string ⟨#[42]⟩, .string ⟨#[37]⟩, .string ⟨#[46]⟩, .string ⟨#[60]⟩, .string ⟨#[61, 61]⟩] 9) m0
  replace m1 := cell_alloc (.cells #[.string ⟨#[43]⟩, .string ⟨#[45]⟩, .string ⟨#[42]⟩, .string ⟨#[37]⟩, .string ⟨#[46]⟩, .string ⟨#[60]⟩, .string ⟨#[61, 61]⟩] 9) m1
  replace m3 := cell_alloc (.cells #[.string ⟨#[43]⟩, .string ⟨#[45]⟩, .string ⟨#[42]⟩, .string ⟨#[37]⟩, .string ⟨#[46]⟩, .string ⟨#[60]⟩, .string ⟨#[61, 61]⟩] 9) m3
  replace m4 := cell_alloc (.cells #[.string ⟨#[43]⟩, .string ⟨#[45]⟩, .string ⟨#[42]⟩, .string ⟨#[37]⟩, .string ⟨#[46]⟩, .string ⟨#[60]⟩, .string ⟨#[61, 61]⟩] 9) m4
  replace m5 := cell_alloc (.cells #[.string ⟨#[43]⟩, .string ⟨#[45]⟩, .string ⟨#[42]⟩, .string ⟨#[37]⟩, .string ⟨#[46]⟩, .string ⟨#[60]⟩, .string ⟨#[61, 61]⟩] 9) m5
  replace m6 := cell_alloc (.cells #[.string ⟨#[43]⟩, .string ⟨#[45]⟩, .string ⟨#[42]⟩, .string ⟨#[37]⟩, .string ⟨#[46]⟩, .string ⟨#[60]⟩, .string ⟨#[61, 61]⟩] 9) m6
  have HB0 : Hid _ := hb1
  clear hb0 hb1 hsz0 e7 m2
  have HD0 : Hid (∀ W, (W.cell? ⟨w.heap.size, 0, none⟩ = some (.slice (some ⟨b, o, none⟩) n vc) ∧ W.cell? ⟨w.heap.size, 1, none⟩ = some (.slice ra rn rc) ∧ W.cell? ⟨w.heap.size + 1, 0, none⟩ = some (.int .i64 13) ∧ W.cell? ⟨w.heap.size + 1, 2, none⟩ = some (.slice (some ⟨kb, ko, none⟩) 2 kc) ∧ W.cell? ⟨kb, ko, none⟩ = some (.int .i64 Z0) ∧ W.cell? ⟨kb, ko + 1, none⟩ = some (.int .i64 Z1) ∧ W.cell? ⟨w.heap.size + 2, 4, none⟩ = some (.string ⟨#[46]⟩) ∧ Hid (Below w.heap.size w W)) → Calls Tryz.prog 13 #[.agg #[.slice (some ⟨b, o, none⟩) n vc, .slice ra rn rc], .int .i64 Z0] W fun e w' => e = .returned (.string ⟨E0.toArray⟩) ∧ Below W.heap.size W w') := fun W h => HC0.out W h.2.2.2.2.2.2.2.out
  have HD1 : Hid (∀ W, (W.cell? ⟨w.heap.size, 0, none⟩ = some (.slice (some ⟨b, o, none⟩) n vc) ∧ W.cell? ⟨w.heap.size, 1, none⟩ = some (.slice ra rn rc) ∧ W.cell? ⟨w.heap.size + 1, 0, none⟩ = some (.int .i64 13) ∧ W.cell? ⟨w.heap.size + 1, 2, none⟩ = some (.slice (some ⟨kb, ko, none⟩) 2 kc) ∧ W.cell? ⟨kb, ko, none⟩ = some (.int .i64 Z0) ∧ W.cell? ⟨kb, ko + 1, none⟩ = some (.int .i64 Z1) ∧ W.cell? ⟨w.heap.size + 2, 4, none⟩ = some (.string ⟨#[46]⟩) ∧ Hid (Below w.heap.size w W)) → Calls Tryz.prog 13 #[.agg #[.slice (some ⟨b, o, none⟩) n vc, .slice ra rn rc], .int .i64 Z1] W fun e w' => e = .returned (.string ⟨E1.toArray⟩) ∧ Below W.heap.size W w') := fun W h => HC1.out W h.2.2.2.2.2.2.2.out
  go_enter Tryz.func13, Tryz.ntmps13
  go_wp2_with fail
  generalize ((w.alloc (.cells #[.slice (some ⟨b, o, none⟩) n vc, .slice ra rn rc] 32)).alloc (.cells #[.int .i64 13, .string X, .slice (some ⟨kb, ko, none⟩) 2 kc] 67)).alloc (.cells #[.string ⟨#[43]⟩, .string ⟨#[45]⟩, .string ⟨#[42]⟩, .string ⟨#[37]⟩, .string ⟨#[46]⟩, .string ⟨#[60]⟩, .string ⟨#[61, 61]⟩] 9) = W2 at *
  clear HC0 HC1 p0 p1 p2 q0 q1
  have wz : IntKind.i64.wrap 4 = 4 := by rfl
  go_region_held3 (fun W => W.cell? ⟨w.heap.size, 0, none⟩ = some (.slice (some ⟨b, o, none⟩) n vc) ∧ W.cell? ⟨w.heap.size, 1, none⟩ = some (.slice ra rn rc) ∧ W.cell? ⟨w.heap.size + 1, 0, none⟩ = some (.int .i64 13) ∧ W.cell? ⟨w.heap.size + 1, 2, none⟩ = some (.slice (some ⟨kb, ko, none⟩) 2 kc) ∧ W.cell? ⟨kb, ko, none⟩ = some (.int .i64 Z0) ∧ W.cell? ⟨kb, ko + 1, none⟩ = some (.int .i64 Z1) ∧ W.cell? ⟨w.heap.size + 2, 4, none⟩ = some (.string ⟨#[46]⟩) ∧ Hid (Below w.heap.size w W)) (first | exact keep7 hb3 (keep7 hb2 (by assumption)) | exact keep7 hb3 (by assumption) | exact keep7 hb2 (by assumption) | exact ⟨m0, m1, m5, m3, m4, m6, m7, HB0.out.drew⟩ | assumption) (first | (go_at_call_of 13 (Value.int IntKind.i64 Z0); refine (HD0.out _ (by assumption)).mono ?_; rintro e a2 ⟨rfl, hb2⟩) | (go_at_call_of 13 (Value.int IntKind.i64 Z1); refine (HD1.out _ (by assumption)).mono ?_; rintro e a3 ⟨rfl, hb3⟩))
  all_goals
    have hbf : Below w.heap.size w a3 := HB0.out.drew.trans ((hb2.trans (hb3.mono hb2.size)).mono HB0.out.size)
    go_wp2
    go_ret
    refine ⟨?_, hbf⟩
    apply congrArg Ending.returned
    apply congrArg Value.string
    apply ByteArray.ext
    simp
set_option maxRecDepth 100000 in
set_option maxHeartbeats 4000000 in
theorem showEx_less (v : Value) (ps : List Pi) (ra : Option Addr) (rn rc i : Nat) (w : World) (h : PcsAt w v ps) (hi : i < ps.length) (hl : ps.length ≤ 200) (hop : (ps.getD i Pi.no).op = 14) (hk : (ps.getD i Pi.no).kids.length = 2) (hkz0 : 0 ≤ (ps.getD i Pi.no).kids.getD 0 0) (hC0 : ∀ W, Below w.heap.size w W → Calls Tryz.prog 13 #[.agg #[v, .slice ra rn rc], .int .i64 (Sh.kid (ps.getD i Pi.no) 0 : Int)] W fun e w' => e = .returned (.string ⟨(Sh.ex ps i (Sh.kid (ps.getD i Pi.no) 0)).toArray⟩) ∧ Below W.heap.size W w') (hkz1 : 0 ≤ (ps.getD i Pi.no).kids.getD 1 0) (hC1 : ∀ W, Below w.heap.size w W → Calls Tryz.prog 13 #[.agg #[v, .slice ra rn rc], .int .i64 (Sh.kid (ps.getD i Pi.no) 1 : Int)] W fun e w' => e = .returned (.string ⟨(Sh.ex ps i (Sh.kid (ps.getD i Pi.no) 1)).toArray⟩) ∧ Below W.heap.size W w') (htl : (Sh.ex ps (i + 1) i).length ≤ 1000000) :
    Calls Tryz.prog 13 #[.agg #[v, .slice ra rn rc], .int .i64 (i : Int)] w fun e w' => e = .returned (.string ⟨(Sh.ex ps (i + 1) i).toArray⟩) ∧ Below w.heap.size w w' := by
  obtain ⟨va, vc, rfl, f⟩ := h
  obtain ⟨b, o, rfl, hb, hp⟩ := f (by omega)
  obtain ⟨kv, p0, p1, p2, ka, kc, rfl, fk⟩ := hp i hi
  obtain ⟨kb, ko, rfl, hkb, hkc⟩ := fk (by omega)
  have q0 := hkc 0 (by omega)
  rw [Nat.add_zero] at q0
  have q1 := hkc 1 (by omega)
  rw [hk] at p2
  rw [hop] at p0
  have i1 : (i : Int) < (ps.length : Int) := by omega
  have hE : Sh.ex ps (i + 1) i = [40] ++ Sh.ex ps i (Sh.kid (ps.getD i Pi.no) 0) ++ [32] ++ Sh.sgn (ps.getD i Pi.no).op ++ [32] ++ Sh.ex ps i (Sh.kid (ps.getD i Pi.no) 1) ++ [41] := by
    rw [Sh.ex, if_neg (by rw [hop]; decide), if_neg (by rw [hop]; decide), if_neg (by rw [hop]; decide), if_neg (by rw [hop]; decide), if_neg (by rw [hop]; decide), if_neg (by rw [hop]; decide), if_neg (by rw [hop]; decide), if_neg (by rw [hop]; decide)]
  rw [hE] at htl ⊢
  generalize (Sh.ex ps i (Sh.kid (ps.getD i Pi.no) 0)) = E0 at *
  have ekz0 : ((Sh.kid (ps.getD i Pi.no) 0 : Nat) : Int) = (ps.getD i Pi.no).kids.getD 0 0 := by unfold Sh.kid; omega
  rw [ekz0] at hC0
  generalize (Sh.ex ps i (Sh.kid (ps.getD i Pi.no) 1)) = E1 at *
  have ekz1 : ((Sh.kid (ps.getD i Pi.no) 1 : Nat) : Int) = (ps.getD i Pi.no).kids.getD 1 0 := by unfold Sh.kid; omega
  rw [ekz1] at hC1
  have hsg : Sh.sgn (ps.getD i Pi.no).op = [60] := by rw [hop]; rfl
  rw [hsg] at htl ⊢
  generalize (ps.getD i Pi.no).text = X at *
  generalize (ps.getD i Pi.no).kids.getD 0 0 = Z0 at *
  generalize (ps.getD i Pi.no).kids.getD 1 0 = Z1 at *
  simp only [List.length_append, List.length_cons, List.length_nil] at htl
  have n0 : ¬ 9223372036854775807 < 1 + E0.length := by omega
  have n1 : ¬ 9223372036854775807 < 1 + E0.length + 1 := by omega
  have n2 : ¬ 9223372036854775807 < 1 + E0.length + 1 + 1 := by omega
  have n3 : ¬ 9223372036854775807 < 1 + E0.length + 1 + 1 + 1 := by omega
  have n4 : ¬ 9223372036854775807 < 1 + E0.length + 1 + 1 + 1 + E1.length := by omega
  have n5 : ¬ 9223372036854775807 < 1 + E0.length + 1 + 1 + 1 + E1.length + 1 := by omega
  have HC0 : Hid (∀ W, Below w.heap.size w W → Calls Tryz.prog 13 #[.agg #[.slice (some ⟨b, o, none⟩) ps.length vc, .slice ra rn rc], .int .i64 Z0] W fun e w' => e = .returned (.string ⟨E0.toArray⟩) ∧ Below W.heap.size W w') := hC0
  have HC1 : Hid (∀ W, Below w.heap.size w W → Calls Tryz.prog 13 #[.agg #[.slice (some ⟨b, o, none⟩) ps.length vc, .slice ra rn rc], .int .i64 Z1] W fun e w' => e = .returned (.string ⟨E1.toArray⟩) ∧ Below W.heap.size W w') := hC1
  generalize ps.length = n at *
  clear hp fk f hop hk hE htl hC0 ekz0 hkz0 hC1 ekz1 hkz1 hkc hsg
  obtain ⟨m0, m1⟩ := blk2 (alloc2_0 w (.cells #[.slice (some ⟨b, o, none⟩) n vc, .slice ra rn rc] 32) (.cells #[.int .i64 14, .string X, .slice (some ⟨kb, ko, none⟩) 2 kc] 67))
  obtain ⟨m5, m2, m3⟩ := blk3 (alloc2_1 w (.cells #[.slice (some ⟨b, o, none⟩) n vc, .slice ra rn rc] 32) (.cells #[.int .i64 14, .string X, .slice (some ⟨kb, ko, none⟩) 2 kc] 67))
  have hb0 := below2 w (.cells #[.slice (some ⟨b, o, none⟩) n vc, .slice ra rn rc] 32) (.cells #[.int .i64 14, .string X, .slice (some ⟨kb, ko, none⟩) 2 kc] 67)
  have hsz0 : ((w.alloc (.cells #[.slice (some ⟨b, o, none⟩) n vc, .slice ra rn rc] 32)).alloc (.cells #[.int .i64 14, .string X, .slice (some ⟨kb, ko, none⟩) 2 kc] 67)).heap.size = w.heap.size + 2 := by simp
  have m4 := (hb0.cell hkb).trans q0
  have m6 := (hb0.cell hkb).trans q1
  have e7 := heap_alloc_new ((w.alloc (.cells #[.slice (some ⟨b, o, none⟩) n vc, .slice ra rn rc] 32)).alloc (.cells #[.int .i64 14, .string X, .slice (some ⟨kb, ko, none⟩) 2 kc] 67)) (.cells #[.string ⟨#[43]⟩, .string ⟨#[45]⟩, .string ⟨#[42]⟩, .string ⟨#[37]⟩, .string ⟨#[46]⟩, .string ⟨#[60]⟩, .string ⟨#[61, 61]⟩] 9)
  rw [hsz0] at e7
  have m7 : (((w.alloc (.cells #[.slice (some ⟨b, o, none⟩) n vc, .slice ra rn rc] 32)).alloc (.cells #[.int .i64 14, .string X, .slice (some ⟨kb, ko, none⟩) 2 kc] 67)).alloc (.cells #[.string ⟨#[43]⟩, .string ⟨#[45]⟩, .string ⟨#[42]⟩, .string ⟨#[37]⟩, .string ⟨#[46]⟩, .string ⟨#[60]⟩, .string ⟨#[61, 61]⟩] 9)).cell? ⟨w.heap.size + 2, 5, none⟩ = some (.string ⟨#[60]⟩) := by rw [blk_cell e7]; rfl
  have hb1 : Below w.heap.size w (((w.alloc (.cells #[.slice (some ⟨b, o, none⟩) n vc, .slice ra rn rc] 32)).alloc (.cells #[.int .i64 14, .string X, .slice (some ⟨kb, ko, none⟩) 2 kc] 67)).alloc (.cells #[.string ⟨#[43]⟩, .string ⟨#[45]⟩, .string ⟨#[42]⟩, .string ⟨#[37]⟩, .string ⟨#[46]⟩, .string ⟨#[60]⟩, .string ⟨#[61, 61]⟩] 9)) := hb0.alloc hb0.size _
  replace m0 := cell_alloc (.cells #[.string ⟨#[43]⟩, .string ⟨#[45]⟩, .string ⟨#[42]⟩, .string ⟨#[37]⟩, .string ⟨#[46]⟩, .string ⟨#[60]⟩, .string ⟨#[61, 61]⟩] 9) m0
  replace m1 := cell_alloc (.cells #[.string ⟨#[43]⟩, .string ⟨#[45]⟩, .string ⟨#[42]⟩, .string ⟨#[37]⟩, .string ⟨#[46]⟩, .string ⟨#[60]⟩, .string ⟨#[61, 61]⟩] 9) m1
  replace m3 := cell_alloc (.cells #[.string ⟨#[43]⟩, .string ⟨#[45]⟩, .string ⟨#[42]⟩, .string ⟨#[37]⟩, .string ⟨#[46]⟩, .string ⟨#[60]⟩, .string ⟨#[61, 61]⟩] 9) m3
  replace m4 := cell_alloc (.cells #[.string ⟨#[43]⟩, .string ⟨#[45]⟩, .string ⟨#[42]⟩, .string ⟨#[37]⟩, .string ⟨#[46]⟩, .string ⟨#[60]⟩, .string ⟨#[61, 61]⟩] 9) m4
  replace m5 := cell_alloc (.cells #[.string ⟨#[43]⟩, .string ⟨#[45]⟩, .string ⟨#[42]⟩, .string ⟨#[37]⟩, .string ⟨#[46]⟩, .string ⟨#[60]⟩, .string ⟨#[61, 61]⟩] 9) m5
  replace m6 := cell_alloc (.cells #[.string ⟨#[43]⟩, .string ⟨#[45]⟩, .string ⟨#[42]⟩, .string ⟨#[37]⟩, .string ⟨#[46]⟩, .string ⟨#[60]⟩, .string ⟨#[61, 61]⟩] 9) m6
  have HB0 : Hid _ := hb1
  clear hb0 hb1 hsz0 e7 m2
  have HD0 : Hid (∀ W, (W.cell? ⟨w.heap.size, 0, none⟩ = some (.slice (some ⟨b, o, none⟩) n vc) ∧ W.cell? ⟨w.heap.size, 1, none⟩ = some (.slice ra rn rc) ∧ W.cell? ⟨w.heap.size + 1, 0, none⟩ = some (.int .i64 14) ∧ W.cell? ⟨w.heap.size + 1, 2, none⟩ = some (.slice (some ⟨kb, ko, none⟩) 2 kc) ∧ W.cell? ⟨kb, ko, none⟩ = some (.int .i64 Z0) ∧ W.cell? ⟨kb, ko + 1, none⟩ = some (.int .i64 Z1) ∧ W.cell? ⟨w.heap.size + 2, 5, none⟩ = some (.string ⟨#[60]⟩) ∧ Hid (Below w.heap.size w W)) → Calls Tryz.prog 13 #[.agg #[.slice (some ⟨b, o, none⟩) n vc, .slice ra rn rc], .int .i64 Z0] W fun e w' => e = .returned (.string ⟨E0.toArray⟩) ∧ Below W.heap.size W w') := fun W h => HC0.out W h.2.2.2.2.2.2.2.out
  have HD1 : Hid (∀ W, (W.cell? ⟨w.heap.size, 0, none⟩ = some (.slice (some ⟨b, o, none⟩) n vc) ∧ W.cell? ⟨w.heap.size, 1, none⟩ = some (.slice ra rn rc) ∧ W.cell? ⟨w.heap.size + 1, 0, none⟩ = some (.int .i64 14) ∧ W.cell? ⟨w.heap.size + 1, 2, none⟩ = some (.slice (some ⟨kb, ko, none⟩) 2 kc) ∧ W.cell? ⟨kb, ko, none⟩ = some (.int .i64 Z0) ∧ W.cell? ⟨kb, ko + 1, none⟩ = some (.int .i64 Z1) ∧ W.cell? ⟨w.heap.size + 2, 5, none⟩ = some (.string ⟨#[60]⟩) ∧ Hid (Below w.heap.size w W)) → Calls Tryz.prog 13 #[.agg #[.slice (some ⟨b, o, none⟩) n vc, .slice ra rn rc], .int .i64 Z1] W fun e w' => e = .returned (.string ⟨E1.toArray⟩) ∧ Below W.heap.size W w') := fun W h => HC1.out W h.2.2.2.2.2.2.2.out
  go_enter Tryz.func13, Tryz.ntmps13
  go_wp2_with fail
  generalize ((w.alloc (.cells #[.slice (some ⟨b, o, none⟩) n vc, .slice ra rn rc] 32)).alloc (.cells #[.int .i64 14, .string X, .slice (some ⟨kb, ko, none⟩) 2 kc] 67)).alloc (.cells #[.string ⟨#[43]⟩, .string ⟨#[45]⟩, .string ⟨#[42]⟩, .string ⟨#[37]⟩, .string ⟨#[46]⟩, .string ⟨#[60]⟩, .string ⟨#[61, 61]⟩] 9) = W2 at *
  clear HC0 HC1 p0 p1 p2 q0 q1
  have wz : IntKind.i64.wrap 5 = 5 := by rfl
  go_region_held3 (fun W => W.cell? ⟨w.heap.size, 0, none⟩ = some (.slice (some ⟨b, o, none⟩) n vc) ∧ W.cell? ⟨w.heap.size, 1, none⟩ = some (.slice ra rn rc) ∧ W.cell? ⟨w.heap.size + 1, 0, none⟩ = some (.int .i64 14) ∧ W.cell? ⟨w.heap.size + 1, 2, none⟩ = some (.slice (some ⟨kb, ko, none⟩) 2 kc) ∧ W.cell? ⟨kb, ko, none⟩ = some (.int .i64 Z0) ∧ W.cell? ⟨kb, ko + 1, none⟩ = some (.int .i64 Z1) ∧ W.cell? ⟨w.heap.size + 2, 5, none⟩ = some (.string ⟨#[60]⟩) ∧ Hid (Below w.heap.size w W)) (first | exact keep7 hb3 (keep7 hb2 (by assumption)) | exact keep7 hb3 (by assumption) | exact keep7 hb2 (by assumption) | exact ⟨m0, m1, m5, m3, m4, m6, m7, HB0.out.drew⟩ | assumption) (first | (go_at_call_of 13 (Value.int IntKind.i64 Z0); refine (HD0.out _ (by assumption)).mono ?_; rintro e a2 ⟨rfl, hb2⟩) | (go_at_call_of 13 (Value.int IntKind.i64 Z1); refine (HD1.out _ (by assumption)).mono ?_; rintro e a3 ⟨rfl, hb3⟩))
  all_goals
    have hbf : Below w.heap.size w a3 := HB0.out.drew.trans ((hb2.trans (hb3.mono hb2.size)).mono HB0.out.size)
    go_wp2
    go_ret
    refine ⟨?_, hbf⟩
    apply congrArg Ending.returned
    apply congrArg Value.string
    apply ByteArray.ext
    simp
set_option maxRecDepth 100000 in
set_option maxHeartbeats 4000000 in
theorem showEx_same (v : Value) (ps : List Pi) (ra : Option Addr) (rn rc i : Nat) (w : World) (h : PcsAt w v ps) (hi : i < ps.length) (hl : ps.length ≤ 200) (hop : (ps.getD i Pi.no).op = 15) (hk : (ps.getD i Pi.no).kids.length = 2) (hkz0 : 0 ≤ (ps.getD i Pi.no).kids.getD 0 0) (hC0 : ∀ W, Below w.heap.size w W → Calls Tryz.prog 13 #[.agg #[v, .slice ra rn rc], .int .i64 (Sh.kid (ps.getD i Pi.no) 0 : Int)] W fun e w' => e = .returned (.string ⟨(Sh.ex ps i (Sh.kid (ps.getD i Pi.no) 0)).toArray⟩) ∧ Below W.heap.size W w') (hkz1 : 0 ≤ (ps.getD i Pi.no).kids.getD 1 0) (hC1 : ∀ W, Below w.heap.size w W → Calls Tryz.prog 13 #[.agg #[v, .slice ra rn rc], .int .i64 (Sh.kid (ps.getD i Pi.no) 1 : Int)] W fun e w' => e = .returned (.string ⟨(Sh.ex ps i (Sh.kid (ps.getD i Pi.no) 1)).toArray⟩) ∧ Below W.heap.size W w') (htl : (Sh.ex ps (i + 1) i).length ≤ 1000000) :
    Calls Tryz.prog 13 #[.agg #[v, .slice ra rn rc], .int .i64 (i : Int)] w fun e w' => e = .returned (.string ⟨(Sh.ex ps (i + 1) i).toArray⟩) ∧ Below w.heap.size w w' := by
  obtain ⟨va, vc, rfl, f⟩ := h
  obtain ⟨b, o, rfl, hb, hp⟩ := f (by omega)
  obtain ⟨kv, p0, p1, p2, ka, kc, rfl, fk⟩ := hp i hi
  obtain ⟨kb, ko, rfl, hkb, hkc⟩ := fk (by omega)
  have q0 := hkc 0 (by omega)
  rw [Nat.add_zero] at q0
  have q1 := hkc 1 (by omega)
  rw [hk] at p2
  rw [hop] at p0
  have i1 : (i : Int) < (ps.length : Int) := by omega
  have hE : Sh.ex ps (i + 1) i = [40] ++ Sh.ex ps i (Sh.kid (ps.getD i Pi.no) 0) ++ [32] ++ Sh.sgn (ps.getD i Pi.no).op ++ [32] ++ Sh.ex ps i (Sh.kid (ps.getD i Pi.no) 1) ++ [41] := by
    rw [Sh.ex, if_neg (by rw [hop]; decide), if_neg (by rw [hop]; decide), if_neg (by rw [hop]; decide), if_neg (by rw [hop]; decide), if_neg (by rw [hop]; decide), if_neg (by rw [hop]; decide), if_neg (by rw [hop]; decide), if_neg (by rw [hop]; decide)]
  rw [hE] at htl ⊢
  generalize (Sh.ex ps i (Sh.kid (ps.getD i Pi.no) 0)) = E0 at *
  have ekz0 : ((Sh.kid (ps.getD i Pi.no) 0 : Nat) : Int) = (ps.getD i Pi.no).kids.getD 0 0 := by unfold Sh.kid; omega
  rw [ekz0] at hC0
  generalize (Sh.ex ps i (Sh.kid (ps.getD i Pi.no) 1)) = E1 at *
  have ekz1 : ((Sh.kid (ps.getD i Pi.no) 1 : Nat) : Int) = (ps.getD i Pi.no).kids.getD 1 0 := by unfold Sh.kid; omega
  rw [ekz1] at hC1
  have hsg : Sh.sgn (ps.getD i Pi.no).op = [61, 61] := by rw [hop]; rfl
  rw [hsg] at htl ⊢
  generalize (ps.getD i Pi.no).text = X at *
  generalize (ps.getD i Pi.no).kids.getD 0 0 = Z0 at *
  generalize (ps.getD i Pi.no).kids.getD 1 0 = Z1 at *
  simp only [List.length_append, List.length_cons, List.length_nil] at htl
  have n0 : ¬ 9223372036854775807 < 1 + E0.length := by omega
  have n1 : ¬ 9223372036854775807 < 1 + E0.length + 1 := by omega
  have n2 : ¬ 9223372036854775807 < 1 + E0.length + 1 + 2 := by omega
  have n3 : ¬ 9223372036854775807 < 1 + E0.length + 1 + 2 + 1 := by omega
  have n4 : ¬ 9223372036854775807 < 1 + E0.length + 1 + 2 + 1 + E1.length := by omega
  have n5 : ¬ 9223372036854775807 < 1 + E0.length + 1 + 2 + 1 + E1.length + 1 := by omega
  have HC0 : Hid (∀ W, Below w.heap.size w W → Calls Tryz.prog 13 #[.agg #[.slice (some ⟨b, o, none⟩) ps.length vc, .slice ra rn rc], .int .i64 Z0] W fun e w' => e = .returned (.string ⟨E0.toArray⟩) ∧ Below W.heap.size W w') := hC0
  have HC1 : Hid (∀ W, Below w.heap.size w W → Calls Tryz.prog 13 #[.agg #[.slice (some ⟨b, o, none⟩) ps.length vc, .slice ra rn rc], .int .i64 Z1] W fun e w' => e = .returned (.string ⟨E1.toArray⟩) ∧ Below W.heap.size W w') := hC1
  generalize ps.length = n at *
  clear hp fk f hop hk hE htl hC0 ekz0 hkz0 hC1 ekz1 hkz1 hkc hsg
  obtain ⟨m0, m1⟩ := blk2 (alloc2_0 w (.cells #[.slice (some ⟨b, o, none⟩) n vc, .slice ra rn rc] 32) (.cells #[.int .i64 15, .string X, .slice (some ⟨kb, ko, none⟩) 2 kc] 67))
  obtain ⟨m5, m2, m3⟩ := blk3 (alloc2_1 w (.cells #[.slice (some ⟨b, o, none⟩) n vc, .slice ra rn rc] 32) (.cells #[.int .i64 15, .string X, .slice (some ⟨kb, ko, none⟩) 2 kc] 67))
  have hb0 := below2 w (.cells #[.slice (some ⟨b, o, none⟩) n vc, .slice ra rn rc] 32) (.cells #[.int .i64 15, .string X, .slice (some ⟨kb, ko, none⟩) 2 kc] 67)
  have hsz0 : ((w.alloc (.cells #[.slice (some ⟨b, o, none⟩) n vc, .slice ra rn rc] 32)).alloc (.cells #[.int .i64 15, .string X, .slice (some ⟨kb, ko, none⟩) 2 kc] 67)).heap.size = w.heap.size + 2 := by simp
  have m4 := (hb0.cell hkb).trans q0
  have m6 := (hb0.cell hkb).trans q1
  have e7 := heap_alloc_new ((w.alloc (.cells #[.slice (some ⟨b, o, none⟩) n vc, .slice ra rn rc] 32)).alloc (.cells #[.int .i64 15, .string X, .slice (some ⟨kb, ko, none⟩) 2 kc] 67)) (.cells #[.string ⟨#[43]⟩, .string ⟨#[45]⟩, .string ⟨#[42]⟩, .string ⟨#[37]⟩, .string ⟨#[46]⟩, .string ⟨#[60]⟩, .string ⟨#[61, 61]⟩] 9)
  rw [hsz0] at e7
  have m7 : (((w.alloc (.cells #[.slice (some ⟨b, o, none⟩) n vc, .slice ra rn rc] 32)).alloc (.cells #[.int .i64 15, .string X, .slice (some ⟨kb, ko, none⟩) 2 kc] 67)).alloc (.cells #[.string ⟨#[43]⟩, .string ⟨#[45]⟩, .string ⟨#[42]⟩, .string ⟨#[37]⟩, .string ⟨#[46]⟩, .string ⟨#[60]⟩, .string ⟨#[61, 61]⟩] 9)).cell? ⟨w.heap.size + 2, 6, none⟩ = some (.string ⟨#[61, 61]⟩) := by rw [blk_cell e7]; rfl
  have hb1 : Below w.heap.size w (((w.alloc (.cells #[.slice (some ⟨b, o, none⟩) n vc, .slice ra rn rc] 32)).alloc (.cells #[.int .i64 15, .string X, .slice (some ⟨kb, ko, none⟩) 2 kc] 67)).alloc (.cells #[.string ⟨#[43]⟩, .string ⟨#[45]⟩, .string ⟨#[42]⟩, .string ⟨#[37]⟩, .string ⟨#[46]⟩, .string ⟨#[60]⟩, .string ⟨#[61, 61]⟩] 9)) := hb0.alloc hb0.size _
  replace m0 := cell_alloc (.cells #[.string ⟨#[43]⟩, .string ⟨#[45]⟩, .string ⟨#[42]⟩, .string ⟨#[37]⟩, .string ⟨#[46]⟩, .string ⟨#[60]⟩, .string ⟨#[61, 61]⟩] 9) m0
  replace m1 := cell_alloc (.cells #[.string ⟨#[43]⟩, .string ⟨#[45]⟩, .string ⟨#[42]⟩, .string ⟨#[37]⟩, .string ⟨#[46]⟩, .string ⟨#[60]⟩, .string ⟨#[61, 61]⟩] 9) m1
  replace m3 := cell_alloc (.cells #[.string ⟨#[43]⟩, .string ⟨#[45]⟩, .string ⟨#[42]⟩, .string ⟨#[37]⟩, .string ⟨#[46]⟩, .string ⟨#[60]⟩, .string ⟨#[61, 61]⟩] 9) m3
  replace m4 := cell_alloc (.cells #[.string ⟨#[43]⟩, .string ⟨#[45]⟩, .string ⟨#[42]⟩, .string ⟨#[37]⟩, .string ⟨#[46]⟩, .string ⟨#[60]⟩, .string ⟨#[61, 61]⟩] 9) m4
  replace m5 := cell_alloc (.cells #[.string ⟨#[43]⟩, .string ⟨#[45]⟩, .string ⟨#[42]⟩, .string ⟨#[37]⟩, .string ⟨#[46]⟩, .string ⟨#[60]⟩, .string ⟨#[61, 61]⟩] 9) m5
  replace m6 := cell_alloc (.cells #[.string ⟨#[43]⟩, .string ⟨#[45]⟩, .string ⟨#[42]⟩, .string ⟨#[37]⟩, .string ⟨#[46]⟩, .string ⟨#[60]⟩, .string ⟨#[61, 61]⟩] 9) m6
  have HB0 : Hid _ := hb1
  clear hb0 hb1 hsz0 e7 m2
  have HD0 : Hid (∀ W, (W.cell? ⟨w.heap.size, 0, none⟩ = some (.slice (some ⟨b, o, none⟩) n vc) ∧ W.cell? ⟨w.heap.size, 1, none⟩ = some (.slice ra rn rc) ∧ W.cell? ⟨w.heap.size + 1, 0, none⟩ = some (.int .i64 15) ∧ W.cell? ⟨w.heap.size + 1, 2, none⟩ = some (.slice (some ⟨kb, ko, none⟩) 2 kc) ∧ W.cell? ⟨kb, ko, none⟩ = some (.int .i64 Z0) ∧ W.cell? ⟨kb, ko + 1, none⟩ = some (.int .i64 Z1) ∧ W.cell? ⟨w.heap.size + 2, 6, none⟩ = some (.string ⟨#[61, 61]⟩) ∧ Hid (Below w.heap.size w W)) → Calls Tryz.prog 13 #[.agg #[.slice (some ⟨b, o, none⟩) n vc, .slice ra rn rc], .int .i64 Z0] W fun e w' => e = .returned (.string ⟨E0.toArray⟩) ∧ Below W.heap.size W w') := fun W h => HC0.out W h.2.2.2.2.2.2.2.out
  have HD1 : Hid (∀ W, (W.cell? ⟨w.heap.size, 0, none⟩ = some (.slice (some ⟨b, o, none⟩) n vc) ∧ W.cell? ⟨w.heap.size, 1, none⟩ = some (.slice ra rn rc) ∧ W.cell? ⟨w.heap.size + 1, 0, none⟩ = some (.int .i64 15) ∧ W.cell? ⟨w.heap.size + 1, 2, none⟩ = some (.slice (some ⟨kb, ko, none⟩) 2 kc) ∧ W.cell? ⟨kb, ko, none⟩ = some (.int .i64 Z0) ∧ W.cell? ⟨kb, ko + 1, none⟩ = some (.int .i64 Z1) ∧ W.cell? ⟨w.heap.size + 2, 6, none⟩ = some (.string ⟨#[61, 61]⟩) ∧ Hid (Below w.heap.size w W)) → Calls Tryz.prog 13 #[.agg #[.slice (some ⟨b, o, none⟩) n vc, .slice ra rn rc], .int .i64 Z1] W fun e w' => e = .returned (.string ⟨E1.toArray⟩) ∧ Below W.heap.size W w') := fun W h => HC1.out W h.2.2.2.2.2.2.2.out
  go_enter Tryz.func13, Tryz.ntmps13
  go_wp2_with fail
  generalize ((w.alloc (.cells #[.slice (some ⟨b, o, none⟩) n vc, .slice ra rn rc] 32)).alloc (.cells #[.int .i64 15, .string X, .slice (some ⟨kb, ko, none⟩) 2 kc] 67)).alloc (.cells #[.string ⟨#[43]⟩, .string ⟨#[45]⟩, .string ⟨#[42]⟩, .string ⟨#[37]⟩, .string ⟨#[46]⟩, .string ⟨#[60]⟩, .string ⟨#[61, 61]⟩] 9) = W2 at *
  clear HC0 HC1 p0 p1 p2 q0 q1
  have wz : IntKind.i64.wrap 6 = 6 := by rfl
  go_region_held3 (fun W => W.cell? ⟨w.heap.size, 0, none⟩ = some (.slice (some ⟨b, o, none⟩) n vc) ∧ W.cell? ⟨w.heap.size, 1, none⟩ = some (.slice ra rn rc) ∧ W.cell? ⟨w.heap.size + 1, 0, none⟩ = some (.int .i64 15) ∧ W.cell? ⟨w.heap.size + 1, 2, none⟩ = some (.slice (some ⟨kb, ko, none⟩) 2 kc) ∧ W.cell? ⟨kb, ko, none⟩ = some (.int .i64 Z0) ∧ W.cell? ⟨kb, ko + 1, none⟩ = some (.int .i64 Z1) ∧ W.cell? ⟨w.heap.size + 2, 6, none⟩ = some (.string ⟨#[61, 61]⟩) ∧ Hid (Below w.heap.size w W)) (first | exact keep7 hb3 (keep7 hb2 (by assumption)) | exact keep7 hb3 (by assumption) | exact keep7 hb2 (by assumption) | exact ⟨m0, m1, m5, m3, m4, m6, m7, HB0.out.drew⟩ | assumption) (first | (go_at_call_of 13 (Value.int IntKind.i64 Z0); refine (HD0.out _ (by assumption)).mono ?_; rintro e a2 ⟨rfl, hb2⟩) | (go_at_call_of 13 (Value.int IntKind.i64 Z1); refine (HD1.out _ (by assumption)).mono ?_; rintro e a3 ⟨rfl, hb3⟩))
  all_goals
    have hbf : Below w.heap.size w a3 := HB0.out.drew.trans ((hb2.trans (hb3.mono hb2.size)).mono HB0.out.size)
    go_wp2
    go_ret
    refine ⟨?_, hbf⟩
    apply congrArg Ending.returned
    apply congrArg Value.string
    apply ByteArray.ext
    simp
end Go.Proofs.YtknojhmnadmilaaGreatDoor
