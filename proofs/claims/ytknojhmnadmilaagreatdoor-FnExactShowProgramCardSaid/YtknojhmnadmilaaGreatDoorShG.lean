/- What is shown of a statement, case by case. -/
import Derived.Test.YtknojhmnadmilaaGreatDoorZam
import Derived.Deep.RegionWith
namespace Go.Proofs.YtknojhmnadmilaaGreatDoor
open Go.RowKit

namespace Sh
def exC (ps : List Pi) (k : Nat) : List UInt8 := ex ps (k + 1) k
/-- Texts with a text between. -/
def sep (s : List UInt8) : List (List UInt8) → List UInt8
  | [] => []
  | [a] => a
  | a :: b :: r => a ++ s ++ sep s (b :: r)
def st (ps : List Pi) : Nat → Nat → List UInt8
  | 0, _ => []
  | f + 1, i =>
    if (ps.getD i Pi.no).op = 17 then [112, 114, 105, 110, 116, 32] ++ sep [44, 32] ((ps.getD i Pi.no).kids.map fun k => exC ps k.toNat)
    else if (ps.getD i Pi.no).op = 18 then (ps.getD i Pi.no).text.data.toList ++ [32, 61, 32] ++ exC ps (kid (ps.getD i Pi.no) 0)
    else if (ps.getD i Pi.no).op = 19 then (ps.getD i Pi.no).text.data.toList ++ [32, 43, 61, 32] ++ exC ps (kid (ps.getD i Pi.no) 0)
    else if (ps.getD i Pi.no).op = 20 then (ps.getD i Pi.no).text.data.toList ++ [91] ++ exC ps (kid (ps.getD i Pi.no) 0) ++ [93, 32, 61, 32] ++ exC ps (kid (ps.getD i Pi.no) 1)
    else if (ps.getD i Pi.no).op = 21 then (ps.getD i Pi.no).text.data.toList ++ [91] ++ exC ps (kid (ps.getD i Pi.no) 0) ++ [93, 32, 43, 61, 32] ++ exC ps (kid (ps.getD i Pi.no) 1)
    else if (ps.getD i Pi.no).op = 22 then [105, 102, 32, 40] ++ exC ps (kid (ps.getD i Pi.no) 0) ++ [41, 32] ++ st ps f (kid (ps.getD i Pi.no) 1) ++ (if 2 < (ps.getD i Pi.no).kids.length then [32, 101, 108, 115, 101, 32] ++ st ps f (kid (ps.getD i Pi.no) 2) else [])
    else if (ps.getD i Pi.no).op = 23 then [110, 101, 120, 116]
    else if (ps.getD i Pi.no).op = 25 then [100, 117, 109, 112, 32] ++ (ps.getD i Pi.no).text.data.toList
    else [123, 32] ++ sep [59, 32] ((ps.getD i Pi.no).kids.map fun k => st ps f k.toNat) ++ (if 0 < (ps.getD i Pi.no).kids.length then [32] else []) ++ [125]
end Sh
theorem keep6 {w0 w a2 : World} {p1 p2 p3 p4 p5 p6 : Addr} {x1 x2 x3 x4 x5 x6 : Value} (hb : Below w.heap.size w a2) (h : w.cell? p1 = some x1 ∧ w.cell? p2 = some x2 ∧ w.cell? p3 = some x3 ∧ w.cell? p4 = some x4 ∧ w.cell? p5 = some x5 ∧ w.cell? p6 = some x6 ∧ Hid (Below w0.heap.size w0 w)) : a2.cell? p1 = some x1 ∧ a2.cell? p2 = some x2 ∧ a2.cell? p3 = some x3 ∧ a2.cell? p4 = some x4 ∧ a2.cell? p5 = some x5 ∧ a2.cell? p6 = some x6 ∧ Hid (Below w0.heap.size w0 a2) := by
  obtain ⟨h1, h2, h3, h4, h5, h6, h8⟩ := h
  have k : ∀ {p : Addr} {x : Value}, w.cell? p = some x → a2.cell? p = some x := fun h => (hb.cell (World.block_lt_of_cell? w _ h)).trans h
  exact ⟨k h1, k h2, k h3, k h4, k h5, k h6, h8.out.trans (hb.mono h8.out.size)⟩
set_option maxRecDepth 100000 in
set_option maxHeartbeats 4000000 in
theorem showSt_set (v : Value) (ps : List Pi) (ra : Option Addr) (rn rc i : Nat) (w : World) (h : PcsAt w v ps) (hi : i < ps.length) (hl : ps.length ≤ 200) (hop : (ps.getD i Pi.no).op = 18) (hk : (ps.getD i Pi.no).kids.length = 1) (hkz0 : 0 ≤ (ps.getD i Pi.no).kids.getD 0 0) (hC0 : ∀ W, Below w.heap.size w W → Calls Tryz.prog 13 #[.agg #[v, .slice ra rn rc], .int .i64 (Sh.kid (ps.getD i Pi.no) 0 : Int)] W fun e w' => e = .returned (.string ⟨(Sh.exC ps (Sh.kid (ps.getD i Pi.no) 0)).toArray⟩) ∧ Below W.heap.size W w') (htl : (Sh.st ps (i + 1) i).length ≤ 1000000) :
    Calls Tryz.prog 14 #[.agg #[v, .slice ra rn rc], .int .i64 (i : Int)] w fun e w' => e = .returned (.string ⟨(Sh.st ps (i + 1) i).toArray⟩) ∧ Below w.heap.size w w' := by
  obtain ⟨va, vc, rfl, f⟩ := h
  obtain ⟨b, o, rfl, hb, hp⟩ := f (by omega)
  obtain ⟨kv, p0, p1, p2, ka, kc, rfl, fk⟩ := hp i hi
  obtain ⟨kb, ko, rfl, hkb, hkc⟩ := fk (by omega)
  have q0 := hkc 0 (by omega)
  rw [Nat.add_zero] at q0
  rw [hk] at p2
  rw [hop] at p0
  have i1 : (i : Int) < (ps.length : Int) := by omega
  have hE : Sh.st ps (i + 1) i = (ps.getD i Pi.no).text.data.toList ++ [32, 61, 32] ++ Sh.exC ps (Sh.kid (ps.getD i Pi.no) 0) := by
    rw [Sh.st, if_neg (by rw [hop]; decide), if_pos hop]
  rw [hE] at htl ⊢
  generalize (Sh.exC ps (Sh.kid (ps.getD i Pi.no) 0)) = E0 at *
  have ekz0 : ((Sh.kid (ps.getD i Pi.no) 0 : Nat) : Int) = (ps.getD i Pi.no).kids.getD 0 0 := by unfold Sh.kid; omega
  rw [ekz0] at hC0
  generalize (ps.getD i Pi.no).text = X at *
  generalize (ps.getD i Pi.no).kids.getD 0 0 = Z0 at *
  have hXe : X.data.toList.length = X.size := by simp
  simp only [List.length_append, List.length_cons, List.length_nil, hXe] at htl
  have n0 : ¬ 9223372036854775807 < X.size + 3 := by omega
  have n1 : ¬ 9223372036854775807 < X.size + 3 + E0.length := by omega
  have HC0 : Hid (∀ W, Below w.heap.size w W → Calls Tryz.prog 13 #[.agg #[.slice (some ⟨b, o, none⟩) ps.length vc, .slice ra rn rc], .int .i64 Z0] W fun e w' => e = .returned (.string ⟨E0.toArray⟩) ∧ Below W.heap.size W w') := hC0
  generalize ps.length = n at *
  clear hp fk f hop hk hE htl hXe hC0 ekz0 hkz0 hkc
  obtain ⟨m0, m1⟩ := blk2 (alloc2_0 w (.cells #[.slice (some ⟨b, o, none⟩) n vc, .slice ra rn rc] 32) (.cells #[.int .i64 18, .string X, .slice (some ⟨kb, ko, none⟩) 1 kc] 67))
  obtain ⟨m5, m2, m3⟩ := blk3 (alloc2_1 w (.cells #[.slice (some ⟨b, o, none⟩) n vc, .slice ra rn rc] 32) (.cells #[.int .i64 18, .string X, .slice (some ⟨kb, ko, none⟩) 1 kc] 67))
  have hb0 := below2 w (.cells #[.slice (some ⟨b, o, none⟩) n vc, .slice ra rn rc] 32) (.cells #[.int .i64 18, .string X, .slice (some ⟨kb, ko, none⟩) 1 kc] 67)
  have m4 := (hb0.cell hkb).trans q0
  have HB0 : Hid _ := hb0
  clear hb0
  have HD0 : Hid (∀ W, (W.cell? ⟨w.heap.size, 0, none⟩ = some (.slice (some ⟨b, o, none⟩) n vc) ∧ W.cell? ⟨w.heap.size, 1, none⟩ = some (.slice ra rn rc) ∧ W.cell? ⟨w.heap.size + 1, 1, none⟩ = some (.string X) ∧ W.cell? ⟨w.heap.size + 1, 2, none⟩ = some (.slice (some ⟨kb, ko, none⟩) 1 kc) ∧ W.cell? ⟨kb, ko, none⟩ = some (.int .i64 Z0) ∧ Hid (Below w.heap.size w W)) → Calls Tryz.prog 13 #[.agg #[.slice (some ⟨b, o, none⟩) n vc, .slice ra rn rc], .int .i64 Z0] W fun e w' => e = .returned (.string ⟨E0.toArray⟩) ∧ Below W.heap.size W w') := fun W h => HC0.out W h.2.2.2.2.2.out
  go_enter Tryz.func14, Tryz.ntmps14
  go_wp2_with fail
  generalize (w.alloc (.cells #[.slice (some ⟨b, o, none⟩) n vc, .slice ra rn rc] 32)).alloc (.cells #[.int .i64 18, .string X, .slice (some ⟨kb, ko, none⟩) 1 kc] 67) = W2 at *
  clear HC0 p0 p1 p2 q0
  go_region_held3 (fun W => W.cell? ⟨w.heap.size, 0, none⟩ = some (.slice (some ⟨b, o, none⟩) n vc) ∧ W.cell? ⟨w.heap.size, 1, none⟩ = some (.slice ra rn rc) ∧ W.cell? ⟨w.heap.size + 1, 1, none⟩ = some (.string X) ∧ W.cell? ⟨w.heap.size + 1, 2, none⟩ = some (.slice (some ⟨kb, ko, none⟩) 1 kc) ∧ W.cell? ⟨kb, ko, none⟩ = some (.int .i64 Z0) ∧ Hid (Below w.heap.size w W)) (first | exact keep5 hb2 (by assumption) | exact ⟨m0, m1, m2, m3, m4, HB0.out.drew⟩ | assumption) ((go_at_call 13; refine (HD0.out _ (by assumption)).mono ?_; rintro e a2 ⟨rfl, hb2⟩))
  have hbf : Below w.heap.size w a2 := HB0.out.drew.trans (hb2.mono HB0.out.size)
  go_wp2
  go_ret
  refine ⟨?_, hbf⟩
  apply congrArg Ending.returned
  apply congrArg Value.string
  apply ByteArray.ext
  simp
set_option maxRecDepth 100000 in
set_option maxHeartbeats 4000000 in
theorem showSt_add (v : Value) (ps : List Pi) (ra : Option Addr) (rn rc i : Nat) (w : World) (h : PcsAt w v ps) (hi : i < ps.length) (hl : ps.length ≤ 200) (hop : (ps.getD i Pi.no).op = 19) (hk : (ps.getD i Pi.no).kids.length = 1) (hkz0 : 0 ≤ (ps.getD i Pi.no).kids.getD 0 0) (hC0 : ∀ W, Below w.heap.size w W → Calls Tryz.prog 13 #[.agg #[v, .slice ra rn rc], .int .i64 (Sh.kid (ps.getD i Pi.no) 0 : Int)] W fun e w' => e = .returned (.string ⟨(Sh.exC ps (Sh.kid (ps.getD i Pi.no) 0)).toArray⟩) ∧ Below W.heap.size W w') (htl : (Sh.st ps (i + 1) i).length ≤ 1000000) :
    Calls Tryz.prog 14 #[.agg #[v, .slice ra rn rc], .int .i64 (i : Int)] w fun e w' => e = .returned (.string ⟨(Sh.st ps (i + 1) i).toArray⟩) ∧ Below w.heap.size w w' := by
  obtain ⟨va, vc, rfl, f⟩ := h
  obtain ⟨b, o, rfl, hb, hp⟩ := f (by omega)
  obtain ⟨kv, p0, p1, p2, ka, kc, rfl, fk⟩ := hp i hi
  obtain ⟨kb, ko, rfl, hkb, hkc⟩ := fk (by omega)
  have q0 := hkc 0 (by omega)
  rw [Nat.add_zero] at q0
  rw [hk] at p2
  rw [hop] at p0
  have i1 : (i : Int) < (ps.length : Int) := by omega
  have hE : Sh.st ps (i + 1) i = (ps.getD i Pi.no).text.data.toList ++ [32, 43, 61, 32] ++ Sh.exC ps (Sh.kid (ps.getD i Pi.no) 0) := by
    rw [Sh.st, if_neg (by rw [hop]; decide), if_neg (by rw [hop]; decide), if_pos hop]
  rw [hE] at htl ⊢
  generalize (Sh.exC ps (Sh.kid (ps.getD i Pi.no) 0)) = E0 at *
  have ekz0 : ((Sh.kid (ps.getD i Pi.no) 0 : Nat) : Int) = (ps.getD i Pi.no).kids.getD 0 0 := by unfold Sh.kid; omega
  rw [ekz0] at hC0
  generalize (ps.getD i Pi.no).text = X at *
  generalize (ps.getD i Pi.no).kids.getD 0 0 = Z0 at *
  have hXe : X.data.toList.length = X.size := by simp
  simp only [List.length_append, List.length_cons, List.length_nil, hXe] at htl
  have n0 : ¬ 9223372036854775807 < X.size + 4 := by omega
  have n1 : ¬ 9223372036854775807 < X.size + 4 + E0.length := by omega
  have HC0 : Hid (∀ W, Below w.heap.size w W → Calls Tryz.prog 13 #[.agg #[.slice (some ⟨b, o, none⟩) ps.length vc, .slice ra rn rc], .int .i64 Z0] W fun e w' => e = .returned (.string ⟨E0.toArray⟩) ∧ Below W.heap.size W w') := hC0
  generalize ps.length = n at *
  clear hp fk f hop hk hE htl hXe hC0 ekz0 hkz0 hkc
  obtain ⟨m0, m1⟩ := blk2 (alloc2_0 w (.cells #[.slice (some ⟨b, o, none⟩) n vc, .slice ra rn rc] 32) (.cells #[.int .i64 19, .string X, .slice (some ⟨kb, ko, none⟩) 1 kc] 67))
  obtain ⟨m5, m2, m3⟩ := blk3 (alloc2_1 w (.cells #[.slice (some ⟨b, o, none⟩) n vc, .slice ra rn rc] 32) (.cells #[.int .i64 19, .string X, .slice (some ⟨kb, ko, none⟩) 1 kc] 67))
  have hb0 := below2 w (.cells #[.slice (some ⟨b, o, none⟩) n vc, .slice ra rn rc] 32) (.cells #[.int .i64 19, .string X, .slice (some ⟨kb, ko, none⟩) 1 kc] 67)
  have m4 := (hb0.cell hkb).trans q0
  have HB0 : Hid _ := hb0
  clear hb0
  have HD0 : Hid (∀ W, (W.cell? ⟨w.heap.size, 0, none⟩ = some (.slice (some ⟨b, o, none⟩) n vc) ∧ W.cell? ⟨w.heap.size, 1, none⟩ = some (.slice ra rn rc) ∧ W.cell? ⟨w.heap.size + 1, 1, none⟩ = some (.string X) ∧ W.cell? ⟨w.heap.size + 1, 2, none⟩ = some (.slice (some ⟨kb, ko, none⟩) 1 kc) ∧ W.cell? ⟨kb, ko, none⟩ = some (.int .i64 Z0) ∧ Hid (Below w.heap.size w W)) → Calls Tryz.prog 13 #[.agg #[.slice (some ⟨b, o, none⟩) n vc, .slice ra rn rc], .int .i64 Z0] W fun e w' => e = .returned (.string ⟨E0.toArray⟩) ∧ Below W.heap.size W w') := fun W h => HC0.out W h.2.2.2.2.2.out
  go_enter Tryz.func14, Tryz.ntmps14
  go_wp2_with fail
  generalize (w.alloc (.cells #[.slice (some ⟨b, o, none⟩) n vc, .slice ra rn rc] 32)).alloc (.cells #[.int .i64 19, .string X, .slice (some ⟨kb, ko, none⟩) 1 kc] 67) = W2 at *
  clear HC0 p0 p1 p2 q0
  go_region_held3 (fun W => W.cell? ⟨w.heap.size, 0, none⟩ = some (.slice (some ⟨b, o, none⟩) n vc) ∧ W.cell? ⟨w.heap.size, 1, none⟩ = some (.slice ra rn rc) ∧ W.cell? ⟨w.heap.size + 1, 1, none⟩ = some (.string X) ∧ W.cell? ⟨w.heap.size + 1, 2, none⟩ = some (.slice (some ⟨kb, ko, none⟩) 1 kc) ∧ W.cell? ⟨kb, ko, none⟩ = some (.int .i64 Z0) ∧ Hid (Below w.heap.size w W)) (first | exact keep5 hb2 (by assumption) | exact ⟨m0, m1, m2, m3, m4, HB0.out.drew⟩ | assumption) ((go_at_call 13; refine (HD0.out _ (by assumption)).mono ?_; rintro e a2 ⟨rfl, hb2⟩))
  have hbf : Below w.heap.size w a2 := HB0.out.drew.trans (hb2.mono HB0.out.size)
  go_wp2
  go_ret
  refine ⟨?_, hbf⟩
  apply congrArg Ending.returned
  apply congrArg Value.string
  apply ByteArray.ext
  simp
set_option maxRecDepth 100000 in
set_option maxHeartbeats 4000000 in
theorem showSt_setCell (v : Value) (ps : List Pi) (ra : Option Addr) (rn rc i : Nat) (w : World) (h : PcsAt w v ps) (hi : i < ps.length) (hl : ps.length ≤ 200) (hop : (ps.getD i Pi.no).op = 20) (hk : (ps.getD i Pi.no).kids.length = 2) (hkz0 : 0 ≤ (ps.getD i Pi.no).kids.getD 0 0) (hC0 : ∀ W, Below w.heap.size w W → Calls Tryz.prog 13 #[.agg #[v, .slice ra rn rc], .int .i64 (Sh.kid (ps.getD i Pi.no) 0 : Int)] W fun e w' => e = .returned (.string ⟨(Sh.exC ps (Sh.kid (ps.getD i Pi.no) 0)).toArray⟩) ∧ Below W.heap.size W w') (hkz1 : 0 ≤ (ps.getD i Pi.no).kids.getD 1 0) (hC1 : ∀ W, Below w.heap.size w W → Calls Tryz.prog 13 #[.agg #[v, .slice ra rn rc], .int .i64 (Sh.kid (ps.getD i Pi.no) 1 : Int)] W fun e w' => e = .returned (.string ⟨(Sh.exC ps (Sh.kid (ps.getD i Pi.no) 1)).toArray⟩) ∧ Below W.heap.size W w') (htl : (Sh.st ps (i + 1) i).length ≤ 1000000) :
    Calls Tryz.prog 14 #[.agg #[v, .slice ra rn rc], .int .i64 (i : Int)] w fun e w' => e = .returned (.string ⟨(Sh.st ps (i + 1) i).toArray⟩) ∧ Below w.heap.size w w' := by
  obtain ⟨va, vc, rfl, f⟩ := h
  obtain ⟨b, o, rfl, hb, hp⟩ := f (by omega)
  obtain ⟨kv, p0, p1, p2, ka, kc, rfl, fk⟩ := hp i hi
  obtain ⟨kb, ko, rfl, hkb, hkc⟩ := fk (by omega)
  have q0 := hkc 0 (by omega)
  rw [Nat.add_zero] at q0
  have q1 := hkc 1 (by omega)
  rw [hk] at p2
  rw [hop] at p0
  have i1 : (i : Int) < (ps.length : Int) := by omega
  have hE : Sh.st ps (i + 1) i = (ps.getD i Pi.no).text.data.toList ++ [91] ++ Sh.exC ps (Sh.kid (ps.getD i Pi.no) 0) ++ [93, 32, 61, 32] ++ Sh.exC ps (Sh.kid (ps.getD i Pi.no) 1) := by
    rw [Sh.st, if_neg (by rw [hop]; decide), if_neg (by rw [hop]; decide), if_neg (by rw [hop]; decide), if_pos hop]
  rw [hE] at htl ⊢
  generalize (Sh.exC ps (Sh.kid (ps.getD i Pi.no) 0)) = E0 at *
  have ekz0 : ((Sh.kid (ps.getD i Pi.no) 0 : Nat) : Int) = (ps.getD i Pi.no).kids.getD 0 0 := by unfold Sh.kid; omega
  rw [ekz0] at hC0
  generalize (Sh.exC ps (Sh.kid (ps.getD i Pi.no) 1)) = E1 at *
  have ekz1 : ((Sh.kid (ps.getD i Pi.no) 1 : Nat) : Int) = (ps.getD i Pi.no).kids.getD 1 0 := by unfold Sh.kid; omega
  rw [ekz1] at hC1
  generalize (ps.getD i Pi.no).text = X at *
  generalize (ps.getD i Pi.no).kids.getD 0 0 = Z0 at *
  generalize (ps.getD i Pi.no).kids.getD 1 0 = Z1 at *
  have hXe : X.data.toList.length = X.size := by simp
  simp only [List.length_append, List.length_cons, List.length_nil, hXe] at htl
  have n0 : ¬ 9223372036854775807 < X.size + 1 := by omega
  have n1 : ¬ 9223372036854775807 < X.size + 1 + E0.length := by omega
  have n2 : ¬ 9223372036854775807 < X.size + 1 + E0.length + 4 := by omega
  have n3 : ¬ 9223372036854775807 < X.size + 1 + E0.length + 4 + E1.length := by omega
  have HC0 : Hid (∀ W, Below w.heap.size w W → Calls Tryz.prog 13 #[.agg #[.slice (some ⟨b, o, none⟩) ps.length vc, .slice ra rn rc], .int .i64 Z0] W fun e w' => e = .returned (.string ⟨E0.toArray⟩) ∧ Below W.heap.size W w') := hC0
  have HC1 : Hid (∀ W, Below w.heap.size w W → Calls Tryz.prog 13 #[.agg #[.slice (some ⟨b, o, none⟩) ps.length vc, .slice ra rn rc], .int .i64 Z1] W fun e w' => e = .returned (.string ⟨E1.toArray⟩) ∧ Below W.heap.size W w') := hC1
  generalize ps.length = n at *
  clear hp fk f hop hk hE htl hXe hC0 ekz0 hkz0 hC1 ekz1 hkz1 hkc
  obtain ⟨m0, m1⟩ := blk2 (alloc2_0 w (.cells #[.slice (some ⟨b, o, none⟩) n vc, .slice ra rn rc] 32) (.cells #[.int .i64 20, .string X, .slice (some ⟨kb, ko, none⟩) 2 kc] 67))
  obtain ⟨-, m2, m3⟩ := blk3 (alloc2_1 w (.cells #[.slice (some ⟨b, o, none⟩) n vc, .slice ra rn rc] 32) (.cells #[.int .i64 20, .string X, .slice (some ⟨kb, ko, none⟩) 2 kc] 67))
  have hb0 := below2 w (.cells #[.slice (some ⟨b, o, none⟩) n vc, .slice ra rn rc] 32) (.cells #[.int .i64 20, .string X, .slice (some ⟨kb, ko, none⟩) 2 kc] 67)
  have m4 := (hb0.cell hkb).trans q0
  have m6 := (hb0.cell hkb).trans q1
  have HB0 : Hid _ := hb0
  clear hb0
  have HD0 : Hid (∀ W, (W.cell? ⟨w.heap.size, 0, none⟩ = some (.slice (some ⟨b, o, none⟩) n vc) ∧ W.cell? ⟨w.heap.size, 1, none⟩ = some (.slice ra rn rc) ∧ W.cell? ⟨w.heap.size + 1, 1, none⟩ = some (.string X) ∧ W.cell? ⟨w.heap.size + 1, 2, none⟩ = some (.slice (some ⟨kb, ko, none⟩) 2 kc) ∧ W.cell? ⟨kb, ko, none⟩ = some (.int .i64 Z0) ∧ W.cell? ⟨kb, ko + 1, none⟩ = some (.int .i64 Z1) ∧ Hid (Below w.heap.size w W)) → Calls Tryz.prog 13 #[.agg #[.slice (some ⟨b, o, none⟩) n vc, .slice ra rn rc], .int .i64 Z0] W fun e w' => e = .returned (.string ⟨E0.toArray⟩) ∧ Below W.heap.size W w') := fun W h => HC0.out W h.2.2.2.2.2.2.out
  have HD1 : Hid (∀ W, (W.cell? ⟨w.heap.size, 0, none⟩ = some (.slice (some ⟨b, o, none⟩) n vc) ∧ W.cell? ⟨w.heap.size, 1, none⟩ = some (.slice ra rn rc) ∧ W.cell? ⟨w.heap.size + 1, 1, none⟩ = some (.string X) ∧ W.cell? ⟨w.heap.size + 1, 2, none⟩ = some (.slice (some ⟨kb, ko, none⟩) 2 kc) ∧ W.cell? ⟨kb, ko, none⟩ = some (.int .i64 Z0) ∧ W.cell? ⟨kb, ko + 1, none⟩ = some (.int .i64 Z1) ∧ Hid (Below w.heap.size w W)) → Calls Tryz.prog 13 #[.agg #[.slice (some ⟨b, o, none⟩) n vc, .slice ra rn rc], .int .i64 Z1] W fun e w' => e = .returned (.string ⟨E1.toArray⟩) ∧ Below W.heap.size W w') := fun W h => HC1.out W h.2.2.2.2.2.2.out
  go_enter Tryz.func14, Tryz.ntmps14
  go_wp2_with fail
  generalize (w.alloc (.cells #[.slice (some ⟨b, o, none⟩) n vc, .slice ra rn rc] 32)).alloc (.cells #[.int .i64 20, .string X, .slice (some ⟨kb, ko, none⟩) 2 kc] 67) = W2 at *
  clear HC0 HC1 p0 p1 p2 q0 q1
  go_region_held3 (fun W => W.cell? ⟨w.heap.size, 0, none⟩ = some (.slice (some ⟨b, o, none⟩) n vc) ∧ W.cell? ⟨w.heap.size, 1, none⟩ = some (.slice ra rn rc) ∧ W.cell? ⟨w.heap.size + 1, 1, none⟩ = some (.string X) ∧ W.cell? ⟨w.heap.size + 1, 2, none⟩ = some (.slice (some ⟨kb, ko, none⟩) 2 kc) ∧ W.cell? ⟨kb, ko, none⟩ = some (.int .i64 Z0) ∧ W.cell? ⟨kb, ko + 1, none⟩ = some (.int .i64 Z1) ∧ Hid (Below w.heap.size w W)) (first | exact keep6 hb3 (keep6 hb2 (by assumption)) | exact keep6 hb3 (by assumption) | exact keep6 hb2 (by assumption) | exact ⟨m0, m1, m2, m3, m4, m6, HB0.out.drew⟩ | assumption) (first | (go_at_call_of 13 (Value.int IntKind.i64 Z0); refine (HD0.out _ (by assumption)).mono ?_; rintro e a2 ⟨rfl, hb2⟩) | (go_at_call_of 13 (Value.int IntKind.i64 Z1); refine (HD1.out _ (by assumption)).mono ?_; rintro e a3 ⟨rfl, hb3⟩))
  all_goals
    have hbf : Below w.heap.size w a3 := HB0.out.drew.trans ((hb2.trans (hb3.mono hb2.size)).mono HB0.out.size)
    go_wp2
    go_ret
    refine ⟨?_, hbf⟩
    apply congrArg Ending.returned
    apply congrArg Value.string
    apply ByteArray.ext
    simp
set_option maxRecDepth 100000 in
set_option maxHeartbeats 4000000 in
theorem showSt_addCell (v : Value) (ps : List Pi) (ra : Option Addr) (rn rc i : Nat) (w : World) (h : PcsAt w v ps) (hi : i < ps.length) (hl : ps.length ≤ 200) (hop : (ps.getD i Pi.no).op = 21) (hk : (ps.getD i Pi.no).kids.length = 2) (hkz0 : 0 ≤ (ps.getD i Pi.no).kids.getD 0 0) (hC0 : ∀ W, Below w.heap.size w W → Calls Tryz.prog 13 #[.agg #[v, .slice ra rn rc], .int .i64 (Sh.kid (ps.getD i Pi.no) 0 : Int)] W fun e w' => e = .returned (.string ⟨(Sh.exC ps (Sh.kid (ps.getD i Pi.no) 0)).toArray⟩) ∧ Below W.heap.size W w') (hkz1 : 0 ≤ (ps.getD i Pi.no).kids.getD 1 0) (hC1 : ∀ W, Below w.heap.size w W → Calls Tryz.prog 13 #[.agg #[v, .slice ra rn rc], .int .i64 (Sh.kid (ps.getD i Pi.no) 1 : Int)] W fun e w' => e = .returned (.string ⟨(Sh.exC ps (Sh.kid (ps.getD i Pi.no) 1)).toArray⟩) ∧ Below W.heap.size W w') (htl : (Sh.st ps (i + 1) i).length ≤ 1000000) :
    Calls Tryz.prog 14 #[.agg #[v, .slice ra rn rc], .int .i64 (i : Int)] w fun e w' => e = .returned (.string ⟨(Sh.st ps (i + 1) i).toArray⟩) ∧ Below w.heap.size w w' := by
  obtain ⟨va, vc, rfl, f⟩ := h
  obtain ⟨b, o, rfl, hb, hp⟩ := f (by omega)
  obtain ⟨kv, p0, p1, p2, ka, kc, rfl, fk⟩ := hp i hi
  obtain ⟨kb, ko, rfl, hkb, hkc⟩ := fk (by omega)
  have q0 := hkc 0 (by omega)
  rw [Nat.add_zero] at q0
  have q1 := hkc 1 (by omega)
  rw [hk] at p2
  rw [hop] at p0
  have i1 : (i : Int) < (ps.length : Int) := by omega
  have hE : Sh.st ps (i + 1) i = (ps.getD i Pi.no).text.data.toList ++ [91] ++ Sh.exC ps (Sh.kid (ps.getD i Pi.no) 0) ++ [93, 32, 43, 61, 32] ++ Sh.exC ps (Sh.kid (ps.getD i Pi.no) 1) := by
    rw [Sh.st, if_neg (by rw [hop]; decide), if_neg (by rw [hop]; decide), if_neg (by rw [hop]; decide), if_neg (by rw [hop]; decide), if_pos hop]
  rw [hE] at htl ⊢
  generalize (Sh.exC ps (Sh.kid (ps.getD i Pi.no) 0)) = E0 at *
  have ekz0 : ((Sh.kid (ps.getD i Pi.no) 0 : Nat) : Int) = (ps.getD i Pi.no).kids.getD 0 0 := by unfold Sh.kid; omega
  rw [ekz0] at hC0
  generalize (Sh.exC ps (Sh.kid (ps.getD i Pi.no) 1)) = E1 at *
  have ekz1 : ((Sh.kid (ps.getD i Pi.no) 1 : Nat) : Int) = (ps.getD i Pi.no).kids.getD 1 0 := by unfold Sh.kid; omega
  rw [ekz1] at hC1
  generalize (ps.getD i Pi.no).text = X at *
  generalize (ps.getD i Pi.no).kids.getD 0 0 = Z0 at *
  generalize (ps.getD i Pi.no).kids.getD 1 0 = Z1 at *
  have hXe : X.data.toList.length = X.size := by simp
  simp only [List.length_append, List.length_cons, List.length_nil, hXe] at htl
  have n0 : ¬ 9223372036854775807 < X.size + 1 := by omega
  have n1 : ¬ 9223372036854775807 < X.size + 1 + E0.length := by omega
  have n2 : ¬ 9223372036854775807 < X.size + 1 + E0.length + 5 := by omega
  have n3 : ¬ 9223372036854775807 < X.size + 1 + E0.length + 5 + E1.length := by omega
  have HC0 : Hid (∀ W, Below w.heap.size w W → Calls Tryz.prog 13 #[.agg #[.slice (some ⟨b, o, none⟩) ps.length vc, .slice ra rn rc], .int .i64 Z0] W fun e w' => e = .returned (.string ⟨E0.toArray⟩) ∧ Below W.heap.size W w') := hC0
  have HC1 : Hid (∀ W, Below w.heap.size w W → Calls Tryz.prog 13 #[.agg #[.slice (some ⟨b, o, none⟩) ps.length vc, .slice ra rn rc], .int .i64 Z1] W fun e w' => e = .returned (.string ⟨E1.toArray⟩) ∧ Below W.heap.size W w') := hC1
  generalize ps.length = n at *
  clear hp fk f hop hk hE htl hXe hC0 ekz0 hkz0 hC1 ekz1 hkz1 hkc
  obtain ⟨m0, m1⟩ := blk2 (alloc2_0 w (.cells #[.slice (some ⟨b, o, none⟩) n vc, .slice ra rn rc] 32) (.cells #[.int .i64 21, .string X, .slice (some ⟨kb, ko, none⟩) 2 kc] 67))
  obtain ⟨-, m2, m3⟩ := blk3 (alloc2_1 w (.cells #[.slice (some ⟨b, o, none⟩) n vc, .slice ra rn rc] 32) (.cells #[.int .i64 21, .string X, .slice (some ⟨kb, ko, none⟩) 2 kc] 67))
  have hb0 := below2 w (.cells #[.slice (some ⟨b, o, none⟩) n vc, .slice ra rn rc] 32) (.cells #[.int .i64 21, .string X, .slice (some ⟨kb, ko, none⟩) 2 kc] 67)
  have m4 := (hb0.cell hkb).trans q0
  have m6 := (hb0.cell hkb).trans q1
  have HB0 : Hid _ := hb0
  clear hb0
  have HD0 : Hid (∀ W, (W.cell? ⟨w.heap.size, 0, none⟩ = some (.slice (some ⟨b, o, none⟩) n vc) ∧ W.cell? ⟨w.heap.size, 1, none⟩ = some (.slice ra rn rc) ∧ W.cell? ⟨w.heap.size + 1, 1, none⟩ = some (.string X) ∧ W.cell? ⟨w.heap.size + 1, 2, none⟩ = some (.slice (some ⟨kb, ko, none⟩) 2 kc) ∧ W.cell? ⟨kb, ko, none⟩ = some (.int .i64 Z0) ∧ W.cell? ⟨kb, ko + 1, none⟩ = some (.int .i64 Z1) ∧ Hid (Below w.heap.size w W)) → Calls Tryz.prog 13 #[.agg #[.slice (some ⟨b, o, none⟩) n vc, .slice ra rn rc], .int .i64 Z0] W fun e w' => e = .returned (.string ⟨E0.toArray⟩) ∧ Below W.heap.size W w') := fun W h => HC0.out W h.2.2.2.2.2.2.out
  have HD1 : Hid (∀ W, (W.cell? ⟨w.heap.size, 0, none⟩ = some (.slice (some ⟨b, o, none⟩) n vc) ∧ W.cell? ⟨w.heap.size, 1, none⟩ = some (.slice ra rn rc) ∧ W.cell? ⟨w.heap.size + 1, 1, none⟩ = some (.string X) ∧ W.cell? ⟨w.heap.size + 1, 2, none⟩ = some (.slice (some ⟨kb, ko, none⟩) 2 kc) ∧ W.cell? ⟨kb, ko, none⟩ = some (.int .i64 Z0) ∧ W.cell? ⟨kb, ko + 1, none⟩ = some (.int .i64 Z1) ∧ Hid (Below w.heap.size w W)) → Calls Tryz.prog 13 #[.agg #[.slice (some ⟨b, o, none⟩) n vc, .slice ra rn rc], .int .i64 Z1] W fun e w' => e = .returned (.string ⟨E1.toArray⟩) ∧ Below W.heap.size W w') := fun W h => HC1.out W h.2.2.2.2.2.2.out
  go_enter Tryz.func14, Tryz.ntmps14
  go_wp2_with fail
  generalize (w.alloc (.cells #[.slice (some ⟨b, o, none⟩) n vc, .slice ra rn rc] 32)).alloc (.cells #[.int .i64 21, .string X, .slice (some ⟨kb, ko, none⟩) 2 kc] 67) = W2 at *
  clear HC0 HC1 p0 p1 p2 q0 q1
  go_region_held3 (fun W => W.cell? ⟨w.heap.size, 0, none⟩ = some (.slice (some ⟨b, o, none⟩) n vc) ∧ W.cell? ⟨w.heap.size, 1, none⟩ = some (.slice ra rn rc) ∧ W.cell? ⟨w.heap.size + 1, 1, none⟩ = some (.string X) ∧ W.cell? ⟨w.heap.size + 1, 2, none⟩ = some (.slice (some ⟨kb, ko, none⟩) 2 kc) ∧ W.cell? ⟨kb, ko, none⟩ = some (.int .i64 Z0) ∧ W.cell? ⟨kb, ko + 1, none⟩ = some (.int .i64 Z1) ∧ Hid (Below w.heap.size w W)) (first | exact keep6 hb3 (keep6 hb2 (by assumption)) | exact keep6 hb3 (by assumption) | exact keep6 hb2 (by assumption) | exact ⟨m0, m1, m2, m3, m4, m6, HB0.out.drew⟩ | assumption) (first | (go_at_call_of 13 (Value.int IntKind.i64 Z0); refine (HD0.out _ (by assumption)).mono ?_; rintro e a2 ⟨rfl, hb2⟩) | (go_at_call_of 13 (Value.int IntKind.i64 Z1); refine (HD1.out _ (by assumption)).mono ?_; rintro e a3 ⟨rfl, hb3⟩))
  all_goals
    have hbf : Below w.heap.size w a3 := HB0.out.drew.trans ((hb2.trans (hb3.mono hb2.size)).mono HB0.out.size)
    go_wp2
    go_ret
    refine ⟨?_, hbf⟩
    apply congrArg Ending.returned
    apply congrArg Value.string
    apply ByteArray.ext
    simp
set_option maxRecDepth 100000 in
set_option maxHeartbeats 4000000 in
theorem showSt_next (v : Value) (ps : List Pi) (ra : Option Addr) (rn rc i : Nat) (w : World) (h : PcsAt w v ps) (hi : i < ps.length) (hl : ps.length ≤ 200) (hop : (ps.getD i Pi.no).op = 23) (hk : (ps.getD i Pi.no).kids.length = 0) :
    Calls Tryz.prog 14 #[.agg #[v, .slice ra rn rc], .int .i64 (i : Int)] w fun e w' => e = .returned (.string ⟨(Sh.st ps (i + 1) i).toArray⟩) ∧ Below w.heap.size w w' := by
  obtain ⟨va, vc, rfl, f⟩ := h
  obtain ⟨b, o, rfl, hb, hp⟩ := f (by omega)
  obtain ⟨kv, p0, p1, p2, ka, kc, rfl, fk⟩ := hp i hi
  rw [hk] at p2
  rw [hop] at p0
  have i1 : (i : Int) < (ps.length : Int) := by omega
  have hE : Sh.st ps (i + 1) i = [110, 101, 120, 116] := by
    rw [Sh.st, if_neg (by rw [hop]; decide), if_neg (by rw [hop]; decide), if_neg (by rw [hop]; decide), if_neg (by rw [hop]; decide), if_neg (by rw [hop]; decide), if_neg (by rw [hop]; decide), if_pos hop]
  rw [hE]
  generalize (ps.getD i Pi.no).text = X at *
  generalize ps.length = n at *
  clear hp fk f hop hk hE
  go_enter Tryz.func14, Tryz.ntmps14
  go_wp2
  go_ret
  refine ⟨?_, below2 _ _ _⟩
  apply congrArg Ending.returned
  apply congrArg Value.string
  apply ByteArray.ext
  simp
set_option maxRecDepth 100000 in
set_option maxHeartbeats 4000000 in
theorem showSt_dump (v : Value) (ps : List Pi) (ra : Option Addr) (rn rc i : Nat) (w : World) (h : PcsAt w v ps) (hi : i < ps.length) (hl : ps.length ≤ 200) (hop : (ps.getD i Pi.no).op = 25) (hk : (ps.getD i Pi.no).kids.length = 0) (htl : (Sh.st ps (i + 1) i).length ≤ 1000000) :
    Calls Tryz.prog 14 #[.agg #[v, .slice ra rn rc], .int .i64 (i : Int)] w fun e w' => e = .returned (.string ⟨(Sh.st ps (i + 1) i).toArray⟩) ∧ Below w.heap.size w w' := by
  obtain ⟨va, vc, rfl, f⟩ := h
  obtain ⟨b, o, rfl, hb, hp⟩ := f (by omega)
  obtain ⟨kv, p0, p1, p2, ka, kc, rfl, fk⟩ := hp i hi
  rw [hk] at p2
  rw [hop] at p0
  have i1 : (i : Int) < (ps.length : Int) := by omega
  have hE : Sh.st ps (i + 1) i = [100, 117, 109, 112, 32] ++ (ps.getD i Pi.no).text.data.toList := by
    rw [Sh.st, if_neg (by rw [hop]; decide), if_neg (by rw [hop]; decide), if_neg (by rw [hop]; decide), if_neg (by rw [hop]; decide), if_neg (by rw [hop]; decide), if_neg (by rw [hop]; decide), if_neg (by rw [hop]; decide), if_pos hop]
  rw [hE] at htl ⊢
  generalize (ps.getD i Pi.no).text = X at *
  have hXe : X.data.toList.length = X.size := by simp
  simp only [List.length_append, List.length_cons, List.length_nil, hXe] at htl
  have n0 : ¬ 9223372036854775807 < 5 + X.size := by omega
  generalize ps.length = n at *
  clear hp fk f hop hk hE htl hXe
  go_enter Tryz.func14, Tryz.ntmps14
  go_wp2
  go_ret
  refine ⟨?_, below2 _ _ _⟩
  apply congrArg Ending.returned
  apply congrArg Value.string
  apply ByteArray.ext
  simp
end Go.Proofs.YtknojhmnadmilaaGreatDoor
