/- What is shown of an expression, case by case. -/
import Derived.Test.YtknojhmnadmilaaGreatDoorZal
import Derived.Test.YtknojhmnadmilaaGreatDoorShA
import Derived.Deep.RegionHeld3
import Derived.Deep.RegionWith
namespace Go.Proofs.YtknojhmnadmilaaGreatDoor
open Go.RowKit

namespace Sh
def kid (x : Pi) (k : Nat) : Nat := (x.kids.getD k 0).toNat
/-- The sign of an expression of two. -/
def sgn (op : Int) : List UInt8 := if op = 9 then [43] else if op = 10 then [45] else if op = 11 then [42] else if op = 12 then [37] else if op = 13 then [46] else if op = 14 then [60] else [61, 61]
def ex (ps : List Pi) : Nat → Nat → List UInt8
  | 0, _ => []
  | f + 1, i =>
    if (ps.getD i Pi.no).op = 1 ∨ (ps.getD i Pi.no).op = 3 then (ps.getD i Pi.no).text.data.toList
    else if (ps.getD i Pi.no).op = 2 then [34] ++ (ps.getD i Pi.no).text.data.toList ++ [34]
    else if (ps.getD i Pi.no).op = 4 then (ps.getD i Pi.no).text.data.toList ++ [91] ++ ex ps f (kid (ps.getD i Pi.no) 0) ++ [93]
    else if (ps.getD i Pi.no).op = 5 then [36, 40] ++ ex ps f (kid (ps.getD i Pi.no) 0) ++ [41]
    else if (ps.getD i Pi.no).op = 6 then [78, 70]
    else if (ps.getD i Pi.no).op = 7 then [78, 82]
    else if (ps.getD i Pi.no).op = 8 then [108, 101, 110, 103, 116, 104, 40] ++ ex ps f (kid (ps.getD i Pi.no) 0) ++ [41]
    else if (ps.getD i Pi.no).op = 16 then [40] ++ ex ps f (kid (ps.getD i Pi.no) 0) ++ [32, 126, 32, 47] ++ (ps.getD i Pi.no).text.data.toList ++ [47, 41]
    else [40] ++ ex ps f (kid (ps.getD i Pi.no) 0) ++ [32] ++ sgn (ps.getD i Pi.no).op ++ [32] ++ ex ps f (kid (ps.getD i Pi.no) 1) ++ [41]
end Sh
/-- Five cells and a frame stand behind a call. -/
theorem keep5 {w0 w a2 : World} {p1 p2 p3 p4 p5 : Addr} {x1 x2 x3 x4 x5 : Value} (hb : Below w.heap.size w a2) (h : w.cell? p1 = some x1 ∧ w.cell? p2 = some x2 ∧ w.cell? p3 = some x3 ∧ w.cell? p4 = some x4 ∧ w.cell? p5 = some x5 ∧ Hid (Below w0.heap.size w0 w)) : a2.cell? p1 = some x1 ∧ a2.cell? p2 = some x2 ∧ a2.cell? p3 = some x3 ∧ a2.cell? p4 = some x4 ∧ a2.cell? p5 = some x5 ∧ Hid (Below w0.heap.size w0 a2) := by
  obtain ⟨h1, h2, h3, h4, h5, h6⟩ := h
  exact ⟨(hb.cell (World.block_lt_of_cell? w _ h1)).trans h1, (hb.cell (World.block_lt_of_cell? w _ h2)).trans h2, (hb.cell (World.block_lt_of_cell? w _ h3)).trans h3, (hb.cell (World.block_lt_of_cell? w _ h4)).trans h4, (hb.cell (World.block_lt_of_cell? w _ h5)).trans h5, h6.out.trans (hb.mono h6.out.size)⟩
theorem blk2 {w : World} {g : Nat} {x y : Value} {t : TypeId} (h : w.heap[g]? = some (.cells #[x, y] t (0, 0))) : w.cell? ⟨g, 0, none⟩ = some x ∧ w.cell? ⟨g, 1, none⟩ = some y := ⟨by rw [blk_cell h]; rfl, by rw [blk_cell h]; rfl⟩
theorem blk3 {w : World} {g : Nat} {x y z : Value} {t : TypeId} (h : w.heap[g]? = some (.cells #[x, y, z] t (0, 0))) : w.cell? ⟨g, 0, none⟩ = some x ∧ w.cell? ⟨g, 1, none⟩ = some y ∧ w.cell? ⟨g, 2, none⟩ = some z := ⟨by rw [blk_cell h]; rfl, by rw [blk_cell h]; rfl, by rw [blk_cell h]; rfl⟩
/-- What l06ShowEx is to answer at the nodes below i. -/
def ShC (ps : List Pi) (v rv : Value) (w : World) (i : Nat) : Prop := ∀ W, Below w.heap.size w W → Calls Tryz.prog 13 #[.agg #[v, rv], .int .i64 (i : Int)] W fun e w' => e = .returned (.string ⟨(Sh.ex ps (i + 1) i).toArray⟩) ∧ Below W.heap.size W w'

set_option maxRecDepth 100000 in
set_option maxHeartbeats 4000000 in
theorem showEx_num (v : Value) (ps : List Pi) (ra : Option Addr) (rn rc i : Nat) (w : World) (h : PcsAt w v ps) (hi : i < ps.length) (hl : ps.length ≤ 200) (hop : (ps.getD i Pi.no).op = 1) (hk : (ps.getD i Pi.no).kids.length = 0) :
    Calls Tryz.prog 13 #[.agg #[v, .slice ra rn rc], .int .i64 (i : Int)] w fun e w' => e = .returned (.string ⟨(Sh.ex ps (i + 1) i).toArray⟩) ∧ Below w.heap.size w w' := by
  obtain ⟨va, vc, rfl, f⟩ := h
  obtain ⟨b, o, rfl, hb, hp⟩ := f (by omega)
  obtain ⟨kv, p0, p1, p2, ka, kc, rfl, fk⟩ := hp i hi
  rw [hk] at p2
  rw [hop] at p0
  have i1 : (i : Int) < (ps.length : Int) := by omega
  have hE : Sh.ex ps (i + 1) i = (ps.getD i Pi.no).text.data.toList := by
    rw [Sh.ex, if_pos (.inl hop)]
  rw [hE]
  generalize (ps.getD i Pi.no).text = X at *
  generalize ps.length = n at *
  clear hp fk f hop hk hE
  go_enter Tryz.func13, Tryz.ntmps13
  go_wp2
  go_ret
  refine ⟨?_, below2 _ _ _⟩
  apply congrArg Ending.returned
  apply congrArg Value.string
  apply ByteArray.ext
  simp
set_option maxRecDepth 100000 in
set_option maxHeartbeats 4000000 in
theorem showEx_name (v : Value) (ps : List Pi) (ra : Option Addr) (rn rc i : Nat) (w : World) (h : PcsAt w v ps) (hi : i < ps.length) (hl : ps.length ≤ 200) (hop : (ps.getD i Pi.no).op = 3) (hk : (ps.getD i Pi.no).kids.length = 0) :
    Calls Tryz.prog 13 #[.agg #[v, .slice ra rn rc], .int .i64 (i : Int)] w fun e w' => e = .returned (.string ⟨(Sh.ex ps (i + 1) i).toArray⟩) ∧ Below w.heap.size w w' := by
  obtain ⟨va, vc, rfl, f⟩ := h
  obtain ⟨b, o, rfl, hb, hp⟩ := f (by omega)
  obtain ⟨kv, p0, p1, p2, ka, kc, rfl, fk⟩ := hp i hi
  rw [hk] at p2
  rw [hop] at p0
  have i1 : (i : Int) < (ps.length : Int) := by omega
  have hE : Sh.ex ps (i + 1) i = (ps.getD i Pi.no).text.data.toList := by
    rw [Sh.ex, if_pos (.inr hop)]
  rw [hE]
  generalize (ps.getD i Pi.no).text = X at *
  generalize ps.length = n at *
  clear hp fk f hop hk hE
  go_enter Tryz.func13, Tryz.ntmps13
  go_wp2
  go_ret
  refine ⟨?_, below2 _ _ _⟩
  apply congrArg Ending.returned
  apply congrArg Value.string
  apply ByteArray.ext
  simp
set_option maxRecDepth 100000 in
set_option maxHeartbeats 4000000 in
theorem showEx_text (v : Value) (ps : List Pi) (ra : Option Addr) (rn rc i : Nat) (w : World) (h : PcsAt w v ps) (hi : i < ps.length) (hl : ps.length ≤ 200) (hop : (ps.getD i Pi.no).op = 2) (hk : (ps.getD i Pi.no).kids.length = 0) (htl : (Sh.ex ps (i + 1) i).length ≤ 1000000) :
    Calls Tryz.prog 13 #[.agg #[v, .slice ra rn rc], .int .i64 (i : Int)] w fun e w' => e = .returned (.string ⟨(Sh.ex ps (i + 1) i).toArray⟩) ∧ Below w.heap.size w w' := by
  obtain ⟨va, vc, rfl, f⟩ := h
  obtain ⟨b, o, rfl, hb, hp⟩ := f (by omega)
  obtain ⟨kv, p0, p1, p2, ka, kc, rfl, fk⟩ := hp i hi
  rw [hk] at p2
  rw [hop] at p0
  have i1 : (i : Int) < (ps.length : Int) := by omega
  have hE : Sh.ex ps (i + 1) i = [34] ++ (ps.getD i Pi.no).text.data.toList ++ [34] := by
    rw [Sh.ex, if_neg (by rw [hop]; decide), if_pos hop]
  rw [hE] at htl ⊢
  generalize (ps.getD i Pi.no).text = X at *
  have hXe : X.data.toList.length = X.size := by simp
  simp only [List.length_append, List.length_cons, List.length_nil, hXe] at htl
  have n0 : ¬ 9223372036854775807 < 1 + X.size := by omega
  have n1 : ¬ 9223372036854775807 < 1 + X.size + 1 := by omega
  generalize ps.length = n at *
  clear hp fk f hop hk hE htl hXe
  go_enter Tryz.func13, Tryz.ntmps13
  go_wp2
  go_ret
  refine ⟨?_, below2 _ _ _⟩
  apply congrArg Ending.returned
  apply congrArg Value.string
  apply ByteArray.ext
  simp
set_option maxRecDepth 100000 in
set_option maxHeartbeats 4000000 in
theorem showEx_fields (v : Value) (ps : List Pi) (ra : Option Addr) (rn rc i : Nat) (w : World) (h : PcsAt w v ps) (hi : i < ps.length) (hl : ps.length ≤ 200) (hop : (ps.getD i Pi.no).op = 6) (hk : (ps.getD i Pi.no).kids.length = 0) :
    Calls Tryz.prog 13 #[.agg #[v, .slice ra rn rc], .int .i64 (i : Int)] w fun e w' => e = .returned (.string ⟨(Sh.ex ps (i + 1) i).toArray⟩) ∧ Below w.heap.size w w' := by
  obtain ⟨va, vc, rfl, f⟩ := h
  obtain ⟨b, o, rfl, hb, hp⟩ := f (by omega)
  obtain ⟨kv, p0, p1, p2, ka, kc, rfl, fk⟩ := hp i hi
  rw [hk] at p2
  rw [hop] at p0
  have i1 : (i : Int) < (ps.length : Int) := by omega
  have hE : Sh.ex ps (i + 1) i = [78, 70] := by
    rw [Sh.ex, if_neg (by rw [hop]; decide), if_neg (by rw [hop]; decide), if_neg (by rw [hop]; decide), if_neg (by rw [hop]; decide), if_pos hop]
  rw [hE]
  generalize (ps.getD i Pi.no).text = X at *
  generalize ps.length = n at *
  clear hp fk f hop hk hE
  go_enter Tryz.func13, Tryz.ntmps13
  go_wp2
  go_ret
  refine ⟨?_, below2 _ _ _⟩
  apply congrArg Ending.returned
  apply congrArg Value.string
  apply ByteArray.ext
  simp
set_option maxRecDepth 100000 in
set_option maxHeartbeats 4000000 in
theorem showEx_line (v : Value) (ps : List Pi) (ra : Option Addr) (rn rc i : Nat) (w : World) (h : PcsAt w v ps) (hi : i < ps.length) (hl : ps.length ≤ 200) (hop : (ps.getD i Pi.no).op = 7) (hk : (ps.getD i Pi.no).kids.length = 0) :
    Calls Tryz.prog 13 #[.agg #[v, .slice ra rn rc], .int .i64 (i : Int)] w fun e w' => e = .returned (.string ⟨(Sh.ex ps (i + 1) i).toArray⟩) ∧ Below w.heap.size w w' := by
  obtain ⟨va, vc, rfl, f⟩ := h
  obtain ⟨b, o, rfl, hb, hp⟩ := f (by omega)
  obtain ⟨kv, p0, p1, p2, ka, kc, rfl, fk⟩ := hp i hi
  rw [hk] at p2
  rw [hop] at p0
  have i1 : (i : Int) < (ps.length : Int) := by omega
  have hE : Sh.ex ps (i + 1) i = [78, 82] := by
    rw [Sh.ex, if_neg (by rw [hop]; decide), if_neg (by rw [hop]; decide), if_neg (by rw [hop]; decide), if_neg (by rw [hop]; decide), if_neg (by rw [hop]; decide), if_pos hop]
  rw [hE]
  generalize (ps.getD i Pi.no).text = X at *
  generalize ps.length = n at *
  clear hp fk f hop hk hE
  go_enter Tryz.func13, Tryz.ntmps13
  go_wp2
  go_ret
  refine ⟨?_, below2 _ _ _⟩
  apply congrArg Ending.returned
  apply congrArg Value.string
  apply ByteArray.ext
  simp
set_option maxRecDepth 100000 in
set_option maxHeartbeats 4000000 in
theorem showEx_cell (v : Value) (ps : List Pi) (ra : Option Addr) (rn rc i : Nat) (w : World) (h : PcsAt w v ps) (hi : i < ps.length) (hl : ps.length ≤ 200) (hop : (ps.getD i Pi.no).op = 4) (hk : (ps.getD i Pi.no).kids.length = 1) (hkz0 : 0 ≤ (ps.getD i Pi.no).kids.getD 0 0) (hC0 : ∀ W, Below w.heap.size w W → Calls Tryz.prog 13 #[.agg #[v, .slice ra rn rc], .int .i64 (Sh.kid (ps.getD i Pi.no) 0 : Int)] W fun e w' => e = .returned (.string ⟨(Sh.ex ps i (Sh.kid (ps.getD i Pi.no) 0)).toArray⟩) ∧ Below W.heap.size W w') (htl : (Sh.ex ps (i + 1) i).length ≤ 1000000) :
    Calls Tryz.prog 13 #[.agg #[v, .slice ra rn rc], .int .i64 (i : Int)] w fun e w' => e = .returned (.string ⟨(Sh.ex ps (i + 1) i).toArray⟩) ∧ Below w.heap.size w w' := by
  obtain ⟨va, vc, rfl, f⟩ := h
  obtain ⟨b, o, rfl, hb, hp⟩ := f (by omega)
  obtain ⟨kv, p0, p1, p2, ka, kc, rfl, fk⟩ := hp i hi
  obtain ⟨kb, ko, rfl, hkb, hkc⟩ := fk (by omega)
  have q0 := hkc 0 (by omega)
  rw [Nat.add_zero] at q0
  rw [hk] at p2
  rw [hop] at p0
  have i1 : (i : Int) < (ps.length : Int) := by omega
  have hE : Sh.ex ps (i + 1) i = (ps.getD i Pi.no).text.data.toList ++ [91] ++ Sh.ex ps i (Sh.kid (ps.getD i Pi.no) 0) ++ [93] := by
    rw [Sh.ex, if_neg (by rw [hop]; decide), if_neg (by rw [hop]; decide), if_pos hop]
  rw [hE] at htl ⊢
  generalize (Sh.ex ps i (Sh.kid (ps.getD i Pi.no) 0)) = E0 at *
  have ekz0 : ((Sh.kid (ps.getD i Pi.no) 0 : Nat) : Int) = (ps.getD i Pi.no).kids.getD 0 0 := by unfold Sh.kid; omega
  rw [ekz0] at hC0
  generalize (ps.getD i Pi.no).text = X at *
  generalize (ps.getD i Pi.no).kids.getD 0 0 = Z0 at *
  have hXe : X.data.toList.length = X.size := by simp
  simp only [List.length_append, List.length_cons, List.length_nil, hXe] at htl
  have n0 : ¬ 9223372036854775807 < X.size + 1 := by omega
  have n1 : ¬ 9223372036854775807 < X.size + 1 + E0.length := by omega
  have n2 : ¬ 9223372036854775807 < X.size + 1 + E0.length + 1 := by omega
  have HC0 : Hid (∀ W, Below w.heap.size w W → Calls Tryz.prog 13 #[.agg #[.slice (some ⟨b, o, none⟩) ps.length vc, .slice ra rn rc], .int .i64 Z0] W fun e w' => e = .returned (.string ⟨E0.toArray⟩) ∧ Below W.heap.size W w') := hC0
  generalize ps.length = n at *
  clear hp fk f hop hk hE htl hXe hC0 ekz0 hkz0 hkc
  obtain ⟨m0, m1⟩ := blk2 (alloc2_0 w (.cells #[.slice (some ⟨b, o, none⟩) n vc, .slice ra rn rc] 32) (.cells #[.int .i64 4, .string X, .slice (some ⟨kb, ko, none⟩) 1 kc] 67))
  obtain ⟨m5, m2, m3⟩ := blk3 (alloc2_1 w (.cells #[.slice (some ⟨b, o, none⟩) n vc, .slice ra rn rc] 32) (.cells #[.int .i64 4, .string X, .slice (some ⟨kb, ko, none⟩) 1 kc] 67))
  have hb0 := below2 w (.cells #[.slice (some ⟨b, o, none⟩) n vc, .slice ra rn rc] 32) (.cells #[.int .i64 4, .string X, .slice (some ⟨kb, ko, none⟩) 1 kc] 67)
  have m4 := (hb0.cell hkb).trans q0
  have HB0 : Hid _ := hb0
  clear hb0
  have HD0 : Hid (∀ W, (W.cell? ⟨w.heap.size, 0, none⟩ = some (.slice (some ⟨b, o, none⟩) n vc) ∧ W.cell? ⟨w.heap.size, 1, none⟩ = some (.slice ra rn rc) ∧ W.cell? ⟨w.heap.size + 1, 1, none⟩ = some (.string X) ∧ W.cell? ⟨w.heap.size + 1, 2, none⟩ = some (.slice (some ⟨kb, ko, none⟩) 1 kc) ∧ W.cell? ⟨kb, ko, none⟩ = some (.int .i64 Z0) ∧ Hid (Below w.heap.size w W)) → Calls Tryz.prog 13 #[.agg #[.slice (some ⟨b, o, none⟩) n vc, .slice ra rn rc], .int .i64 Z0] W fun e w' => e = .returned (.string ⟨E0.toArray⟩) ∧ Below W.heap.size W w') := fun W h => HC0.out W h.2.2.2.2.2.out
  go_enter Tryz.func13, Tryz.ntmps13
  go_wp2_with fail
  generalize (w.alloc (.cells #[.slice (some ⟨b, o, none⟩) n vc, .slice ra rn rc] 32)).alloc (.cells #[.int .i64 4, .string X, .slice (some ⟨kb, ko, none⟩) 1 kc] 67) = W2 at *
  clear HC0 p0 p1 p2 q0
  go_region_held3 (fun W => W.cell? ⟨w.heap.size, 0, none⟩ = some (.slice (some ⟨b, o, none⟩) n vc) ∧ W.cell? ⟨w.heap.size, 1, none⟩ = some (.slice ra rn rc) ∧ W.cell? ⟨w.heap.size + 1, 1, none⟩ = some (.string X) ∧ W.cell? ⟨w.heap.size + 1, 2, none⟩ = some (.slice (some ⟨kb, ko, none⟩) 1 kc) ∧ W.cell? ⟨kb, ko, none⟩ = some (.int .i64 Z0) ∧ Hid (Below w.heap.size w W)) (first | exact keep5 hb2 (by assumption) | exact ⟨m0, m1, m2, m3, m4, HB0.out.drew⟩ | assumption) ((go_at_call 13; refine (HD0.out _ (by assumption)).mono ?_; rintro e a2 ⟨rfl, hb2⟩))
  have hbf : Below w.heap.size w a2 := HB0.out.drew.trans (hb2.mono HB0.out.size)
  go_wp2
  go_ret
  refine ⟨?_, hbf⟩
  apply congrArg Ending.returned
  apply congrArg Value.string
  apply ByteArray.ext
  simp
set_option maxRecDepth 100000 in
set_option maxHeartbeats 4000000 in
theorem showEx_field (v : Value) (ps : List Pi) (ra : Option Addr) (rn rc i : Nat) (w : World) (h : PcsAt w v ps) (hi : i < ps.length) (hl : ps.length ≤ 200) (hop : (ps.getD i Pi.no).op = 5) (hk : (ps.getD i Pi.no).kids.length = 1) (hkz0 : 0 ≤ (ps.getD i Pi.no).kids.getD 0 0) (hC0 : ∀ W, Below w.heap.size w W → Calls Tryz.prog 13 #[.agg #[v, .slice ra rn rc], .int .i64 (Sh.kid (ps.getD i Pi.no) 0 : Int)] W fun e w' => e = .returned (.string ⟨(Sh.ex ps i (Sh.kid (ps.getD i Pi.no) 0)).toArray⟩) ∧ Below W.heap.size W w') (htl : (Sh.ex ps (i + 1) i).length ≤ 1000000) :
    Calls Tryz.prog 13 #[.agg #[v, .slice ra rn rc], .int .i64 (i : Int)] w fun e w' => e = .returned (.string ⟨(Sh.ex ps (i + 1) i).toArray⟩) ∧ Below w.heap.size w w' := by
  obtain ⟨va, vc, rfl, f⟩ := h
  obtain ⟨b, o, rfl, hb, hp⟩ := f (by omega)
  obtain ⟨kv, p0, p1, p2, ka, kc, rfl, fk⟩ := hp i hi
  obtain ⟨kb, ko, rfl, hkb, hkc⟩ := fk (by omega)
  have q0 := hkc 0 (by omega)
  rw [Nat.add_zero] at q0
  rw [hk] at p2
  rw [hop] at p0
  have i1 : (i : Int) < (ps.length : Int) := by omega
  have hE : Sh.ex ps (i + 1) i = [36, 40] ++ Sh.ex ps i (Sh.kid (ps.getD i Pi.no) 0) ++ [41] := by
    rw [Sh.ex, if_neg (by rw [hop]; decide), if_neg (by rw [hop]; decide), if_neg (by rw [hop]; decide), if_pos hop]
  rw [hE] at htl ⊢
  generalize (Sh.ex ps i (Sh.kid (ps.getD i Pi.no) 0)) = E0 at *
  have ekz0 : ((Sh.kid (ps.getD i Pi.no) 0 : Nat) : Int) = (ps.getD i Pi.no).kids.getD 0 0 := by unfold Sh.kid; omega
  rw [ekz0] at hC0
  generalize (ps.getD i Pi.no).text = X at *
  generalize (ps.getD i Pi.no).kids.getD 0 0 = Z0 at *
  simp only [List.length_append, List.length_cons, List.length_nil] at htl
  have n0 : ¬ 9223372036854775807 < 2 + E0.length := by omega
  have n1 : ¬ 9223372036854775807 < 2 + E0.length + 1 := by omega
  have HC0 : Hid (∀ W, Below w.heap.size w W → Calls Tryz.prog 13 #[.agg #[.slice (some ⟨b, o, none⟩) ps.length vc, .slice ra rn rc], .int .i64 Z0] W fun e w' => e = .returned (.string ⟨E0.toArray⟩) ∧ Below W.heap.size W w') := hC0
  generalize ps.length = n at *
  clear hp fk f hop hk hE htl hC0 ekz0 hkz0 hkc
  obtain ⟨m0, m1⟩ := blk2 (alloc2_0 w (.cells #[.slice (some ⟨b, o, none⟩) n vc, .slice ra rn rc] 32) (.cells #[.int .i64 5, .string X, .slice (some ⟨kb, ko, none⟩) 1 kc] 67))
  obtain ⟨m5, m2, m3⟩ := blk3 (alloc2_1 w (.cells #[.slice (some ⟨b, o, none⟩) n vc, .slice ra rn rc] 32) (.cells #[.int .i64 5, .string X, .slice (some ⟨kb, ko, none⟩) 1 kc] 67))
  have hb0 := below2 w (.cells #[.slice (some ⟨b, o, none⟩) n vc, .slice ra rn rc] 32) (.cells #[.int .i64 5, .string X, .slice (some ⟨kb, ko, none⟩) 1 kc] 67)
  have m4 := (hb0.cell hkb).trans q0
  have HB0 : Hid _ := hb0
  clear hb0
  have HD0 : Hid (∀ W, (W.cell? ⟨w.heap.size, 0, none⟩ = some (.slice (some ⟨b, o, none⟩) n vc) ∧ W.cell? ⟨w.heap.size, 1, none⟩ = some (.slice ra rn rc) ∧ W.cell? ⟨w.heap.size + 1, 1, none⟩ = some (.string X) ∧ W.cell? ⟨w.heap.size + 1, 2, none⟩ = some (.slice (some ⟨kb, ko, none⟩) 1 kc) ∧ W.cell? ⟨kb, ko, none⟩ = some (.int .i64 Z0) ∧ Hid (Below w.heap.size w W)) → Calls Tryz.prog 13 #[.agg #[.slice (some ⟨b, o, none⟩) n vc, .slice ra rn rc], .int .i64 Z0] W fun e w' => e = .returned (.string ⟨E0.toArray⟩) ∧ Below W.heap.size W w') := fun W h => HC0.out W h.2.2.2.2.2.out
  go_enter Tryz.func13, Tryz.ntmps13
  go_wp2_with fail
  generalize (w.alloc (.cells #[.slice (some ⟨b, o, none⟩) n vc, .slice ra rn rc] 32)).alloc (.cells #[.int .i64 5, .string X, .slice (some ⟨kb, ko, none⟩) 1 kc] 67) = W2 at *
  clear HC0 p0 p1 p2 q0
  go_region_held3 (fun W => W.cell? ⟨w.heap.size, 0, none⟩ = some (.slice (some ⟨b, o, none⟩) n vc) ∧ W.cell? ⟨w.heap.size, 1, none⟩ = some (.slice ra rn rc) ∧ W.cell? ⟨w.heap.size + 1, 1, none⟩ = some (.string X) ∧ W.cell? ⟨w.heap.size + 1, 2, none⟩ = some (.slice (some ⟨kb, ko, none⟩) 1 kc) ∧ W.cell? ⟨kb, ko, none⟩ = some (.int .i64 Z0) ∧ Hid (Below w.heap.size w W)) (first | exact keep5 hb2 (by assumption) | exact ⟨m0, m1, m2, m3, m4, HB0.out.drew⟩ | assumption) ((go_at_call 13; refine (HD0.out _ (by assumption)).mono ?_; rintro e a2 ⟨rfl, hb2⟩))
  have hbf : Below w.heap.size w a2 := HB0.out.drew.trans (hb2.mono HB0.out.size)
  go_wp2
  go_ret
  refine ⟨?_, hbf⟩
  apply congrArg Ending.returned
  apply congrArg Value.string
  apply ByteArray.ext
  simp
set_option maxRecDepth 100000 in
set_option maxHeartbeats 4000000 in
theorem showEx_long (v : Value) (ps : List Pi) (ra : Option Addr) (rn rc i : Nat) (w : World) (h : PcsAt w v ps) (hi : i < ps.length) (hl : ps.length ≤ 200) (hop : (ps.getD i Pi.no).op = 8) (hk : (ps.getD i Pi.no).kids.length = 1) (hkz0 : 0 ≤ (ps.getD i Pi.no).kids.getD 0 0) (hC0 : ∀ W, Below w.heap.size w W → Calls Tryz.prog 13 #[.agg #[v, .slice ra rn rc], .int .i64 (Sh.kid (ps.getD i Pi.no) 0 : Int)] W fun e w' => e = .returned (.string ⟨(Sh.ex ps i (Sh.kid (ps.getD i Pi.no) 0)).toArray⟩) ∧ Below W.heap.size W w') (htl : (Sh.ex ps (i + 1) i).length ≤ 1000000) :
    Calls Tryz.prog 13 #[.agg #[v, .slice ra rn rc], .int .i64 (i : Int)] w fun e w' => e = .returned (.string ⟨(Sh.ex ps (i + 1) i).toArray⟩) ∧ Below w.heap.size w w' := by
  obtain ⟨va, vc, rfl, f⟩ := h
  obtain ⟨b, o, rfl, hb, hp⟩ := f (by omega)
  obtain ⟨kv, p0, p1, p2, ka, kc, rfl, fk⟩ := hp i hi
  obtain ⟨kb, ko, rfl, hkb, hkc⟩ := fk (by omega)
  have q0 := hkc 0 (by omega)
  rw [Nat.add_zero] at q0
  rw [hk] at p2
  rw [hop] at p0
  have i1 : (i : Int) < (ps.length : Int) := by omega
  have hE : Sh.ex ps (i + 1) i = [108, 101, 110, 103, 116, 104, 40] ++ Sh.ex ps i (Sh.kid (ps.getD i Pi.no) 0) ++ [41] := by
    rw [Sh.ex, if_neg (by rw [hop]; decide), if_neg (by rw [hop]; decide), if_neg (by rw [hop]; decide), if_neg (by rw [hop]; decide), if_neg (by rw [hop]; decide), if_neg (by rw [hop]; decide), if_pos hop]
  rw [hE] at htl ⊢
  generalize (Sh.ex ps i (Sh.kid (ps.getD i Pi.no) 0)) = E0 at *
  have ekz0 : ((Sh.kid (ps.getD i Pi.no) 0 : Nat) : Int) = (ps.getD i Pi.no).kids.getD 0 0 := by unfold Sh.kid; omega
  rw [ekz0] at hC0
  generalize (ps.getD i Pi.no).text = X at *
  generalize (ps.getD i Pi.no).kids.getD 0 0 = Z0 at *
  simp only [List.length_append, List.length_cons, List.length_nil] at htl
  have n0 : ¬ 9223372036854775807 < 7 + E0.length := by omega
  have n1 : ¬ 9223372036854775807 < 7 + E0.length + 1 := by omega
  have HC0 : Hid (∀ W, Below w.heap.size w W → Calls Tryz.prog 13 #[.agg #[.slice (some ⟨b, o, none⟩) ps.length vc, .slice ra rn rc], .int .i64 Z0] W fun e w' => e = .returned (.string ⟨E0.toArray⟩) ∧ Below W.heap.size W w') := hC0
  generalize ps.length = n at *
  clear hp fk f hop hk hE htl hC0 ekz0 hkz0 hkc
  obtain ⟨m0, m1⟩ := blk2 (alloc2_0 w (.cells #[.slice (some ⟨b, o, none⟩) n vc, .slice ra rn rc] 32) (.cells #[.int .i64 8, .string X, .slice (some ⟨kb, ko, none⟩) 1 kc] 67))
  obtain ⟨m5, m2, m3⟩ := blk3 (alloc2_1 w (.cells #[.slice (some ⟨b, o, none⟩) n vc, .slice ra rn rc] 32) (.cells #[.int .i64 8, .string X, .slice (some ⟨kb, ko, none⟩) 1 kc] 67))
  have hb0 := below2 w (.cells #[.slice (some ⟨b, o, none⟩) n vc, .slice ra rn rc] 32) (.cells #[.int .i64 8, .string X, .slice (some ⟨kb, ko, none⟩) 1 kc] 67)
  have m4 := (hb0.cell hkb).trans q0
  have HB0 : Hid _ := hb0
  clear hb0
  have HD0 : Hid (∀ W, (W.cell? ⟨w.heap.size, 0, none⟩ = some (.slice (some ⟨b, o, none⟩) n vc) ∧ W.cell? ⟨w.heap.size, 1, none⟩ = some (.slice ra rn rc) ∧ W.cell? ⟨w.heap.size + 1, 1, none⟩ = some (.string X) ∧ W.cell? ⟨w.heap.size + 1, 2, none⟩ = some (.slice (some ⟨kb, ko, none⟩) 1 kc) ∧ W.cell? ⟨kb, ko, none⟩ = some (.int .i64 Z0) ∧ Hid (Below w.heap.size w W)) → Calls Tryz.prog 13 #[.agg #[.slice (some ⟨b, o, none⟩) n vc, .slice ra rn rc], .int .i64 Z0] W fun e w' => e = .returned (.string ⟨E0.toArray⟩) ∧ Below W.heap.size W w') := fun W h => HC0.out W h.2.2.2.2.2.out
  go_enter Tryz.func13, Tryz.ntmps13
  go_wp2_with fail
  generalize (w.alloc (.cells #[.slice (some ⟨b, o, none⟩) n vc, .slice ra rn rc] 32)).alloc (.cells #[.int .i64 8, .string X, .slice (some ⟨kb, ko, none⟩) 1 kc] 67) = W2 at *
  clear HC0 p0 p1 p2 q0
  go_region_held3 (fun W => W.cell? ⟨w.heap.size, 0, none⟩ = some (.slice (some ⟨b, o, none⟩) n vc) ∧ W.cell? ⟨w.heap.size, 1, none⟩ = some (.slice ra rn rc) ∧ W.cell? ⟨w.heap.size + 1, 1, none⟩ = some (.string X) ∧ W.cell? ⟨w.heap.size + 1, 2, none⟩ = some (.slice (some ⟨kb, ko, none⟩) 1 kc) ∧ W.cell? ⟨kb, ko, none⟩ = some (.int .i64 Z0) ∧ Hid (Below w.heap.size w W)) (first | exact keep5 hb2 (by assumption) | exact ⟨m0, m1, m2, m3, m4, HB0.out.drew⟩ | assumption) ((go_at_call 13; refine (HD0.out _ (by assumption)).mono ?_; rintro e a2 ⟨rfl, hb2⟩))
  have hbf : Below w.heap.size w a2 := HB0.out.drew.trans (hb2.mono HB0.out.size)
  go_wp2
  go_ret
  refine ⟨?_, hbf⟩
  apply congrArg Ending.returned
  apply congrArg Value.string
  apply ByteArray.ext
  simp
set_option maxRecDepth 100000 in
set_option maxHeartbeats 4000000 in
theorem showEx_has (v : Value) (ps : List Pi) (ra : Option Addr) (rn rc i : Nat) (w : World) (h : PcsAt w v ps) (hi : i < ps.length) (hl : ps.length ≤ 200) (hop : (ps.getD i Pi.no).op = 16) (hk : (ps.getD i Pi.no).kids.length = 1) (hkz0 : 0 ≤ (ps.getD i Pi.no).kids.getD 0 0) (hC0 : ∀ W, Below w.heap.size w W → Calls Tryz.prog 13 #[.agg #[v, .slice ra rn rc], .int .i64 (Sh.kid (ps.getD i Pi.no) 0 : Int)] W fun e w' => e = .returned (.string ⟨(Sh.ex ps i (Sh.kid (ps.getD i Pi.no) 0)).toArray⟩) ∧ Below W.heap.size W w') (htl : (Sh.ex ps (i + 1) i).length ≤ 1000000) :
    Calls Tryz.prog 13 #[.agg #[v, .slice ra rn rc], .int .i64 (i : Int)] w fun e w' => e = .returned (.string ⟨(Sh.ex ps (i + 1) i).toArray⟩) ∧ Below w.heap.size w w' := by
  obtain ⟨va, vc, rfl, f⟩ := h
  obtain ⟨b, o, rfl, hb, hp⟩ := f (by omega)
  obtain ⟨kv, p0, p1, p2, ka, kc, rfl, fk⟩ := hp i hi
  obtain ⟨kb, ko, rfl, hkb, hkc⟩ := fk (by omega)
  have q0 := hkc 0 (by omega)
  rw [Nat.add_zero] at q0
  rw [hk] at p2
  rw [hop] at p0
  have i1 : (i : Int) < (ps.length : Int) := by omega
  have hE : Sh.ex ps (i + 1) i = [40] ++ Sh.ex ps i (Sh.kid (ps.getD i Pi.no) 0) ++ [32, 126, 32, 47] ++ (ps.getD i Pi.no).text.data.toList ++ [47, 41] := by
    rw [Sh.ex, if_neg (by rw [hop]; decide), if_neg (by rw [hop]; decide), if_neg (by rw [hop]; decide), if_neg (by rw [hop]; decide), if_neg (by rw [hop]; decide), if_neg (by rw [hop]; decide), if_neg (by rw [hop]; decide), if_pos hop]
  rw [hE] at htl ⊢
  generalize (Sh.ex ps i (Sh.kid (ps.getD i Pi.no) 0)) = E0 at *
  have ekz0 : ((Sh.kid (ps.getD i Pi.no) 0 : Nat) : Int) = (ps.getD i Pi.no).kids.getD 0 0 := by unfold Sh.kid; omega
  rw [ekz0] at hC0
  generalize (ps.getD i Pi.no).text = X at *
  generalize (ps.getD i Pi.no).kids.getD 0 0 = Z0 at *
  have hXe : X.data.toList.length = X.size := by simp
  simp only [List.length_append, List.length_cons, List.length_nil, hXe] at htl
  have n0 : ¬ 9223372036854775807 < 1 + E0.length := by omega
  have n1 : ¬ 9223372036854775807 < 1 + E0.length + 4 := by omega
  have n2 : ¬ 9223372036854775807 < 1 + E0.length + 4 + X.size := by omega
  have n3 : ¬ 9223372036854775807 < 1 + E0.length + 4 + X.size + 2 := by omega
  have HC0 : Hid (∀ W, Below w.heap.size w W → Calls Tryz.prog 13 #[.agg #[.slice (some ⟨b, o, none⟩) ps.length vc, .slice ra rn rc], .int .i64 Z0] W fun e w' => e = .returned (.string ⟨E0.toArray⟩) ∧ Below W.heap.size W w') := hC0
  generalize ps.length = n at *
  clear hp fk f hop hk hE htl hXe hC0 ekz0 hkz0 hkc
  obtain ⟨m0, m1⟩ := blk2 (alloc2_0 w (.cells #[.slice (some ⟨b, o, none⟩) n vc, .slice ra rn rc] 32) (.cells #[.int .i64 16, .string X, .slice (some ⟨kb, ko, none⟩) 1 kc] 67))
  obtain ⟨m5, m2, m3⟩ := blk3 (alloc2_1 w (.cells #[.slice (some ⟨b, o, none⟩) n vc, .slice ra rn rc] 32) (.cells #[.int .i64 16, .string X, .slice (some ⟨kb, ko, none⟩) 1 kc] 67))
  have hb0 := below2 w (.cells #[.slice (some ⟨b, o, none⟩) n vc, .slice ra rn rc] 32) (.cells #[.int .i64 16, .string X, .slice (some ⟨kb, ko, none⟩) 1 kc] 67)
  have m4 := (hb0.cell hkb).trans q0
  have HB0 : Hid _ := hb0
  clear hb0
  have HD0 : Hid (∀ W, (W.cell? ⟨w.heap.size, 0, none⟩ = some (.slice (some ⟨b, o, none⟩) n vc) ∧ W.cell? ⟨w.heap.size, 1, none⟩ = some (.slice ra rn rc) ∧ W.cell? ⟨w.heap.size + 1, 1, none⟩ = some (.string X) ∧ W.cell? ⟨w.heap.size + 1, 2, none⟩ = some (.slice (some ⟨kb, ko, none⟩) 1 kc) ∧ W.cell? ⟨kb, ko, none⟩ = some (.int .i64 Z0) ∧ Hid (Below w.heap.size w W)) → Calls Tryz.prog 13 #[.agg #[.slice (some ⟨b, o, none⟩) n vc, .slice ra rn rc], .int .i64 Z0] W fun e w' => e = .returned (.string ⟨E0.toArray⟩) ∧ Below W.heap.size W w') := fun W h => HC0.out W h.2.2.2.2.2.out
  go_enter Tryz.func13, Tryz.ntmps13
  go_wp2_with fail
  generalize (w.alloc (.cells #[.slice (some ⟨b, o, none⟩) n vc, .slice ra rn rc] 32)).alloc (.cells #[.int .i64 16, .string X, .slice (some ⟨kb, ko, none⟩) 1 kc] 67) = W2 at *
  clear HC0 p0 p1 p2 q0
  go_region_held3 (fun W => W.cell? ⟨w.heap.size, 0, none⟩ = some (.slice (some ⟨b, o, none⟩) n vc) ∧ W.cell? ⟨w.heap.size, 1, none⟩ = some (.slice ra rn rc) ∧ W.cell? ⟨w.heap.size + 1, 1, none⟩ = some (.string X) ∧ W.cell? ⟨w.heap.size + 1, 2, none⟩ = some (.slice (some ⟨kb, ko, none⟩) 1 kc) ∧ W.cell? ⟨kb, ko, none⟩ = some (.int .i64 Z0) ∧ Hid (Below w.heap.size w W)) (first | exact keep5 hb2 (by assumption) | exact ⟨m0, m1, m2, m3, m4, HB0.out.drew⟩ | assumption) ((go_at_call 13; refine (HD0.out _ (by assumption)).mono ?_; rintro e a2 ⟨rfl, hb2⟩))
  have hbf : Below w.heap.size w a2 := HB0.out.drew.trans (hb2.mono HB0.out.size)
  go_wp2
  go_ret
  refine ⟨?_, hbf⟩
  apply congrArg Ending.returned
  apply congrArg Value.string
  apply ByteArray.ext
  simp
end Go.Proofs.YtknojhmnadmilaaGreatDoor
