/- What is shown of a print. What is shown of a block. What is shown of a choice, and of a block of nothing. -/
import Derived.Test.YtknojhmnadmilaaGreatDoorShG
import Derived.LoopTactic
import Derived.Deep.RegionWith
namespace Go.Proofs.YtknojhmnadmilaaGreatDoor
section PartShH
open Go.RowKit

namespace Sh
theorem sep_snoc (s : List UInt8) : ∀ (l : List (List UInt8)) (a : List UInt8), sep s (l ++ [a]) = if l.length = 0 then a else sep s l ++ s ++ a := by
  intro l
  induction l with
  | nil => intro a; rfl
  | cons b r ih =>
    intro a
    cases r with
    | nil => simp [sep]
    | cons c r =>
      have := ih a
      simp only [List.cons_append, List.length_cons] at this ⊢
      rw [sep, this]
      simp [sep]
theorem sep_take (s : List UInt8) (f : Int → List UInt8) (ks : List Int) (j : Nat) (h : j < ks.length) : sep s ((ks.take (j + 1)).map f) = if j = 0 then f (ks.getD j 0) else sep s ((ks.take j).map f) ++ s ++ f (ks.getD j 0) := by
  have e : ks.take (j + 1) = ks.take j ++ [ks.getD j 0] := by
    rw [List.take_add_one, List.getElem?_eq_getElem h]
    simp [h]
  rw [e, List.map_append]
  show sep s ((ks.take j).map f ++ [f (ks.getD j 0)]) = _
  rw [sep_snoc]
  have hl : ((ks.take j).map f).length = j := by simp; omega
  rw [hl]
theorem sep_mono (s : List UInt8) (f : Int → List UInt8) (ks : List Int) : ∀ j, j ≤ ks.length → (sep s ((ks.take j).map f)).length ≤ (sep s (ks.map f)).length := by
  intro j hj
  have key : ∀ d j, j + d = ks.length → (sep s ((ks.take j).map f)).length ≤ (sep s (ks.map f)).length := by
    intro d
    induction d with
    | zero => intro j h; rw [List.take_of_length_le (by omega)]; exact Nat.le_refl _
    | succ d ih =>
      intro j h
      refine Nat.le_trans ?_ (ih (j + 1) (by omega))
      rw [sep_take s f ks j (by omega)]
      split
      · rename_i e; subst e; simp [sep]
      · simp only [List.length_append]; omega
  exact key (ks.length - j) j (by omega)
end Sh

theorem keep4 {w0 w a2 : World} {p1 p2 p3 p4 : Addr} {x1 x2 x3 x4 : Value} (hb : Below w.heap.size w a2) (h : w.cell? p1 = some x1 ∧ w.cell? p2 = some x2 ∧ w.cell? p3 = some x3 ∧ w.cell? p4 = some x4 ∧ Hid (Below w0.heap.size w0 w)) : a2.cell? p1 = some x1 ∧ a2.cell? p2 = some x2 ∧ a2.cell? p3 = some x3 ∧ a2.cell? p4 = some x4 ∧ Hid (Below w0.heap.size w0 a2) := by
  obtain ⟨h1, h2, h3, h4, h8⟩ := h
  have k : ∀ {p : Addr} {x : Value}, w.cell? p = some x → a2.cell? p = some x := fun h => (hb.cell (World.block_lt_of_cell? w _ h)).trans h
  exact ⟨k h1, k h2, k h3, k h4, h8.out.trans (hb.mono h8.out.size)⟩
set_option maxRecDepth 100000 in
set_option maxHeartbeats 4000000 in
theorem showSt_print (v : Value) (ps : List Pi) (ra : Option Addr) (rn rc i : Nat) (w : World) (h : PcsAt w v ps) (hi : i < ps.length) (hl : ps.length ≤ 200) (hop : (ps.getD i Pi.no).op = 17) (hk : 1 ≤ (ps.getD i Pi.no).kids.length) (hk4 : (ps.getD i Pi.no).kids.length ≤ 4)
    (hC : ∀ k, k < (ps.getD i Pi.no).kids.length → ∀ W, Below w.heap.size w W → Calls Tryz.prog 13 #[.agg #[v, .slice ra rn rc], .int .i64 ((ps.getD i Pi.no).kids.getD k 0)] W fun e w' => e = .returned (.string ⟨(Sh.exC ps ((ps.getD i Pi.no).kids.getD k 0).toNat).toArray⟩) ∧ Below W.heap.size W w') (htl : (Sh.st ps (i + 1) i).length ≤ 1000000) :
    Calls Tryz.prog 14 #[.agg #[v, .slice ra rn rc], .int .i64 (i : Int)] w fun e w' => e = .returned (.string ⟨(Sh.st ps (i + 1) i).toArray⟩) ∧ Below w.heap.size w w' := by
  obtain ⟨va, vc, rfl, f⟩ := h
  obtain ⟨b, o, rfl, hb, hp⟩ := f (by omega)
  obtain ⟨kv, p0, p1, p2, ka, kc, rfl, fk⟩ := hp i hi
  obtain ⟨kb, ko, rfl, hkb, hkc⟩ := fk (by omega)
  rw [hop] at p0
  have i1 : (i : Int) < (ps.length : Int) := by omega
  have hE : Sh.st ps (i + 1) i = [112, 114, 105, 110, 116, 32] ++ Sh.sep [44, 32] ((ps.getD i Pi.no).kids.map fun k => Sh.exC ps k.toNat) := by
    rw [Sh.st, if_pos hop]
  rw [hE] at htl ⊢
  generalize (ps.getD i Pi.no).text = X at *
  generalize (ps.getD i Pi.no).kids = ks at *
  obtain ⟨g, hg⟩ : ∃ g : Int → List UInt8, g = fun k => Sh.exC ps k.toNat := ⟨_, rfl⟩
  have hge : ∀ k, Sh.exC ps (ks.getD k 0).toNat = g (ks.getD k 0) := fun k => by rw [hg]
  rw [← hg] at htl ⊢
  have HTK : Hid (∀ j, j < ks.length → Sh.sep [44, 32] ((ks.take (j + 1)).map g) = if j = 0 then g (ks.getD j 0) else Sh.sep [44, 32] ((ks.take j).map g) ++ [44, 32] ++ g (ks.getD j 0)) := fun j hj => Sh.sep_take _ _ _ _ hj
  have HLN : Hid (∀ j, j ≤ ks.length → (Sh.sep [44, 32] ((ks.take j).map g)).length ≤ 1000000) := fun j hj => by
    have := Sh.sep_mono [44, 32] g ks j hj
    simp only [List.length_append] at htl
    omega
  have HC : Hid (∀ k, k < ks.length → ∀ W, Below w.heap.size w W → Calls Tryz.prog 13 #[.agg #[.slice (some ⟨b, o, none⟩) ps.length vc, .slice ra rn rc], .int .i64 (ks.getD k 0)] W fun e w' => e = .returned (.string ⟨(g (ks.getD k 0)).toArray⟩) ∧ Below W.heap.size W w') := fun k hk W hW => by rw [← hge]; exact hC k hk W hW
  have HKC : Hid (∀ k, k < ks.length → w.cell? ⟨kb, ko + k, none⟩ = some (.int .i64 (ks.getD k 0))) := hkc
  have HFULL : Hid (ks.take ks.length = ks) := List.take_length
  generalize ps.length = n at *
  obtain ⟨m, hm⟩ : ∃ m, m = ks.length := ⟨_, rfl⟩
  rw [← hm] at HTK HLN HC HKC p2 hk hk4 HFULL
  clear hp fk f hop hE htl hC hge hg hkc hm
  obtain ⟨m0, m1⟩ := blk2 (alloc2_0 w (.cells #[.slice (some ⟨b, o, none⟩) n vc, .slice ra rn rc] 32) (.cells #[.int .i64 17, .string X, .slice (some ⟨kb, ko, none⟩) m kc] 67))
  obtain ⟨-, m2, m3⟩ := blk3 (alloc2_1 w (.cells #[.slice (some ⟨b, o, none⟩) n vc, .slice ra rn rc] 32) (.cells #[.int .i64 17, .string X, .slice (some ⟨kb, ko, none⟩) m kc] 67))
  have HB0 : Hid _ := below2 w (.cells #[.slice (some ⟨b, o, none⟩) n vc, .slice ra rn rc] 32) (.cells #[.int .i64 17, .string X, .slice (some ⟨kb, ko, none⟩) m kc] 67)
  have HS0 : Hid (w.heap.size + 2 = ((w.alloc (.cells #[.slice (some ⟨b, o, none⟩) n vc, .slice ra rn rc] 32)).alloc (.cells #[.int .i64 17, .string X, .slice (some ⟨kb, ko, none⟩) m kc] 67)).heap.size) := by show _ = _; simp
  go_enter Tryz.func14, Tryz.ntmps14
  go_wp2_with fail
  generalize (w.alloc (.cells #[.slice (some ⟨b, o, none⟩) n vc, .slice ra rn rc] 32)).alloc (.cells #[.int .i64 17, .string X, .slice (some ⟨kb, ko, none⟩) m kc] 67) = W2 at *
  clear p0 p1 p2 m2
  go_loopw [6, 7] (fun s k wr => ∃ j : Nat, k = .int .i64 (j : Int) ∧ s = .string ⟨([112, 114, 105, 110, 116, 32] ++ Sh.sep [44, 32] ((ks.take j).map g)).toArray⟩ ∧ j ≤ m ∧ Hid (Below W2.heap.size W2 wr)) (fun _ k _ => m - (intOf k).toNat)
  case atStart => exact ⟨0, rfl, rfl, by omega, Below.refl _ _⟩
  case round =>
    obtain ⟨j, rfl, rfl, hj, HW⟩ := hrel
    have HWw : Hid (Below w.heap.size w wr) := HB0.out.trans (HW.out.mono HB0.out.size)
    have r0 := (HW.out.cell (World.block_lt_of_cell? W2 _ m0)).trans m0
    have r1 := (HW.out.cell (World.block_lt_of_cell? W2 _ m1)).trans m1
    have r3 := (HW.out.cell (World.block_lt_of_cell? W2 _ m3)).trans m3
    by_cases hlt : j < m
    · have rk := (HWw.out.cell hkb).trans (HKC.out j hlt)
      have HCj : Hid (∀ W, Below w.heap.size w W → Calls Tryz.prog 13 #[.agg #[.slice (some ⟨b, o, none⟩) n vc, .slice ra rn rc], .int .i64 (ks.getD j 0)] W fun e w' => e = .returned (.string ⟨(g (ks.getD j 0)).toArray⟩) ∧ Below W.heap.size W w') := HC.out j hlt
      have hnx := HTK.out j hlt
      have hln := HLN.out (j + 1) (by omega)
      have hlj := HLN.out j hj
      have dk : decide ((j : Int) < (m : Int)) = true := decide_eq_true (by omega)
      have iz : (j : Int) < (m : Int) := by omega
      have iy : (0 : Int) ≤ (j : Int) := by omega
      rw [hnx] at hln
      obtain ⟨A, hA⟩ : ∃ A : ByteArray, A = ⟨([112, 114, 105, 110, 116, 32] ++ Sh.sep [44, 32] ((ks.take j).map g)).toArray⟩ := ⟨_, rfl⟩
      have hAs : A.size ≤ 1000010 := by
        rw [hA]
        show ([112, 114, 105, 110, 116, 32] ++ Sh.sep [44, 32] ((ks.take j).map g)).length ≤ _
        simp only [List.length_append, List.length_cons, List.length_nil]
        omega
      by_cases h0 : j = 0
      · have d0 : decide ((0 : Int) < (j : Int)) = false := decide_eq_false (by omega)
        have d0n : decide (0 < j) = false := decide_eq_false (by omega)
        have hz : ¬ 0 < j := by omega
        rw [if_pos h0] at hln hnx
        have HNX : Hid ((⟨([112, 114, 105, 110, 116, 32] ++ Sh.sep [44, 32] ((ks.take (j + 1)).map g)).toArray⟩ : ByteArray) = A ++ ⟨(g (ks.getD j 0)).toArray⟩) := by
          show _ = _
          rw [hnx, hA, h0]
          apply ByteArray.ext
          simp [Sh.sep]
        rw [← hA]
        generalize g (ks.getD j 0) = E at *
        generalize ks.getD j 0 = Z at *
        have n0 : ¬ 9223372036854775807 < A.size + E.length := by omega
        clear hA hnx hln hlj HC HTK HLN HKC m0 m1 m3 hAs h0
        have HD : Hid (∀ W, (W.cell? ⟨w.heap.size, 0, none⟩ = some (.slice (some ⟨b, o, none⟩) n vc) ∧ W.cell? ⟨w.heap.size, 1, none⟩ = some (.slice ra rn rc) ∧ W.cell? ⟨w.heap.size + 1, 2, none⟩ = some (.slice (some ⟨kb, ko, none⟩) m kc) ∧ W.cell? ⟨kb, ko + j, none⟩ = some (.int .i64 Z) ∧ Hid (Below w.heap.size w W)) → Calls Tryz.prog 13 #[.agg #[.slice (some ⟨b, o, none⟩) n vc, .slice ra rn rc], .int .i64 Z] W fun e w' => e = .returned (.string ⟨E.toArray⟩) ∧ Below W.heap.size W w') := fun W h => HCj.out W h.2.2.2.2.out
        go_wp2_with fail
        go_region_held3 (fun W => W.cell? ⟨w.heap.size, 0, none⟩ = some (.slice (some ⟨b, o, none⟩) n vc) ∧ W.cell? ⟨w.heap.size, 1, none⟩ = some (.slice ra rn rc) ∧ W.cell? ⟨w.heap.size + 1, 2, none⟩ = some (.slice (some ⟨kb, ko, none⟩) m kc) ∧ W.cell? ⟨kb, ko + j, none⟩ = some (.int .i64 Z) ∧ Hid (Below w.heap.size w W)) (first | exact keep4 hb2 (by assumption) | exact ⟨r0, r1, r3, rk, HWw.out.drew⟩ | assumption) ((go_at_call 13; refine (HD.out _ (by assumption)).mono ?_; rintro e a2 ⟨rfl, hb2⟩))
        have hbf : Below W2.heap.size W2 a2 := HW.out.drew.trans (hb2.mono HW.out.size)
        go_wp2
        go_roundw
        case rel => exact ⟨j + 1, by go_num, by rw [HNX.out], by omega, hbf⟩
        case measure => simp [intOf]; omega
      · have d0 : decide ((0 : Int) < (j : Int)) = true := decide_eq_true (by omega)
        have d0n : decide (0 < j) = true := decide_eq_true (by omega)
        have hz : 0 < j := by omega
        rw [if_neg h0] at hln hnx
        have HNX : Hid ((⟨([112, 114, 105, 110, 116, 32] ++ Sh.sep [44, 32] ((ks.take (j + 1)).map g)).toArray⟩ : ByteArray) = A ++ ⟨#[44, 32]⟩ ++ ⟨(g (ks.getD j 0)).toArray⟩) := by
          show _ = _
          rw [hnx, hA]
          apply ByteArray.ext
          simp
        rw [← hA]
        simp only [List.length_append, List.length_cons, List.length_nil] at hln
        generalize g (ks.getD j 0) = E at *
        generalize ks.getD j 0 = Z at *
        have n0 : ¬ 9223372036854775807 < A.size + 2 := by omega
        have n1 : ¬ 9223372036854775807 < A.size + 2 + E.length := by omega
        clear hA hnx hln hlj HC HTK HLN HKC m0 m1 m3 hAs h0
        have HD : Hid (∀ W, (W.cell? ⟨w.heap.size, 0, none⟩ = some (.slice (some ⟨b, o, none⟩) n vc) ∧ W.cell? ⟨w.heap.size, 1, none⟩ = some (.slice ra rn rc) ∧ W.cell? ⟨w.heap.size + 1, 2, none⟩ = some (.slice (some ⟨kb, ko, none⟩) m kc) ∧ W.cell? ⟨kb, ko + j, none⟩ = some (.int .i64 Z) ∧ Hid (Below w.heap.size w W)) → Calls Tryz.prog 13 #[.agg #[.slice (some ⟨b, o, none⟩) n vc, .slice ra rn rc], .int .i64 Z] W fun e w' => e = .returned (.string ⟨E.toArray⟩) ∧ Below W.heap.size W w') := fun W h => HCj.out W h.2.2.2.2.out
        go_wp2_with fail
        go_region_held3 (fun W => W.cell? ⟨w.heap.size, 0, none⟩ = some (.slice (some ⟨b, o, none⟩) n vc) ∧ W.cell? ⟨w.heap.size, 1, none⟩ = some (.slice ra rn rc) ∧ W.cell? ⟨w.heap.size + 1, 2, none⟩ = some (.slice (some ⟨kb, ko, none⟩) m kc) ∧ W.cell? ⟨kb, ko + j, none⟩ = some (.int .i64 Z) ∧ Hid (Below w.heap.size w W)) (first | exact keep4 hb2 (by assumption) | exact ⟨r0, r1, r3, rk, HWw.out.drew⟩ | assumption) ((go_at_call 13; refine (HD.out _ (by assumption)).mono ?_; rintro e a2 ⟨rfl, hb2⟩))
        have hbf : Below W2.heap.size W2 a2 := HW.out.drew.trans (hb2.mono HW.out.size)
        go_wp2
        go_roundw
        case rel => exact ⟨j + 1, by go_num, by rw [HNX.out], by omega, hbf⟩
        case measure => simp [intOf]; omega
    · obtain rfl : j = m := by omega
      have dk : decide ((j : Int) < (j : Int)) = false := decide_eq_false (by omega)
      obtain ⟨A, hA⟩ : ∃ A : ByteArray, A = ⟨([112, 114, 105, 110, 116, 32] ++ Sh.sep [44, 32] ((ks.take j).map g)).toArray⟩ := ⟨_, rfl⟩
      have HA : Hid (A = ⟨([112, 114, 105, 110, 116, 32] ++ Sh.sep [44, 32] (ks.map g)).toArray⟩) := by show _ = _; rw [hA, HFULL.out]
      rw [← hA]
      clear hA
      go_wp2
      go_ret
      exact ⟨congrArg (fun x => Ending.returned (Value.string x)) HA.out, HWw.out⟩
end PartShH
section PartShI
open Go.RowKit

set_option maxRecDepth 100000 in
set_option maxHeartbeats 4000000 in
theorem showSt_block (v : Value) (ps : List Pi) (ra : Option Addr) (rn rc i : Nat) (w : World) (h : PcsAt w v ps) (hi : i < ps.length) (hl : ps.length ≤ 200) (hop : (ps.getD i Pi.no).op = 24) (hk : 1 ≤ (ps.getD i Pi.no).kids.length) (hk4 : (ps.getD i Pi.no).kids.length ≤ 20)
    (hC : ∀ k, k < (ps.getD i Pi.no).kids.length → ∀ W, Below w.heap.size w W → Calls Tryz.prog 14 #[.agg #[v, .slice ra rn rc], .int .i64 ((ps.getD i Pi.no).kids.getD k 0)] W fun e w' => e = .returned (.string ⟨(Sh.st ps i ((ps.getD i Pi.no).kids.getD k 0).toNat).toArray⟩) ∧ Below W.heap.size W w') (htl : (Sh.st ps (i + 1) i).length ≤ 1000000) :
    Calls Tryz.prog 14 #[.agg #[v, .slice ra rn rc], .int .i64 (i : Int)] w fun e w' => e = .returned (.string ⟨(Sh.st ps (i + 1) i).toArray⟩) ∧ Below w.heap.size w w' := by
  obtain ⟨va, vc, rfl, f⟩ := h
  obtain ⟨b, o, rfl, hb, hp⟩ := f (by omega)
  obtain ⟨kv, p0, p1, p2, ka, kc, rfl, fk⟩ := hp i hi
  obtain ⟨kb, ko, rfl, hkb, hkc⟩ := fk (by omega)
  rw [hop] at p0
  have i1 : (i : Int) < (ps.length : Int) := by omega
  have hE : Sh.st ps (i + 1) i = [123, 32] ++ Sh.sep [59, 32] ((ps.getD i Pi.no).kids.map fun k => Sh.st ps i k.toNat) ++ [32] ++ [125] := by
    rw [Sh.st, if_neg (by rw [hop]; decide), if_neg (by rw [hop]; decide), if_neg (by rw [hop]; decide), if_neg (by rw [hop]; decide), if_neg (by rw [hop]; decide), if_neg (by rw [hop]; decide), if_neg (by rw [hop]; decide), if_neg (by rw [hop]; decide), if_pos (by omega)]
  rw [hE] at htl ⊢
  generalize (ps.getD i Pi.no).text = X at *
  generalize (ps.getD i Pi.no).kids = ks at *
  obtain ⟨g, hg⟩ : ∃ g : Int → List UInt8, g = fun k => Sh.st ps i k.toNat := ⟨_, rfl⟩
  have hge : ∀ k, Sh.st ps i (ks.getD k 0).toNat = g (ks.getD k 0) := fun k => by rw [hg]
  rw [← hg] at htl ⊢
  have HTK : Hid (∀ j, j < ks.length → Sh.sep [59, 32] ((ks.take (j + 1)).map g) = if j = 0 then g (ks.getD j 0) else Sh.sep [59, 32] ((ks.take j).map g) ++ [59, 32] ++ g (ks.getD j 0)) := fun j hj => Sh.sep_take _ _ _ _ hj
  have HLN : Hid (∀ j, j ≤ ks.length → (Sh.sep [59, 32] ((ks.take j).map g)).length ≤ 1000000) := fun j hj => by
    have := Sh.sep_mono [59, 32] g ks j hj
    simp only [List.length_append] at htl
    omega
  have HC : Hid (∀ k, k < ks.length → ∀ W, Below w.heap.size w W → Calls Tryz.prog 14 #[.agg #[.slice (some ⟨b, o, none⟩) ps.length vc, .slice ra rn rc], .int .i64 (ks.getD k 0)] W fun e w' => e = .returned (.string ⟨(g (ks.getD k 0)).toArray⟩) ∧ Below W.heap.size W w') := fun k hk W hW => by rw [← hge]; exact hC k hk W hW
  have HKC : Hid (∀ k, k < ks.length → w.cell? ⟨kb, ko + k, none⟩ = some (.int .i64 (ks.getD k 0))) := hkc
  have HFULL : Hid (ks.take ks.length = ks) := List.take_length
  generalize ps.length = n at *
  obtain ⟨m, hm⟩ : ∃ m, m = ks.length := ⟨_, rfl⟩
  rw [← hm] at HTK HLN HC HKC p2 hk hk4 HFULL
  clear hp fk f hop hE htl hC hge hg hkc hm
  obtain ⟨m0, m1⟩ := blk2 (alloc2_0 w (.cells #[.slice (some ⟨b, o, none⟩) n vc, .slice ra rn rc] 32) (.cells #[.int .i64 24, .string X, .slice (some ⟨kb, ko, none⟩) m kc] 67))
  obtain ⟨-, m2, m3⟩ := blk3 (alloc2_1 w (.cells #[.slice (some ⟨b, o, none⟩) n vc, .slice ra rn rc] 32) (.cells #[.int .i64 24, .string X, .slice (some ⟨kb, ko, none⟩) m kc] 67))
  have HB0 : Hid _ := below2 w (.cells #[.slice (some ⟨b, o, none⟩) n vc, .slice ra rn rc] 32) (.cells #[.int .i64 24, .string X, .slice (some ⟨kb, ko, none⟩) m kc] 67)
  have HS0 : Hid (w.heap.size + 2 = ((w.alloc (.cells #[.slice (some ⟨b, o, none⟩) n vc, .slice ra rn rc] 32)).alloc (.cells #[.int .i64 24, .string X, .slice (some ⟨kb, ko, none⟩) m kc] 67)).heap.size) := by show _ = _; simp
  go_enter Tryz.func14, Tryz.ntmps14
  go_wp2_with fail
  generalize (w.alloc (.cells #[.slice (some ⟨b, o, none⟩) n vc, .slice ra rn rc] 32)).alloc (.cells #[.int .i64 24, .string X, .slice (some ⟨kb, ko, none⟩) m kc] 67) = W2 at *
  clear p0 p1 p2 m2
  go_loopw [9, 10] (fun s k wr => ∃ j : Nat, k = .int .i64 (j : Int) ∧ s = .string ⟨([123, 32] ++ Sh.sep [59, 32] ((ks.take j).map g)).toArray⟩ ∧ j ≤ m ∧ Hid (Below W2.heap.size W2 wr)) (fun _ k _ => m - (intOf k).toNat)
  case atStart => exact ⟨0, rfl, rfl, by omega, Below.refl _ _⟩
  case round =>
    obtain ⟨j, rfl, rfl, hj, HW⟩ := hrel
    have HWw : Hid (Below w.heap.size w wr) := HB0.out.trans (HW.out.mono HB0.out.size)
    have r0 := (HW.out.cell (World.block_lt_of_cell? W2 _ m0)).trans m0
    have r1 := (HW.out.cell (World.block_lt_of_cell? W2 _ m1)).trans m1
    have r3 := (HW.out.cell (World.block_lt_of_cell? W2 _ m3)).trans m3
    by_cases hlt : j < m
    · have rk := (HWw.out.cell hkb).trans (HKC.out j hlt)
      have HCj : Hid (∀ W, Below w.heap.size w W → Calls Tryz.prog 14 #[.agg #[.slice (some ⟨b, o, none⟩) n vc, .slice ra rn rc], .int .i64 (ks.getD j 0)] W fun e w' => e = .returned (.string ⟨(g (ks.getD j 0)).toArray⟩) ∧ Below W.heap.size W w') := HC.out j hlt
      have hnx := HTK.out j hlt
      have hln := HLN.out (j + 1) (by omega)
      have hlj := HLN.out j hj
      have dk : decide ((j : Int) < (m : Int)) = true := decide_eq_true (by omega)
      have iz : (j : Int) < (m : Int) := by omega
      have iy : (0 : Int) ≤ (j : Int) := by omega
      rw [hnx] at hln
      obtain ⟨A, hA⟩ : ∃ A : ByteArray, A = ⟨([123, 32] ++ Sh.sep [59, 32] ((ks.take j).map g)).toArray⟩ := ⟨_, rfl⟩
      have hAs : A.size ≤ 1000010 := by
        rw [hA]
        show ([123, 32] ++ Sh.sep [59, 32] ((ks.take j).map g)).length ≤ _
        simp only [List.length_append, List.length_cons, List.length_nil]
        omega
      by_cases h0 : j = 0
      · have d0 : decide ((0 : Int) < (j : Int)) = false := decide_eq_false (by omega)
        have d0n : decide (0 < j) = false := decide_eq_false (by omega)
        have hz : ¬ 0 < j := by omega
        rw [if_pos h0] at hln hnx
        have HNX : Hid ((⟨([123, 32] ++ Sh.sep [59, 32] ((ks.take (j + 1)).map g)).toArray⟩ : ByteArray) = A ++ ⟨(g (ks.getD j 0)).toArray⟩) := by
          show _ = _
          rw [hnx, hA, h0]
          apply ByteArray.ext
          simp [Sh.sep]
        rw [← hA]
        generalize g (ks.getD j 0) = E at *
        generalize ks.getD j 0 = Z at *
        have n0 : ¬ 9223372036854775807 < A.size + E.length := by omega
        clear hA hnx hln hlj HC HTK HLN HKC m0 m1 m3 hAs h0
        have HD : Hid (∀ W, (W.cell? ⟨w.heap.size, 0, none⟩ = some (.slice (some ⟨b, o, none⟩) n vc) ∧ W.cell? ⟨w.heap.size, 1, none⟩ = some (.slice ra rn rc) ∧ W.cell? ⟨w.heap.size + 1, 2, none⟩ = some (.slice (some ⟨kb, ko, none⟩) m kc) ∧ W.cell? ⟨kb, ko + j, none⟩ = some (.int .i64 Z) ∧ Hid (Below w.heap.size w W)) → Calls Tryz.prog 14 #[.agg #[.slice (some ⟨b, o, none⟩) n vc, .slice ra rn rc], .int .i64 Z] W fun e w' => e = .returned (.string ⟨E.toArray⟩) ∧ Below W.heap.size W w') := fun W h => HCj.out W h.2.2.2.2.out
        go_wp2_with fail
        go_region_held3 (fun W => W.cell? ⟨w.heap.size, 0, none⟩ = some (.slice (some ⟨b, o, none⟩) n vc) ∧ W.cell? ⟨w.heap.size, 1, none⟩ = some (.slice ra rn rc) ∧ W.cell? ⟨w.heap.size + 1, 2, none⟩ = some (.slice (some ⟨kb, ko, none⟩) m kc) ∧ W.cell? ⟨kb, ko + j, none⟩ = some (.int .i64 Z) ∧ Hid (Below w.heap.size w W)) (first | exact keep4 hb2 (by assumption) | exact ⟨r0, r1, r3, rk, HWw.out.drew⟩ | assumption) ((go_at_call 14; refine (HD.out _ (by assumption)).mono ?_; rintro e a2 ⟨rfl, hb2⟩))
        have hbf : Below W2.heap.size W2 a2 := HW.out.drew.trans (hb2.mono HW.out.size)
        go_wp2
        go_roundw
        case rel => exact ⟨j + 1, by go_num, by rw [HNX.out], by omega, hbf⟩
        case measure => simp [intOf]; omega
      · have d0 : decide ((0 : Int) < (j : Int)) = true := decide_eq_true (by omega)
        have d0n : decide (0 < j) = true := decide_eq_true (by omega)
        have hz : 0 < j := by omega
        rw [if_neg h0] at hln hnx
        have HNX : Hid ((⟨([123, 32] ++ Sh.sep [59, 32] ((ks.take (j + 1)).map g)).toArray⟩ : ByteArray) = A ++ ⟨#[59, 32]⟩ ++ ⟨(g (ks.getD j 0)).toArray⟩) := by
          show _ = _
          rw [hnx, hA]
          apply ByteArray.ext
          simp
        rw [← hA]
        simp only [List.length_append, List.length_cons, List.length_nil] at hln
        generalize g (ks.getD j 0) = E at *
        generalize ks.getD j 0 = Z at *
        have n0 : ¬ 9223372036854775807 < A.size + 2 := by omega
        have n1 : ¬ 9223372036854775807 < A.size + 2 + E.length := by omega
        clear hA hnx hln hlj HC HTK HLN HKC m0 m1 m3 hAs h0
        have HD : Hid (∀ W, (W.cell? ⟨w.heap.size, 0, none⟩ = some (.slice (some ⟨b, o, none⟩) n vc) ∧ W.cell? ⟨w.heap.size, 1, none⟩ = some (.slice ra rn rc) ∧ W.cell? ⟨w.heap.size + 1, 2, none⟩ = some (.slice (some ⟨kb, ko, none⟩) m kc) ∧ W.cell? ⟨kb, ko + j, none⟩ = some (.int .i64 Z) ∧ Hid (Below w.heap.size w W)) → Calls Tryz.prog 14 #[.agg #[.slice (some ⟨b, o, none⟩) n vc, .slice ra rn rc], .int .i64 Z] W fun e w' => e = .returned (.string ⟨E.toArray⟩) ∧ Below W.heap.size W w') := fun W h => HCj.out W h.2.2.2.2.out
        go_wp2_with fail
        go_region_held3 (fun W => W.cell? ⟨w.heap.size, 0, none⟩ = some (.slice (some ⟨b, o, none⟩) n vc) ∧ W.cell? ⟨w.heap.size, 1, none⟩ = some (.slice ra rn rc) ∧ W.cell? ⟨w.heap.size + 1, 2, none⟩ = some (.slice (some ⟨kb, ko, none⟩) m kc) ∧ W.cell? ⟨kb, ko + j, none⟩ = some (.int .i64 Z) ∧ Hid (Below w.heap.size w W)) (first | exact keep4 hb2 (by assumption) | exact ⟨r0, r1, r3, rk, HWw.out.drew⟩ | assumption) ((go_at_call 14; refine (HD.out _ (by assumption)).mono ?_; rintro e a2 ⟨rfl, hb2⟩))
        have hbf : Below W2.heap.size W2 a2 := HW.out.drew.trans (hb2.mono HW.out.size)
        go_wp2
        go_roundw
        case rel => exact ⟨j + 1, by go_num, by rw [HNX.out], by omega, hbf⟩
        case measure => simp [intOf]; omega
    · obtain rfl : j = m := by omega
      have dk : decide ((j : Int) < (j : Int)) = false := decide_eq_false (by omega)
      obtain ⟨A, hA⟩ : ∃ A : ByteArray, A = ⟨([123, 32] ++ Sh.sep [59, 32] ((ks.take j).map g)).toArray⟩ := ⟨_, rfl⟩
      have HA : Hid ((A ++ ⟨#[32]⟩) ++ ⟨#[125]⟩ = ⟨([123, 32] ++ Sh.sep [59, 32] (ks.map g) ++ [32] ++ [125]).toArray⟩) := by
        show _ = _
        rw [hA, HFULL.out]
        apply ByteArray.ext
        simp
      have hAs : A.size ≤ 1000010 := by
        rw [hA]
        show ([123, 32] ++ Sh.sep [59, 32] ((ks.take j).map g)).length ≤ _
        have := HLN.out j (Nat.le_refl _)
        simp only [List.length_append, List.length_cons, List.length_nil]
        omega
      have n0 : ¬ 9223372036854775807 < A.size + 1 := by omega
      have n1 : ¬ 9223372036854775807 < A.size + 1 + 1 := by omega
      have dm : decide ((0 : Int) < (j : Int)) = true := decide_eq_true (by omega)
      have dmn : decide (0 < j) = true := decide_eq_true (by omega)
      have hz : 0 < j := by omega
      rw [← hA]
      clear hA
      go_wp2
      go_ret
      exact ⟨congrArg (fun x => Ending.returned (Value.string x)) HA.out, HWw.out⟩
end PartShI
section PartShJ
open Go.RowKit

set_option maxRecDepth 100000 in
set_option maxHeartbeats 4000000 in
theorem showSt_if2 (v : Value) (ps : List Pi) (ra : Option Addr) (rn rc i : Nat) (w : World) (h : PcsAt w v ps) (hi : i < ps.length) (hl : ps.length ≤ 200) (hop : (ps.getD i Pi.no).op = 22) (hk : (ps.getD i Pi.no).kids.length = 2) (hkz0 : 0 ≤ (ps.getD i Pi.no).kids.getD 0 0) (hC0 : ∀ W, Below w.heap.size w W → Calls Tryz.prog 13 #[.agg #[v, .slice ra rn rc], .int .i64 (Sh.kid (ps.getD i Pi.no) 0 : Int)] W fun e w' => e = .returned (.string ⟨(Sh.exC ps (Sh.kid (ps.getD i Pi.no) 0)).toArray⟩) ∧ Below W.heap.size W w') (hkz1 : 0 ≤ (ps.getD i Pi.no).kids.getD 1 0) (hC1 : ∀ W, Below w.heap.size w W → Calls Tryz.prog 14 #[.agg #[v, .slice ra rn rc], .int .i64 (Sh.kid (ps.getD i Pi.no) 1 : Int)] W fun e w' => e = .returned (.string ⟨(Sh.st ps i (Sh.kid (ps.getD i Pi.no) 1)).toArray⟩) ∧ Below W.heap.size W w') (htl : (Sh.st ps (i + 1) i).length ≤ 1000000) :
    Calls Tryz.prog 14 #[.agg #[v, .slice ra rn rc], .int .i64 (i : Int)] w fun e w' => e = .returned (.string ⟨(Sh.st ps (i + 1) i).toArray⟩) ∧ Below w.heap.size w w' := by
  obtain ⟨va, vc, rfl, f⟩ := h
  obtain ⟨b, o, rfl, hb, hp⟩ := f (by omega)
  obtain ⟨kv, p0, p1, p2, ka, kc, rfl, fk⟩ := hp i hi
  obtain ⟨kb, ko, rfl, hkb, hkc⟩ := fk (by omega)
  have q0 := hkc 0 (by omega)
  rw [Nat.add_zero] at q0
  have q1 := hkc 1 (by omega)

  have hE : Sh.st ps (i + 1) i = [105, 102, 32, 40] ++ Sh.exC ps (Sh.kid (ps.getD i Pi.no) 0) ++ [41, 32] ++ Sh.st ps i (Sh.kid (ps.getD i Pi.no) 1) ++ [] := by
    rw [Sh.st, if_neg (by rw [hop]; decide), if_neg (by rw [hop]; decide), if_neg (by rw [hop]; decide), if_neg (by rw [hop]; decide), if_neg (by rw [hop]; decide), if_pos hop, if_neg (by omega)]
  rw [hk] at p2
  rw [hop] at p0
  have i1 : (i : Int) < (ps.length : Int) := by omega
  rw [hE] at htl ⊢
  have ekz0 : ((Sh.kid (ps.getD i Pi.no) 0 : Nat) : Int) = (ps.getD i Pi.no).kids.getD 0 0 := by unfold Sh.kid; omega
  rw [ekz0] at hC0
  generalize (Sh.exC ps (Sh.kid (ps.getD i Pi.no) 0)) = E0 at *
  have ekz1 : ((Sh.kid (ps.getD i Pi.no) 1 : Nat) : Int) = (ps.getD i Pi.no).kids.getD 1 0 := by unfold Sh.kid; omega
  rw [ekz1] at hC1
  generalize (Sh.st ps i (Sh.kid (ps.getD i Pi.no) 1)) = E1 at *
  generalize (ps.getD i Pi.no).text = X at *
  generalize (ps.getD i Pi.no).kids.getD 0 0 = Z0 at *
  generalize (ps.getD i Pi.no).kids.getD 1 0 = Z1 at *
  simp only [List.length_append, List.length_cons, List.length_nil] at htl
  have n0 : ¬ 9223372036854775807 < 4 + E0.length := by omega
  have n1 : ¬ 9223372036854775807 < 4 + E0.length + 2 := by omega
  have n2 : ¬ 9223372036854775807 < 4 + E0.length + 2 + E1.length := by omega
  have HC0 : Hid (∀ W, Below w.heap.size w W → Calls Tryz.prog 13 #[.agg #[.slice (some ⟨b, o, none⟩) ps.length vc, .slice ra rn rc], .int .i64 Z0] W fun e w' => e = .returned (.string ⟨E0.toArray⟩) ∧ Below W.heap.size W w') := hC0
  have HC1 : Hid (∀ W, Below w.heap.size w W → Calls Tryz.prog 14 #[.agg #[.slice (some ⟨b, o, none⟩) ps.length vc, .slice ra rn rc], .int .i64 Z1] W fun e w' => e = .returned (.string ⟨E1.toArray⟩) ∧ Below W.heap.size W w') := hC1
  generalize ps.length = n at *
  clear hp fk f hop hk hE htl hkc hC0 ekz0 hkz0 hC1 ekz1 hkz1
  obtain ⟨m0, m1⟩ := blk2 (alloc2_0 w (.cells #[.slice (some ⟨b, o, none⟩) n vc, .slice ra rn rc] 32) (.cells #[.int .i64 22, .string X, .slice (some ⟨kb, ko, none⟩) 2 kc] 67))
  obtain ⟨-, -, m3⟩ := blk3 (alloc2_1 w (.cells #[.slice (some ⟨b, o, none⟩) n vc, .slice ra rn rc] 32) (.cells #[.int .i64 22, .string X, .slice (some ⟨kb, ko, none⟩) 2 kc] 67))
  have hb0 := below2 w (.cells #[.slice (some ⟨b, o, none⟩) n vc, .slice ra rn rc] 32) (.cells #[.int .i64 22, .string X, .slice (some ⟨kb, ko, none⟩) 2 kc] 67)
  have m4 := (hb0.cell hkb).trans q0
  have m6 := (hb0.cell hkb).trans q1

  have HB0 : Hid _ := hb0
  clear hb0
  have HD0 : Hid (∀ W, (W.cell? ⟨w.heap.size, 0, none⟩ = some (.slice (some ⟨b, o, none⟩) n vc) ∧ W.cell? ⟨w.heap.size, 1, none⟩ = some (.slice ra rn rc) ∧ W.cell? ⟨w.heap.size + 1, 2, none⟩ = some (.slice (some ⟨kb, ko, none⟩) 2 kc) ∧ W.cell? ⟨kb, ko, none⟩ = some (.int .i64 Z0) ∧ W.cell? ⟨kb, ko + 1, none⟩ = some (.int .i64 Z1) ∧ Hid (Below w.heap.size w W)) → Calls Tryz.prog 13 #[.agg #[.slice (some ⟨b, o, none⟩) n vc, .slice ra rn rc], .int .i64 Z0] W fun e w' => e = .returned (.string ⟨E0.toArray⟩) ∧ Below W.heap.size W w') := fun W h => HC0.out W h.2.2.2.2.2.out
  have HD1 : Hid (∀ W, (W.cell? ⟨w.heap.size, 0, none⟩ = some (.slice (some ⟨b, o, none⟩) n vc) ∧ W.cell? ⟨w.heap.size, 1, none⟩ = some (.slice ra rn rc) ∧ W.cell? ⟨w.heap.size + 1, 2, none⟩ = some (.slice (some ⟨kb, ko, none⟩) 2 kc) ∧ W.cell? ⟨kb, ko, none⟩ = some (.int .i64 Z0) ∧ W.cell? ⟨kb, ko + 1, none⟩ = some (.int .i64 Z1) ∧ Hid (Below w.heap.size w W)) → Calls Tryz.prog 14 #[.agg #[.slice (some ⟨b, o, none⟩) n vc, .slice ra rn rc], .int .i64 Z1] W fun e w' => e = .returned (.string ⟨E1.toArray⟩) ∧ Below W.heap.size W w') := fun W h => HC1.out W h.2.2.2.2.2.out
  go_enter Tryz.func14, Tryz.ntmps14
  go_wp2_with fail
  generalize (w.alloc (.cells #[.slice (some ⟨b, o, none⟩) n vc, .slice ra rn rc] 32)).alloc (.cells #[.int .i64 22, .string X, .slice (some ⟨kb, ko, none⟩) 2 kc] 67) = W2 at *
  clear HC0 HC1 p0 p1 p2 q0 q1
  go_region_held3 (fun W => W.cell? ⟨w.heap.size, 0, none⟩ = some (.slice (some ⟨b, o, none⟩) n vc) ∧ W.cell? ⟨w.heap.size, 1, none⟩ = some (.slice ra rn rc) ∧ W.cell? ⟨w.heap.size + 1, 2, none⟩ = some (.slice (some ⟨kb, ko, none⟩) 2 kc) ∧ W.cell? ⟨kb, ko, none⟩ = some (.int .i64 Z0) ∧ W.cell? ⟨kb, ko + 1, none⟩ = some (.int .i64 Z1) ∧ Hid (Below w.heap.size w W)) (first | exact keep5 hb3 (keep5 hb2 (by assumption)) | exact keep5 hb3 (by assumption) | exact keep5 hb2 (by assumption) | exact ⟨m0, m1, m3, m4, m6, HB0.out.drew⟩ | assumption) (first | (go_at_call 13; refine (HD0.out _ (by assumption)).mono ?_; rintro e a2 ⟨rfl, hb2⟩) | (go_at_call 14; refine (HD1.out _ (by assumption)).mono ?_; rintro e a3 ⟨rfl, hb3⟩))
  all_goals
    have HBW : Hid (Below W2.heap.size W2 a3) := ((Below.refl _ _).drew).trans (hb2.trans (hb3.mono hb2.size))
    have HBF : Hid (Below w.heap.size w a3) := HB0.out.trans (HBW.out.mono HB0.out.size)
    have s3 := (HBW.out.cell (World.block_lt_of_cell? W2 _ m3)).trans m3
    go_wp2
    go_ret
    refine ⟨?_, HBF.out⟩
    apply congrArg Ending.returned
    apply congrArg Value.string
    apply ByteArray.ext
    simp
set_option maxRecDepth 100000 in
set_option maxHeartbeats 4000000 in
theorem showSt_if3 (v : Value) (ps : List Pi) (ra : Option Addr) (rn rc i : Nat) (w : World) (h : PcsAt w v ps) (hi : i < ps.length) (hl : ps.length ≤ 200) (hop : (ps.getD i Pi.no).op = 22) (hk : (ps.getD i Pi.no).kids.length = 3) (hkz0 : 0 ≤ (ps.getD i Pi.no).kids.getD 0 0) (hC0 : ∀ W, Below w.heap.size w W → Calls Tryz.prog 13 #[.agg #[v, .slice ra rn rc], .int .i64 (Sh.kid (ps.getD i Pi.no) 0 : Int)] W fun e w' => e = .returned (.string ⟨(Sh.exC ps (Sh.kid (ps.getD i Pi.no) 0)).toArray⟩) ∧ Below W.heap.size W w') (hkz1 : 0 ≤ (ps.getD i Pi.no).kids.getD 1 0) (hC1 : ∀ W, Below w.heap.size w W → Calls Tryz.prog 14 #[.agg #[v, .slice ra rn rc], .int .i64 (Sh.kid (ps.getD i Pi.no) 1 : Int)] W fun e w' => e = .returned (.string ⟨(Sh.st ps i (Sh.kid (ps.getD i Pi.no) 1)).toArray⟩) ∧ Below W.heap.size W w') (hkz2 : 0 ≤ (ps.getD i Pi.no).kids.getD 2 0) (hC2 : ∀ W, Below w.heap.size w W → Calls Tryz.prog 14 #[.agg #[v, .slice ra rn rc], .int .i64 (Sh.kid (ps.getD i Pi.no) 2 : Int)] W fun e w' => e = .returned (.string ⟨(Sh.st ps i (Sh.kid (ps.getD i Pi.no) 2)).toArray⟩) ∧ Below W.heap.size W w') (htl : (Sh.st ps (i + 1) i).length ≤ 1000000) :
    Calls Tryz.prog 14 #[.agg #[v, .slice ra rn rc], .int .i64 (i : Int)] w fun e w' => e = .returned (.string ⟨(Sh.st ps (i + 1) i).toArray⟩) ∧ Below w.heap.size w w' := by
  obtain ⟨va, vc, rfl, f⟩ := h
  obtain ⟨b, o, rfl, hb, hp⟩ := f (by omega)
  obtain ⟨kv, p0, p1, p2, ka, kc, rfl, fk⟩ := hp i hi
  obtain ⟨kb, ko, rfl, hkb, hkc⟩ := fk (by omega)
  have q0 := hkc 0 (by omega)
  rw [Nat.add_zero] at q0
  have q1 := hkc 1 (by omega)
  have q2 := hkc 2 (by omega)
  have hE : Sh.st ps (i + 1) i = [105, 102, 32, 40] ++ Sh.exC ps (Sh.kid (ps.getD i Pi.no) 0) ++ [41, 32] ++ Sh.st ps i (Sh.kid (ps.getD i Pi.no) 1) ++ ([32, 101, 108, 115, 101, 32] ++ Sh.st ps i (Sh.kid (ps.getD i Pi.no) 2)) := by
    rw [Sh.st, if_neg (by rw [hop]; decide), if_neg (by rw [hop]; decide), if_neg (by rw [hop]; decide), if_neg (by rw [hop]; decide), if_neg (by rw [hop]; decide), if_pos hop, if_pos (by omega)]
  rw [hk] at p2
  rw [hop] at p0
  have i1 : (i : Int) < (ps.length : Int) := by omega
  rw [hE] at htl ⊢
  have ekz0 : ((Sh.kid (ps.getD i Pi.no) 0 : Nat) : Int) = (ps.getD i Pi.no).kids.getD 0 0 := by unfold Sh.kid; omega
  rw [ekz0] at hC0
  generalize (Sh.exC ps (Sh.kid (ps.getD i Pi.no) 0)) = E0 at *
  have ekz1 : ((Sh.kid (ps.getD i Pi.no) 1 : Nat) : Int) = (ps.getD i Pi.no).kids.getD 1 0 := by unfold Sh.kid; omega
  rw [ekz1] at hC1
  generalize (Sh.st ps i (Sh.kid (ps.getD i Pi.no) 1)) = E1 at *
  have ekz2 : ((Sh.kid (ps.getD i Pi.no) 2 : Nat) : Int) = (ps.getD i Pi.no).kids.getD 2 0 := by unfold Sh.kid; omega
  rw [ekz2] at hC2
  generalize (Sh.st ps i (Sh.kid (ps.getD i Pi.no) 2)) = E2 at *
  generalize (ps.getD i Pi.no).text = X at *
  generalize (ps.getD i Pi.no).kids.getD 0 0 = Z0 at *
  generalize (ps.getD i Pi.no).kids.getD 1 0 = Z1 at *
  generalize (ps.getD i Pi.no).kids.getD 2 0 = Z2 at *
  simp only [List.length_append, List.length_cons, List.length_nil] at htl
  have n0 : ¬ 9223372036854775807 < 4 + E0.length := by omega
  have n1 : ¬ 9223372036854775807 < 4 + E0.length + 2 := by omega
  have n2 : ¬ 9223372036854775807 < 4 + E0.length + 2 + E1.length := by omega
  have n3 : ¬ 9223372036854775807 < 4 + E0.length + 2 + E1.length + 6 := by omega
  have n4 : ¬ 9223372036854775807 < 4 + E0.length + 2 + E1.length + 6 + E2.length := by omega
  have HC0 : Hid (∀ W, Below w.heap.size w W → Calls Tryz.prog 13 #[.agg #[.slice (some ⟨b, o, none⟩) ps.length vc, .slice ra rn rc], .int .i64 Z0] W fun e w' => e = .returned (.string ⟨E0.toArray⟩) ∧ Below W.heap.size W w') := hC0
  have HC1 : Hid (∀ W, Below w.heap.size w W → Calls Tryz.prog 14 #[.agg #[.slice (some ⟨b, o, none⟩) ps.length vc, .slice ra rn rc], .int .i64 Z1] W fun e w' => e = .returned (.string ⟨E1.toArray⟩) ∧ Below W.heap.size W w') := hC1
  have HC2 : Hid (∀ W, Below w.heap.size w W → Calls Tryz.prog 14 #[.agg #[.slice (some ⟨b, o, none⟩) ps.length vc, .slice ra rn rc], .int .i64 Z2] W fun e w' => e = .returned (.string ⟨E2.toArray⟩) ∧ Below W.heap.size W w') := hC2
  generalize ps.length = n at *
  clear hp fk f hop hk hE htl hkc hC0 ekz0 hkz0 hC1 ekz1 hkz1 hC2 ekz2 hkz2
  obtain ⟨m0, m1⟩ := blk2 (alloc2_0 w (.cells #[.slice (some ⟨b, o, none⟩) n vc, .slice ra rn rc] 32) (.cells #[.int .i64 22, .string X, .slice (some ⟨kb, ko, none⟩) 3 kc] 67))
  obtain ⟨-, -, m3⟩ := blk3 (alloc2_1 w (.cells #[.slice (some ⟨b, o, none⟩) n vc, .slice ra rn rc] 32) (.cells #[.int .i64 22, .string X, .slice (some ⟨kb, ko, none⟩) 3 kc] 67))
  have hb0 := below2 w (.cells #[.slice (some ⟨b, o, none⟩) n vc, .slice ra rn rc] 32) (.cells #[.int .i64 22, .string X, .slice (some ⟨kb, ko, none⟩) 3 kc] 67)
  have m4 := (hb0.cell hkb).trans q0
  have m6 := (hb0.cell hkb).trans q1
  have m8 := (hb0.cell hkb).trans q2
  have HB0 : Hid _ := hb0
  clear hb0
  have HD0 : Hid (∀ W, (W.cell? ⟨w.heap.size, 0, none⟩ = some (.slice (some ⟨b, o, none⟩) n vc) ∧ W.cell? ⟨w.heap.size, 1, none⟩ = some (.slice ra rn rc) ∧ W.cell? ⟨w.heap.size + 1, 2, none⟩ = some (.slice (some ⟨kb, ko, none⟩) 3 kc) ∧ W.cell? ⟨kb, ko, none⟩ = some (.int .i64 Z0) ∧ W.cell? ⟨kb, ko + 1, none⟩ = some (.int .i64 Z1) ∧ Hid (Below w.heap.size w W)) → Calls Tryz.prog 13 #[.agg #[.slice (some ⟨b, o, none⟩) n vc, .slice ra rn rc], .int .i64 Z0] W fun e w' => e = .returned (.string ⟨E0.toArray⟩) ∧ Below W.heap.size W w') := fun W h => HC0.out W h.2.2.2.2.2.out
  have HD1 : Hid (∀ W, (W.cell? ⟨w.heap.size, 0, none⟩ = some (.slice (some ⟨b, o, none⟩) n vc) ∧ W.cell? ⟨w.heap.size, 1, none⟩ = some (.slice ra rn rc) ∧ W.cell? ⟨w.heap.size + 1, 2, none⟩ = some (.slice (some ⟨kb, ko, none⟩) 3 kc) ∧ W.cell? ⟨kb, ko, none⟩ = some (.int .i64 Z0) ∧ W.cell? ⟨kb, ko + 1, none⟩ = some (.int .i64 Z1) ∧ Hid (Below w.heap.size w W)) → Calls Tryz.prog 14 #[.agg #[.slice (some ⟨b, o, none⟩) n vc, .slice ra rn rc], .int .i64 Z1] W fun e w' => e = .returned (.string ⟨E1.toArray⟩) ∧ Below W.heap.size W w') := fun W h => HC1.out W h.2.2.2.2.2.out
  have HD2 : Hid (∀ W, (W.cell? ⟨w.heap.size, 0, none⟩ = some (.slice (some ⟨b, o, none⟩) n vc) ∧ W.cell? ⟨w.heap.size, 1, none⟩ = some (.slice ra rn rc) ∧ W.cell? ⟨w.heap.size + 1, 2, none⟩ = some (.slice (some ⟨kb, ko, none⟩) 3 kc) ∧ W.cell? ⟨kb, ko + 2, none⟩ = some (.int .i64 Z2) ∧ Hid (Below w.heap.size w W)) → Calls Tryz.prog 14 #[.agg #[.slice (some ⟨b, o, none⟩) n vc, .slice ra rn rc], .int .i64 Z2] W fun e w' => e = .returned (.string ⟨E2.toArray⟩) ∧ Below W.heap.size W w') := fun W h => HC2.out W h.2.2.2.2.out
  go_enter Tryz.func14, Tryz.ntmps14
  go_wp2_with fail
  generalize (w.alloc (.cells #[.slice (some ⟨b, o, none⟩) n vc, .slice ra rn rc] 32)).alloc (.cells #[.int .i64 22, .string X, .slice (some ⟨kb, ko, none⟩) 3 kc] 67) = W2 at *
  clear HC0 HC1 p0 p1 p2 q0 q1 HC2 q2
  go_region_held3 (fun W => W.cell? ⟨w.heap.size, 0, none⟩ = some (.slice (some ⟨b, o, none⟩) n vc) ∧ W.cell? ⟨w.heap.size, 1, none⟩ = some (.slice ra rn rc) ∧ W.cell? ⟨w.heap.size + 1, 2, none⟩ = some (.slice (some ⟨kb, ko, none⟩) 3 kc) ∧ W.cell? ⟨kb, ko, none⟩ = some (.int .i64 Z0) ∧ W.cell? ⟨kb, ko + 1, none⟩ = some (.int .i64 Z1) ∧ Hid (Below w.heap.size w W)) (first | exact keep5 hb3 (keep5 hb2 (by assumption)) | exact keep5 hb3 (by assumption) | exact keep5 hb2 (by assumption) | exact ⟨m0, m1, m3, m4, m6, HB0.out.drew⟩ | assumption) (first | (go_at_call 13; refine (HD0.out _ (by assumption)).mono ?_; rintro e a2 ⟨rfl, hb2⟩) | (go_at_call 14; refine (HD1.out _ (by assumption)).mono ?_; rintro e a3 ⟨rfl, hb3⟩))
  all_goals
    have HBW : Hid (Below W2.heap.size W2 a3) := ((Below.refl _ _).drew).trans (hb2.trans (hb3.mono hb2.size))
    have HBF : Hid (Below w.heap.size w a3) := HB0.out.trans (HBW.out.mono HB0.out.size)
    have s3 := (HBW.out.cell (World.block_lt_of_cell? W2 _ m3)).trans m3
    have s0 := (HBW.out.cell (World.block_lt_of_cell? W2 _ m0)).trans m0
    have s1 := (HBW.out.cell (World.block_lt_of_cell? W2 _ m1)).trans m1
    have s8 := (HBW.out.cell (World.block_lt_of_cell? W2 _ m8)).trans m8
    clear m0 m1 m3 m4 m6 m8 hb2 hb3
    go_wp2_with fail
    go_region_held3 (fun W => W.cell? ⟨w.heap.size, 0, none⟩ = some (.slice (some ⟨b, o, none⟩) n vc) ∧ W.cell? ⟨w.heap.size, 1, none⟩ = some (.slice ra rn rc) ∧ W.cell? ⟨w.heap.size + 1, 2, none⟩ = some (.slice (some ⟨kb, ko, none⟩) 3 kc) ∧ W.cell? ⟨kb, ko + 2, none⟩ = some (.int .i64 Z2) ∧ Hid (Below w.heap.size w W)) (first | exact keep4 hb5 (by assumption) | exact ⟨s0, s1, s3, s8, HBF.out.drew⟩ | assumption) ((go_at_call 14; refine (HD2.out _ (by assumption)).mono ?_; rintro e a5 ⟨rfl, hb5⟩))
    have hbf : Below w.heap.size w a5 := HBF.out.drew.trans (hb5.mono HBF.out.size)
    go_wp2
    go_ret
    refine ⟨?_, hbf⟩
    apply congrArg Ending.returned
    apply congrArg Value.string
    apply ByteArray.ext
    simp
set_option maxRecDepth 100000 in
set_option maxHeartbeats 4000000 in
theorem showSt_block0 (v : Value) (ps : List Pi) (ra : Option Addr) (rn rc i : Nat) (w : World) (h : PcsAt w v ps) (hi : i < ps.length) (hl : ps.length ≤ 200) (hop : (ps.getD i Pi.no).op = 24) (hk : (ps.getD i Pi.no).kids.length = 0) :
    Calls Tryz.prog 14 #[.agg #[v, .slice ra rn rc], .int .i64 (i : Int)] w fun e w' => e = .returned (.string ⟨(Sh.st ps (i + 1) i).toArray⟩) ∧ Below w.heap.size w w' := by
  obtain ⟨va, vc, rfl, f⟩ := h
  obtain ⟨b, o, rfl, hb, hp⟩ := f (by omega)
  obtain ⟨kv, p0, p1, p2, ka, kc, rfl, fk⟩ := hp i hi
  have hks : (ps.getD i Pi.no).kids = [] := List.eq_nil_of_length_eq_zero hk
  have hE : Sh.st ps (i + 1) i = [123, 32, 125] := by
    rw [Sh.st, if_neg (by rw [hop]; decide), if_neg (by rw [hop]; decide), if_neg (by rw [hop]; decide), if_neg (by rw [hop]; decide), if_neg (by rw [hop]; decide), if_neg (by rw [hop]; decide), if_neg (by rw [hop]; decide), if_neg (by rw [hop]; decide), hks]
    rfl
  rw [hk] at p2
  rw [hop] at p0
  rw [hE]
  have i1 : (i : Int) < (ps.length : Int) := by omega
  generalize (ps.getD i Pi.no).text = X at *
  generalize ps.length = n at *
  clear hp fk f hop hk hE hks
  obtain ⟨-, -, m3⟩ := blk3 (alloc2_1 w (.cells #[.slice (some ⟨b, o, none⟩) n vc, .slice ra rn rc] 32) (.cells #[.int .i64 24, .string X, .slice ka 0 kc] 67))
  have HB0 : Hid _ := below2 w (.cells #[.slice (some ⟨b, o, none⟩) n vc, .slice ra rn rc] 32) (.cells #[.int .i64 24, .string X, .slice ka 0 kc] 67)
  go_enter Tryz.func14, Tryz.ntmps14
  go_wp2_with fail
  generalize (w.alloc (.cells #[.slice (some ⟨b, o, none⟩) n vc, .slice ra rn rc] 32)).alloc (.cells #[.int .i64 24, .string X, .slice ka 0 kc] 67) = W2 at *
  go_loopw [9, 10] (fun s k wr => k = .int .i64 0 ∧ s = .string ⟨#[123, 32]⟩ ∧ wr = W2) (fun _ _ _ => 0)
  case atStart => exact ⟨rfl, rfl, rfl⟩
  case round =>
    obtain ⟨rfl, rfl, rfl⟩ := hrel
    go_wp2
    go_ret
    exact ⟨rfl, HB0.out⟩
end PartShJ
end Go.Proofs.YtknojhmnadmilaaGreatDoor
