/- Are two stores the same: the specification's SameStore. When a store is right: whether a list ascends. When a store is right: the specification. -/
import Derived.Test.YtehagonaacbmiaaGreatMPRjZam
import Derived.Test.YtehagonaacbmiaaGreatMPRjZan
import Derived.Test.YtehagonaacbmiaaGreatMPRjCdA
namespace Go.Proofs.YtehagonaacbmiaaGreat
section PartEqB
open Go.RowKit

theorem VrAt.row {w : World} {a : Option Addr} {n c : Nat} {xs : List Vr} (h : VrAt w (.slice a n c) xs) (hn : xs.length = n) {j : Nat} (hj : j < n) : ∃ b o, a = some ⟨b, o, none⟩ ∧ b < w.heap.size ∧ w.cell? ⟨b, o + j * 2, none⟩ = some (.string (xs.getD j Vr.no).name) ∧ w.cell? ⟨b, o + j * 2 + 1, none⟩ = some (.string (xs.getD j Vr.no).val) := by
  obtain ⟨a', c', e, f⟩ := h
  obtain ⟨rfl, rfl, rfl⟩ : a = a' ∧ n = xs.length ∧ c = c' := by simpa using e
  obtain ⟨b, o, rfl, hb, hc⟩ := f (by omega)
  exact ⟨b, o, rfl, hb, hc j hj⟩
theorem ClAt.row {w : World} {a : Option Addr} {n c : Nat} {xs : List Cl} (h : ClAt w (.slice a n c) xs) (hn : xs.length = n) {j : Nat} (hj : j < n) : ∃ b o, a = some ⟨b, o, none⟩ ∧ b < w.heap.size ∧ w.cell? ⟨b, o + j * 3, none⟩ = some (.string (xs.getD j Cl.no).name) ∧ w.cell? ⟨b, o + j * 3 + 1, none⟩ = some (.string (xs.getD j Cl.no).key) ∧ w.cell? ⟨b, o + j * 3 + 2, none⟩ = some (.string (xs.getD j Cl.no).val) := by
  obtain ⟨a', c', e, f⟩ := h
  obtain ⟨rfl, rfl, rfl⟩ : a = a' ∧ n = xs.length ∧ c = c' := by simpa using e
  obtain ⟨b, o, rfl, hb, hc⟩ := f (by omega)
  exact ⟨b, o, rfl, hb, hc j hj⟩

end PartEqB
section PartOkC
open Go.RowKit

theorem cell_go {W W' : World} {p : Addr} {u : Value} (hb : Below W.heap.size W W') (h : W.cell? p = some u) : W'.cell? p = some u := (hb.cell (World.block_lt_of_cell? W _ h)).trans h
theorem keepS4 {w W W' : World} {p0 p1 p2 p3 : Addr} {u0 u1 u2 u3 : Value} (hb : Below W.heap.size W W') (h : W.cell? p0 = some u0 ∧ W.cell? p1 = some u1 ∧ W.cell? p2 = some u2 ∧ W.cell? p3 = some u3 ∧ Hid (Below w.heap.size w W)) :
    W'.cell? p0 = some u0 ∧ W'.cell? p1 = some u1 ∧ W'.cell? p2 = some u2 ∧ W'.cell? p3 = some u3 ∧ Hid (Below w.heap.size w W') :=
  ⟨cell_go hb h.1, cell_go hb h.2.1, cell_go hb h.2.2.1, cell_go hb h.2.2.2.1, h.2.2.2.2.out.trans (hb.mono h.2.2.2.2.out.size)⟩
theorem lastS4 {w W : World} {p0 p1 p2 p3 : Addr} {u0 u1 u2 u3 : Value} (h : W.cell? p0 = some u0 ∧ W.cell? p1 = some u1 ∧ W.cell? p2 = some u2 ∧ W.cell? p3 = some u3 ∧ Hid (Below w.heap.size w W)) : Hid (Below w.heap.size w W) := h.2.2.2.2
theorem lastS6 {w W : World} {p0 p1 p2 p3 p4 p5 : Addr} {u0 u1 u2 u3 u4 u5 : Value} (h : W.cell? p0 = some u0 ∧ W.cell? p1 = some u1 ∧ W.cell? p2 = some u2 ∧ W.cell? p3 = some u3 ∧ W.cell? p4 = some u4 ∧ W.cell? p5 = some u5 ∧ Hid (Below w.heap.size w W)) : Hid (Below w.heap.size w W) := h.2.2.2.2.2.2
theorem keepS6 {w W W' : World} {p0 p1 p2 p3 p4 p5 : Addr} {u0 u1 u2 u3 u4 u5 : Value} (hb : Below W.heap.size W W') (h : W.cell? p0 = some u0 ∧ W.cell? p1 = some u1 ∧ W.cell? p2 = some u2 ∧ W.cell? p3 = some u3 ∧ W.cell? p4 = some u4 ∧ W.cell? p5 = some u5 ∧ Hid (Below w.heap.size w W)) :
    W'.cell? p0 = some u0 ∧ W'.cell? p1 = some u1 ∧ W'.cell? p2 = some u2 ∧ W'.cell? p3 = some u3 ∧ W'.cell? p4 = some u4 ∧ W'.cell? p5 = some u5 ∧ Hid (Below w.heap.size w W') :=
  ⟨cell_go hb h.1, cell_go hb h.2.1, cell_go hb h.2.2.1, cell_go hb h.2.2.2.1, cell_go hb h.2.2.2.2.1, cell_go hb h.2.2.2.2.2.1, h.2.2.2.2.2.2.out.trans (hb.mono h.2.2.2.2.2.2.out.size)⟩

set_option maxRecDepth 100000 in
set_option maxHeartbeats 4000000 in
theorem ascVar (v : Value) (vs : List Vr) (w : World) (h : VrAt w v vs) (hl : vs.length ≤ 1048576) :
    Calls Tryz.prog 58 #[v] w fun e w' => e = .returned (.bool ((List.range vs.length).all (St.ascV vs))) ∧ Below w.heap.size w w' := by
  have HH : Hid (∀ W, Below w.heap.size w W → VrAt W v vs) := fun W hb => h.keep hb
  obtain ⟨ad, c, rfl, -⟩ := h
  obtain ⟨n, hn⟩ : ∃ n, n = vs.length := ⟨_, rfl⟩
  obtain ⟨V, hV⟩ : ∃ V, V = (List.range vs.length).all (St.ascV vs) := ⟨_, rfl⟩
  have HV : Hid (V = (List.range n).all (St.ascV vs)) := by rw [hn]; exact hV
  have HN : Hid (vs.length = n) := hn.symm
  rw [← hV]
  rw [← hn] at hl HH ⊢
  clear hV hn
  go_enter Tryz.func58, Tryz.ntmps58
  go_wp2
  go_loopw [3] (fun i wr => ∃ r : Nat, i = .int .i64 ((r : Int) + 1) ∧ (r + 1 ≤ n ∨ r = 0) ∧ Hid (Below w.heap.size w wr) ∧ Hid (∀ q, q < r + 1 → St.ascV vs q = true)) (fun i _ => n + 1 - (intOf i).toNat)
  case atStart => exact ⟨0, rfl, .inr rfl, Below.refl _ _, fun q hq => by obtain rfl : q = 0 := (by omega); rfl⟩
  case round =>
    obtain ⟨r, rfl, hr, HW, HJ⟩ := hrel
    by_cases hlt : r + 1 < n
    · obtain ⟨b, of, rfl, hb, t1⟩ := VrAt.row (HH.out _ HW.out) HN.out (show r < n by omega)
      obtain ⟨b', of', e', -, t2⟩ := VrAt.row (HH.out _ HW.out) HN.out hlt
      obtain ⟨rfl, rfl⟩ : b = b' ∧ of = of' := by simpa using e'
      clear e'
      obtain ⟨p, hp⟩ : ∃ p, p = vs.getD r Vr.no := ⟨_, rfl⟩
      obtain ⟨u, hu⟩ : ∃ u, u = vs.getD (r + 1) Vr.no := ⟨_, rfl⟩
      obtain ⟨L, hL⟩ : ∃ L, L = St.ascV vs (r + 1) := ⟨_, rfl⟩
      rw [← hp] at t1
      rw [← hu] at t2
      obtain ⟨p0, p1⟩ := p
      obtain ⟨u0, u1⟩ := u
      simp only at t1 t2
      have HL : Hid (L = St.lt2 p0 ByteArray.empty u0 ByteArray.empty) := by
        show _ = _
        rw [hL]
        unfold St.ascV St.aheadV
        simp only [Nat.add_sub_cancel]
        rw [← hp, ← hu]
        simp
      have HLL : Hid (L = St.ascV vs (r + 1)) := hL
      clear hp hu hL
      have CZ : Hid (∀ W, Calls Tryz.prog 90 #[.agg #[.string p0, .string ⟨#[]⟩], .agg #[.string u0, .string ⟨#[]⟩]] W fun e w' => e = .returned (.int .i64 (St.cmp2 p0 ByteArray.empty u0 ByteArray.empty)) ∧ Below W.heap.size W w') := fun W => compKey _ _ _ _ W
      have hzz : decide (0 ≤ St.cmp2 p0 ByteArray.empty u0 ByteArray.empty) = !L := by rw [HL.out]; exact St.cmp2_is _ _ _ _
      generalize St.cmp2 p0 ByteArray.empty u0 ByteArray.empty = Z at *
      have CF : Hid (∀ W, Calls Tryz.prog 160 #[.agg #[.string p0, .string p1]] W fun e w' => e = .returned (.agg #[.string p0, .string ⟨#[]⟩]) ∧ Below W.heap.size W w') := fun W => foundVar p0 p1 W
      have CG : Hid (∀ W, Calls Tryz.prog 160 #[.agg #[.string u0, .string u1]] W fun e w' => e = .returned (.agg #[.string u0, .string ⟨#[]⟩]) ∧ Below W.heap.size W w') := fun W => foundVar u0 u1 W
      obtain ⟨x0, x1⟩ := t1
      obtain ⟨y0, y1⟩ := t2
      have i1 : (r : Int) + 1 < (n : Int) := by omega
      have i2 : (r : Int) < (n : Int) := by omega
      have hw : IntKind.i64.wrap ((r : Int) + 1 - 1) = (r : Int) := by rw [show (r : Int) + 1 - 1 = (r : Int) by omega]; exact IntWalk.i64_in _ (by omega)
      have hw2 : IntKind.i64.wrap (r : Int) = (r : Int) := IntWalk.i64_in _ (by omega)
      have i3 : (0 : Int) ≤ (r : Int) := by omega
      have i4 : (0 : Int) ≤ (r : Int) + 1 := by omega
      have i5 : ((r : Int) + 1).toNat = r + 1 := by omega
      clear HL hb
      cases L with
      | true =>
        have HNX : Hid (∀ q, q < r + 1 + 1 → St.ascV vs q = true) := fun q h => by
          by_cases e : q = r + 1
          · subst e; exact HLL.out.symm
          · exact HJ.out q (by omega)
        simp only [Bool.not_true] at hzz
        clear HLL HJ
        go_wp2_with fail
        go_region_held3 (fun W => W.cell? ⟨b, of + r * 2, none⟩ = some (.string p0) ∧ W.cell? ⟨b, of + r * 2 + 1, none⟩ = some (.string p1) ∧ W.cell? ⟨b, of + (r + 1) * 2, none⟩ = some (.string u0) ∧ W.cell? ⟨b, of + (r + 1) * 2 + 1, none⟩ = some (.string u1) ∧ Hid (Below w.heap.size w W)) (first | exact keepS4 hb1 (by assumption) | exact ⟨x0, x1, y0, y1, HW.out.drew⟩ | assumption) ((first | (go_at_call_of 160 (Value.agg #[Value.string p0, Value.string p1]); refine (CF.out _).mono ?_; rintro e w1 ⟨rfl, hb1⟩) | (go_at_call_of 160 (Value.agg #[Value.string u0, Value.string u1]); refine (CG.out _).mono ?_; rintro e w1 ⟨rfl, hb1⟩) | (go_at_call 90; refine (CZ.out _).mono ?_; rintro e w1 ⟨rfl, hb1⟩)))
        all_goals
          have HB9 : Hid (Below w.heap.size w w1) := lastS4 (by assumption)
          go_wp2
          go_roundw
          case rel => exact ⟨r + 1, by go_num, .inl (by omega), HB9, HNX⟩
          case measure => simp [intOf]; omega
      | false =>
        have HR : Hid (V = false) := HV.out.trans (St.all_no hlt HLL.out.symm)
        simp only [Bool.not_false] at hzz
        clear HLL HJ
        go_wp2_with fail
        go_region_held3 (fun W => W.cell? ⟨b, of + r * 2, none⟩ = some (.string p0) ∧ W.cell? ⟨b, of + r * 2 + 1, none⟩ = some (.string p1) ∧ W.cell? ⟨b, of + (r + 1) * 2, none⟩ = some (.string u0) ∧ W.cell? ⟨b, of + (r + 1) * 2 + 1, none⟩ = some (.string u1) ∧ Hid (Below w.heap.size w W)) (first | exact keepS4 hb1 (by assumption) | exact ⟨x0, x1, y0, y1, HW.out.drew⟩ | assumption) ((first | (go_at_call_of 160 (Value.agg #[Value.string p0, Value.string p1]); refine (CF.out _).mono ?_; rintro e w1 ⟨rfl, hb1⟩) | (go_at_call_of 160 (Value.agg #[Value.string u0, Value.string u1]); refine (CG.out _).mono ?_; rintro e w1 ⟨rfl, hb1⟩) | (go_at_call 90; refine (CZ.out _).mono ?_; rintro e w1 ⟨rfl, hb1⟩)))
        all_goals
          have HB9 : Hid (Below w.heap.size w w1) := lastS4 (by assumption)
          go_wp2
          go_ret
          exact ⟨by rw [HR.out]; rfl, HB9.out⟩
    · have HR : Hid (V = true) := HV.out.trans (St.all_yes fun q hq => HJ.out q (by omega))
      have i1 : ¬ ((r : Int) + 1 < (n : Int)) := by omega
      go_wp2
      go_ret
      exact ⟨by rw [HR.out]; rfl, HW.out⟩

set_option maxRecDepth 100000 in
set_option maxHeartbeats 4000000 in
theorem ascCell (v : Value) (vs : List Cl) (w : World) (h : ClAt w v vs) (hl : vs.length ≤ 1048576) :
    Calls Tryz.prog 59 #[v] w fun e w' => e = .returned (.bool ((List.range vs.length).all (St.ascC vs))) ∧ Below w.heap.size w w' := by
  have HH : Hid (∀ W, Below w.heap.size w W → ClAt W v vs) := fun W hb => h.keep hb
  obtain ⟨ad, c, rfl, -⟩ := h
  obtain ⟨n, hn⟩ : ∃ n, n = vs.length := ⟨_, rfl⟩
  obtain ⟨V, hV⟩ : ∃ V, V = (List.range vs.length).all (St.ascC vs) := ⟨_, rfl⟩
  have HV : Hid (V = (List.range n).all (St.ascC vs)) := by rw [hn]; exact hV
  have HN : Hid (vs.length = n) := hn.symm
  rw [← hV]
  rw [← hn] at hl HH ⊢
  clear hV hn
  go_enter Tryz.func59, Tryz.ntmps59
  go_wp2
  go_loopw [3] (fun i wr => ∃ r : Nat, i = .int .i64 ((r : Int) + 1) ∧ (r + 1 ≤ n ∨ r = 0) ∧ Hid (Below w.heap.size w wr) ∧ Hid (∀ q, q < r + 1 → St.ascC vs q = true)) (fun i _ => n + 1 - (intOf i).toNat)
  case atStart => exact ⟨0, rfl, .inr rfl, Below.refl _ _, fun q hq => by obtain rfl : q = 0 := (by omega); rfl⟩
  case round =>
    obtain ⟨r, rfl, hr, HW, HJ⟩ := hrel
    by_cases hlt : r + 1 < n
    · obtain ⟨b, of, rfl, hb, t1⟩ := ClAt.row (HH.out _ HW.out) HN.out (show r < n by omega)
      obtain ⟨b', of', e', -, t2⟩ := ClAt.row (HH.out _ HW.out) HN.out hlt
      obtain ⟨rfl, rfl⟩ : b = b' ∧ of = of' := by simpa using e'
      clear e'
      obtain ⟨p, hp⟩ : ∃ p, p = vs.getD r Cl.no := ⟨_, rfl⟩
      obtain ⟨u, hu⟩ : ∃ u, u = vs.getD (r + 1) Cl.no := ⟨_, rfl⟩
      obtain ⟨L, hL⟩ : ∃ L, L = St.ascC vs (r + 1) := ⟨_, rfl⟩
      rw [← hp] at t1
      rw [← hu] at t2
      obtain ⟨p0, p1, p2⟩ := p
      obtain ⟨u0, u1, u2⟩ := u
      simp only at t1 t2
      have HL : Hid (L = St.lt2 p0 p1 u0 u1) := by
        show _ = _
        rw [hL]
        unfold St.ascC St.aheadC
        simp only [Nat.add_sub_cancel]
        rw [← hp, ← hu]
        simp
      have HLL : Hid (L = St.ascC vs (r + 1)) := hL
      clear hp hu hL
      have CZ : Hid (∀ W, Calls Tryz.prog 90 #[.agg #[.string p0, .string p1], .agg #[.string u0, .string u1]] W fun e w' => e = .returned (.int .i64 (St.cmp2 p0 p1 u0 u1)) ∧ Below W.heap.size W w') := fun W => compKey _ _ _ _ W
      have hzz : decide (0 ≤ St.cmp2 p0 p1 u0 u1) = !L := by rw [HL.out]; exact St.cmp2_is _ _ _ _
      generalize St.cmp2 p0 p1 u0 u1 = Z at *
      have CF : Hid (∀ W, Calls Tryz.prog 162 #[.agg #[.string p0, .string p1, .string p2]] W fun e w' => e = .returned (.agg #[.string p0, .string p1]) ∧ Below W.heap.size W w') := fun W => foundCell p0 p1 p2 W
      have CG : Hid (∀ W, Calls Tryz.prog 162 #[.agg #[.string u0, .string u1, .string u2]] W fun e w' => e = .returned (.agg #[.string u0, .string u1]) ∧ Below W.heap.size W w') := fun W => foundCell u0 u1 u2 W
      obtain ⟨x0, x1, x2⟩ := t1
      obtain ⟨y0, y1, y2⟩ := t2
      have i1 : (r : Int) + 1 < (n : Int) := by omega
      have i2 : (r : Int) < (n : Int) := by omega
      have hw : IntKind.i64.wrap ((r : Int) + 1 - 1) = (r : Int) := by rw [show (r : Int) + 1 - 1 = (r : Int) by omega]; exact IntWalk.i64_in _ (by omega)
      have hw2 : IntKind.i64.wrap (r : Int) = (r : Int) := IntWalk.i64_in _ (by omega)
      have i3 : (0 : Int) ≤ (r : Int) := by omega
      have i4 : (0 : Int) ≤ (r : Int) + 1 := by omega
      have i5 : ((r : Int) + 1).toNat = r + 1 := by omega
      clear HL hb
      cases L with
      | true =>
        have HNX : Hid (∀ q, q < r + 1 + 1 → St.ascC vs q = true) := fun q h => by
          by_cases e : q = r + 1
          · subst e; exact HLL.out.symm
          · exact HJ.out q (by omega)
        simp only [Bool.not_true] at hzz
        clear HLL HJ
        go_wp2_with fail
        go_region_held3 (fun W => W.cell? ⟨b, of + r * 3, none⟩ = some (.string p0) ∧ W.cell? ⟨b, of + r * 3 + 1, none⟩ = some (.string p1) ∧ W.cell? ⟨b, of + r * 3 + 2, none⟩ = some (.string p2) ∧ W.cell? ⟨b, of + (r + 1) * 3, none⟩ = some (.string u0) ∧ W.cell? ⟨b, of + (r + 1) * 3 + 1, none⟩ = some (.string u1) ∧ W.cell? ⟨b, of + (r + 1) * 3 + 2, none⟩ = some (.string u2) ∧ Hid (Below w.heap.size w W)) (first | exact keepS6 hb1 (by assumption) | exact ⟨x0, x1, x2, y0, y1, y2, HW.out.drew⟩ | assumption) ((first | (go_at_call_of 162 (Value.agg #[Value.string p0, Value.string p1, Value.string p2]); refine (CF.out _).mono ?_; rintro e w1 ⟨rfl, hb1⟩) | (go_at_call_of 162 (Value.agg #[Value.string u0, Value.string u1, Value.string u2]); refine (CG.out _).mono ?_; rintro e w1 ⟨rfl, hb1⟩) | (go_at_call 90; refine (CZ.out _).mono ?_; rintro e w1 ⟨rfl, hb1⟩)))
        all_goals
          have HB9 : Hid (Below w.heap.size w w1) := lastS6 (by assumption)
          go_wp2
          go_roundw
          case rel => exact ⟨r + 1, by go_num, .inl (by omega), HB9, HNX⟩
          case measure => simp [intOf]; omega
      | false =>
        have HR : Hid (V = false) := HV.out.trans (St.all_no hlt HLL.out.symm)
        simp only [Bool.not_false] at hzz
        clear HLL HJ
        go_wp2_with fail
        go_region_held3 (fun W => W.cell? ⟨b, of + r * 3, none⟩ = some (.string p0) ∧ W.cell? ⟨b, of + r * 3 + 1, none⟩ = some (.string p1) ∧ W.cell? ⟨b, of + r * 3 + 2, none⟩ = some (.string p2) ∧ W.cell? ⟨b, of + (r + 1) * 3, none⟩ = some (.string u0) ∧ W.cell? ⟨b, of + (r + 1) * 3 + 1, none⟩ = some (.string u1) ∧ W.cell? ⟨b, of + (r + 1) * 3 + 2, none⟩ = some (.string u2) ∧ Hid (Below w.heap.size w W)) (first | exact keepS6 hb1 (by assumption) | exact ⟨x0, x1, x2, y0, y1, y2, HW.out.drew⟩ | assumption) ((first | (go_at_call_of 162 (Value.agg #[Value.string p0, Value.string p1, Value.string p2]); refine (CF.out _).mono ?_; rintro e w1 ⟨rfl, hb1⟩) | (go_at_call_of 162 (Value.agg #[Value.string u0, Value.string u1, Value.string u2]); refine (CG.out _).mono ?_; rintro e w1 ⟨rfl, hb1⟩) | (go_at_call 90; refine (CZ.out _).mono ?_; rintro e w1 ⟨rfl, hb1⟩)))
        all_goals
          have HB9 : Hid (Below w.heap.size w w1) := lastS6 (by assumption)
          go_wp2
          go_ret
          exact ⟨by rw [HR.out]; rfl, HB9.out⟩
    · have HR : Hid (V = true) := HV.out.trans (St.all_yes fun q hq => HJ.out q (by omega))
      have i1 : ¬ ((r : Int) + 1 < (n : Int)) := by omega
      go_wp2
      go_ret
      exact ⟨by rw [HR.out]; rfl, HW.out⟩
end PartOkC
section PartOkA
open Go.RowKit

set_option maxHeartbeats 1600000 in
theorem spAhead (a0 a1 a2 b0 b1 b2 : ByteArray) (w : World) :
    Calls Tryz.prog 51 #[.agg #[.string a0, .string a1, .string a2], .agg #[.string b0, .string b1, .string b2]] w fun e w' => e = .returned (.bool (St.lt2 a0 a1 b0 b1)) ∧ Below w.heap.size w w' := by
  have HB : Hid (∀ A B : Obj, Below w.heap.size w ((w.alloc A).alloc B)) := fun A B => ((Below.refl _ _).alloc (Nat.le_refl _) _).alloc (by simp) _
  obtain ⟨V, hV⟩ : ∃ V, V = St.lt2 a0 a1 b0 b1 := ⟨_, rfl⟩
  have HV : Hid (V = (Op.bytesLess a0.toList b0.toList || ((a0.toList == b0.toList) && Op.bytesLess a1.toList b1.toList))) := hV
  rw [← hV]
  clear hV
  cases h0 : Op.bytesLess a0.toList b0.toList with
  | true =>
    have HR : Hid (V = true) := HV.out.trans (by rw [h0]; rfl)
    clear HV
    go_enter Tryz.func51, Tryz.ntmps51
    go_wp2
    go_ret
    exact ⟨by rw [HR.out]; rfl, HB.out _ _⟩
  | false =>
    cases h1 : (a0.toList == b0.toList) with
    | false =>
      have HR : Hid (V = false) := HV.out.trans (by rw [h0, h1]; rfl)
      clear HV
      go_enter Tryz.func51, Tryz.ntmps51
      go_wp2
      go_ret
      exact ⟨by rw [HR.out]; rfl, HB.out _ _⟩
    | true =>
      have HR : Hid (V = Op.bytesLess a1.toList b1.toList) := HV.out.trans (by rw [h0, h1]; rfl)
      clear HV
      go_enter Tryz.func51, Tryz.ntmps51
      go_wp2
      go_ret
      exact ⟨by rw [HR.out]; rfl, HB.out _ _⟩
end PartOkA
end Go.Proofs.YtehagonaacbmiaaGreat
