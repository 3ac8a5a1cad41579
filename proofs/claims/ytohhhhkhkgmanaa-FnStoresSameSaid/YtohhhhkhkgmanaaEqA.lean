/- Are two stores the same: the library's Equal at Vars and at Cells, the program's SameStore. -/
import Derived.Test.YtohhhhkhkgmanaaZab
import Derived.WalkLawsBesides
import Derived.Laws.StructEq
namespace Go.Proofs.Ytohhhhkhkgmanaa
open Go.RowKit

namespace St
theorem all_yes {n : Nat} {p : Nat → Bool} (h : ∀ q, q < n → p q = true) : (List.range n).all p = true := List.all_eq_true.2 fun q hq => h q (List.mem_range.1 hq)
theorem all_no {n k : Nat} {p : Nat → Bool} (hk : k < n) (h : p k = false) : (List.range n).all p = false := List.all_eq_false.2 ⟨k, List.mem_range.2 hk, by rw [h]; simp⟩
def eqVr (x y : Vr) : Bool := (x.name.toList == y.name.toList) && (x.val.toList == y.val.toList)
def eqCl (x y : Cl) : Bool := (x.name.toList == y.name.toList) && ((x.key.toList == y.key.toList) && (x.val.toList == y.val.toList))
def eqVrs (a b : List Vr) : Bool := decide (a.length = b.length) && (List.range a.length).all fun i => eqVr (a.getD i Vr.no) (b.getD i Vr.no)
def eqCls (a b : List Cl) : Bool := decide (a.length = b.length) && (List.range a.length).all fun i => eqCl (a.getD i Cl.no) (b.getD i Cl.no)
/-- Are two stores the same. -/
def same (a b : List Vr) (c d : List Cl) (o p : ByteArray) : Bool := eqVrs a b && (eqCls c d && (o.toList == p.toList))
end St

/-- The model's '!=' at two of them. -/
theorem neqVr (x y : Vr) (w : World) : (binOp .neq 35 (.agg #[.string x.name, .string x.val]) (.agg #[.string y.name, .string y.val])).run Try.prog w = .ok (.bool (!St.eqVr x y)) w := by
  have u9 := Try.underlying9
  have a9 := Try.isAgg9
  have z9 := Try.sizeOf9
  have hS : Try.prog.underlying 35 = some (.struct (Try.prog.fieldsOf 35)) := by kernel_rfl
  have hp : Try.prog.stoodInHeld 35 = false := by kernel_rfl
  rw [run_neq_struct, show (10000 : Nat) = 9999 + 1 from rfl, run_equalIn_agg w 9999 35 _ _ hS hp]
  simp only [Program.fieldsOf, Try.underlying35]
  unfold St.eqVr
  cases h0 : (x.name.toList == y.name.toList) <;> cases h1 : (x.val.toList == y.val.toList)
  all_goals
    go_simp
theorem guardVr (op : BinOp) (a b : Operand) (xs ys : Array Value) (w : World) : (eqGuard op 35 a b (.agg xs) (.agg ys)).run Try.prog w = .ok () w := run_eqGuard_agg w op 35 a b xs ys (by kernel_rfl)

set_option maxHeartbeats 800000 in
theorem equalVrs_any (v1 v2 : Value) (ks ls : List Vr) (w : World) (h1 : VrAt w v1 ks) (h2 : VrAt w v2 ls) (hl : ks.length ≤ 1048576) (hl2 : ls.length ≤ 1048576) :
    Calls Try.prog 48 #[v1, v2] w fun e w' => e = .returned (.bool (St.eqVrs ks ls)) ∧ Below w.heap.size w w' := by
  obtain ⟨a1, c1, rfl, f1⟩ := h1
  obtain ⟨a2, c2, rfl, f2⟩ := h2
  obtain ⟨n, hn⟩ : ∃ n, n = ks.length := ⟨_, rfl⟩
  obtain ⟨m, hm⟩ : ∃ m, m = ls.length := ⟨_, rfl⟩
  obtain ⟨V, hV⟩ : ∃ V, V = St.eqVrs ks ls := ⟨_, rfl⟩
  have HV : Hid (V = (decide (n = m) && (List.range n).all fun i => St.eqVr (ks.getD i Vr.no) (ls.getD i Vr.no))) := by rw [hV, hn, hm]; rfl
  rw [← hV]
  rw [← hn] at f1 hl ⊢
  rw [← hm] at f2 hl2 ⊢
  clear hV
  by_cases hq : n = m
  · subst hq
    have dq : ((n : Int) != (n : Int)) = false := by simp
    by_cases h0 : n = 0
    · subst h0
      have HR : Hid (V = true) := HV.out.trans rfl
      clear f1 f2 hn hm HV
      go_enter Try.func48, Try.ntmps48
      go_wp2
      refine wp_loop_rounds 1 ?_
      rw [rounds_succ]
      go_wp2
      go_ret
      exact ⟨by rw [HR.out]; rfl, Below.refl _ _⟩
    · obtain ⟨g1, o1, rfl, l1, k1⟩ := f1 (by omega)
      obtain ⟨g2, o2, rfl, l2, k2⟩ := f2 (by omega)
      have K1 : Hid (∀ j, j < n → w.cell? ⟨g1, o1 + j * 2, none⟩ = some (.string (ks.getD j Vr.no).name) ∧ w.cell? ⟨g1, o1 + j * 2 + 1, none⟩ = some (.string (ks.getD j Vr.no).val)) := k1
      have K2 : Hid (∀ j, j < n → w.cell? ⟨g2, o2 + j * 2, none⟩ = some (.string (ls.getD j Vr.no).name) ∧ w.cell? ⟨g2, o2 + j * 2 + 1, none⟩ = some (.string (ls.getD j Vr.no).val)) := k2
      clear k1 k2 f1 f2 hn hm
      go_enter Try.func48, Try.ntmps48
      go_wp2
      go_loopw [13] (fun i wr => ∃ k : Nat, i = .int .i64 (k : Int) ∧ k ≤ n ∧ Below w.heap.size w wr ∧ Hid (∀ q, q < k → St.eqVr (ks.getD q Vr.no) (ls.getD q Vr.no) = true)) (fun i _ => n - (intOf i).toNat)
      case atStart => exact ⟨0, rfl, by omega, Below.refl _ _, fun q hq => by omega⟩
      case round =>
        obtain ⟨k, rfl, hk, hbel, HQ⟩ := hrel
        by_cases hlt : k < n
        · have q1 := K1.out k hlt
          have q2 := K2.out k hlt
          obtain ⟨p, hp⟩ : ∃ p, p = ks.getD k Vr.no := ⟨_, rfl⟩
          obtain ⟨u, hu⟩ : ∃ u, u = ls.getD k Vr.no := ⟨_, rfl⟩
          rw [← hp] at q1
          rw [← hu] at q2
          have x0 := (hbel.cell l1).trans q1.1
          have z0 := (hbel.cell l2).trans q2.1
          have x1 := (hbel.cell l1).trans q1.2
          have z1 := (hbel.cell l2).trans q2.2
          have HP : Hid (p = ks.getD k Vr.no) := hp
          have HU : Hid (u = ls.getD k Vr.no) := hu
          clear hp hu q1 q2
          have qn := fun w => neqVr p u w
          have qg := guardVr
          obtain ⟨r, hr⟩ : ∃ r, r = St.eqVr p u := ⟨_, rfl⟩
          rw [← hr] at qn
          have HRL : Hid (r = St.eqVr p u) := hr
          clear hr
          obtain ⟨p0, p1⟩ := p
          obtain ⟨u0, u1⟩ := u
          simp only at x0 z0 x1 z1 qn
          have i1 : (k : Int) < (n : Int) := by omega
          cases r
          · have HR : Hid (V = false) := HV.out.trans (by rw [St.all_no hlt (by rw [← HP.out, ← HU.out]; exact HRL.out.symm)]; exact Bool.and_false _)
            simp only [Bool.not_false] at qn
            clear HP HU HRL
            go_wp2_with fail
            go_quiet (fail)
            go_wp2
            go_ret
            exact ⟨by rw [HR.out]; rfl, below_drewN hbel _⟩
          · have HN : Hid (∀ q, q < k + 1 → St.eqVr (ks.getD q Vr.no) (ls.getD q Vr.no) = true) := fun q h => by
              by_cases e : q = k
              · subst e; rw [← HP.out, ← HU.out]; exact HRL.out.symm
              · exact HQ.out q (by omega)
            simp only [Bool.not_true] at qn
            clear HP HU HRL
            go_wp2_with fail
            go_quiet (fail)
            go_wp2
            go_roundw
            case rel => exact ⟨k + 1, by go_num, by omega, below_drewN hbel _, HN.out⟩
            case measure => simp [intOf]; omega
        · obtain rfl : k = n := by omega
          have HR : Hid (V = true) := HV.out.trans (by rw [St.all_yes HQ.out]; simp)
          go_wp2
          go_ret
          exact ⟨by rw [HR.out]; rfl, hbel⟩
  · have dq : ((n : Int) != (m : Int)) = true := by simp; omega
    have HR : Hid (V = false) := HV.out.trans (by rw [decide_eq_false hq]; rfl)
    clear f1 f2 hn hm HV
    go_enter Try.func48, Try.ntmps48
    go_wp2
    go_ret
    exact ⟨by rw [HR.out]; rfl, Below.refl _ _⟩

/-- The model's '!=' at two of them. -/
theorem neqCl (x y : Cl) (w : World) : (binOp .neq 41 (.agg #[.string x.name, .string x.key, .string x.val]) (.agg #[.string y.name, .string y.key, .string y.val])).run Try.prog w = .ok (.bool (!St.eqCl x y)) w := by
  have u9 := Try.underlying9
  have a9 := Try.isAgg9
  have z9 := Try.sizeOf9
  have hS : Try.prog.underlying 41 = some (.struct (Try.prog.fieldsOf 41)) := by kernel_rfl
  have hp : Try.prog.stoodInHeld 41 = false := by kernel_rfl
  rw [run_neq_struct, show (10000 : Nat) = 9999 + 1 from rfl, run_equalIn_agg w 9999 41 _ _ hS hp]
  simp only [Program.fieldsOf, Try.underlying41]
  unfold St.eqCl
  cases h0 : (x.name.toList == y.name.toList) <;> cases h1 : (x.key.toList == y.key.toList) <;> cases h2 : (x.val.toList == y.val.toList)
  all_goals
    go_simp
theorem guardCl (op : BinOp) (a b : Operand) (xs ys : Array Value) (w : World) : (eqGuard op 41 a b (.agg xs) (.agg ys)).run Try.prog w = .ok () w := run_eqGuard_agg w op 41 a b xs ys (by kernel_rfl)

set_option maxHeartbeats 800000 in
theorem equalCls_any (v1 v2 : Value) (ks ls : List Cl) (w : World) (h1 : ClAt w v1 ks) (h2 : ClAt w v2 ls) (hl : ks.length ≤ 1048576) (hl2 : ls.length ≤ 1048576) :
    Calls Try.prog 49 #[v1, v2] w fun e w' => e = .returned (.bool (St.eqCls ks ls)) ∧ Below w.heap.size w w' := by
  obtain ⟨a1, c1, rfl, f1⟩ := h1
  obtain ⟨a2, c2, rfl, f2⟩ := h2
  obtain ⟨n, hn⟩ : ∃ n, n = ks.length := ⟨_, rfl⟩
  obtain ⟨m, hm⟩ : ∃ m, m = ls.length := ⟨_, rfl⟩
  obtain ⟨V, hV⟩ : ∃ V, V = St.eqCls ks ls := ⟨_, rfl⟩
  have HV : Hid (V = (decide (n = m) && (List.range n).all fun i => St.eqCl (ks.getD i Cl.no) (ls.getD i Cl.no))) := by rw [hV, hn, hm]; rfl
  rw [← hV]
  rw [← hn] at f1 hl ⊢
  rw [← hm] at f2 hl2 ⊢
  clear hV
  by_cases hq : n = m
  · subst hq
    have dq : ((n : Int) != (n : Int)) = false := by simp
    by_cases h0 : n = 0
    · subst h0
      have HR : Hid (V = true) := HV.out.trans rfl
      clear f1 f2 hn hm HV
      go_enter Try.func49, Try.ntmps49
      go_wp2
      refine wp_loop_rounds 1 ?_
      rw [rounds_succ]
      go_wp2
      go_ret
      exact ⟨by rw [HR.out]; rfl, Below.refl _ _⟩
    · obtain ⟨g1, o1, rfl, l1, k1⟩ := f1 (by omega)
      obtain ⟨g2, o2, rfl, l2, k2⟩ := f2 (by omega)
      have K1 : Hid (∀ j, j < n → w.cell? ⟨g1, o1 + j * 3, none⟩ = some (.string (ks.getD j Cl.no).name) ∧ w.cell? ⟨g1, o1 + j * 3 + 1, none⟩ = some (.string (ks.getD j Cl.no).key) ∧ w.cell? ⟨g1, o1 + j * 3 + 2, none⟩ = some (.string (ks.getD j Cl.no).val)) := k1
      have K2 : Hid (∀ j, j < n → w.cell? ⟨g2, o2 + j * 3, none⟩ = some (.string (ls.getD j Cl.no).name) ∧ w.cell? ⟨g2, o2 + j * 3 + 1, none⟩ = some (.string (ls.getD j Cl.no).key) ∧ w.cell? ⟨g2, o2 + j * 3 + 2, none⟩ = some (.string (ls.getD j Cl.no).val)) := k2
      clear k1 k2 f1 f2 hn hm
      go_enter Try.func49, Try.ntmps49
      go_wp2
      go_loopw [13] (fun i wr => ∃ k : Nat, i = .int .i64 (k : Int) ∧ k ≤ n ∧ Below w.heap.size w wr ∧ Hid (∀ q, q < k → St.eqCl (ks.getD q Cl.no) (ls.getD q Cl.no) = true)) (fun i _ => n - (intOf i).toNat)
      case atStart => exact ⟨0, rfl, by omega, Below.refl _ _, fun q hq => by omega⟩
      case round =>
        obtain ⟨k, rfl, hk, hbel, HQ⟩ := hrel
        by_cases hlt : k < n
        · have q1 := K1.out k hlt
          have q2 := K2.out k hlt
          obtain ⟨p, hp⟩ : ∃ p, p = ks.getD k Cl.no := ⟨_, rfl⟩
          obtain ⟨u, hu⟩ : ∃ u, u = ls.getD k Cl.no := ⟨_, rfl⟩
          rw [← hp] at q1
          rw [← hu] at q2
          have x0 := (hbel.cell l1).trans q1.1
          have z0 := (hbel.cell l2).trans q2.1
          have x1 := (hbel.cell l1).trans q1.2.1
          have z1 := (hbel.cell l2).trans q2.2.1
          have x2 := (hbel.cell l1).trans q1.2.2
          have z2 := (hbel.cell l2).trans q2.2.2
          have HP : Hid (p = ks.getD k Cl.no) := hp
          have HU : Hid (u = ls.getD k Cl.no) := hu
          clear hp hu q1 q2
          have qn := fun w => neqCl p u w
          have qg := guardCl
          obtain ⟨r, hr⟩ : ∃ r, r = St.eqCl p u := ⟨_, rfl⟩
          rw [← hr] at qn
          have HRL : Hid (r = St.eqCl p u) := hr
          clear hr
          obtain ⟨p0, p1, p2⟩ := p
          obtain ⟨u0, u1, u2⟩ := u
          simp only at x0 z0 x1 z1 x2 z2 qn
          have i1 : (k : Int) < (n : Int) := by omega
          cases r
          · have HR : Hid (V = false) := HV.out.trans (by rw [St.all_no hlt (by rw [← HP.out, ← HU.out]; exact HRL.out.symm)]; exact Bool.and_false _)
            simp only [Bool.not_false] at qn
            clear HP HU HRL
            go_wp2_with fail
            go_quiet (fail)
            go_wp2
            go_ret
            exact ⟨by rw [HR.out]; rfl, below_drewN hbel _⟩
          · have HN : Hid (∀ q, q < k + 1 → St.eqCl (ks.getD q Cl.no) (ls.getD q Cl.no) = true) := fun q h => by
              by_cases e : q = k
              · subst e; rw [← HP.out, ← HU.out]; exact HRL.out.symm
              · exact HQ.out q (by omega)
            simp only [Bool.not_true] at qn
            clear HP HU HRL
            go_wp2_with fail
            go_quiet (fail)
            go_wp2
            go_roundw
            case rel => exact ⟨k + 1, by go_num, by omega, below_drewN hbel _, HN.out⟩
            case measure => simp [intOf]; omega
        · obtain rfl : k = n := by omega
          have HR : Hid (V = true) := HV.out.trans (by rw [St.all_yes HQ.out]; simp)
          go_wp2
          go_ret
          exact ⟨by rw [HR.out]; rfl, hbel⟩
  · have dq : ((n : Int) != (m : Int)) = true := by simp; omega
    have HR : Hid (V = false) := HV.out.trans (by rw [decide_eq_false hq]; rfl)
    clear f1 f2 hn hm HV
    go_enter Try.func49, Try.ntmps49
    go_wp2
    go_ret
    exact ⟨by rw [HR.out]; rfl, Below.refl _ _⟩

set_option maxHeartbeats 1600000 in
theorem implSame8 (va ra vb rb : Value) (o o' : ByteArray) (ps qs : List Vr) (rs ss : List Cl) (w : World) (h1 : VrAt w va ps) (g1 : ClAt w ra rs) (h2 : VrAt w vb qs) (g2 : ClAt w rb ss) (hl : ps.length ≤ 1048576) (hl2 : qs.length ≤ 1048576) (hr : rs.length ≤ 1048576) (hr2 : ss.length ≤ 1048576) :
    Calls Try.prog 21 #[.agg #[va, ra, .string o], .agg #[vb, rb, .string o']] w fun e w' => e = .returned (.bool (St.same ps qs rs ss o o')) ∧ Below w.heap.size w w' := by
  obtain ⟨V, hV⟩ : ∃ V, V = St.same ps qs rs ss o o' := ⟨_, rfl⟩
  obtain ⟨X, hX⟩ : ∃ X, X = St.eqVrs ps qs := ⟨_, rfl⟩
  obtain ⟨Y, hY⟩ : ∃ Y, Y = St.eqCls rs ss := ⟨_, rfl⟩
  have HV : Hid (V = (X && (Y && (o.toList == o'.toList)))) := by rw [hV, hX, hY]; rfl
  have CC : Hid (∀ W, Below w.heap.size w W → Calls Try.prog 48 #[va, vb] W fun e w' => e = .returned (.bool X) ∧ Below W.heap.size W w') := fun W hb => by rw [hX]; exact equalVrs_any va vb ps qs W (h1.keep hb) (h2.keep hb) hl hl2
  have CR : Hid (∀ W, Below w.heap.size w W → Calls Try.prog 49 #[ra, rb] W fun e w' => e = .returned (.bool Y) ∧ Below W.heap.size W w') := fun W hb => by rw [hY]; exact equalCls_any ra rb rs ss W (g1.keep hb) (g2.keep hb) hr hr2
  rw [← hV]
  clear hX hY hV
  obtain ⟨a1, c1, rfl, -⟩ := h1
  obtain ⟨a2, c2, rfl, -⟩ := h2
  obtain ⟨d1, e1, rfl, -⟩ := g1
  obtain ⟨d2, e2, rfl, -⟩ := g2
  have HB : Hid (Below w.heap.size w ((w.alloc (.cells #[.slice a1 ps.length c1, .slice d1 rs.length e1, .string o] 27)).alloc (.cells #[.slice a2 qs.length c2, .slice d2 ss.length e2, .string o'] 27))) := ((Below.refl _ _).alloc (Nat.le_refl _) _).alloc (by simp) _
  cases X
  · have HR : Hid (V = false) := HV.out
    clear HV
    go_enter Try.func21, Try.ntmps21
    go_wp2_with fail
    refine (CC.out _ HB.out).mono ?_
    rintro e w1 ⟨rfl, hb1⟩
    go_wp2
    go_ret
    exact ⟨by rw [HR.out]; rfl, HB.out.trans (hb1.mono HB.out.size)⟩
  · have HR : Hid (V = (Y && (o.toList == o'.toList))) := HV.out
    clear HV
    go_enter Try.func21, Try.ntmps21
    go_wp2_with fail
    refine (CC.out _ HB.out).mono ?_
    rintro e w1 ⟨rfl, hb1⟩
    have x1 : w1.cell? ⟨w.heap.size, 1, none⟩ = some (.slice d1 rs.length e1) := (hb1.cell (by simp; omega)).trans (by simp)
    have x2 : w1.cell? ⟨w.heap.size + 1, 1, none⟩ = some (.slice d2 ss.length e2) := (hb1.cell (by simp)).trans (by simp)
    have y1 : w1.cell? ⟨w.heap.size, 2, none⟩ = some (.string o) := (hb1.cell (by simp; omega)).trans (by simp)
    have y2 : w1.cell? ⟨w.heap.size + 1, 2, none⟩ = some (.string o') := (hb1.cell (by simp)).trans (by simp)
    have hz : w.heap.size + 1 < w1.heap.size := World.block_lt_of_cell? w1 _ x2
    have HB1 : Hid (Below w.heap.size w w1) := HB.out.trans (hb1.mono (by simp; omega))
    clear hb1 CC
    go_wp2_with fail
    refine (CR.out _ HB1.out).mono ?_
    rintro e w2 ⟨rfl, hb2⟩
    have t1 := (hb2.cell (p := ⟨w.heap.size, 2, none⟩) (by show w.heap.size < _; omega)).trans y1
    have t2 := (hb2.cell (p := ⟨w.heap.size + 1, 2, none⟩) (by exact hz)).trans y2
    have HB2 : Hid (Below w.heap.size w w2) := HB1.out.trans (hb2.mono HB1.out.size)
    clear hb2 CR x1 x2 y1 y2
    cases Y
    · go_wp2
      go_ret
      exact ⟨by rw [HR.out]; rfl, HB2.out⟩
    · go_wp2
      go_ret
      exact ⟨by rw [HR.out]; rfl, HB2.out⟩
end Go.Proofs.Ytohhhhkhkgmanaa
