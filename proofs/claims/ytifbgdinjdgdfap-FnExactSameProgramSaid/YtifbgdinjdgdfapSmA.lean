/- Are two programs the same: the library's Equal and EqualFunc, and the program's SameProgram. -/
import Derived.Test.YtifbgdinjdgdfapPgP
import Derived.WalkLawsBesides
import Derived.Laws.StructEq
namespace Go.Proofs.Ytifbgdinjdgdfap
open Go.RowKit

namespace Sm
/-- Two texts. -/
def txt (a b : ByteArray) : Bool := a.toList == b.toList
def ints (a b : List Int) : Bool := decide (a.length = b.length) && (List.range a.length).all fun i => decide (a.getD i 0 = b.getD i 0)
def node (a b : Pi) : Bool := decide (a.op = b.op) && (txt a.text b.text && ints a.kids b.kids)
def nodes (a b : List Pi) : Bool := decide (a.length = b.length) && (List.range a.length).all fun i => node (a.getD i Pi.no) (b.getD i Pi.no)
def rule (a b : Pg.Rl) : Bool := decide (a.when = b.when) && (decide (a.cond = b.cond) && decide (a.act = b.act))
def rules (a b : List Pg.Rl) : Bool := decide (a.length = b.length) && (List.range a.length).all fun i => rule (a.getD i Pg.Rl.no) (b.getD i Pg.Rl.no)
theorem all_yes {n : Nat} {p : Nat → Bool} (h : ∀ q, q < n → p q = true) : (List.range n).all p = true := List.all_eq_true.2 fun q hq => h q (List.mem_range.1 hq)
theorem all_no {n k : Nat} {p : Nat → Bool} (hk : k < n) (h : p k = false) : (List.range n).all p = false := List.all_eq_false.2 ⟨k, List.mem_range.2 hk, by rw [h]; simp⟩
end Sm

set_option maxHeartbeats 800000 in
theorem equalInts_any (v1 v2 : Value) (ks ls : List Int) (w : World) (h1 : KidsAt w v1 ks) (h2 : KidsAt w v2 ls) (hl : ks.length ≤ 1048576) (hl2 : ls.length ≤ 1048576) :
    Calls Try.prog 61 #[v1, v2] w fun e w' => e = .returned (.bool (Sm.ints ks ls)) ∧ Below w.heap.size w w' := by
  obtain ⟨a1, c1, rfl, f1⟩ := h1
  obtain ⟨a2, c2, rfl, f2⟩ := h2
  obtain ⟨n, hn⟩ : ∃ n, n = ks.length := ⟨_, rfl⟩
  obtain ⟨m, hm⟩ : ∃ m, m = ls.length := ⟨_, rfl⟩
  obtain ⟨V, hV⟩ : ∃ V, V = Sm.ints ks ls := ⟨_, rfl⟩
  have HV : Hid (V = (decide (n = m) && (List.range n).all fun i => decide (ks.getD i 0 = ls.getD i 0))) := by rw [hV, hn, hm]; rfl
  rw [← hV]
  rw [← hn] at f1 hl ⊢
  rw [← hm] at f2 hl2 ⊢
  clear hV
  by_cases hq : n = m
  · subst hq
    have dq : ((n : Int) != (n : Int)) = false := by simp
    by_cases h0 : n = 0
    · subst h0
      have HR : Hid (V = true) := HV.out.trans rfl
      clear f1 f2 hn hm HV
      go_enter Try.func61, Try.ntmps61
      go_wp2
      refine wp_loop_rounds 1 ?_
      rw [rounds_succ]
      go_wp2
      go_ret
      exact ⟨by rw [HR.out]; rfl, Below.refl _ _⟩
    · obtain ⟨g1, o1, rfl, l1, k1⟩ := f1 (by omega)
      obtain ⟨g2, o2, rfl, l2, k2⟩ := f2 (by omega)
      have K1 : Hid (∀ j, j < n → w.cell? ⟨g1, o1 + j, none⟩ = some (.int .i64 (ks.getD j 0))) := k1
      have K2 : Hid (∀ j, j < n → w.cell? ⟨g2, o2 + j, none⟩ = some (.int .i64 (ls.getD j 0))) := k2
      clear k1 k2 f1 f2 hn hm
      go_enter Try.func61, Try.ntmps61
      go_wp2
      go_loopw [13] (fun i wr => ∃ k : Nat, i = .int .i64 (k : Int) ∧ k ≤ n ∧ Below w.heap.size w wr ∧ Hid (∀ q, q < k → decide (ks.getD q 0 = ls.getD q 0) = true)) (fun i _ => n - (intOf i).toNat)
      case atStart => exact ⟨0, rfl, by omega, Below.refl _ _, fun q hq => by omega⟩
      case round =>
        obtain ⟨k, rfl, hk, hbel, HQ⟩ := hrel
        by_cases hlt : k < n
        · have c1 := (hbel.cell l1).trans (K1.out k hlt)
          have c2 := (hbel.cell l2).trans (K2.out k hlt)
          obtain ⟨x, hx⟩ : ∃ x, x = ks.getD k 0 := ⟨_, rfl⟩
          obtain ⟨y, hy⟩ : ∃ y, y = ls.getD k 0 := ⟨_, rfl⟩
          rw [← hx] at c1
          rw [← hy] at c2
          have i1 : (k : Int) < (n : Int) := by omega
          by_cases hxy : x = y
          · subst hxy
            have hq : (x != x) = false := by simp
            have HN : Hid (∀ q, q < k + 1 → decide (ks.getD q 0 = ls.getD q 0) = true) := fun q h => by
              by_cases e : q = k
              · subst e; rw [← hx, ← hy]; simp
              · exact HQ.out q (by omega)
            clear hx hy
            go_wp2_with fail
            go_quiet (fail)
            go_wp2
            go_roundw
            case rel => exact ⟨k + 1, by go_num, by omega, below_drewN hbel _, HN.out⟩
            case measure => simp [intOf]; omega
          · have hq : (x != y) = true := by simpa using hxy
            have HR : Hid (V = false) := HV.out.trans (by rw [Sm.all_no hlt (by rw [← hx, ← hy]; exact decide_eq_false hxy)]; exact Bool.and_false _)
            clear hx hy hxy
            go_wp2_with fail
            go_quiet (fail)
            go_wp2
            go_ret
            exact ⟨by rw [HR.out]; rfl, below_drewN hbel _⟩
        · obtain rfl : k = n := by omega
          have HR : Hid (V = true) := HV.out.trans (by rw [Sm.all_yes HQ.out]; simp)
          go_wp2
          go_ret
          exact ⟨by rw [HR.out]; rfl, hbel⟩
  · have dq : ((n : Int) != (m : Int)) = true := by simp; omega
    have HR : Hid (V = false) := HV.out.trans (by rw [decide_eq_false hq]; rfl)
    clear f1 f2 hn hm HV
    go_enter Try.func61, Try.ntmps61
    go_wp2
    go_ret
    exact ⟨by rw [HR.out]; rfl, Below.refl _ _⟩
/-- The model's '!=' at two rules. -/
theorem neqRule (x y : Pg.Rl) (w : World) : (binOp .neq 55 (.agg #[.int .i64 x.when, .int .i64 x.cond, .int .i64 x.act]) (.agg #[.int .i64 y.when, .int .i64 y.cond, .int .i64 y.act])).run Try.prog w = .ok (.bool (!Sm.rule x y)) w := by
  have u3 := Try.underlying3
  have a3 := Try.isAgg3
  have z3 := Try.sizeOf3
  have hS : Try.prog.underlying 55 = some (.struct (Try.prog.fieldsOf 55)) := by kernel_rfl
  have hp : Try.prog.stoodInHeld 55 = false := by kernel_rfl
  rw [run_neq_struct, show (10000 : Nat) = 9999 + 1 from rfl, run_equalIn_agg w 9999 55 _ _ hS hp]
  simp only [Program.fieldsOf, Try.underlying55]
  go_simp
  by_cases h1 : x.when = y.when <;> by_cases h2 : x.cond = y.cond <;> by_cases h3 : x.act = y.act <;> simp [Sm.rule, h1, h2, h3]
theorem guardRule (op : BinOp) (a b : Operand) (xs ys : Array Value) (w : World) : (eqGuard op 55 a b (.agg xs) (.agg ys)).run Try.prog w = .ok () w := run_eqGuard_agg w op 55 a b xs ys (by kernel_rfl)

set_option maxHeartbeats 800000 in
theorem equalRules_any (v1 v2 : Value) (ks ls : List Pg.Rl) (w : World) (h1 : RlsAt w v1 ks) (h2 : RlsAt w v2 ls) (hl : ks.length ≤ 1048576) (hl2 : ls.length ≤ 1048576) :
    Calls Try.prog 37 #[v1, v2] w fun e w' => e = .returned (.bool (Sm.rules ks ls)) ∧ Below w.heap.size w w' := by
  obtain ⟨a1, c1, rfl, f1⟩ := h1
  obtain ⟨a2, c2, rfl, f2⟩ := h2
  obtain ⟨n, hn⟩ : ∃ n, n = ks.length := ⟨_, rfl⟩
  obtain ⟨m, hm⟩ : ∃ m, m = ls.length := ⟨_, rfl⟩
  obtain ⟨V, hV⟩ : ∃ V, V = Sm.rules ks ls := ⟨_, rfl⟩
  have HV : Hid (V = (decide (n = m) && (List.range n).all fun i => Sm.rule (ks.getD i Pg.Rl.no) (ls.getD i Pg.Rl.no))) := by rw [hV, hn, hm]; rfl
  rw [← hV]
  rw [← hn] at f1 hl ⊢
  rw [← hm] at f2 hl2 ⊢
  clear hV
  by_cases hq : n = m
  · subst hq
    have dq : ((n : Int) != (n : Int)) = false := by simp
    by_cases h0 : n = 0
    · subst h0
      have HR : Hid (V = true) := HV.out.trans rfl
      clear f1 f2 hn hm HV
      go_enter Try.func37, Try.ntmps37
      go_wp2
      refine wp_loop_rounds 1 ?_
      rw [rounds_succ]
      go_wp2
      go_ret
      exact ⟨by rw [HR.out]; rfl, Below.refl _ _⟩
    · obtain ⟨g1, o1, rfl, l1, k1⟩ := f1 (by omega)
      obtain ⟨g2, o2, rfl, l2, k2⟩ := f2 (by omega)
      have K1 : Hid (∀ j, j < n → w.cell? ⟨g1, o1 + j * 3, none⟩ = some (.int .i64 (ks.getD j Pg.Rl.no).when) ∧ w.cell? ⟨g1, o1 + j * 3 + 1, none⟩ = some (.int .i64 (ks.getD j Pg.Rl.no).cond) ∧ w.cell? ⟨g1, o1 + j * 3 + 2, none⟩ = some (.int .i64 (ks.getD j Pg.Rl.no).act)) := k1
      have K2 : Hid (∀ j, j < n → w.cell? ⟨g2, o2 + j * 3, none⟩ = some (.int .i64 (ls.getD j Pg.Rl.no).when) ∧ w.cell? ⟨g2, o2 + j * 3 + 1, none⟩ = some (.int .i64 (ls.getD j Pg.Rl.no).cond) ∧ w.cell? ⟨g2, o2 + j * 3 + 2, none⟩ = some (.int .i64 (ls.getD j Pg.Rl.no).act)) := k2
      clear k1 k2 f1 f2 hn hm
      go_enter Try.func37, Try.ntmps37
      go_wp2
      go_loopw [13] (fun i wr => ∃ k : Nat, i = .int .i64 (k : Int) ∧ k ≤ n ∧ Below w.heap.size w wr ∧ Hid (∀ q, q < k → Sm.rule (ks.getD q Pg.Rl.no) (ls.getD q Pg.Rl.no) = true)) (fun i _ => n - (intOf i).toNat)
      case atStart => exact ⟨0, rfl, by omega, Below.refl _ _, fun q hq => by omega⟩
      case round =>
        obtain ⟨k, rfl, hk, hbel, HQ⟩ := hrel
        by_cases hlt : k < n
        · have q1 := K1.out k hlt
          have q2 := K2.out k hlt
          obtain ⟨p, hp⟩ : ∃ p, p = ks.getD k Pg.Rl.no := ⟨_, rfl⟩
          obtain ⟨u, hu⟩ : ∃ u, u = ls.getD k Pg.Rl.no := ⟨_, rfl⟩
          rw [← hp] at q1
          rw [← hu] at q2
          have x0 := (hbel.cell l1).trans q1.1
          have x1 := (hbel.cell l1).trans q1.2.1
          have x2 := (hbel.cell l1).trans q1.2.2
          have z0 := (hbel.cell l2).trans q2.1
          have z1 := (hbel.cell l2).trans q2.2.1
          have z2 := (hbel.cell l2).trans q2.2.2
          have HP : Hid (p = ks.getD k Pg.Rl.no) := hp
          have HU : Hid (u = ls.getD k Pg.Rl.no) := hu
          clear hp hu q1 q2
          have qn := fun w => neqRule p u w
          have qg := guardRule
          obtain ⟨r, hr⟩ : ∃ r, r = Sm.rule p u := ⟨_, rfl⟩
          rw [← hr] at qn
          have HRL : Hid (r = Sm.rule p u) := hr
          clear hr
          obtain ⟨p1, p2, p3⟩ := p
          obtain ⟨u1, u2, u3⟩ := u
          simp only at x0 x1 x2 z0 z1 z2 qn
          have i1 : (k : Int) < (n : Int) := by omega
          cases r
          · have HR : Hid (V = false) := HV.out.trans (by rw [Sm.all_no hlt (by rw [← HP.out, ← HU.out]; exact HRL.out.symm)]; exact Bool.and_false _)
            simp only [Bool.not_false] at qn
            clear HP HU HRL
            go_wp2_with fail
            go_quiet (fail)
            go_wp2
            go_ret
            exact ⟨by rw [HR.out]; rfl, below_drewN hbel _⟩
          · have HN : Hid (∀ q, q < k + 1 → Sm.rule (ks.getD q Pg.Rl.no) (ls.getD q Pg.Rl.no) = true) := fun q h => by
              by_cases e : q = k
              · subst e; rw [← HP.out, ← HU.out]; exact HRL.out.symm
              · exact HQ.out q (by omega)
            simp only [Bool.not_true] at qn
            clear HP HU HRL
            go_wp2_with fail
            go_quiet (fail)
            go_wp2
            go_roundw
            case rel => exact ⟨k + 1, by go_num, by omega, below_drewN hbel _, HN.out⟩
            case measure => simp [intOf]; omega
        · obtain rfl : k = n := by omega
          have HR : Hid (V = true) := HV.out.trans (by rw [Sm.all_yes HQ.out]; simp)
          go_wp2
          go_ret
          exact ⟨by rw [HR.out]; rfl, hbel⟩
  · have dq : ((n : Int) != (m : Int)) = true := by simp; omega
    have HR : Hid (V = false) := HV.out.trans (by rw [decide_eq_false hq]; rfl)
    clear f1 f2 hn hm HV
    go_enter Try.func37, Try.ntmps37
    go_wp2
    go_ret
    exact ⟨by rw [HR.out]; rfl, Below.refl _ _⟩
end Go.Proofs.Ytifbgdinjdgdfap
