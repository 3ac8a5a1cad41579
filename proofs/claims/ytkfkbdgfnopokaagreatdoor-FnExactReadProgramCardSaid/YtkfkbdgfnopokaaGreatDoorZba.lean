/- Tokens of the first kind that are no words are names; both readers answer the same at every text. Patterns in memory: two of the same pieces are told the same. Programs in memory: two of the same nodes are told the same. Programs in memory: two of the same programs are told the same. The law on ReadProgram: at every text it answers as the specification, and its answer owns its memory. -/
import Derived.Test.YtkfkbdgfnopokaaGreatDoorZaz
import Derived.Test.YtkfkbdgfnopokaaGreatDoorRsL
import Derived.Test.YtkfkbdgfnopokaaGreatDoorZax
import Derived.Test.YtkfkbdgfnopokaaGreatDoorZaf
import Derived.Test.YtkfkbdgfnopokaaGreatDoorZaa
import Derived.Test.YtkfkbdgfnopokaaGreatDoorZai
import Derived.Test.YtkfkbdgfnopokaaGreatDoorZay
namespace Go.Proofs.YtkfkbdgfnopokaaGreatDoor
section PartRtB
open Go.RowKit
namespace Tk
theorem cut_run (p : UInt8 → Bool) (l : List UInt8) (a : Nat) : cut l a (run p l a) = (l.drop a).takeWhile p := by
 have e : run p l a - a = ((l.drop a).takeWhile p).length := by unfold run; omega
 unfold cut
 rw [e]
 exact (List.prefix_iff_eq_take.1 (List.takeWhile_prefix p)).symm
def Nk (t : Tok) : Prop := t.kind = 1 → t.text.all letter = true ∧ 1 ≤ t.text.length ∧ t.text.length ≤ 8
theorem one_nk {l : List UInt8} {a : Nat} {last t : Tok} {n : Nat} (ha : a < l.length) (h : one l a last = some (t, n)) : Nk t := by
 have hg : l.getD a 0 = l[a] := by simp [ha]
 unfold one at h
 split at h
 ·simp only [Option.some.injEq, Prod.mk.injEq] at h
  rw [← h.1]
  intro e
  cases e
 split at h
 ·rename_i k
  split at h
  ·cases h
  ·rename_i k8
   simp only [Option.some.injEq, Prod.mk.injEq] at h
   rw [hg] at k
   have h1 := run_step ha k
   have h2 := run_ge letter l (a + 1)
   have h3 : run letter l a - a = ((l.drop a).takeWhile letter).length := by unfold run; omega
   rw [← h.1]
   intro _
   show (cut l a (run letter l a)).all letter = true ∧ 1 ≤ (cut l a (run letter l a)).length ∧ (cut l a (run letter l a)).length ≤ 8
   rw [cut_run]
   refine ⟨List.all_takeWhile, by omega, by omega⟩
 split at h
 ·split at h
  ·cases h
  ·simp only [Option.some.injEq, Prod.mk.injEq] at h
   rw [← h.1]
   intro e
   cases e
 split at h
 ·split at h
  ·cases h
  ·simp only [Option.some.injEq, Prod.mk.injEq] at h
   rw [← h.1]
   intro e
   cases e
 split at h
 ·split at h
  ·cases h
  ·split at h
   ·simp only [Option.some.injEq, Prod.mk.injEq] at h
    rw [← h.1]
    intro e
    cases e
   ·cases h
 split at h
 ·simp only [Option.some.injEq, Prod.mk.injEq] at h
  rw [← h.1]
  intro e
  cases e
 split at h
 ·simp only [Option.some.injEq, Prod.mk.injEq] at h
  rw [← h.1]
  intro e
  cases e
 ·cases h
theorem loop_nk {l : List UInt8} : ∀ f a last out, (∀ t ∈ out, Nk t) → ∀ t ∈ (loop l f a last out).1, Nk t := by
 intro f
 induction f with
 | zero => intro a last out h; exact h
 | succ f ih =>
  intro a last out h
  unfold loop
  split
  ·exact h
  rename_i hlt
  split
  ·exact ih _ _ _ h
  split
  ·exact ih _ _ _ h
  cases ho : one l a last with
  | none => intro t ht; simp at ht
  | some p =>
   obtain ⟨t, n⟩ := p
   show ∀ x ∈ (if out.length = 200 then ([], a + 1) else loop l f n t (out ++ [t])).1, Nk x
   split
   ·intro t ht; simp at ht
   ·refine ih _ _ _ fun x hx => ?_
    simp at hx
    rcases hx with hx | rfl
    ·exact h x hx
    ·exact one_nk (by omega) ho
theorem tokens_nm (l : List UInt8) : Pr.Nm (tokens l).1 := by
 intro t ht hk hw
 have h : Nk t := by
  unfold tokens at ht
  split at ht
  ·simp at ht
  ·exact loop_nk _ _ _ _ (fun t ht => by simp at ht) t ht
 obtain ⟨h1, h2, h3⟩ := h hk
 unfold Pg.name
 rw [hw, h1]
 simp [h2, h3]
end Tk
theorem read_same (l : List UInt8) : Pr.read l = Ip.read l := by
 unfold Pr.read Ip.read
 split
 ·rfl
 ·exact Pr.read_agr (Tk.tokens_sm l) (Tk.tokens_len l) (Tk.tokens_nm l)
end PartRtB
section PartPtC
open Go.RowKit
set_option maxHeartbeats 800000 in
theorem eqInts_any (v1 v2 : Value) (ks : List Int) (w : World) (h1 : KidsAt w v1 ks) (h2 : KidsAt w v2 ks) (hl : ks.length ≤ 1048576) :
  Calls Tryz.prog 99 #[v1, v2] w fun e w' => e = .returned (.bool true) ∧ Below w.heap.size w w' := by
 obtain ⟨a1, c1, rfl, f1⟩ := h1
 obtain ⟨a2, c2, rfl, f2⟩ := h2
 obtain ⟨n, hn⟩ : ∃ n, n = ks.length := ⟨_, rfl⟩
 rw [← hn] at f1 f2 hl ⊢
 have hq : ((n : Int) != (n : Int)) = false := by simp
 by_cases h0 : n = 0
 ·subst h0
  clear f1 f2 hn
  go_enter Tryz.func99, Tryz.ntmps99
  go_wp2
  refine wp_loop_rounds 1 ?_
  rw [rounds_succ]
  go_wp2
  go_ret
  exact ⟨rfl, Below.refl _ _⟩
 ·obtain ⟨g1, o1, rfl, l1, k1⟩ := f1 (by omega)
  obtain ⟨g2, o2, rfl, l2, k2⟩ := f2 (by omega)
  have K1 : Hid (∀ j, j < n → w.cell? ⟨g1, o1 + j, none⟩ = some (.int .i64 (ks.getD j 0))) := k1
  have K2 : Hid (∀ j, j < n → w.cell? ⟨g2, o2 + j, none⟩ = some (.int .i64 (ks.getD j 0))) := k2
  clear k1 k2 f1 f2 hn
  go_enter Tryz.func99, Tryz.ntmps99
  go_wp2
  go_loopw [5] (fun i wr => ∃ k : Nat, i = .int .i64 (k : Int) ∧ k ≤ n ∧ Below w.heap.size w wr) (fun i _ => n - (intOf i).toNat)
  case atStart => exact ⟨0, rfl, by omega, Below.refl _ _⟩
  case round =>
   obtain ⟨k, rfl, hk, hbel⟩ := hrel
   by_cases hlt : k < n
   ·have c1 := (hbel.cell l1).trans (K1.out k hlt)
    have c2 := (hbel.cell l2).trans (K2.out k hlt)
    obtain ⟨x, hx⟩ : ∃ x, x = ks.getD k 0 := ⟨_, rfl⟩
    rw [← hx] at c1 c2
    have i1 : (k : Int) < (n : Int) := by omega
    have hq : (x != x) = false := by simp
    clear hx
    go_wp2_with fail
    go_quiet (fail)
    go_wp2
    go_roundw
    case rel => exact ⟨k + 1, by go_num, by omega, below_drewN hbel _⟩
    case measure => simp [intOf]; omega
   ·go_wp2
    go_ret
    exact ⟨rfl, hbel⟩
end PartPtC
section PartLgC
open Go.RowKit
set_option maxHeartbeats 800000 in
theorem eqNode_any (v1 v2 : Value) (p : Pi) (w : World) (h1 : KidsAt w v1 p.kids) (h2 : KidsAt w v2 p.kids) (hl : p.kids.length ≤ 1048576) :
  Calls Tryz.prog 61 #[.agg #[.int .i64 p.op, .string p.text, v1], .agg #[.int .i64 p.op, .string p.text, v2]] w fun e w' => e = .returned (.bool true) ∧ Below w.heap.size w w' := by
 obtain ⟨op, t, ks⟩ := p
 simp only at h1 h2 hl ⊢
 have CC : Hid (∀ w', Below w.heap.size w w' → Calls Tryz.prog 99 #[v1, v2] w' fun e w'' => e = .returned (.bool true) ∧ Below w'.heap.size w' w'') := fun w' hb => eqInts_any v1 v2 ks w' (h1.keep hb) (h2.keep hb) hl
 obtain ⟨a1, c1, rfl, f1⟩ := h1
 obtain ⟨a2, c2, rfl, f2⟩ := h2
 clear f1 f2
 have hq : (op != op) = false := by simp
 go_enter Tryz.func61, Tryz.ntmps61
 go_wp2_with fail
 refine (CC.out _ (((Below.refl _ _).alloc (Nat.le_refl _) _).alloc (by simp) _)).mono ?_
 rintro e w1 ⟨rfl, hb1⟩
 go_wp2
 go_ret
 exact ⟨rfl, (((Below.refl _ _).alloc (Nat.le_refl _) _).alloc (by simp) _).trans (hb1.mono (by simp; omega))⟩
set_option maxHeartbeats 2000000 in
theorem eqNodes_any (v1 v2 : Value) (ps : List Pi) (w : World) (h1 : PcsAt w v1 ps) (h2 : PcsAt w v2 ps) (hl : ps.length ≤ 1048576) (hs : Small ps ps.length) :
  Calls Tryz.prog 25 #[v1, v2] w fun e w' => e = .returned (.bool true) ∧ Below w.heap.size w w' := by
 obtain ⟨a1, c1, rfl, f1⟩ := h1
 obtain ⟨a2, c2, rfl, f2⟩ := h2
 obtain ⟨n, hn⟩ : ∃ n, n = ps.length := ⟨_, rfl⟩
 have HS : Hid (Small ps n) := by rw [hn]; exact hs
 rw [← hn] at f1 f2 hl ⊢
 clear hs
 have hq : ((n : Int) != (n : Int)) = false := by simp
 by_cases h0 : n = 0
 ·subst h0
  clear f1 f2 hn
  go_enter Tryz.func25, Tryz.ntmps25
  go_wp2
  refine wp_loop_rounds 1 ?_
  rw [rounds_succ]
  go_wp2
  go_ret
  exact ⟨rfl, Below.refl _ _⟩
 ·obtain ⟨g1, o1, rfl, l1, k1⟩ := f1 (by omega)
  obtain ⟨g2, o2, rfl, l2, k2⟩ := f2 (by omega)
  have K1 : Hid (∀ j, j < n → PieceAt w g1 (o1 + j * 3) (ps.getD j Pi.no)) := k1
  have K2 : Hid (∀ j, j < n → PieceAt w g2 (o2 + j * 3) (ps.getD j Pi.no)) := k2
  clear k1 k2 f1 f2 hn
  go_enter Tryz.func25, Tryz.ntmps25
  go_wp2
  go_loopw [5] (fun i wr => ∃ k : Nat, i = .int .i64 (k : Int) ∧ k ≤ n ∧ Below w.heap.size w wr) (fun i _ => n - (intOf i).toNat)
  case atStart => exact ⟨0, rfl, by omega, Below.refl _ _⟩
  case round =>
   obtain ⟨k, rfl, hk, hbel⟩ := hrel
   have hsz := hbel.size
   by_cases hlt : k < n
   ·have q1 := (K1.out k hlt).keep l1 hbel
    have q2 := (K2.out k hlt).keep l2 hbel
    have hkl := (HS.out k hlt).1
    obtain ⟨p, hp⟩ : ∃ p, p = ps.getD k Pi.no := ⟨_, rfl⟩
    rw [← hp] at q1 q2 hkl
    clear hp
    obtain ⟨kv1, x0, x1, x2, y1⟩ := q1
    obtain ⟨kv2, z0, z1, z2, y2⟩ := q2
    have CC : Hid (∀ w', Below wr.heap.size wr w' → Calls Tryz.prog 61 #[.agg #[.int .i64 p.op, .string p.text, kv1], .agg #[.int .i64 p.op, .string p.text, kv2]] w' fun e w'' => e = .returned (.bool true) ∧ Below w'.heap.size w' w'') :=
     fun w' hb => eqNode_any kv1 kv2 p w' (y1.keep hb) (y2.keep hb) hkl
    obtain ⟨op, t, ks⟩ := p
    simp only at x0 x1 z0 z1 CC
    obtain ⟨ka1, kc1, rfl, _⟩ := y1
    obtain ⟨ka2, kc2, rfl, _⟩ := y2
    have i1 : (k : Int) < (n : Int) := by omega
    have i0 : (0 : Int) ≤ (k : Int) := by omega
    go_wp2_with fail
    go_region_with ((go_at_call 61; refine (CC.out _ (by first | exact Below.refl _ _ | exact (Below.refl _ _).drew)).mono ?_; rintro e w1 ⟨rfl, hb1⟩))
    all_goals
     go_wp2
     go_roundw
     case rel => exact ⟨k + 1, by go_num, by omega, hbel.trans (((Below.refl _ _).drew.trans hb1).mono hsz)⟩
     case measure => simp [intOf]; omega
   ·go_wp2
    go_ret
    exact ⟨rfl, hbel⟩
end PartLgC
section PartLgF
open Go.RowKit
set_option maxHeartbeats 800000 in
theorem eqRule_any (x y z : Int) (w : World) :
  Calls Tryz.prog 62 #[.agg #[.int .i64 x, .int .i64 y, .int .i64 z], .agg #[.int .i64 x, .int .i64 y, .int .i64 z]] w fun e w' => e = .returned (.bool true) ∧ Below w.heap.size w w' := by
 have hx : (x != x) = false := by simp
 have hy : (y != y) = false := by simp
 have hz : (z != z) = false := by simp
 go_enter Tryz.func62, Tryz.ntmps62
 go_wp2
 go_ret
 exact ⟨rfl, ((Below.refl _ _).alloc (Nat.le_refl _) _).alloc (by simp) _⟩
set_option maxHeartbeats 2000000 in
theorem eqRules_any (v1 v2 : Value) (rs : List Pg.Rl) (w : World) (h1 : RlsAt w v1 rs) (h2 : RlsAt w v2 rs) (hl : rs.length ≤ 1048576) :
  Calls Tryz.prog 26 #[v1, v2] w fun e w' => e = .returned (.bool true) ∧ Below w.heap.size w w' := by
 obtain ⟨a1, c1, rfl, f1⟩ := h1
 obtain ⟨a2, c2, rfl, f2⟩ := h2
 obtain ⟨n, hn⟩ : ∃ n, n = rs.length := ⟨_, rfl⟩
 rw [← hn] at f1 f2 hl ⊢
 have hq : ((n : Int) != (n : Int)) = false := by simp
 by_cases h0 : n = 0
 ·subst h0
  clear f1 f2 hn
  go_enter Tryz.func26, Tryz.ntmps26
  go_wp2
  refine wp_loop_rounds 1 ?_
  rw [rounds_succ]
  go_wp2
  go_ret
  exact ⟨rfl, Below.refl _ _⟩
 ·obtain ⟨g1, o1, rfl, l1, k1⟩ := f1 (by omega)
  obtain ⟨g2, o2, rfl, l2, k2⟩ := f2 (by omega)
  have K1 : Hid (∀ i, i < n → w.cell? ⟨g1, o1 + i * 3, none⟩ = some (.int .i64 (rs.getD i Pg.Rl.no).when) ∧ w.cell? ⟨g1, o1 + i * 3 + 1, none⟩ = some (.int .i64 (rs.getD i Pg.Rl.no).cond) ∧ w.cell? ⟨g1, o1 + i * 3 + 2, none⟩ = some (.int .i64 (rs.getD i Pg.Rl.no).act)) := k1
  have K2 : Hid (∀ i, i < n → w.cell? ⟨g2, o2 + i * 3, none⟩ = some (.int .i64 (rs.getD i Pg.Rl.no).when) ∧ w.cell? ⟨g2, o2 + i * 3 + 1, none⟩ = some (.int .i64 (rs.getD i Pg.Rl.no).cond) ∧ w.cell? ⟨g2, o2 + i * 3 + 2, none⟩ = some (.int .i64 (rs.getD i Pg.Rl.no).act)) := k2
  clear k1 k2 f1 f2 hn
  go_enter Tryz.func26, Tryz.ntmps26
  go_wp2
  go_loopw [5] (fun i wr => ∃ k : Nat, i = .int .i64 (k : Int) ∧ k ≤ n ∧ Below w.heap.size w wr) (fun i _ => n - (intOf i).toNat)
  case atStart => exact ⟨0, rfl, by omega, Below.refl _ _⟩
  case round =>
   obtain ⟨k, rfl, hk, hbel⟩ := hrel
   have hsz := hbel.size
   by_cases hlt : k < n
   ·have q1 := K1.out k hlt
    have q2 := K2.out k hlt
    obtain ⟨p, hp⟩ : ∃ p, p = rs.getD k Pg.Rl.no := ⟨_, rfl⟩
    rw [← hp] at q1 q2
    clear hp
    have x0 := (hbel.cell l1).trans q1.1
    have x1 := (hbel.cell l1).trans q1.2.1
    have x2 := (hbel.cell l1).trans q1.2.2
    have z0 := (hbel.cell l2).trans q2.1
    have z1 := (hbel.cell l2).trans q2.2.1
    have z2 := (hbel.cell l2).trans q2.2.2
    obtain ⟨px, py, pz⟩ := p
    simp only at x0 x1 x2 z0 z1 z2
    have CC : Hid (∀ w', Calls Tryz.prog 62 #[.agg #[.int .i64 px, .int .i64 py, .int .i64 pz], .agg #[.int .i64 px, .int .i64 py, .int .i64 pz]] w' fun e w'' => e = .returned (.bool true) ∧ Below w'.heap.size w' w'') := fun w' => eqRule_any px py pz w'
    clear q1 q2
    have i1 : (k : Int) < (n : Int) := by omega
    have i0 : (0 : Int) ≤ (k : Int) := by omega
    go_wp2_with fail
    go_region_with ((go_at_call 62; refine (CC.out _).mono ?_; rintro e w1 ⟨rfl, hb1⟩))
    all_goals
     go_wp2
     go_roundw
     case rel => exact ⟨k + 1, by go_num, by omega, hbel.trans (((Below.refl _ _).drew.trans hb1).mono hsz)⟩
     case measure => simp [intOf]; omega
   ·go_wp2
    go_ret
    exact ⟨rfl, hbel⟩
set_option maxHeartbeats 800000 in
theorem eqProg_any (v1 r1 v2 r2 : Value) (ps : List Pi) (rs : List Pg.Rl) (w : World) (h1 : PcsAt w v1 ps) (g1 : RlsAt w r1 rs) (h2 : PcsAt w v2 ps) (g2 : RlsAt w r2 rs) (hl : ps.length ≤ 1048576) (hs : Small ps ps.length) (hlr : rs.length ≤ 1048576) :
  Calls Tryz.prog 7 #[.agg #[v1, r1], .agg #[v2, r2]] w fun e w' => e = .returned (.bool true) ∧ Below w.heap.size w w' := by
 have CC : Hid (∀ w', Below w.heap.size w w' → Calls Tryz.prog 25 #[v1, v2] w' fun e w'' => e = .returned (.bool true) ∧ Below w'.heap.size w' w'') := fun w' hb => eqNodes_any v1 v2 ps w' (h1.keep hb) (h2.keep hb) hl hs
 have CR : Hid (∀ w', Below w.heap.size w w' → Calls Tryz.prog 26 #[r1, r2] w' fun e w'' => e = .returned (.bool true) ∧ Below w'.heap.size w' w'') := fun w' hb => eqRules_any r1 r2 rs w' (g1.keep hb) (g2.keep hb) hlr
 obtain ⟨a1, c1, rfl, -⟩ := h1
 obtain ⟨a2, c2, rfl, -⟩ := h2
 obtain ⟨d1, e1, rfl, -⟩ := g1
 obtain ⟨d2, e2, rfl, -⟩ := g2
 have HB : Hid (Below w.heap.size w ((w.alloc (.cells #[.slice a1 ps.length c1, .slice d1 rs.length e1] 25)).alloc (.cells #[.slice a2 ps.length c2, .slice d2 rs.length e2] 25))) := ((Below.refl _ _).alloc (Nat.le_refl _) _).alloc (by simp) _
 go_enter Tryz.func7, Tryz.ntmps7
 go_wp2_with fail
 refine (CC.out _ HB.out).mono ?_
 rintro e w1 ⟨rfl, hb1⟩
 have x1 : w1.cell? ⟨w.heap.size, 1, none⟩ = some (.slice d1 rs.length e1) := (hb1.cell (by simp; omega)).trans (by simp)
 have x2 : w1.cell? ⟨w.heap.size + 1, 1, none⟩ = some (.slice d2 rs.length e2) := (hb1.cell (by simp)).trans (by simp)
 have HB1 : Hid (Below w.heap.size w w1) := HB.out.trans (hb1.mono (by simp; omega))
 clear hb1 CC
 go_wp2_with fail
 refine (CR.out _ HB1.out).mono ?_
 rintro e w2 ⟨rfl, hb2⟩
 go_wp2
 go_ret
 exact ⟨rfl, HB1.out.trans (hb2.mono HB1.out.size)⟩
end PartLgF
section PartLwRq
open Go.RowKit
theorem ok_small {ps : List Pi} {rs : List Pg.Rl} (h : Pg.ok ps rs = true) : ps.length ≤ 200 ∧ rs.length ≤ 12 ∧ ∀ i, (ps.getD i Pi.no).kids.length ≤ 20 := by
 unfold Pg.ok at h
 simp only [Bool.and_eq_true, decide_eq_true_eq] at h
 obtain ⟨⟨⟨h1, h2⟩, h3⟩, -⟩ := h
 refine ⟨h1, h2, fun i => ?_⟩
 by_cases hi : i < ps.length
 ·have := List.all_eq_true.1 h3 i (List.mem_range.2 hi)
  unfold Pg.node at this
  simp only [Bool.and_eq_true, decide_eq_true_eq] at this
  have h4 := this.1.2.2
  have h5 : (Pg.many (ps.getD i Pi.no).op).2 ≤ 20 := by
   unfold Pg.many
   repeat' split
   all_goals simp
  omega
 ·rw [show ps.getD i Pi.no = Pi.no by simp; rw [List.getElem?_eq_none (by omega)]; rfl]
  simp [Pi.no]
theorem read_ok {l : List UInt8} {ps : List Pi} {rs : List Pg.Rl} (h : Ip.read l = some (ps, rs)) : Pg.ok ps rs = true := by
 unfold Ip.read at h
 split at h
 ·simp at h
 ·split at h
  ·simp at h
  ·split at h
   ·rename_i hk
    have e := Option.some.inj h
    rw [e] at hk
    exact hk
   ·simp at h
def ndsOf (R : Option (List Pi × List Pg.Rl)) : List Pi := (R.getD ([], [])).1
def rlsOf (R : Option (List Pi × List Pg.Rl)) : List Pg.Rl := (R.getD ([], [])).2
theorem read_bounds (l : List UInt8) : (ndsOf (Ip.read l)).length ≤ 200 ∧ (rlsOf (Ip.read l)).length ≤ 12 ∧ ∀ i, ((ndsOf (Ip.read l)).getD i Pi.no).kids.length ≤ 20 := by
 cases h : Ip.read l with
 | none => exact ⟨by simp [ndsOf], by simp [rlsOf], fun i => by simp [ndsOf, Pi.no]⟩
 | some q => exact ok_small (read_ok (ps := q.1) (rs := q.2) h)
theorem RdAns.of {w' : World} {R : Option (List Pi × List Pg.Rl)} {e : Ending} (h : RdAns w' R e) : ∃ va vc ra rc, e = .returned (.tuple #[.agg #[.slice va (ndsOf R).length vc, .slice ra (rlsOf R).length rc], .bool R.isSome]) ∧ PcsAt w' (.slice va (ndsOf R).length vc) (ndsOf R) ∧ RlsAt w' (.slice ra (rlsOf R).length rc) (rlsOf R) := by
 cases R with
 | none => exact ⟨none, 0, none, 0, h, ⟨none, 0, rfl, fun h => by simp [ndsOf] at h⟩, ⟨none, 0, rfl, fun h => by simp [rlsOf] at h⟩⟩
 | some q =>
  obtain ⟨ps, rs⟩ := q
  obtain ⟨v, rv, rfl, hp, hr⟩ := h
  obtain ⟨va, vc, rfl, -⟩ := id hp
  obtain ⟨ra, rc, rfl, -⟩ := id hr
  exact ⟨va, vc, ra, rc, rfl, hp, hr⟩
theorem RdOwn.of {X : Nat} {w' : World} {R : Option (List Pi × List Pg.Rl)} {e : Ending} (h : RdOwn X w' R e) : ∃ va vc ra rc Q, e = .returned (.tuple #[.agg #[.slice va (ndsOf R).length vc, .slice ra (rlsOf R).length rc], .bool R.isSome]) ∧ PcsAt w' (.slice va (ndsOf R).length vc) (ndsOf R) ∧ RlsAt w' (.slice ra (rlsOf R).length rc) (rlsOf R) ∧ PW X w'.heap.size w' (.slice va (ndsOf R).length vc) (.slice ra (rlsOf R).length rc) (ndsOf R).length (rlsOf R).length (fun i => ((ndsOf R).getD i Pi.no).kids.length) Q 0 0 := by
 cases R with
 | none => exact ⟨none, 0, none, 0, fun _ => 0, h, ⟨none, 0, rfl, fun h => by simp [ndsOf] at h⟩, ⟨none, 0, rfl, fun h => by simp [rlsOf] at h⟩, ⟨⟨none, 0, rfl, fun h => by simp [ndsOf] at h⟩, ⟨none, 0, rfl, fun h => by simp [rlsOf] at h⟩, fun x hx => by have := hx.1; simp [rlsOf] at this, fun x hx => by have := hx.1; simp [rlsOf] at this, Nat.zero_le _⟩⟩
 | some q =>
  obtain ⟨ps, rs⟩ := q
  obtain ⟨v, rv, B, g, rfl, hX, hq, hr, hd⟩ := h
  obtain ⟨Q, hpw⟩ := pw_of hX hq hr hd
  obtain ⟨va, vc, rfl, -⟩ := id hq.np.at
  obtain ⟨ra, rc, rfl, -⟩ := id hr.at
  exact ⟨va, vc, ra, rc, Q, rfl, hq.np.at, hr.at, hpw⟩
theorem read_small6 (l : List UInt8) (ht : ∀ p ∈ ndsOf (Ip.read l), p.text.size ≤ 600) : Small (ndsOf (Ip.read l)) (ndsOf (Ip.read l)).length := fun i hi => by
 have hm : (ndsOf (Ip.read l)).getD i Pi.no ∈ ndsOf (Ip.read l) := by
  rw [show (ndsOf (Ip.read l)).getD i Pi.no = (ndsOf (Ip.read l))[i] by simp [hi]]
  exact List.getElem_mem hi
 have h1 := ht _ hm
 have h2 := (read_bounds l).2.2 i
 omega
theorem read_texts (l : List UInt8) : ∀ p ∈ ndsOf (Ip.read l), p.text.size ≤ 600 := by
 cases h : Ip.read l with
 | none => intro p hp; simp [ndsOf] at hp
 | some q =>
  unfold Ip.read at h
  split at h
  ·simp at h
  ·split at h
   ·simp at h
   ·rename_i ps ha
    split at h
    ·have e := Option.some.inj h
     have hf := Ip.fine_all (M := 600) ha ⟨Tk.tokens_len l, Tk.tokens_sm l⟩
     rw [e] at hf
     exact fun p hp => (hf.2 p hp).1
    ·simp at h
theorem cells2p {w : World} {g : Nat} {x y : Value} {t : TypeId} (h : w.heap[g]? = some (.cells #[x, y] t (0, 0))) : w.cell? ⟨g, 0, none⟩ = some x ∧ w.cell? ⟨g, 1, none⟩ = some y := ⟨(pcells2 h).1, (pcells2 h).2.1⟩
set_option maxRecDepth 100000 in
set_option maxHeartbeats 4000000 in
theorem lawRead (s : ByteArray) (w : World) (h2 : TwoS w) (h3 : RowO w) (lo : 0 < w.heap.size ∧ 2 < w.heap.size) :
  Calls Tryz.prog 3 #[.string s] w fun e w' => e = .returned (.bool true) ∧ Below w.heap.size w w' := by
 by_cases hs : 1048576 < s.size
 ·have d1 : decide ((1048576 : Int) < (s.size : Int)) = true := decide_eq_true (by omega)
  clear h2 h3 lo
  go_enter Tryz.func3, Tryz.ntmps3
  go_wp2
  go_ret
  exact ⟨rfl, Below.refl _ _⟩
 ·have d1 : decide ((1048576 : Int) < (s.size : Int)) = false := decide_eq_false (by omega)
  have hsl : s.data.toList.length ≤ 1048576 := by
   have : s.data.toList.length = s.size := by simp
   omega
  have hse : (⟨s.data.toList.toArray⟩ : ByteArray) = s := by simp
  obtain ⟨P, hP⟩ : ∃ P, P = ndsOf (Ip.read s.data.toList) := ⟨_, rfl⟩
  obtain ⟨R, hR⟩ : ∃ R, R = rlsOf (Ip.read s.data.toList) := ⟨_, rfl⟩
  obtain ⟨ok, hok⟩ : ∃ ok, ok = (Ip.read s.data.toList).isSome := ⟨_, rfl⟩
  obtain ⟨b1, b2, b3⟩ := read_bounds s.data.toList
  have hsm := read_small6 s.data.toList
  have htx := read_texts s.data.toList
  rw [← hP] at b1 b3 hsm htx
  rw [← hR] at b2
  obtain ⟨K, hKd⟩ : ∃ K : Nat → Nat, K = fun i => (P.getD i Pi.no).kids.length := ⟨_, rfl⟩
  have hK : ∀ i, K i ≤ 1000 := fun i => by rw [hKd]; have := b3 i; show (P.getD i Pi.no).kids.length ≤ 1000; omega
  obtain ⟨n, hn⟩ : ∃ n, n = P.length := ⟨_, rfl⟩
  obtain ⟨rn, hrn⟩ : ∃ rn, rn = R.length := ⟨_, rfl⟩
  have CI : Hid (∀ W : World, Below w.heap.size w W → Calls Tryz.prog 6 #[.string s] W fun e w' => Below W.heap.size W w' ∧ ∃ (va : Option Addr) (vc : Nat) (ra : Option Addr) (rc : Nat) (Q : Nat → Nat), e = .returned (.tuple #[.agg #[.slice va n vc, .slice ra rn rc], .bool ok]) ∧ PcsAt w' (.slice va n vc) P ∧ RlsAt w' (.slice ra rn rc) R ∧ PW W.heap.size w'.heap.size w' (.slice va n vc) (.slice ra rn rc) n rn K Q 0 0) := by
   intro W hb
   have := implReadOwn s.data.toList W hsl (h2.below lo.1 hb) (h3.below lo.2 hb) ⟨by have := hb.size; have := lo.1; omega, by have := hb.size; have := lo.2; omega⟩
   rw [hse] at this
   refine this.mono ?_
   rintro e w' ⟨h, hb⟩
   obtain ⟨va, vc, ra, rc, Q, k1, k2, k3, k4⟩ := h.of
   rw [← hP, ← hR, ← hok, ← hn, ← hrn] at k1
   rw [← hP, ← hn] at k2
   rw [← hR, ← hrn] at k3
   rw [← hP, ← hR, ← hn, ← hrn, ← hKd] at k4
   exact ⟨hb, va, vc, ra, rc, Q, k1, k2, k3, k4⟩
  have CS : Hid (∀ W : World, Calls Tryz.prog 5 #[.string s] W fun e w' => Below W.heap.size W w' ∧ ∃ (va : Option Addr) (vc : Nat) (ra : Option Addr) (rc : Nat), e = .returned (.tuple #[.agg #[.slice va n vc, .slice ra rn rc], .bool ok]) ∧ PcsAt w' (.slice va n vc) P ∧ RlsAt w' (.slice ra rn rc) R) := by
   intro W
   have := specReadProgram s.data.toList W hsl
   rw [hse, read_same] at this
   refine this.mono ?_
   rintro e w' ⟨h, hb⟩
   obtain ⟨va, vc, ra, rc, k1, k2, k3⟩ := h.of
   rw [← hP, ← hR, ← hok, ← hn, ← hrn] at k1
   rw [← hP, ← hn] at k2
   rw [← hR, ← hrn] at k3
   exact ⟨hb, va, vc, ra, rc, k1, k2, k3⟩
  have HSM : Hid (Small P P.length) := hsm htx
  have hn2 : n ≤ 1000 := by omega
  have hr2 : rn ≤ 1000 := by omega
  have HL : Hid (P.length ≤ 1048576 ∧ R.length ≤ 1048576) := ⟨by omega, by omega⟩
  have HK := hidOf2 hK
  clear hP hR hok hn hrn hKd b1 b2 b3 hsm htx hK h2 h3 lo hse hsl hs
  go_enter Tryz.func3, Tryz.ntmps3
  go_wp2_with fail
  refine (CS.out _).mono ?_
  rintro e w1 ⟨hb1, va1, vc1, ra1, rc1, rfl, p1, r1⟩
  have HP1 := hidOf2 (And.intro p1 r1)
  have HB1 := hidOf2 hb1
  have HS := hidOf2 HSM.out
  have q1 := heap_alloc_new w1 (.cells #[.slice va1 n vc1, .slice ra1 rn rc1] 25)
  have HA1 := hidOf2 (And.intro q1 ((Below.refl w1.heap.size w1).alloc (Nat.le_refl _) (.cells #[.slice va1 n vc1, .slice ra1 rn rc1] 25)))
  have C2 := hidOf2 (CI.out (w1.alloc (.cells #[.slice va1 n vc1, .slice ra1 rn rc1] 25)) (hb1.trans (HA1.out.2.mono hb1.size)))
  clear p1 r1 CS hb1 HSM q1
  go_wp2_with fail
  generalize w1.alloc (.cells #[.slice va1 n vc1, .slice ra1 rn rc1] 25) = W1 at *
  refine C2.out.mono ?_
  rintro e w3 ⟨hb3, va2, vc2, ra2, rc2, Q, rfl, p3, r3, pw3⟩
  have HZ3 := hidOf2 ((hb3.block _ (blk_lt HA1.out.1)).trans HA1.out.1)
  have HB13 := hidOf2 (HA1.out.2.trans (hb3.mono HA1.out.2.size))
  have HP3 := hidOf2 (And.intro p3 (And.intro r3 pw3))
  have HW1 := hidOf2 (And.intro (show w1.heap.size < W1.heap.size from blk_lt HA1.out.1) hb3.size)
  have q3 := heap_alloc_new w3 (.cells #[.slice va2 n vc2, .slice ra2 rn rc2] 25)
  have u3 : Below w3.heap.size w3 (w3.alloc (.cells #[.slice va2 n vc2, .slice ra2 rn rc2] 25)) := (Below.refl _ _).alloc (Nat.le_refl _) _
  have HA3 := hidOf2 (And.intro q3 u3)
  obtain ⟨z0, z1⟩ := cells2p ((u3.block _ (blk_lt HZ3.out)).trans HZ3.out)
  clear hb3 p3 r3 pw3 C2 q3 u3 HA1
  go_wp2_with fail
  generalize w3.alloc (.cells #[.slice va2 n vc2, .slice ra2 rn rc2] 25) = W3 at *
  have hB1 : Below w1.heap.size w1 W3 := HB13.out.trans (HA3.out.2.mono HB13.out.size)
  refine (eqProg_any _ _ _ _ P R _ (HP3.out.1.keep HA3.out.2) (HP3.out.2.1.keep HA3.out.2) (HP1.out.1.keep hB1) (HP1.out.2.keep hB1) HL.out.1 HS.out HL.out.2).mono ?_
  rintro e w5 ⟨rfl, hb5⟩
  have hq : (ok != ok) = false := by simp
  have HX5 := hidOf2 ((hb5.block _ (blk_lt HA3.out.1)).trans HA3.out.1)
  have HZ5 := hidOf2 ((hb5.block _ (blk_lt ((HA3.out.2.block _ (blk_lt HZ3.out)).trans HZ3.out))).trans ((HA3.out.2.block _ (blk_lt HZ3.out)).trans HZ3.out))
  have HB35 := hidOf2 (HA3.out.2.trans (hb5.mono HA3.out.2.size))
  obtain ⟨x0, x1⟩ := cells2p HX5.out
  clear hb5 hB1 z0 z1
  have C4 := hidOf2 (markProg_any W1.heap.size w3.heap.size n rn _ _ K Q w5 (HP3.out.2.2.keep HB35.out) HB35.out.size hn2 hr2 HK.out)
  go_wp2_with fail
  obtain ⟨m, hm⟩ : ∃ m, m = cm K n + 3 * rn := ⟨_, rfl⟩
  have hml : m ≤ 10000000 := by have := (cm_le K HK.out n).2; omega
  rw [← hm] at C4
  refine C4.out.mono ?_
  rintro e w6 ⟨rfl, pw6, fs6⟩
  have HX6 := hidOf2 ((fs6.2.2 _ (blk_lt HX5.out) (fun e => by omega)).trans HX5.out)
  have HZ6 := hidOf2 ((fs6.2.2 _ (blk_lt HZ5.out) (fun e => by have := HW1.out.1; omega)).trans HZ5.out)
  have hb56 : Below w1.heap.size w1 w6 := HB13.out.trans (((HB35.out.mono HB13.out.size).trans ⟨fs6.1.1, fs6.1.2.1, fs6.1.2.2, fs6.2.1, fun k hk => fs6.2.2 k (by have := HB13.out.size; have := HB35.out.size; omega) (fun e => by have := HW1.out.1; omega)⟩))
  have HB16 := hidOf2 hb56
  have CH : Hid (∀ W : World, Below w6.heap.size w6 W → Calls Tryz.prog 9 #[.agg #[.slice va2 n vc2, .slice ra2 rn rc2], .int .i64 1] W fun e w' => e = .returned (.int .i64 (m : Int)) ∧ Below W.heap.size W w') := fun W hW => by
   rw [hm]
   exact heldProg_any W1.heap.size w3.heap.size n rn _ _ K Q W (pw6.keep hW) hn2 hr2 HK.out
  have dm : decide ((m : Int) < 0) = false := decide_eq_false (by omega)
  have hqm : ((m : Int) != (m : Int)) = false := by simp
  obtain ⟨y0, y1⟩ := cells2p HX6.out
  clear pw6 fs6 hm hb56 HB35 HB13 HP3 HX5 HZ5 C4 x0 x1 HA3 HZ3
  go_wp2_with fail
  refine (CH.out _ (Below.refl _ _)).mono ?_
  rintro e w7 ⟨rfl, hb7⟩
  have HX7 := hidOf2 ((hb7.block _ (blk_lt HX6.out)).trans HX6.out)
  have HZ7 := hidOf2 ((hb7.block _ (blk_lt HZ6.out)).trans HZ6.out)
  have HB7 := hidOf2 hb7
  have C5 := hidOf2 (CI.out w7 (HB1.out.trans ((HB16.out.trans (hb7.mono HB16.out.size)).mono HB1.out.size)))
  clear hb7 CI y0 y1
  go_wp2_with fail
  refine C5.out.mono ?_
  rintro e w8 ⟨hb8, va8, vc8, ra8, rc8, Q8, rfl, p8, r8, -⟩
  have HX8 := hidOf2 ((hb8.block _ (blk_lt HX7.out)).trans HX7.out)
  have HZ8 := hidOf2 ((hb8.block _ (blk_lt HZ7.out)).trans HZ7.out)
  have HB68 := hidOf2 (HB7.out.trans (hb8.mono HB7.out.size))
  have HP8 := hidOf2 (And.intro p8 r8)
  have u8 : Below w8.heap.size w8 (w8.alloc (.cells #[.slice va8 n vc8, .slice ra8 rn rc8] 25)) := (Below.refl _ _).alloc (Nat.le_refl _) _
  have HA8 := hidOf2 u8
  obtain ⟨z0, z1⟩ := cells2p ((u8.block _ (blk_lt HZ8.out)).trans HZ8.out)
  clear hb8 p8 r8 C5 u8 HX7 HZ7
  go_wp2_with fail
  generalize w8.alloc (.cells #[.slice va8 n vc8, .slice ra8 rn rc8] 25) = W8 at *
  have hB18 : Below w1.heap.size w1 W8 := HB16.out.trans ((HB68.out.trans (HA8.out.mono HB68.out.size)).mono HB16.out.size)
  refine (eqProg_any _ _ _ _ P R _ (HP8.out.1.keep HA8.out) (HP8.out.2.keep HA8.out) (HP1.out.1.keep hB18) (HP1.out.2.keep hB18) HL.out.1 HS.out HL.out.2).mono ?_
  rintro e w10 ⟨rfl, hb10⟩
  have HX9 := hidOf2 ((HA8.out.block _ (blk_lt HX8.out)).trans HX8.out)
  obtain ⟨y0, y1⟩ := cells2p ((hb10.block _ (blk_lt HX9.out)).trans HX9.out)
  have HB610 := hidOf2 ((HB68.out.trans (HA8.out.mono HB68.out.size)).trans (hb10.mono (Nat.le_trans HB68.out.size HA8.out.size)))
  clear hb10 hB18 z0 z1 HX8 HZ8 HX9
  go_wp2_with fail
  refine (CH.out _ HB610.out).mono ?_
  rintro e w11 ⟨rfl, hb11⟩
  have hfin : Below w.heap.size w w11 := HB1.out.trans ((HB16.out.trans ((HB610.out.trans (hb11.mono HB610.out.size)).mono HB16.out.size)).mono HB1.out.size)
  go_wp2
  go_ret
  exact ⟨rfl, hfin⟩
end PartLwRq
end Go.Proofs.YtkfkbdgfnopokaaGreatDoor
