/- The law's own marks in rows of rows of texts. -/
import Derived.Test.YteajkkcelajadaaCuB
import Derived.Test.YteajkkcelajadaaMsA
namespace Go.Proofs.Yteajkkcelajadaa
open Go.RowKit

/-- The block of the i-th row. -/
def Sb (vs : List Value) (i q : Nat) : Prop := (vs.getD i noV).ownBlock = some q
/-- The first mark of the i-th row. -/
def kAt (ns : List Nat) (k i : Nat) : Nat := k + (ns.take i).sum
theorem kAt_next (ns : List Nat) (k i : Nat) (h : i < ns.length) : kAt ns k (i + 1) = kAt ns k i + ns.getD i 0 := by
  unfold kAt
  rw [List.take_succ_eq_append_getElem h, List.sum_append]
  simp [h]
  omega
theorem kAt_end (ns : List Nat) (k : Nat) : kAt ns k ns.length = k + ns.sum := by unfold kAt; rw [List.take_length]
theorem take_sum_le (ns : List Nat) (i : Nat) : (ns.take i).sum ≤ ns.sum := by
  induction ns generalizing i with
  | nil => simp
  | cons x xs ih =>
    cases i with
    | zero => simp
    | succ i => simp [ih i]
theorem kAt_le (ns : List Nat) (k i : Nat) : kAt ns k i ≤ k + ns.sum := by unfold kAt; have := take_sum_le ns i; omega
theorem getD_le_sum (ns : List Nat) (i : Nat) : ns.getD i 0 ≤ ns.sum := by
  by_cases h : i < ns.length
  · have h1 := kAt_next ns 0 i h
    have h2 := kAt_le ns 0 (i + 1)
    omega
  · rw [List.getD_eq_getElem?_getD, List.getElem?_eq_none (by omega)]
    simp
/-- The rows vs stand in block r; the first j of them bear marks from k on. -/
structure MkPs (w : World) (r n k j : Nat) (vs : List Value) (ns : List Nat) : Prop where
  lt : r < w.heap.size
  len : ns.length = n
  cell : ∀ i, i < n → w.cell? ⟨r, i, none⟩ = some (vs.getD i noV)
  each : ∀ i, i < n → WTv (Sb vs i) w (vs.getD i noV) (ns.getD i 0) (kAt ns k i) (if i < j then ns.getD i 0 else 0)
  apart : ∀ i i', i < n → i' < n → i ≠ i' → ∀ q, Sb vs i q → ¬ Sb vs i' q
  own : ∀ i, i < n → ¬ Sb vs i r
theorem MkPs.keepIf {w w' : World} {r n k j : Nat} {vs : List Value} {ns : List Nat} (h : MkPs w r n k j vs ns) (hsz : w.heap.size ≤ w'.heap.size) (hr : w'.heap[r]? = w.heap[r]?) (hk : ∀ i, i < n → 0 < ns.getD i 0 → ∀ q, Sb vs i q → w'.heap[q]? = w.heap[q]?) : MkPs w' r n k j vs ns :=
  ⟨Nat.lt_of_lt_of_le h.lt hsz, h.len, fun i hi => by have := h.cell i hi; simp only [World.cell?, hr] at this ⊢; exact this, fun i hi => (h.each i hi).keep (fun q h0 e => hk i hi h0 q e), h.apart, h.own⟩
theorem MkPs.up {w w' : World} {r n k j : Nat} {vs : List Value} {ns : List Nat} (h : MkPs w r n k j vs ns) (hb : Below w.heap.size w w') : MkPs w' r n k j vs ns :=
  h.keepIf hb.size (hb.block r h.lt) (fun i hi h0 q hq => hb.block q ((h.each i hi).lt h0 hq))
theorem MkPs.next {w w' : World} {r n k j : Nat} {vs : List Value} {ns : List Nat} (h : MkPs w r n k j vs ns) (hj : j < n) (hf : FS (Sb vs j) w w') (hm : WTv (Sb vs j) w' (vs.getD j noV) (ns.getD j 0) (kAt ns k j) (ns.getD j 0)) : MkPs w' r n k (j + 1) vs ns := by
  have hr : w'.heap[r]? = w.heap[r]? := hf.2.2 r h.lt (h.own j hj)
  refine ⟨Nat.lt_of_lt_of_le h.lt hf.2.1, h.len, fun i hi => by have := h.cell i hi; simp only [World.cell?, hr] at this ⊢; exact this, fun i hi => ?_, h.apart, h.own⟩
  by_cases e : i = j
  · subst e
    rw [if_pos (by omega)]
    exact hm
  · have h1 := (h.each i hi).keep (w' := w') (fun q h0 eq => hf.2.2 q ((h.each i hi).lt h0 eq) (h.apart i j hi hj e q eq))
    by_cases hlt : i < j
    · rw [if_pos (by omega)]
      rwa [if_pos hlt] at h1
    · rw [if_neg (by omega)]
      rwa [if_neg hlt] at h1

set_option maxRecDepth 100000 in
set_option maxHeartbeats 2000000 in
theorem markSs_any (r n c k : Nat) (vs : List Value) (ns : List Nat) (w : World) (h : MkPs w r n k 0 vs ns) (hn : n ≤ 1048576) (hs : ns.sum ≤ 1048576) (hk : k ≤ 1000000) (hk0 : 0 < k) :
    Calls Try.prog 15 #[.slice (some ⟨r, 0, none⟩) n c, .int .i64 (k : Int)] w fun e w' => e = .returned (.int .i64 ((k + ns.sum : Nat) : Int)) ∧ MkPs w' r n k n vs ns ∧ FS (fun q => ∃ i, i < n ∧ Sb vs i q) w w' := by
  have HW : Hid (MkPs w r n k 0 vs ns) := h
  obtain ⟨T, hT⟩ : ∃ T, T = k + ns.sum := ⟨_, rfl⟩
  have HT : Hid (T = k + ns.sum) := hT
  have HL : Hid (ns.length = n) := h.len
  rw [← hT]
  clear hT h
  go_enter Try.func15, Try.ntmps15
  go_wp2
  go_loopw [1, 5] (fun q i wr => ∃ j x : Nat, i = .int .i64 (j : Int) ∧ q = .int .i64 (x : Int) ∧ Hid (x = kAt ns k j) ∧ j ≤ n ∧ Hid (FS (fun q => ∃ i, i < n ∧ Sb vs i q) w wr) ∧ Hid (MkPs wr r n k j vs ns)) (fun _ i _ => n - (intOf i).toNat)
  case atStart => exact ⟨0, k, rfl, rfl, by show _ = _; simp [kAt], by omega, FS.refl _ _, HW.out⟩
  case round =>
    obtain ⟨j, x, rfl, rfl, HX, hj, HF, HH⟩ := hrel
    by_cases hlt : j < n
    · have x1 := HH.out.cell j hlt
      have w1 := HH.out.each j hlt
      rw [if_neg (by omega)] at w1
      have hx1 : x ≤ 3000000 := by have := HX.out; have := kAt_le ns k j; omega
      have hx0 : 0 < x := by have := HX.out; unfold kAt at this; omega
      have CM : Hid (Calls Try.prog 14 #[vs.getD j noV, .int .i64 (x : Int)] wr fun e w' => e = .returned (.int .i64 ((x + ns.getD j 0 : Nat) : Int)) ∧ WTv (Sb vs j) w' (vs.getD j noV) (ns.getD j 0) x (ns.getD j 0) ∧ FS (Sb vs j) wr w') :=
        markTxs_any _ _ _ _ _ (by rw [HX.out]; exact w1) (by have := getD_le_sum ns j; omega) (by omega) hx0
      have hlj : ns.getD j 0 ≤ 1048576 := by have := getD_le_sum ns j; omega
      have HX2 : Hid (x + ns.getD j 0 = kAt ns k (j + 1)) := by show _ = _; rw [kAt_next ns k j (by rw [HL.out]; exact hlt), ← HX.out]
      have HN : Hid (∀ w', FS (Sb vs j) wr w' → WTv (Sb vs j) w' (vs.getD j noV) (ns.getD j 0) x (ns.getD j 0) → MkPs w' r n k (j + 1) vs ns) := fun w' hf hm => HH.out.next hlt hf (by rw [← HX.out]; exact hm)
      obtain ⟨ad, cc, hv⟩ := w1.form
      obtain ⟨lj, hlj2⟩ : ∃ lj, lj = ns.getD j 0 := ⟨_, rfl⟩
      rw [← hlj2] at hv CM HX2 HN hlj
      have HV : Hid (vs.getD j noV = .slice ad lj cc) := hv
      rw [hv] at x1 CM
      clear hv w1 hlj2
      have i1 : (j : Int) < (n : Int) := by omega
      have i0 : (0 : Int) ≤ (j : Int) := by omega
      go_wp2_with fail
      refine CM.out.mono ?_
      rintro e w2 ⟨rfl, m2, f2⟩
      have HN2 : Hid _ := HN.out w2 f2 (by rw [HV.out]; exact m2)
      have HF2 : Hid (FS (fun q => ∃ i, i < n ∧ Sb vs i q) w w2) := HF.out.trans (f2.sub (fun q hq => ⟨j, hlt, hq⟩))
      clear m2 f2 CM HN HH HF
      go_wp2
      go_roundw
      case rel => exact ⟨j + 1, x + lj, by go_num, by go_num, HX2, by omega, HF2, HN2⟩
      case measure => simp [intOf]; omega
    · obtain rfl : j = n := by omega
      have hxT : x = T := by rw [HX.out, HT.out, ← HL.out, kAt_end]
      subst hxT
      go_wp2
      go_ret
      exact ⟨rfl, HH.out, HF.out⟩

set_option maxRecDepth 100000 in
set_option maxHeartbeats 2000000 in
theorem heldSs_any (r n c k : Nat) (vs : List Value) (ns : List Nat) (w : World) (h : MkPs w r n k n vs ns) (hn : n ≤ 1048576) (hs : ns.sum ≤ 1048576) (hk : k ≤ 1000000) (hk0 : 0 < k) :
    Calls Try.prog 16 #[.slice (some ⟨r, 0, none⟩) n c, .int .i64 (k : Int)] w fun e w' => e = .returned (.int .i64 ((k + ns.sum : Nat) : Int)) ∧ Below w.heap.size w w' := by
  have HW : Hid (MkPs w r n k n vs ns) := h
  obtain ⟨T, hT⟩ : ∃ T, T = k + ns.sum := ⟨_, rfl⟩
  have HT : Hid (T = k + ns.sum) := hT
  have HL : Hid (ns.length = n) := h.len
  rw [← hT]
  clear hT h
  go_enter Try.func16, Try.ntmps16
  go_wp2
  go_loopw [1, 5] (fun q i wr => ∃ j x : Nat, i = .int .i64 (j : Int) ∧ q = .int .i64 (x : Int) ∧ Hid (x = kAt ns k j) ∧ j ≤ n ∧ Hid (Below w.heap.size w wr)) (fun _ i _ => n - (intOf i).toNat)
  case atStart => exact ⟨0, k, rfl, rfl, by show _ = _; simp [kAt], by omega, Below.refl _ _⟩
  case round =>
    obtain ⟨j, x, rfl, rfl, HX, hj, HB⟩ := hrel
    by_cases hlt : j < n
    · have HH := HW.out.up HB.out
      have x1 := HH.cell j hlt
      have w1 := HH.each j hlt
      rw [if_pos hlt] at w1
      have hx1 : x ≤ 3000000 := by have := HX.out; have := kAt_le ns k j; omega
      have hx0 : 0 < x := by have := HX.out; unfold kAt at this; omega
      have CM : Hid (Calls Try.prog 22 #[vs.getD j noV, .int .i64 (x : Int)] wr fun e w' => e = .returned (.int .i64 ((x + ns.getD j 0 : Nat) : Int)) ∧ Below wr.heap.size wr w') :=
        heldTxs_any (Sb vs j) _ _ _ _ (by rw [HX.out]; exact w1) (by have := getD_le_sum ns j; omega) (by omega) hx0
      have hlj : ns.getD j 0 ≤ 1048576 := by have := getD_le_sum ns j; omega
      have HX2 : Hid (x + ns.getD j 0 = kAt ns k (j + 1)) := by show _ = _; rw [kAt_next ns k j (by rw [HL.out]; exact hlt), ← HX.out]
      obtain ⟨ad, cc, hv⟩ := w1.form
      obtain ⟨lj, hlj2⟩ : ∃ lj, lj = ns.getD j 0 := ⟨_, rfl⟩
      rw [← hlj2] at hv CM HX2 hlj
      rw [hv] at x1 CM
      clear hv w1 hlj2 HH
      have i1 : (j : Int) < (n : Int) := by omega
      have i0 : (0 : Int) ≤ (j : Int) := by omega
      go_wp2_with fail
      refine CM.out.mono ?_
      rintro e w2 ⟨rfl, b2⟩
      have HB2 : Hid (Below w.heap.size w w2) := HB.out.trans (b2.mono HB.out.size)
      have d3 : decide (((x + lj : Nat) : Int) < 0) = false := by simp; omega
      clear b2 CM
      go_wp2
      go_roundw
      case rel => exact ⟨j + 1, x + lj, by go_num, by go_num, HX2, by omega, HB2⟩
      case measure => simp [intOf]; omega
    · obtain rfl : j = n := by omega
      have hxT : x = T := by rw [HX.out, HT.out, ← HL.out, kAt_end]
      subst hxT
      go_wp2
      go_ret
      exact ⟨rfl, HB.out⟩

theorem markSs_none (ad : Option Addr) (c k : Nat) (w : World) :
    Calls Try.prog 15 #[.slice ad 0 c, .int .i64 (k : Int)] w fun e w' => e = .returned (.int .i64 (k : Int)) ∧ w' = w := by
  go_enter Try.func15, Try.ntmps15
  go_wp2
  refine wp_loop_rounds 1 ?_
  rw [rounds_succ]
  go_wp2
  go_ret
  exact ⟨rfl, rfl⟩
theorem heldSs_none (ad : Option Addr) (c k : Nat) (w : World) :
    Calls Try.prog 16 #[.slice ad 0 c, .int .i64 (k : Int)] w fun e w' => e = .returned (.int .i64 (k : Int)) ∧ w' = w := by
  go_enter Try.func16, Try.ntmps16
  go_wp2
  refine wp_loop_rounds 1 ?_
  rw [rounds_succ]
  go_wp2
  go_ret
  exact ⟨rfl, rfl⟩

theorem FS.below {S : Nat → Prop} {w w' : World} {B : Nat} (h : FS S w w') (hB : B ≤ w.heap.size) (hS : ∀ q, S q → B ≤ q) : Below B w w' :=
  ⟨h.1.1, h.1.2.1, h.1.2.2, h.2.1, fun k hk => h.2.2 k (by omega) (fun e => by have := hS k e; omega)⟩
theorem TxRow.wt {B : Nat} {w : World} {v : Value} {ts : List ByteArray} (h : TxRow B w v ts) (k : Nat) : WTv (fun q => v.ownBlock = some q) w v ts.length k 0 := by
  rcases h.2 with ⟨rfl, hn⟩ | ⟨g, cap, cur, rfl, h1, hg, hc1, hc2, hc3, hc4⟩
  · exact ⟨none, 0, by rw [hn], fun h0 => by omega⟩
  · refine ⟨_, cap, rfl, fun _ => ⟨g, rfl, rfl, cur, hg, ?_, fun i hi => by omega⟩⟩
    have := congrArg List.length hc4
    simp at this
    omega
/-- A row of rows may be marked. -/
theorem PsRow.marks {B : Nat} {w : World} {v : Value} {ps : List (List ByteArray)} {vs : List Value} (h : PsRow B w v ps vs) (h0 : 0 < ps.length) (k : Nat) :
    ∃ r c, v = .slice (some ⟨r, 0, Option.none⟩) ps.length c ∧ B ≤ r ∧ MkPs w r ps.length k 0 vs (ps.map List.length) ∧ ∀ i, i < ps.length → ∀ q, Sb vs i q → B ≤ q ∧ q < w.heap.size := by
  have h' := h.row
  have hl := h.len
  rcases h'.2 with ⟨rfl, hn⟩ | ⟨g, cap, cur, rfl, h1, hg, _⟩
  · omega
  · refine ⟨g, cap, by rw [hl], h1, ⟨blk_lt hg, by simp, fun i hi => ?_, fun i hi => ?_, fun i i' hi hi' hne q hq hq' => ?_, fun i hi e => h.own i hi g e rfl⟩, fun i hi q hq => World.ownsRow.lt (h.each i hi) q hq⟩
    · rw [World.ownsRow.cellAt h.row i (by omega)]
      have hi2 : i < vs.length := by omega
      simp [hi2]
    · rw [if_neg (by omega)]
      have e : (ps.map List.length).getD i 0 = (ps.getD i []).length := by simp [hi]
      rw [e]
      exact (h.each i hi).wt _
    · by_cases hlt : i < i'
      · exact h.apart i i' hlt hi' q hq hq'
      · exact h.apart i' i (by omega) hi q hq' hq
/-- The rows of v bear marks from 1 on. -/
def Mkd (w : World) (v : Value) (ps : List (List ByteArray)) (vs : List Value) : Prop :=
  (∃ ad c, v = .slice ad 0 c ∧ ps.length = 0) ∨ ∃ r c, v = .slice (some ⟨r, 0, none⟩) ps.length c ∧ MkPs w r ps.length 1 ps.length vs (ps.map List.length)
theorem Mkd.up {w w' : World} {v : Value} {ps : List (List ByteArray)} {vs : List Value} (h : Mkd w v ps vs) (hb : Below w.heap.size w w') : Mkd w' v ps vs := by
  rcases h with h | ⟨r, c, h1, h2⟩
  · exact .inl h
  · exact .inr ⟨r, c, h1, h2.up hb⟩
theorem markPs_any (B : Nat) (v : Value) (ps : List (List ByteArray)) (vs : List Value) (w : World) (h : PsRow B w v ps vs) (hn : ps.length ≤ 1048576) (hs : (ps.map List.length).sum ≤ 1048576) :
    Calls Try.prog 15 #[v, .int .i64 1] w fun e w' => e = .returned (.int .i64 ((1 + (ps.map List.length).sum : Nat) : Int)) ∧ Mkd w' v ps vs ∧ FS (fun q => B ≤ q) w w' := by
  by_cases h0 : 0 < ps.length
  · obtain ⟨r, c, rfl, hr, hm, hq⟩ := h.marks h0 1
    refine (markSs_any r _ c 1 vs _ w hm hn hs (by decide) (by decide)).mono ?_
    rintro e w' ⟨rfl, m1, f1⟩
    exact ⟨rfl, .inr ⟨r, c, rfl, m1⟩, f1.sub (fun q ⟨i, hi, hs⟩ => (hq i hi q hs).1)⟩
  · obtain ⟨ad, c, rfl⟩ := h.form
    have e : ps = [] := List.eq_nil_of_length_eq_zero (by omega)
    subst e
    refine (markSs_none ad c 1 w).mono ?_
    rintro e w' ⟨rfl, rfl⟩
    exact ⟨rfl, .inl ⟨ad, c, rfl, rfl⟩, FS.refl _ _⟩
theorem heldPs_any (v : Value) (ps : List (List ByteArray)) (vs : List Value) (w : World) (h : Mkd w v ps vs) (hn : ps.length ≤ 1048576) (hs : (ps.map List.length).sum ≤ 1048576) :
    Calls Try.prog 16 #[v, .int .i64 1] w fun e w' => e = .returned (.int .i64 ((1 + (ps.map List.length).sum : Nat) : Int)) ∧ Below w.heap.size w w' := by
  rcases h with ⟨ad, c, rfl, h0⟩ | ⟨r, c, rfl, hm⟩
  · have e : ps = [] := List.eq_nil_of_length_eq_zero h0
    subst e
    refine (heldSs_none ad c 1 w).mono ?_
    rintro e w' ⟨rfl, rfl⟩
    exact ⟨rfl, Below.refl _ _⟩
  · exact heldSs_any r _ c 1 vs _ w hm hn hs (by decide) (by decide)
end Go.Proofs.Yteajkkcelajadaa
