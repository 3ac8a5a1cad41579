/- At every draw: lines that are cut are all of them, in parts of so many, the last one what is left. -/
import Derived.Test.YteajkkcelajadaaDCu
import Derived.Test.YteajkkcelajadaaCuD
import Derived.Test.YteajkkcelajadaaBig
namespace Go.Proofs.Yteajkkcelajadaa
open Go.RowKit

/-- A whole row, behind another. -/
theorem TxRow.pushMore {ops : Array Oper} {rest : List Oper} {o : Oper} {a : Act} {Q : Exit → Act → World → Prop} {B : Nat} {W : World} {v : Value} {x0 xs : List ByteArray} (hown : TxRow B W v x0) (hgd : o.guard = Option.none) (s y : Operand)
    (ho : o.op = .call { callee := .builtin .append, args := #[s, y], argTypes := #[24, 24] })
    (hs : a.eval s = v) (b of m c : Nat) (hx : a.eval y = .slice (some ⟨b, of, Option.none⟩) m c) (hm : m = xs.length)
    (hc : ∀ i, i < xs.length → W.cell? ⟨b, of + i, Option.none⟩ = some (.string (xs.getD i ByteArray.empty))) (hl : x0.length + xs.length ≤ 1048576) (h0 : 0 < xs.length) (hB : B ≤ W.heap.size)
    (h : ∀ q cap w', TxRow B w' (.slice (some ⟨q, 0, Option.none⟩) (x0.length + m) cap) (x0 ++ xs) → W.grownBy w' v.ownBlock → wpList Try.prog ops Q rest (a.put o.dst (.slice (some ⟨q, 0, Option.none⟩) (x0.length + m) cap)) w') :
    wpList Try.prog ops Q (o :: rest) a W := by
  subst hm
  obtain ⟨i0, hi, hz0, hz1, hz2⟩ := info_parts Try.infoTs
  have hnews : ∀ j u, (xs.map tsv)[j]? = some u → W.cell? ((⟨b, of, Option.none⟩ : Addr).add j) = some u := by
    intro j u hu
    have hj : j < xs.length := by simpa using (List.getElem?_eq_some_iff.1 hu).1
    have hadd : (⟨b, of, Option.none⟩ : Addr).add j = ⟨b, of + j, Option.none⟩ := by unfold Addr.add; split <;> simp_all
    rw [hadd, hc j hj]
    simp [hj, tsv] at hu ⊢
    exact hu
  refine wpList_append_lies _ hgd s y 24 ho B 9 i0 (.string ByteArray.empty) 1 16 Try.underlying24 hi hz0 hz1 hz2 rfl (by decide) v x0.length (x0.map tsv) hs hown ⟨b, of, Option.none⟩ xs.length c (xs.map tsv) hx (by simp)
      hnews (tsv_one xs) (by omega) (by unfold maxLen; omega) (by omega) hB W.heap.size rfl ?_
  intro q cap w' h2 h3 h4 h5
  refine h q cap w' ?_ h3
  unfold TxRow
  rw [List.map_append, List.length_append]
  exact h2

set_option maxHeartbeats 800000 in
theorem sameTxs_any (v1 v2 : Value) (ks : List ByteArray) (w : World) (h1 : TsAt w v1 ks) (h2 : TsAt w v2 ks) (hl : ks.length ≤ 1048576) :
    Calls Try.prog 8 #[v1, v2] w fun e w' => e = .returned (.bool true) ∧ Below w.heap.size w w' := by
  obtain ⟨a1, c1, rfl, f1⟩ := h1
  obtain ⟨a2, c2, rfl, f2⟩ := h2
  obtain ⟨n, hn⟩ : ∃ n, n = ks.length := ⟨_, rfl⟩
  rw [← hn] at f1 f2 hl ⊢
  have hq : ((n : Int) != (n : Int)) = false := by simp
  by_cases h0 : n = 0
  · subst h0
    clear f1 f2 hn
    go_enter Try.func8, Try.ntmps8
    go_wp2
    refine wp_loop_rounds 1 ?_
    rw [rounds_succ]
    go_wp2
    go_ret
    exact ⟨rfl, Below.refl _ _⟩
  · obtain ⟨g1, o1, rfl, l1, k1⟩ := f1 (by omega)
    obtain ⟨g2, o2, rfl, l2, k2⟩ := f2 (by omega)
    have K1 : Hid (∀ j, j < n → w.cell? ⟨g1, o1 + j, none⟩ = some (.string (ks.getD j ByteArray.empty))) := k1
    have K2 : Hid (∀ j, j < n → w.cell? ⟨g2, o2 + j, none⟩ = some (.string (ks.getD j ByteArray.empty))) := k2
    clear k1 k2 f1 f2 hn
    go_enter Try.func8, Try.ntmps8
    go_wp2
    go_loopw [5] (fun i wr => ∃ k : Nat, i = .int .i64 (k : Int) ∧ k ≤ n ∧ Below w.heap.size w wr) (fun i _ => n - (intOf i).toNat)
    case atStart => exact ⟨0, rfl, by omega, Below.refl _ _⟩
    case round =>
      obtain ⟨k, rfl, hk, hbel⟩ := hrel
      by_cases hlt : k < n
      · have c1 := (hbel.cell l1).trans (K1.out k hlt)
        have c2 := (hbel.cell l2).trans (K2.out k hlt)
        obtain ⟨x, hx⟩ : ∃ x, x = ks.getD k ByteArray.empty := ⟨_, rfl⟩
        rw [← hx] at c1 c2
        have i1 : (k : Int) < (n : Int) := by omega
        clear hx
        go_wp2_with fail
        go_quiet (fail)
        go_wp2
        go_roundw
        case rel => exact ⟨k + 1, by go_num, by omega, below_drewN hbel _⟩
        case measure => simp [intOf]; omega
      · go_wp2
        go_ret
        exact ⟨rfl, hbel⟩

/-- The row of parts, with one at its place. -/
theorem PsRow.get {B : Nat} {w : World} {v : Value} {ps : List (List ByteArray)} {vs : List Value} (h : PsRow B w v ps vs) (i : Nat) (hi : i < ps.length) (h0 : 0 < (ps.getD i []).length) :
    ∃ b c q qc, v = .slice (some ⟨b, 0, Option.none⟩) ps.length c ∧ w.cell? ⟨b, i, Option.none⟩ = some (.slice (some ⟨q, 0, Option.none⟩) (ps.getD i []).length qc) ∧ ∀ j, j < (ps.getD i []).length → w.cell? ⟨q, 0 + j, Option.none⟩ = some (.string ((ps.getD i []).getD j ByteArray.empty)) := by
  have hl := h.len
  have he := h.each i hi
  have hc : ∀ b c, v = .slice (some ⟨b, 0, Option.none⟩) vs.length c → w.cell? ⟨b, i, Option.none⟩ = some (vs.getD i noV) := by
    intro b c e
    subst e
    rw [World.ownsRow.cellAt h.row i (by omega)]
    have hi2 : i < vs.length := by omega
    simp [hi2]
  rcases h.row.2 with ⟨rfl, hn⟩ | ⟨g, cap, cur, rfl, h1, hg, _⟩
  · omega
  · have hc1 := hc g cap rfl
    have he2 := he.2
    rcases he2 with ⟨e, hn⟩ | ⟨q, qc, cur2, e, h2, hq, _⟩
    · omega
    · rw [e] at hc1 he
      refine ⟨g, cap, q, qc, by rw [hl], hc1, fun j hj => ?_⟩
      generalize ps.getD i [] = p at *
      rw [Nat.zero_add, World.ownsRow.cellAt he j (by omega), List.getElem?_map, List.getElem?_eq_getElem hj]
      simp [List.getD_eq_getElem?_getD, hj, tsv]
theorem flat_le {α : Type} (ps : List (List α)) (k : Nat) : (ps.take k).flatten.length ≤ ps.flatten.length := by
  conv => rhs; rw [← List.take_append_drop k ps, List.flatten_append, List.length_append]
  omega
theorem flat_next {α : Type} (ps : List (List α)) (k : Nat) (h : k < ps.length) : (ps.take (k + 1)).flatten = (ps.take k).flatten ++ ps.getD k [] := by
  rw [List.take_succ_eq_append_getElem h, List.flatten_append]
  simp [h]

def abc : List ByteArray := [⟨#[97]⟩, ⟨#[98]⟩, ⟨#[99]⟩]
theorem abc_cut : (Cu.all 2 abc).length = 2 := rfl

set_option maxHeartbeats 4000000 in
set_option maxRecDepth 100000 in
theorem lawFnCutLines (ad : Option Addr) (n cap : Nat) (w : World) (hc : n ≤ 1048576 → Code w ad n) :
    Calls Try.prog 3 #[.slice ad n cap] w fun e w' => e = .returned (.bool true) ∧ Below w.heap.size w w' := by
  by_cases hbig : 1048576 < n
  · have CB : Hid _ := big_yes ad n cap hbig
    clear hc
    go_enter Try.func3, Try.ntmps3
    go_wp2_with fail
    refine Calls.mono (CB.out _) ?_
    rintro e w' ⟨rfl, rfl⟩
    go_wp2
    go_ret
    exact ⟨rfl, Below.refl _ _⟩
  have CB : Hid (∀ w, Calls Try.prog 5 #[.slice ad n cap] w fun e w' => e = .returned (.bool false) ∧ w' = w) := big_no ad n cap hbig
  have HC : Hid (Code w ad n) := hc (by omega)
  have hn : n ≤ 1048576 := by omega
  clear hc hbig
  go_enter Try.func3, Try.ntmps3
  go_wp2_with fail
  refine (CB.out _).mono ?_
  rintro e w0 ⟨rfl, rfl⟩
  go_wp2_with fail
  refine (dCut_any ad n cap w0 hn HC.out).mono ?_
  rintro e w1 ⟨q, c, ts, z, rfl, r1, hl, ht, b1⟩
  have HB1 : Hid (Below w0.heap.size w0 w1) := b1
  have HR1 : Hid (TxRow w0.heap.size w1 (.slice (some ⟨q, 0, none⟩) ts.length c) ts) := r1
  have hcap : ts.length ≤ c ∧ c ≤ 9223372036854775807 := by
    rcases r1.2 with ⟨e, _⟩ | ⟨g, cap, cur, e, h1, hg, hc1, hc2, _⟩
    · simp at e
    · obtain ⟨-, rfl⟩ : q = g ∧ c = cap := by simpa using e
      unfold maxLen at hc2
      omega
  have HSM : Hid (TsSmall ts ts.length) := by
    intro i hi
    have := ht (ts.getD i ByteArray.empty) (by simp [hi])
    omega
  have HCL : Hid (q < w1.heap.size ∧ ∀ i, i < ts.length → w1.cell? ⟨q, 0 + i, none⟩ = some (.string (ts.getD i ByteArray.empty))) :=
    ⟨(World.ownsRow.lt r1 q rfl).2, fun i hi => by rw [Nat.zero_add, World.ownsRow.cellAt r1 i (by omega)]; simp [hi, tsv]⟩
  obtain ⟨m, HM⟩ : ∃ m : Nat, Hid ((z < 1 ∧ ts.length = m) ∨ (1 ≤ z ∧ z = (m : Int))) := by
    by_cases hz : z < 1
    · exact ⟨ts.length, .inl ⟨hz, rfl⟩⟩
    · exact ⟨z.toNat, .inr ⟨by omega, by omega⟩⟩
  have CI : Hid (Calls Try.prog 7 #[.slice (some ⟨q, 0, none⟩) ts.length c, .int .i64 z] w1 fun e w' => ∃ u vs, e = .returned u ∧ PsRow w1.heap.size w' u (Cu.all m ts) vs ∧ Below w1.heap.size w1 w') :=
    imCut_any q 0 ts.length c z ts w1 HCL.out.1 HCL.out.2 rfl hcap.1 (by omega) hcap.2 HSM.out m HM.out
  have HPT : Hid (∀ i, i < (Cu.all m ts).length → 0 < ((Cu.all m ts).getD i []).length ∧ (1 ≤ z → (((Cu.all m ts).getD i []).length : Int) ≤ z ∧ (i + 1 < (Cu.all m ts).length → (((Cu.all m ts).getD i []).length : Int) = z))) := by
    intro i hi
    have hfew := Cu.all_few m ts
    have hm0 : 0 < m := by rcases HM.out with ⟨_, h⟩ | ⟨h1, h2⟩ <;> omega
    obtain ⟨h1, h2, h3⟩ := Cu.all_part m hm0 ts i hi
    refine ⟨h1, fun hz => ?_⟩
    rcases HM.out with ⟨h, _⟩ | ⟨h4, h5⟩
    · omega
    · exact ⟨by omega, fun h => by rw [h3 h]; omega⟩
  have HFL : Hid ((Cu.all m ts).flatten = ts) := by
    show _ = _
    by_cases h0 : ts.length = 0
    · have e : ts = [] := List.eq_nil_of_length_eq_zero h0
      subst e
      rfl
    · exact Cu.all_flat m (by rcases HM.out with ⟨_, h⟩ | ⟨h1, h2⟩ <;> omega) ts.length ts (Nat.le_refl _)
  have HON : Hid (z < 1 → (Cu.all m ts).length ≤ 1) := by
    intro hz
    rcases HM.out with ⟨_, h⟩ | ⟨h1, h2⟩
    · rw [← h]; exact Cu.all_one ts
    · omega
  have hfew : (Cu.all m ts).length ≤ 8 := Nat.le_trans (Cu.all_few m ts) hl
  clear r1 b1 ht HCL HSM HM hcap
  generalize Cu.all m ts = ps at *
  obtain ⟨N, hN⟩ : ∃ N, N = ts.length := ⟨_, rfl⟩
  have HN : Hid (N = ts.length) := hN
  rw [← hN] at CI HR1 hl ⊢
  clear hN
  go_wp2_with fail
  refine CI.out.mono ?_
  rintro e w2 ⟨u, vs, rfl, p2, b2⟩
  obtain ⟨ua, uc, rfl⟩ := p2.form
  have HP2 : Hid (PsRow w1.heap.size w2 (.slice ua ps.length uc) ps vs) := p2
  have HB2 : Hid (Below w0.heap.size w0 w2) := HB1.out.trans (b2.mono HB1.out.size)
  have HR2 : Hid (TxRow w0.heap.size w2 (.slice (some ⟨q, 0, none⟩) N c) ts) := HR1.out.keep b2
  have hs2 : w0.heap.size ≤ w2.heap.size := HB2.out.size
  obtain ⟨P, hP⟩ : ∃ P, P = ps.length := ⟨_, rfl⟩
  have HPL : Hid (P = ps.length) := hP
  rw [← hP] at HP2 HPT HON hfew ⊢
  clear p2 b2 CI HR1 HB1 hP
  have HA0 : Hid (Below w2.heap.size w2 (w2.alloc (.cells #[] 9))) := (Below.refl _ _).alloc (Nat.le_refl _) _
  have HX0 : Hid (TxRow w2.heap.size (w2.alloc (.cells #[] 9)) (.slice (some ⟨w2.heap.size, 0, none⟩) 0 0) []) := World.ownsRow_made w2 #[] 0 (Nat.le_refl _) (by decide) rfl
  go_wp2
  go_loopw [6, 7] (fun v i wr => ∃ (k aq ac X : Nat) (xs : List ByteArray), i = .int .i64 (k : Int) ∧ v = .slice (some ⟨aq, 0, none⟩) X ac ∧ k ≤ P ∧ X ≤ 8 ∧ Hid (X = xs.length) ∧ Hid (xs = (ps.take k).flatten) ∧ w2.heap.size ≤ wr.heap.size ∧ Hid (Below w2.heap.size w2 wr) ∧ Hid (TxRow w2.heap.size wr (.slice (some ⟨aq, 0, none⟩) X ac) xs)) (fun _ i _ => P - (intOf i).toNat)
  case atStart => exact ⟨0, _, _, 0, [], rfl, rfl, by omega, by omega, by show _ = _; rfl, by show _ = _; simp, by simp, HA0, HX0⟩
  case round =>
    clear HA0 HX0
    obtain ⟨k, aq, ac, X, xs, rfl, rfl, hk, hX, HXL, HXS, hszr, HW, HX⟩ := hrel
    have HPW : Hid (PsRow w1.heap.size wr (.slice ua P uc) ps vs) := HP2.out.keep HW.out
    have i0 : (0 : Int) ≤ (k : Int) := by omega
    by_cases hlt : k < P
    · have i1 : (k : Int) < (P : Int) := by omega
      obtain ⟨y1, y2⟩ := HPT.out k hlt
      obtain ⟨b, c', qk, qc, e1, x1, x2⟩ := HPW.out.get k (by have := HPL.out; omega) y1
      obtain ⟨L, hL⟩ : ∃ L, L = (ps.getD k []).length := ⟨_, rfl⟩
      have HLL : Hid (L = (ps.getD k []).length) := hL
      rw [← hL] at x1 y1 y2
      have hX2 : X + L ≤ 8 := by
        have h1 := flat_le ps (k + 1)
        rw [flat_next ps k (by have := HPL.out; omega), List.length_append, HFL.out, ← HXS.out, ← HXL.out, ← HN.out, ← HLL.out] at h1
        omega
      have HX2 : Hid (∀ j, j < (ps.getD k []).length → wr.cell? ⟨qk, 0 + j, none⟩ = some (.string ((ps.getD k []).getD j ByteArray.empty))) := x2
      obtain ⟨rfl, rfl⟩ : ua = some ⟨b, 0, none⟩ ∧ uc = c' := by
        have := HPL.out
        rw [this] at e1
        simpa using e1
      have HFN : Hid (xs ++ ps.getD k [] = (ps.take (k + 1)).flatten) := by show _ = _; rw [flat_next ps k (by have := HPL.out; omega), HXS.out]
      clear e1 x2 hL
      have d0 : ((L : Int) == 0) = false := by simp; omega
      by_cases hz : z < 1
      · have d1 : decide ((0 : Int) < z) = false := by simp; omega
        clear y2
        go_wp2_with (at_builtin; go_must (refine TxRow.pushMore (xs := ps.getD k []) HX.out rfl _ _ rfl rfl qk 0 L qc rfl HLL.out HX2.out (by have := HXL.out; have := HLL.out; omega) (by have := HLL.out; omega) hszr ?_))
        intro q3 c3 w3 r3 g3
        rw [← HXL.out] at r3 ⊢
        have HW3 : Hid (Below w2.heap.size w2 w3) := HW.out.grown g3 hszr (fun j hj => (World.ownsRow.lt HX.out j hj).1)
        have hs3 : w2.heap.size ≤ w3.heap.size := HW3.out.size
        have HR3 : Hid (TxRow w2.heap.size w3 (.slice (some ⟨q3, 0, none⟩) (X + L) c3) (xs ++ ps.getD k [])) := r3
        have HL3 : Hid (X + L = (xs ++ ps.getD k []).length) := by show _ = _; rw [List.length_append, ← HXL.out, ← HLL.out]
        clear r3 g3 HX HX2
        go_wp2
        go_roundw
        case rel => exact ⟨k + 1, q3, c3, X + L, _, by go_num, rfl, by omega, hX2, HL3, HFN, hs3, HW3, HR3⟩
        case measure => simp [intOf]; omega
      · have d1 : decide ((0 : Int) < z) = true := by simp; omega
        obtain ⟨y3, y4⟩ := y2 (by omega)
        have d2 : decide (z < (L : Int)) = false := by simp; omega
        by_cases hk1 : k + 1 < P
        · have d3 : decide ((k : Int) + 1 < (P : Int)) = true := by simp; omega
          have y5 := y4 hk1
          have d4 : ((L : Int) != z) = false := by simp; omega
          clear y5 y4 y3
          go_wp2_with (at_builtin; go_must (refine TxRow.pushMore (xs := ps.getD k []) HX.out rfl _ _ rfl rfl qk 0 L qc rfl HLL.out HX2.out (by have := HXL.out; have := HLL.out; omega) (by have := HLL.out; omega) hszr ?_))
          intro q3 c3 w3 r3 g3
          rw [← HXL.out] at r3 ⊢
          have HW3 : Hid (Below w2.heap.size w2 w3) := HW.out.grown g3 hszr (fun j hj => (World.ownsRow.lt HX.out j hj).1)
          have hs3 : w2.heap.size ≤ w3.heap.size := HW3.out.size
          have HR3 : Hid (TxRow w2.heap.size w3 (.slice (some ⟨q3, 0, none⟩) (X + L) c3) (xs ++ ps.getD k [])) := r3
          have HL3 : Hid (X + L = (xs ++ ps.getD k []).length) := by show _ = _; rw [List.length_append, ← HXL.out, ← HLL.out]
          clear r3 g3 HX HX2
          go_wp2
          go_roundw
          case rel => exact ⟨k + 1, q3, c3, X + L, _, by go_num, rfl, by omega, hX2, HL3, HFN, hs3, HW3, HR3⟩
          case measure => simp [intOf]; omega
        · have d3 : decide ((k : Int) + 1 < (P : Int)) = false := by simp; omega
          clear y4 y3
          go_wp2_with (at_builtin; go_must (refine TxRow.pushMore (xs := ps.getD k []) HX.out rfl _ _ rfl rfl qk 0 L qc rfl HLL.out HX2.out (by have := HXL.out; have := HLL.out; omega) (by have := HLL.out; omega) hszr ?_))
          intro q3 c3 w3 r3 g3
          rw [← HXL.out] at r3 ⊢
          have HW3 : Hid (Below w2.heap.size w2 w3) := HW.out.grown g3 hszr (fun j hj => (World.ownsRow.lt HX.out j hj).1)
          have hs3 : w2.heap.size ≤ w3.heap.size := HW3.out.size
          have HR3 : Hid (TxRow w2.heap.size w3 (.slice (some ⟨q3, 0, none⟩) (X + L) c3) (xs ++ ps.getD k [])) := r3
          have HL3 : Hid (X + L = (xs ++ ps.getD k []).length) := by show _ = _; rw [List.length_append, ← HXL.out, ← HLL.out]
          clear r3 g3 HX HX2
          go_wp2
          go_roundw
          case rel => exact ⟨k + 1, q3, c3, X + L, _, by go_num, rfl, by omega, hX2, HL3, HFN, hs3, HW3, HR3⟩
          case measure => simp [intOf]; omega
    · have hkP : P = k := by omega
      subst hkP
      have HXT : Hid (xs = ts) := by show _ = _; rw [HXS.out, List.take_of_length_le (by rw [← HPL.out]; exact Nat.le_refl _), HFL.out]
      have HXR : Hid (TsAt wr (.slice (some ⟨aq, 0, none⟩) X ac) ts) := by have := HX.out.at; rwa [HXT.out] at this
      have HRR : Hid (TsAt wr (.slice (some ⟨q, 0, none⟩) N c) ts) := (HR2.out.keep HW.out).at
      have CS : Hid (Calls Try.prog 8 #[.slice (some ⟨aq, 0, none⟩) X ac, .slice (some ⟨q, 0, none⟩) N c] wr fun e w' => e = .returned (.bool true) ∧ Below wr.heap.size wr w') := sameTxs_any _ _ ts wr HXR.out HRR.out (by have := HN.out; omega)
      have dd : (decide ((0 : Int) < z) = true) ∨ (decide ((0 : Int) < z) = false ∧ decide ((P : Int) ≤ 1) = true) := by
        by_cases hz : z < 1
        · have := HON.out hz
          right; constructor <;> simp <;> omega
        · left; simp; omega
      go_wp2_with fail
      refine CS.out.mono ?_
      rintro e w3 ⟨rfl, b3⟩
      have HB3 : Hid (Below w0.heap.size w0 w3) := (HB2.out.trans (HW.out.mono hs2)).trans (b3.mono (Nat.le_trans hs2 hszr))
      have CI2 : Hid (Calls Try.prog 7 #[.slice (some ⟨w3.heap.size, 0, none⟩) 3 3, .int .i64 2] (w3.alloc (.cells #[.string ⟨#[97]⟩, .string ⟨#[98]⟩, .string ⟨#[99]⟩] 9)) fun e w' => ∃ u vs, e = .returned u ∧ PsRow (w3.alloc (.cells #[.string ⟨#[97]⟩, .string ⟨#[98]⟩, .string ⟨#[99]⟩] 9)).heap.size w' u (Cu.all 2 abc) vs ∧ Below (w3.alloc (.cells #[.string ⟨#[97]⟩, .string ⟨#[98]⟩, .string ⟨#[99]⟩] 9)).heap.size (w3.alloc (.cells #[.string ⟨#[97]⟩, .string ⟨#[98]⟩, .string ⟨#[99]⟩] 9)) w') := by
        have hbk := heap_alloc_new w3 (.cells #[.string ⟨#[97]⟩, .string ⟨#[98]⟩, .string ⟨#[99]⟩] 9)
        refine imCut_any w3.heap.size 0 3 3 2 abc _ (blk_lt hbk) (fun i hi => ?_) rfl (by decide) (by decide) (by decide) ?_ 2 (.inr ⟨by decide, rfl⟩)
        · rw [Nat.zero_add, blk_cell hbk]
          match i, hi with
          | 0, _ => rfl
          | 1, _ => rfl
          | 2, _ => rfl
        · intro i hi
          match i, hi with
          | 0, _ => decide
          | 1, _ => decide
          | 2, _ => decide
      have HB3a : Hid (Below w3.heap.size w3 (w3.alloc (.cells #[.string ⟨#[97]⟩, .string ⟨#[98]⟩, .string ⟨#[99]⟩] 9))) := (Below.refl _ _).alloc (Nat.le_refl _) _
      clear b3 CS
      rcases dd with dd | ⟨dd, dd2⟩
      all_goals
        go_wp2_with fail
        refine CI2.out.mono ?_
        rintro e w4 ⟨u4, vs4, rfl, p4, b4⟩
        obtain ⟨ua4, uc4, e4⟩ := p4.form
        rw [abc_cut] at e4
        subst e4
        have HB4 : Hid (Below w0.heap.size w0 w4) := HB3.out.trans ((HB3a.out.trans (b4.mono HB3a.out.size)).mono HB3.out.size)
        clear b4 p4 CI2
        go_wp2
        go_ret
        exact ⟨rfl, HB4.out⟩
end Go.Proofs.Yteajkkcelajadaa
