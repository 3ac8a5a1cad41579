/- The specification's copy of a store. What is said behind what was said: the program's outWith. What is said: the program's Say. What is said: the specification's Say. -/
import Derived.Test.YtmofljfffcnlbaaMPSxZai
import Derived.Deep.Upon
import Derived.Deep.AppendSrc
namespace Go.Proofs.Ytmofljfffcnlbaa
section PartRwE
open Go.RowKit

theorem cellsVr_len (xs : List Vr) : (cellsVr xs).length = xs.length * 2 := by
  induction xs with
  | nil => rfl
  | cons x xs ih =>
    have e : cellsVr (x :: xs) = .string x.name :: .string x.val :: cellsVr xs := rfl
    rw [e, List.length_cons, List.length_cons, ih, List.length_cons]
    omega
theorem cellsVr_one (xs : List Vr) : ∀ u ∈ cellsVr xs, u.oneCell' = true := by
  intro u hu
  unfold cellsVr at hu
  obtain ⟨x, _, h⟩ := List.mem_flatMap.1 hu
  simp at h
  rcases h with rfl | rfl <;> rfl
theorem VrAt.news {w : World} {b o : Nat} {xs : List Vr} (hc : ∀ i, i < xs.length → w.cell? ⟨b, o + i * 2, none⟩ = some (.string (xs.getD i Vr.no).name) ∧ w.cell? ⟨b, o + i * 2 + 1, none⟩ = some (.string (xs.getD i Vr.no).val)) : ∀ j u, (cellsVr xs)[j]? = some u → w.cell? ((⟨b, o, none⟩ : Addr).add j) = some u := by
  intro j u hu
  have hj : j < xs.length * 2 := by
    have := (List.getElem?_eq_some_iff.1 hu).1
    rwa [cellsVr_len] at this
  have hadd : (⟨b, o, none⟩ : Addr).add j = ⟨b, o + j, none⟩ := by unfold Addr.add; split <;> simp_all
  rw [hadd]
  have hi : j / 2 < xs.length := Nat.div_lt_of_lt_mul (by omega)
  obtain ⟨g0, g1⟩ := cellsVr_get xs (j / 2) hi
  obtain ⟨k0, k1⟩ := hc (j / 2) hi
  have hm : j = j / 2 * 2 ∨ j = j / 2 * 2 + 1 := by omega
  rcases hm with hm | hm
  · rw [hm, g0] at hu
    rw [hm, ← hu]
    first | exact k0 | (rw [← Nat.add_assoc]; exact k0)
  · rw [hm, g1] at hu
    rw [hm, ← hu]
    first | exact k1 | (rw [← Nat.add_assoc]; exact k1)

theorem VrRow.stepAll {ops : Array Oper} {o : Oper} {a : Act} {K : Act → World → Prop} {Q : Exit → Act → World → Prop} {E : Prop} {B : Nat} {W : World} {x : Value} {xs : List Vr} (hgd : o.guard = none) (s y : Operand)
    (ho : o.op = .call { callee := .builtin .append, args := #[s, y], argTypes := #[24, 24] })
    (g : Nat) (hs : a.eval s = .slice (some ⟨g, 0, none⟩) 0 0) (hg : W.heap[g]? = some (.cells #[] 47 (0, 0))) (hB : B ≤ g) (hx : a.eval y = x) (hat : VrAt W x xs) (hl : xs.length ≤ 1048576)
    (h : ∀ ua uc w', VrRow B w' (.slice ua xs.length uc) xs → W.grownBy w' (some g) → K (a.put o.dst (.slice ua xs.length uc)) w') :
    if Region.wanted o (yielded ops a.tmps) = true then Oper.wp Try.prog o a W K Q else E := by
  obtain ⟨i0, hi, hz0, hz1, hz2⟩ := info_parts Try.infoVr
  have hlt := blk_lt hg
  have hown : VrRow B W (.slice (some ⟨g, 0, none⟩) 0 0) [] := ⟨rfl, .inr ⟨g, 0, #[], rfl, hB, hg, Nat.le_refl _, by decide, rfl, rfl⟩⟩
  obtain ⟨ad, c, rfl, f⟩ := hat
  by_cases h0 : xs.length = 0
  · have hnil : xs = [] := List.length_eq_zero_iff.1 h0
    subst hnil
    have hw : Region.wanted o (yielded ops a.tmps) = true := by simp [Region.wanted, hgd]
    rw [if_pos hw]
    have hsrc : Src Try.prog i0.size 24 (.slice ad 0 c) 0 [] W := by
      cases ad with
      | none => exact Src.ofNil W Try.underlying24 c
      | some p => exact Src.ofSlice W Try.underlying24 p 0 c [] (by simp) (fun j u hu => by simp at hu) (fun u hu => by cases hu)
    have hr := run_append_nothing (P := Try.prog) W 24 24 o.type 47 i0 Try.underlying24 hi (some ⟨g, 0, none⟩) 0 0 (Nat.le_refl _) (.slice ad 0 c) hsrc
    unfold Oper.wp execOp
    have hx' : a.eval y = .slice ad 0 c := hx
    simp only [ho, resolve, invoke, builtin, Sem.run_bind, Sem.run_pure, Result.andThen_ok, List.map_toArray, List.map_cons, List.map_nil, hs, hx', hr]
    exact h (some ⟨g, 0, none⟩) 0 W hown ⟨rfl, rfl, rfl, Nat.le_refl _, fun _ _ _ => rfl⟩
  · obtain ⟨b, of, rfl, hb, hc⟩ := f (by omega)
    refine step_append_lies _ hgd s y 24 ho B 47 i0 (.agg #[.string ByteArray.empty, .string ByteArray.empty]) 2 32 Try.underlying24 hi hz0 hz1 hz2 rfl (by decide) (.slice (some ⟨g, 0, none⟩) 0 0) 0 [] hs hown ⟨b, of, none⟩ xs.length c (cellsVr xs) hx (cellsVr_len xs)
      (VrAt.news hc) (cellsVr_one xs) (by omega) (by unfold maxLen; omega) (by omega) (by omega) W.heap.size rfl ?_
    intro q cap w' h2 h3 h4 h5
    rw [Nat.zero_add] at h2 ⊢
    refine h (some ⟨q, 0, none⟩) cap w' ?_ h3
    unfold VrRow
    simpa using h2

theorem cellsCl_len (xs : List Cl) : (cellsCl xs).length = xs.length * 3 := by
  induction xs with
  | nil => rfl
  | cons x xs ih =>
    have e : cellsCl (x :: xs) = .string x.name :: .string x.key :: .string x.val :: cellsCl xs := rfl
    rw [e, List.length_cons, List.length_cons, List.length_cons, ih, List.length_cons]
    omega
theorem cellsCl_one (xs : List Cl) : ∀ u ∈ cellsCl xs, u.oneCell' = true := by
  intro u hu
  unfold cellsCl at hu
  obtain ⟨x, _, h⟩ := List.mem_flatMap.1 hu
  simp at h
  rcases h with rfl | rfl | rfl <;> rfl
theorem ClAt.news {w : World} {b o : Nat} {xs : List Cl} (hc : ∀ i, i < xs.length → w.cell? ⟨b, o + i * 3, none⟩ = some (.string (xs.getD i Cl.no).name) ∧ w.cell? ⟨b, o + i * 3 + 1, none⟩ = some (.string (xs.getD i Cl.no).key) ∧ w.cell? ⟨b, o + i * 3 + 2, none⟩ = some (.string (xs.getD i Cl.no).val)) : ∀ j u, (cellsCl xs)[j]? = some u → w.cell? ((⟨b, o, none⟩ : Addr).add j) = some u := by
  intro j u hu
  have hj : j < xs.length * 3 := by
    have := (List.getElem?_eq_some_iff.1 hu).1
    rwa [cellsCl_len] at this
  have hadd : (⟨b, o, none⟩ : Addr).add j = ⟨b, o + j, none⟩ := by unfold Addr.add; split <;> simp_all
  rw [hadd]
  have hi : j / 3 < xs.length := Nat.div_lt_of_lt_mul (by omega)
  obtain ⟨g0, g1, g2⟩ := cellsCl_get xs (j / 3) hi
  obtain ⟨k0, k1, k2⟩ := hc (j / 3) hi
  have hm : j = j / 3 * 3 ∨ j = j / 3 * 3 + 1 ∨ j = j / 3 * 3 + 2 := by omega
  rcases hm with hm | hm | hm
  · rw [hm, g0] at hu
    rw [hm, ← hu]
    first | exact k0 | (rw [← Nat.add_assoc]; exact k0)
  · rw [hm, g1] at hu
    rw [hm, ← hu]
    first | exact k1 | (rw [← Nat.add_assoc]; exact k1)
  · rw [hm, g2] at hu
    rw [hm, ← hu]
    first | exact k2 | (rw [← Nat.add_assoc]; exact k2)

theorem ClRow.stepAll {ops : Array Oper} {o : Oper} {a : Act} {K : Act → World → Prop} {Q : Exit → Act → World → Prop} {E : Prop} {B : Nat} {W : World} {x : Value} {xs : List Cl} (hgd : o.guard = none) (s y : Operand)
    (ho : o.op = .call { callee := .builtin .append, args := #[s, y], argTypes := #[25, 25] })
    (g : Nat) (hs : a.eval s = .slice (some ⟨g, 0, none⟩) 0 0) (hg : W.heap[g]? = some (.cells #[] 50 (0, 0))) (hB : B ≤ g) (hx : a.eval y = x) (hat : ClAt W x xs) (hl : xs.length ≤ 1048576)
    (h : ∀ ua uc w', ClRow B w' (.slice ua xs.length uc) xs → W.grownBy w' (some g) → K (a.put o.dst (.slice ua xs.length uc)) w') :
    if Region.wanted o (yielded ops a.tmps) = true then Oper.wp Try.prog o a W K Q else E := by
  obtain ⟨i0, hi, hz0, hz1, hz2⟩ := info_parts Try.infoCl
  have hlt := blk_lt hg
  have hown : ClRow B W (.slice (some ⟨g, 0, none⟩) 0 0) [] := ⟨rfl, .inr ⟨g, 0, #[], rfl, hB, hg, Nat.le_refl _, by decide, rfl, rfl⟩⟩
  obtain ⟨ad, c, rfl, f⟩ := hat
  by_cases h0 : xs.length = 0
  · have hnil : xs = [] := List.length_eq_zero_iff.1 h0
    subst hnil
    have hw : Region.wanted o (yielded ops a.tmps) = true := by simp [Region.wanted, hgd]
    rw [if_pos hw]
    have hsrc : Src Try.prog i0.size 25 (.slice ad 0 c) 0 [] W := by
      cases ad with
      | none => exact Src.ofNil W Try.underlying25 c
      | some p => exact Src.ofSlice W Try.underlying25 p 0 c [] (by simp) (fun j u hu => by simp at hu) (fun u hu => by cases hu)
    have hr := run_append_nothing (P := Try.prog) W 25 25 o.type 50 i0 Try.underlying25 hi (some ⟨g, 0, none⟩) 0 0 (Nat.le_refl _) (.slice ad 0 c) hsrc
    unfold Oper.wp execOp
    have hx' : a.eval y = .slice ad 0 c := hx
    simp only [ho, resolve, invoke, builtin, Sem.run_bind, Sem.run_pure, Result.andThen_ok, List.map_toArray, List.map_cons, List.map_nil, hs, hx', hr]
    exact h (some ⟨g, 0, none⟩) 0 W hown ⟨rfl, rfl, rfl, Nat.le_refl _, fun _ _ _ => rfl⟩
  · obtain ⟨b, of, rfl, hb, hc⟩ := f (by omega)
    refine step_append_lies _ hgd s y 25 ho B 50 i0 (.agg #[.string ByteArray.empty, .string ByteArray.empty, .string ByteArray.empty]) 3 48 Try.underlying25 hi hz0 hz1 hz2 rfl (by decide) (.slice (some ⟨g, 0, none⟩) 0 0) 0 [] hs hown ⟨b, of, none⟩ xs.length c (cellsCl xs) hx (cellsCl_len xs)
      (ClAt.news hc) (cellsCl_one xs) (by omega) (by unfold maxLen; omega) (by omega) (by omega) W.heap.size rfl ?_
    intro q cap w' h2 h3 h4 h5
    rw [Nat.zero_add] at h2 ⊢
    refine h (some ⟨q, 0, none⟩) cap w' ?_ h3
    unfold ClRow
    simpa using h2

theorem rowNe {B : Nat} {w : World} {v : Value} {n : Nat} {cs : List Value} (h : w.ownsRow B 47 2 v n cs) {g : Nat} (hg : w.heap[g]? = some (.cells #[] 50 (0, 0))) : ¬ v.ownBlock = some g := by
  intro e
  rcases h.2 with ⟨rfl, -⟩ | ⟨q, cap, cur, rfl, -, hq, -⟩
  · simp [Value.ownBlock] at e
  · obtain rfl : q = g := by simpa [Value.ownBlock] using e
    rw [hg] at hq
    simp only [Option.some.injEq, Obj.cells.injEq] at hq
    exact absurd hq.2.1 (by decide)
theorem cell_bel {B : Nat} {W W' : World} {p : Addr} {u : Value} (hb : Below B W W') (hp : p.block < B) (h : W.cell? p = some u) : W'.cell? p = some u := (hb.cell hp).trans h
set_option maxRecDepth 100000 in
set_option maxHeartbeats 4000000 in
theorem spCopy (tv lv : Value) (o : ByteArray) (vs : List Vr) (cs : List Cl) (w : World) (h1 : VrAt w tv vs) (h2 : ClAt w lv cs) (hs : StSmall vs cs o) :
    Calls Try.prog 29 #[.agg #[tv, lv, .string o]] w fun e w' => ∃ u x, e = .returned (.agg #[u, x, .string o]) ∧ VrIn w.heap.size w'.heap.size w' u vs ∧ ClIn w.heap.size w'.heap.size w' x cs ∧ Below w.heap.size w w' := by
  have HV : Hid (∀ W, Below w.heap.size w W → VrAt W tv vs ∧ ClAt W lv cs) := fun W hb => ⟨h1.keep hb, h2.keep hb⟩
  have HL : Hid (vs.length ≤ 1048576 ∧ cs.length ≤ 1048576) := ⟨hs.1, hs.2.2.1⟩
  obtain ⟨ad, c, rfl, -⟩ := h1
  obtain ⟨bd, d, rfl, -⟩ := h2
  obtain ⟨n, hn⟩ : ∃ n, n = vs.length := ⟨_, rfl⟩
  obtain ⟨m, hm⟩ : ∃ m, m = cs.length := ⟨_, rfl⟩
  rw [← hn, ← hm] at HV
  rw [← hn, ← hm]
  clear hn hm hs
  have HB : Hid (Below w.heap.size w ((w.alloc (.cells #[.slice ad n c, .slice bd m d, .string o] 27)).alloc (.cells #[.slice none 0 0, .slice none 0 0, .string ByteArray.empty] 27))) := ((Below.refl _ _).alloc (Nat.le_refl _) _).alloc (by simp) _
  have q0 := s2_0 w (.cells #[.slice ad n c, .slice bd m d, .string o] 27) (.cells #[.slice none 0 0, .slice none 0 0, .string ByteArray.empty] 27)
  have q1 := s2_1 w (.cells #[.slice ad n c, .slice bd m d, .string o] 27) (.cells #[.slice none 0 0, .slice none 0 0, .string ByteArray.empty] 27)
  have hz : w.heap.size + 1 < ((w.alloc (.cells #[.slice ad n c, .slice bd m d, .string o] 27)).alloc (.cells #[.slice none 0 0, .slice none 0 0, .string ByteArray.empty] 27)).heap.size := by simp
  have HZ : Hid _ := And.intro q1 hz
  have z0 := blk_cell q0 0
  have z1 := blk_cell q0 1
  have z2 := blk_cell q0 2
  simp only [List.getElem?_toArray, List.getElem?_cons_zero, List.getElem?_cons_succ] at z0 z1 z2
  clear q0 q1 hz
  go_enter Try.func29, Try.ntmps29
  go_wp2_with fail
  change Code.wp _ _ _ _ ((w.alloc (.cells #[.slice ad n c, .slice bd m d, .string o] 27)).alloc (.cells #[.slice none 0 0, .slice none 0 0, .string ByteArray.empty] 27))
  generalize (w.alloc (.cells #[.slice ad n c, .slice bd m d, .string o] 27)).alloc (.cells #[.slice none 0 0, .slice none 0 0, .string ByteArray.empty] 27) = W0 at *
  have HST : Hid (∀ W, Below W0.heap.size W0 W → W.heap[w.heap.size + 1]? = some (.cells #[.slice none 0 0, .slice none 0 0, .string ByteArray.empty] 27 (0, 0))) := fun W hb => (hb.block _ HZ.out.2).trans HZ.out.1
  have HW0 : Hid (∀ W, Below W0.heap.size W0 W → Below w.heap.size w W) := fun W hb => HB.out.trans (hb.mono HB.out.size)
  have hlt : w.heap.size < W0.heap.size := by have := HZ.out.2; omega
  go_region_held3 (fun W => W.cell? ⟨w.heap.size, 0, none⟩ = some (.slice ad n c) ∧ W.cell? ⟨w.heap.size, 1, none⟩ = some (.slice bd m d) ∧ W.cell? ⟨w.heap.size, 2, none⟩ = some (.string o)) (first | exact ⟨cell_bel B2.out hlt z0, cell_bel B2.out hlt z1, cell_bel B2.out hlt z2⟩ | exact ⟨cell_bel B1.out hlt z0, cell_bel B1.out hlt z1, cell_bel B1.out hlt z2⟩ | go_keep | exact ⟨z0, z1, z2⟩ | assumption)
    ((first
      | (refine VrRow.stepAll (B := W0.heap.size) (W := W0.drew.alloc (.cells #[] 47)) (x := .slice ad n c) (xs := vs) (by rfl) _ _ (by rfl) (W0.heap.size) (by rfl) (heap_alloc_new W0.drew (.cells #[] 47)) (by omega) (by rfl) (HV.out _ (HW0.out _ ((Below.refl W0.heap.size W0).drew.alloc (Nat.le_refl _) (.cells #[] 47)))).1 HL.out.1 ?_; intro ua uc w1 hr1 hg1; have B1 : Hid (Below W0.heap.size W0 w1) := ((Below.refl W0.heap.size W0).drew.alloc (Nat.le_refl _) (.cells #[] 47)).grown hg1 (by simp; try omega) (fun k hk => by simp at hk; omega))
      | (refine VrRow.stepAll (B := W0.heap.size) (W := (W0.drew.alloc (.cells #[] 47)).alloc (.cells #[] 50)) (x := .slice ad n c) (xs := vs) (by rfl) _ _ (by rfl) (W0.heap.size) (by rfl) (s2_0 W0.drew (.cells #[] 47) (.cells #[] 50)) (by omega) (by rfl) (HV.out _ (HW0.out _ (((Below.refl W0.heap.size W0).drew.alloc (Nat.le_refl _) (.cells #[] 47)).alloc (by simp) (.cells #[] 50)))).1 HL.out.1 ?_; intro ua uc w1 hr1 hg1; have B1 : Hid (Below W0.heap.size W0 w1) := (((Below.refl W0.heap.size W0).drew.alloc (Nat.le_refl _) (.cells #[] 47)).alloc (by simp) (.cells #[] 50)).grown hg1 (by simp; try omega) (fun k hk => by simp at hk; omega); have HC : Hid (w1.heap[W0.heap.size + 1]? = some (.cells #[] 50 (0, 0))) := (hg1.block (W0.heap.size + 1) (by simp) (by simp)).trans (s2_1 W0.drew (.cells #[] 47) (.cells #[] 50)))
      | (refine VrRow.stepAll (B := W0.heap.size) (W := (W0.drew.alloc (.cells #[] 50)).alloc (.cells #[] 47)) (x := .slice ad n c) (xs := vs) (by rfl) _ _ (by rfl) (W0.heap.size + 1) (by rfl) (s2_1 W0.drew (.cells #[] 50) (.cells #[] 47)) (by omega) (by rfl) (HV.out _ (HW0.out _ (((Below.refl W0.heap.size W0).drew.alloc (Nat.le_refl _) (.cells #[] 50)).alloc (by simp) (.cells #[] 47)))).1 HL.out.1 ?_; intro ua uc w1 hr1 hg1; have B1 : Hid (Below W0.heap.size W0 w1) := (((Below.refl W0.heap.size W0).drew.alloc (Nat.le_refl _) (.cells #[] 50)).alloc (by simp) (.cells #[] 47)).grown hg1 (by simp; try omega) (fun k hk => by simp at hk; omega); have HC : Hid (w1.heap[W0.heap.size]? = some (.cells #[] 50 (0, 0))) := (hg1.block W0.heap.size (by simp; try omega) (by simp)).trans (s2_0 W0.drew (.cells #[] 50) (.cells #[] 47)))
      | (refine ClRow.stepAll (B := W0.heap.size) (W := w1.alloc (.cells #[] 50)) (x := .slice bd m d) (xs := cs) (by rfl) _ _ (by rfl) w1.heap.size (by rfl) (heap_alloc_new w1 (.cells #[] 50)) B1.out.size (by rfl) (HV.out _ (HW0.out _ (B1.out.alloc B1.out.size _))).2 HL.out.2 ?_; intro xa xc w2 hr2 hg2; have B2 : Hid (Below W0.heap.size W0 w2) := (B1.out.alloc B1.out.size (.cells #[] 50)).grown hg2 (by have := B1.out.size; simp; omega) (fun k hk => by have := B1.out.size; simp at hk; omega); have HU2 : Hid (VrRow W0.heap.size w2 (.slice ua vs.length uc) vs) := rowKeep hr1 (fun q hq => (hg2.block q (by have := (World.ownsRow.lt hr1 q hq).2; simp; omega) (by have := (World.ownsRow.lt hr1 q hq).2; simp; omega)).trans (((Below.refl w1.heap.size w1).alloc (Nat.le_refl _) (.cells #[] 50)).block q (World.ownsRow.lt hr1 q hq).2)); have HX2 : Hid (ClRow W0.heap.size w2 (.slice xa cs.length xc) cs) := hr2; have R3 := HST.out w2 B2.out; have y0 : w2.cell? ⟨w.heap.size + 1, 0, none⟩ = some (.slice none 0 0) := (blk_cell R3 0).trans rfl; have y1 : w2.cell? ⟨w.heap.size + 1, 1, none⟩ = some (.slice none 0 0) := (blk_cell R3 1).trans rfl; have y2 : w2.cell? ⟨w.heap.size + 1, 2, none⟩ = some (.string ByteArray.empty) := (blk_cell R3 2).trans rfl; have f0 := blk_free R3 0; have f1 := blk_free R3 1; have f2 := blk_free R3 2; clear R3)
      | (refine ClRow.stepAll (B := W0.heap.size) (W := w1) (x := .slice bd m d) (xs := cs) (by rfl) _ _ (by rfl) (W0.heap.size + 1) (by rfl) HC.out (by omega) (by rfl) (HV.out _ (HW0.out _ B1.out)).2 HL.out.2 ?_; intro xa xc w2 hr2 hg2; have B2 : Hid (Below W0.heap.size W0 w2) := B1.out.grown hg2 B1.out.size (fun k hk => by simp at hk; omega); have HU2 : Hid (VrRow W0.heap.size w2 (.slice ua vs.length uc) vs) := rowKeep hr1 (fun q hq => hg2.block q (World.ownsRow.lt hr1 q hq).2 (fun e => rowNe hr1 HC.out (hq.trans e))); have HX2 : Hid (ClRow W0.heap.size w2 (.slice xa cs.length xc) cs) := hr2; have R3 := HST.out w2 B2.out; have y0 : w2.cell? ⟨w.heap.size + 1, 0, none⟩ = some (.slice none 0 0) := (blk_cell R3 0).trans rfl; have y1 : w2.cell? ⟨w.heap.size + 1, 1, none⟩ = some (.slice none 0 0) := (blk_cell R3 1).trans rfl; have y2 : w2.cell? ⟨w.heap.size + 1, 2, none⟩ = some (.string ByteArray.empty) := (blk_cell R3 2).trans rfl; have f0 := blk_free R3 0; have f1 := blk_free R3 1; have f2 := blk_free R3 2; clear R3)
      | (refine ClRow.stepAll (B := W0.heap.size) (W := w1) (x := .slice bd m d) (xs := cs) (by rfl) _ _ (by rfl) (W0.heap.size) (by rfl) HC.out (by omega) (by rfl) (HV.out _ (HW0.out _ B1.out)).2 HL.out.2 ?_; intro xa xc w2 hr2 hg2; have B2 : Hid (Below W0.heap.size W0 w2) := B1.out.grown hg2 B1.out.size (fun k hk => by simp at hk; omega); have HU2 : Hid (VrRow W0.heap.size w2 (.slice ua vs.length uc) vs) := rowKeep hr1 (fun q hq => hg2.block q (World.ownsRow.lt hr1 q hq).2 (fun e => rowNe hr1 HC.out (hq.trans e))); have HX2 : Hid (ClRow W0.heap.size w2 (.slice xa cs.length xc) cs) := hr2; have R3 := HST.out w2 B2.out; have y0 : w2.cell? ⟨w.heap.size + 1, 0, none⟩ = some (.slice none 0 0) := (blk_cell R3 0).trans rfl; have y1 : w2.cell? ⟨w.heap.size + 1, 1, none⟩ = some (.slice none 0 0) := (blk_cell R3 1).trans rfl; have y2 : w2.cell? ⟨w.heap.size + 1, 2, none⟩ = some (.string ByteArray.empty) := (blk_cell R3 2).trans rfl; have f0 := blk_free R3 0; have f1 := blk_free R3 1; have f2 := blk_free R3 2; clear R3)))
  all_goals
    have HSZ : Hid (w.heap.size + 1 < W0.heap.size ∧ W0.heap.size ≤ w2.heap.size) := ⟨HZ.out.2, B2.out.size⟩
    have HRR : Hid _ := HST.out w2 B2.out
    clear hr1 hg1 hr2 hg2
    go_wp2_with fail
    refine bodyPost_ret (results_cell_row (p := 2) (ty := 27) rfl _ _ (w.heap.size + 1) 27 _ (0, 0) _ rfl (blk_set (blk_set (blk_set HRR.out 0 _) 1 _) 2 _) Try.underlying27 rfl (by kernel_rfl)) rfl ?_
    have hsz := HSZ.out
    have hk : ∀ b, W0.heap.size ≤ b → (((w2.setCell ⟨w.heap.size + 1, 0, none⟩ (.slice ua vs.length uc)).setCell ⟨w.heap.size + 1, 1, none⟩ (.slice xa cs.length xc)).setCell ⟨w.heap.size + 1, 2, none⟩ (.string o)).heap[b]? = w2.heap[b]? := fun b hb => by
      rw [Below.heap_setCell _ _ _ _ (by show b ≠ w.heap.size + 1; omega), Below.heap_setCell _ _ _ _ (by show b ≠ w.heap.size + 1; omega), Below.heap_setCell _ _ _ _ (by show b ≠ w.heap.size + 1; omega)]
    refine ⟨_, _, rfl, ?_, ?_, ?_⟩
    · exact ((VrRow.in HU2.out).keep (fun b hb _ => hk b hb)).wide (by omega) (by simp [World.setCell])
    · exact ((ClRow.in HX2.out).keep (fun b hb _ => hk b hb)).wide (by omega) (by simp [World.setCell])
    · exact (((HW0.out _ B2.out).setCell (by show _ ≤ w.heap.size + 1; omega) _).setCell (by show _ ≤ w.heap.size + 1; omega) _).setCell (by show _ ≤ w.heap.size + 1; omega) _
end PartRwE
section PartOwA
open Go.RowKit

end PartOwA
section PartSyA
open Go.RowKit

/-- What is said stands behind what was said. -/
def St.said (o l : ByteArray) : ByteArray := St.cut3 (o ++ (l ++ ⟨#[10]⟩))

end PartSyA
section PartSyB
open Go.RowKit

set_option maxHeartbeats 800000 in
theorem l08Out_any (s : ByteArray) (w : World) : Calls Try.prog 60 #[.string s] w fun e w' => e = .returned (.string (St.cut3 s)) ∧ w' = w := by
  by_cases h : 3000 < s.size
  · have HE : Hid (St.cut3 s = s.extract 0 3000) := by show _ = _; unfold St.cut3; rw [if_pos h]
    have d : decide ((3000 : Int) < (s.size : Int)) = true := decide_eq_true (by omega)
    go_enter Try.func60, Try.ntmps60
    go_wp2
    go_ret
    exact ⟨by rw [HE.out]; rfl, rfl⟩
  · have HE : Hid (St.cut3 s = s) := by show _ = _; unfold St.cut3; rw [if_neg h]
    have d : decide ((3000 : Int) < (s.size : Int)) = false := decide_eq_false (by omega)
    go_enter Try.func60, Try.ntmps60
    go_wp2
    go_ret
    exact ⟨by rw [HE.out]; rfl, rfl⟩
set_option maxRecDepth 100000 in
set_option maxHeartbeats 2000000 in
theorem spSay (tv lv : Value) (o l : ByteArray) (vs : List Vr) (cs : List Cl) (w : World) (h1 : VrAt w tv vs) (h2 : ClAt w lv cs) (hs : StSmall vs cs o) (hl : l.size ≤ 1048576) :
    Calls Try.prog 53 #[.agg #[tv, lv, .string o], .string l] w fun e w' => ∃ u x, e = .returned (.agg #[u, x, .string (St.said o l)]) ∧ VrIn w.heap.size w'.heap.size w' u vs ∧ ClIn w.heap.size w'.heap.size w' x cs ∧ Below w.heap.size w w' := by
  have ho := hs.2.2.2.2
  have CW : Hid (∀ W, Below w.heap.size w W → Calls Try.prog 29 #[.agg #[tv, lv, .string o]] W fun e w' => ∃ u x, e = .returned (.agg #[u, x, .string o]) ∧ VrIn W.heap.size w'.heap.size w' u vs ∧ ClIn W.heap.size w'.heap.size w' x cs ∧ Below W.heap.size W w') := fun W hb => spCopy tv lv o vs cs W (h1.keep hb) (h2.keep hb) hs
  have CO : Hid (∀ W, Calls Try.prog 60 #[.string (o ++ l ++ ⟨#[10]⟩)] W fun e w' => e = .returned (.string (St.said o l)) ∧ w' = W) := fun W => by
    have hS : St.said o l = St.cut3 (o ++ l ++ ⟨#[10]⟩) := by unfold St.said; rw [ByteArray.append_assoc]
    rw [hS]
    exact l08Out_any _ W
  generalize St.said o l = O at *
  obtain ⟨ad, c, rfl, -⟩ := h1
  obtain ⟨bd, d, rfl, -⟩ := h2
  have hno : ¬ 9223372036854775807 < o.size + l.size := by omega
  have hno2 : ¬ ((9223372036854775807 : Int) < (o.size : Int) + (l.size : Int)) := by omega
  have hno3 : ¬ 9223372036854775807 < o.size + l.size + 1 := by omega
  have hno4 : ¬ ((9223372036854775807 : Int) < (o.size : Int) + (l.size : Int) + 1) := by omega
  have HB : Hid (Below w.heap.size w ((w.alloc (.cells #[.slice ad vs.length c, .slice bd cs.length d, .string o] 27)).alloc (.cells #[.slice none 0 0, .slice none 0 0, .string ByteArray.empty] 27))) := ((Below.refl _ _).alloc (Nat.le_refl _) _).alloc (by simp) _
  have q0 := s2_0 w (.cells #[.slice ad vs.length c, .slice bd cs.length d, .string o] 27) (.cells #[.slice none 0 0, .slice none 0 0, .string ByteArray.empty] 27)
  have q1 := s2_1 w (.cells #[.slice ad vs.length c, .slice bd cs.length d, .string o] 27) (.cells #[.slice none 0 0, .slice none 0 0, .string ByteArray.empty] 27)
  have hz : w.heap.size + 1 < ((w.alloc (.cells #[.slice ad vs.length c, .slice bd cs.length d, .string o] 27)).alloc (.cells #[.slice none 0 0, .slice none 0 0, .string ByteArray.empty] 27)).heap.size := by simp
  have HZ : Hid _ := And.intro q1 hz
  have HZ0 : Hid _ := q0
  clear q0 q1 hz hs
  go_enter Try.func53, Try.ntmps53
  go_wp2_with fail
  change Calls _ _ _ ((w.alloc (.cells #[.slice ad vs.length c, .slice bd cs.length d, .string o] 27)).alloc (.cells #[.slice none 0 0, .slice none 0 0, .string ByteArray.empty] 27)) _
  generalize ((w.alloc (.cells #[.slice ad vs.length c, .slice bd cs.length d, .string o] 27)).alloc (.cells #[.slice none 0 0, .slice none 0 0, .string ByteArray.empty] 27)) = W0 at *
  refine (CW.out W0 HB.out).mono ?_
  rintro e w1 ⟨u, x, rfl, hu, hx, hb1⟩
  have B1 : Hid (Below W0.heap.size W0 w1) := hb1
  have HU : Hid (VrIn W0.heap.size w1.heap.size w1 u vs) := hu
  have HX : Hid (ClIn W0.heap.size w1.heap.size w1 x cs) := hx
  obtain ⟨ua, uc, rfl, -⟩ := hu
  obtain ⟨xa, xc, rfl, -⟩ := hx
  have HSZ : Hid (w.heap.size + 1 < W0.heap.size ∧ W0.heap.size ≤ w1.heap.size) := ⟨HZ.out.2, B1.out.size⟩
  have hss := HSZ.out
  have G2 : Hid (Below w1.heap.size w1 (w1.alloc (.cells #[.slice ua vs.length uc, .slice xa cs.length xc, .string o] 27))) := (Below.refl _ _).alloc (Nat.le_refl _) _
  have R0 := (G2.out.block w.heap.size (by omega)).trans ((B1.out.block w.heap.size (by omega)).trans HZ0.out)
  have HR1 : Hid _ := (G2.out.block (w.heap.size + 1) (by omega)).trans ((B1.out.block (w.heap.size + 1) (by omega)).trans HZ.out.1)
  have R2 := heap_alloc_new w1 (.cells #[.slice ua vs.length uc, .slice xa cs.length xc, .string o] 27)
  have z2 : (w1.alloc (.cells #[.slice ua vs.length uc, .slice xa cs.length xc, .string o] 27)).cell? ⟨w.heap.size, 2, none⟩ = some (.string o) := (blk_cell R0 2).trans rfl
  have HR2 : Hid _ := R2
  clear R0 R2 hb1 CW hss
  go_wp2_with fail
  refine (CO.out _).mono ?_
  rintro e w2 ⟨rfl, rfl⟩
  have HB2 : Hid (Below w.heap.size w (w1.alloc (.cells #[.slice ua vs.length uc, .slice xa cs.length xc, .string o] 27))) := (HB.out.trans (B1.out.mono HB.out.size)).trans (G2.out.mono (by have := HSZ.out; omega))
  have HU2 : Hid (VrIn W0.heap.size w1.heap.size (w1.alloc (.cells #[.slice ua vs.length uc, .slice xa cs.length xc, .string o] 27)) (.slice ua vs.length uc) vs) := HU.out.keep (fun b _ hb => G2.out.block b hb)
  have HX2 : Hid (ClIn W0.heap.size w1.heap.size (w1.alloc (.cells #[.slice ua vs.length uc, .slice xa cs.length xc, .string o] 27)) (.slice xa cs.length xc) cs) := HX.out.keep (fun b _ hb => G2.out.block b hb)
  clear HU HX G2 CO z2
  generalize w1.alloc (.cells #[.slice ua vs.length uc, .slice xa cs.length xc, .string o] 27) = w2 at *
  have x0 : w2.cell? ⟨w1.heap.size, 0, none⟩ = some (.slice ua vs.length uc) := (blk_cell HR2.out 0).trans rfl
  have x1 : w2.cell? ⟨w1.heap.size, 1, none⟩ = some (.slice xa cs.length xc) := (blk_cell HR2.out 1).trans rfl
  have x2 : w2.cell? ⟨w1.heap.size, 2, none⟩ = some (.string o) := (blk_cell HR2.out 2).trans rfl
  have f2 := blk_free HR2.out 2
  have HK : Hid ((w2.setCell ⟨w1.heap.size, 2, none⟩ (.string O)).heap[w.heap.size + 1]? = _) := (Below.heap_setCell _ _ _ _ (by show w.heap.size + 1 ≠ w1.heap.size; have := HSZ.out; omega)).trans HR1.out
  have HM : Hid _ := blk_set HR2.out 2 (.string O)
  have y0 : (w2.setCell ⟨w1.heap.size, 2, none⟩ (.string O)).cell? ⟨w.heap.size + 1, 0, none⟩ = some (.slice none 0 0) := (blk_cell HK.out 0).trans rfl
  have y1 : (w2.setCell ⟨w1.heap.size, 2, none⟩ (.string O)).cell? ⟨w.heap.size + 1, 1, none⟩ = some (.slice none 0 0) := (blk_cell HK.out 1).trans rfl
  have y2 : (w2.setCell ⟨w1.heap.size, 2, none⟩ (.string O)).cell? ⟨w.heap.size + 1, 2, none⟩ = some (.string ByteArray.empty) := (blk_cell HK.out 2).trans rfl
  have g0 := blk_free HK.out 0
  have g1 := blk_free HK.out 1
  have g2 := blk_free HK.out 2
  have v0 : (w2.setCell ⟨w1.heap.size, 2, none⟩ (.string O)).cell? ⟨w1.heap.size, 0, none⟩ = some (.slice ua vs.length uc) := (blk_cell HM.out 0).trans rfl
  have v1 : (w2.setCell ⟨w1.heap.size, 2, none⟩ (.string O)).cell? ⟨w1.heap.size, 1, none⟩ = some (.slice xa cs.length xc) := (blk_cell HM.out 1).trans rfl
  have v2 : (w2.setCell ⟨w1.heap.size, 2, none⟩ (.string O)).cell? ⟨w1.heap.size, 2, none⟩ = some (.string O) := (blk_cell HM.out 2).trans rfl
  have hs2 : w1.heap.size < w2.heap.size := blk_lt HR2.out
  go_wp2_with fail
  refine bodyPost_ret (results_cell_row (p := 4) (ty := 27) rfl _ _ (w.heap.size + 1) 27 _ (0, 0) _ rfl (blk_set (blk_set (blk_set HK.out 0 _) 1 _) 2 _) Try.underlying27 rfl (by kernel_rfl)) rfl ?_
  have hsz := HSZ.out
  have hk : ∀ b, W0.heap.size ≤ b → b < w1.heap.size → ((((w2.setCell ⟨w1.heap.size, 2, none⟩ (.string O)).setCell ⟨w.heap.size + 1, 0, none⟩ (.slice ua vs.length uc)).setCell ⟨w.heap.size + 1, 1, none⟩ (.slice xa cs.length xc)).setCell ⟨w.heap.size + 1, 2, none⟩ (.string O)).heap[b]? = w2.heap[b]? := fun b hb hb2 => by
    rw [Below.heap_setCell _ _ _ _ (by show b ≠ w.heap.size + 1; omega), Below.heap_setCell _ _ _ _ (by show b ≠ w.heap.size + 1; omega), Below.heap_setCell _ _ _ _ (by show b ≠ w.heap.size + 1; omega), Below.heap_setCell _ _ _ _ (by show b ≠ w1.heap.size; omega)]
  refine ⟨_, _, rfl, ?_, ?_, ?_⟩
  · exact (HU2.out.keep (fun b hb hb2 => hk b hb hb2)).wide (by omega) (by simp [World.setCell]; omega)
  · exact (HX2.out.keep (fun b hb hb2 => hk b hb hb2)).wide (by omega) (by simp [World.setCell]; omega)
  · exact (((HB2.out.setCell (by show _ ≤ w1.heap.size; omega) _).setCell (by show _ ≤ w.heap.size + 1; omega) _).setCell (by show _ ≤ w.heap.size + 1; omega) _).setCell (by show _ ≤ w.heap.size + 1; omega) _
end PartSyB
end Go.Proofs.Ytmofljfffcnlbaa
