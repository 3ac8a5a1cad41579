/- What is said: the program's copies of a store, with more said. The specification's copy of a store. -/
import Derived.Test.YthnmopldpgdenaaMPTcZam
import Derived.Deep.Upon
import Derived.Deep.AppendSrc
namespace Go.Proofs.Ythnmopldpgdenaa
section PartRwD
open Go.RowKit

/-- A store in memory of its own: its Vars from lo to mid, its Cells from mid to hi. -/
def StIn (lo hi : Nat) (w : World) (u x : Value) (vs : List Vr) (cs : List Cl) : Prop := ∃ mid, lo ≤ mid ∧ mid ≤ hi ∧ VrIn lo mid w u vs ∧ ClIn mid hi w x cs

theorem StIn.keep {lo hi : Nat} {w w' : World} {u x : Value} {vs : List Vr} {cs : List Cl} (h : StIn lo hi w u x vs cs) (hk : ∀ b, lo ≤ b → b < hi → w'.heap[b]? = w.heap[b]?) : StIn lo hi w' u x vs cs := by
  obtain ⟨mid, h1, h2, h3, h4⟩ := h
  exact ⟨mid, h1, h2, h3.keep (fun b e1 e2 => hk b e1 (by omega)), h4.keep (fun b e1 e2 => hk b (by omega) e2)⟩
theorem StIn.wide {lo hi lo' hi' : Nat} {w : World} {u x : Value} {vs : List Vr} {cs : List Cl} (h : StIn lo hi w u x vs cs) (h1 : lo' ≤ lo) (h2 : hi ≤ hi') : StIn lo' hi' w u x vs cs := by
  obtain ⟨mid, e1, e2, h3, h4⟩ := h
  exact ⟨mid, by omega, by omega, h3.wide h1 (Nat.le_refl _), h4.wide (Nat.le_refl _) h2⟩

set_option maxRecDepth 100000 in
set_option maxHeartbeats 4000000 in
theorem withOut_any (tv lv : Value) (o p : ByteArray) (vs : List Vr) (cs : List Cl) (w : World) (h1 : VrAt w tv vs) (h2 : ClAt w lv cs) (hs : StSmall vs cs o) (hp : p.size ≤ 100000000) :
    Calls Try.prog 45 #[.agg #[tv, lv, .string o], .string p] w fun e w' => ∃ u x, e = .returned (.agg #[u, x, .string p]) ∧ StIn w.heap.size w'.heap.size w' u x vs cs ∧ Below w.heap.size w w' := by
  have CV : Hid (∀ W, Below w.heap.size w W → Calls Try.prog 64 #[tv] W fun e w' => ∃ u, e = .returned u ∧ VrIn W.heap.size w'.heap.size w' u vs ∧ Below W.heap.size W w') := fun W hb => copyOfVar_any tv vs W (h1.keep hb) hs.1 hs.2.1
  have CC : Hid (∀ W, Below w.heap.size w W → Calls Try.prog 65 #[lv] W fun e w' => ∃ u, e = .returned u ∧ ClIn W.heap.size w'.heap.size w' u cs ∧ Below W.heap.size W w') := fun W hb => copyOfCell_any lv cs W (h2.keep hb) hs.2.2.1 hs.2.2.2.1
  have CP : Hid (∀ W, Calls Try.prog 63 #[.string p] W fun e w' => e = .returned (.string p) ∧ Below W.heap.size W w') := fun W => clone_any p W (by omega)
  obtain ⟨ad, c, rfl, -⟩ := h1
  obtain ⟨bd, d, rfl, -⟩ := h2
  obtain ⟨n, hn⟩ : ∃ n, n = vs.length := ⟨_, rfl⟩
  obtain ⟨m, hm⟩ : ∃ m, m = cs.length := ⟨_, rfl⟩
  rw [← hn] at CV ⊢
  rw [← hm] at CC ⊢
  have HNM : Hid (n = vs.length ∧ m = cs.length) := ⟨hn, hm⟩
  clear hn hm hs hp
  have HB : Hid (Below w.heap.size w ((w.alloc (.cells #[.slice ad n c, .slice bd m d, .string o] 40)).alloc (.cells #[.slice none 0 0, .slice none 0 0, .string ByteArray.empty] 40))) := ((Below.refl _ _).alloc (Nat.le_refl _) _).alloc (by simp) _
  have q0 := s2_0 w (.cells #[.slice ad n c, .slice bd m d, .string o] 40) (.cells #[.slice none 0 0, .slice none 0 0, .string ByteArray.empty] 40)
  have q1 := s2_1 w (.cells #[.slice ad n c, .slice bd m d, .string o] 40) (.cells #[.slice none 0 0, .slice none 0 0, .string ByteArray.empty] 40)
  have hz : w.heap.size + 1 < ((w.alloc (.cells #[.slice ad n c, .slice bd m d, .string o] 40)).alloc (.cells #[.slice none 0 0, .slice none 0 0, .string ByteArray.empty] 40)).heap.size := by simp
  have HZ : Hid _ := And.intro q1 hz
  have z0 := blk_cell q0 0
  have z1 := blk_cell q0 1
  simp only [List.getElem?_toArray, List.getElem?_cons_zero, List.getElem?_cons_succ] at z0 z1
  clear q0 q1 hz
  go_enter Try.func45, Try.ntmps45
  go_wp2_with fail
  change Code.wp _ _ _ _ ((w.alloc (.cells #[.slice ad n c, .slice bd m d, .string o] 40)).alloc (.cells #[.slice none 0 0, .slice none 0 0, .string ByteArray.empty] 40))
  generalize (w.alloc (.cells #[.slice ad n c, .slice bd m d, .string o] 40)).alloc (.cells #[.slice none 0 0, .slice none 0 0, .string ByteArray.empty] 40) = W0 at *
  have HST : Hid (∀ W, Below W0.heap.size W0 W → W.heap[w.heap.size + 1]? = some (.cells #[.slice none 0 0, .slice none 0 0, .string ByteArray.empty] 40 (0, 0))) := fun W hb => (hb.block _ HZ.out.2).trans HZ.out.1
  have HW0 : Hid (∀ W, Below W0.heap.size W0 W → Below w.heap.size w W) := fun W hb => HB.out.trans (hb.mono HB.out.size)
  go_region_held3 (fun W => W.cell? ⟨w.heap.size, 0, none⟩ = some (.slice ad n c) ∧ W.cell? ⟨w.heap.size, 1, none⟩ = some (.slice bd m d)) (first | exact keepC2 hb3 (by assumption) | exact keepC2 hb2 (by assumption) | exact keepC2 hb1 (by assumption) | go_keep | exact ⟨z0, z1⟩ | assumption)
    ((first
      | (go_at_call 64; refine (CV.out W0.drew (HW0.out _ (Below.refl _ _).drew)).mono ?_; rintro e w1 ⟨u, rfl, hu, hb1⟩; have B1 : Hid (Below W0.heap.size W0 w1) := (Below.refl _ _).drew.trans hb1; have HU : Hid (VrIn W0.heap.size w1.heap.size w1 u vs) := hu; obtain ⟨ua, uc, rfl, -⟩ := hu)
      | (go_at_call 65; refine (CC.out w1 (HW0.out _ B1.out)).mono ?_; rintro e w2 ⟨x, rfl, hx, hb2⟩; have B2 : Hid (Below W0.heap.size W0 w2) := B1.out.trans (hb2.mono B1.out.size); have HX : Hid (ClIn w1.heap.size w2.heap.size w2 x cs) := hx; have HU2 : Hid (VrIn W0.heap.size w1.heap.size w2 (.slice ua vs.length uc) vs) := HU.out.keep (fun b _ hb => hb2.block b hb); obtain ⟨xa, xc, rfl, -⟩ := hx)
      | (go_at_call 63; refine (CP.out _).mono ?_; rintro e w3 ⟨rfl, hb3⟩; have B3 : Hid (Below W0.heap.size W0 w3) := B2.out.trans (hb3.mono B2.out.size); have R3 := HST.out w3 B3.out; have y0 : w3.cell? ⟨w.heap.size + 1, 0, none⟩ = some (.slice none 0 0) := (blk_cell R3 0).trans rfl; have y1 : w3.cell? ⟨w.heap.size + 1, 1, none⟩ = some (.slice none 0 0) := (blk_cell R3 1).trans rfl; have y2 : w3.cell? ⟨w.heap.size + 1, 2, none⟩ = some (.string ByteArray.empty) := (blk_cell R3 2).trans rfl; have f0 := blk_free R3 0; have f1 := blk_free R3 1; have f2 := blk_free R3 2; clear R3)))
  all_goals
    have HU3 : Hid (VrIn W0.heap.size w1.heap.size w3 (.slice ua vs.length uc) vs) := HU2.out.keep (fun b _ hb => hb3.block b (by have := hb2.size; omega))
    have HX3 : Hid (ClIn w1.heap.size w2.heap.size w3 (.slice xa cs.length xc) cs) := HX.out.keep (fun b _ hb => hb3.block b hb)
    have hsz : w.heap.size + 1 < W0.heap.size ∧ W0.heap.size ≤ w1.heap.size ∧ w1.heap.size ≤ w2.heap.size ∧ w2.heap.size ≤ w3.heap.size := ⟨HZ.out.2, B1.out.size, hb2.size, hb3.size⟩
    have HSZ : Hid _ := hsz
    have HRR : Hid _ := HST.out w3 B3.out
    clear hsz hb1 hb2 hb3 HU HX HU2 CV CC CP
    go_wp2_with fail
    refine bodyPost_ret (results_cell_row (p := 4) (ty := 40) rfl _ _ (w.heap.size + 1) 40 _ (0, 0) _ rfl (blk_set (blk_set (blk_set HRR.out 0 _) 1 _) 2 _) Try.underlying40 rfl (by kernel_rfl)) rfl ?_
    have hsz := HSZ.out
    have hk : ∀ b, W0.heap.size ≤ b → (((w3.setCell ⟨w.heap.size + 1, 0, none⟩ (.slice ua vs.length uc)).setCell ⟨w.heap.size + 1, 1, none⟩ (.slice xa cs.length xc)).setCell ⟨w.heap.size + 1, 2, none⟩ (.string p)).heap[b]? = w3.heap[b]? := fun b hb => by
      rw [Below.heap_setCell _ _ _ _ (by show b ≠ w.heap.size + 1; omega), Below.heap_setCell _ _ _ _ (by show b ≠ w.heap.size + 1; omega), Below.heap_setCell _ _ _ _ (by show b ≠ w.heap.size + 1; omega)]
    refine ⟨_, _, rfl, ⟨w1.heap.size, by omega, by simp [World.setCell]; omega, ?_, ?_⟩, ?_⟩
    · exact (HU3.out.keep (fun b hb _ => hk b hb)).wide (by omega) (Nat.le_refl _)
    · exact (HX3.out.keep (fun b hb _ => hk b (by omega))).wide (Nat.le_refl _) (by simp [World.setCell]; omega)
    · exact (((HW0.out _ B3.out).setCell (by show _ ≤ w.heap.size + 1; omega) _).setCell (by show _ ≤ w.heap.size + 1; omega) _).setCell (by show _ ≤ w.heap.size + 1; omega) _

end PartRwD
section PartRwE
open Go.RowKit

theorem cellsVr_len (xs : List Vr) : (cellsVr xs).length = xs.length * 2 := by
  induction xs with
  | nil => rfl
  | cons x xs ih =>
    have e : cellsVr (x :: xs) = .string x.name :: .string x.val :: cellsVr xs := rfl
    rw [e, List.length_cons, List.length_cons, ih, List.length_cons]
    omega
theorem cellsVr_one (xs : List Vr) : ∀ u ∈ cellsVr xs, u.oneCell' = true := by
  intro u hu
  unfold cellsVr at hu
  obtain ⟨x, _, h⟩ := List.mem_flatMap.1 hu
  simp at h
  rcases h with rfl | rfl <;> rfl
theorem VrAt.news {w : World} {b o : Nat} {xs : List Vr} (hc : ∀ i, i < xs.length → w.cell? ⟨b, o + i * 2, none⟩ = some (.string (xs.getD i Vr.no).name) ∧ w.cell? ⟨b, o + i * 2 + 1, none⟩ = some (.string (xs.getD i Vr.no).val)) : ∀ j u, (cellsVr xs)[j]? = some u → w.cell? ((⟨b, o, none⟩ : Addr).add j) = some u := by
  intro j u hu
  have hj : j < xs.length * 2 := by
    have := (List.getElem?_eq_some_iff.1 hu).1
    rwa [cellsVr_len] at this
  have hadd : (⟨b, o, none⟩ : Addr).add j = ⟨b, o + j, none⟩ := by unfold Addr.add; split <;> simp_all
  rw [hadd]
  have hi : j / 2 < xs.length := Nat.div_lt_of_lt_mul (by omega)
  obtain ⟨g0, g1⟩ := cellsVr_get xs (j / 2) hi
  obtain ⟨k0, k1⟩ := hc (j / 2) hi
  have hm : j = j / 2 * 2 ∨ j = j / 2 * 2 + 1 := by omega
  rcases hm with hm | hm
  · rw [hm, g0] at hu
    rw [hm, ← hu]
    first | exact k0 | (rw [← Nat.add_assoc]; exact k0)
  · rw [hm, g1] at hu
    rw [hm, ← hu]
    first | exact k1 | (rw [← Nat.add_assoc]; exact k1)

theorem VrRow.stepAll {ops : Array Oper} {o : Oper} {a : Act} {K : Act → World → Prop} {Q : Exit → Act → World → Prop} {E : Prop} {B : Nat} {W : World} {x : Value} {xs : List Vr} (hgd : o.guard = none) (s y : Operand)
    (ho : o.op = .call { callee := .builtin .append, args := #[s, y], argTypes := #[37, 37] })
    (g : Nat) (hs : a.eval s = .slice (some ⟨g, 0, none⟩) 0 0) (hg : W.heap[g]? = some (.cells #[] 102 (0, 0))) (hB : B ≤ g) (hx : a.eval y = x) (hat : VrAt W x xs) (hl : xs.length ≤ 1048576)
    (h : ∀ ua uc w', VrRow B w' (.slice ua xs.length uc) xs → W.grownBy w' (some g) → K (a.put o.dst (.slice ua xs.length uc)) w') :
    if Region.wanted o (yielded ops a.tmps) = true then Oper.wp Try.prog o a W K Q else E := by
  obtain ⟨i0, hi, hz0, hz1, hz2⟩ := info_parts Try.infoVr
  have hlt := blk_lt hg
  have hown : VrRow B W (.slice (some ⟨g, 0, none⟩) 0 0) [] := ⟨rfl, .inr ⟨g, 0, #[], rfl, hB, hg, Nat.le_refl _, by decide, rfl, rfl⟩⟩
  obtain ⟨ad, c, rfl, f⟩ := hat
  by_cases h0 : xs.length = 0
  · have hnil : xs = [] := List.length_eq_zero_iff.1 h0
    subst hnil
    have hw : Region.wanted o (yielded ops a.tmps) = true := by simp [Region.wanted, hgd]
    rw [if_pos hw]
    have hsrc : Src Try.prog i0.size 37 (.slice ad 0 c) 0 [] W := by
      cases ad with
      | none => exact Src.ofNil W Try.underlying37 c
      | some p => exact Src.ofSlice W Try.underlying37 p 0 c [] (by simp) (fun j u hu => by simp at hu) (fun u hu => by cases hu)
    have hr := run_append_nothing (P := Try.prog) W 37 37 o.type 102 i0 Try.underlying37 hi (some ⟨g, 0, none⟩) 0 0 (Nat.le_refl _) (.slice ad 0 c) hsrc
    unfold Oper.wp execOp
    have hx' : a.eval y = .slice ad 0 c := hx
    simp only [ho, resolve, invoke, builtin, Sem.run_bind, Sem.run_pure, Result.andThen_ok, List.map_toArray, List.map_cons, List.map_nil, hs, hx', hr]
    exact h (some ⟨g, 0, none⟩) 0 W hown ⟨rfl, rfl, rfl, Nat.le_refl _, fun _ _ _ => rfl⟩
  · obtain ⟨b, of, rfl, hb, hc⟩ := f (by omega)
    refine step_append_lies _ hgd s y 37 ho B 102 i0 (.agg #[.string ByteArray.empty, .string ByteArray.empty]) 2 32 Try.underlying37 hi hz0 hz1 hz2 rfl (by decide) (.slice (some ⟨g, 0, none⟩) 0 0) 0 [] hs hown ⟨b, of, none⟩ xs.length c (cellsVr xs) hx (cellsVr_len xs)
      (VrAt.news hc) (cellsVr_one xs) (by omega) (by unfold maxLen; omega) (by omega) (by omega) W.heap.size rfl ?_
    intro q cap w' h2 h3 h4 h5
    rw [Nat.zero_add] at h2 ⊢
    refine h (some ⟨q, 0, none⟩) cap w' ?_ h3
    unfold VrRow
    simpa using h2

theorem cellsCl_len (xs : List Cl) : (cellsCl xs).length = xs.length * 3 := by
  induction xs with
  | nil => rfl
  | cons x xs ih =>
    have e : cellsCl (x :: xs) = .string x.name :: .string x.key :: .string x.val :: cellsCl xs := rfl
    rw [e, List.length_cons, List.length_cons, List.length_cons, ih, List.length_cons]
    omega
theorem cellsCl_one (xs : List Cl) : ∀ u ∈ cellsCl xs, u.oneCell' = true := by
  intro u hu
  unfold cellsCl at hu
  obtain ⟨x, _, h⟩ := List.mem_flatMap.1 hu
  simp at h
  rcases h with rfl | rfl | rfl <;> rfl
theorem ClAt.news {w : World} {b o : Nat} {xs : List Cl} (hc : ∀ i, i < xs.length → w.cell? ⟨b, o + i * 3, none⟩ = some (.string (xs.getD i Cl.no).name) ∧ w.cell? ⟨b, o + i * 3 + 1, none⟩ = some (.string (xs.getD i Cl.no).key) ∧ w.cell? ⟨b, o + i * 3 + 2, none⟩ = some (.string (xs.getD i Cl.no).val)) : ∀ j u, (cellsCl xs)[j]? = some u → w.cell? ((⟨b, o, none⟩ : Addr).add j) = some u := by
  intro j u hu
  have hj : j < xs.length * 3 := by
    have := (List.getElem?_eq_some_iff.1 hu).1
    rwa [cellsCl_len] at this
  have hadd : (⟨b, o, none⟩ : Addr).add j = ⟨b, o + j, none⟩ := by unfold Addr.add; split <;> simp_all
  rw [hadd]
  have hi : j / 3 < xs.length := Nat.div_lt_of_lt_mul (by omega)
  obtain ⟨g0, g1, g2⟩ := cellsCl_get xs (j / 3) hi
  obtain ⟨k0, k1, k2⟩ := hc (j / 3) hi
  have hm : j = j / 3 * 3 ∨ j = j / 3 * 3 + 1 ∨ j = j / 3 * 3 + 2 := by omega
  rcases hm with hm | hm | hm
  · rw [hm, g0] at hu
    rw [hm, ← hu]
    first | exact k0 | (rw [← Nat.add_assoc]; exact k0)
  · rw [hm, g1] at hu
    rw [hm, ← hu]
    first | exact k1 | (rw [← Nat.add_assoc]; exact k1)
  · rw [hm, g2] at hu
    rw [hm, ← hu]
    first | exact k2 | (rw [← Nat.add_assoc]; exact k2)

theorem ClRow.stepAll {ops : Array Oper} {o : Oper} {a : Act} {K : Act → World → Prop} {Q : Exit → Act → World → Prop} {E : Prop} {B : Nat} {W : World} {x : Value} {xs : List Cl} (hgd : o.guard = none) (s y : Operand)
    (ho : o.op = .call { callee := .builtin .append, args := #[s, y], argTypes := #[38, 38] })
    (g : Nat) (hs : a.eval s = .slice (some ⟨g, 0, none⟩) 0 0) (hg : W.heap[g]? = some (.cells #[] 104 (0, 0))) (hB : B ≤ g) (hx : a.eval y = x) (hat : ClAt W x xs) (hl : xs.length ≤ 1048576)
    (h : ∀ ua uc w', ClRow B w' (.slice ua xs.length uc) xs → W.grownBy w' (some g) → K (a.put o.dst (.slice ua xs.length uc)) w') :
    if Region.wanted o (yielded ops a.tmps) = true then Oper.wp Try.prog o a W K Q else E := by
  obtain ⟨i0, hi, hz0, hz1, hz2⟩ := info_parts Try.infoCl
  have hlt := blk_lt hg
  have hown : ClRow B W (.slice (some ⟨g, 0, none⟩) 0 0) [] := ⟨rfl, .inr ⟨g, 0, #[], rfl, hB, hg, Nat.le_refl _, by decide, rfl, rfl⟩⟩
  obtain ⟨ad, c, rfl, f⟩ := hat
  by_cases h0 : xs.length = 0
  · have hnil : xs = [] := List.length_eq_zero_iff.1 h0
    subst hnil
    have hw : Region.wanted o (yielded ops a.tmps) = true := by simp [Region.wanted, hgd]
    rw [if_pos hw]
    have hsrc : Src Try.prog i0.size 38 (.slice ad 0 c) 0 [] W := by
      cases ad with
      | none => exact Src.ofNil W Try.underlying38 c
      | some p => exact Src.ofSlice W Try.underlying38 p 0 c [] (by simp) (fun j u hu => by simp at hu) (fun u hu => by cases hu)
    have hr := run_append_nothing (P := Try.prog) W 38 38 o.type 104 i0 Try.underlying38 hi (some ⟨g, 0, none⟩) 0 0 (Nat.le_refl _) (.slice ad 0 c) hsrc
    unfold Oper.wp execOp
    have hx' : a.eval y = .slice ad 0 c := hx
    simp only [ho, resolve, invoke, builtin, Sem.run_bind, Sem.run_pure, Result.andThen_ok, List.map_toArray, List.map_cons, List.map_nil, hs, hx', hr]
    exact h (some ⟨g, 0, none⟩) 0 W hown ⟨rfl, rfl, rfl, Nat.le_refl _, fun _ _ _ => rfl⟩
  · obtain ⟨b, of, rfl, hb, hc⟩ := f (by omega)
    refine step_append_lies _ hgd s y 38 ho B 104 i0 (.agg #[.string ByteArray.empty, .string ByteArray.empty, .string ByteArray.empty]) 3 48 Try.underlying38 hi hz0 hz1 hz2 rfl (by decide) (.slice (some ⟨g, 0, none⟩) 0 0) 0 [] hs hown ⟨b, of, none⟩ xs.length c (cellsCl xs) hx (cellsCl_len xs)
      (ClAt.news hc) (cellsCl_one xs) (by omega) (by unfold maxLen; omega) (by omega) (by omega) W.heap.size rfl ?_
    intro q cap w' h2 h3 h4 h5
    rw [Nat.zero_add] at h2 ⊢
    refine h (some ⟨q, 0, none⟩) cap w' ?_ h3
    unfold ClRow
    simpa using h2

theorem rowNe {B : Nat} {w : World} {v : Value} {n : Nat} {cs : List Value} (h : w.ownsRow B 102 2 v n cs) {g : Nat} (hg : w.heap[g]? = some (.cells #[] 104 (0, 0))) : ¬ v.ownBlock = some g := by
  intro e
  rcases h.2 with ⟨rfl, -⟩ | ⟨q, cap, cur, rfl, -, hq, -⟩
  · simp [Value.ownBlock] at e
  · obtain rfl : q = g := by simpa [Value.ownBlock] using e
    rw [hg] at hq
    simp only [Option.some.injEq, Obj.cells.injEq] at hq
    exact absurd hq.2.1 (by decide)
theorem cell_bel {B : Nat} {W W' : World} {p : Addr} {u : Value} (hb : Below B W W') (hp : p.block < B) (h : W.cell? p = some u) : W'.cell? p = some u := (hb.cell hp).trans h
set_option maxRecDepth 100000 in
set_option maxHeartbeats 4000000 in
theorem spCopy (tv lv : Value) (o : ByteArray) (vs : List Vr) (cs : List Cl) (w : World) (h1 : VrAt w tv vs) (h2 : ClAt w lv cs) (hs : StSmall vs cs o) :
    Calls Try.prog 38 #[.agg #[tv, lv, .string o]] w fun e w' => ∃ u x, e = .returned (.agg #[u, x, .string o]) ∧ VrIn w.heap.size w'.heap.size w' u vs ∧ ClIn w.heap.size w'.heap.size w' x cs ∧ Below w.heap.size w w' := by
  have HV : Hid (∀ W, Below w.heap.size w W → VrAt W tv vs ∧ ClAt W lv cs) := fun W hb => ⟨h1.keep hb, h2.keep hb⟩
  have HL : Hid (vs.length ≤ 1048576 ∧ cs.length ≤ 1048576) := ⟨hs.1, hs.2.2.1⟩
  obtain ⟨ad, c, rfl, -⟩ := h1
  obtain ⟨bd, d, rfl, -⟩ := h2
  obtain ⟨n, hn⟩ : ∃ n, n = vs.length := ⟨_, rfl⟩
  obtain ⟨m, hm⟩ : ∃ m, m = cs.length := ⟨_, rfl⟩
  rw [← hn, ← hm] at HV
  rw [← hn, ← hm]
  clear hn hm hs
  have HB : Hid (Below w.heap.size w ((w.alloc (.cells #[.slice ad n c, .slice bd m d, .string o] 40)).alloc (.cells #[.slice none 0 0, .slice none 0 0, .string ByteArray.empty] 40))) := ((Below.refl _ _).alloc (Nat.le_refl _) _).alloc (by simp) _
  have q0 := s2_0 w (.cells #[.slice ad n c, .slice bd m d, .string o] 40) (.cells #[.slice none 0 0, .slice none 0 0, .string ByteArray.empty] 40)
  have q1 := s2_1 w (.cells #[.slice ad n c, .slice bd m d, .string o] 40) (.cells #[.slice none 0 0, .slice none 0 0, .string ByteArray.empty] 40)
  have hz : w.heap.size + 1 < ((w.alloc (.cells #[.slice ad n c, .slice bd m d, .string o] 40)).alloc (.cells #[.slice none 0 0, .slice none 0 0, .string ByteArray.empty] 40)).heap.size := by simp
  have HZ : Hid _ := And.intro q1 hz
  have z0 := blk_cell q0 0
  have z1 := blk_cell q0 1
  have z2 := blk_cell q0 2
  simp only [List.getElem?_toArray, List.getElem?_cons_zero, List.getElem?_cons_succ] at z0 z1 z2
  clear q0 q1 hz
  go_enter Try.func38, Try.ntmps38
  go_wp2_with fail
  change Code.wp _ _ _ _ ((w.alloc (.cells #[.slice ad n c, .slice bd m d, .string o] 40)).alloc (.cells #[.slice none 0 0, .slice none 0 0, .string ByteArray.empty] 40))
  generalize (w.alloc (.cells #[.slice ad n c, .slice bd m d, .string o] 40)).alloc (.cells #[.slice none 0 0, .slice none 0 0, .string ByteArray.empty] 40) = W0 at *
  have HST : Hid (∀ W, Below W0.heap.size W0 W → W.heap[w.heap.size + 1]? = some (.cells #[.slice none 0 0, .slice none 0 0, .string ByteArray.empty] 40 (0, 0))) := fun W hb => (hb.block _ HZ.out.2).trans HZ.out.1
  have HW0 : Hid (∀ W, Below W0.heap.size W0 W → Below w.heap.size w W) := fun W hb => HB.out.trans (hb.mono HB.out.size)
  have hlt : w.heap.size < W0.heap.size := by have := HZ.out.2; omega
  go_region_held3 (fun W => W.cell? ⟨w.heap.size, 0, none⟩ = some (.slice ad n c) ∧ W.cell? ⟨w.heap.size, 1, none⟩ = some (.slice bd m d) ∧ W.cell? ⟨w.heap.size, 2, none⟩ = some (.string o)) (first | exact ⟨cell_bel B2.out hlt z0, cell_bel B2.out hlt z1, cell_bel B2.out hlt z2⟩ | exact ⟨cell_bel B1.out hlt z0, cell_bel B1.out hlt z1, cell_bel B1.out hlt z2⟩ | go_keep | exact ⟨z0, z1, z2⟩ | assumption)
    ((first
      | (refine VrRow.stepAll (B := W0.heap.size) (W := W0.drew.alloc (.cells #[] 102)) (x := .slice ad n c) (xs := vs) (by rfl) _ _ (by rfl) (W0.heap.size) (by rfl) (heap_alloc_new W0.drew (.cells #[] 102)) (by omega) (by rfl) (HV.out _ (HW0.out _ ((Below.refl W0.heap.size W0).drew.alloc (Nat.le_refl _) (.cells #[] 102)))).1 HL.out.1 ?_; intro ua uc w1 hr1 hg1; have B1 : Hid (Below W0.heap.size W0 w1) := ((Below.refl W0.heap.size W0).drew.alloc (Nat.le_refl _) (.cells #[] 102)).grown hg1 (by simp; try omega) (fun k hk => by simp at hk; omega))
      | (refine VrRow.stepAll (B := W0.heap.size) (W := (W0.drew.alloc (.cells #[] 102)).alloc (.cells #[] 104)) (x := .slice ad n c) (xs := vs) (by rfl) _ _ (by rfl) (W0.heap.size) (by rfl) (s2_0 W0.drew (.cells #[] 102) (.cells #[] 104)) (by omega) (by rfl) (HV.out _ (HW0.out _ (((Below.refl W0.heap.size W0).drew.alloc (Nat.le_refl _) (.cells #[] 102)).alloc (by simp) (.cells #[] 104)))).1 HL.out.1 ?_; intro ua uc w1 hr1 hg1; have B1 : Hid (Below W0.heap.size W0 w1) := (((Below.refl W0.heap.size W0).drew.alloc (Nat.le_refl _) (.cells #[] 102)).alloc (by simp) (.cells #[] 104)).grown hg1 (by simp; try omega) (fun k hk => by simp at hk; omega); have HC : Hid (w1.heap[W0.heap.size + 1]? = some (.cells #[] 104 (0, 0))) := (hg1.block (W0.heap.size + 1) (by simp) (by simp)).trans (s2_1 W0.drew (.cells #[] 102) (.cells #[] 104)))
      | (refine VrRow.stepAll (B := W0.heap.size) (W := (W0.drew.alloc (.cells #[] 104)).alloc (.cells #[] 102)) (x := .slice ad n c) (xs := vs) (by rfl) _ _ (by rfl) (W0.heap.size + 1) (by rfl) (s2_1 W0.drew (.cells #[] 104) (.cells #[] 102)) (by omega) (by rfl) (HV.out _ (HW0.out _ (((Below.refl W0.heap.size W0).drew.alloc (Nat.le_refl _) (.cells #[] 104)).alloc (by simp) (.cells #[] 102)))).1 HL.out.1 ?_; intro ua uc w1 hr1 hg1; have B1 : Hid (Below W0.heap.size W0 w1) := (((Below.refl W0.heap.size W0).drew.alloc (Nat.le_refl _) (.cells #[] 104)).alloc (by simp) (.cells #[] 102)).grown hg1 (by simp; try omega) (fun k hk => by simp at hk; omega); have HC : Hid (w1.heap[W0.heap.size]? = some (.cells #[] 104 (0, 0))) := (hg1.block W0.heap.size (by simp; try omega) (by simp)).trans (s2_0 W0.drew (.cells #[] 104) (.cells #[] 102)))
      | (refine ClRow.stepAll (B := W0.heap.size) (W := w1.alloc (.cells #[] 104)) (x := .slice bd m d) (xs := cs) (by rfl) _ _ (by rfl) w1.heap.size (by rfl) (heap_alloc_new w1 (.cells #[] 104)) B1.out.size (by rfl) (HV.out _ (HW0.out _ (B1.out.alloc B1.out.size _))).2 HL.out.2 ?_; intro xa xc w2 hr2 hg2; have B2 : Hid (Below W0.heap.size W0 w2) := (B1.out.alloc B1.out.size (.cells #[] 104)).grown hg2 (by have := B1.out.size; simp; omega) (fun k hk => by have := B1.out.size; simp at hk; omega); have HU2 : Hid (VrRow W0.heap.size w2 (.slice ua vs.length uc) vs) := rowKeep hr1 (fun q hq => (hg2.block q (by have := (World.ownsRow.lt hr1 q hq).2; simp; omega) (by have := (World.ownsRow.lt hr1 q hq).2; simp; omega)).trans (((Below.refl w1.heap.size w1).alloc (Nat.le_refl _) (.cells #[] 104)).block q (World.ownsRow.lt hr1 q hq).2)); have HX2 : Hid (ClRow W0.heap.size w2 (.slice xa cs.length xc) cs) := hr2; have R3 := HST.out w2 B2.out; have y0 : w2.cell? ⟨w.heap.size + 1, 0, none⟩ = some (.slice none 0 0) := (blk_cell R3 0).trans rfl; have y1 : w2.cell? ⟨w.heap.size + 1, 1, none⟩ = some (.slice none 0 0) := (blk_cell R3 1).trans rfl; have y2 : w2.cell? ⟨w.heap.size + 1, 2, none⟩ = some (.string ByteArray.empty) := (blk_cell R3 2).trans rfl; have f0 := blk_free R3 0; have f1 := blk_free R3 1; have f2 := blk_free R3 2; clear R3)
      | (refine ClRow.stepAll (B := W0.heap.size) (W := w1) (x := .slice bd m d) (xs := cs) (by rfl) _ _ (by rfl) (W0.heap.size + 1) (by rfl) HC.out (by omega) (by rfl) (HV.out _ (HW0.out _ B1.out)).2 HL.out.2 ?_; intro xa xc w2 hr2 hg2; have B2 : Hid (Below W0.heap.size W0 w2) := B1.out.grown hg2 B1.out.size (fun k hk => by simp at hk; omega); have HU2 : Hid (VrRow W0.heap.size w2 (.slice ua vs.length uc) vs) := rowKeep hr1 (fun q hq => hg2.block q (World.ownsRow.lt hr1 q hq).2 (fun e => rowNe hr1 HC.out (hq.trans e))); have HX2 : Hid (ClRow W0.heap.size w2 (.slice xa cs.length xc) cs) := hr2; have R3 := HST.out w2 B2.out; have y0 : w2.cell? ⟨w.heap.size + 1, 0, none⟩ = some (.slice none 0 0) := (blk_cell R3 0).trans rfl; have y1 : w2.cell? ⟨w.heap.size + 1, 1, none⟩ = some (.slice none 0 0) := (blk_cell R3 1).trans rfl; have y2 : w2.cell? ⟨w.heap.size + 1, 2, none⟩ = some (.string ByteArray.empty) := (blk_cell R3 2).trans rfl; have f0 := blk_free R3 0; have f1 := blk_free R3 1; have f2 := blk_free R3 2; clear R3)
      | (refine ClRow.stepAll (B := W0.heap.size) (W := w1) (x := .slice bd m d) (xs := cs) (by rfl) _ _ (by rfl) (W0.heap.size) (by rfl) HC.out (by omega) (by rfl) (HV.out _ (HW0.out _ B1.out)).2 HL.out.2 ?_; intro xa xc w2 hr2 hg2; have B2 : Hid (Below W0.heap.size W0 w2) := B1.out.grown hg2 B1.out.size (fun k hk => by simp at hk; omega); have HU2 : Hid (VrRow W0.heap.size w2 (.slice ua vs.length uc) vs) := rowKeep hr1 (fun q hq => hg2.block q (World.ownsRow.lt hr1 q hq).2 (fun e => rowNe hr1 HC.out (hq.trans e))); have HX2 : Hid (ClRow W0.heap.size w2 (.slice xa cs.length xc) cs) := hr2; have R3 := HST.out w2 B2.out; have y0 : w2.cell? ⟨w.heap.size + 1, 0, none⟩ = some (.slice none 0 0) := (blk_cell R3 0).trans rfl; have y1 : w2.cell? ⟨w.heap.size + 1, 1, none⟩ = some (.slice none 0 0) := (blk_cell R3 1).trans rfl; have y2 : w2.cell? ⟨w.heap.size + 1, 2, none⟩ = some (.string ByteArray.empty) := (blk_cell R3 2).trans rfl; have f0 := blk_free R3 0; have f1 := blk_free R3 1; have f2 := blk_free R3 2; clear R3)))
  all_goals
    have HSZ : Hid (w.heap.size + 1 < W0.heap.size ∧ W0.heap.size ≤ w2.heap.size) := ⟨HZ.out.2, B2.out.size⟩
    have HRR : Hid _ := HST.out w2 B2.out
    clear hr1 hg1 hr2 hg2
    go_wp2_with fail
    refine bodyPost_ret (results_cell_row (p := 2) (ty := 40) rfl _ _ (w.heap.size + 1) 40 _ (0, 0) _ rfl (blk_set (blk_set (blk_set HRR.out 0 _) 1 _) 2 _) Try.underlying40 rfl (by kernel_rfl)) rfl ?_
    have hsz := HSZ.out
    have hk : ∀ b, W0.heap.size ≤ b → (((w2.setCell ⟨w.heap.size + 1, 0, none⟩ (.slice ua vs.length uc)).setCell ⟨w.heap.size + 1, 1, none⟩ (.slice xa cs.length xc)).setCell ⟨w.heap.size + 1, 2, none⟩ (.string o)).heap[b]? = w2.heap[b]? := fun b hb => by
      rw [Below.heap_setCell _ _ _ _ (by show b ≠ w.heap.size + 1; omega), Below.heap_setCell _ _ _ _ (by show b ≠ w.heap.size + 1; omega), Below.heap_setCell _ _ _ _ (by show b ≠ w.heap.size + 1; omega)]
    refine ⟨_, _, rfl, ?_, ?_, ?_⟩
    · exact ((VrRow.in HU2.out).keep (fun b hb _ => hk b hb)).wide (by omega) (by simp [World.setCell])
    · exact ((ClRow.in HX2.out).keep (fun b hb _ => hk b hb)).wide (by omega) (by simp [World.setCell])
    · exact (((HW0.out _ B2.out).setCell (by show _ ≤ w.heap.size + 1; omega) _).setCell (by show _ ≤ w.heap.size + 1; omega) _).setCell (by show _ ≤ w.heap.size + 1; omega) _
end PartRwE
end Go.Proofs.Ythnmopldpgdenaa
