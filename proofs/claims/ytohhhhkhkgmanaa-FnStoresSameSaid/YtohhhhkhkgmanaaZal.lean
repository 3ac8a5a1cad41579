/- What is said: the program's copies of a store, with more said. A right store, plainly; what is set and said leaves it right. The specification's copy of a store. -/
import Derived.Test.YtohhhhkhkgmanaaZak
import Derived.Test.YtohhhhkhkgmanaaZaf
import Derived.Deep.Upon
import Derived.Deep.AppendSrc
namespace Go.Proofs.Ytohhhhkhkgmanaa
section PartRwD
open Go.RowKit

/-- The first 3000 bytes. -/
def St.cut3 (s : ByteArray) : ByteArray := if 3000 < s.size then s.extract 0 3000 else s
/-- A store in memory of its own: its Vars from lo to mid, its Cells from mid to hi. -/
def StIn (lo hi : Nat) (w : World) (u x : Value) (vs : List Vr) (cs : List Cl) : Prop := ∃ mid, lo ≤ mid ∧ mid ≤ hi ∧ VrIn lo mid w u vs ∧ ClIn mid hi w x cs

theorem StIn.keep {lo hi : Nat} {w w' : World} {u x : Value} {vs : List Vr} {cs : List Cl} (h : StIn lo hi w u x vs cs) (hk : ∀ b, lo ≤ b → b < hi → w'.heap[b]? = w.heap[b]?) : StIn lo hi w' u x vs cs := by
  obtain ⟨mid, h1, h2, h3, h4⟩ := h
  exact ⟨mid, h1, h2, h3.keep (fun b e1 e2 => hk b e1 (by omega)), h4.keep (fun b e1 e2 => hk b (by omega) e2)⟩
theorem StIn.wide {lo hi lo' hi' : Nat} {w : World} {u x : Value} {vs : List Vr} {cs : List Cl} (h : StIn lo hi w u x vs cs) (h1 : lo' ≤ lo) (h2 : hi ≤ hi') : StIn lo' hi' w u x vs cs := by
  obtain ⟨mid, e1, e2, h3, h4⟩ := h
  exact ⟨mid, by omega, by omega, h3.wide h1 (Nat.le_refl _), h4.wide (Nat.le_refl _) h2⟩

end PartRwD
section PartRtP
namespace St
theorem less_trans : ∀ a b c : List UInt8, Op.bytesLess a b = true → Op.bytesLess b c = true → Op.bytesLess a c = true
  | [], [], _, h, _ => by simp [Op.bytesLess] at h
  | [], _ :: _, [], _, h => by simp [Op.bytesLess] at h
  | [], _ :: _, _ :: _, _, _ => by simp [Op.bytesLess]
  | _ :: _, [], _, h, _ => by simp [Op.bytesLess] at h
  | _ :: _, _ :: _, [], _, h => by simp [Op.bytesLess] at h
  | a :: x, b :: y, c :: z, h1, h2 => by
    unfold Op.bytesLess at h1 h2 ⊢
    have ih := less_trans x y z
    simp only [Bool.or_eq_true, Bool.and_eq_true, decide_eq_true_eq, beq_iff_eq] at h1 h2 ⊢
    rcases h1 with h1 | ⟨rfl, h1⟩
    · rcases h2 with h2 | ⟨rfl, h2⟩
      · exact .inl (by have h3 : a.toNat < b.toNat := h1; have h4 : b.toNat < c.toNat := h2; show a.toNat < c.toNat; omega)
      · exact .inl h1
    · rcases h2 with h2 | ⟨rfl, h2⟩
      · exact .inl h2
      · exact .inr ⟨rfl, ih h1 h2⟩
theorem less_total : ∀ a b : List UInt8, Op.bytesLess a b = false → (a == b) = false → Op.bytesLess b a = true
  | [], [], _, h => by simp at h
  | [], _ :: _, h, _ => by simp [Op.bytesLess] at h
  | _ :: _, [], _, _ => by simp [Op.bytesLess]
  | a :: x, b :: y, h1, h2 => by
    have ih := less_total x y
    unfold Op.bytesLess at h1 ⊢
    by_cases e : a = b
    · subst e
      have h3 : (x == y) = false := by simpa using h2
      have h4 : Op.bytesLess x y = false := by simpa using h1
      simp [ih h4 h3]
    · have h3 : ¬ a.toNat < b.toNat := by
        intro h
        have : decide (a < b) = true := decide_eq_true h
        simp [this] at h1
      have h5 : a.toNat ≠ b.toNat := fun h => e (UInt8.toNat_inj.1 h)
      have h4 : b < a := by show b.toNat < a.toNat; omega
      simp [h4]
theorem lt2_irrefl (a b : ByteArray) : lt2 a b a b = false := by simp [lt2, less_irrefl]
theorem lt2_trans {a0 a1 b0 b1 c0 c1 : ByteArray} (h1 : lt2 a0 a1 b0 b1 = true) (h2 : lt2 b0 b1 c0 c1 = true) : lt2 a0 a1 c0 c1 = true := by
  simp only [lt2, Bool.or_eq_true, Bool.and_eq_true, beq_iff_eq] at h1 h2 ⊢
  rcases h1 with h1 | ⟨e1, h1⟩
  · rcases h2 with h2 | ⟨e2, h2⟩
    · exact .inl (less_trans _ _ _ h1 h2)
    · exact .inl (by rw [← e2]; exact h1)
  · rcases h2 with h2 | ⟨e2, h2⟩
    · exact .inl (by rw [e1]; exact h2)
    · exact .inr ⟨e1.trans e2, less_trans _ _ _ h1 h2⟩
theorem gtV_is (name : ByteArray) (x : Vr) (h : gtV name x = true) : Op.bytesLess name.toList x.name.toList = true := by
  unfold gtV at h
  simp only [Bool.not_eq_true', Bool.or_eq_false_iff] at h
  exact less_total _ _ h.1 h.2

/-- A right store. -/
structure Rt (vs : List Vr) (cs : List Cl) (o : ByteArray) : Prop where
  ascV : vs.Pairwise (fun a b => Op.bytesLess a.name.toList b.name.toList = true)
  ascC : cs.Pairwise (fun a b => lt2 a.name a.key b.name b.key = true)
  goodV : ∀ x ∈ vs, Cd.nm x.name.data.toList = true ∧ x.val.size ≤ 40
  goodC : ∀ x ∈ cs, Cd.nm x.name.data.toList = true ∧ x.key.size ≤ 40 ∧ x.val.size ≤ 40
  fewV : vs.length ≤ 60
  fewC : cs.length ≤ 2000
  out : o.size ≤ 3000
theorem cut_size (s : ByteArray) : (cut s).size ≤ 40 := by
  show (Pv.cut s.data.toList).toArray.size ≤ 40
  simp [Pv.cut]
  omega
theorem two_filters {α : Type} (p q : α → Bool) (h : ∀ x, p x = true → q x = false) (xs : List α) : (xs.filter p).length + (xs.filter q).length ≤ xs.length := by
  induction xs with
  | nil => simp
  | cons a xs ih =>
    cases hp : p a with
    | true =>
      rw [List.filter_cons_of_pos hp, List.filter_cons_of_neg (by rw [h a hp]; simp)]
      simp only [List.length_cons]
      omega
    | false =>
      rw [List.filter_cons_of_neg (by rw [hp]; simp)]
      cases hq : q a with
      | true => rw [List.filter_cons_of_pos hq]; simp only [List.length_cons]; omega
      | false => rw [List.filter_cons_of_neg (by rw [hq]; simp)]; simp only [List.length_cons]; omega
theorem newVars_len (vs : List Vr) (name val : ByteArray) : (newVars vs name val).length ≤ vs.length + 1 := by
  have := two_filters (ltV name) (gtV name) (fun x h => by unfold ltV at h; unfold gtV; rw [h]; rfl) vs
  unfold newVars
  simp only [List.length_append, List.length_cons, List.length_nil]
  omega
theorem lt_not_gt (name key : ByteArray) (x : Cl) (h : ltC name key x = true) : gtC name key x = false := by
  cases hg : gtC name key x with
  | false => rfl
  | true =>
    have := lt2_trans (by exact h) (by exact hg)
    rw [lt2_irrefl] at this
    exact absurd this (by simp)
theorem newCells_len (cs : List Cl) (name key val : ByteArray) : (newCells cs name key val).length ≤ cs.length + 1 := by
  have := two_filters (ltC name key) (gtC name key) (lt_not_gt name key) cs
  unfold newCells
  simp only [List.length_append, List.length_cons, List.length_nil]
  omega
theorem setVars_len (vs : List Vr) (name val : ByteArray) : (setVars vs name val).length ≤ vs.length + 1 := by
  have := newVars_len vs name val
  unfold setVars
  split <;> omega
theorem setCells_len (cs : List Cl) (name key val : ByteArray) : (setCells cs name key val).length ≤ cs.length + 1 := by
  have := newCells_len cs name key val
  unfold setCells
  split <;> omega
theorem newVars_asc {vs : List Vr} (name val : ByteArray) (h : vs.Pairwise (fun a b => Op.bytesLess a.name.toList b.name.toList = true)) : (newVars vs name val).Pairwise (fun a b => Op.bytesLess a.name.toList b.name.toList = true) := by
  unfold newVars
  rw [List.append_assoc, List.pairwise_append]
  refine ⟨h.filter _, ?_, ?_⟩
  · rw [List.singleton_append, List.pairwise_cons]
    exact ⟨fun b hb => gtV_is name b (List.mem_filter.1 hb).2, h.filter _⟩
  · intro a ha b hb
    have h1 : Op.bytesLess a.name.toList name.toList = true := (List.mem_filter.1 ha).2
    rw [List.singleton_append, List.mem_cons] at hb
    rcases hb with rfl | hb
    · exact h1
    · exact less_trans _ _ _ h1 (gtV_is name b (List.mem_filter.1 hb).2)
theorem newCells_asc {cs : List Cl} (name key val : ByteArray) (h : cs.Pairwise (fun a b => lt2 a.name a.key b.name b.key = true)) : (newCells cs name key val).Pairwise (fun a b => lt2 a.name a.key b.name b.key = true) := by
  unfold newCells
  rw [List.append_assoc, List.pairwise_append]
  refine ⟨h.filter _, ?_, ?_⟩
  · rw [List.singleton_append, List.pairwise_cons]
    exact ⟨fun b hb => (List.mem_filter.1 hb).2, h.filter _⟩
  · intro a ha b hb
    have h1 : lt2 a.name a.key name (cut key) = true := (List.mem_filter.1 ha).2
    rw [List.singleton_append, List.mem_cons] at hb
    rcases hb with rfl | hb
    · exact h1
    · exact lt2_trans h1 (List.mem_filter.1 hb).2
theorem newVars_mem {vs : List Vr} {name val : ByteArray} {x : Vr} (h : x ∈ newVars vs name val) : x ∈ vs ∨ x = ⟨name, cut val⟩ := by
  unfold newVars at h
  simp only [List.mem_append, List.mem_filter, List.mem_singleton] at h
  rcases h with (h | h) | h
  · exact .inl h.1
  · exact .inr h
  · exact .inl h.1
theorem newCells_mem {cs : List Cl} {name key val : ByteArray} {x : Cl} (h : x ∈ newCells cs name key val) : x ∈ cs ∨ x = ⟨name, cut key, cut val⟩ := by
  unfold newCells at h
  simp only [List.mem_append, List.mem_filter, List.mem_singleton] at h
  rcases h with (h | h) | h
  · exact .inl h.1
  · exact .inr h
  · exact .inl h.1
theorem Rt.none : Rt [] [] ⟨#[]⟩ := ⟨.nil, .nil, fun _ h => by simp at h, fun _ h => by simp at h, by simp, by simp, Nat.zero_le _⟩
theorem Rt.setV {vs : List Vr} {cs : List Cl} {o : ByteArray} (h : Rt vs cs o) {name : ByteArray} (hn : Cd.nm name.data.toList = true) (val : ByteArray) : Rt (setVars vs name val) cs o := by
  unfold setVars
  split
  · rename_i hl
    refine ⟨newVars_asc name val h.ascV, h.ascC, fun x hx => ?_, h.goodC, hl, h.fewC, h.out⟩
    rcases newVars_mem hx with hx | rfl
    · exact h.goodV x hx
    · exact ⟨hn, cut_size _⟩
  · exact h
theorem Rt.setC {vs : List Vr} {cs : List Cl} {o : ByteArray} (h : Rt vs cs o) {name : ByteArray} (hn : Cd.nm name.data.toList = true) (key val : ByteArray) : Rt vs (setCells cs name key val) o := by
  unfold setCells
  split
  · rename_i hl
    refine ⟨h.ascV, newCells_asc name key val h.ascC, h.goodV, fun x hx => ?_, h.fewV, hl, h.out⟩
    rcases newCells_mem hx with hx | rfl
    · exact h.goodC x hx
    · exact ⟨hn, cut_size _, cut_size _⟩
  · exact h
theorem Rt.outs {vs : List Vr} {cs : List Cl} {o o' : ByteArray} (h : Rt vs cs o) (ho : o'.size ≤ 3000) : Rt vs cs o' := ⟨h.ascV, h.ascC, h.goodV, h.goodC, h.fewV, h.fewC, ho⟩
theorem nm_size {s : ByteArray} (h : Cd.nm s.data.toList = true) : s.size ≤ 8 := by
  unfold Cd.nm at h
  simp at h
  have : s.data.toList.length = s.size := by simp
  omega
theorem Rt.small {vs : List Vr} {cs : List Cl} {o : ByteArray} (h : Rt vs cs o) : StSmall vs cs o := by
  have := h.fewV
  have := h.fewC
  have := h.out
  refine ⟨by omega, fun i hi => ?_, by omega, fun i hi => ?_, by omega⟩
  · have hm : vs.getD i Vr.no ∈ vs := by rw [List.getD_eq_getElem?_getD, List.getElem?_eq_getElem hi]; exact List.getElem_mem _
    obtain ⟨h1, h2⟩ := h.goodV _ hm
    have := nm_size h1
    exact ⟨by omega, by omega⟩
  · have hm : cs.getD i Cl.no ∈ cs := by rw [List.getD_eq_getElem?_getD, List.getElem?_eq_getElem hi]; exact List.getElem_mem _
    obtain ⟨h1, h2, h3⟩ := h.goodC _ hm
    have := nm_size h1
    exact ⟨by omega, by omega, by omega⟩
theorem get_mem {α : Type} (xs : List α) (no : α) (i : Nat) (h : i < xs.length) : xs.getD i no = xs[i] := by simp [h]
/-- Such a store is right. -/
theorem Rt.ok {vs : List Vr} {cs : List Cl} {o : ByteArray} (h : Rt vs cs o) : St.ok vs cs o = true := by
  rw [ok_yes (fun i hi => ⟨?_, ?_⟩) (fun i hi => ⟨?_, ?_⟩)]
  · simp [h.fewV, h.fewC, h.out]
  · obtain ⟨h1, h2⟩ := h.goodV vs[i] (List.getElem_mem _)
    unfold St.goodV
    rw [get_mem vs Vr.no i hi, h1]
    simp [h2]
  · unfold St.ascV St.aheadV
    by_cases e : i = 0
    · simp [e]
    · have := List.pairwise_iff_getElem.1 h.ascV (i - 1) i (by omega) hi (by omega)
      rw [lt2_empty, get_mem vs Vr.no i hi, get_mem vs Vr.no (i - 1) (by omega), this]
      simp
  · obtain ⟨h1, h2, h3⟩ := h.goodC cs[i] (List.getElem_mem _)
    unfold St.goodC
    rw [get_mem cs Cl.no i hi, h1]
    simp [h2, h3]
  · unfold St.ascC St.aheadC
    by_cases e : i = 0
    · simp [e]
    · have := List.pairwise_iff_getElem.1 h.ascC (i - 1) i (by omega) hi (by omega)
      rw [get_mem cs Cl.no i hi, get_mem cs Cl.no (i - 1) (by omega), this]
      simp
end St
/-- A right store of few things. -/
structure Dw (k : Nat) (vs : List Vr) (cs : List Cl) (o : ByteArray) : Prop where
  rt : St.Rt vs cs o
  v : vs.length ≤ k
  c : cs.length ≤ k
  o : o.size ≤ 43 * k
theorem Dw.none : Dw 0 [] [] ⟨#[]⟩ := ⟨St.Rt.none, by simp, by simp, Nat.zero_le _⟩
theorem Dw.up {k m : Nat} {vs : List Vr} {cs : List Cl} {o : ByteArray} (h : Dw k vs cs o) (hk : k ≤ m) : Dw m vs cs o := ⟨h.rt, by have := h.v; omega, by have := h.c; omega, by have := h.o; omega⟩
theorem Dw.setV {k : Nat} {vs : List Vr} {cs : List Cl} {o : ByteArray} (h : Dw k vs cs o) {name : ByteArray} (hn : Cd.nm name.data.toList = true) (val : ByteArray) : Dw (k + 1) (St.setVars vs name val) cs o :=
  ⟨h.rt.setV hn val, by have := St.setVars_len vs name val; have := h.v; omega, by have := h.c; omega, by have := h.o; omega⟩
theorem Dw.setC {k : Nat} {vs : List Vr} {cs : List Cl} {o : ByteArray} (h : Dw k vs cs o) {name : ByteArray} (hn : Cd.nm name.data.toList = true) (key val : ByteArray) : Dw (k + 1) vs (St.setCells cs name key val) o :=
  ⟨h.rt.setC hn key val, by have := h.v; omega, by have := St.setCells_len cs name key val; have := h.c; omega, by have := h.o; omega⟩
end PartRtP
section PartRwE
open Go.RowKit

theorem cellsVr_len (xs : List Vr) : (cellsVr xs).length = xs.length * 2 := by
  induction xs with
  | nil => rfl
  | cons x xs ih =>
    have e : cellsVr (x :: xs) = .string x.name :: .string x.val :: cellsVr xs := rfl
    rw [e, List.length_cons, List.length_cons, ih, List.length_cons]
    omega
theorem cellsVr_one (xs : List Vr) : ∀ u ∈ cellsVr xs, u.oneCell' = true := by
  intro u hu
  unfold cellsVr at hu
  obtain ⟨x, _, h⟩ := List.mem_flatMap.1 hu
  simp at h
  rcases h with rfl | rfl <;> rfl
theorem VrAt.news {w : World} {b o : Nat} {xs : List Vr} (hc : ∀ i, i < xs.length → w.cell? ⟨b, o + i * 2, none⟩ = some (.string (xs.getD i Vr.no).name) ∧ w.cell? ⟨b, o + i * 2 + 1, none⟩ = some (.string (xs.getD i Vr.no).val)) : ∀ j u, (cellsVr xs)[j]? = some u → w.cell? ((⟨b, o, none⟩ : Addr).add j) = some u := by
  intro j u hu
  have hj : j < xs.length * 2 := by
    have := (List.getElem?_eq_some_iff.1 hu).1
    rwa [cellsVr_len] at this
  have hadd : (⟨b, o, none⟩ : Addr).add j = ⟨b, o + j, none⟩ := by unfold Addr.add; split <;> simp_all
  rw [hadd]
  have hi : j / 2 < xs.length := Nat.div_lt_of_lt_mul (by omega)
  obtain ⟨g0, g1⟩ := cellsVr_get xs (j / 2) hi
  obtain ⟨k0, k1⟩ := hc (j / 2) hi
  have hm : j = j / 2 * 2 ∨ j = j / 2 * 2 + 1 := by omega
  rcases hm with hm | hm
  · rw [hm, g0] at hu
    rw [hm, ← hu]
    first | exact k0 | (rw [← Nat.add_assoc]; exact k0)
  · rw [hm, g1] at hu
    rw [hm, ← hu]
    first | exact k1 | (rw [← Nat.add_assoc]; exact k1)

theorem VrRow.stepAll {ops : Array Oper} {o : Oper} {a : Act} {K : Act → World → Prop} {Q : Exit → Act → World → Prop} {E : Prop} {B : Nat} {W : World} {x : Value} {xs : List Vr} (hgd : o.guard = none) (s y : Operand)
    (ho : o.op = .call { callee := .builtin .append, args := #[s, y], argTypes := #[24, 24] })
    (g : Nat) (hs : a.eval s = .slice (some ⟨g, 0, none⟩) 0 0) (hg : W.heap[g]? = some (.cells #[] 35 (0, 0))) (hB : B ≤ g) (hx : a.eval y = x) (hat : VrAt W x xs) (hl : xs.length ≤ 1048576)
    (h : ∀ ua uc w', VrRow B w' (.slice ua xs.length uc) xs → W.grownBy w' (some g) → K (a.put o.dst (.slice ua xs.length uc)) w') :
    if Region.wanted o (yielded ops a.tmps) = true then Oper.wp Try.prog o a W K Q else E := by
  obtain ⟨i0, hi, hz0, hz1, hz2⟩ := info_parts Try.infoVr
  have hlt := blk_lt hg
  have hown : VrRow B W (.slice (some ⟨g, 0, none⟩) 0 0) [] := ⟨rfl, .inr ⟨g, 0, #[], rfl, hB, hg, Nat.le_refl _, by decide, rfl, rfl⟩⟩
  obtain ⟨ad, c, rfl, f⟩ := hat
  by_cases h0 : xs.length = 0
  · have hnil : xs = [] := List.length_eq_zero_iff.1 h0
    subst hnil
    have hw : Region.wanted o (yielded ops a.tmps) = true := by simp [Region.wanted, hgd]
    rw [if_pos hw]
    have hsrc : Src Try.prog i0.size 24 (.slice ad 0 c) 0 [] W := by
      cases ad with
      | none => exact Src.ofNil W Try.underlying24 c
      | some p => exact Src.ofSlice W Try.underlying24 p 0 c [] (by simp) (fun j u hu => by simp at hu) (fun u hu => by cases hu)
    have hr := run_append_nothing (P := Try.prog) W 24 24 o.type 35 i0 Try.underlying24 hi (some ⟨g, 0, none⟩) 0 0 (Nat.le_refl _) (.slice ad 0 c) hsrc
    unfold Oper.wp execOp
    have hx' : a.eval y = .slice ad 0 c := hx
    simp only [ho, resolve, invoke, builtin, Sem.run_bind, Sem.run_pure, Result.andThen_ok, List.map_toArray, List.map_cons, List.map_nil, hs, hx', hr]
    exact h (some ⟨g, 0, none⟩) 0 W hown ⟨rfl, rfl, rfl, Nat.le_refl _, fun _ _ _ => rfl⟩
  · obtain ⟨b, of, rfl, hb, hc⟩ := f (by omega)
    refine step_append_lies _ hgd s y 24 ho B 35 i0 (.agg #[.string ByteArray.empty, .string ByteArray.empty]) 2 32 Try.underlying24 hi hz0 hz1 hz2 rfl (by decide) (.slice (some ⟨g, 0, none⟩) 0 0) 0 [] hs hown ⟨b, of, none⟩ xs.length c (cellsVr xs) hx (cellsVr_len xs)
      (VrAt.news hc) (cellsVr_one xs) (by omega) (by unfold maxLen; omega) (by omega) (by omega) W.heap.size rfl ?_
    intro q cap w' h2 h3 h4 h5
    rw [Nat.zero_add] at h2 ⊢
    refine h (some ⟨q, 0, none⟩) cap w' ?_ h3
    unfold VrRow
    simpa using h2

theorem cellsCl_len (xs : List Cl) : (cellsCl xs).length = xs.length * 3 := by
  induction xs with
  | nil => rfl
  | cons x xs ih =>
    have e : cellsCl (x :: xs) = .string x.name :: .string x.key :: .string x.val :: cellsCl xs := rfl
    rw [e, List.length_cons, List.length_cons, List.length_cons, ih, List.length_cons]
    omega
theorem cellsCl_one (xs : List Cl) : ∀ u ∈ cellsCl xs, u.oneCell' = true := by
  intro u hu
  unfold cellsCl at hu
  obtain ⟨x, _, h⟩ := List.mem_flatMap.1 hu
  simp at h
  rcases h with rfl | rfl | rfl <;> rfl
theorem ClAt.news {w : World} {b o : Nat} {xs : List Cl} (hc : ∀ i, i < xs.length → w.cell? ⟨b, o + i * 3, none⟩ = some (.string (xs.getD i Cl.no).name) ∧ w.cell? ⟨b, o + i * 3 + 1, none⟩ = some (.string (xs.getD i Cl.no).key) ∧ w.cell? ⟨b, o + i * 3 + 2, none⟩ = some (.string (xs.getD i Cl.no).val)) : ∀ j u, (cellsCl xs)[j]? = some u → w.cell? ((⟨b, o, none⟩ : Addr).add j) = some u := by
  intro j u hu
  have hj : j < xs.length * 3 := by
    have := (List.getElem?_eq_some_iff.1 hu).1
    rwa [cellsCl_len] at this
  have hadd : (⟨b, o, none⟩ : Addr).add j = ⟨b, o + j, none⟩ := by unfold Addr.add; split <;> simp_all
  rw [hadd]
  have hi : j / 3 < xs.length := Nat.div_lt_of_lt_mul (by omega)
  obtain ⟨g0, g1, g2⟩ := cellsCl_get xs (j / 3) hi
  obtain ⟨k0, k1, k2⟩ := hc (j / 3) hi
  have hm : j = j / 3 * 3 ∨ j = j / 3 * 3 + 1 ∨ j = j / 3 * 3 + 2 := by omega
  rcases hm with hm | hm | hm
  · rw [hm, g0] at hu
    rw [hm, ← hu]
    first | exact k0 | (rw [← Nat.add_assoc]; exact k0)
  · rw [hm, g1] at hu
    rw [hm, ← hu]
    first | exact k1 | (rw [← Nat.add_assoc]; exact k1)
  · rw [hm, g2] at hu
    rw [hm, ← hu]
    first | exact k2 | (rw [← Nat.add_assoc]; exact k2)

theorem ClRow.stepAll {ops : Array Oper} {o : Oper} {a : Act} {K : Act → World → Prop} {Q : Exit → Act → World → Prop} {E : Prop} {B : Nat} {W : World} {x : Value} {xs : List Cl} (hgd : o.guard = none) (s y : Operand)
    (ho : o.op = .call { callee := .builtin .append, args := #[s, y], argTypes := #[25, 25] })
    (g : Nat) (hs : a.eval s = .slice (some ⟨g, 0, none⟩) 0 0) (hg : W.heap[g]? = some (.cells #[] 41 (0, 0))) (hB : B ≤ g) (hx : a.eval y = x) (hat : ClAt W x xs) (hl : xs.length ≤ 1048576)
    (h : ∀ ua uc w', ClRow B w' (.slice ua xs.length uc) xs → W.grownBy w' (some g) → K (a.put o.dst (.slice ua xs.length uc)) w') :
    if Region.wanted o (yielded ops a.tmps) = true then Oper.wp Try.prog o a W K Q else E := by
  obtain ⟨i0, hi, hz0, hz1, hz2⟩ := info_parts Try.infoCl
  have hlt := blk_lt hg
  have hown : ClRow B W (.slice (some ⟨g, 0, none⟩) 0 0) [] := ⟨rfl, .inr ⟨g, 0, #[], rfl, hB, hg, Nat.le_refl _, by decide, rfl, rfl⟩⟩
  obtain ⟨ad, c, rfl, f⟩ := hat
  by_cases h0 : xs.length = 0
  · have hnil : xs = [] := List.length_eq_zero_iff.1 h0
    subst hnil
    have hw : Region.wanted o (yielded ops a.tmps) = true := by simp [Region.wanted, hgd]
    rw [if_pos hw]
    have hsrc : Src Try.prog i0.size 25 (.slice ad 0 c) 0 [] W := by
      cases ad with
      | none => exact Src.ofNil W Try.underlying25 c
      | some p => exact Src.ofSlice W Try.underlying25 p 0 c [] (by simp) (fun j u hu => by simp at hu) (fun u hu => by cases hu)
    have hr := run_append_nothing (P := Try.prog) W 25 25 o.type 41 i0 Try.underlying25 hi (some ⟨g, 0, none⟩) 0 0 (Nat.le_refl _) (.slice ad 0 c) hsrc
    unfold Oper.wp execOp
    have hx' : a.eval y = .slice ad 0 c := hx
    simp only [ho, resolve, invoke, builtin, Sem.run_bind, Sem.run_pure, Result.andThen_ok, List.map_toArray, List.map_cons, List.map_nil, hs, hx', hr]
    exact h (some ⟨g, 0, none⟩) 0 W hown ⟨rfl, rfl, rfl, Nat.le_refl _, fun _ _ _ => rfl⟩
  · obtain ⟨b, of, rfl, hb, hc⟩ := f (by omega)
    refine step_append_lies _ hgd s y 25 ho B 41 i0 (.agg #[.string ByteArray.empty, .string ByteArray.empty, .string ByteArray.empty]) 3 48 Try.underlying25 hi hz0 hz1 hz2 rfl (by decide) (.slice (some ⟨g, 0, none⟩) 0 0) 0 [] hs hown ⟨b, of, none⟩ xs.length c (cellsCl xs) hx (cellsCl_len xs)
      (ClAt.news hc) (cellsCl_one xs) (by omega) (by unfold maxLen; omega) (by omega) (by omega) W.heap.size rfl ?_
    intro q cap w' h2 h3 h4 h5
    rw [Nat.zero_add] at h2 ⊢
    refine h (some ⟨q, 0, none⟩) cap w' ?_ h3
    unfold ClRow
    simpa using h2

theorem rowNe {B : Nat} {w : World} {v : Value} {n : Nat} {cs : List Value} (h : w.ownsRow B 35 2 v n cs) {g : Nat} (hg : w.heap[g]? = some (.cells #[] 41 (0, 0))) : ¬ v.ownBlock = some g := by
  intro e
  rcases h.2 with ⟨rfl, -⟩ | ⟨q, cap, cur, rfl, -, hq, -⟩
  · simp [Value.ownBlock] at e
  · obtain rfl : q = g := by simpa [Value.ownBlock] using e
    rw [hg] at hq
    simp only [Option.some.injEq, Obj.cells.injEq] at hq
    exact absurd hq.2.1 (by decide)
theorem cell_bel {B : Nat} {W W' : World} {p : Addr} {u : Value} (hb : Below B W W') (hp : p.block < B) (h : W.cell? p = some u) : W'.cell? p = some u := (hb.cell hp).trans h
set_option maxRecDepth 100000 in
set_option maxHeartbeats 4000000 in
theorem spCopy (tv lv : Value) (o : ByteArray) (vs : List Vr) (cs : List Cl) (w : World) (h1 : VrAt w tv vs) (h2 : ClAt w lv cs) (hs : StSmall vs cs o) :
    Calls Try.prog 38 #[.agg #[tv, lv, .string o]] w fun e w' => ∃ u x, e = .returned (.agg #[u, x, .string o]) ∧ VrIn w.heap.size w'.heap.size w' u vs ∧ ClIn w.heap.size w'.heap.size w' x cs ∧ Below w.heap.size w w' := by
  have HV : Hid (∀ W, Below w.heap.size w W → VrAt W tv vs ∧ ClAt W lv cs) := fun W hb => ⟨h1.keep hb, h2.keep hb⟩
  have HL : Hid (vs.length ≤ 1048576 ∧ cs.length ≤ 1048576) := ⟨hs.1, hs.2.2.1⟩
  obtain ⟨ad, c, rfl, -⟩ := h1
  obtain ⟨bd, d, rfl, -⟩ := h2
  obtain ⟨n, hn⟩ : ∃ n, n = vs.length := ⟨_, rfl⟩
  obtain ⟨m, hm⟩ : ∃ m, m = cs.length := ⟨_, rfl⟩
  rw [← hn, ← hm] at HV
  rw [← hn, ← hm]
  clear hn hm hs
  have HB : Hid (Below w.heap.size w ((w.alloc (.cells #[.slice ad n c, .slice bd m d, .string o] 27)).alloc (.cells #[.slice none 0 0, .slice none 0 0, .string ByteArray.empty] 27))) := ((Below.refl _ _).alloc (Nat.le_refl _) _).alloc (by simp) _
  have q0 := s2_0 w (.cells #[.slice ad n c, .slice bd m d, .string o] 27) (.cells #[.slice none 0 0, .slice none 0 0, .string ByteArray.empty] 27)
  have q1 := s2_1 w (.cells #[.slice ad n c, .slice bd m d, .string o] 27) (.cells #[.slice none 0 0, .slice none 0 0, .string ByteArray.empty] 27)
  have hz : w.heap.size + 1 < ((w.alloc (.cells #[.slice ad n c, .slice bd m d, .string o] 27)).alloc (.cells #[.slice none 0 0, .slice none 0 0, .string ByteArray.empty] 27)).heap.size := by simp
  have HZ : Hid _ := And.intro q1 hz
  have z0 := blk_cell q0 0
  have z1 := blk_cell q0 1
  have z2 := blk_cell q0 2
  simp only [List.getElem?_toArray, List.getElem?_cons_zero, List.getElem?_cons_succ] at z0 z1 z2
  clear q0 q1 hz
  go_enter Try.func38, Try.ntmps38
  go_wp2_with fail
  change Code.wp _ _ _ _ ((w.alloc (.cells #[.slice ad n c, .slice bd m d, .string o] 27)).alloc (.cells #[.slice none 0 0, .slice none 0 0, .string ByteArray.empty] 27))
  generalize (w.alloc (.cells #[.slice ad n c, .slice bd m d, .string o] 27)).alloc (.cells #[.slice none 0 0, .slice none 0 0, .string ByteArray.empty] 27) = W0 at *
  have HST : Hid (∀ W, Below W0.heap.size W0 W → W.heap[w.heap.size + 1]? = some (.cells #[.slice none 0 0, .slice none 0 0, .string ByteArray.empty] 27 (0, 0))) := fun W hb => (hb.block _ HZ.out.2).trans HZ.out.1
  have HW0 : Hid (∀ W, Below W0.heap.size W0 W → Below w.heap.size w W) := fun W hb => HB.out.trans (hb.mono HB.out.size)
  have hlt : w.heap.size < W0.heap.size := by have := HZ.out.2; omega
  go_region_held3 (fun W => W.cell? ⟨w.heap.size, 0, none⟩ = some (.slice ad n c) ∧ W.cell? ⟨w.heap.size, 1, none⟩ = some (.slice bd m d) ∧ W.cell? ⟨w.heap.size, 2, none⟩ = some (.string o)) (first | exact ⟨cell_bel B2.out hlt z0, cell_bel B2.out hlt z1, cell_bel B2.out hlt z2⟩ | exact ⟨cell_bel B1.out hlt z0, cell_bel B1.out hlt z1, cell_bel B1.out hlt z2⟩ | go_keep | exact ⟨z0, z1, z2⟩ | assumption)
    ((first
      | (refine VrRow.stepAll (B := W0.heap.size) (W := W0.drew.alloc (.cells #[] 35)) (x := .slice ad n c) (xs := vs) (by rfl) _ _ (by rfl) (W0.heap.size) (by rfl) (heap_alloc_new W0.drew (.cells #[] 35)) (by omega) (by rfl) (HV.out _ (HW0.out _ ((Below.refl W0.heap.size W0).drew.alloc (Nat.le_refl _) (.cells #[] 35)))).1 HL.out.1 ?_; intro ua uc w1 hr1 hg1; have B1 : Hid (Below W0.heap.size W0 w1) := ((Below.refl W0.heap.size W0).drew.alloc (Nat.le_refl _) (.cells #[] 35)).grown hg1 (by simp; try omega) (fun k hk => by simp at hk; omega))
      | (refine VrRow.stepAll (B := W0.heap.size) (W := (W0.drew.alloc (.cells #[] 35)).alloc (.cells #[] 41)) (x := .slice ad n c) (xs := vs) (by rfl) _ _ (by rfl) (W0.heap.size) (by rfl) (s2_0 W0.drew (.cells #[] 35) (.cells #[] 41)) (by omega) (by rfl) (HV.out _ (HW0.out _ (((Below.refl W0.heap.size W0).drew.alloc (Nat.le_refl _) (.cells #[] 35)).alloc (by simp) (.cells #[] 41)))).1 HL.out.1 ?_; intro ua uc w1 hr1 hg1; have B1 : Hid (Below W0.heap.size W0 w1) := (((Below.refl W0.heap.size W0).drew.alloc (Nat.le_refl _) (.cells #[] 35)).alloc (by simp) (.cells #[] 41)).grown hg1 (by simp; try omega) (fun k hk => by simp at hk; omega); have HC : Hid (w1.heap[W0.heap.size + 1]? = some (.cells #[] 41 (0, 0))) := (hg1.block (W0.heap.size + 1) (by simp) (by simp)).trans (s2_1 W0.drew (.cells #[] 35) (.cells #[] 41)))
      | (refine VrRow.stepAll (B := W0.heap.size) (W := (W0.drew.alloc (.cells #[] 41)).alloc (.cells #[] 35)) (x := .slice ad n c) (xs := vs) (by rfl) _ _ (by rfl) (W0.heap.size + 1) (by rfl) (s2_1 W0.drew (.cells #[] 41) (.cells #[] 35)) (by omega) (by rfl) (HV.out _ (HW0.out _ (((Below.refl W0.heap.size W0).drew.alloc (Nat.le_refl _) (.cells #[] 41)).alloc (by simp) (.cells #[] 35)))).1 HL.out.1 ?_; intro ua uc w1 hr1 hg1; have B1 : Hid (Below W0.heap.size W0 w1) := (((Below.refl W0.heap.size W0).drew.alloc (Nat.le_refl _) (.cells #[] 41)).alloc (by simp) (.cells #[] 35)).grown hg1 (by simp; try omega) (fun k hk => by simp at hk; omega); have HC : Hid (w1.heap[W0.heap.size]? = some (.cells #[] 41 (0, 0))) := (hg1.block W0.heap.size (by simp; try omega) (by simp)).trans (s2_0 W0.drew (.cells #[] 41) (.cells #[] 35)))
      | (refine ClRow.stepAll (B := W0.heap.size) (W := w1.alloc (.cells #[] 41)) (x := .slice bd m d) (xs := cs) (by rfl) _ _ (by rfl) w1.heap.size (by rfl) (heap_alloc_new w1 (.cells #[] 41)) B1.out.size (by rfl) (HV.out _ (HW0.out _ (B1.out.alloc B1.out.size _))).2 HL.out.2 ?_; intro xa xc w2 hr2 hg2; have B2 : Hid (Below W0.heap.size W0 w2) := (B1.out.alloc B1.out.size (.cells #[] 41)).grown hg2 (by have := B1.out.size; simp; omega) (fun k hk => by have := B1.out.size; simp at hk; omega); have HU2 : Hid (VrRow W0.heap.size w2 (.slice ua vs.length uc) vs) := rowKeep hr1 (fun q hq => (hg2.block q (by have := (World.ownsRow.lt hr1 q hq).2; simp; omega) (by have := (World.ownsRow.lt hr1 q hq).2; simp; omega)).trans (((Below.refl w1.heap.size w1).alloc (Nat.le_refl _) (.cells #[] 41)).block q (World.ownsRow.lt hr1 q hq).2)); have HX2 : Hid (ClRow W0.heap.size w2 (.slice xa cs.length xc) cs) := hr2; have R3 := HST.out w2 B2.out; have y0 : w2.cell? ⟨w.heap.size + 1, 0, none⟩ = some (.slice none 0 0) := (blk_cell R3 0).trans rfl; have y1 : w2.cell? ⟨w.heap.size + 1, 1, none⟩ = some (.slice none 0 0) := (blk_cell R3 1).trans rfl; have y2 : w2.cell? ⟨w.heap.size + 1, 2, none⟩ = some (.string ByteArray.empty) := (blk_cell R3 2).trans rfl; have f0 := blk_free R3 0; have f1 := blk_free R3 1; have f2 := blk_free R3 2; clear R3)
      | (refine ClRow.stepAll (B := W0.heap.size) (W := w1) (x := .slice bd m d) (xs := cs) (by rfl) _ _ (by rfl) (W0.heap.size + 1) (by rfl) HC.out (by omega) (by rfl) (HV.out _ (HW0.out _ B1.out)).2 HL.out.2 ?_; intro xa xc w2 hr2 hg2; have B2 : Hid (Below W0.heap.size W0 w2) := B1.out.grown hg2 B1.out.size (fun k hk => by simp at hk; omega); have HU2 : Hid (VrRow W0.heap.size w2 (.slice ua vs.length uc) vs) := rowKeep hr1 (fun q hq => hg2.block q (World.ownsRow.lt hr1 q hq).2 (fun e => rowNe hr1 HC.out (hq.trans e))); have HX2 : Hid (ClRow W0.heap.size w2 (.slice xa cs.length xc) cs) := hr2; have R3 := HST.out w2 B2.out; have y0 : w2.cell? ⟨w.heap.size + 1, 0, none⟩ = some (.slice none 0 0) := (blk_cell R3 0).trans rfl; have y1 : w2.cell? ⟨w.heap.size + 1, 1, none⟩ = some (.slice none 0 0) := (blk_cell R3 1).trans rfl; have y2 : w2.cell? ⟨w.heap.size + 1, 2, none⟩ = some (.string ByteArray.empty) := (blk_cell R3 2).trans rfl; have f0 := blk_free R3 0; have f1 := blk_free R3 1; have f2 := blk_free R3 2; clear R3)
      | (refine ClRow.stepAll (B := W0.heap.size) (W := w1) (x := .slice bd m d) (xs := cs) (by rfl) _ _ (by rfl) (W0.heap.size) (by rfl) HC.out (by omega) (by rfl) (HV.out _ (HW0.out _ B1.out)).2 HL.out.2 ?_; intro xa xc w2 hr2 hg2; have B2 : Hid (Below W0.heap.size W0 w2) := B1.out.grown hg2 B1.out.size (fun k hk => by simp at hk; omega); have HU2 : Hid (VrRow W0.heap.size w2 (.slice ua vs.length uc) vs) := rowKeep hr1 (fun q hq => hg2.block q (World.ownsRow.lt hr1 q hq).2 (fun e => rowNe hr1 HC.out (hq.trans e))); have HX2 : Hid (ClRow W0.heap.size w2 (.slice xa cs.length xc) cs) := hr2; have R3 := HST.out w2 B2.out; have y0 : w2.cell? ⟨w.heap.size + 1, 0, none⟩ = some (.slice none 0 0) := (blk_cell R3 0).trans rfl; have y1 : w2.cell? ⟨w.heap.size + 1, 1, none⟩ = some (.slice none 0 0) := (blk_cell R3 1).trans rfl; have y2 : w2.cell? ⟨w.heap.size + 1, 2, none⟩ = some (.string ByteArray.empty) := (blk_cell R3 2).trans rfl; have f0 := blk_free R3 0; have f1 := blk_free R3 1; have f2 := blk_free R3 2; clear R3)))
  all_goals
    have HSZ : Hid (w.heap.size + 1 < W0.heap.size ∧ W0.heap.size ≤ w2.heap.size) := ⟨HZ.out.2, B2.out.size⟩
    have HRR : Hid _ := HST.out w2 B2.out
    clear hr1 hg1 hr2 hg2
    go_wp2_with fail
    refine bodyPost_ret (results_cell_row (p := 2) (ty := 27) rfl _ _ (w.heap.size + 1) 27 _ (0, 0) _ rfl (blk_set (blk_set (blk_set HRR.out 0 _) 1 _) 2 _) Try.underlying27 rfl (by kernel_rfl)) rfl ?_
    have hsz := HSZ.out
    have hk : ∀ b, W0.heap.size ≤ b → (((w2.setCell ⟨w.heap.size + 1, 0, none⟩ (.slice ua vs.length uc)).setCell ⟨w.heap.size + 1, 1, none⟩ (.slice xa cs.length xc)).setCell ⟨w.heap.size + 1, 2, none⟩ (.string o)).heap[b]? = w2.heap[b]? := fun b hb => by
      rw [Below.heap_setCell _ _ _ _ (by show b ≠ w.heap.size + 1; omega), Below.heap_setCell _ _ _ _ (by show b ≠ w.heap.size + 1; omega), Below.heap_setCell _ _ _ _ (by show b ≠ w.heap.size + 1; omega)]
    refine ⟨_, _, rfl, ?_, ?_, ?_⟩
    · exact ((VrRow.in HU2.out).keep (fun b hb _ => hk b hb)).wide (by omega) (by simp [World.setCell])
    · exact ((ClRow.in HX2.out).keep (fun b hb _ => hk b hb)).wide (by omega) (by simp [World.setCell])
    · exact (((HW0.out _ B2.out).setCell (by show _ ≤ w.heap.size + 1; omega) _).setCell (by show _ ≤ w.heap.size + 1; omega) _).setCell (by show _ ≤ w.heap.size + 1; omega) _
end PartRwE
end Go.Proofs.Ytohhhhkhkgmanaa
