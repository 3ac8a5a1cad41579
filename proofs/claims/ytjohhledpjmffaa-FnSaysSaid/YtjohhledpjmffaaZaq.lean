/- What is said: the program's copies of a store, with more said. A right store, plainly; what is set and said leaves it right. -/
import Derived.Test.YtjohhledpjmffaaRwC
import Derived.Test.YtjohhledpjmffaaZai
namespace Go.Proofs.Ytjohhledpjmffaa
section PartRwD
open Go.RowKit

/-- The first 3000 bytes. -/
def St.cut3 (s : ByteArray) : ByteArray := if 3000 < s.size then s.extract 0 3000 else s
theorem St.cut3_size (s : ByteArray) : (St.cut3 s).size ≤ 3000 := by
  unfold St.cut3
  split
  · rw [ByteArray.size_extract]; omega
  · omega
theorem ext_whole (s : ByteArray) : s.extract 0 s.size = s := by
  apply ByteArray.ext
  rw [ByteArray.data_extract]
  simp

/-- A store in memory of its own: its Vars from lo to mid, its Cells from mid to hi. -/
def StIn (lo hi : Nat) (w : World) (u x : Value) (vs : List Vr) (cs : List Cl) : Prop := ∃ mid, lo ≤ mid ∧ mid ≤ hi ∧ VrIn lo mid w u vs ∧ ClIn mid hi w x cs

theorem StIn.keep {lo hi : Nat} {w w' : World} {u x : Value} {vs : List Vr} {cs : List Cl} (h : StIn lo hi w u x vs cs) (hk : ∀ b, lo ≤ b → b < hi → w'.heap[b]? = w.heap[b]?) : StIn lo hi w' u x vs cs := by
  obtain ⟨mid, h1, h2, h3, h4⟩ := h
  exact ⟨mid, h1, h2, h3.keep (fun b e1 e2 => hk b e1 (by omega)), h4.keep (fun b e1 e2 => hk b (by omega) e2)⟩
theorem StIn.wide {lo hi lo' hi' : Nat} {w : World} {u x : Value} {vs : List Vr} {cs : List Cl} (h : StIn lo hi w u x vs cs) (h1 : lo' ≤ lo) (h2 : hi ≤ hi') : StIn lo' hi' w u x vs cs := by
  obtain ⟨mid, e1, e2, h3, h4⟩ := h
  exact ⟨mid, by omega, by omega, h3.wide h1 (Nat.le_refl _), h4.wide (Nat.le_refl _) h2⟩

set_option maxRecDepth 100000 in
set_option maxHeartbeats 4000000 in
theorem withOut_any (tv lv : Value) (o p : ByteArray) (vs : List Vr) (cs : List Cl) (w : World) (h1 : VrAt w tv vs) (h2 : ClAt w lv cs) (hs : StSmall vs cs o) (hp : p.size ≤ 100000000) :
    Calls Try.prog 52 #[.agg #[tv, lv, .string o], .string p] w fun e w' => ∃ u x, e = .returned (.agg #[u, x, .string p]) ∧ StIn w.heap.size w'.heap.size w' u x vs cs ∧ Below w.heap.size w w' := by
  have CV : Hid (∀ W, Below w.heap.size w W → Calls Try.prog 47 #[tv] W fun e w' => ∃ u, e = .returned u ∧ VrIn W.heap.size w'.heap.size w' u vs ∧ Below W.heap.size W w') := fun W hb => copyOfVar_any tv vs W (h1.keep hb) hs.1 hs.2.1
  have CC : Hid (∀ W, Below w.heap.size w W → Calls Try.prog 38 #[lv] W fun e w' => ∃ u, e = .returned u ∧ ClIn W.heap.size w'.heap.size w' u cs ∧ Below W.heap.size W w') := fun W hb => copyOfCell_any lv cs W (h2.keep hb) hs.2.2.1 hs.2.2.2.1
  have CP : Hid (∀ W, Calls Try.prog 39 #[.string p] W fun e w' => e = .returned (.string p) ∧ Below W.heap.size W w') := fun W => clone_any p W (by omega)
  obtain ⟨ad, c, rfl, -⟩ := h1
  obtain ⟨bd, d, rfl, -⟩ := h2
  obtain ⟨n, hn⟩ : ∃ n, n = vs.length := ⟨_, rfl⟩
  obtain ⟨m, hm⟩ : ∃ m, m = cs.length := ⟨_, rfl⟩
  rw [← hn] at CV ⊢
  rw [← hm] at CC ⊢
  have HNM : Hid (n = vs.length ∧ m = cs.length) := ⟨hn, hm⟩
  clear hn hm hs hp
  have HB : Hid (Below w.heap.size w ((w.alloc (.cells #[.slice ad n c, .slice bd m d, .string o] 27)).alloc (.cells #[.slice none 0 0, .slice none 0 0, .string ByteArray.empty] 27))) := ((Below.refl _ _).alloc (Nat.le_refl _) _).alloc (by simp) _
  have q0 := s2_0 w (.cells #[.slice ad n c, .slice bd m d, .string o] 27) (.cells #[.slice none 0 0, .slice none 0 0, .string ByteArray.empty] 27)
  have q1 := s2_1 w (.cells #[.slice ad n c, .slice bd m d, .string o] 27) (.cells #[.slice none 0 0, .slice none 0 0, .string ByteArray.empty] 27)
  have hz : w.heap.size + 1 < ((w.alloc (.cells #[.slice ad n c, .slice bd m d, .string o] 27)).alloc (.cells #[.slice none 0 0, .slice none 0 0, .string ByteArray.empty] 27)).heap.size := by simp
  have HZ : Hid _ := And.intro q1 hz
  have z0 := blk_cell q0 0
  have z1 := blk_cell q0 1
  simp only [List.getElem?_toArray, List.getElem?_cons_zero, List.getElem?_cons_succ] at z0 z1
  clear q0 q1 hz
  go_enter Try.func52, Try.ntmps52
  go_wp2_with fail
  change Code.wp _ _ _ _ ((w.alloc (.cells #[.slice ad n c, .slice bd m d, .string o] 27)).alloc (.cells #[.slice none 0 0, .slice none 0 0, .string ByteArray.empty] 27))
  generalize (w.alloc (.cells #[.slice ad n c, .slice bd m d, .string o] 27)).alloc (.cells #[.slice none 0 0, .slice none 0 0, .string ByteArray.empty] 27) = W0 at *
  have HST : Hid (∀ W, Below W0.heap.size W0 W → W.heap[w.heap.size + 1]? = some (.cells #[.slice none 0 0, .slice none 0 0, .string ByteArray.empty] 27 (0, 0))) := fun W hb => (hb.block _ HZ.out.2).trans HZ.out.1
  have HW0 : Hid (∀ W, Below W0.heap.size W0 W → Below w.heap.size w W) := fun W hb => HB.out.trans (hb.mono HB.out.size)
  go_region_held3 (fun W => W.cell? ⟨w.heap.size, 0, none⟩ = some (.slice ad n c) ∧ W.cell? ⟨w.heap.size, 1, none⟩ = some (.slice bd m d)) (first | exact keepC2 hb3 (by assumption) | exact keepC2 hb2 (by assumption) | exact keepC2 hb1 (by assumption) | go_keep | exact ⟨z0, z1⟩ | assumption)
    ((first
      | (go_at_call 47; refine (CV.out W0.drew (HW0.out _ (Below.refl _ _).drew)).mono ?_; rintro e w1 ⟨u, rfl, hu, hb1⟩; have B1 : Hid (Below W0.heap.size W0 w1) := (Below.refl _ _).drew.trans hb1; have HU : Hid (VrIn W0.heap.size w1.heap.size w1 u vs) := hu; obtain ⟨ua, uc, rfl, -⟩ := hu)
      | (go_at_call 38; refine (CC.out w1 (HW0.out _ B1.out)).mono ?_; rintro e w2 ⟨x, rfl, hx, hb2⟩; have B2 : Hid (Below W0.heap.size W0 w2) := B1.out.trans (hb2.mono B1.out.size); have HX : Hid (ClIn w1.heap.size w2.heap.size w2 x cs) := hx; have HU2 : Hid (VrIn W0.heap.size w1.heap.size w2 (.slice ua vs.length uc) vs) := HU.out.keep (fun b _ hb => hb2.block b hb); obtain ⟨xa, xc, rfl, -⟩ := hx)
      | (go_at_call 39; refine (CP.out _).mono ?_; rintro e w3 ⟨rfl, hb3⟩; have B3 : Hid (Below W0.heap.size W0 w3) := B2.out.trans (hb3.mono B2.out.size); have R3 := HST.out w3 B3.out; have y0 : w3.cell? ⟨w.heap.size + 1, 0, none⟩ = some (.slice none 0 0) := (blk_cell R3 0).trans rfl; have y1 : w3.cell? ⟨w.heap.size + 1, 1, none⟩ = some (.slice none 0 0) := (blk_cell R3 1).trans rfl; have y2 : w3.cell? ⟨w.heap.size + 1, 2, none⟩ = some (.string ByteArray.empty) := (blk_cell R3 2).trans rfl; have f0 := blk_free R3 0; have f1 := blk_free R3 1; have f2 := blk_free R3 2; clear R3)))
  all_goals
    have HU3 : Hid (VrIn W0.heap.size w1.heap.size w3 (.slice ua vs.length uc) vs) := HU2.out.keep (fun b _ hb => hb3.block b (by have := hb2.size; omega))
    have HX3 : Hid (ClIn w1.heap.size w2.heap.size w3 (.slice xa cs.length xc) cs) := HX.out.keep (fun b _ hb => hb3.block b hb)
    have hsz : w.heap.size + 1 < W0.heap.size ∧ W0.heap.size ≤ w1.heap.size ∧ w1.heap.size ≤ w2.heap.size ∧ w2.heap.size ≤ w3.heap.size := ⟨HZ.out.2, B1.out.size, hb2.size, hb3.size⟩
    have HSZ : Hid _ := hsz
    have HRR : Hid _ := HST.out w3 B3.out
    clear hsz hb1 hb2 hb3 HU HX HU2 CV CC CP
    go_wp2_with fail
    refine bodyPost_ret (results_cell_row (p := 4) (ty := 27) rfl _ _ (w.heap.size + 1) 27 _ (0, 0) _ rfl (blk_set (blk_set (blk_set HRR.out 0 _) 1 _) 2 _) Try.underlying27 rfl (by kernel_rfl)) rfl ?_
    have hsz := HSZ.out
    have hk : ∀ b, W0.heap.size ≤ b → (((w3.setCell ⟨w.heap.size + 1, 0, none⟩ (.slice ua vs.length uc)).setCell ⟨w.heap.size + 1, 1, none⟩ (.slice xa cs.length xc)).setCell ⟨w.heap.size + 1, 2, none⟩ (.string p)).heap[b]? = w3.heap[b]? := fun b hb => by
      rw [Below.heap_setCell _ _ _ _ (by show b ≠ w.heap.size + 1; omega), Below.heap_setCell _ _ _ _ (by show b ≠ w.heap.size + 1; omega), Below.heap_setCell _ _ _ _ (by show b ≠ w.heap.size + 1; omega)]
    refine ⟨_, _, rfl, ⟨w1.heap.size, by omega, by simp [World.setCell]; omega, ?_, ?_⟩, ?_⟩
    · exact (HU3.out.keep (fun b hb _ => hk b hb)).wide (by omega) (Nat.le_refl _)
    · exact (HX3.out.keep (fun b hb _ => hk b (by omega))).wide (Nat.le_refl _) (by simp [World.setCell]; omega)
    · exact (((HW0.out _ B3.out).setCell (by show _ ≤ w.heap.size + 1; omega) _).setCell (by show _ ≤ w.heap.size + 1; omega) _).setCell (by show _ ≤ w.heap.size + 1; omega) _

end PartRwD
section PartRtP
namespace St
theorem less_trans : ∀ a b c : List UInt8, Op.bytesLess a b = true → Op.bytesLess b c = true → Op.bytesLess a c = true
  | [], [], _, h, _ => by simp [Op.bytesLess] at h
  | [], _ :: _, [], _, h => by simp [Op.bytesLess] at h
  | [], _ :: _, _ :: _, _, _ => by simp [Op.bytesLess]
  | _ :: _, [], _, h, _ => by simp [Op.bytesLess] at h
  | _ :: _, _ :: _, [], _, h => by simp [Op.bytesLess] at h
  | a :: x, b :: y, c :: z, h1, h2 => by
    unfold Op.bytesLess at h1 h2 ⊢
    have ih := less_trans x y z
    simp only [Bool.or_eq_true, Bool.and_eq_true, decide_eq_true_eq, beq_iff_eq] at h1 h2 ⊢
    rcases h1 with h1 | ⟨rfl, h1⟩
    · rcases h2 with h2 | ⟨rfl, h2⟩
      · exact .inl (by have h3 : a.toNat < b.toNat := h1; have h4 : b.toNat < c.toNat := h2; show a.toNat < c.toNat; omega)
      · exact .inl h1
    · rcases h2 with h2 | ⟨rfl, h2⟩
      · exact .inl h2
      · exact .inr ⟨rfl, ih h1 h2⟩
theorem less_total : ∀ a b : List UInt8, Op.bytesLess a b = false → (a == b) = false → Op.bytesLess b a = true
  | [], [], _, h => by simp at h
  | [], _ :: _, h, _ => by simp [Op.bytesLess] at h
  | _ :: _, [], _, _ => by simp [Op.bytesLess]
  | a :: x, b :: y, h1, h2 => by
    have ih := less_total x y
    unfold Op.bytesLess at h1 ⊢
    by_cases e : a = b
    · subst e
      have h3 : (x == y) = false := by simpa using h2
      have h4 : Op.bytesLess x y = false := by simpa using h1
      simp [ih h4 h3]
    · have h3 : ¬ a.toNat < b.toNat := by
        intro h
        have : decide (a < b) = true := decide_eq_true h
        simp [this] at h1
      have h5 : a.toNat ≠ b.toNat := fun h => e (UInt8.toNat_inj.1 h)
      have h4 : b < a := by show b.toNat < a.toNat; omega
      simp [h4]
theorem lt2_irrefl (a b : ByteArray) : lt2 a b a b = false := by simp [lt2, less_irrefl]
theorem lt2_trans {a0 a1 b0 b1 c0 c1 : ByteArray} (h1 : lt2 a0 a1 b0 b1 = true) (h2 : lt2 b0 b1 c0 c1 = true) : lt2 a0 a1 c0 c1 = true := by
  simp only [lt2, Bool.or_eq_true, Bool.and_eq_true, beq_iff_eq] at h1 h2 ⊢
  rcases h1 with h1 | ⟨e1, h1⟩
  · rcases h2 with h2 | ⟨e2, h2⟩
    · exact .inl (less_trans _ _ _ h1 h2)
    · exact .inl (by rw [← e2]; exact h1)
  · rcases h2 with h2 | ⟨e2, h2⟩
    · exact .inl (by rw [e1]; exact h2)
    · exact .inr ⟨e1.trans e2, less_trans _ _ _ h1 h2⟩
theorem gtV_is (name : ByteArray) (x : Vr) (h : gtV name x = true) : Op.bytesLess name.toList x.name.toList = true := by
  unfold gtV at h
  simp only [Bool.not_eq_true', Bool.or_eq_false_iff] at h
  exact less_total _ _ h.1 h.2

/-- A right store. -/
structure Rt (vs : List Vr) (cs : List Cl) (o : ByteArray) : Prop where
  ascV : vs.Pairwise (fun a b => Op.bytesLess a.name.toList b.name.toList = true)
  ascC : cs.Pairwise (fun a b => lt2 a.name a.key b.name b.key = true)
  goodV : ∀ x ∈ vs, Cd.nm x.name.data.toList = true ∧ x.val.size ≤ 40
  goodC : ∀ x ∈ cs, Cd.nm x.name.data.toList = true ∧ x.key.size ≤ 40 ∧ x.val.size ≤ 40
  fewV : vs.length ≤ 60
  fewC : cs.length ≤ 2000
  out : o.size ≤ 3000
theorem cut_size (s : ByteArray) : (cut s).size ≤ 40 := by
  show (Pv.cut s.data.toList).toArray.size ≤ 40
  simp [Pv.cut]
  omega
theorem two_filters {α : Type} (p q : α → Bool) (h : ∀ x, p x = true → q x = false) (xs : List α) : (xs.filter p).length + (xs.filter q).length ≤ xs.length := by
  induction xs with
  | nil => simp
  | cons a xs ih =>
    cases hp : p a with
    | true =>
      rw [List.filter_cons_of_pos hp, List.filter_cons_of_neg (by rw [h a hp]; simp)]
      simp only [List.length_cons]
      omega
    | false =>
      rw [List.filter_cons_of_neg (by rw [hp]; simp)]
      cases hq : q a with
      | true => rw [List.filter_cons_of_pos hq]; simp only [List.length_cons]; omega
      | false => rw [List.filter_cons_of_neg (by rw [hq]; simp)]; simp only [List.length_cons]; omega
theorem newVars_len (vs : List Vr) (name val : ByteArray) : (newVars vs name val).length ≤ vs.length + 1 := by
  have := two_filters (ltV name) (gtV name) (fun x h => by unfold ltV at h; unfold gtV; rw [h]; rfl) vs
  unfold newVars
  simp only [List.length_append, List.length_cons, List.length_nil]
  omega
theorem lt_not_gt (name key : ByteArray) (x : Cl) (h : ltC name key x = true) : gtC name key x = false := by
  cases hg : gtC name key x with
  | false => rfl
  | true =>
    have := lt2_trans (by exact h) (by exact hg)
    rw [lt2_irrefl] at this
    exact absurd this (by simp)
theorem newCells_len (cs : List Cl) (name key val : ByteArray) : (newCells cs name key val).length ≤ cs.length + 1 := by
  have := two_filters (ltC name key) (gtC name key) (lt_not_gt name key) cs
  unfold newCells
  simp only [List.length_append, List.length_cons, List.length_nil]
  omega
theorem setVars_len (vs : List Vr) (name val : ByteArray) : (setVars vs name val).length ≤ vs.length + 1 := by
  have := newVars_len vs name val
  unfold setVars
  split <;> omega
theorem setCells_len (cs : List Cl) (name key val : ByteArray) : (setCells cs name key val).length ≤ cs.length + 1 := by
  have := newCells_len cs name key val
  unfold setCells
  split <;> omega
theorem newVars_asc {vs : List Vr} (name val : ByteArray) (h : vs.Pairwise (fun a b => Op.bytesLess a.name.toList b.name.toList = true)) : (newVars vs name val).Pairwise (fun a b => Op.bytesLess a.name.toList b.name.toList = true) := by
  unfold newVars
  rw [List.append_assoc, List.pairwise_append]
  refine ⟨h.filter _, ?_, ?_⟩
  · rw [List.singleton_append, List.pairwise_cons]
    exact ⟨fun b hb => gtV_is name b (List.mem_filter.1 hb).2, h.filter _⟩
  · intro a ha b hb
    have h1 : Op.bytesLess a.name.toList name.toList = true := (List.mem_filter.1 ha).2
    rw [List.singleton_append, List.mem_cons] at hb
    rcases hb with rfl | hb
    · exact h1
    · exact less_trans _ _ _ h1 (gtV_is name b (List.mem_filter.1 hb).2)
theorem newCells_asc {cs : List Cl} (name key val : ByteArray) (h : cs.Pairwise (fun a b => lt2 a.name a.key b.name b.key = true)) : (newCells cs name key val).Pairwise (fun a b => lt2 a.name a.key b.name b.key = true) := by
  unfold newCells
  rw [List.append_assoc, List.pairwise_append]
  refine ⟨h.filter _, ?_, ?_⟩
  · rw [List.singleton_append, List.pairwise_cons]
    exact ⟨fun b hb => (List.mem_filter.1 hb).2, h.filter _⟩
  · intro a ha b hb
    have h1 : lt2 a.name a.key name (cut key) = true := (List.mem_filter.1 ha).2
    rw [List.singleton_append, List.mem_cons] at hb
    rcases hb with rfl | hb
    · exact h1
    · exact lt2_trans h1 (List.mem_filter.1 hb).2
theorem newVars_mem {vs : List Vr} {name val : ByteArray} {x : Vr} (h : x ∈ newVars vs name val) : x ∈ vs ∨ x = ⟨name, cut val⟩ := by
  unfold newVars at h
  simp only [List.mem_append, List.mem_filter, List.mem_singleton] at h
  rcases h with (h | h) | h
  · exact .inl h.1
  · exact .inr h
  · exact .inl h.1
theorem newCells_mem {cs : List Cl} {name key val : ByteArray} {x : Cl} (h : x ∈ newCells cs name key val) : x ∈ cs ∨ x = ⟨name, cut key, cut val⟩ := by
  unfold newCells at h
  simp only [List.mem_append, List.mem_filter, List.mem_singleton] at h
  rcases h with (h | h) | h
  · exact .inl h.1
  · exact .inr h
  · exact .inl h.1
theorem Rt.none : Rt [] [] ⟨#[]⟩ := ⟨.nil, .nil, fun _ h => by simp at h, fun _ h => by simp at h, by simp, by simp, Nat.zero_le _⟩
theorem Rt.setV {vs : List Vr} {cs : List Cl} {o : ByteArray} (h : Rt vs cs o) {name : ByteArray} (hn : Cd.nm name.data.toList = true) (val : ByteArray) : Rt (setVars vs name val) cs o := by
  unfold setVars
  split
  · rename_i hl
    refine ⟨newVars_asc name val h.ascV, h.ascC, fun x hx => ?_, h.goodC, hl, h.fewC, h.out⟩
    rcases newVars_mem hx with hx | rfl
    · exact h.goodV x hx
    · exact ⟨hn, cut_size _⟩
  · exact h
theorem Rt.setC {vs : List Vr} {cs : List Cl} {o : ByteArray} (h : Rt vs cs o) {name : ByteArray} (hn : Cd.nm name.data.toList = true) (key val : ByteArray) : Rt vs (setCells cs name key val) o := by
  unfold setCells
  split
  · rename_i hl
    refine ⟨h.ascV, newCells_asc name key val h.ascC, h.goodV, fun x hx => ?_, h.fewV, hl, h.out⟩
    rcases newCells_mem hx with hx | rfl
    · exact h.goodC x hx
    · exact ⟨hn, cut_size _, cut_size _⟩
  · exact h
theorem Rt.outs {vs : List Vr} {cs : List Cl} {o o' : ByteArray} (h : Rt vs cs o) (ho : o'.size ≤ 3000) : Rt vs cs o' := ⟨h.ascV, h.ascC, h.goodV, h.goodC, h.fewV, h.fewC, ho⟩
theorem nm_size {s : ByteArray} (h : Cd.nm s.data.toList = true) : s.size ≤ 8 := by
  unfold Cd.nm at h
  simp at h
  have : s.data.toList.length = s.size := by simp
  omega
theorem Rt.small {vs : List Vr} {cs : List Cl} {o : ByteArray} (h : Rt vs cs o) : StSmall vs cs o := by
  have := h.fewV
  have := h.fewC
  have := h.out
  refine ⟨by omega, fun i hi => ?_, by omega, fun i hi => ?_, by omega⟩
  · have hm : vs.getD i Vr.no ∈ vs := by rw [List.getD_eq_getElem?_getD, List.getElem?_eq_getElem hi]; exact List.getElem_mem _
    obtain ⟨h1, h2⟩ := h.goodV _ hm
    have := nm_size h1
    exact ⟨by omega, by omega⟩
  · have hm : cs.getD i Cl.no ∈ cs := by rw [List.getD_eq_getElem?_getD, List.getElem?_eq_getElem hi]; exact List.getElem_mem _
    obtain ⟨h1, h2, h3⟩ := h.goodC _ hm
    have := nm_size h1
    exact ⟨by omega, by omega, by omega⟩
theorem get_mem {α : Type} (xs : List α) (no : α) (i : Nat) (h : i < xs.length) : xs.getD i no = xs[i] := by simp [h]
/-- Such a store is right. -/
theorem Rt.ok {vs : List Vr} {cs : List Cl} {o : ByteArray} (h : Rt vs cs o) : St.ok vs cs o = true := by
  rw [ok_yes (fun i hi => ⟨?_, ?_⟩) (fun i hi => ⟨?_, ?_⟩)]
  · simp [h.fewV, h.fewC, h.out]
  · obtain ⟨h1, h2⟩ := h.goodV vs[i] (List.getElem_mem _)
    unfold St.goodV
    rw [get_mem vs Vr.no i hi, h1]
    simp [h2]
  · unfold St.ascV St.aheadV
    by_cases e : i = 0
    · simp [e]
    · have := List.pairwise_iff_getElem.1 h.ascV (i - 1) i (by omega) hi (by omega)
      rw [lt2_empty, get_mem vs Vr.no i hi, get_mem vs Vr.no (i - 1) (by omega), this]
      simp
  · obtain ⟨h1, h2, h3⟩ := h.goodC cs[i] (List.getElem_mem _)
    unfold St.goodC
    rw [get_mem cs Cl.no i hi, h1]
    simp [h2, h3]
  · unfold St.ascC St.aheadC
    by_cases e : i = 0
    · simp [e]
    · have := List.pairwise_iff_getElem.1 h.ascC (i - 1) i (by omega) hi (by omega)
      rw [get_mem cs Cl.no i hi, get_mem cs Cl.no (i - 1) (by omega), this]
      simp
end St
/-- A right store of few things. -/
structure Dw (k : Nat) (vs : List Vr) (cs : List Cl) (o : ByteArray) : Prop where
  rt : St.Rt vs cs o
  v : vs.length ≤ k
  c : cs.length ≤ k
  o : o.size ≤ 43 * k
theorem Dw.none : Dw 0 [] [] ⟨#[]⟩ := ⟨St.Rt.none, by simp, by simp, Nat.zero_le _⟩
theorem Dw.up {k m : Nat} {vs : List Vr} {cs : List Cl} {o : ByteArray} (h : Dw k vs cs o) (hk : k ≤ m) : Dw m vs cs o := ⟨h.rt, by have := h.v; omega, by have := h.c; omega, by have := h.o; omega⟩
theorem Dw.setV {k : Nat} {vs : List Vr} {cs : List Cl} {o : ByteArray} (h : Dw k vs cs o) {name : ByteArray} (hn : Cd.nm name.data.toList = true) (val : ByteArray) : Dw (k + 1) (St.setVars vs name val) cs o :=
  ⟨h.rt.setV hn val, by have := St.setVars_len vs name val; have := h.v; omega, by have := h.c; omega, by have := h.o; omega⟩
theorem Dw.setC {k : Nat} {vs : List Vr} {cs : List Cl} {o : ByteArray} (h : Dw k vs cs o) {name : ByteArray} (hn : Cd.nm name.data.toList = true) (key val : ByteArray) : Dw (k + 1) vs (St.setCells cs name key val) o :=
  ⟨h.rt.setC hn key val, by have := h.v; omega, by have := St.setCells_len cs name key val; have := h.c; omega, by have := h.o; omega⟩
end PartRtP
end Go.Proofs.Ytjohhledpjmffaa
