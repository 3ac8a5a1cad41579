/- The places of a set, collected, sorted; the greatest of them. Where a piece may end, by the program: again and again: what is kept meanwhile. -/
import Derived.Test.YtlnmbahakdmkgaaZax
namespace Go.Proofs.Ytlnmbahakdmkgaa
section PartIpH
open Go.RowKit Go.Maps

/-- maps.Keys. -/
theorem keys_run (ob : Option Nat) (w : World) : Calls Try.prog 29 #[.map ob] w fun e w' => e = .returned (.func (.func 50) #[] #[.pointer (some ⟨w.heap.size, 0, none⟩)]) ∧ w' = w.alloc (.cells #[.map ob] 57) :=
  (callsIn_wide (n := 1)).1 (AnyZI.keys_in Try.keysA Fence.wide 1 trivial rfl ob w)
open Classical in
/-- The places of S below N, in their order. -/
noncomputable def upTo (N : Nat) (S : Nat → Prop) : List Nat := (List.range N).filter fun k => decide (S k)
theorem upTo_mem {N : Nat} {S : Nat → Prop} (hN : ∀ k, S k → k < N) (k : Nat) : k ∈ upTo N S ↔ S k := by
  unfold upTo
  rw [List.mem_filter, List.mem_range]
  simp
  exact hN k
theorem upTo_sorted (N : Nat) (S : Nat → Prop) : (upTo N S).Pairwise (· < ·) := by
  unfold upTo
  exact List.Pairwise.filter _ List.pairwise_lt_range
theorem seq_mono {α : Type} {F : Fence} {n : Nat} {P : Program} {g : Nat} {lb : Array Value} {enc : α → Value} {S T : List α → Prop} {N M : Nat} {w : World} (h : SeqGives F n P g lb enc S N w) (hST : ∀ l, S l → T l) (hNM : N ≤ M) : SeqGives F n P g lb enc T M w := by
  intro l J W hW hJ hY h0
  refine (h l J W hW hJ (fun pre x W1 hj hl => hY pre x W1 hj (by omega)) h0).mono ?_
  rintro e W' ⟨h1, xs, h2, h3⟩
  exact ⟨h1, xs, hST xs h2, h3⟩
/-- What the iterator gives. -/
theorem seq_os {w : World} {B Bm N : Nat} {ob : Option Nat} {S : Nat → Prop} (m : Nat) (hm : 1 ≤ m) (h : OS w B ob S) (hBm : Bm < w.heap.size) (hc : w.cell? ⟨Bm, 0, none⟩ = some (.map ob)) (hN : ∀ k, S k → k < N) :
    SeqGives Fence.wide m Try.prog 50 #[.pointer (some ⟨Bm, 0, none⟩)] encZ (fun ss => ss.Perm ((upTo N S).map fun k : Nat => (k : Int))) N w := by
  rcases h with ⟨rfl, hno⟩ | ⟨b, rfl, _, D, hD1, hD2⟩
  · have h1 : SeqGives Fence.wide m Try.prog 50 #[.pointer (some ⟨Bm, 0, none⟩)] encZ (fun ss : List Int => ss = []) 0 w := AnyZI.keys_gives_nil (ρ := Try.keysA_ren) { Try.keysA with } Fence.wide m trivial rfl Bm w hBm hc
    refine seq_mono h1 (fun l hl => ?_) (Nat.zero_le _)
    subst hl
    have e : upTo N S = [] := List.eq_nil_iff_forall_not_mem.2 fun k hk => hno k ((upTo_mem hN k).1 hk)
    rw [e]
    exact List.Perm.refl _
  · have h1 : SeqGives Fence.wide m Try.prog 50 #[.pointer (some ⟨Bm, 0, none⟩)] encZ (fun ss => ss.Perm (intKeys D)) (Maps.size D) w := AnyZI.keys_gives (ρ := Try.keysA_ren) { Try.keysA with } Fence.wide m trivial rfl hm Bm b _ D w hBm hc hD1
    refine seq_mono h1 (fun l hl => hl.trans ?_) (ES.size hD1 hD2 N hN)
    exact (ES.keys hD1 hD2 N hN).symm
theorem sort_perm {ss l : List Int} (h : ss.Perm l) (hl : l.Pairwise (· ≤ ·)) : ss.mergeSort leI = l := by
  have tr : ∀ a b c : Int, leI a b = true → leI b c = true → leI a c = true := fun a b c h1 h2 => by simp only [leI, decide_eq_true_eq] at *; exact Int.le_trans h1 h2
  have to : ∀ a b : Int, (leI a b || leI b a) = true := fun a b => by simp only [leI, Bool.or_eq_true, decide_eq_true_eq]; exact Int.le_total a b
  refine List.Perm.eq_of_pairwise (le := fun a b => leI a b = true) (fun a b _ _ h1 h2 => ?_) (List.pairwise_mergeSort tr to ss) (hl.imp fun {a b} hab => by simpa [leI] using hab) ((List.mergeSort_perm ss leI).trans h)
  simp only [leI, decide_eq_true_eq] at h1 h2
  exact Int.le_antisymm h1 h2

/-- slices.Collect(maps.Keys(..)): the places of the set, each once, in whatever order. -/
theorem collect_os {w : World} {B Bm N : Nat} {ob : Option Nat} {S : Nat → Prop} (h : OS w B ob S) (hBm : Bm < w.heap.size) (hc : w.cell? ⟨Bm, 0, none⟩ = some (.map ob)) (hN : ∀ k, S k → k < N) (hN2 : N ≤ 2000000) :
    Calls Try.prog 28 #[.func (.func 50) #[] #[.pointer (some ⟨Bm, 0, none⟩)]] w fun e w' => ∃ v ns, e = .returned v ∧ ns.Perm (upTo N S) ∧ Ws w.heap.size w' v ns ∧ Below w.heap.size w w' := by
  refine ((callsIn_wide (n := 4)).1 (AnyZI.collect_in Try.collectA Fence.wide 4 trivial trivial rfl (by omega) 50 #[.pointer (some ⟨Bm, 0, none⟩)] trivial (enters_of Try.func50 (by kernel_rfl) rfl) _ N (by unfold maxLen; omega) (by omega) w (seq_os 2 (by omega) h hBm hc hN))).mono ?_
  rintro e w' ⟨v, ss, rfl, hp, hrow, _, hb⟩
  have hp2 : (ss.map Int.toNat).Perm (upTo N S) := by
    have := hp.map Int.toNat
    rw [List.map_map] at this
    have e : ((Int.toNat ∘ fun k : Nat => (k : Int)) : Nat → Nat) = id := by funext k; simp
    rw [e, List.map_id] at this
    exact this
  have hss : ss = (ss.map Int.toNat).map (fun k : Nat => (k : Int)) := by
    rw [List.map_map]
    have h1 : ss.map ((fun k : Nat => (k : Int)) ∘ Int.toNat) = ss.map id := List.map_congr_left fun x hx => by
      obtain ⟨k, _, rfl⟩ := List.mem_map.1 (hp.mem_iff.1 hx)
      simp
    rw [h1, List.map_id]
  refine ⟨v, ss.map Int.toNat, rfl, hp2, ?_, hb⟩
  unfold Ws
  rw [List.length_map]
  have e : (ss.map Int.toNat).map (fun n : Nat => iv n) = ss.map encZ := by
    conv => rhs; rw [hss]
    rw [List.map_map (f := fun k : Nat => (k : Int))]
    rfl
  rw [e]
  exact hrow

/-- slices.Sorted(maps.Keys(..)): the places of the set, in their order. -/
theorem sorted_os {w : World} {B Bm N : Nat} {ob : Option Nat} {S : Nat → Prop} (h : OS w B ob S) (hBm : Bm < w.heap.size) (hc : w.cell? ⟨Bm, 0, none⟩ = some (.map ob)) (hN : ∀ k, S k → k < N) (hN2 : N ≤ 2000000) :
    Calls Try.prog 58 #[.func (.func 50) #[] #[.pointer (some ⟨Bm, 0, none⟩)]] w fun e w' => ∃ v, e = .returned v ∧ Ws w.heap.size w' v (upTo N S) ∧ Below w.heap.size w w' := by
  have hsort : AnyZI.SortsIn Try.prog Try.sortedA_ren Fence.wide 4 := ⟨fun blk off cap ss W hH hblk hsz => callsIn_wide.2 (AnyM.slices_Sort_int Try.sortA blk off cap ss W hH hblk hsz), fun p cap W => callsIn_wide.2 (AnyM.slices_Sort_int_none Try.sortA p cap W)⟩
  refine ((callsIn_wide (n := 5)).1 (AnyZI.sorted_in Try.sortedA Fence.wide 5 trivial trivial trivial trivial rfl (by omega) hsort (enters_of Try.func77 (by kernel_rfl) rfl) 50 #[.pointer (some ⟨Bm, 0, none⟩)] trivial (enters_of Try.func50 (by kernel_rfl) rfl) _ N (by unfold maxLen; omega) (by omega) w (seq_os 2 (by omega) h hBm hc hN))).mono ?_
  rintro e w' ⟨v, ss, rfl, hp, hrow, _, hb⟩
  refine ⟨v, rfl, ?_, hb⟩
  have hl : ((upTo N S).map fun k : Nat => (k : Int)).Pairwise (· ≤ ·) := List.pairwise_map.2 ((upTo_sorted N S).imp fun {a b} hab => by omega)
  have e1 : (ss.mergeSort fun x y => decide (x ≤ y)) = (upTo N S).map fun k : Nat => (k : Int) := sort_perm hp hl
  rw [e1] at hrow
  have e2 : ss.length = (upTo N S).length := by rw [hp.length_eq, List.length_map]
  rw [e2, List.map_map] at hrow
  exact hrow
theorem fold_max (M : Int) : ∀ (l : List Int) (a : Int), (∀ x, x ∈ l → x ≤ M) → a ≤ M → (M = a ∨ M ∈ l) → l.foldl max a = M := by
  intro l
  induction l with
  | nil =>
    intro a _ _ h
    rcases h with h | h
    · exact h.symm
    · cases h
  | cons x r ih =>
    intro a h1 h2 h3
    have hx := h1 x (by simp)
    rw [List.foldl_cons]
    refine ih (max a x) (fun y hy => h1 y (by simp [hy])) (by omega) ?_
    rcases h3 with h3 | h3
    · left; omega
    · rcases List.mem_cons.1 h3 with h3 | h3
      · left; omega
      · right; exact h3
/-- slices.Max. -/
theorem max_run (g n cap : Nat) (ns : List Nat) (w : World) (hn : n = ns.length) (h0 : 0 < n) (hn2 : n ≤ 2000000) (hc : ∀ j, j < n → w.cell? ⟨g, j, none⟩ = some (.int .i64 ((ns.getD j 0 : Nat) : Int))) (m : Nat) (hm : m ∈ ns) (hmax : ∀ x, x ∈ ns → x ≤ m) :
    Calls Try.prog 27 #[.slice (some ⟨g, 0, none⟩) n cap] w fun e w' => e = .returned (.int .i64 (m : Int)) ∧ w' = w := by
  have h := AnyG.slices_Max_int Try.maxA g 0 n cap (ns.map fun k : Nat => (k : Int)) w h0 (by simp [hn]) (by omega) (fun j hj => by
    have hj2 : j < ns.length := by simpa using hj
    rw [Nat.zero_add, hc j (by omega)]
    simp [hj2])
  refine h.mono ?_
  rintro e w' ⟨rfl, rfl⟩
  refine ⟨?_, rfl⟩
  have e1 : (ns.map fun k : Nat => (k : Int)).take n = ns.map fun k : Nat => (k : Int) := List.take_of_length_le (by simp [hn])
  rw [e1]
  have e2 : Lib.maxOf (ns.map fun k : Nat => (k : Int)) = (m : Int) := by
    unfold Lib.maxOf
    match ns, hm with
    | x :: r, hm =>
      refine fold_max _ _ _ (fun y hy => ?_) ?_ ?_
      · obtain ⟨k, hk, rfl⟩ := List.mem_map.1 hy
        have := hmax k hk
        omega
      · have := hmax x (by simp)
        simp
        omega
      · exact .inr (List.mem_map.2 ⟨m, hm, rfl⟩)
  rw [e2]
end PartIpH
section PartIpI
open Go.RowKit Go.Maps
namespace En
/-- What is found from the places of S0 on, while the ends of v are gone through; those of 'done' are. -/
structure Wv (ps : List Pi) (s : ByteArray) (k : Nat) (S0 S : Nat → Prop) (ws : List Nat) (v : Nat) (done : Nat → Prop) : Prop where
  beg : ∀ j, S0 j → S j
  todo : ∀ x, x ∈ ws → S x
  back : ∀ e, S e → ∃ j, S0 j ∧ Reach ps s k j e
  fwd : ∀ x, S x → x ∉ ws → x ≠ v → ∀ e, Ends ps s k x e → S e
  vd : ∀ e, done e → Ends ps s k v e → S e
  sv : S v
structure Wo (ps : List Pi) (s : ByteArray) (k : Nat) (S0 S : Nat → Prop) (ws : List Nat) : Prop where
  beg : ∀ j, S0 j → S j
  todo : ∀ x, x ∈ ws → S x
  back : ∀ e, S e → ∃ j, S0 j ∧ Reach ps s k j e
  fwd : ∀ x, S x → x ∉ ws → ∀ e, Ends ps s k x e → S e
section
variable {ps : List Pi} {s : ByteArray} {k : Nat} {S0 S : Nat → Prop} {ws : List Nat} {v : Nat} {done : Nat → Prop}
theorem Wo.pop (h : Wo ps s k S0 S (ws ++ [v])) : Wv ps s k S0 S ws v (fun _ => False) :=
  ⟨h.beg, fun x hx => h.todo x (by simp [hx]), h.back, fun x h1 h2 h3 => h.fwd x h1 (by simp [h2, h3]), fun _ h => h.elim, h.todo v (by simp)⟩
theorem Wv.old (h : Wv ps s k S0 S ws v done) (e : Nat) (he : S e) : Wv ps s k S0 S ws v (fun x => done x ∨ x = e) :=
  ⟨h.beg, h.todo, h.back, h.fwd, fun x hx hx2 => by
    rcases hx with hx | rfl
    · exact h.vd x hx hx2
    · exact he, h.sv⟩
theorem Wv.new (h : Wv ps s k S0 S ws v done) (e : Nat) (he : Ends ps s k v e) : Wv ps s k S0 (fun x => S x ∨ x = e) (ws ++ [e]) v (fun x => done x ∨ x = e) := by
  refine ⟨fun j hj => .inl (h.beg j hj), fun x hx => ?_, fun x hx => ?_, fun x hx h2 h3 e' he' => ?_, fun x hx hx2 => ?_, .inl h.sv⟩
  · rw [List.mem_append, List.mem_singleton] at hx
    rcases hx with hx | hx
    · exact .inl (h.todo x hx)
    · exact .inr hx
  · rcases hx with hx | rfl
    · exact h.back x hx
    · obtain ⟨j, h1, h2⟩ := h.back v h.sv
      exact ⟨j, h1, .step h2 he⟩
  · rw [List.mem_append, List.mem_singleton] at h2
    rcases hx with hx | rfl
    · exact .inl (h.fwd x hx (fun hh => h2 (.inl hh)) h3 e' he')
    · exact absurd (.inr rfl) h2
  · rcases hx with hx | rfl
    · exact .inl (h.vd x hx hx2)
    · exact .inr rfl
theorem Wv.fin (h : Wv ps s k S0 S ws v done) (hd : ∀ e, Ends ps s k v e → done e) : Wo ps s k S0 S ws :=
  ⟨h.beg, h.todo, h.back, fun x h1 h2 e he => by
    by_cases hx : x = v
    · subst hx; exact h.vd e (hd e he) he
    · exact h.fwd x h1 h2 hx e he⟩
theorem Wo.fin (h : Wo ps s k S0 S []) (e : Nat) : S e ↔ ∃ j, S0 j ∧ Reach ps s k j e := by
  refine ⟨h.back e, ?_⟩
  rintro ⟨j, h1, h2⟩
  induction h2 with
  | here => exact h.beg _ h1
  | step _ h3 ih => exact h.fwd _ ih (by simp) _ h3
end
end En
open Classical in
/-- How many places are not found yet. -/
noncomputable def Unf (n : Nat) (S : Nat → Prop) : Nat := Uns n (fun j => decide (S j))
theorem Unf.add {n e : Nat} {S : Nat → Prop} (he : e < n) (hn : ¬ S e) : Unf n (fun x => S x ∨ x = e) + 1 = Unf n S := by
  have h := unseen_set (f := fun j => @decide (S j) (Classical.propDecidable _)) he (by simpa using hn)
  have e1 : Unf n (fun x => S x ∨ x = e) = ((List.range n).filter fun t => !(if t = e then true else @decide (S t) (Classical.propDecidable _))).length := by
    unfold Unf Uns
    refine congrArg List.length (List.filter_congr fun j _ => ?_)
    by_cases hj : j = e
    · simp [hj]
    · simp [hj]
  rw [e1]
  exact h
/-- How many places block b's set holds. -/
def setSize (w : World) (b : Nat) : Nat := match w.heap[b]? with | some (.map es _) => es.size | _ => 0
theorem filter_both (p : Nat → Bool) (l : List Nat) : (l.filter p).length + (l.filter fun x => !p x).length = l.length := by
  induction l with
  | nil => rfl
  | cons x r ih =>
    by_cases h : p x = true
    · simp [h]; omega
    · simp [h]; omega
theorem Unf.size {w : World} {b n : Nat} {S : Nat → Prop} (h : ES w b S) (hn : ∀ k, S k → k < n) : n - setSize w b = Unf n S := by
  obtain ⟨D, h1, h2⟩ := h
  have h3 := (ES.keys h1 h2 n hn).length_eq
  rw [keys_len h1.isMap, List.length_map] at h3
  have h4 : setSize w b = Maps.size D := by
    obtain ⟨es, clock, hb, _, _, hD⟩ := h1
    unfold setSize
    rw [hb, hD]
    simp [Maps.size, length_sorted]
  have h5 := filter_both (fun k => @decide (S k) (Classical.propDecidable _)) (List.range n)
  rw [List.length_range] at h5
  rw [h4, ← h3]
  show n - _ = ((List.range n).filter fun j => !@decide (S j) (Classical.propDecidable _)).length
  omega
end PartIpI
end Go.Proofs.Ytlnmbahakdmkgaa
