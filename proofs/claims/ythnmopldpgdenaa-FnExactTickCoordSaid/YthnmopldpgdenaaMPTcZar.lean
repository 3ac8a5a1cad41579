/- Rows of texts and of instructions in blocks that are known; a whole row behind nothing. The law's marks over a store. -/
import Derived.Test.YthnmopldpgdenaaMPTcZae
import Derived.Test.YthnmopldpgdenaaMPTcZao
import Derived.Test.YthnmopldpgdenaaMPTcZap
import Derived.Test.YthnmopldpgdenaaMPTcZaq
import Derived.Test.YthnmopldpgdenaaMPTcZal
namespace Go.Proofs.Ythnmopldpgdenaa
section PartKdB
open Go.RowKit

/-- The slice v leads to the texts ts, in a block of lo .. hi that may be written. -/
def TxIn (lo hi : Nat) (w : World) (v : Value) (ts : List ByteArray) : Prop := ∃ ad cap, v = .slice ad ts.length cap ∧ (0 < ts.length → ∃ (g : Nat) (arr : Array Value), ad = some ⟨g, 0, none⟩ ∧ lo ≤ g ∧ g < hi ∧ w.heap[g]? = some (.cells arr 9 (0, 0)) ∧ ∀ i, i < ts.length → arr[i]? = some (.string (ts.getD i ByteArray.empty)))
theorem TxIn.at {lo hi : Nat} {w : World} {v : Value} {ts : List ByteArray} (h : TxIn lo hi w v ts) : TsAt w v ts := by
  obtain ⟨ad, cap, rfl, f⟩ := h
  refine ⟨ad, cap, rfl, fun h0 => ?_⟩
  obtain ⟨g, arr, rfl, -, -, ha, hc⟩ := f h0
  refine ⟨g, 0, rfl, blk_lt ha, fun i hi => ?_⟩
  rw [Nat.zero_add]
  exact (blk_cell ha _).trans (hc i hi)
theorem TxIn.keep {lo hi : Nat} {w w' : World} {v : Value} {ts : List ByteArray} (h : TxIn lo hi w v ts) (hk : ∀ b, lo ≤ b → b < hi → w'.heap[b]? = w.heap[b]?) : TxIn lo hi w' v ts := by
  obtain ⟨ad, cap, rfl, f⟩ := h
  refine ⟨ad, cap, rfl, fun h0 => ?_⟩
  obtain ⟨g, arr, rfl, h1, h2, ha, hc⟩ := f h0
  exact ⟨g, arr, rfl, h1, h2, (hk g h1 h2).trans ha, hc⟩
theorem TxIn.wide {lo hi lo' hi' : Nat} {w : World} {v : Value} {ts : List ByteArray} (h : TxIn lo hi w v ts) (h1 : lo' ≤ lo) (h2 : hi ≤ hi') : TxIn lo' hi' w v ts := by
  obtain ⟨ad, cap, rfl, f⟩ := h
  refine ⟨ad, cap, rfl, fun h0 => ?_⟩
  obtain ⟨g, arr, rfl, e1, e2, ha, hc⟩ := f h0
  exact ⟨g, arr, rfl, by omega, by omega, ha, hc⟩
theorem TsBlk.in {lo hi q : Nat} {w : World} {ts : List ByteArray} (h : TsBlk w q ts) (h1 : lo ≤ q) (h2 : q < hi) (c : Nat) : TxIn lo hi w (.slice (some ⟨q, 0, none⟩) ts.length c) ts :=
  ⟨_, c, rfl, fun _ => ⟨q, _, rfl, h1, h2, h, fun i hi => by simp [hi, tsv]⟩⟩
theorem TxRow.in {B : Nat} {w : World} {v : Value} {ts : List ByteArray} (h : TxRow B w v ts) : TxIn B w.heap.size w v ts := by
  rcases h.2 with ⟨rfl, hn⟩ | ⟨g, cap, cur, rfl, h1, hg, hc1, hc2, hc3, hc4⟩
  · exact ⟨none, 0, by rw [hn], fun h0 => by omega⟩
  · refine ⟨_, cap, rfl, fun _ => ⟨g, cur, rfl, h1, blk_lt hg, hg, fun i hi => ?_⟩⟩
    have := World.ownsRow.cellAt h i (by omega)
    rw [blk_cell hg] at this
    rw [this]
    simp [hi, tsv]
/-- The slice v leads to the instructions xs, in a block of lo .. hi that may be written. -/
def InIn (lo hi : Nat) (w : World) (v : Value) (xs : List Ins) : Prop := ∃ ad cap, v = .slice ad xs.length cap ∧ (0 < xs.length → ∃ (g : Nat) (arr : Array Value), ad = some ⟨g, 0, none⟩ ∧ lo ≤ g ∧ g < hi ∧ w.heap[g]? = some (.cells arr 83 (0, 0)) ∧ ∀ i, i < xs.length → arr[i * 2]? = some (.int .i64 (xs.getD i Ins.no).op) ∧ arr[i * 2 + 1]? = some (.int .i64 (xs.getD i Ins.no).arg))
theorem InIn.at {lo hi : Nat} {w : World} {v : Value} {xs : List Ins} (h : InIn lo hi w v xs) : InsAt w v xs := by
  obtain ⟨ad, cap, rfl, f⟩ := h
  refine ⟨ad, cap, rfl, fun h0 => ?_⟩
  obtain ⟨g, arr, rfl, -, -, ha, hc⟩ := f h0
  refine ⟨g, 0, rfl, blk_lt ha, fun i hi => ?_⟩
  rw [Nat.zero_add]
  exact ⟨(blk_cell ha _).trans (hc i hi).1, (blk_cell ha _).trans (hc i hi).2⟩
theorem InIn.keep {lo hi : Nat} {w w' : World} {v : Value} {xs : List Ins} (h : InIn lo hi w v xs) (hk : ∀ b, lo ≤ b → b < hi → w'.heap[b]? = w.heap[b]?) : InIn lo hi w' v xs := by
  obtain ⟨ad, cap, rfl, f⟩ := h
  refine ⟨ad, cap, rfl, fun h0 => ?_⟩
  obtain ⟨g, arr, rfl, h1, h2, ha, hc⟩ := f h0
  exact ⟨g, arr, rfl, h1, h2, (hk g h1 h2).trans ha, hc⟩
theorem InIn.wide {lo hi lo' hi' : Nat} {w : World} {v : Value} {xs : List Ins} (h : InIn lo hi w v xs) (h1 : lo' ≤ lo) (h2 : hi ≤ hi') : InIn lo' hi' w v xs := by
  obtain ⟨ad, cap, rfl, f⟩ := h
  refine ⟨ad, cap, rfl, fun h0 => ?_⟩
  obtain ⟨g, arr, rfl, e1, e2, ha, hc⟩ := f h0
  exact ⟨g, arr, rfl, by omega, by omega, ha, hc⟩
theorem InsCopy.in {w : World} {g lo hi : Nat} {xs : List Ins} (h : InsCopy w g xs.length xs xs.length) (h1 : lo ≤ g) (h2 : g < hi) (c : Nat) : InIn lo hi w (.slice (some ⟨g, 0, none⟩) xs.length c) xs := by
  obtain ⟨⟨arr, ha, hs⟩, hQ⟩ := h
  refine ⟨_, c, rfl, fun _ => ⟨g, arr, rfl, h1, h2, ha, fun i hi => ?_⟩⟩
  have := hQ i hi
  rw [blk_cell ha, blk_cell ha] at this
  exact this

def cellsIn (xs : List Ins) : List Value := xs.flatMap fun x => [.int .i64 x.op, .int .i64 x.arg]
theorem cellsIn_len (xs : List Ins) : (cellsIn xs).length = xs.length * 2 := by
  induction xs with
  | nil => rfl
  | cons x xs ih =>
    have e : cellsIn (x :: xs) = .int .i64 x.op :: .int .i64 x.arg :: cellsIn xs := rfl
    rw [e, List.length_cons, List.length_cons, ih, List.length_cons]
    omega
theorem cellsIn_get (xs : List Ins) (i : Nat) (hi : i < xs.length) : (cellsIn xs)[i * 2]? = some (.int .i64 (xs.getD i Ins.no).op) ∧ (cellsIn xs)[i * 2 + 1]? = some (.int .i64 (xs.getD i Ins.no).arg) := by
  induction xs generalizing i with
  | nil => simp at hi
  | cons x xs ih =>
    have e : cellsIn (x :: xs) = .int .i64 x.op :: .int .i64 x.arg :: cellsIn xs := rfl
    cases i with
    | zero => rw [e]; exact ⟨rfl, rfl⟩
    | succ i =>
      have := ih i (by simpa using hi)
      rw [e, show (i + 1) * 2 = i * 2 + 1 + 1 by omega]
      simp only [List.getElem?_cons_succ, List.getD_cons_succ]
      exact this
theorem cellsIn_one (xs : List Ins) : ∀ u ∈ cellsIn xs, u.oneCell' = true := by
  intro u hu
  unfold cellsIn at hu
  obtain ⟨x, _, h⟩ := List.mem_flatMap.1 hu
  simp at h
  rcases h with rfl | rfl <;> rfl
theorem InsAt.news {w : World} {b o : Nat} {xs : List Ins} (hc : ∀ i, i < xs.length → w.cell? ⟨b, o + i * 2, none⟩ = some (.int .i64 (xs.getD i Ins.no).op) ∧ w.cell? ⟨b, o + i * 2 + 1, none⟩ = some (.int .i64 (xs.getD i Ins.no).arg)) : ∀ j u, (cellsIn xs)[j]? = some u → w.cell? ((⟨b, o, none⟩ : Addr).add j) = some u := by
  intro j u hu
  have hj : j < xs.length * 2 := by
    have := (List.getElem?_eq_some_iff.1 hu).1
    rwa [cellsIn_len] at this
  have hadd : (⟨b, o, none⟩ : Addr).add j = ⟨b, o + j, none⟩ := by unfold Addr.add; split <;> simp_all
  rw [hadd]
  have hi : j / 2 < xs.length := Nat.div_lt_of_lt_mul (by omega)
  obtain ⟨g0, g1⟩ := cellsIn_get xs (j / 2) hi
  obtain ⟨k0, k1⟩ := hc (j / 2) hi
  have hm : j = j / 2 * 2 ∨ j = j / 2 * 2 + 1 := by omega
  rcases hm with hm | hm
  · rw [hm, g0] at hu
    rw [hm, ← hu]
    first | exact k0 | (rw [← Nat.add_assoc]; exact k0)
  · rw [hm, g1] at hu
    rw [hm, ← hu]
    first | exact k1 | (rw [← Nat.add_assoc]; exact k1)
/-- The row of the instructions xs, in memory of its own from block B on. -/
def InRow (B : Nat) (w : World) (v : Value) (xs : List Ins) : Prop := w.ownsRow B 83 2 v xs.length (cellsIn xs)
theorem InRow.in {B : Nat} {w : World} {v : Value} {xs : List Ins} (h : InRow B w v xs) : InIn B w.heap.size w v xs := by
  rcases h.2 with ⟨rfl, hn⟩ | ⟨g, cap, cur, rfl, h1, hg, hc1, hc2, hc3, hc4⟩
  · exact ⟨none, 0, by rw [hn], fun h0 => by omega⟩
  · refine ⟨_, cap, rfl, fun _ => ⟨g, cur, rfl, h1, blk_lt hg, hg, fun i hi => ?_⟩⟩
    obtain ⟨g0, g1⟩ := cellsIn_get xs i hi
    have t0 := World.ownsRow.cellAt h (i * 2) (by omega)
    have t1 := World.ownsRow.cellAt h (i * 2 + 1) (by omega)
    rw [blk_cell hg] at t0 t1
    exact ⟨t0.trans g0, t1.trans g1⟩

theorem InRow.appAll {ops : Array Oper} {rest : List Oper} {o : Oper} {a : Act} {Q : Exit → Act → World → Prop} {B : Nat} {W : World} {x : Value} {xs : List Ins} (hgd : o.guard = none) (s y : Operand)
    (ho : o.op = .call { callee := .builtin .append, args := #[s, y], argTypes := #[34, 34] })
    (hB : B ≤ W.heap.size) (H : Nat) (hH : W.heap.size = H) (hs : a.eval s = .slice (some ⟨H, 0, none⟩) 0 0) (hx : a.eval y = x) (hat : InsAt W x xs) (hl : xs.length ≤ 1048576)
    (h : ∀ ua uc w', InRow B w' (.slice ua xs.length uc) xs → Below W.heap.size W w' → wpList Try.prog ops Q rest (a.put o.dst (.slice ua xs.length uc)) w') :
    wpList Try.prog ops Q (o :: rest) a (W.alloc (.cells #[] 83)) := by
  subst hH
  obtain ⟨i0, hi, hz0, hz1, hz2⟩ := info_parts Try.infoIns
  have hg := heap_alloc_new W (.cells #[] 83)
  have hlt := blk_lt hg
  have hown : InRow B (W.alloc (.cells #[] 83)) (.slice (some ⟨W.heap.size, 0, none⟩) 0 0) [] := ⟨rfl, .inr ⟨W.heap.size, 0, #[], rfl, hB, hg, Nat.le_refl _, by decide, rfl, rfl⟩⟩
  have hb0 : Below W.heap.size W (W.alloc (.cells #[] 83)) := (Below.refl _ _).alloc (Nat.le_refl _) _
  have hat1 := hat.keep hb0
  obtain ⟨ad, c, rfl, f⟩ := hat1
  by_cases h0 : xs.length = 0
  · have hnil : xs = [] := List.length_eq_zero_iff.1 h0
    subst hnil
    have hw : Region.wanted o (yielded ops a.tmps) = true := by simp [Region.wanted, hgd]
    have hsrc : Src Try.prog i0.size 34 (.slice ad 0 c) 0 [] (W.alloc (.cells #[] 83)) := by
      cases ad with
      | none => exact Src.ofNil _ Try.underlying34 c
      | some p => exact Src.ofSlice _ Try.underlying34 p 0 c [] (by simp) (fun j u hu => by simp at hu) (fun u hu => by cases hu)
    have hr := run_append_nothing (P := Try.prog) (W.alloc (.cells #[] 83)) 34 34 o.type 83 i0 Try.underlying34 hi (some ⟨W.heap.size, 0, none⟩) 0 0 (Nat.le_refl _) (.slice ad 0 c) hsrc
    unfold wpList
    rw [if_pos hw]
    refine .inl ?_
    unfold Oper.wp execOp
    have hx' : a.eval y = .slice ad 0 c := hx
    simp only [ho, resolve, invoke, builtin, Sem.run_bind, Sem.run_pure, Result.andThen_ok, List.map_toArray, List.map_cons, List.map_nil, hs, hx', hr]
    exact h (some ⟨W.heap.size, 0, none⟩) 0 _ hown hb0
  · obtain ⟨b, of, rfl, hb, hc⟩ := f (by omega)
    refine wpList_append_lies _ hgd s y 34 ho B 83 i0 (.agg #[.int .i64 0, .int .i64 0]) 2 16 Try.underlying34 hi hz0 hz1 hz2 rfl (by decide) (.slice (some ⟨W.heap.size, 0, none⟩) 0 0) 0 [] hs hown ⟨b, of, none⟩ xs.length c (cellsIn xs) hx (cellsIn_len xs)
      (InsAt.news hc) (cellsIn_one xs) (by omega) (by unfold maxLen; omega) (by omega) (by simp; omega) _ rfl ?_
    intro q cap w' h2 h3 h4 h5
    rw [Nat.zero_add] at h2 ⊢
    refine h (some ⟨q, 0, none⟩) cap w' ?_ (hb0.grown h3 (by simp) (fun k hk => by simp [Value.ownBlock] at hk; omega))
    unfold InRow
    simpa using h2

theorem tsv_oneK (ts : List ByteArray) : ∀ u ∈ ts.map tsv, u.oneCell' = true := by
  intro u hu
  obtain ⟨x, _, rfl⟩ := List.mem_map.1 hu
  rfl
theorem TsAt.news {w : World} {b o : Nat} {ts : List ByteArray} (hc : ∀ i, i < ts.length → w.cell? ⟨b, o + i, none⟩ = some (.string (ts.getD i ByteArray.empty))) : ∀ j u, (ts.map tsv)[j]? = some u → w.cell? ((⟨b, o, none⟩ : Addr).add j) = some u := by
  intro j u hu
  have hj : j < ts.length := by simpa using (List.getElem?_eq_some_iff.1 hu).1
  have hadd : (⟨b, o, none⟩ : Addr).add j = ⟨b, o + j, none⟩ := by unfold Addr.add; split <;> simp_all
  rw [hadd, hc j hj]
  simp [hj, tsv] at hu ⊢
  exact hu
theorem TxRow.appAll {ops : Array Oper} {rest : List Oper} {o : Oper} {a : Act} {Q : Exit → Act → World → Prop} {B : Nat} {W : World} {x : Value} {xs : List ByteArray} (hgd : o.guard = none) (s y : Operand)
    (ho : o.op = .call { callee := .builtin .append, args := #[s, y], argTypes := #[22, 22] })
    (hB : B ≤ W.heap.size) (H : Nat) (hH : W.heap.size = H) (hs : a.eval s = .slice (some ⟨H, 0, none⟩) 0 0) (hx : a.eval y = x) (hat : TsAt W x xs) (hl : xs.length ≤ 1048576)
    (h : ∀ ua uc w', TxRow B w' (.slice ua xs.length uc) xs → Below W.heap.size W w' → wpList Try.prog ops Q rest (a.put o.dst (.slice ua xs.length uc)) w') :
    wpList Try.prog ops Q (o :: rest) a (W.alloc (.cells #[] 9)) := by
  subst hH
  obtain ⟨i0, hi, hz0, hz1, hz2⟩ := info_parts Try.infoTs
  have hg := heap_alloc_new W (.cells #[] 9)
  have hlt := blk_lt hg
  have hown : TxRow B (W.alloc (.cells #[] 9)) (.slice (some ⟨W.heap.size, 0, none⟩) 0 0) [] := ⟨rfl, .inr ⟨W.heap.size, 0, #[], rfl, hB, hg, Nat.le_refl _, by decide, rfl, rfl⟩⟩
  have hb0 : Below W.heap.size W (W.alloc (.cells #[] 9)) := (Below.refl _ _).alloc (Nat.le_refl _) _
  have hat1 := hat.keep hb0
  obtain ⟨ad, c, rfl, f⟩ := hat1
  by_cases h0 : xs.length = 0
  · have hnil : xs = [] := List.length_eq_zero_iff.1 h0
    subst hnil
    have hw : Region.wanted o (yielded ops a.tmps) = true := by simp [Region.wanted, hgd]
    have hsrc : Src Try.prog i0.size 22 (.slice ad 0 c) 0 [] (W.alloc (.cells #[] 9)) := by
      cases ad with
      | none => exact Src.ofNil _ Try.underlying22 c
      | some p => exact Src.ofSlice _ Try.underlying22 p 0 c [] (by simp) (fun j u hu => by simp at hu) (fun u hu => by cases hu)
    have hr := run_append_nothing (P := Try.prog) (W.alloc (.cells #[] 9)) 22 22 o.type 9 i0 Try.underlying22 hi (some ⟨W.heap.size, 0, none⟩) 0 0 (Nat.le_refl _) (.slice ad 0 c) hsrc
    unfold wpList
    rw [if_pos hw]
    refine .inl ?_
    unfold Oper.wp execOp
    have hx' : a.eval y = .slice ad 0 c := hx
    simp only [ho, resolve, invoke, builtin, Sem.run_bind, Sem.run_pure, Result.andThen_ok, List.map_toArray, List.map_cons, List.map_nil, hs, hx', hr]
    exact h (some ⟨W.heap.size, 0, none⟩) 0 _ hown hb0
  · obtain ⟨b, of, rfl, hb, hc⟩ := f (by omega)
    refine wpList_append_lies _ hgd s y 22 ho B 9 i0 (.string ByteArray.empty) 1 16 Try.underlying22 hi hz0 hz1 hz2 rfl (by decide) (.slice (some ⟨W.heap.size, 0, none⟩) 0 0) 0 [] hs hown ⟨b, of, none⟩ xs.length c (xs.map tsv) hx (by simp)
      (TsAt.news hc) (tsv_oneK xs) (by omega) (by unfold maxLen; omega) (by omega) (by simp; omega) _ rfl ?_
    intro q cap w' h2 h3 h4 h5
    rw [Nat.zero_add] at h2 ⊢
    refine h (some ⟨q, 0, none⟩) cap w' ?_ (hb0.grown h3 (by simp) (fun k hk => by simp [Value.ownBlock] at hk; omega))
    unfold TxRow
    simpa using h2
end PartKdB
section PartRwB
open Go.RowKit

theorem FM.trans {B C : Nat} {w w1 w2 : World} (h : FM B C w w1) (k : FM B C w1 w2) : FM B C w w2 :=
  ⟨h.1.trans k.1, Nat.le_trans h.2.1 k.2.1, fun q hq hh => (k.2.2 q (Nat.lt_of_lt_of_le hq h.2.1) hh).trans (h.2.2 q hq hh)⟩
theorem FM.wider {B C B' C' : Nat} {w w1 : World} (h : FM B C w w1) (h1 : B' ≤ B) (h2 : C ≤ C') : FM B' C' w w1 :=
  ⟨h.1, h.2.1, fun q hq hh => h.2.2 q hq (by omega)⟩
theorem FM.ofBelow {B C : Nat} {w w1 : World} (h : Below w.heap.size w w1) : FM B C w w1 := ⟨⟨h.os, h.tape, h.output⟩, h.size, fun q hq _ => h.block q hq⟩

end PartRwB
end Go.Proofs.Ythnmopldpgdenaa
