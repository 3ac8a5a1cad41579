/- What is read of the bytes of code: the program's ReadCode. What is read of the bytes of code: the specification's reader in one form; what its loops know. Regions that draw their order and store at their end into a cell which they read: the condition on the world need not hold behind that last store, since it waits for all others. -/
import Derived.Test.YtehagonaacbmiaaGreatMPRjZaq
import Derived.Test.YtehagonaacbmiaaGreatMPRjCdI
import Derived.Test.YtehagonaacbmiaaGreatMPRjZae
import Derived.Test.YtehagonaacbmiaaGreatProg
import Derived.Deep.RegionHeld3
namespace Go.Proofs.YtehagonaacbmiaaGreat
section PartRcF
open Go.RowKit

/-- Texts as values' bytes. -/
def bas (ls : List (List UInt8)) : List ByteArray := ls.map fun t => ⟨t.toArray⟩
theorem bas_small {ls : List (List UInt8)} (h : ∀ t ∈ ls, t.length ≤ 20000) : TsSmall (bas ls) (bas ls).length := by
  intro i hi
  have h2 : i < ls.length := by simpa [bas] using hi
  have e : (bas ls).getD i ByteArray.empty = ⟨(ls[i]).toArray⟩ := by simp [bas, h2]
  rw [e]
  have := h ls[i] (List.getElem_mem h2)
  show ls[i].toArray.size ≤ 1048576
  simp
  omega
/-- What the loop over texts knows at round k. -/
def Rc.T1 (s : ByteArray) (n a1 k : Nat) (ls : List (List UInt8)) (a : Nat) (bad : Bool) : Prop :=
  a ≤ s.size ∧ ls.length = k ∧ (∀ t ∈ ls, t.length ≤ 20000) ∧ (bad = true → Rc.ans s.data.toList = none) ∧ (bad = false → Rc.rv s.data.toList 0 = some (n, a1) ∧ Rc.txts s.data.toList a1 k = some (ls, a))
theorem Rc.T1.next {s : ByteArray} {n a1 k a a' : Nat} {ls : List (List UInt8)} {bad bad' : Bool} {t : List UInt8} (h : Rc.T1 s n a1 k ls a bad) (hk : k < n) (ht : t.length ≤ 20000) (ha : a' ≤ s.size)
    (h1 : bad' = false → bad = false ∧ Rc.rs s.data.toList a = some (t, a')) (h2 : bad' = true → bad = true ∨ Rc.rs s.data.toList a = none) : Rc.T1 s n a1 (k + 1) (ls ++ [t]) a' bad' := by
  obtain ⟨_, hl, hs, hb, hg⟩ := h
  refine ⟨ha, by simp [hl], fun x hx => ?_, fun e => ?_, fun e => ?_⟩
  · simp only [List.mem_append, List.mem_singleton] at hx
    rcases hx with hx | rfl
    · exact hs x hx
    · exact ht
  · cases bad with
    | true => exact hb rfl
    | false =>
      obtain ⟨g1, g2⟩ := hg rfl
      rcases h2 e with hh | hh
      · cases hh
      · refine Rc.ans_3 (k := k + 1) g1 ?_ (by omega)
        rw [Rc.txts_S g2, hh]
  · obtain ⟨e1, e2⟩ := h1 e
    obtain ⟨g1, g2⟩ := hg e1
    exact ⟨g1, by rw [Rc.txts_S g2, e2]⟩

/-- What the loop over instructions knows at round k. -/
def Rc.T2 (s : ByteArray) (ls : List (List UInt8)) (m a3 k : Nat) (xs : List Ins) (a : Nat) (bad : Bool) : Prop :=
  a ≤ s.size ∧ xs.length = k ∧ (bad = true → Rc.ans s.data.toList = none) ∧ (bad = false → ∃ n a1 a2, n ≤ 60 ∧ Rc.rv s.data.toList 0 = some (n, a1) ∧ Rc.txts s.data.toList a1 n = some (ls, a2) ∧ Rc.rv s.data.toList a2 = some (m, a3) ∧ Rc.inss s.data.toList a3 k = some (xs, a))
theorem Rc.T1.turn {s : ByteArray} {n a1 a a' m : Nat} {ls : List (List UInt8)} {bad bad' : Bool} (h : Rc.T1 s n a1 n ls a bad) (hn : n ≤ 60) (ha : a' ≤ s.size)
    (h1 : bad' = false → bad = false ∧ Rc.rv s.data.toList a = some (m, a')) (h2 : bad' = true → bad = true ∨ Rc.rv s.data.toList a = none ∨ ∃ m k, Rc.rv s.data.toList a = some (m, k) ∧ 250 < m) : Rc.T2 s ls m a' 0 [] a' bad' := by
  obtain ⟨_, hl, hs, hb, hg⟩ := h
  refine ⟨ha, rfl, fun e => ?_, fun e => ?_⟩
  · cases bad with
    | true => exact hb rfl
    | false =>
      obtain ⟨g1, g2⟩ := hg rfl
      rcases h2 e with hh | hh | ⟨m', k', hh, h3⟩
      · cases hh
      · exact Rc.ans_4 g1 g2 hh
      · exact Rc.ans_5 g1 g2 hh h3
  · obtain ⟨e1, e2⟩ := h1 e
    obtain ⟨g1, g2⟩ := hg e1
    exact ⟨n, a1, a, hn, g1, g2, e2, rfl⟩
theorem Rc.T2.next {s : ByteArray} {ls : List (List UInt8)} {m a3 k a a' : Nat} {xs : List Ins} {bad bad' : Bool} {y : Ins} (h : Rc.T2 s ls m a3 k xs a bad) (hk : k < m) (ha : a' ≤ s.size)
    (h1 : bad' = false → bad = false ∧ a + 2 ≤ s.size ∧ a' = a + 2 ∧ y = ⟨((s.data.toList.getD a 0).toNat : Int), ((s.data.toList.getD (a + 1) 0).toNat : Int)⟩) (h2 : bad' = true → bad = true ∨ s.size < a + 2) : Rc.T2 s ls m a3 (k + 1) (xs ++ [y]) a' bad' := by
  obtain ⟨_, hl, hb, hg⟩ := h
  have hsl : s.data.toList.length = s.size := by simp
  refine ⟨ha, by simp [hl], fun e => ?_, fun e => ?_⟩
  · cases bad with
    | true => exact hb rfl
    | false =>
      obtain ⟨n, a1, a2, g0, g1, g2, g3, g4⟩ := hg rfl
      rcases h2 e with hh | hh
      · cases hh
      · refine Rc.ans_6 (k := k + 1) g1 g2 g3 ?_ (by omega)
        rw [Rc.inss_S g4, if_neg (by omega)]
  · obtain ⟨e1, e2, rfl, rfl⟩ := h1 e
    obtain ⟨n, a1, a2, g0, g1, g2, g3, g4⟩ := hg e1
    exact ⟨n, a1, a2, g0, g1, g2, g3, by rw [Rc.inss_S g4, if_pos (by omega)]⟩

theorem Cd.ok_le {ts : List ByteArray} {xs : List Ins} {l u : Int} (h : Cd.ok ts xs 0 l u = true) : l ≤ 250 ∧ u ≤ 250 := by
  unfold Cd.ok at h
  simp only [Bool.and_eq_true, decide_eq_true_eq] at h
  omega
/-- What is known behind the first of the last two numbers. -/
def Rc.T3 (s : ByteArray) (ls : List (List UInt8)) (xs : List Ins) (l a : Nat) (bad : Bool) : Prop :=
  a ≤ s.size ∧ (bad = true → Rc.ans s.data.toList = none) ∧ (bad = false → Rc.ans s.data.toList = match Rc.rv s.data.toList a with
            | none => none
            | some (u, a6) => if a6 = s.data.toList.length ∧ Cd.ok (bas ls) xs 0 (l : Int) (u : Int) = true then some (bas ls, xs, l, u) else none)
theorem Rc.T2.line {s : ByteArray} {ls : List (List UInt8)} {m a3 a a' l : Nat} {xs : List Ins} {bad bad' : Bool} (h : Rc.T2 s ls m a3 m xs a bad) (hm : m ≤ 250) (ha : a' ≤ s.size)
    (h1 : bad' = false → bad = false ∧ Rc.rv s.data.toList a = some (l, a')) (h2 : bad' = true → bad = true ∨ Rc.rv s.data.toList a = none ∨ ∃ m k, Rc.rv s.data.toList a = some (m, k) ∧ 250 < m) : Rc.T3 s ls xs l a' bad' := by
  obtain ⟨_, hl, hb, hg⟩ := h
  refine ⟨ha, fun e => ?_, fun e => ?_⟩
  · cases bad with
    | true => exact hb rfl
    | false =>
      obtain ⟨n, a1, a2, g0, g1, g2, g3, g4⟩ := hg rfl
      rw [Rc.ans_7 g1 g0 g2 g3 hm g4]
      rcases h2 e with hh | hh | ⟨m', k', hh, h3⟩
      · cases hh
      · rw [hh]
      · rw [hh]
        simp only
        cases hu : Rc.rv s.data.toList k' with
        | none => rfl
        | some r =>
          obtain ⟨u, a6⟩ := r
          simp only
          rw [if_neg]
          rintro ⟨_, h5⟩
          have := Cd.ok_le h5
          omega
  · obtain ⟨e1, e2⟩ := h1 e
    obtain ⟨n, a1, a2, g0, g1, g2, g3, g4⟩ := hg e1
    rw [Rc.ans_7 g1 g0 g2 g3 hm g4, e2]
    rfl
/-- What is known behind the last number. -/
def Rc.T4 (s : ByteArray) (ls : List (List UInt8)) (xs : List Ins) (l u a : Nat) (bad : Bool) : Prop :=
  (bad = true → Rc.ans s.data.toList = none) ∧ (bad = false → Rc.ans s.data.toList = if a = s.size ∧ Cd.ok (bas ls) xs 0 (l : Int) (u : Int) = true then some (bas ls, xs, l, u) else none)
theorem Rc.T3.last {s : ByteArray} {ls : List (List UInt8)} {a a' l u : Nat} {xs : List Ins} {bad bad' : Bool} (h : Rc.T3 s ls xs l a bad)
    (h1 : bad' = false → bad = false ∧ Rc.rv s.data.toList a = some (u, a')) (h2 : bad' = true → bad = true ∨ Rc.rv s.data.toList a = none ∨ ∃ m k, Rc.rv s.data.toList a = some (m, k) ∧ 250 < m) : Rc.T4 s ls xs l u a' bad' := by
  obtain ⟨_, hb, hg⟩ := h
  have hsl : s.data.toList.length = s.size := by simp
  refine ⟨fun e => ?_, fun e => ?_⟩
  · cases bad with
    | true => exact hb rfl
    | false =>
      rw [hg rfl]
      rcases h2 e with hh | hh | ⟨m', k', hh, h3⟩
      · cases hh
      · rw [hh]
      · rw [hh]
        simp only
        rw [if_neg]
        rintro ⟨_, h5⟩
        have := Cd.ok_le h5
        omega
  · obtain ⟨e1, e2⟩ := h1 e
    rw [hg e1, e2]
    simp only
    rw [hsl]

set_option maxHeartbeats 800000 in
theorem imWhole (g : Nat) (s : ByteArray) (a : Nat) (bad : Bool) (w : World) (h : Br7 w g s a bad) :
    Calls Tryz.prog 38 #[.pointer (some ⟨g, 0, none⟩)] w fun e w' => e = .returned (.bool (!bad && decide (a = s.size))) ∧ Below w.heap.size w w' := by
  have c0 : w.cell? ⟨g, 0, none⟩ = some (.string s) := (blk_cell h 0).trans rfl
  have c1 : w.cell? ⟨g, 1, none⟩ = some (.int .i64 (a : Int)) := (blk_cell h 1).trans rfl
  have c2 : w.cell? ⟨g, 2, none⟩ = some (.bool bad) := (blk_cell h 2).trans rfl
  clear h
  have hd : ((a : Int) == (s.size : Int)) = decide (a = s.size) := by
    by_cases e : a = s.size
    · subst e; simp
    · rw [decide_eq_false e]; simp; omega
  cases bad with
  | true =>
    go_enter Tryz.func38, Tryz.ntmps38
    go_wp2_with fail
    go_quiet (fail)
    go_wp2
    go_ret
    exact ⟨rfl, below_drewN (Below.refl _ _) _⟩
  | false =>
    go_enter Tryz.func38, Tryz.ntmps38
    go_wp2_with fail
    go_quiet (fail)
    go_wp2
    go_ret
    exact ⟨rfl, below_drewN (Below.refl _ _) _⟩

theorem RW.resCells {T : TypeId} {w W : World} {s : ByteArray} {a : Nat} {bad : Bool} {tv lv : Value} {ln en : Int} (h : RW T w W s a bad tv lv ln en) :
    (W.cell? ⟨w.heap.size, 0, none⟩ = some (.slice none 0 0) ∧ W.frozen? ⟨w.heap.size, 0, none⟩ = false) ∧ (W.cell? ⟨w.heap.size, 1, none⟩ = some (.slice none 0 0) ∧ W.frozen? ⟨w.heap.size, 1, none⟩ = false) ∧ (W.cell? ⟨w.heap.size, 2, none⟩ = some (.int .i64 0) ∧ W.frozen? ⟨w.heap.size, 2, none⟩ = false) ∧
    (W.cell? ⟨w.heap.size, 3, none⟩ = some (.int .i64 0) ∧ W.frozen? ⟨w.heap.size, 3, none⟩ = false) ∧ (W.cell? ⟨w.heap.size, 4, none⟩ = some (.int .i64 0) ∧ W.frozen? ⟨w.heap.size, 4, none⟩ = false) :=
  ⟨⟨(blk_cell h.res 0).trans rfl, blk_free h.res 0⟩, ⟨(blk_cell h.res 1).trans rfl, blk_free h.res 1⟩, ⟨(blk_cell h.res 2).trans rfl, blk_free h.res 2⟩, ⟨(blk_cell h.res 3).trans rfl, blk_free h.res 3⟩, ⟨(blk_cell h.res 4).trans rfl, blk_free h.res 4⟩⟩
theorem set5 {W : World} {g : Nat} {u0 u1 u2 u3 u4 : Value} {t : TypeId} (h : W.heap[g]? = some (.cells #[u0, u1, u2, u3, u4] t (0, 0))) (v0 v1 v2 v3 v4 : Value) :
    (((((W.setCell ⟨g, 0, none⟩ v0).setCell ⟨g, 1, none⟩ v1).setCell ⟨g, 2, none⟩ v2).setCell ⟨g, 3, none⟩ v3).setCell ⟨g, 4, none⟩ v4).heap[g]? = some (.cells #[v0, v1, v2, v3, v4] t (0, 0)) :=
  blk_set (blk_set (blk_set (blk_set (blk_set h 0 v0) 1 v1) 2 v2) 3 v3) 4 v4
theorem below5 {w W : World} (h : Below w.heap.size w W) (v0 v1 v2 v3 v4 : Value) :
    Below w.heap.size w (((((W.setCell ⟨w.heap.size, 0, none⟩ v0).setCell ⟨w.heap.size, 1, none⟩ v1).setCell ⟨w.heap.size, 2, none⟩ v2).setCell ⟨w.heap.size, 3, none⟩ v3).setCell ⟨w.heap.size, 4, none⟩ v4) :=
  ((((h.setCell (by exact Nat.le_refl _) _).setCell (by exact Nat.le_refl _) _).setCell (by exact Nat.le_refl _) _).setCell (by exact Nat.le_refl _) _).setCell (by exact Nat.le_refl _) _
theorem own5 {B g : Nat} {w : World} {e : TypeId} {sz : Nat} {v : Value} {n : Nat} {cs : List Value} (h : w.ownsRow B e sz v n cs) (hg : g < B) (v0 v1 v2 v3 v4 : Value) :
    (((((w.setCell ⟨g, 0, none⟩ v0).setCell ⟨g, 1, none⟩ v1).setCell ⟨g, 2, none⟩ v2).setCell ⟨g, 3, none⟩ v3).setCell ⟨g, 4, none⟩ v4).ownsRow B e sz v n cs :=
  own_set (own_set (own_set (own_set (own_set h g 0 hg v0) g 1 hg v1) g 2 hg v2) g 3 hg v3) g 4 hg v4
set_option maxRecDepth 100000 in
theorem res_code {fn : Func} {p u : Tmp} (h : fn.results = #[.cell p 36, .tmp u]) (tmps : Array Value) (w : World) (g : Nat) (v0 v1 v2 v3 v4 : Value) (hp : tmps.getD p undef = .pointer (some ⟨g, 0, none⟩)) (hg : w.heap[g]? = some (.cells #[v0, v1, v2, v3, v4] 36 (0, 0))) :
    (results fn tmps).run Tryz.prog w = .ok (.tuple #[.agg #[v0, v1, v2, v3, v4], tmps.getD u undef]) w := by
  rw [results_cell_tmp h, hp]
  simp only [asAddr, Sem.run_pure, Result.andThen_ok, run_loadVar_row w g 36 36 #[v0, v1, v2, v3, v4] (0, 0) _ hg Tryz.underlying36 rfl (by kernel_rfl)]

set_option maxHeartbeats 4000000 in
set_option maxRecDepth 100000 in
theorem implReadCode (s : ByteArray) (w : World) (hs : s.size ≤ 1048576) :
    Calls Tryz.prog 34 #[.string s] w fun e w' => Below w.heap.size w w' ∧ (match Rc.ans s.data.toList with
      | none => e = .returned (.tuple #[.agg #[.slice none 0 0, .slice none 0 0, .int .i64 0, .int .i64 0, .int .i64 0], .bool false])
      | some (ts, xs, l, u) => ∃ (tv lv : Value) (B2 : Nat), e = .returned (.tuple #[.agg #[tv, lv, .int .i64 0, .int .i64 (l : Int), .int .i64 (u : Int)], .bool true]) ∧ TR (w.heap.size + 3) w' tv ts ∧ IR B2 w' lv xs ∧ w.heap.size + 3 ≤ B2 ∧ ∀ q, tv.ownBlock = some q → q < B2) := by
  obtain ⟨Rs, hRs⟩ : ∃ Rs : Ending → World → Prop, Rs = fun e w' => Below w.heap.size w w' ∧ (match Rc.ans s.data.toList with
      | none => e = .returned (.tuple #[.agg #[.slice none 0 0, .slice none 0 0, .int .i64 0, .int .i64 0, .int .i64 0], .bool false])
      | some (ts, xs, l, u) => ∃ (tv lv : Value) (B2 : Nat), e = .returned (.tuple #[.agg #[tv, lv, .int .i64 0, .int .i64 (l : Int), .int .i64 (u : Int)], .bool true]) ∧ TR (w.heap.size + 3) w' tv ts ∧ IR B2 w' lv xs ∧ w.heap.size + 3 ≤ B2 ∧ ∀ q, tv.ownBlock = some q → q < B2) := ⟨_, rfl⟩
  rw [← hRs]
  have HRs : Hid (Rs = _) := hRs
  clear hRs
  have CN : Hid (∀ (W : World) (a : Nat) (bad : Bool) (most : Nat), Br7 W (w.heap.size + 1) s a bad → a ≤ s.size → _) := fun W a bad most h ha => imNumber1 (w.heap.size + 1) s a most bad W h ha hs
  have CS : Hid (∀ (W : World) (a : Nat) (bad : Bool), Br7 W (w.heap.size + 1) s a bad → a ≤ s.size → _) := fun W a bad h ha => imShort1 (w.heap.size + 1) s a bad W h ha hs
  have CB : Hid (∀ (W : World) (a : Nat) (bad : Bool), Br7 W (w.heap.size + 1) s a bad → a ≤ s.size → _) := fun W a bad h ha => imByte1 (w.heap.size + 1) s a bad W h ha hs
  have CW : Hid (∀ (W : World) (a : Nat) (bad : Bool), Br7 W (w.heap.size + 1) s a bad → _) := fun W a bad h => imWhole (w.heap.size + 1) s a bad W h
  have H0 : Hid _ := RW.start 74 w s
  go_enter Tryz.func34, Tryz.ntmps34
  go_wp2_with fail
  refine (CN.out _ 0 false 60 H0.out.rd (by omega)).mono ?_
  rintro e w1 ⟨n, a1, bad0, rfl, hg1, hr1, hn, ha1, hgood, hbad⟩
  have H1 : Hid (RW 74 w w1 s a1 bad0 (.slice none 0 0) (.slice none 0 0) 0 0) := H0.out.call hg1 hr1
  have HT : Hid (Rc.T1 s n a1 0 [] a1 bad0) := by
    refine ⟨ha1, rfl, (fun t ht => by simp at ht), fun e => ?_, fun e => ⟨(hgood e).2, rfl⟩⟩
    rcases hbad e with hh | hh | ⟨m, k, hh, h2⟩
    · cases hh
    · exact Rc.ans_1 hh
    · exact Rc.ans_2 hh h2
  clear hg1 hr1 hgood hbad H0
  go_wp2_with fail
  go_loopw [12] (fun i wr => ∃ (k : Nat) (ls : List (List UInt8)) (a : Nat) (bad : Bool) (tv : Value), i = .int .i64 (k : Int) ∧ k ≤ n ∧ Hid (RW 74 w wr s a bad tv (.slice none 0 0) 0 0) ∧ Hid (TR (w.heap.size + 3) wr tv (bas ls)) ∧ Hid (Rc.T1 s n a1 k ls a bad)) (fun i _ => n - (intOf i).toNat)
  case atStart => exact ⟨0, [], a1, bad0, _, rfl, by omega, H1, TR.nil _ _, HT⟩
  case round =>
    clear H1 HT ha1
    obtain ⟨k, ls, a, bad, tv, rfl, hk, HW, HR, HT⟩ := hrel
    have hlk := HT.out.2.1
    have hal := HT.out.1
    have co := HW.out.co
    have c0 := blk_cell co 0
    simp only [List.getElem?_toArray, List.getElem?_cons_zero] at c0
    by_cases hlt : k < n
    · have i1 : (k : Int) < (n : Int) := by omega
      clear co
      go_wp2_with fail
      go_region_law ((first | (refine TR.step (B := w.heap.size + 3) (W := w1.alloc (.cells #[.string ⟨t.toArray⟩] 9)) (v := tv) (ts := bas ls) (World.ownsRow.alloc HR1.out _) (by rfl) _ _ (by rfl) (by rfl) ⟨t.toArray⟩ w1.heap.size (heap_alloc_new w1 _) (by rfl) (by simp [bas]; omega) (by have := HW1.out.size; simp; omega) ?_; intro q cap w2 hp2 hg2 hq2 hl2; have HW2 : Hid (RW 74 w w2 s a' bad' tv (.slice none 0 0) 0 0) := (HW1.out.alloc _).grow hg2 (fun k hk => (World.ownsRow.lt HR1.out k hk).1); have y0 := blk_cell HW2.out.co 0; have yf := blk_free HW2.out.co 0; simp only [List.getElem?_toArray, List.getElem?_cons_zero] at y0) | (go_simp; go_at_call 35; refine (CS.out wr.drew a bad HW.out.drew.rd hal).mono ?_; rintro e w1 ⟨t, a', bad', rfl, hg1, hr1, ht1, ha', hgood, hbad⟩; have HW1 : Hid (RW 74 w w1 s a' bad' tv (.slice none 0 0) 0 0) := HW.out.drew.call hg1 hr1; have HR1 : Hid (TR (w.heap.size + 3) w1 tv (bas ls)) := own_call (World.ownsRow.drew HR.out) hg1 (by omega); have x1 : w1.cell? ⟨w.heap.size + 2, 0, none⟩ = some tv := (blk_cell HW1.out.co 0).trans rfl; have x2 : ∀ o : Obj, (w1.alloc o).cell? ⟨w.heap.size + 2, 0, none⟩ = some tv := fun o => (blk_cell (HW1.out.alloc o).co 0).trans rfl; dsimp only)))
      all_goals
        have HN : Hid _ := HW2.out.setC (tv' := .slice (some ⟨q, 0, none⟩) ((bas ls).length + 1) cap) 0 (.slice (some ⟨q, 0, none⟩) ((bas ls).length + 1) cap) rfl
        have HRN : Hid _ := own_set hp2 (w.heap.size + 2) 0 (by omega) (.slice (some ⟨q, 0, none⟩) ((bas ls).length + 1) cap)
        have HTN : Hid _ := HT.out.next hlt ht1 ha' hgood hbad
        clear hp2 hg2 hq2 hl2 y0 yf x1 x2 c0 HW2 HR1 HW1 HW HR HT hg1 hr1 hgood hbad CN CS CB CW
        go_wp2_with fail
        go_roundw
        case rel => exact ⟨k + 1, ls ++ [t], a', bad', _, by go_num, by omega, HN, by rw [show bas (ls ++ [t]) = bas ls ++ [⟨t.toArray⟩] by simp [bas]]; exact HRN, HTN⟩
        case measure => simp [intOf]; omega
    · obtain rfl : k = n := by omega
      clear c0 co
      go_wp2_with fail
      refine (CN.out _ a bad 250 HW.out.rd hal).mono ?_
      rintro e w2 ⟨m, a3, bad1, rfl, hg1, hr1, hm, ha3, hgood, hbad⟩
      have H1 : Hid (RW 74 w w2 s a3 bad1 tv (.slice none 0 0) 0 0) := HW.out.call hg1 hr1
      have HR1 : Hid (TR (w.heap.size + 3) w2 tv (bas ls)) := own_call HR.out hg1 (by omega)
      have HT2 : Hid (Rc.T2 s ls m a3 0 [] a3 bad1) := HT.out.turn hn ha3 hgood hbad
      have hsm := HT.out.2.2.1
      have HSM : Hid (∀ t ∈ ls, t.length ≤ 20000) := hsm
      have HLS : Hid (ls.length ≤ 60) := by show ls.length ≤ 60; have := HT.out.2.1; omega
      clear hg1 hr1 hgood hbad HW HR HT hsm
      obtain ⟨B2, hB2⟩ : ∃ B2, B2 = w2.heap.size := ⟨_, rfl⟩
      have HB2 : Hid (w.heap.size + 3 ≤ B2 ∧ ∀ q, tv.ownBlock = some q → q < B2) := ⟨by rw [hB2]; exact H1.out.size, fun q hq => by rw [hB2]; exact (World.ownsRow.lt HR1.out q hq).2⟩
      go_wp2_with fail
      go_loopw [6, 24] (fun i0 i wr => ∃ (k : Nat) (xs : List Ins) (a : Nat) (bad : Bool) (lv : Value), i = .int .i64 (k : Int) ∧ k ≤ m ∧ B2 ≤ wr.heap.size ∧ Hid (RW 74 w wr s a bad tv lv 0 0) ∧ Hid (TR (w.heap.size + 3) wr tv (bas ls)) ∧ Hid (IR B2 wr lv xs) ∧ Hid (Rc.T2 s ls m a3 k xs a bad)) (fun _ i _ => m - (intOf i).toNat)
      case atStart => exact ⟨0, [], a3, bad1, _, rfl, by omega, by omega, H1, HR1, IR.nil _ _, HT2⟩
      case round =>
        clear H1 HT2 ha3 HR1 hB2
        obtain ⟨k, xs, a, bad, lv, rfl, hk, hBw, HW, HR, HI, HT⟩ := hrel
        have HLK : Hid (xs.length = k) := HT.out.2.1
        have hal := HT.out.1
        by_cases hlt : k < m
        · have i1 : (k : Int) < (m : Int) := by omega
          go_wp2_with fail
          refine (CB.out wr a bad HW.out.rd hal).mono ?_
          rintro e w3 ⟨x0, b1, bd1, rfl, hg3, hr3, hx0, hb1, hgood3, hbad3⟩
          have HW3 : Hid (RW 74 w w3 s b1 bd1 tv lv 0 0) := HW.out.call hg3 hr3
          have HR3 : Hid (TR (w.heap.size + 3) w3 tv (bas ls)) := own_call HR.out hg3 (by omega)
          have HI3 : Hid (IR B2 w3 lv xs) := own_call HI.out hg3 (by have := HB2.out.1; omega)
          have hs3 := hg3.size
          have c1 : w3.cell? ⟨w.heap.size + 2, 1, none⟩ = some lv := (blk_cell HW3.out.co 1).trans rfl
          clear hg3 hr3 HW HR HI
          go_wp2_with fail
          go_region_law ((first | (refine IR.step (B := B2) (W := w4.alloc (.cells #[.int .i64 (x0 : Int), .int .i64 (x1 : Int)] 105)) (v := lv) (xs := xs) (World.ownsRow.alloc HI4.out _) (by rfl) _ _ (by rfl) (by rfl) ⟨(x0 : Int), (x1 : Int)⟩ w4.heap.size (heap_alloc_new w4 _) (by rfl) (by have := HLK.out; omega) (by simp; omega) ?_; intro q cap w5 hp5 hg5 hq5 hl5; have HW5 : Hid (RW 74 w w5 s b2 bd2 tv lv 0 0) := (HW4.out.alloc _).grow hg5 (fun k hk => by have := (World.ownsRow.lt HI4.out k hk).1; have := HB2.out.1; omega); have HR5 : Hid (TR (w.heap.size + 3) w5 tv (bas ls)) := own_keep (World.ownsRow.alloc HR4.out _) (fun q hq => hg5.block q (World.ownsRow.lt (World.ownsRow.alloc HR4.out _) q hq).2 (fun e => by have := (World.ownsRow.lt HI4.out q e.symm).1; have := HB2.out.2 q hq; omega)); have hs5 := hg5.size; have y0 := (blk_cell HW5.out.co 1).trans rfl; have yf := blk_free HW5.out.co 1) | (go_simp; go_at_call 71; refine (CB.out w3.drew b1 bd1 HW3.out.drew.rd hb1).mono ?_; rintro e w4 ⟨x1, b2, bd2, rfl, hg4, hr4, hx1, hb2, hgood4, hbad4⟩; have HW4 : Hid (RW 74 w w4 s b2 bd2 tv lv 0 0) := HW3.out.drew.call hg4 hr4; have HR4 : Hid (TR (w.heap.size + 3) w4 tv (bas ls)) := own_call (World.ownsRow.drew HR3.out) hg4 (by omega); have HI4 : Hid (IR B2 w4 lv xs) := own_call (World.ownsRow.drew HI3.out) hg4 (by have := HB2.out.1; omega); have hs4 : w3.heap.size ≤ w4.heap.size := hg4.size; have x1c : w4.cell? ⟨w.heap.size + 2, 1, none⟩ = some lv := (blk_cell HW4.out.co 1).trans rfl; have x2c : ∀ o : Obj, (w4.alloc o).cell? ⟨w.heap.size + 2, 1, none⟩ = some lv := fun o => (blk_cell (HW4.out.alloc o).co 1).trans rfl; dsimp only)))
          all_goals
            have HN : Hid _ := HW5.out.setC (lv' := .slice (some ⟨q, 0, none⟩) (xs.length + 1) cap) 1 (.slice (some ⟨q, 0, none⟩) (xs.length + 1) cap) rfl
            have HIN : Hid _ := own_set hp5 (w.heap.size + 2) 1 (by have := HB2.out.1; omega) (.slice (some ⟨q, 0, none⟩) (xs.length + 1) cap)
            have HRN : Hid _ := own_set HR5.out (w.heap.size + 2) 1 (by omega) (.slice (some ⟨q, 0, none⟩) (xs.length + 1) cap)
            have HTN : Hid (Rc.T2 s ls m a3 (k + 1) (xs ++ [⟨(x0 : Int), (x1 : Int)⟩]) b2 bd2) := by
              refine HT.out.next hlt hb2 (fun e => ?_) (fun e => ?_)
              · obtain ⟨e1, e2, e3⟩ := hgood4 e
                obtain ⟨e4, e5, e6⟩ := hgood3 e1
                subst e5
                refine ⟨e4, by omega, by omega, by rw [e3, e6]⟩
              · rcases hbad4 e with hh | hh
                · rcases hbad3 hh with h2 | h2
                  · exact .inl h2
                  · exact .inr (by omega)
                · cases bd1 with
                  | false => obtain ⟨e4, e5, e6⟩ := hgood3 rfl; exact .inr (by omega)
                  | true =>
                    rcases hbad3 rfl with h2 | h2
                    · exact .inl h2
                    · exact .inr (by omega)
            have hsN : B2 ≤ (w5.setCell ⟨w.heap.size + 2, 1, none⟩ (.slice (some ⟨q, 0, none⟩) (xs.length + 1) cap)).heap.size := by simp [World.setCell] at hs5 ⊢; omega
            clear hp5 hg5 hq5 hl5 y0 yf x1c x2c c1 HW5 HR5 HI4 HR4 HW4 HW3 HR3 HI3 HT hg4 hr4 hgood4 hbad4 hgood3 hbad3 CN CS CB hs5 hs4 hs3
            go_wp2_with fail
            go_roundw
            case rel => exact ⟨k + 1, xs ++ [⟨(x0 : Int), (x1 : Int)⟩], b2, bd2, _, by go_num, by omega, hsN, HN, HRN, by exact HIN, HTN⟩
            case measure => simp [intOf]; omega
        · obtain rfl : k = m := by omega
          have HS3 : Hid (Rc.T2 s ls k a3 k xs a bad) := HT.out
          go_wp2_with fail
          refine (CN.out _ a bad 250 HW.out.rd hal).mono ?_
          rintro e w3 ⟨l, a5, bad5, rfl, hg5, hr5, hl5, ha5, hgood5, hbad5⟩
          have HW5 : Hid (RW 74 w w3 s a5 bad5 tv lv 0 0) := HW.out.call hg5 hr5
          have HR5 : Hid (TR (w.heap.size + 3) w3 tv (bas ls)) := own_call HR.out hg5 (by omega)
          have HI5 : Hid (IR B2 w3 lv xs) := own_call HI.out hg5 (by have := HB2.out.1; omega)
          have HL : Hid (Rc.T3 s ls xs l a5 bad5) := HT.out.line hm ha5 hgood5 hbad5
          have y3 : w3.cell? ⟨w.heap.size + 2, 3, none⟩ = some (.int .i64 0) := (blk_cell HW5.out.co 3).trans rfl
          have f3 := blk_free HW5.out.co 3
          have HW6 : Hid (RW 74 w (w3.setCell ⟨w.heap.size + 2, 3, none⟩ (.int .i64 (l : Int))) s a5 bad5 tv lv (l : Int) 0) := HW5.out.setC 3 (.int .i64 (l : Int)) rfl
          have HR6 : Hid (TR (w.heap.size + 3) (w3.setCell ⟨w.heap.size + 2, 3, none⟩ (.int .i64 (l : Int))) tv (bas ls)) := own_set HR5.out (w.heap.size + 2) 3 (by omega) _
          have HI6 : Hid (IR B2 (w3.setCell ⟨w.heap.size + 2, 3, none⟩ (.int .i64 (l : Int))) lv xs) := own_set HI5.out (w.heap.size + 2) 3 (by have := HB2.out.1; omega) _
          clear hg5 hr5 hgood5 hbad5 HW HR HI HT HS3 HW5 HR5 HI5
          go_wp2_with fail
          refine (CN.out _ a5 bad5 250 HW6.out.rd ha5).mono ?_
          rintro e w4 ⟨u, a6, bad6, rfl, hg6, hr6, hl6, ha6, hgood6, hbad6⟩
          have HW7 : Hid (RW 74 w w4 s a6 bad6 tv lv (l : Int) 0) := HW6.out.call hg6 hr6
          have HR7 : Hid (TR (w.heap.size + 3) w4 tv (bas ls)) := own_call HR6.out hg6 (by omega)
          have HI7 : Hid (IR B2 w4 lv xs) := own_call HI6.out hg6 (by have := HB2.out.1; omega)
          have HL4 : Hid (Rc.T4 s ls xs l u a6 bad6) := HL.out.last hgood6 hbad6
          have y4 : w4.cell? ⟨w.heap.size + 2, 4, none⟩ = some (.int .i64 0) := (blk_cell HW7.out.co 4).trans rfl
          have f4 := blk_free HW7.out.co 4
          have HW8 : Hid (RW 74 w (w4.setCell ⟨w.heap.size + 2, 4, none⟩ (.int .i64 (u : Int))) s a6 bad6 tv lv (l : Int) (u : Int)) := HW7.out.setC 4 (.int .i64 (u : Int)) rfl
          have HR8 : Hid (TR (w.heap.size + 3) (w4.setCell ⟨w.heap.size + 2, 4, none⟩ (.int .i64 (u : Int))) tv (bas ls)) := own_set HR7.out (w.heap.size + 2) 4 (by omega) _
          have HI8 : Hid (IR B2 (w4.setCell ⟨w.heap.size + 2, 4, none⟩ (.int .i64 (u : Int))) lv xs) := own_set HI7.out (w.heap.size + 2) 4 (by have := HB2.out.1; omega) _
          clear hg6 hr6 hgood6 hbad6 HW6 HR6 HI6 HW7 HR7 HI7 y3 f3 HL
          go_wp2_with fail
          refine (CW.out _ a6 bad6 HW8.out.rd).mono ?_
          rintro e w5 ⟨rfl, hb5⟩
          have HW9 : Hid (RW 74 w w5 s a6 bad6 tv lv (l : Int) (u : Int)) := HW8.out.grow (gr_below (r := none) hb5) (fun k hk => by cases hk)
          have HR9 : Hid (TR (w.heap.size + 3) w5 tv (bas ls)) := own_keep HR8.out (fun q hq => hb5.block q (World.ownsRow.lt HR8.out q hq).2)
          have HI9 : Hid (IR B2 w5 lv xs) := own_keep HI8.out (fun q hq => hb5.block q (World.ownsRow.lt HI8.out q hq).2)
          have CO : Hid (∀ W, Below w5.heap.size w5 W → Calls Tryz.prog 23 #[.agg #[tv, lv, .int .i64 0, .int .i64 (l : Int), .int .i64 (u : Int)]] W fun e w' => e = .returned (.bool (Cd.ok (bas ls) xs 0 (l : Int) (u : Int))) ∧ Below W.heap.size W w') := fun W hb => implCodeOk tv lv 0 (l : Int) (u : Int) (bas ls) xs W (HR9.out.at.keep hb) (HI9.out.at.keep hb) (bas_small HSM.out) (by have := HLS.out; simp [bas]; omega) (by have := HLK.out; omega)
          have d0 : w5.cell? ⟨w.heap.size + 2, 0, none⟩ = some tv := (blk_cell HW9.out.co 0).trans rfl
          have d1 : w5.cell? ⟨w.heap.size + 2, 1, none⟩ = some lv := (blk_cell HW9.out.co 1).trans rfl
          have d2 : w5.cell? ⟨w.heap.size + 2, 2, none⟩ = some (.int .i64 0) := (blk_cell HW9.out.co 2).trans rfl
          have d3 : w5.cell? ⟨w.heap.size + 2, 3, none⟩ = some (.int .i64 (l : Int)) := (blk_cell HW9.out.co 3).trans rfl
          have d4 : w5.cell? ⟨w.heap.size + 2, 4, none⟩ = some (.int .i64 (u : Int)) := (blk_cell HW9.out.co 4).trans rfl
          clear HW8 HR8 HI8 y4 f4 hb5 CN CS CB CW
          cases hv : (!bad6 && decide (a6 = s.size)) with
          | false =>
            have HAN : Hid (Rc.ans s.data.toList = none) := by
              cases bad6 with
              | true => exact HL4.out.1 rfl
              | false =>
                show _ = _
                rw [HL4.out.2 rfl, if_neg]
                rintro ⟨e1, _⟩
                subst e1
                simp at hv
            obtain ⟨⟨r0, g0⟩, ⟨r1, g1⟩, ⟨r2, g2⟩, ⟨r3, g3⟩, ⟨r4, g4⟩⟩ := HW9.out.resCells
            go_wp2_with fail
            refine bodyPost_ret (res_code rfl _ _ w.heap.size _ _ _ _ _ rfl (set5 HW9.out.res _ _ _ _ _)) rfl ?_
            rw [HRs.out]
            refine ⟨below5 HW9.out.env _ _ _ _ _, ?_⟩
            rw [HAN.out]
            rfl
          | true =>
            go_wp2_with fail
            refine (CO.out _ (Below.refl _ _)).mono ?_
            rintro e w6 ⟨rfl, hb6⟩
            have HWa : Hid (RW 74 w w6 s a6 bad6 tv lv (l : Int) (u : Int)) := HW9.out.grow (gr_below (r := none) hb6) (fun k hk => by cases hk)
            have HRa : Hid (TR (w.heap.size + 3) w6 tv (bas ls)) := own_keep HR9.out (fun q hq => hb6.block q (World.ownsRow.lt HR9.out q hq).2)
            have HIa : Hid (IR B2 w6 lv xs) := own_keep HI9.out (fun q hq => hb6.block q (World.ownsRow.lt HI9.out q hq).2)
            have hv2 : bad6 = false ∧ a6 = s.size := by simpa using hv
            obtain ⟨rfl, ha6e⟩ := hv2
            have HAN : Hid (Rc.ans s.data.toList = if a6 = s.size ∧ Cd.ok (bas ls) xs 0 (l : Int) (u : Int) = true then some (bas ls, xs, l, u) else none) := HL4.out.2 rfl
            have HAE : Hid (a6 = s.size) := ha6e
            obtain ⟨⟨r0, g0⟩, ⟨r1, g1⟩, ⟨r2, g2⟩, ⟨r3, g3⟩, ⟨r4, g4⟩⟩ := HWa.out.resCells
            have d0 : w6.cell? ⟨w.heap.size + 2, 0, none⟩ = some tv := (blk_cell HWa.out.co 0).trans rfl
            have d1 : w6.cell? ⟨w.heap.size + 2, 1, none⟩ = some lv := (blk_cell HWa.out.co 1).trans rfl
            have d2 : w6.cell? ⟨w.heap.size + 2, 2, none⟩ = some (.int .i64 0) := (blk_cell HWa.out.co 2).trans rfl
            have d3 : w6.cell? ⟨w.heap.size + 2, 3, none⟩ = some (.int .i64 (l : Int)) := (blk_cell HWa.out.co 3).trans rfl
            have d4 : w6.cell? ⟨w.heap.size + 2, 4, none⟩ = some (.int .i64 (u : Int)) := (blk_cell HWa.out.co 4).trans rfl
            clear hb6 HL4 ha6e CO HW9 HR9 HI9 hv
            cases hok : Cd.ok (bas ls) xs 0 (l : Int) (u : Int) with
            | false =>
              rw [hok] at HAN
              clear hok d0 d1 d2 d3 d4
              go_wp2_with fail
              refine bodyPost_ret (res_code rfl _ _ w.heap.size _ _ _ _ _ rfl (set5 HWa.out.res _ _ _ _ _)) rfl ?_
              rw [HRs.out]
              refine ⟨below5 HWa.out.env _ _ _ _ _, ?_⟩
              rw [HAN.out, if_neg (by rintro ⟨_, h⟩; cases h)]
              rfl
            | true =>
              rw [hok] at HAN
              clear hok
              have HTA : Hid (TsAt w6 tv (bas ls)) := HRa.out.at
              have HIA : Hid (InsAt w6 lv xs) := HIa.out.at
              obtain ⟨ta, tc, rfl, -⟩ := HTA.out
              obtain ⟨la, lc, rfl, -⟩ := HIA.out
              go_wp2_with fail
              refine bodyPost_ret (res_code rfl _ _ w.heap.size _ _ _ _ _ rfl (set5 HWa.out.res _ _ _ _ _)) rfl ?_
              rw [HRs.out]
              refine ⟨below5 HWa.out.env _ _ _ _ _, ?_⟩
              rw [HAN.out, if_pos ⟨HAE.out, by trivial⟩]
              exact ⟨_, _, B2, rfl, own5 HRa.out (by omega) _ _ _ _ _, own5 HIa.out (by have := HB2.out.1; omega) _ _ _ _ _, HB2.out.1, HB2.out.2⟩
end PartRcF
section PartRcG
open Go.RowKit

/-- What the specification's loop over instructions knows at round k. -/
def Rc.S2 (s : ByteArray) (ls : List (List UInt8)) (m a3 k : Nat) (xs : List Ins) (a : Nat) (bad : Bool) : Prop :=
  a ≤ s.size ∧ xs.length = k ∧ (bad = true → Rc.ans s.data.toList = none) ∧ (bad = false → (60 < ls.length ∧ Rc.ans s.data.toList = none) ∨ ∃ n a1 a2, n ≤ 60 ∧ Rc.rv s.data.toList 0 = some (n, a1) ∧ Rc.txts s.data.toList a1 n = some (ls, a2) ∧ Rc.rv s.data.toList a2 = some (m, a3) ∧ Rc.inss s.data.toList a3 k = some (xs, a))
theorem Rc.T1.turnS {s : ByteArray} {n a1 k a a' m : Nat} {ls : List (List UInt8)} {bad bad' : Bool} (h : Rc.T1 s n a1 k ls a bad) (hk : k ≤ n) (hx : bad = false → k = n ∨ k = 100) (ha : a' ≤ s.size)
    (h1 : bad' = false → bad = false ∧ Rc.rv s.data.toList a = some (m, a')) (h2 : bad' = true → bad = true ∨ Rc.rv s.data.toList a = none) : Rc.S2 s ls m a' 0 [] a' bad' := by
  obtain ⟨_, hl, hs, hb, hg⟩ := h
  refine ⟨ha, rfl, fun e => ?_, fun e => ?_⟩
  · cases bad with
    | true => exact hb rfl
    | false =>
      obtain ⟨g1, g2⟩ := hg rfl
      rcases h2 e with hh | hh
      · cases hh
      · by_cases hn : 60 < n
        · exact Rc.ans_2 g1 hn
        · have : k = n := by rcases hx rfl with h | h <;> omega
          subst this
          exact Rc.ans_4 g1 g2 hh
  · obtain ⟨e1, e2⟩ := h1 e
    obtain ⟨g1, g2⟩ := hg e1
    by_cases hn : 60 < n
    · exact .inl ⟨by rcases hx e1 with h | h <;> omega, Rc.ans_2 g1 hn⟩
    · have : k = n := by rcases hx e1 with h | h <;> omega
      subst this
      exact .inr ⟨k, a1, a, by omega, g1, g2, e2, rfl⟩
theorem Rc.S2.next {s : ByteArray} {ls : List (List UInt8)} {m a3 k a : Nat} {xs : List Ins} (h : Rc.S2 s ls m a3 k xs a false) (ha : a + 2 ≤ s.size) :
    Rc.S2 s ls m a3 (k + 1) (xs ++ [⟨((s.data.toList.getD a 0).toNat : Int), ((s.data.toList.getD (a + 1) 0).toNat : Int)⟩]) (a + 2) false := by
  obtain ⟨_, hl, hb, hg⟩ := h
  have hsl : s.data.toList.length = s.size := by simp
  refine ⟨ha, by simp [hl], (fun e => by cases e), fun _ => ?_⟩
  rcases hg rfl with hh | ⟨n, a1, a2, g0, g1, g2, g3, g4⟩
  · exact .inl hh
  · exact .inr ⟨n, a1, a2, g0, g1, g2, g3, by rw [Rc.inss_S g4, if_pos (by omega)]⟩
theorem Rc.S2.stop {s : ByteArray} {ls : List (List UInt8)} {m a3 k a : Nat} {xs : List Ins} (h : Rc.S2 s ls m a3 k xs a false) (hk : k < m) (ha : s.size < a + 2) : Rc.S2 s ls m a3 k xs a true := by
  obtain ⟨h0, hl, hb, hg⟩ := h
  have hsl : s.data.toList.length = s.size := by simp
  refine ⟨h0, hl, (fun _ => ?_), fun e => by cases e⟩
  rcases hg rfl with hh | ⟨n, a1, a2, g0, g1, g2, g3, g4⟩
  · exact hh.2
  · refine Rc.ans_6 (k := k + 1) g1 g2 g3 ?_ (by omega)
    rw [Rc.inss_S g4, if_neg (by omega)]
/-- What it knows behind the loops. -/
def Rc.S3 (s : ByteArray) (ls : List (List UInt8)) (xs : List Ins) (a : Nat) (bad : Bool) : Prop :=
  (bad = true → Rc.ans s.data.toList = none) ∧ (bad = false → ((60 < ls.length ∨ 250 < xs.length) ∧ Rc.ans s.data.toList = none) ∨ ∃ n a1 a2 m a3, n ≤ 60 ∧ Rc.rv s.data.toList 0 = some (n, a1) ∧ Rc.txts s.data.toList a1 n = some (ls, a2) ∧ Rc.rv s.data.toList a2 = some (m, a3) ∧ m ≤ 250 ∧ Rc.inss s.data.toList a3 m = some (xs, a))
theorem Rc.S2.done {s : ByteArray} {ls : List (List UInt8)} {m a3 k a : Nat} {xs : List Ins} {bad : Bool} (h : Rc.S2 s ls m a3 k xs a bad) (hk : k ≤ m) (hx : bad = false → k = m ∨ k = 300) : Rc.S3 s ls xs a bad := by
  obtain ⟨h0, hl, hb, hg⟩ := h
  refine ⟨hb, fun e => ?_⟩
  rcases hg e with hh | ⟨n, a1, a2, g0, g1, g2, g3, g4⟩
  · exact .inl ⟨.inl hh.1, hh.2⟩
  · by_cases hm : 250 < m
    · exact .inl ⟨.inr (by rcases hx e with h | h <;> omega), Rc.ans_5 g1 g2 g3 hm⟩
    · have : k = m := by rcases hx e with h | h <;> omega
      subst this
      exact .inr ⟨n, a1, a2, k, a3, g0, g1, g2, g3, by omega, g4⟩
/-- What it knows at its end. -/
def Rc.S5 (s : ByteArray) (ls : List (List UInt8)) (xs : List Ins) (l u : Nat) (bad : Bool) : Prop :=
  Rc.ans s.data.toList = if bad = false ∧ Cd.ok (bas ls) xs 0 (l : Int) (u : Int) = true ∧ Cd.bytes (bas ls) xs (l : Int) (u : Int) = s.data.toList then some (bas ls, xs, l, u) else none
theorem Cd.ok_many {ts : List ByteArray} {xs : List Ins} {l u : Int} (h : 60 < ts.length ∨ 250 < xs.length) : Cd.ok ts xs 0 l u = false := by
  cases hc : Cd.ok ts xs 0 l u with
  | false => rfl
  | true =>
    unfold Cd.ok at hc
    simp only [Bool.and_eq_true, decide_eq_true_eq] at hc
    omega
theorem Rc.S3.last {s : ByteArray} {ls : List (List UInt8)} {xs : List Ins} {a4 a5 a6 l u : Nat} {b4 b5 b6 : Bool} (h : Rc.S3 s ls xs a4 b4)
    (h1 : b5 = false → b4 = false ∧ Rc.rv s.data.toList a4 = some (l, a5)) (h2 : b5 = true → b4 = true ∨ Rc.rv s.data.toList a4 = none)
    (h3 : b6 = false → b5 = false ∧ Rc.rv s.data.toList a5 = some (u, a6)) (h4 : b6 = true → b5 = true ∨ Rc.rv s.data.toList a5 = none) : Rc.S5 s ls xs l u b6 := by
  unfold Rc.S5
  obtain ⟨hb, hg⟩ := h
  cases b6 with
  | true =>
    rw [if_neg (by rintro ⟨h, _⟩; cases h)]
    cases b4 with
    | true => exact hb rfl
    | false =>
      rcases hg rfl with hh | ⟨n, a1, a2, m, a3, g0, g1, g2, g3, g4, g5⟩
      · exact hh.2
      · rw [Rc.ans_7 g1 g0 g2 g3 g4 g5]
        cases b5 with
        | true =>
          rcases h2 rfl with hh | hh
          · cases hh
          · rw [hh]
        | false =>
          rw [(h1 rfl).2]
          simp only
          rcases h4 rfl with hh | hh
          · cases hh
          · rw [hh]
  | false =>
    obtain ⟨e5, r6⟩ := h3 rfl
    subst e5
    obtain ⟨e4, r5⟩ := h1 rfl
    subst e4
    rcases hg rfl with hh | ⟨n, a1, a2, m, a3, g0, g1, g2, g3, g4, g5⟩
    · rw [hh.2, if_neg]
      rintro ⟨_, h, _⟩
      rw [Cd.ok_many (by rcases hh.1 with h | h; exact .inl (by simpa [bas] using h); exact .inr h)] at h
      cases h
    · rw [Rc.ans_7 g1 g0 g2 g3 g4 g5, r5]
      simp only
      rw [r6]
      simp only
      have hw := Rc.run_whole g1 g2 g3 g5 r5 r6
      by_cases hc : Cd.ok (bas ls) xs 0 (l : Int) (u : Int) = true
      · by_cases ha : a6 = s.data.toList.length
        · rw [if_pos ⟨ha, hc⟩, if_pos ⟨by trivial, hc, hw.1 ha⟩]
          rfl
        · rw [if_neg (by rintro ⟨h, _⟩; exact ha h), if_neg (by rintro ⟨_, _, h⟩; exact ha (hw.2 h))]
      · rw [if_neg (by rintro ⟨_, h⟩; exact hc h), if_neg (by rintro ⟨_, h, _⟩; exact hc h)]
end PartRcG
section PartOrM
section
variable {P : Program} {ops : Array Oper} {Q : Exit → Act → World → Prop} {md : Region.Mode} {S : World → Prop} {z : Nat}

/-- Whatever order is picked from here on; S holds behind each operation that is carried out, but for number z. -/
def AnyBut (P : Program) (md : Region.Mode) (ops : Array Oper) (Q : Exit → Act → World → Prop) (S : World → Prop) (z : Nat) : Nat → Array Bool → Act → World → Prop
  | 0, listed, a, w => Region.ready md ops listed = [] ∧ Q .normal a w
  | n + 1, listed, a, w =>
    (Region.ready md ops listed = [] → Q .normal a w) ∧
    ∀ i ∈ Region.ready md ops listed, wpOp P ops Q i (fun a' w' => (i ≠ z → S w') ∧ AnyBut P md ops Q S z n (listed.setIfInBounds i true) a' w') a w
theorem AnyBut.any : ∀ (n : Nat) (listed : Array Bool) (a : Act) (w : World), AnyBut P md ops Q S z n listed a w → wpAny P md ops Q n listed a w
  | 0, _, _, _, h => h
  | n + 1, _, _, _, h => ⟨h.1, fun i hi => wpOp_mono (fun a' w' h' => AnyBut.any n _ a' w' h'.2) (h.2 i hi)⟩

/-- Number z waits for each other one. -/
def lastB (md : Region.Mode) (ops : Array Oper) (z : Nat) : Bool :=
  (List.range ops.size).all fun i => i == z || ((ops[z]?).map fun o => o.after.any fun e => Region.binds md e && e.on == i).getD false
theorem last_alone (h : lastB md ops z = true) {listed : Array Bool} {i : Nat} (hz : z ∈ Region.ready md ops listed) (hi : i ∈ Region.ready md ops listed) : i = z := by
  obtain ⟨h0, o, ho, -⟩ := mem_ready.1 hi
  obtain ⟨-, oz, hoz, hall⟩ := mem_ready.1 hz
  have hlt : i < ops.size := (Array.getElem?_eq_some_iff.1 ho).1
  have := List.all_eq_true.1 h i (List.mem_range.2 hlt)
  rw [hoz] at this
  simp only [Option.map_some, Option.getD_some, Bool.or_eq_true, beq_iff_eq] at this
  rcases this with e | e
  · exact e
  · obtain ⟨x, hx, hb⟩ := Array.any_eq_true'.1 e
    simp only [Bool.and_eq_true, beq_iff_eq] at hb
    have h1 := hall x hx hb.1
    rw [hb.2] at h1
    rcases Nat.lt_or_ge i listed.size with h' | h'
    · simp [h'] at h0 h1
      rw [h0] at h1
      cases h1
    · simp [Array.getElem?_eq_none h'] at h1
theorem AnyBut.first {i : Nat} {oi : Oper} {v : Value} (hlast : lastB md ops z = true) (hiz : i ≠ z) (hi : ops[i]? = some oi) (hsel : ∀ (j : Nat) (o : Oper) cs b, ops[j]? = some o → o.op ≠ .select cs b)
    (hQ : ∀ c a w, Q (.panic c) (a.put oi.dst v) w → Q (.panic c) a w) :
    ∀ (n : Nat) (listed : Array Bool) (a : Act) (w : World),
      (∀ j oj, ops[j]? = some oj → j ≠ i → listed.getD j true = false → (∀ e ∈ oj.after, Region.binds md e = true → e.on ≠ i) → oi.apart ops oj = true) →
      i ∈ Region.ready md ops listed → YieldsIf P ops S oi v a → S w →
      AnyBut P md ops Q S z n (listed.setIfInBounds i true) (a.put oi.dst v) w → AnyBut P md ops Q S z (n + 1) listed a w := by
  intro n
  induction n with
  | zero =>
    intro listed a w _ hr hy hS H
    refine ⟨fun h => (by rw [h] at hr; cases hr), fun j hj => ?_⟩
    by_cases hji : j = i
    · subst hji
      exact hy.wpOp hi hS ⟨fun _ => hS, H⟩
    · have := ready_mono hj hji
      rw [H.1] at this
      cases this
  | succ n ih =>
    intro listed a w hfree hr hy hS H
    refine ⟨fun h => (by rw [h] at hr; cases hr), fun j hj => ?_⟩
    by_cases hji : j = i
    · subst hji
      exact hy.wpOp hi hS ⟨fun _ => hS, H⟩
    · have hjz : j ≠ z := fun e => hiz (by subst e; exact last_alone hlast hj hr)
      have h1 := H.2 j (ready_mono hj hji)
      obtain ⟨hjun, oj, hoj, hall⟩ := mem_ready.1 hj
      have hnot : ∀ e ∈ oj.after, Region.binds md e = true → e.on ≠ i := fun e he hb heq => by
        have h1 := hall e he hb
        have h0 := (mem_ready.1 hr).1
        rw [heq] at h1
        rcases Nat.lt_or_ge i listed.size with h' | h'
        · simp [h'] at h0 h1; rw [h0] at h1; cases h1
        · simp [Array.getElem?_eq_none h'] at h1
      have h2 := wpOp_putIf hoj (hfree j oj hoj hji hjun hnot) (fun cs b => hsel i oi cs b hi) (fun cs b => hsel j oj cs b hoj) hQ hy h1
      have hfree' : ∀ k ok, ops[k]? = some ok → k ≠ i → (listed.setIfInBounds j true).getD k true = false →
          (∀ e ∈ ok.after, Region.binds md e = true → e.on ≠ i) → oi.apart ops ok = true := fun k ok hk hki hun hno => by
        refine hfree k ok hk hki ?_ hno
        by_cases hjk : j = k
        · subst hjk; exact hjun
        · rw [getD_set_ne true hjk] at hun; exact hun
      refine wpOp_mono (fun a' w' h3 => ⟨h3.2.1, ih (listed.setIfInBounds j true) a' w' hfree' (ready_mono hr (Ne.symm hji)) h3.1 (h3.2.1 hjz) ?_⟩) h2
      rw [Array.setIfInBounds_comm _ _ hji]
      exact h3.2.2
/-- Take number i first. -/
theorem AnyBut.take {i : Nat} {oi : Oper} {v : Value} {n : Nat} {listed : Array Bool} {a : Act} {w : World} (hlast : lastB md ops z = true) (hi : ops[i]? = some oi) (hiz : i ≠ z)
    (hs : Region.noSelect ops = true) (hf : Region.free md ops listed i = true) (hr : (Region.ready md ops listed).contains i = true)
    (hQ : ∀ c a w, Q (.panic c) (a.put oi.dst v) w → Q (.panic c) a w) (hy : YieldsIf P ops S oi v a) (hS : S w)
    (h : AnyBut P md ops Q S z n (listed.setIfInBounds i true) (a.put oi.dst v) w) : AnyBut P md ops Q S z (n + 1) listed a w :=
  AnyBut.first hlast hiz hi (Region.noSelect_spec hs) hQ n listed a w (Region.free_spec hi hf) (by simpa using hr) hy hS h
/-- Number i alone may come up. -/
theorem AnyBut.one {i : Nat} {o : Oper} {n : Nat} {listed : Array Bool} {a : Act} {w : World} (ho : ops[i]? = some o) (hr : Region.ready md ops listed = [i])
    (h : ∀ K' : Act → World → Prop, Shut (∀ a w, (i ≠ z → S w) → AnyBut P md ops Q S z n (listed.setIfInBounds i true) a w → K' a w) → if Region.wanted o (yielded ops a.tmps) = true then Oper.wp P o a w K' Q else K' (a.put o.dst undef) w) :
    AnyBut P md ops Q S z (n + 1) listed a w := by
  refine ⟨fun h0 => ?_, fun j hj => ?_⟩
  · rw [hr] at h0
    cases h0
  · rw [hr, List.mem_singleton] at hj
    subst hj
    exact wpOp_step ho (fun K' hK => h K' (fun a w hS hW => hK a w ⟨hS, hW⟩))
/-- All have come up. -/
theorem AnyBut.done {listed : Array Bool} {a : Act} {w : World} (hr : Region.ready md ops listed = []) (h : Q .normal a w) : ∀ n, AnyBut P md ops Q S z n listed a w
  | 0 => ⟨hr, h⟩
  | _ + 1 => ⟨fun _ => h, by rw [hr]; simp⟩
/-- The beginning. -/
theorem AnyBut.region {id : Nat} {a : Act} {w : World} (hm : P.follows .mixedOrders = true)
    (h : AnyBut P .any ops (NoPanic Q) S z ops.size (Array.replicate ops.size false) a w.drew) : (Code.region id ops true).wp P Q a w :=
  wp_region_noPanic (wp_region_any hm (AnyBut.any _ _ _ _ h))
end
end PartOrM
end Go.Proofs.YtehagonaacbmiaaGreat
