/- What is read of the bytes of code: the program's reader, a byte. What is read of the bytes of code: rows that grow by one; what is bad stays bad. What is read of the bytes of code: what both walks hold; the program's reader in one form. The specification's reader of bytes, in one form. -/
import Derived.Test.YtehagonaacbmiaaGreatMPRjRcB
import Derived.Test.YtehagonaacbmiaaGreatMPRjZab
import Derived.Test.YtehagonaacbmiaaGreatMPRjZaa
import Derived.Deep.RegionHeld3
namespace Go.Proofs.YtehagonaacbmiaaGreat
section PartRcC
open Go.RowKit

set_option maxHeartbeats 2000000 in
set_option maxRecDepth 100000 in
theorem imByte (g : Nat) (s : ByteArray) (a : Nat) (bad : Bool) (w : World) (h : Br7 w g s a bad) (ha : a ≤ s.size) (hs : s.size ≤ 1048576) :
    Calls Tryz.prog 71 #[.pointer (some ⟨g, 0, none⟩)] w fun e w' => (if a < s.size then e = .returned (.int .i64 ((s.data.toList.getD a 0).toNat : Int)) ∧ Br7 w' g s (a + 1) bad else e = .returned (.int .i64 0) ∧ Br7 w' g s a true) ∧ w.grownBy w' (some g) := by
  have HH : Hid (Br7 w g s a bad) := h
  have c0 := blk_cell h 0
  have c1 := blk_cell h 1
  have c2 := blk_cell h 2
  have f1 := blk_free h 1
  have f2 := blk_free h 2
  simp only [List.getElem?_toArray, List.getElem?_cons_zero, List.getElem?_cons_succ] at c0 c1 c2
  clear h
  by_cases hlt : a < s.size
  · simp only [if_pos hlt]
    have hd : s.data.toList.getD a 0 = s[a] := lst_getD s a hlt
    rw [hd]
    have d0 : decide ((s.size : Int) ≤ (a : Int)) = false := decide_eq_false (by omega)
    have hi : (a : Int) < (s.size : Int) := by omega
    have HW8 : Hid (wrap64 (s[a].toNat : Int) = (s[a].toNat : Int)) := by
      show _ = _
      have := s[a].toNat_lt
      unfold wrap64
      omega
    clear hd
    have hc0 : ∀ n, ((w.drewN n).setCell ⟨g, 1, none⟩ (.int .i64 ((a : Int) + 1))).cell? ⟨g, 0, none⟩ = some (.string s) := fun n => by rw [blk_cell (blk_set (w := w.drewN n) HH.out 1 _)]; rfl
    have hc1 : ∀ n, ((w.drewN n).setCell ⟨g, 1, none⟩ (.int .i64 ((a : Int) + 1))).cell? ⟨g, 1, none⟩ = some (.int .i64 ((a : Int) + 1)) := fun n => by rw [blk_cell (blk_set (w := w.drewN n) HH.out 1 _)]; rfl
    have hw1 : IntKind.i64.wrap ((a : Int) + 1 - 1) = (a : Int) := by rw [show (a : Int) + 1 - 1 = (a : Int) by omega]; exact IntWalk.i64_in _ (by omega)
    have HS : Hid (∀ n, Br7 ((w.drewN n).setCell ⟨g, 1, none⟩ (.int .i64 ((a : Int) + 1))) g s (a + 1) bad) := fun n => blk_set (w := w.drewN n) HH.out 1 _
    go_enter Tryz.func71, Tryz.ntmps71
    go_wp2_with fail
    go_quiet (fail)
    go_wp2_with fail
    go_quiet (fail)
    go_wp2
    go_ret
    refine ⟨⟨?_, HS.out _⟩, gr_trans (gr_trans (gr_below (below_drewN (Below.refl _ _) _)) (gr_set _ _ _ _)) (gr_below (below_drewN (Below.refl _ _) _))⟩
    show Ending.returned (Value.int .i64 (wrap64 (s[a].toNat : Int))) = _
    rw [HW8.out]
  · simp only [if_neg hlt]
    have d0 : decide ((s.size : Int) ≤ (a : Int)) = true := decide_eq_true (by omega)
    go_enter Tryz.func71, Tryz.ntmps71
    go_wp2_with fail
    go_quiet (fail)
    go_wp2
    go_ret
    exact ⟨⟨rfl, blk_set (w := w.drewN _) HH.out 2 (.bool true)⟩, gr_trans (gr_below (below_drewN (Below.refl _ _) _)) (gr_set _ _ _ _)⟩
end PartRcC
section PartRcD
open Go.RowKit

/-- The row of the texts ts, in the call's own memory from block B on. -/
def TR (B : Nat) (w : World) (v : Value) (ts : List ByteArray) : Prop := w.ownsRow B 9 1 v ts.length (ts.map .string)
/-- The cells of instructions. -/
def insCells (xs : List Ins) : List Value := xs.flatMap fun x => [.int .i64 x.op, .int .i64 x.arg]
/-- The row of the instructions xs. -/
def IR (B : Nat) (w : World) (v : Value) (xs : List Ins) : Prop := w.ownsRow B 105 2 v xs.length (insCells xs)
theorem TR.nil (B : Nat) (w : World) : TR B w (.slice none 0 0) [] := World.ownsRow_nil _ _ _ _
theorem IR.nil (B : Nat) (w : World) : IR B w (.slice none 0 0) [] := World.ownsRow_nil _ _ _ _

theorem insCells_get (xs : List Ins) (i : Nat) (hi : i < xs.length) : (insCells xs)[i * 2]? = some (.int .i64 (xs.getD i Ins.no).op) ∧ (insCells xs)[i * 2 + 1]? = some (.int .i64 (xs.getD i Ins.no).arg) := by
  induction xs generalizing i with
  | nil => simp at hi
  | cons x xs ih =>
    cases i with
    | zero => exact ⟨rfl, rfl⟩
    | succ i =>
      have := ih i (by simpa using hi)
      rw [show (i + 1) * 2 = i * 2 + 1 + 1 by omega]
      exact this

/-- A row is as it was where its block is. -/
theorem own_keep {B : Nat} {w w' : World} {e : TypeId} {sz : Nat} {v : Value} {n : Nat} {cs : List Value} (h : w.ownsRow B e sz v n cs) (hk : ∀ q, v.ownBlock = some q → w'.heap[q]? = w.heap[q]?) : w'.ownsRow B e sz v n cs := by
  refine ⟨h.1, ?_⟩
  rcases h.2 with hn | ⟨g, cap, cur, rfl, h1, hg, rest⟩
  · exact .inl hn
  · exact .inr ⟨g, cap, cur, rfl, h1, (hk g rfl).trans hg, rest⟩
theorem TR.at {B : Nat} {w : World} {v : Value} {ts : List ByteArray} (h : TR B w v ts) : TsAt w v ts := by
  have h' := h
  rcases h'.2 with ⟨rfl, hn⟩ | ⟨g, cap, cur, rfl, h1, hg, _⟩
  · exact ⟨none, 0, by rw [hn], fun h0 => by omega⟩
  · refine ⟨_, cap, rfl, fun _ => ⟨g, 0, rfl, blk_lt hg, fun i hi => ?_⟩⟩
    rw [Nat.zero_add, World.ownsRow.cellAt h i (by omega)]
    simp [hi]
theorem IR.at {B : Nat} {w : World} {v : Value} {xs : List Ins} (h : IR B w v xs) : InsAt w v xs := by
  have h' := h
  rcases h'.2 with ⟨rfl, hn⟩ | ⟨g, cap, cur, rfl, h1, hg, _⟩
  · exact ⟨none, 0, by rw [hn], fun h0 => by omega⟩
  · refine ⟨_, cap, rfl, fun _ => ⟨g, 0, rfl, blk_lt hg, fun i hi => ?_⟩⟩
    rw [Nat.zero_add, World.ownsRow.cellAt h (i * 2) (by omega), World.ownsRow.cellAt h (i * 2 + 1) (by omega)]
    exact insCells_get xs i hi

theorem Tryz.infoT7 : (Tryz.prog.info? 9).map (fun i => (i.zero, i.size, i.bytes)) = some (some (.string ByteArray.empty), 1, 16) := by kernel_rfl

/-- One text more. -/
theorem TR.step {ops : Array Oper} {o : Oper} {a : Act} {K : Act → World → Prop} {Q : Exit → Act → World → Prop} {E : Prop} {B : Nat} {W : World} {v : Value} {ts : List ByteArray}
    (hown : TR B W v ts) (hgd : o.guard = none) (s x : Operand)
    (ho : o.op = .call { callee := .builtin .append, args := #[s, x], argTypes := #[22, 22] })
    (hs : a.eval s = v) (t : ByteArray) (q0 : Nat) (hq : W.heap[q0]? = some (.cells #[.string t] 9 (0, 0))) (hx : a.eval x = .slice (some ⟨q0, 0, none⟩) 1 1)
    (hlen : ts.length ≤ 1000) (hB : B ≤ W.heap.size)
    (h : ∀ q cap w', TR B w' (.slice (some ⟨q, 0, none⟩) (ts.length + 1) cap) (ts ++ [t]) → W.grownBy w' v.ownBlock → (v.ownBlock = some q ∨ q = W.heap.size) → q < w'.heap.size →
      K (a.put o.dst (.slice (some ⟨q, 0, none⟩) (ts.length + 1) cap)) w') :
    if Region.wanted o (yielded ops a.tmps) = true then Oper.wp Tryz.prog o a W K Q else E := by
  obtain ⟨i0, hi, hy0, hy1, hy2⟩ := info_parts Tryz.infoT7
  refine step_append_lies _ hgd s x 22 ho B 9 i0 (.string ByteArray.empty) 1 16 Tryz.underlying22 hi hy0 hy1 hy2 rfl (by decide) v ts.length (ts.map .string) hs hown ⟨q0, 0, none⟩ 1 1 [.string t] hx rfl
    (World.news_of_block (cs := #[.string t]) hq) ?_ (by omega) ?_ ?_ hB W.heap.size rfl ?_
  · intro u hu
    simp at hu
    subst hu
    rfl
  · unfold maxLen; omega
  · omega
  · intro q cap w' h2 h3 h4 h5
    refine h q cap w' ?_ h3 h4 h5
    unfold TR
    simpa using h2

/-- One instruction more. -/
theorem IR.step {ops : Array Oper} {o : Oper} {a : Act} {K : Act → World → Prop} {Q : Exit → Act → World → Prop} {E : Prop} {B : Nat} {W : World} {v : Value} {xs : List Ins}
    (hown : IR B W v xs) (hgd : o.guard = none) (s x : Operand)
    (ho : o.op = .call { callee := .builtin .append, args := #[s, x], argTypes := #[34, 34] })
    (hs : a.eval s = v) (y : Ins) (q0 : Nat) (hq : W.heap[q0]? = some (.cells #[.int .i64 y.op, .int .i64 y.arg] 105 (0, 0))) (hx : a.eval x = .slice (some ⟨q0, 0, none⟩) 1 1)
    (hlen : xs.length ≤ 1000) (hB : B ≤ W.heap.size)
    (h : ∀ q cap w', IR B w' (.slice (some ⟨q, 0, none⟩) (xs.length + 1) cap) (xs ++ [y]) → W.grownBy w' v.ownBlock → (v.ownBlock = some q ∨ q = W.heap.size) → q < w'.heap.size →
      K (a.put o.dst (.slice (some ⟨q, 0, none⟩) (xs.length + 1) cap)) w') :
    if Region.wanted o (yielded ops a.tmps) = true then Oper.wp Tryz.prog o a W K Q else E := by
  obtain ⟨i0, hi, hy0, hy1, hy2⟩ := info_parts Tryz.infoIns
  refine step_append_lies _ hgd s x 34 ho B 105 i0 (.agg #[.int .i64 0, .int .i64 0]) 2 16 Tryz.underlying34 hi hy0 hy1 hy2 rfl (by decide) v xs.length (insCells xs) hs hown ⟨q0, 0, none⟩ 1 1 [.int .i64 y.op, .int .i64 y.arg] hx rfl
    (World.news_of_block (cs := #[.int .i64 y.op, .int .i64 y.arg]) hq) ?_ (by omega) ?_ ?_ hB W.heap.size rfl ?_
  · intro u hu
    simp at hu
    rcases hu with rfl | rfl <;> rfl
  · unfold maxLen; omega
  · omega
  · intro q cap w' h2 h3 h4 h5
    refine h q cap w' ?_ h3 h4 h5
    unfold IR insCells
    rw [List.flatMap_append, List.length_append]
    exact h2

namespace Rc
/-- What is bad stays bad. -/
theorem txts_none {L : List UInt8} {a k : Nat} (h : txts L a k = none) : ∀ n, k ≤ n → txts L a n = none := by
  intro n hn
  induction n with
  | zero => rw [show k = 0 by omega] at h; exact h
  | succ n ih =>
    by_cases hk : k = n + 1
    · rw [← hk]; exact h
    · simp only [txts]; rw [ih (by omega)]
theorem inss_none {L : List UInt8} {a k : Nat} (h : inss L a k = none) : ∀ n, k ≤ n → inss L a n = none := by
  intro n hn
  induction n with
  | zero => rw [show k = 0 by omega] at h; exact h
  | succ n ih =>
    by_cases hk : k = n + 1
    · rw [← hk]; exact h
    · simp only [inss]; rw [ih (by omega)]
theorem ans_1 {L : List UInt8} (h : rv L 0 = none) : ans L = none := by unfold ans; rw [h]
theorem ans_2 {L : List UInt8} {n a1 : Nat} (h : rv L 0 = some (n, a1)) (h2 : 60 < n) : ans L = none := by unfold ans; rw [h]; simp only; rw [if_pos h2]
theorem ans_3 {L : List UInt8} {n a1 k : Nat} (h : rv L 0 = some (n, a1)) (h2 : txts L a1 k = none) (hk : k ≤ n) : ans L = none := by
  unfold ans; rw [h]; simp only
  split
  · rfl
  · rw [txts_none h2 n hk]
theorem ans_4 {L : List UInt8} {n a1 a2 : Nat} {ts : List (List UInt8)} (h : rv L 0 = some (n, a1)) (h2 : txts L a1 n = some (ts, a2)) (h3 : rv L a2 = none) : ans L = none := by
  unfold ans; rw [h]; simp only
  split
  · rfl
  · rw [h2]; simp only; rw [h3]
theorem ans_5 {L : List UInt8} {n a1 a2 m a3 : Nat} {ts : List (List UInt8)} (h : rv L 0 = some (n, a1)) (h2 : txts L a1 n = some (ts, a2)) (h3 : rv L a2 = some (m, a3)) (h4 : 250 < m) : ans L = none := by
  unfold ans; rw [h]; simp only
  split
  · rfl
  · rw [h2]; simp only; rw [h3]; simp only; rw [if_pos h4]
theorem ans_6 {L : List UInt8} {n a1 a2 m a3 k : Nat} {ts : List (List UInt8)} (h : rv L 0 = some (n, a1)) (h2 : txts L a1 n = some (ts, a2)) (h3 : rv L a2 = some (m, a3)) (h4 : inss L a3 k = none) (hk : k ≤ m) : ans L = none := by
  unfold ans; rw [h]; simp only
  split
  · rfl
  · rw [h2]; simp only; rw [h3]; simp only
    split
    · rfl
    · rw [inss_none h4 m hk]
/-- All but the last two numbers is read. -/
theorem ans_7 {L : List UInt8} {n a1 a2 m a3 a4 : Nat} {ts : List (List UInt8)} {xs : List Ins} (h : rv L 0 = some (n, a1)) (hn : n ≤ 60) (h2 : txts L a1 n = some (ts, a2)) (h3 : rv L a2 = some (m, a3)) (hm : m ≤ 250) (h4 : inss L a3 m = some (xs, a4)) :
    ans L = match rv L a4 with
          | none => none
          | some (l, a5) => match rv L a5 with
            | none => none
            | some (u, a6) => if a6 = L.length ∧ Cd.ok (ts.map fun t => ⟨t.toArray⟩) xs 0 (l : Int) (u : Int) = true then some (ts.map fun t => ⟨t.toArray⟩, xs, l, u) else none := by
  unfold ans
  rw [h]; simp only
  rw [if_neg (by omega), h2]; simp only
  rw [h3]; simp only
  rw [if_neg (by omega), h4]
  rfl
theorem txts_S {L : List UInt8} {a k b : Nat} {ts : List (List UInt8)} (h : txts L a k = some (ts, b)) : txts L a (k + 1) = match rs L b with
      | none => none
      | some (t, c) => some (ts ++ [t], c) := by simp only [txts]; rw [h]; rfl
theorem inss_S {L : List UInt8} {a k b : Nat} {xs : List Ins} (h : inss L a k = some (xs, b)) : inss L a (k + 1) = if b + 2 ≤ L.length then some (xs ++ [⟨((L.getD b 0).toNat : Int), ((L.getD (b + 1) 0).toNat : Int)⟩], b + 2) else none := by simp only [inss]; rw [h]
end Rc
end PartRcD
section PartRcE
open Go.RowKit

/-- What a walk of ReadCode holds, w where it began: the answer's cell, the reader, the code. -/
structure RW (T : TypeId) (w W : World) (s : ByteArray) (a : Nat) (bad : Bool) (tv lv : Value) (ln en : Int) : Prop where
  res : W.heap[w.heap.size]? = some (.cells #[.slice none 0 0, .slice none 0 0, .int .i64 0, .int .i64 0, .int .i64 0] 36 (0, 0))
  rd : W.heap[w.heap.size + 1]? = some (.cells #[.string s, .int .i64 (a : Int), .bool bad] T (0, 0))
  co : W.heap[w.heap.size + 2]? = some (.cells #[tv, lv, .int .i64 0, .int .i64 ln, .int .i64 en] 36 (0, 0))
  env : Below w.heap.size w W
theorem RW.size {T : TypeId} {w W : World} {s : ByteArray} {a : Nat} {bad : Bool} {tv lv : Value} {ln en : Int} (h : RW T w W s a bad tv lv ln en) : w.heap.size + 3 ≤ W.heap.size := by
  have := blk_lt h.co
  omega
theorem r3_0 (w : World) (A B C : Obj) : (((w.alloc A).alloc B).alloc C).heap[w.heap.size]? = some A := by
  show (((w.heap.push A).push B).push C)[w.heap.size]? = some A
  rw [Array.getElem?_push, if_neg (by simp; omega), Array.getElem?_push, if_neg (by simp), Array.getElem?_push]
  simp
theorem r3_2 (w : World) (A B C : Obj) : (((w.alloc A).alloc B).alloc C).heap[w.heap.size + 2]? = some C := by
  show (((w.heap.push A).push B).push C)[w.heap.size + 2]? = some C
  rw [Array.getElem?_push, if_pos (by simp)]
theorem RW.start (T : TypeId) (w : World) (s : ByteArray) : RW T w (((w.alloc (.cells #[.slice none 0 0, .slice none 0 0, .int .i64 0, .int .i64 0, .int .i64 0] 36)).alloc (.cells #[.string s, .int .i64 0, .bool false] T)).alloc (.cells #[.slice none 0 0, .slice none 0 0, .int .i64 0, .int .i64 0, .int .i64 0] 36)) s 0 false (.slice none 0 0) (.slice none 0 0) 0 0 :=
  ⟨r3_0 _ _ _ _, alloc3_1 _ _ _ _, r3_2 _ _ _ _, (((Below.refl _ _).alloc (Nat.le_refl _) _).alloc (by simp) _).alloc (by simp; omega) _⟩
/-- The reader went on. -/
theorem RW.call {T : TypeId} {w W W' : World} {s : ByteArray} {a a' : Nat} {bad bad' : Bool} {tv lv : Value} {ln en : Int} (h : RW T w W s a bad tv lv ln en) (hg : W.grownBy W' (some (w.heap.size + 1)))
    (h2 : W'.heap[w.heap.size + 1]? = some (.cells #[.string s, .int .i64 (a' : Int), .bool bad'] T (0, 0))) : RW T w W' s a' bad' tv lv ln en := by
  have hs := h.size
  refine ⟨(hg.block _ (by omega) (by simp)).trans h.res, h2, (hg.block _ (by omega) (by simp)).trans h.co, h.env.grown hg (by omega) (fun k hk => by simp at hk; omega)⟩
/-- A row of the call's own grew. -/
theorem RW.grow {T : TypeId} {w W W' : World} {s : ByteArray} {a : Nat} {bad : Bool} {tv lv : Value} {ln en : Int} {r : Option Nat} (h : RW T w W s a bad tv lv ln en) (hg : W.grownBy W' r) (hr : ∀ k, r = some k → w.heap.size + 3 ≤ k) : RW T w W' s a bad tv lv ln en := by
  have hs := h.size
  have hb : ∀ k, k < w.heap.size + 3 → W'.heap[k]? = W.heap[k]? := fun k hk => hg.block k (by omega) (fun e => by have := hr k e.symm; omega)
  exact ⟨(hb _ (by omega)).trans h.res, (hb _ (by omega)).trans h.rd, (hb _ (by omega)).trans h.co, h.env.grown hg (by omega) (fun k hk => by have := hr k hk; omega)⟩
theorem RW.alloc {T : TypeId} {w W : World} {s : ByteArray} {a : Nat} {bad : Bool} {tv lv : Value} {ln en : Int} (h : RW T w W s a bad tv lv ln en) (o : Obj) : RW T w (W.alloc o) s a bad tv lv ln en :=
  h.grow (World.grownBy_alloc W o none) (fun k hk => by cases hk)
theorem RW.drew {T : TypeId} {w W : World} {s : ByteArray} {a : Nat} {bad : Bool} {tv lv : Value} {ln en : Int} (h : RW T w W s a bad tv lv ln en) : RW T w W.drew s a bad tv lv ln en :=
  ⟨h.res, h.rd, h.co, h.env.drew⟩
/-- A field of the code is set. -/
theorem RW.setC {T : TypeId} {w W : World} {s : ByteArray} {a : Nat} {bad : Bool} {tv lv tv' lv' : Value} {ln en ln' en' : Int} (h : RW T w W s a bad tv lv ln en) (j : Nat) (u : Value)
    (hu : (#[tv, lv, .int .i64 0, .int .i64 ln, .int .i64 en] : Array Value).setIfInBounds j u = #[tv', lv', .int .i64 0, .int .i64 ln', .int .i64 en']) : RW T w (W.setCell ⟨w.heap.size + 2, j, none⟩ u) s a bad tv' lv' ln' en' := by
  have hs := h.size
  refine ⟨(Below.heap_setCell _ _ _ _ (by show w.heap.size ≠ w.heap.size + 2; omega)).trans h.res, (Below.heap_setCell _ _ _ _ (by show w.heap.size + 1 ≠ w.heap.size + 2; omega)).trans h.rd, ?_, h.env.setCell (by show w.heap.size ≤ w.heap.size + 2; omega) _⟩
  have := blk_set h.co j u
  rw [hu] at this
  exact this
/-- The reader's own field is set. -/
theorem RW.setR {T : TypeId} {w W : World} {s : ByteArray} {a a' : Nat} {bad bad' : Bool} {tv lv : Value} {ln en : Int} (h : RW T w W s a bad tv lv ln en) (j : Nat) (u : Value)
    (hu : (#[.string s, .int .i64 (a : Int), .bool bad] : Array Value).setIfInBounds j u = #[.string s, .int .i64 (a' : Int), .bool bad']) : RW T w (W.setCell ⟨w.heap.size + 1, j, none⟩ u) s a' bad' tv lv ln en := by
  have hs := h.size
  refine ⟨(Below.heap_setCell _ _ _ _ (by show w.heap.size ≠ w.heap.size + 1; omega)).trans h.res, ?_, (Below.heap_setCell _ _ _ _ (by show w.heap.size + 2 ≠ w.heap.size + 1; omega)).trans h.co, h.env.setCell (by show w.heap.size ≤ w.heap.size + 1; omega) _⟩
  have := blk_set h.rd j u
  rw [hu] at this
  exact this
theorem own_set {B : Nat} {w : World} {e : TypeId} {sz : Nat} {v : Value} {n : Nat} {cs : List Value} (h : w.ownsRow B e sz v n cs) (g j : Nat) (hg : g < B) (u : Value) : (w.setCell ⟨g, j, none⟩ u).ownsRow B e sz v n cs :=
  own_keep h fun q hq => Below.heap_setCell _ _ _ _ (by show q ≠ g; have := (World.ownsRow.lt h q hq).1; omega)
theorem own_call {B g : Nat} {w w' : World} {e : TypeId} {sz : Nat} {v : Value} {n : Nat} {cs : List Value} (h : w.ownsRow B e sz v n cs) (hw : w.grownBy w' (some g)) (hg : g < B) : w'.ownsRow B e sz v n cs :=
  own_keep h fun q hq => hw.block q (World.ownsRow.lt h q hq).2 (fun e => by have := (World.ownsRow.lt h q hq).1; simp at e; omega)

/-- A number, in one form. -/
theorem imNumber1 (g : Nat) (s : ByteArray) (a most : Nat) (bad : Bool) (w : World) (h : Br7 w g s a bad) (ha : a ≤ s.size) (hs : s.size ≤ 1048576) :
    Calls Tryz.prog 70 #[.pointer (some ⟨g, 0, none⟩), .int .i64 (most : Int)] w fun e w' => ∃ (n a' : Nat) (bad' : Bool), e = .returned (.int .i64 (n : Int)) ∧ w.grownBy w' (some g) ∧ Br7 w' g s a' bad' ∧ n ≤ most ∧ a' ≤ s.size ∧
      (bad' = false → bad = false ∧ Rc.rv s.data.toList a = some (n, a')) ∧ (bad' = true → bad = true ∨ Rc.rv s.data.toList a = none ∨ ∃ m k, Rc.rv s.data.toList a = some (m, k) ∧ most < m) := by
  refine (imNumber g s a most bad w h ha hs).mono ?_
  intro e w' hh
  obtain ⟨hm, hg⟩ := hh
  cases hr : Rc.rv s.data.toList a with
  | none =>
    rw [hr] at hm
    exact ⟨0, a, true, hm.1, hg, hm.2, by omega, ha, (fun e => by cases e), fun _ => .inr (.inl rfl)⟩
  | some r =>
    obtain ⟨n, k⟩ := r
    rw [hr] at hm
    simp only at hm
    obtain ⟨_, hk, _, _⟩ := Rc.rv_bytes (by simpa using ha) hr
    split at hm
    · rename_i hc
      exact ⟨n, k, bad, hm.1, hg, hm.2, hc, by simpa using hk, (fun e => ⟨e, rfl⟩), fun e => .inl e⟩
    · rename_i hc
      exact ⟨0, a, true, hm.1, hg, hm.2, by omega, ha, (fun e => by cases e), fun _ => .inr (.inr ⟨n, k, rfl, by omega⟩)⟩
/-- A short text, in one form. -/
theorem imShort1 (g : Nat) (s : ByteArray) (a : Nat) (bad : Bool) (w : World) (h : Br7 w g s a bad) (ha : a ≤ s.size) (hs : s.size ≤ 1048576) :
    Calls Tryz.prog 35 #[.pointer (some ⟨g, 0, none⟩)] w fun e w' => ∃ (t : List UInt8) (a' : Nat) (bad' : Bool), e = .returned (.string ⟨t.toArray⟩) ∧ w.grownBy w' (some g) ∧ Br7 w' g s a' bad' ∧ t.length ≤ 20000 ∧ a' ≤ s.size ∧
      (bad' = false → bad = false ∧ Rc.rs s.data.toList a = some (t, a')) ∧ (bad' = true → bad = true ∨ Rc.rs s.data.toList a = none) := by
  refine (imShort g s a bad w h ha hs).mono ?_
  intro e w' hh
  obtain ⟨hm, hg⟩ := hh
  cases hr : Rc.rs s.data.toList a with
  | none =>
    rw [hr] at hm
    exact ⟨[], a, true, hm.1, hg, hm.2, by simp, ha, (fun e => by cases e), fun _ => .inr rfl⟩
  | some r =>
    obtain ⟨t, k⟩ := r
    rw [hr] at hm
    obtain ⟨_, hk, ht, _⟩ := Rc.rs_bytes (by simpa using ha) hr
    exact ⟨t, k, bad, hm.1, hg, hm.2, ht, by simpa using hk, (fun e => ⟨e, rfl⟩), fun e => .inl e⟩
/-- A byte, in one form. -/
theorem imByte1 (g : Nat) (s : ByteArray) (a : Nat) (bad : Bool) (w : World) (h : Br7 w g s a bad) (ha : a ≤ s.size) (hs : s.size ≤ 1048576) :
    Calls Tryz.prog 71 #[.pointer (some ⟨g, 0, none⟩)] w fun e w' => ∃ (x a' : Nat) (bad' : Bool), e = .returned (.int .i64 (x : Int)) ∧ w.grownBy w' (some g) ∧ Br7 w' g s a' bad' ∧ x ≤ 255 ∧ a' ≤ s.size ∧
      (bad' = false → bad = false ∧ a' = a + 1 ∧ x = (s.data.toList.getD a 0).toNat) ∧ (bad' = true → bad = true ∨ s.size ≤ a) := by
  refine (imByte g s a bad w h ha hs).mono ?_
  intro e w' hh
  obtain ⟨hm, hg⟩ := hh
  split at hm
  · rename_i hc
    exact ⟨_, a + 1, bad, hm.1, hg, hm.2, by have := (s.data.toList.getD a 0).toNat_lt; omega, by omega, (fun e => ⟨e, rfl, rfl⟩), fun e => .inl e⟩
  · exact ⟨0, a, true, hm.1, hg, hm.2, by omega, ha, (fun e => by cases e), fun _ => .inr (by omega)⟩
end PartRcE
section PartRcS
open Go.RowKit

/-- A number, in one form. -/
theorem spVar1 (g : Nat) (s : ByteArray) (a : Nat) (bad : Bool) (w : World) (h : Cu7 w g s a bad) (ha : a ≤ s.size) (hs : s.size ≤ 1048576) :
    Calls Tryz.prog 32 #[.pointer (some ⟨g, 0, none⟩)] w fun e w' => ∃ (n a' : Nat) (bad' : Bool), e = .returned (.int .i64 (n : Int)) ∧ w.grownBy w' (some g) ∧ Cu7 w' g s a' bad' ∧ n ≤ 1000000000 ∧ a' ≤ s.size ∧
      (bad' = false → bad = false ∧ Rc.rv s.data.toList a = some (n, a')) ∧ (bad' = true → bad = true ∨ Rc.rv s.data.toList a = none) := by
  refine (spVar7 g s a bad w h ha hs).mono ?_
  intro e w' hh
  obtain ⟨he, hm, hg⟩ := hh
  cases hr : Rc.rv s.data.toList a with
  | none =>
    rw [hr] at hm he
    cases bad with
    | false => exact ⟨0, a, true, he, hg, hm, by omega, ha, (fun e => by cases e), fun _ => .inr rfl⟩
    | true => exact ⟨0, a, true, he, hg, hm, by omega, ha, (fun e => by cases e), fun _ => .inl rfl⟩
  | some r =>
    obtain ⟨n, k⟩ := r
    rw [hr] at hm he
    obtain ⟨_, hk, _, hn⟩ := Rc.rv_bytes (by simpa using ha) hr
    cases bad with
    | false => exact ⟨n, k, false, he, hg, hm, hn, by simpa using hk, (fun e => ⟨rfl, rfl⟩), fun e => by cases e⟩
    | true => exact ⟨0, a, true, he, hg, hm, by omega, ha, (fun e => by cases e), fun _ => .inl rfl⟩
/-- A short text, in one form. -/
theorem spShort1 (g : Nat) (s : ByteArray) (a : Nat) (bad : Bool) (w : World) (h : Cu7 w g s a bad) (ha : a ≤ s.size) (hs : s.size ≤ 1048576) :
    Calls Tryz.prog 30 #[.pointer (some ⟨g, 0, none⟩)] w fun e w' => ∃ (t : List UInt8) (a' : Nat) (bad' : Bool), e = .returned (.string ⟨t.toArray⟩) ∧ w.grownBy w' (some g) ∧ Cu7 w' g s a' bad' ∧ t.length ≤ 20000 ∧ a' ≤ s.size ∧
      (bad' = false → bad = false ∧ Rc.rs s.data.toList a = some (t, a')) ∧ (bad' = true → bad = true ∨ Rc.rs s.data.toList a = none) := by
  refine (spShort7r g s a bad w h ha hs).mono ?_
  intro e w' hh
  obtain ⟨he, hm, hg⟩ := hh
  cases hr : Rc.rs s.data.toList a with
  | none =>
    rw [hr] at hm he
    cases bad with
    | false => exact ⟨[], a, true, he, hg, hm, by simp, ha, (fun e => by cases e), fun _ => .inr rfl⟩
    | true => exact ⟨[], a, true, he, hg, hm, by simp, ha, (fun e => by cases e), fun _ => .inl rfl⟩
  | some r =>
    obtain ⟨t, k⟩ := r
    rw [hr] at hm he
    obtain ⟨_, hk, ht, _⟩ := Rc.rs_bytes (by simpa using ha) hr
    cases bad with
    | false => exact ⟨t, k, false, he, hg, hm, ht, by simpa using hk, (fun e => ⟨rfl, rfl⟩), fun e => by cases e⟩
    | true => exact ⟨[], a, true, he, hg, hm, by simp, ha, (fun e => by cases e), fun _ => .inl rfl⟩

end PartRcS
end Go.Proofs.YtehagonaacbmiaaGreat
