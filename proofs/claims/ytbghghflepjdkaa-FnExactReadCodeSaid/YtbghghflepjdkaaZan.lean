/- What is read of the bytes of code: the program's reader, a byte. What is read of the bytes of code: rows that grow by one; what is bad stays bad. The law's own marks: instructions, and code that was read. -/
import Derived.Test.YtbghghflepjdkaaRcB
import Derived.Test.YtbghghflepjdkaaZab
import Derived.Test.YtbghghflepjdkaaZaf
import Derived.Deep.RegionHeld3
namespace Go.Proofs.Ytbghghflepjdkaa
section PartRcC
open Go.RowKit

set_option maxHeartbeats 2000000 in
set_option maxRecDepth 100000 in
theorem imByte (g : Nat) (s : ByteArray) (a : Nat) (bad : Bool) (w : World) (h : Br7 w g s a bad) (ha : a ≤ s.size) (hs : s.size ≤ 1048576) :
    Calls Try.prog 14 #[.pointer (some ⟨g, 0, none⟩)] w fun e w' => (if a < s.size then e = .returned (.int .i64 ((s.data.toList.getD a 0).toNat : Int)) ∧ Br7 w' g s (a + 1) bad else e = .returned (.int .i64 0) ∧ Br7 w' g s a true) ∧ w.grownBy w' (some g) := by
  have HH : Hid (Br7 w g s a bad) := h
  have c0 := blk_cell h 0
  have c1 := blk_cell h 1
  have c2 := blk_cell h 2
  have f1 := blk_free h 1
  have f2 := blk_free h 2
  simp only [List.getElem?_toArray, List.getElem?_cons_zero, List.getElem?_cons_succ] at c0 c1 c2
  clear h
  by_cases hlt : a < s.size
  · simp only [if_pos hlt]
    have hd : s.data.toList.getD a 0 = s[a] := lst_getD s a hlt
    rw [hd]
    have d0 : decide ((s.size : Int) ≤ (a : Int)) = false := decide_eq_false (by omega)
    have hi : (a : Int) < (s.size : Int) := by omega
    have HW8 : Hid (wrap64 (s[a].toNat : Int) = (s[a].toNat : Int)) := by
      show _ = _
      have := s[a].toNat_lt
      unfold wrap64
      omega
    clear hd
    have hc0 : ∀ n, ((w.drewN n).setCell ⟨g, 1, none⟩ (.int .i64 ((a : Int) + 1))).cell? ⟨g, 0, none⟩ = some (.string s) := fun n => by rw [blk_cell (blk_set (w := w.drewN n) HH.out 1 _)]; rfl
    have hc1 : ∀ n, ((w.drewN n).setCell ⟨g, 1, none⟩ (.int .i64 ((a : Int) + 1))).cell? ⟨g, 1, none⟩ = some (.int .i64 ((a : Int) + 1)) := fun n => by rw [blk_cell (blk_set (w := w.drewN n) HH.out 1 _)]; rfl
    have hw1 : IntKind.i64.wrap ((a : Int) + 1 - 1) = (a : Int) := by rw [show (a : Int) + 1 - 1 = (a : Int) by omega]; exact IntWalk.i64_in _ (by omega)
    have HS : Hid (∀ n, Br7 ((w.drewN n).setCell ⟨g, 1, none⟩ (.int .i64 ((a : Int) + 1))) g s (a + 1) bad) := fun n => blk_set (w := w.drewN n) HH.out 1 _
    go_enter Try.func14, Try.ntmps14
    go_wp2_with fail
    go_quiet (fail)
    go_wp2_with fail
    go_quiet (fail)
    go_wp2
    go_ret
    refine ⟨⟨?_, HS.out _⟩, gr_trans (gr_trans (gr_below (below_drewN (Below.refl _ _) _)) (gr_set _ _ _ _)) (gr_below (below_drewN (Below.refl _ _) _))⟩
    show Ending.returned (Value.int .i64 (wrap64 (s[a].toNat : Int))) = _
    rw [HW8.out]
  · simp only [if_neg hlt]
    have d0 : decide ((s.size : Int) ≤ (a : Int)) = true := decide_eq_true (by omega)
    go_enter Try.func14, Try.ntmps14
    go_wp2_with fail
    go_quiet (fail)
    go_wp2
    go_ret
    exact ⟨⟨rfl, blk_set (w := w.drewN _) HH.out 2 (.bool true)⟩, gr_trans (gr_below (below_drewN (Below.refl _ _) _)) (gr_set _ _ _ _)⟩
end PartRcC
section PartRcD
open Go.RowKit

/-- The row of the texts ts, in the call's own memory from block B on. -/
def TR (B : Nat) (w : World) (v : Value) (ts : List ByteArray) : Prop := w.ownsRow B 9 1 v ts.length (ts.map .string)
/-- The cells of instructions. -/
def insCells (xs : List Ins) : List Value := xs.flatMap fun x => [.int .i64 x.op, .int .i64 x.arg]
/-- The row of the instructions xs. -/
def IR (B : Nat) (w : World) (v : Value) (xs : List Ins) : Prop := w.ownsRow B 37 2 v xs.length (insCells xs)
theorem TR.nil (B : Nat) (w : World) : TR B w (.slice none 0 0) [] := World.ownsRow_nil _ _ _ _
theorem IR.nil (B : Nat) (w : World) : IR B w (.slice none 0 0) [] := World.ownsRow_nil _ _ _ _

theorem insCells_get (xs : List Ins) (i : Nat) (hi : i < xs.length) : (insCells xs)[i * 2]? = some (.int .i64 (xs.getD i Ins.no).op) ∧ (insCells xs)[i * 2 + 1]? = some (.int .i64 (xs.getD i Ins.no).arg) := by
  induction xs generalizing i with
  | nil => simp at hi
  | cons x xs ih =>
    cases i with
    | zero => exact ⟨rfl, rfl⟩
    | succ i =>
      have := ih i (by simpa using hi)
      rw [show (i + 1) * 2 = i * 2 + 1 + 1 by omega]
      exact this

/-- A row is as it was where its block is. -/
theorem own_keep {B : Nat} {w w' : World} {e : TypeId} {sz : Nat} {v : Value} {n : Nat} {cs : List Value} (h : w.ownsRow B e sz v n cs) (hk : ∀ q, v.ownBlock = some q → w'.heap[q]? = w.heap[q]?) : w'.ownsRow B e sz v n cs := by
  refine ⟨h.1, ?_⟩
  rcases h.2 with hn | ⟨g, cap, cur, rfl, h1, hg, rest⟩
  · exact .inl hn
  · exact .inr ⟨g, cap, cur, rfl, h1, (hk g rfl).trans hg, rest⟩
theorem TR.at {B : Nat} {w : World} {v : Value} {ts : List ByteArray} (h : TR B w v ts) : TsAt w v ts := by
  have h' := h
  rcases h'.2 with ⟨rfl, hn⟩ | ⟨g, cap, cur, rfl, h1, hg, _⟩
  · exact ⟨none, 0, by rw [hn], fun h0 => by omega⟩
  · refine ⟨_, cap, rfl, fun _ => ⟨g, 0, rfl, blk_lt hg, fun i hi => ?_⟩⟩
    rw [Nat.zero_add, World.ownsRow.cellAt h i (by omega)]
    simp [hi]
theorem IR.at {B : Nat} {w : World} {v : Value} {xs : List Ins} (h : IR B w v xs) : InsAt w v xs := by
  have h' := h
  rcases h'.2 with ⟨rfl, hn⟩ | ⟨g, cap, cur, rfl, h1, hg, _⟩
  · exact ⟨none, 0, by rw [hn], fun h0 => by omega⟩
  · refine ⟨_, cap, rfl, fun _ => ⟨g, 0, rfl, blk_lt hg, fun i hi => ?_⟩⟩
    rw [Nat.zero_add, World.ownsRow.cellAt h (i * 2) (by omega), World.ownsRow.cellAt h (i * 2 + 1) (by omega)]
    exact insCells_get xs i hi

theorem Try.infoT7 : (Try.prog.info? 9).map (fun i => (i.zero, i.size, i.bytes)) = some (some (.string ByteArray.empty), 1, 16) := by kernel_rfl

/-- One text more. -/
theorem TR.step {ops : Array Oper} {o : Oper} {a : Act} {K : Act → World → Prop} {Q : Exit → Act → World → Prop} {E : Prop} {B : Nat} {W : World} {v : Value} {ts : List ByteArray}
    (hown : TR B W v ts) (hgd : o.guard = none) (s x : Operand)
    (ho : o.op = .call { callee := .builtin .append, args := #[s, x], argTypes := #[22, 22] })
    (hs : a.eval s = v) (t : ByteArray) (q0 : Nat) (hq : W.heap[q0]? = some (.cells #[.string t] 9 (0, 0))) (hx : a.eval x = .slice (some ⟨q0, 0, none⟩) 1 1)
    (hlen : ts.length ≤ 1000) (hB : B ≤ W.heap.size)
    (h : ∀ q cap w', TR B w' (.slice (some ⟨q, 0, none⟩) (ts.length + 1) cap) (ts ++ [t]) → W.grownBy w' v.ownBlock → (v.ownBlock = some q ∨ q = W.heap.size) → q < w'.heap.size →
      K (a.put o.dst (.slice (some ⟨q, 0, none⟩) (ts.length + 1) cap)) w') :
    if Region.wanted o (yielded ops a.tmps) = true then Oper.wp Try.prog o a W K Q else E := by
  obtain ⟨i0, hi, hy0, hy1, hy2⟩ := info_parts Try.infoT7
  refine step_append_lies _ hgd s x 22 ho B 9 i0 (.string ByteArray.empty) 1 16 Try.underlying22 hi hy0 hy1 hy2 rfl (by decide) v ts.length (ts.map .string) hs hown ⟨q0, 0, none⟩ 1 1 [.string t] hx rfl
    (World.news_of_block (cs := #[.string t]) hq) ?_ (by omega) ?_ ?_ hB W.heap.size rfl ?_
  · intro u hu
    simp at hu
    subst hu
    rfl
  · unfold maxLen; omega
  · omega
  · intro q cap w' h2 h3 h4 h5
    refine h q cap w' ?_ h3 h4 h5
    unfold TR
    simpa using h2

/-- One instruction more. -/
theorem IR.step {ops : Array Oper} {o : Oper} {a : Act} {K : Act → World → Prop} {Q : Exit → Act → World → Prop} {E : Prop} {B : Nat} {W : World} {v : Value} {xs : List Ins}
    (hown : IR B W v xs) (hgd : o.guard = none) (s x : Operand)
    (ho : o.op = .call { callee := .builtin .append, args := #[s, x], argTypes := #[23, 23] })
    (hs : a.eval s = v) (y : Ins) (q0 : Nat) (hq : W.heap[q0]? = some (.cells #[.int .i64 y.op, .int .i64 y.arg] 37 (0, 0))) (hx : a.eval x = .slice (some ⟨q0, 0, none⟩) 1 1)
    (hlen : xs.length ≤ 1000) (hB : B ≤ W.heap.size)
    (h : ∀ q cap w', IR B w' (.slice (some ⟨q, 0, none⟩) (xs.length + 1) cap) (xs ++ [y]) → W.grownBy w' v.ownBlock → (v.ownBlock = some q ∨ q = W.heap.size) → q < w'.heap.size →
      K (a.put o.dst (.slice (some ⟨q, 0, none⟩) (xs.length + 1) cap)) w') :
    if Region.wanted o (yielded ops a.tmps) = true then Oper.wp Try.prog o a W K Q else E := by
  obtain ⟨i0, hi, hy0, hy1, hy2⟩ := info_parts Try.infoIns
  refine step_append_lies _ hgd s x 23 ho B 37 i0 (.agg #[.int .i64 0, .int .i64 0]) 2 16 Try.underlying23 hi hy0 hy1 hy2 rfl (by decide) v xs.length (insCells xs) hs hown ⟨q0, 0, none⟩ 1 1 [.int .i64 y.op, .int .i64 y.arg] hx rfl
    (World.news_of_block (cs := #[.int .i64 y.op, .int .i64 y.arg]) hq) ?_ (by omega) ?_ ?_ hB W.heap.size rfl ?_
  · intro u hu
    simp at hu
    rcases hu with rfl | rfl <;> rfl
  · unfold maxLen; omega
  · omega
  · intro q cap w' h2 h3 h4 h5
    refine h q cap w' ?_ h3 h4 h5
    unfold IR insCells
    rw [List.flatMap_append, List.length_append]
    exact h2

namespace Rc
/-- What is bad stays bad. -/
theorem txts_none {L : List UInt8} {a k : Nat} (h : txts L a k = none) : ∀ n, k ≤ n → txts L a n = none := by
  intro n hn
  induction n with
  | zero => rw [show k = 0 by omega] at h; exact h
  | succ n ih =>
    by_cases hk : k = n + 1
    · rw [← hk]; exact h
    · simp only [txts]; rw [ih (by omega)]
theorem inss_none {L : List UInt8} {a k : Nat} (h : inss L a k = none) : ∀ n, k ≤ n → inss L a n = none := by
  intro n hn
  induction n with
  | zero => rw [show k = 0 by omega] at h; exact h
  | succ n ih =>
    by_cases hk : k = n + 1
    · rw [← hk]; exact h
    · simp only [inss]; rw [ih (by omega)]
theorem ans_1 {L : List UInt8} (h : rv L 0 = none) : ans L = none := by unfold ans; rw [h]
theorem ans_2 {L : List UInt8} {n a1 : Nat} (h : rv L 0 = some (n, a1)) (h2 : 60 < n) : ans L = none := by unfold ans; rw [h]; simp only; rw [if_pos h2]
theorem ans_3 {L : List UInt8} {n a1 k : Nat} (h : rv L 0 = some (n, a1)) (h2 : txts L a1 k = none) (hk : k ≤ n) : ans L = none := by
  unfold ans; rw [h]; simp only
  split
  · rfl
  · rw [txts_none h2 n hk]
theorem ans_4 {L : List UInt8} {n a1 a2 : Nat} {ts : List (List UInt8)} (h : rv L 0 = some (n, a1)) (h2 : txts L a1 n = some (ts, a2)) (h3 : rv L a2 = none) : ans L = none := by
  unfold ans; rw [h]; simp only
  split
  · rfl
  · rw [h2]; simp only; rw [h3]
theorem ans_5 {L : List UInt8} {n a1 a2 m a3 : Nat} {ts : List (List UInt8)} (h : rv L 0 = some (n, a1)) (h2 : txts L a1 n = some (ts, a2)) (h3 : rv L a2 = some (m, a3)) (h4 : 250 < m) : ans L = none := by
  unfold ans; rw [h]; simp only
  split
  · rfl
  · rw [h2]; simp only; rw [h3]; simp only; rw [if_pos h4]
theorem ans_6 {L : List UInt8} {n a1 a2 m a3 k : Nat} {ts : List (List UInt8)} (h : rv L 0 = some (n, a1)) (h2 : txts L a1 n = some (ts, a2)) (h3 : rv L a2 = some (m, a3)) (h4 : inss L a3 k = none) (hk : k ≤ m) : ans L = none := by
  unfold ans; rw [h]; simp only
  split
  · rfl
  · rw [h2]; simp only; rw [h3]; simp only
    split
    · rfl
    · rw [inss_none h4 m hk]
/-- All but the last two numbers is read. -/
theorem ans_7 {L : List UInt8} {n a1 a2 m a3 a4 : Nat} {ts : List (List UInt8)} {xs : List Ins} (h : rv L 0 = some (n, a1)) (hn : n ≤ 60) (h2 : txts L a1 n = some (ts, a2)) (h3 : rv L a2 = some (m, a3)) (hm : m ≤ 250) (h4 : inss L a3 m = some (xs, a4)) :
    ans L = match rv L a4 with
          | none => none
          | some (l, a5) => match rv L a5 with
            | none => none
            | some (u, a6) => if a6 = L.length ∧ Cd.ok (ts.map fun t => ⟨t.toArray⟩) xs 0 (l : Int) (u : Int) = true then some (ts.map fun t => ⟨t.toArray⟩, xs, l, u) else none := by
  unfold ans
  rw [h]; simp only
  rw [if_neg (by omega), h2]; simp only
  rw [h3]; simp only
  rw [if_neg (by omega), h4]
  rfl
theorem txts_S {L : List UInt8} {a k b : Nat} {ts : List (List UInt8)} (h : txts L a k = some (ts, b)) : txts L a (k + 1) = match rs L b with
      | none => none
      | some (t, c) => some (ts ++ [t], c) := by simp only [txts]; rw [h]; rfl
theorem inss_S {L : List UInt8} {a k b : Nat} {xs : List Ins} (h : inss L a k = some (xs, b)) : inss L a (k + 1) = if b + 2 ≤ L.length then some (xs ++ [⟨((L.getD b 0).toNat : Int), ((L.getD (b + 1) 0).toNat : Int)⟩], b + 2) else none := by simp only [inss]; rw [h]
end Rc
end PartRcD
section PartMsB
open Go.RowKit

/-- n instructions in block r that may be written; the first m bear marks from k on. -/
def WJ (w : World) (r n k m : Nat) : Prop := ∃ arr : Array Value, w.heap[r]? = some (.cells arr 37 (0, 0)) ∧ n * 2 ≤ arr.size ∧ ∀ i, i < m → arr[i * 2]? = some (.int .i64 ((k + 2 * i : Nat) : Int)) ∧ arr[i * 2 + 1]? = some (.int .i64 ((k + 2 * i + 1 : Nat) : Int))
theorem WJ.blk {w w' : World} {r n k m : Nat} (h : WJ w r n k m) (hk : w'.heap[r]? = w.heap[r]?) : WJ w' r n k m := by
  obtain ⟨arr, ha, hs, hm⟩ := h
  exact ⟨arr, hk.trans ha, hs, hm⟩
theorem WJ.lt {w : World} {r n k m : Nat} (h : WJ w r n k m) : r < w.heap.size := by
  obtain ⟨arr, ha, -⟩ := h
  exact blk_lt ha
theorem WJ.next {wr : World} {r n k j : Nat} {a b : Int} (h : WJ wr r n k j) (hj : j < n) (ha : a = ((k + 2 * j : Nat) : Int)) (hb : b = ((k + 2 * j + 1 : Nat) : Int)) :
    WJ ((wr.setCell ⟨r, j * 2, none⟩ (.int .i64 a)).setCell ⟨r, j * 2 + 1, none⟩ (.int .i64 b)) r n k (j + 1) := by
  subst ha hb
  obtain ⟨arr, ha, hs, hm⟩ := h
  refine ⟨_, blk_set (blk_set ha (j * 2) _) (j * 2 + 1) _, by simpa using hs, fun i hi => ?_⟩
  by_cases e : i = j
  · subst e
    refine ⟨?_, ?_⟩
    · rw [Array.getElem?_setIfInBounds, if_neg (by omega), Array.getElem?_setIfInBounds, if_pos rfl, if_pos (by omega)]
    · rw [Array.getElem?_setIfInBounds, if_pos rfl, if_pos (by simp; omega)]
  · obtain ⟨m0, m1⟩ := hm i (by omega)
    refine ⟨?_, ?_⟩
    · rw [Array.getElem?_setIfInBounds, if_neg (by omega), Array.getElem?_setIfInBounds, if_neg (by omega)]; exact m0
    · rw [Array.getElem?_setIfInBounds, if_neg (by omega), Array.getElem?_setIfInBounds, if_neg (by omega)]; exact m1
/-- The row v of n instructions, in a block of S that may be written; the first m bear marks from k on. -/
def WJv (S : Nat → Prop) (w : World) (v : Value) (n k m : Nat) : Prop := ∃ ad c, v = .slice ad n c ∧ (0 < n → ∃ r, ad = some ⟨r, 0, none⟩ ∧ S r ∧ WJ w r n k m)

set_option maxRecDepth 100000 in
set_option maxHeartbeats 2000000 in
theorem markIns_any (S : Nat → Prop) (n k : Nat) (v : Value) (w : World) (h : WJv S w v n k 0) (hn2 : n ≤ 1000) (hk : k ≤ 10000000) :
    Calls Try.prog 20 #[v, .int .i64 (k : Int)] w fun e w' => e = .returned (.int .i64 ((k + 2 * n : Nat) : Int)) ∧ WJv S w' v n k n ∧ FS S w w' := by
  obtain ⟨ad, c, rfl, f⟩ := h
  by_cases h0 : n = 0
  · subst h0
    clear f
    go_enter Try.func20, Try.ntmps20
    go_wp2
    refine wp_loop_rounds 1 ?_
    rw [rounds_succ]
    go_wp2
    go_ret
    exact ⟨rfl, ⟨ad, c, rfl, fun h => by omega⟩, FS.refl _ _⟩
  · obtain ⟨r, rfl, h1, hw⟩ := f (by omega)
    have HW : Hid (WJ w r n k 0) := hw
    have HIN : Hid (S r) := h1
    clear f hw h1
    go_enter Try.func20, Try.ntmps20
    go_wp2
    go_loopw [1, 5] (fun q i wr => ∃ j : Nat, i = .int .i64 (j : Int) ∧ q = .int .i64 ((k : Int) + 2 * (j : Int)) ∧ j ≤ n ∧ Hid (FS S w wr) ∧ Hid (WJ wr r n k j)) (fun _ i _ => n - (intOf i).toNat)
    case atStart => exact ⟨0, rfl, by simp, by omega, FS.refl _ _, HW.out⟩
    case round =>
      obtain ⟨j, rfl, rfl, hj, HF, HH⟩ := hrel
      by_cases hlt : j < n
      · obtain ⟨arr, ha, hs, -⟩ := HH.out
        have i1 : (j : Int) < (n : Int) := by omega
        have x0 := blk_cell ha (j * 2)
        rw [Array.getElem?_eq_getElem (by omega)] at x0
        have y0 := blk_free ha (j * 2)
        have x1 := blk_cell ha (j * 2 + 1)
        rw [Array.getElem?_eq_getElem (by omega)] at x1
        have y1 := blk_free ha (j * 2 + 1)
        have HN := hidOf3 (HH.out.next hlt (a := (k : Int) + 2 * (j : Int)) (b := (k : Int) + 2 * (j : Int) + 1) (by omega) (by omega))
        have HF2 := hidOf3 ((HF.out.set r (j * 2) (.int .i64 ((k : Int) + 2 * (j : Int))) HIN.out).set r (j * 2 + 1) (.int .i64 ((k : Int) + 2 * (j : Int) + 1)) HIN.out)
        clear HH HF ha
        go_wp2
        go_roundw
        case rel => exact ⟨j + 1, by go_num, by go_num, by omega, HF2.out, HN.out⟩
        case measure => simp [intOf]; omega
      · obtain rfl : j = n := by omega
        go_wp2
        go_ret
        exact ⟨by go_num, ⟨_, c, rfl, fun _ => ⟨r, rfl, HIN.out, HH.out⟩⟩, HF.out⟩

set_option maxRecDepth 100000 in
set_option maxHeartbeats 2000000 in
theorem heldIns_any (S : Nat → Prop) (n k : Nat) (v : Value) (w : World) (h : WJv S w v n k n) (hn2 : n ≤ 1000) (hk : k ≤ 10000000) :
    Calls Try.prog 22 #[v, .int .i64 (k : Int)] w fun e w' => e = .returned (.int .i64 ((k + 2 * n : Nat) : Int)) ∧ w' = w := by
  obtain ⟨ad, c, rfl, f⟩ := h
  by_cases h0 : n = 0
  · subst h0
    clear f
    go_enter Try.func22, Try.ntmps22
    go_wp2
    refine wp_loop_rounds 1 ?_
    rw [rounds_succ]
    go_wp2
    go_ret
    exact ⟨rfl, rfl⟩
  · obtain ⟨r, rfl, h1, arr, ha, hs, hm⟩ := f (by omega)
    have HW : Hid (∀ j, j < n → w.cell? ⟨r, j * 2, none⟩ = some (.int .i64 ((k : Int) + 2 * (j : Int))) ∧ w.cell? ⟨r, j * 2 + 1, none⟩ = some (.int .i64 ((k : Int) + 2 * (j : Int) + 1))) := by
      intro j hj
      obtain ⟨m0, m1⟩ := hm j hj
      refine ⟨?_, ?_⟩
      · rw [blk_cell ha, m0]; rfl
      · rw [blk_cell ha, m1]; rfl
    clear f h1 ha hs hm
    go_enter Try.func22, Try.ntmps22
    go_wp2
    go_loop [1, 5] (fun q i => ∃ j : Nat, i = .int .i64 (j : Int) ∧ q = .int .i64 ((k : Int) + 2 * (j : Int)) ∧ j ≤ n) (fun _ i => n - (intOf i).toNat)
    case atStart => exact ⟨0, rfl, by simp, by omega⟩
    case round =>
      obtain ⟨j, rfl, rfl, hj⟩ := hrel
      by_cases hlt : j < n
      · obtain ⟨c0, c1⟩ := HW.out j hlt
        have i1 : (j : Int) < (n : Int) := by omega
        have hq : ∀ z : Int, (z != z) = false := by simp
        go_wp2
        go_round
        case rel => exact ⟨j + 1, by go_num, by go_num, by omega⟩
        case measure => simp [intOf]; omega
      · obtain rfl : j = n := by omega
        go_wp2
        go_ret
        exact ⟨by go_num, rfl⟩
theorem WJv.keep {S : Nat → Prop} {w w' : World} {v : Value} {n k m : Nat} (h : WJv S w v n k m) (hk : ∀ r, 0 < n → v.ownBlock = some r → w'.heap[r]? = w.heap[r]?) : WJv S w' v n k m := by
  obtain ⟨ad, c, rfl, f⟩ := h
  refine ⟨ad, c, rfl, fun h0 => ?_⟩
  obtain ⟨r, rfl, h1, h2⟩ := f h0
  exact ⟨r, rfl, h1, h2.blk (hk r h0 rfl)⟩
theorem WJv.lt {S : Nat → Prop} {w : World} {v : Value} {n k m : Nat} (h : WJv S w v n k m) (h0 : 0 < n) {r : Nat} (e : v.ownBlock = some r) : r < w.heap.size := by
  obtain ⟨ad, c, rfl, f⟩ := h
  obtain ⟨r', rfl, h1, h2⟩ := f h0
  obtain rfl : r' = r := by simpa [Value.ownBlock] using e
  exact h2.lt
/-- The block of a row of n. -/
def SBk (v : Value) (n : Nat) : Nat → Prop := fun x => 0 < n ∧ v.ownBlock = some x
/-- Code that was read, in memory of X .. C that may be written; m, k: how many texts and instructions are marked. -/
structure CW (X C : Nat) (w : World) (tv lv : Value) (n ln : Nat) (m k : Nat) : Prop where
  txs : WTv (SBk tv n) w tv n 1 m
  ins : WJv (SBk lv ln) w lv ln (1 + n) k
  inT : ∀ x, SBk tv n x → X ≤ x ∧ x < C
  inI : ∀ x, SBk lv ln x → X ≤ x ∧ x < C
  far : ∀ x, SBk lv ln x → ¬ SBk tv n x
theorem CW.keep {X C : Nat} {w w' : World} {tv lv : Value} {n ln m k : Nat} (h : CW X C w tv lv n ln m k) (hb : Below w.heap.size w w') : CW X C w' tv lv n ln m k :=
  ⟨h.txs.keep (fun r h0 e => hb.block r (h.txs.lt h0 e)), h.ins.keep (fun r h0 e => hb.block r (h.ins.lt h0 e)), h.inT, h.inI, h.far⟩
theorem cells5c {w : World} {g : Nat} {a b c d e : Value} {t : TypeId} (h : w.heap[g]? = some (.cells #[a, b, c, d, e] t (0, 0))) :
    w.cell? ⟨g, 0, none⟩ = some a ∧ w.cell? ⟨g, 1, none⟩ = some b ∧ w.cell? ⟨g, 2, none⟩ = some c ∧ w.cell? ⟨g, 3, none⟩ = some d ∧ w.cell? ⟨g, 4, none⟩ = some e :=
  ⟨(blk_cell h 0).trans rfl, (blk_cell h 1).trans rfl, (blk_cell h 2).trans rfl, (blk_cell h 3).trans rfl, (blk_cell h 4).trans rfl⟩
set_option maxRecDepth 100000 in
set_option maxHeartbeats 800000 in
theorem markCode_any (X C n ln : Nat) (tv lv : Value) (bg li en : Int) (w : World) (h0 : CW X C w tv lv n ln 0 0) (hC : C ≤ w.heap.size) (hn2 : n ≤ 1000) (hr2 : ln ≤ 1000) :
    Calls Try.prog 7 #[.agg #[tv, lv, .int .i64 bg, .int .i64 li, .int .i64 en], .int .i64 1] w fun e w' => e = .returned (.int .i64 ((1 + n + 2 * ln : Nat) : Int)) ∧ CW X C w' tv lv n ln n ln ∧ FS (fun x => X ≤ x ∧ x < C) w w' := by
  have hb : Below w.heap.size w (w.alloc (.cells #[tv, lv, .int .i64 bg, .int .i64 li, .int .i64 en] 25)) := (Below.refl _ _).alloc (Nat.le_refl _) _
  have q0 := heap_alloc_new w (.cells #[tv, lv, .int .i64 bg, .int .i64 li, .int .i64 en] 25)
  have h1 := h0.keep hb
  have HFS : Hid (FS (fun x => X ≤ x ∧ x < C) w (w.alloc (.cells #[tv, lv, .int .i64 bg, .int .i64 li, .int .i64 en] 25)) ∧ w.heap.size < (w.alloc (.cells #[tv, lv, .int .i64 bg, .int .i64 li, .int .i64 en] 25)).heap.size) := ⟨FS.ofBelow hb, blk_lt q0⟩
  have HQ0 := hidOf3 q0
  obtain ⟨va, vc, rfl⟩ := h0.txs.form
  obtain ⟨ra, rc, rfl, -⟩ := h0.ins
  have HP := hidOf3 h1
  clear hb q0 h0 h1
  go_enter Try.func7, Try.ntmps7
  go_wp2_with fail
  generalize w.alloc (.cells #[.slice va n vc, .slice ra ln rc, .int .i64 bg, .int .i64 li, .int .i64 en] 25) = W at *
  have CN := hidOf3 (markTxs_any _ n 1 _ W HP.out.txs (by omega) (by omega) (by omega))
  refine CN.out.mono ?_
  rintro e w1 ⟨rfl, hnw, hfs⟩
  have q1 : w1.heap[w.heap.size]? = some (.cells #[.slice va n vc, .slice ra ln rc, .int .i64 bg, .int .i64 li, .int .i64 en] 25 (0, 0)) := (hfs.2.2 _ HFS.out.2 (fun e => by have := HP.out.inT _ e; omega)).trans HQ0.out
  have hr1 : WJv (SBk (.slice ra ln rc) ln) w1 (.slice ra ln rc) ln (1 + n) 0 := HP.out.ins.keep (fun r h0 e => hfs.2.2 r (HP.out.ins.lt h0 e) (HP.out.far r ⟨h0, e⟩))
  have CR := hidOf3 (markIns_any _ ln (1 + n) _ w1 hr1 (by omega) (by omega))
  have HNW := hidOf3 (And.intro hnw (hfs.sub HP.out.inT))
  obtain ⟨k0, k1, -, -, -⟩ := cells5c q1
  clear hnw hfs hr1 CN q1
  go_wp2_with fail
  refine CR.out.mono ?_
  rintro e w2 ⟨rfl, hr3, hfs2⟩
  have HFIN : Hid (CW X C w2 (.slice va n vc) (.slice ra ln rc) n ln n ln ∧ FS (fun x => X ≤ x ∧ x < C) w w2) :=
    ⟨⟨HNW.out.1.keep (fun r h0 e => hfs2.2.2 r (HNW.out.1.lt h0 e) (fun e2 => HP.out.far r e2 ⟨h0, e⟩)), hr3, HP.out.inT, HP.out.inI, HP.out.far⟩, (HFS.out.1.trans HNW.out.2).trans (hfs2.sub HP.out.inI)⟩
  clear hr3 hfs2 CR k0 k1
  go_wp2
  go_ret
  exact ⟨by go_num, HFIN.out.1, HFIN.out.2⟩
set_option maxRecDepth 100000 in
set_option maxHeartbeats 800000 in
theorem heldCode_any (X C n ln : Nat) (tv lv : Value) (bg li en : Int) (w : World) (h0 : CW X C w tv lv n ln n ln) (hn2 : n ≤ 1000) (hr2 : ln ≤ 1000) :
    Calls Try.prog 8 #[.agg #[tv, lv, .int .i64 bg, .int .i64 li, .int .i64 en], .int .i64 1] w fun e w' => e = .returned (.int .i64 ((1 + n + 2 * ln : Nat) : Int)) ∧ Below w.heap.size w w' := by
  have hb : Below w.heap.size w (w.alloc (.cells #[tv, lv, .int .i64 bg, .int .i64 li, .int .i64 en] 25)) := (Below.refl _ _).alloc (Nat.le_refl _) _
  have q0 := heap_alloc_new w (.cells #[tv, lv, .int .i64 bg, .int .i64 li, .int .i64 en] 25)
  have h1 := h0.keep hb
  have HQ0 := hidOf3 (And.intro q0 hb)
  obtain ⟨va, vc, rfl⟩ := h0.txs.form
  obtain ⟨ra, rc, rfl, -⟩ := h0.ins
  have HP := hidOf3 h1
  clear hb q0 h0 h1
  have dm : decide (((1 + n : Nat) : Int) < 0) = false := decide_eq_false (by omega)
  have dm2 : decide ((1 : Int) + (n : Int) < 0) = false := decide_eq_false (by omega)
  have dz : decide (((1 + n + 2 * ln : Nat) : Int) < 0) = false := decide_eq_false (by omega)
  have dz2 : decide ((1 : Int) + (n : Int) + 2 * (ln : Int) < 0) = false := decide_eq_false (by omega)
  go_enter Try.func8, Try.ntmps8
  go_wp2_with fail
  generalize w.alloc (.cells #[.slice va n vc, .slice ra ln rc, .int .i64 bg, .int .i64 li, .int .i64 en] 25) = W at *
  have CN := hidOf3 (heldTxs_any _ n 1 _ W HP.out.txs (by omega) (by omega) (by omega))
  refine CN.out.mono ?_
  rintro e w1 ⟨rfl, hb1⟩
  have q1 : w1.heap[w.heap.size]? = some (.cells #[.slice va n vc, .slice ra ln rc, .int .i64 bg, .int .i64 li, .int .i64 en] 25 (0, 0)) := (hb1.block _ (blk_lt HQ0.out.1)).trans HQ0.out.1
  have CR := hidOf3 (heldIns_any _ ln (1 + n) _ w1 (HP.out.keep hb1).ins (by omega) (by omega))
  have HBB := hidOf3 (HQ0.out.2.trans (hb1.mono HQ0.out.2.size))
  obtain ⟨k0, k1, -, -, -⟩ := cells5c q1
  clear hb1 CN q1
  go_wp2_with fail
  refine CR.out.mono ?_
  rintro e w2 ⟨rfl, rfl⟩
  clear CR k0 k1
  go_wp2
  go_ret
  exact ⟨by go_num, HBB.out⟩
end PartMsB
end Go.Proofs.Ytbghghflepjdkaa
