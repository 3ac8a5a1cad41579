/- Patterns in memory: the law's own copy of a pattern. Frames: what of a world is as it was. The specification's reader of a pattern: one piece more. -/
import Derived.Test.YtbghghflepjdkaaZaa
import Derived.OwnWalk
import Derived.Laws.MakeOwn
import Derived.Laws.OwnMore
import Derived.Test.YtbghghflepjdkaaProg
import Derived.WalkKit
import Derived.Below
import Derived.Deep.RegionLaw
import Derived.Deep.AppendLies
namespace Go.Proofs.Ytbghghflepjdkaa
section PartPtB
open Go.RowKit

/-- A number as a value. -/
def iv (z : Int) : Value := .int .i64 z
/-- Block q holds the numbers ks, and no more. -/
def KidsBlk (w : World) (q : Nat) (ks : List Int) : Prop := w.heap[q]? = some (.cells (ks.map iv).toArray 3 (0, 0))
theorem blk_lt {w : World} {g : Nat} {o : Obj} (h : w.heap[g]? = some o) : g < w.heap.size := (Array.getElem?_eq_some_iff.1 h).1
theorem blk_cell {w : World} {g : Nat} {arr : Array Value} {t : TypeId} (h : w.heap[g]? = some (.cells arr t (0, 0))) (j : Nat) : w.cell? ⟨g, j, none⟩ = arr[j]? := by
  simp [World.cell?, h]
theorem blk_free {w : World} {g : Nat} {arr : Array Value} {t : TypeId} (h : w.heap[g]? = some (.cells arr t (0, 0))) (j : Nat) : w.frozen? ⟨g, j, none⟩ = false := by
  simp [World.frozen?, h]
theorem blk_set {w : World} {g : Nat} {arr : Array Value} {t : TypeId} (h : w.heap[g]? = some (.cells arr t (0, 0))) (j : Nat) (u : Value) : (w.setCell ⟨g, j, none⟩ u).heap[g]? = some (.cells (arr.setIfInBounds j u) t (0, 0)) := by
  simp [World.setCell, Array.getElem?_modify, h]
theorem KidsBlk.at {w : World} {q : Nat} {ks : List Int} (h : KidsBlk w q ks) (c : Nat) : KidsAt w (.slice (some ⟨q, 0, none⟩) ks.length c) ks := by
  refine ⟨_, _, rfl, fun _ => ⟨q, 0, rfl, blk_lt h, fun i hi => ?_⟩⟩
  rw [blk_cell h, Nat.zero_add]
  simp [hi, iv]

theorem Try.infoI : (Try.prog.info? 3).map (fun i => (i.zero, i.size, i.bytes)) = some (some (.int .i64 0), 1, 8) := by kernel_rfl
theorem Try.infoP : (Try.prog.info? 102).map (fun i => (i.zero, i.size, i.bytes)) = some (some (.agg #[.int .i64 0, .string ByteArray.empty, .slice none 0 0]), 3, 48) := by kernel_rfl

/-- make of n numbers, all nought. -/
theorem makeI_run (n : Nat) (h : n ≤ 1000000000) : ∃ M : Array Value, M = ((List.replicate n (0 : Int)).map iv).toArray ∧ ∀ W : World, (Instr.makeSlice 62 (.int .i64 (n : Int)) (.int .i64 (n : Int))).run Try.prog W = .ok (.slice (some ⟨W.heap.size, 0, none⟩) n n) (W.alloc (.cells M 3)) := by
  obtain ⟨i0, hi, hz0, hz1, hz2⟩ := info_parts Try.infoI
  refine ⟨madeCells (Value.int .i64 0).cells (((n : Nat) : Int).toNat * i0.size), ?_, fun W => ?_⟩
  · rw [hz1]
    have := toList_madeCells_one (.int .i64 0) n
    simp only [Int.toNat_natCast, Nat.mul_one, List.map_replicate]
    apply Array.ext'
    exact this.trans (by simp [iv])
  · have h := run_make (P := Try.prog) W 62 3 i0 (.int .i64 0) Try.underlying62 hi hz0 .i64 .i64 (n : Int) (n : Int) (by omega) (by omega) (by rw [hz2]; omega) (by omega)
    simpa using h
theorem alloc3_1 (w : World) (A B C : Obj) : (((w.alloc A).alloc B).alloc C).heap[w.heap.size + 1]? = some B := by
  show (((w.heap.push A).push B).push C)[w.heap.size + 1]? = some B
  rw [Array.getElem?_push, if_neg (by simp), Array.getElem?_push]
  simp

/-- The law's own copy of the pieces ps: its row in block g, and of each piece its kids in a block of its own, one behind the other. -/
def Copy (w : World) (g n : Nat) (ps : List Pi) (k : Nat) : Prop :=
  (∃ arr, w.heap[g]? = some (.cells arr 102 (0, 0)) ∧ arr.size = n * 3) ∧
  ∃ Q : Nat → Nat, (∀ i, i < k → g < Q i ∧ w.cell? ⟨g, i * 3, none⟩ = some (.int .i64 (ps.getD i Pi.no).op) ∧ w.cell? ⟨g, i * 3 + 1, none⟩ = some (.string (ps.getD i Pi.no).text) ∧
    w.cell? ⟨g, i * 3 + 2, none⟩ = some (.slice (some ⟨Q i, 0, none⟩) (ps.getD i Pi.no).kids.length (ps.getD i Pi.no).kids.length) ∧ KidsBlk w (Q i) (ps.getD i Pi.no).kids) ∧ ∀ i j, i < j → j < k → Q i < Q j

theorem KidsBlk.keep {w w' : World} {q : Nat} {ks : List Int} (h : KidsBlk w q ks) (hb : Below w.heap.size w w') : KidsBlk w' q ks := (hb.block q (blk_lt h)).trans h
theorem Copy.keep {w w' : World} {g n k : Nat} {ps : List Pi} (h : Copy w g n ps k) (hb : Below w.heap.size w w') : Copy w' g n ps k := by
  obtain ⟨⟨arr, ha, hs⟩, Q, hQ, hm⟩ := h
  have hl := blk_lt ha
  refine ⟨⟨arr, (hb.block g hl).trans ha, hs⟩, Q, fun i hi => ?_, hm⟩
  obtain ⟨h1, h2, h3, h4, h5⟩ := hQ i hi
  exact ⟨h1, (hb.cell hl).trans h2, (hb.cell hl).trans h3, (hb.cell hl).trans h4, h5.keep hb⟩
theorem Copy.at {w : World} {g : Nat} {ps : List Pi} (h : Copy w g ps.length ps ps.length) (c : Nat) : PcsAt w (.slice (some ⟨g, 0, none⟩) ps.length c) ps := by
  obtain ⟨⟨arr, ha, hs⟩, Q, hQ, hm⟩ := h
  refine ⟨_, _, rfl, fun _ => ⟨g, 0, rfl, blk_lt ha, fun i hi => ?_⟩⟩
  obtain ⟨h1, h2, h3, h4, h5⟩ := hQ i hi
  rw [Nat.zero_add]
  exact ⟨_, h2, h3, h4, h5.at _⟩

/-- One piece more is stored. -/
theorem Copy.more {w w1 : World} {g n k q : Nat} {ps : List Pi} (h : Copy w g n ps k) (hk : k < n) (hb : Below w.heap.size w w1) (hq1 : w.heap.size ≤ q) (hq : KidsBlk w1 q (ps.getD k Pi.no).kids) :
    Copy (((w1.setCell ⟨g, k * 3, none⟩ (.int .i64 (ps.getD k Pi.no).op)).setCell ⟨g, k * 3 + 1, none⟩ (.string (ps.getD k Pi.no).text)).setCell ⟨g, k * 3 + 2, none⟩ (.slice (some ⟨q, 0, none⟩) (ps.getD k Pi.no).kids.length (ps.getD k Pi.no).kids.length)) g n ps (k + 1) := by
  obtain ⟨⟨arr, ha, hs⟩, Q, hQ, hm⟩ := h.keep hb
  have hgl : g < w.heap.size := by obtain ⟨⟨_, ha', _⟩, _⟩ := h; exact blk_lt ha'
  have hQl : ∀ i, i < k → Q i < w1.heap.size := fun i hi => blk_lt (hQ i hi).2.2.2.2
  have R := blk_set (blk_set (blk_set ha (k * 3) (.int .i64 (ps.getD k Pi.no).op)) (k * 3 + 1) (.string (ps.getD k Pi.no).text)) (k * 3 + 2) (.slice (some ⟨q, 0, none⟩) (ps.getD k Pi.no).kids.length (ps.getD k Pi.no).kids.length)
  obtain ⟨w2, hw2⟩ : ∃ w2, w2 = (((w1.setCell ⟨g, k * 3, none⟩ (.int .i64 (ps.getD k Pi.no).op)).setCell ⟨g, k * 3 + 1, none⟩ (.string (ps.getD k Pi.no).text)).setCell ⟨g, k * 3 + 2, none⟩ (.slice (some ⟨q, 0, none⟩) (ps.getD k Pi.no).kids.length (ps.getD k Pi.no).kids.length)) := ⟨_, rfl⟩
  have hO : ∀ j, j ≠ g → w2.heap[j]? = w1.heap[j]? := by
    intro j hj
    rw [hw2, Below.heap_setCell _ _ _ _ (by show j ≠ g; exact hj), Below.heap_setCell _ _ _ _ (by show j ≠ g; exact hj), Below.heap_setCell _ _ _ _ (by show j ≠ g; exact hj)]
  rw [← hw2] at R ⊢
  clear hw2
  have hC : ∀ j, j < k * 3 → w2.cell? ⟨g, j, none⟩ = w1.cell? ⟨g, j, none⟩ := by
    intro j hj
    rw [blk_cell R, blk_cell ha]
    simp [Array.getElem?_setIfInBounds]
    rw [if_neg (by omega), if_neg (by omega), if_neg (by omega)]
  refine ⟨⟨_, R, by simpa using hs⟩, fun i => if i = k then q else Q i, fun i hi => ?_, fun i j hij hj => ?_⟩
  · by_cases hik : i = k
    · subst hik
      simp only [↓reduceIte]
      refine ⟨by omega, ?_, ?_, ?_, ?_⟩
      · rw [blk_cell R]; simp [Array.getElem?_setIfInBounds]; omega
      · rw [blk_cell R]; simp [Array.getElem?_setIfInBounds]; omega
      · rw [blk_cell R]; simp [Array.getElem?_setIfInBounds]; omega
      · exact (hO q (by omega)).trans hq
    · simp only [if_neg hik]
      obtain ⟨h1, h2, h3, h4, h5⟩ := hQ i (by omega)
      exact ⟨h1, (hC _ (by omega)).trans h2, (hC _ (by omega)).trans h3, (hC _ (by omega)).trans h4, (hO (Q i) (by omega)).trans h5⟩
  · have hi : i < k := by omega
    simp only [if_neg (show ¬ i = k by omega)]
    by_cases hjk : j = k
    · simp only [hjk, ↓reduceIte]
      have h0 : Q i < w.heap.size := by
        obtain ⟨_, Q', hQ', _⟩ := h
        have e1 := (hQ' i hi).2.2.2.1
        have e2 := (hQ i hi).2.2.2.1
        have e3 := hb.cell (p := ⟨g, i * 3 + 2, none⟩) hgl
        rw [e1, e2] at e3
        have : Q i = Q' i := by simpa using e3
        rw [this]
        exact blk_lt (hQ' i hi).2.2.2.2
      omega
    · simp only [if_neg hjk]
      exact hm i j hij (by omega)

end PartPtB
section PartFrm
open Go.RowKit

/-- All but the memory is as it was. -/
def Env (w w' : World) : Prop := w'.os = w.os ∧ w'.tape = w.tape ∧ w'.output = w.output
theorem Env.refl (w : World) : Env w w := ⟨rfl, rfl, rfl⟩
theorem Env.trans {w w1 w2 : World} (h : Env w w1) (k : Env w1 w2) : Env w w2 := ⟨k.1.trans h.1, k.2.1.trans h.2.1, k.2.2.trans h.2.2⟩
/-- A frame: what lies below B, and from C on, is as it was. -/
def FM (B C : Nat) (w w' : World) : Prop := Env w w' ∧ w.heap.size ≤ w'.heap.size ∧ ∀ k, k < w.heap.size → (k < B ∨ C ≤ k) → w'.heap[k]? = w.heap[k]?
theorem FM.refl (B C : Nat) (w : World) : FM B C w w := ⟨Env.refl w, Nat.le_refl _, fun _ _ _ => rfl⟩
theorem FM.set {B C : Nat} {w w' : World} (h : FM B C w w') (r o : Nat) (u : Value) (h1 : B ≤ r) (h2 : r < C) : FM B C w (w'.setCell ⟨r, o, none⟩ u) :=
  ⟨h.1, by simpa [World.setCell] using h.2.1, fun k hk hkk => by rw [Below.heap_setCell _ _ _ _ (by show k ≠ r; omega)]; exact h.2.2 k hk hkk⟩
theorem FM.up {B C : Nat} {w w' w2 : World} (h : FM B C w w') (hb : Below w'.heap.size w' w2) : FM B C w w2 :=
  ⟨h.1.trans ⟨hb.os, hb.tape, hb.output⟩, Nat.le_trans h.2.1 hb.size, fun k hk hkk => (hb.block k (Nat.lt_of_lt_of_le hk h.2.1)).trans (h.2.2 k hk hkk)⟩
theorem FM.below {B C : Nat} {w w' : World} (h : FM B C w w') (hB : B ≤ w.heap.size) : Below B w w' := ⟨h.1.1, h.1.2.1, h.1.2.2, h.2.1, fun k hk => h.2.2 k (by omega) (.inl hk)⟩
end PartFrm
section PartRdB
open Go.RowKit

/-- The row of n pieces, their cells cs, in the reader's own memory from block B on. -/
def PR (B : Nat) (w : World) (v : Value) (n : Nat) (cs : List Value) : Prop := w.ownsRow B 102 3 v n cs

theorem set3 {w : World} {g : Nat} {a b c d : Value} {t : TypeId} (h : w.heap[g]? = some (.cells #[a, b, c, d] t (0, 0))) (u : Value) : (w.setCell ⟨g, 3, none⟩ u).heap[g]? = some (.cells #[a, b, c, u] t (0, 0)) := by
  simp [World.setCell, Array.getElem?_modify, h]
theorem set2' {w : World} {g : Nat} {a b c d : Value} {t : TypeId} (h : w.heap[g]? = some (.cells #[a, b, c, d] t (0, 0))) (u : Value) : (w.setCell ⟨g, 2, none⟩ u).heap[g]? = some (.cells #[a, b, u, d] t (0, 0)) := by
  simp [World.setCell, Array.getElem?_modify, h]

theorem PR.far {B g : Nat} {w : World} {v : Value} {n : Nat} {cs : List Value} (h : PR B w v n cs) (hg : g < B) : v.ownBlock ≠ some g := by
  intro e
  have := (World.ownsRow.lt h g e).1
  omega

/-- A store into the reader itself leaves the row as it was. -/
theorem PR.set {B g : Nat} {w : World} {v : Value} {n : Nat} {cs : List Value} (h : PR B w v n cs) (hg : g < B) (o : Nat) (u : Value) : PR B (w.setCell ⟨g, o, none⟩ u) v n cs := by
  refine ⟨h.1, ?_⟩
  rcases h.2 with hn | ⟨g2, cap2, cur, hv2, hb2, hc2, rest⟩
  · exact .inl hn
  · refine .inr ⟨g2, cap2, cur, hv2, hb2, ?_, rest⟩
    rw [Below.heap_setCell _ _ _ _ (by show g2 ≠ g; omega)]
    exact hc2

/-- One piece more, at a step of a sentence that draws its order. -/
theorem PR.step {ops : Array Oper} {o : Oper} {a : Act} {K : Act → World → Prop} {Q : Exit → Act → World → Prop} {E : Prop} {B : Nat} {w : World} {v : Value} {n : Nat} {cs : List Value}
    (hown : PR B w v n cs) (hgd : o.guard = none) (s x : Operand)
    (ho : o.op = .call { callee := .builtin .append, args := #[s, x], argTypes := #[75, 75] })
    (hs : a.eval s = v) (c1 c2 c3 : Value) (k1 : c1.oneCell' = true) (k2 : c2.oneCell' = true) (k3 : c3.oneCell' = true) (o1 : Obj) (hx : a.eval x = .slice (some ⟨w.heap.size + 1, 0, none⟩) 1 1)
    (hlen : n ≤ 1000) (hB : B ≤ w.heap.size)
    (h : ∀ q cap w', PR B w' (.slice (some ⟨q, 0, none⟩) (n + 1) cap) (n + 1) (cs ++ [c1, c2, c3]) → w.heap.size ≤ w'.heap.size → (v.ownBlock = some q ∨ w.heap.size ≤ q) → q < w'.heap.size → Below B w w' →
      (∀ ad u, w.cell? ad = some u → v.ownBlock ≠ some ad.block → w'.cell? ad = some u) → (∀ k, k < w.heap.size → v.ownBlock ≠ some k → w'.heap[k]? = w.heap[k]?) → K (a.put o.dst (.slice (some ⟨q, 0, none⟩) (n + 1) cap)) w') :
    if Region.wanted o (yielded ops a.tmps) = true then Oper.wp Try.prog o a ((w.alloc o1).alloc (.cells #[c1, c2, c3] 102)).drew K Q else E := by
  obtain ⟨i0, hi, hy0, hy1, hy2⟩ := info_parts Try.infoP
  have hsz : ((w.alloc o1).alloc (.cells #[c1, c2, c3] 102)).drew.heap.size = w.heap.size + 2 := by simp
  refine step_append_lies _ hgd s x 75 ho B 102 i0 (.agg #[.int .i64 0, .string ByteArray.empty, .slice none 0 0]) 3 48 Try.underlying75 hi hy0 hy1 hy2 rfl (by decide) v n cs hs (World.ownsRow.drew (World.ownsRow.alloc (World.ownsRow.alloc hown _) _)) ⟨w.heap.size + 1, 0, none⟩ 1 1 [c1, c2, c3] hx rfl
    (World.news_of_block (cs := #[c1, c2, c3]) (t := 102) (fr := (0, 0)) ?_) ?_ (by omega) ?_ ?_ ?_ (w.heap.size + 2) hsz ?_
  · have := heap_alloc_new (w.alloc o1) (.cells #[c1, c2, c3] 102)
    have e : (w.alloc o1).heap.size = w.heap.size + 1 := by simp
    rw [e] at this
    exact this
  · intro u hu
    simp at hu
    rcases hu with rfl | rfl | rfl <;> assumption
  · unfold maxLen; omega
  · omega
  · omega
  · intro q cap w' h2 h3 h4 h5
    have hb0 : Below w.heap.size w ((w.alloc o1).alloc (.cells #[c1, c2, c3] 102)).drew := ((((Below.refl _ w).alloc (Nat.le_refl _) _).alloc (by simp) _).drew)
    have hs3 := h3.size
    refine h q cap w' h2 (by omega) (h4.imp id (fun e => by omega)) h5 ?_ ?_ ?_
    · exact (hb0.mono hB).grown h3 (by omega) (fun k hk => (World.ownsRow.lt hown k hk).1)
    · intro ad u hu hne
      have hlt := World.block_lt_of_cell? w _ hu
      refine h3.cell ((hb0.cell hlt).trans hu) ?_
      intro e; exact hne e.symm
    · intro k hk hne
      rw [h3.block k (by omega) (fun e => hne e.symm)]
      exact hb0.block k hk

set_option maxHeartbeats 2000000 in
set_option maxRecDepth 100000 in
theorem rdPut_any (B g a n op : Nat) (s t : ByteArray) (v : Value) (cs : List Value) (ka : Option Addr) (kl kc : Nat) (bad : Bool) (w : World) (h : Rd w g s a bad v) (hp : PR B w v n cs) (hn : n ≤ 1000) (hg : g < B) (hB : B ≤ w.heap.size) :
    Calls Try.prog 63 #[.pointer (some ⟨g, 0, none⟩), .agg #[.int .i64 (op : Int), .string t, .slice ka kl kc]] w fun e w' => ∃ v' : Value, e = .returned (.int .i64 (n : Int)) ∧ Rd w' g s a (bad || decide (60 < n + 1)) v' ∧ PR B w' v' (n + 1) (cs ++ [.int .i64 (op : Int), .string t, .slice ka kl kc]) ∧
      w.heap.size ≤ w'.heap.size ∧ (∀ k, k < w.heap.size → k ≠ g → v.ownBlock ≠ some k → w'.heap[k]? = w.heap[k]?) ∧ (∀ q, v'.ownBlock = some q → v.ownBlock = some q ∨ w.heap.size ≤ q) ∧ Env w w' := by
  obtain ⟨c0, c1, c2, c3, f0, f1, f2, f3⟩ := cells4 h
  have hgl : g < w.heap.size := by omega
  have hfar := hp.far hg
  go_enter Try.func63, Try.ntmps63
  go_wp2_with fail
  go_region_law ((refine PR.step hp (by rfl) _ _ (by rfl) (by rfl) _ _ _ (by rfl) (by rfl) (by rfl) _ (by rfl) (by omega) hB ?_; intro q cap w1 hp1 hs1 hq1 hq2 hb1 hk1 hh1; have hR1 := (hh1 g hgl hfar).trans h; obtain ⟨d0, d1, d2, d3, e0, e1, e2, e3⟩ := cells4 hR1))
  all_goals
    have hR2 := set3 hR1 (.slice (some ⟨q, 0, none⟩) (n + 1) cap)
    have hp2 := PR.set hp1 hg 3 (.slice (some ⟨q, 0, none⟩) (n + 1) cap)
    have hh2 : ∀ k, k < w.heap.size → k ≠ g → v.ownBlock ≠ some k → (w1.setCell ⟨g, 3, none⟩ (.slice (some ⟨q, 0, none⟩) (n + 1) cap)).heap[k]? = w.heap[k]? := by
      intro k hk hkg hkv
      rw [Below.heap_setCell _ _ _ _ (by show k ≠ g; exact hkg)]
      exact hh1 k hk hkv
    have hs2 : w.heap.size ≤ (w1.setCell ⟨g, 3, none⟩ (.slice (some ⟨q, 0, none⟩) (n + 1) cap)).heap.size := by simp [World.setCell]; omega
    have hen : Env w (w1.setCell ⟨g, 3, none⟩ (.slice (some ⟨q, 0, none⟩) (n + 1) cap)) := ⟨hb1.os, hb1.tape, hb1.output⟩
    obtain ⟨w2, hw2⟩ : ∃ w2, w2 = w1.setCell ⟨g, 3, none⟩ (.slice (some ⟨q, 0, none⟩) (n + 1) cap) := ⟨_, rfl⟩
    rw [← hw2] at hR2 hp2 hh2 hs2 hen ⊢
    have HEN : Hid (Env w w2) := hen
    have HP2 : Hid (PR B w2 (.slice (some ⟨q, 0, none⟩) (n + 1) cap) (n + 1) (cs ++ [.int .i64 (op : Int), .string t, .slice ka kl kc])) := hp2
    have HH2 : Hid (∀ k, k < w.heap.size → k ≠ g → v.ownBlock ≠ some k → w2.heap[k]? = w.heap[k]?) := hh2
    have HQ : Hid (∀ q', (Value.slice (some ⟨q, 0, none⟩) (n + 1) cap).ownBlock = some q' → v.ownBlock = some q' ∨ w.heap.size ≤ q') := by
      intro q' e
      have e2 : q = q' := by simpa [Value.ownBlock] using e
      rw [← e2]
      exact hq1
    clear hen hw2 hp2 hh2 hp1 hh1 hk1 hb1 hq1 hq2 d0 d1 d2 d3 e0 e1 e2 e3 c0 c1 c2 c3 f0 f1 f2 f3 hR1 h hp
    obtain ⟨d0, d1, d2, d3, e0, e1, e2, e3⟩ := cells4 hR2
    by_cases h60 : 60 < n + 1
    · have HB : Hid ((bad || decide (60 < n + 1)) = true) := by show _ = _; simp [h60]
      have dd : decide ((60 : Int) < (n : Int) + 1) = true := by simp; omega
      have HR3 : Hid (Rd (w2.setCell ⟨g, 2, none⟩ (.bool true)) g s a true (.slice (some ⟨q, 0, none⟩) (n + 1) cap)) := set2' hR2 (.bool true)
      go_wp2
      go_ret
      rw [HB.out]
      refine ⟨_, rfl, HR3.out, HP2.out.set hg 2 _, by simpa [World.setCell] using hs2, fun k hk hkg hkv => ?_, HQ.out, HEN.out⟩
      rw [Below.heap_setCell _ _ _ _ (by show k ≠ g; exact hkg)]
      exact HH2.out k hk hkg hkv
    · have HB : Hid ((bad || decide (60 < n + 1)) = bad) := by show _ = _; simp [h60]
      have dd : decide ((60 : Int) < (n : Int) + 1) = false := by simp; omega
      go_wp2
      go_ret
      rw [HB.out]
      exact ⟨_, rfl, hR2, HP2.out, hs2, HH2.out, HQ.out, HEN.out⟩
end PartRdB
end Go.Proofs.Ytbghghflepjdkaa
