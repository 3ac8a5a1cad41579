/- Plain facts: the rounds of Tokens. Plain facts: tokens told from what is left of a text. The program's reader of a pattern: what it holds; one piece more. -/
import Derived.Test.YtlpdjmjbppmibaaGreatMPJoZag
import Derived.Test.YtlpdjmjbppmibaaGreatMPJoRdF
import Derived.Test.YtlpdjmjbppmibaaGreatMPJoZal
import Derived.Test.YtlpdjmjbppmibaaGreatMPJoZar
import Derived.Deep.RegionHeld3
namespace Go.Proofs.YtlpdjmjbppmibaaGreat
section PartTkQ
namespace Tk
end Tk
end PartTkQ
section PartTkS
namespace Tk

def blank (b : UInt8) : Bool := b == 32 || b == 9
/-- The place behind blanks, tabs and a remark. -/
def gap (l : List UInt8) (k : Nat) : Nat := if l[run blank l k]? = some 35 then run (fun b => b != 10) l (run blank l k) else run blank l k
end Tk
end PartTkS
section PartRiA
open Go.RowKit

/-- What the program's reader holds, in block g: what of l is not read yet, from place a on, and its pieces. -/
def Ri (w : World) (g : Nat) (l : List UInt8) (a : Nat) (v : Value) : Prop := w.heap[g]? = some (.cells #[.string ⟨(l.drop a).toArray⟩, v] 166 (0, 0))
theorem cells2 {w : World} {g : Nat} {a b : Value} {t : TypeId} (h : w.heap[g]? = some (.cells #[a, b] t (0, 0))) :
    w.cell? ⟨g, 0, none⟩ = some a ∧ w.cell? ⟨g, 1, none⟩ = some b ∧ w.frozen? ⟨g, 0, none⟩ = false ∧ w.frozen? ⟨g, 1, none⟩ = false := by
  refine ⟨?_, ?_, ?_, ?_⟩ <;> simp [World.cell?, World.frozen?, h]
theorem Ri.up {w w' : World} {g a : Nat} {l : List UInt8} {v : Value} (h : Ri w g l a v) (hb : Below w.heap.size w w') : Ri w' g l a v := (hb.block g (blk_lt h)).trans h

set_option maxRecDepth 100000 in
/-- One piece more, at a step of a sentence that draws its order. -/
theorem PR.step1 {ops : Array Oper} {o : Oper} {a : Act} {K : Act → World → Prop} {Q : Exit → Act → World → Prop} {E : Prop} {B : Nat} {w : World} {v : Value} {n : Nat} {cs : List Value}
    (hown : PR B w v n cs) (hgd : o.guard = none) (s x : Operand)
    (ho : o.op = .call { callee := .builtin .append, args := #[s, x], argTypes := #[140, 140] })
    (hs : a.eval s = v) (c1 c2 c3 : Value) (k1 : c1.oneCell' = true) (k2 : c2.oneCell' = true) (k3 : c3.oneCell' = true) (hx : a.eval x = .slice (some ⟨w.heap.size, 0, none⟩) 1 1)
    (hlen : n ≤ 1000) (hB : B ≤ w.heap.size)
    (h : ∀ q cap w', PR B w' (.slice (some ⟨q, 0, none⟩) (n + 1) cap) (n + 1) (cs ++ [c1, c2, c3]) → w.heap.size ≤ w'.heap.size → (v.ownBlock = some q ∨ w.heap.size ≤ q) → q < w'.heap.size → Below B w w' →
      (∀ k, k < w.heap.size → v.ownBlock ≠ some k → w'.heap[k]? = w.heap[k]?) → K (a.put o.dst (.slice (some ⟨q, 0, none⟩) (n + 1) cap)) w') :
    if Region.wanted o (yielded ops a.tmps) = true then Oper.wp Tryz.prog o a (w.alloc (.cells #[c1, c2, c3] 163)) K Q else E := by
  obtain ⟨i0, hi, hy0, hy1, hy2⟩ := info_parts Tryz.infoP
  have hsz : (w.alloc (.cells #[c1, c2, c3] 163)).heap.size = w.heap.size + 1 := by simp
  refine step_append_lies _ hgd s x 140 ho B 163 i0 (.agg #[.int .i64 0, .string ByteArray.empty, .slice none 0 0]) 3 48 Tryz.underlying140 hi hy0 hy1 hy2 rfl (by decide) v n cs hs (World.ownsRow.alloc hown _) ⟨w.heap.size, 0, none⟩ 1 1 [c1, c2, c3] hx rfl
    (World.news_of_block (cs := #[c1, c2, c3]) (t := 163) (fr := (0, 0)) ?_) ?_ (by omega) ?_ ?_ ?_ (w.heap.size + 1) hsz ?_
  · exact heap_alloc_new w (.cells #[c1, c2, c3] 163)
  · intro u hu
    simp at hu
    rcases hu with rfl | rfl | rfl <;> assumption
  · unfold maxLen; omega
  · omega
  · omega
  · intro q cap w' h2 h3 h4 h5
    have hb0 : Below w.heap.size w (w.alloc (.cells #[c1, c2, c3] 163)) := (Below.refl _ w).alloc (Nat.le_refl _) _
    have hs3 := h3.size
    refine h q cap w' h2 (by omega) (h4.imp id (fun e => by omega)) h5 ?_ ?_
    · exact (hb0.mono hB).grown h3 (by omega) (fun k hk => (World.ownsRow.lt hown k hk).1)
    · intro k hk hne
      rw [h3.block k (by omega) (fun e => hne e.symm)]
      exact hb0.block k hk

theorem setB {w : World} {g : Nat} {a b : Value} {t : TypeId} (h : w.heap[g]? = some (.cells #[a, b] t (0, 0))) (u : Value) : (w.setCell ⟨g, 1, none⟩ u).heap[g]? = some (.cells #[a, u] t (0, 0)) := by
  simp [World.setCell, Array.getElem?_modify, h]

set_option maxHeartbeats 4000000 in
set_option maxRecDepth 100000 in
theorem riAdd_any (B g a n op : Nat) (l : List UInt8) (t : ByteArray) (v : Value) (cs : List Value) (ka : Option Addr) (kl kc : Nat) (w : World) (h : Ri w g l a v) (hp : PR B w v n cs) (hn : n ≤ 1000) (hg : g < B) (hB : B ≤ w.heap.size) (ht : t.size ≤ 100) :
    Calls Tryz.prog 128 #[.pointer (some ⟨g, 0, none⟩), .int .i64 (op : Int), .string t, .slice ka kl kc] w fun e w' => ∃ v' : Value, e = .returned (.int .i64 (n : Int)) ∧ Ri w' g l a v' ∧ PR B w' v' (n + 1) (cs ++ [.int .i64 (op : Int), .string t, .slice ka kl kc]) ∧
      w.heap.size ≤ w'.heap.size ∧ (∀ k, k < w.heap.size → k ≠ g → v.ownBlock ≠ some k → w'.heap[k]? = w.heap[k]?) ∧ (∀ q, v'.ownBlock = some q → v.ownBlock = some q ∨ w.heap.size ≤ q) ∧ Env w w' := by
  obtain ⟨c0, c1, f0, f1⟩ := cells2 h
  have hgl : g < w.heap.size := by omega
  have hfar := hp.far hg
  have HH : Hid (Ri w g l a v) := h
  have HP : Hid (PR B w v n cs) := hp
  have CC : Hid (∀ w, Calls Tryz.prog 96 #[.string t] w fun e w' => e = .returned (.string t) ∧ Below w.heap.size w w') := fun w => clone_any t w (by omega)
  clear h hp
  go_enter Tryz.func128, Tryz.ntmps128
  go_wp2_with fail
  go_region_law ((first | (refine PR.step1 (B := B) (w := w1) (v := v) (n := n) (cs := cs) (HP.out.keep fun q e => hb1.block q (World.ownsRow.lt HP.out q e).2) (by rfl) _ _ (by rfl) (by rfl) _ _ _ (by rfl) (by rfl) (by rfl) (by rfl) (by omega) (Nat.le_trans hB hb1.size) ?_; intro q cap w2 hp1 hs1 hq1 hq2 hb2 hh1; have R2 := (hh1 g (Nat.lt_of_lt_of_le hgl hb1.size) hfar).trans ((hb1.block g hgl).trans HH.out); obtain ⟨y0, y1, e0, e1⟩ := cells2 R2) | (go_simp; go_at_call 96; refine (CC.out _).mono ?_; rintro e w1 ⟨rfl, hb1⟩; have x1 := (hb1.cell (p := ⟨g, 1, none⟩) (by exact hgl)).trans c1; have x2 : ∀ o : Obj, (w1.alloc o).cell? ⟨g, 1, none⟩ = some v := fun o => (((Below.refl w1.heap.size w1).alloc (Nat.le_refl _) o).cell (p := ⟨g, 1, none⟩) (Nat.lt_of_lt_of_le hgl hb1.size)).trans x1; dsimp only)))
  all_goals
    have hR2 := setB R2 (.slice (some ⟨q, 0, none⟩) (n + 1) cap)
    have hp2 := PR.set hp1 hg 1 (.slice (some ⟨q, 0, none⟩) (n + 1) cap)
    have hs0 : w.heap.size ≤ w1.heap.size := hb1.size
    have hh2 : ∀ k, k < w.heap.size → k ≠ g → v.ownBlock ≠ some k → (w2.setCell ⟨g, 1, none⟩ (.slice (some ⟨q, 0, none⟩) (n + 1) cap)).heap[k]? = w.heap[k]? := by
      intro k hk hkg hkv
      rw [Below.heap_setCell _ _ _ _ (by show k ≠ g; exact hkg)]
      exact (hh1 k (by omega) hkv).trans (hb1.block k hk)
    have hs2 : w.heap.size ≤ (w2.setCell ⟨g, 1, none⟩ (.slice (some ⟨q, 0, none⟩) (n + 1) cap)).heap.size := by simp [World.setCell]; omega
    have hen : Env w (w2.setCell ⟨g, 1, none⟩ (.slice (some ⟨q, 0, none⟩) (n + 1) cap)) := ⟨hb2.os.trans hb1.os, hb2.tape.trans hb1.tape, hb2.output.trans hb1.output⟩
    have HQ : Hid (∀ q', (Value.slice (some ⟨q, 0, none⟩) (n + 1) cap).ownBlock = some q' → v.ownBlock = some q' ∨ w.heap.size ≤ q') := by
      intro q' e
      have e2 : q = q' := by simpa [Value.ownBlock] using e
      rw [← e2]
      exact hq1.imp id (fun hh => by omega)
    obtain ⟨w3, hw3⟩ : ∃ w3, w3 = w2.setCell ⟨g, 1, none⟩ (.slice (some ⟨q, 0, none⟩) (n + 1) cap) := ⟨_, rfl⟩
    rw [← hw3] at hR2 hp2 hh2 hs2 hen ⊢
    have HP2 : Hid (PR B w3 (.slice (some ⟨q, 0, none⟩) (n + 1) cap) (n + 1) (cs ++ [.int .i64 (op : Int), .string t, .slice ka kl kc])) := hp2
    have HH2 : Hid (∀ k, k < w.heap.size → k ≠ g → v.ownBlock ≠ some k → w3.heap[k]? = w.heap[k]?) := hh2
    have HEN : Hid (Env w w3) := hen
    obtain ⟨z0, z1, zf0, zf1⟩ := cells2 hR2
    clear hen hw3 hp2 hh2 hp1 hh1 hb1 hb2 hq1 hq2 y0 y1 e0 e1 R2 x1 x2 c0 c1 f0 f1 HH HP CC
    go_wp2
    go_ret
    exact ⟨_, rfl, hR2, HP2.out, hs2, HH2.out, HQ.out, HEN.out⟩
end PartRiA
end Go.Proofs.YtlpdjmjbppmibaaGreat
