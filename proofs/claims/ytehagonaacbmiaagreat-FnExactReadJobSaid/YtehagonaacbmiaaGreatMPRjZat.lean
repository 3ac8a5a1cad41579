/- Plain facts: tokens told from what is left of a text. The program's reader of a pattern: what it holds; one piece more. The program's reader of a pattern: looking at the next sign, taking it, and what each part leaves. The program's rowOf and upTo: how far a text goes on with bytes of a set, or without. -/
import Derived.Test.YtehagonaacbmiaaGreatMPRjZas
import Derived.Test.YtehagonaacbmiaaGreatMPRjZad
import Derived.Test.YtehagonaacbmiaaGreatMPRjZaj
import Derived.Deep.RegionHeld3
import Derived.Test.YtehagonaacbmiaaGreatMPRjZae
import Derived.Lib.OthersKept
namespace Go.Proofs.YtehagonaacbmiaaGreat
section PartTkS
namespace Tk

def blank (b : UInt8) : Bool := b == 32 || b == 9
/-- The place behind blanks, tabs and a remark. -/
def gap (l : List UInt8) (k : Nat) : Nat := if l[run blank l k]? = some 35 then run (fun b => b != 10) l (run blank l k) else run blank l k
end Tk
end PartTkS
section PartRiA
open Go.RowKit

/-- What the program's reader holds, in block g: what of l is not read yet, from place a on, and its pieces. -/
def Ri (w : World) (g : Nat) (l : List UInt8) (a : Nat) (v : Value) : Prop := w.heap[g]? = some (.cells #[.string ⟨(l.drop a).toArray⟩, v] 166 (0, 0))
theorem cells2 {w : World} {g : Nat} {a b : Value} {t : TypeId} (h : w.heap[g]? = some (.cells #[a, b] t (0, 0))) :
    w.cell? ⟨g, 0, none⟩ = some a ∧ w.cell? ⟨g, 1, none⟩ = some b ∧ w.frozen? ⟨g, 0, none⟩ = false ∧ w.frozen? ⟨g, 1, none⟩ = false := by
  refine ⟨?_, ?_, ?_, ?_⟩ <;> simp [World.cell?, World.frozen?, h]
theorem Ri.up {w w' : World} {g a : Nat} {l : List UInt8} {v : Value} (h : Ri w g l a v) (hb : Below w.heap.size w w') : Ri w' g l a v := (hb.block g (blk_lt h)).trans h

set_option maxRecDepth 100000 in
/-- One piece more, at a step of a sentence that draws its order. -/
theorem PR.step1 {ops : Array Oper} {o : Oper} {a : Act} {K : Act → World → Prop} {Q : Exit → Act → World → Prop} {E : Prop} {B : Nat} {w : World} {v : Value} {n : Nat} {cs : List Value}
    (hown : PR B w v n cs) (hgd : o.guard = none) (s x : Operand)
    (ho : o.op = .call { callee := .builtin .append, args := #[s, x], argTypes := #[140, 140] })
    (hs : a.eval s = v) (c1 c2 c3 : Value) (k1 : c1.oneCell' = true) (k2 : c2.oneCell' = true) (k3 : c3.oneCell' = true) (hx : a.eval x = .slice (some ⟨w.heap.size, 0, none⟩) 1 1)
    (hlen : n ≤ 1000) (hB : B ≤ w.heap.size)
    (h : ∀ q cap w', PR B w' (.slice (some ⟨q, 0, none⟩) (n + 1) cap) (n + 1) (cs ++ [c1, c2, c3]) → w.heap.size ≤ w'.heap.size → (v.ownBlock = some q ∨ w.heap.size ≤ q) → q < w'.heap.size → Below B w w' →
      (∀ k, k < w.heap.size → v.ownBlock ≠ some k → w'.heap[k]? = w.heap[k]?) → K (a.put o.dst (.slice (some ⟨q, 0, none⟩) (n + 1) cap)) w') :
    if Region.wanted o (yielded ops a.tmps) = true then Oper.wp Tryz.prog o a (w.alloc (.cells #[c1, c2, c3] 163)) K Q else E := by
  obtain ⟨i0, hi, hy0, hy1, hy2⟩ := info_parts Tryz.infoP
  have hsz : (w.alloc (.cells #[c1, c2, c3] 163)).heap.size = w.heap.size + 1 := by simp
  refine step_append_lies _ hgd s x 140 ho B 163 i0 (.agg #[.int .i64 0, .string ByteArray.empty, .slice none 0 0]) 3 48 Tryz.underlying140 hi hy0 hy1 hy2 rfl (by decide) v n cs hs (World.ownsRow.alloc hown _) ⟨w.heap.size, 0, none⟩ 1 1 [c1, c2, c3] hx rfl
    (World.news_of_block (cs := #[c1, c2, c3]) (t := 163) (fr := (0, 0)) ?_) ?_ (by omega) ?_ ?_ ?_ (w.heap.size + 1) hsz ?_
  · exact heap_alloc_new w (.cells #[c1, c2, c3] 163)
  · intro u hu
    simp at hu
    rcases hu with rfl | rfl | rfl <;> assumption
  · unfold maxLen; omega
  · omega
  · omega
  · intro q cap w' h2 h3 h4 h5
    have hb0 : Below w.heap.size w (w.alloc (.cells #[c1, c2, c3] 163)) := (Below.refl _ w).alloc (Nat.le_refl _) _
    have hs3 := h3.size
    refine h q cap w' h2 (by omega) (h4.imp id (fun e => by omega)) h5 ?_ ?_
    · exact (hb0.mono hB).grown h3 (by omega) (fun k hk => (World.ownsRow.lt hown k hk).1)
    · intro k hk hne
      rw [h3.block k (by omega) (fun e => hne e.symm)]
      exact hb0.block k hk

theorem setB {w : World} {g : Nat} {a b : Value} {t : TypeId} (h : w.heap[g]? = some (.cells #[a, b] t (0, 0))) (u : Value) : (w.setCell ⟨g, 1, none⟩ u).heap[g]? = some (.cells #[a, u] t (0, 0)) := by
  simp [World.setCell, Array.getElem?_modify, h]

set_option maxHeartbeats 4000000 in
set_option maxRecDepth 100000 in
theorem riAdd_any (B g a n op : Nat) (l : List UInt8) (t : ByteArray) (v : Value) (cs : List Value) (ka : Option Addr) (kl kc : Nat) (w : World) (h : Ri w g l a v) (hp : PR B w v n cs) (hn : n ≤ 1000) (hg : g < B) (hB : B ≤ w.heap.size) (ht : t.size ≤ 100) :
    Calls Tryz.prog 128 #[.pointer (some ⟨g, 0, none⟩), .int .i64 (op : Int), .string t, .slice ka kl kc] w fun e w' => ∃ v' : Value, e = .returned (.int .i64 (n : Int)) ∧ Ri w' g l a v' ∧ PR B w' v' (n + 1) (cs ++ [.int .i64 (op : Int), .string t, .slice ka kl kc]) ∧
      w.heap.size ≤ w'.heap.size ∧ (∀ k, k < w.heap.size → k ≠ g → v.ownBlock ≠ some k → w'.heap[k]? = w.heap[k]?) ∧ (∀ q, v'.ownBlock = some q → v.ownBlock = some q ∨ w.heap.size ≤ q) ∧ Env w w' := by
  obtain ⟨c0, c1, f0, f1⟩ := cells2 h
  have hgl : g < w.heap.size := by omega
  have hfar := hp.far hg
  have HH : Hid (Ri w g l a v) := h
  have HP : Hid (PR B w v n cs) := hp
  have CC : Hid (∀ w, Calls Tryz.prog 96 #[.string t] w fun e w' => e = .returned (.string t) ∧ Below w.heap.size w w') := fun w => clone_any t w (by omega)
  clear h hp
  go_enter Tryz.func128, Tryz.ntmps128
  go_wp2_with fail
  go_region_law ((first | (refine PR.step1 (B := B) (w := w1) (v := v) (n := n) (cs := cs) (HP.out.keep fun q e => hb1.block q (World.ownsRow.lt HP.out q e).2) (by rfl) _ _ (by rfl) (by rfl) _ _ _ (by rfl) (by rfl) (by rfl) (by rfl) (by omega) (Nat.le_trans hB hb1.size) ?_; intro q cap w2 hp1 hs1 hq1 hq2 hb2 hh1; have R2 := (hh1 g (Nat.lt_of_lt_of_le hgl hb1.size) hfar).trans ((hb1.block g hgl).trans HH.out); obtain ⟨y0, y1, e0, e1⟩ := cells2 R2) | (go_simp; go_at_call 96; refine (CC.out _).mono ?_; rintro e w1 ⟨rfl, hb1⟩; have x1 := (hb1.cell (p := ⟨g, 1, none⟩) (by exact hgl)).trans c1; have x2 : ∀ o : Obj, (w1.alloc o).cell? ⟨g, 1, none⟩ = some v := fun o => (((Below.refl w1.heap.size w1).alloc (Nat.le_refl _) o).cell (p := ⟨g, 1, none⟩) (Nat.lt_of_lt_of_le hgl hb1.size)).trans x1; dsimp only)))
  all_goals
    have hR2 := setB R2 (.slice (some ⟨q, 0, none⟩) (n + 1) cap)
    have hp2 := PR.set hp1 hg 1 (.slice (some ⟨q, 0, none⟩) (n + 1) cap)
    have hs0 : w.heap.size ≤ w1.heap.size := hb1.size
    have hh2 : ∀ k, k < w.heap.size → k ≠ g → v.ownBlock ≠ some k → (w2.setCell ⟨g, 1, none⟩ (.slice (some ⟨q, 0, none⟩) (n + 1) cap)).heap[k]? = w.heap[k]? := by
      intro k hk hkg hkv
      rw [Below.heap_setCell _ _ _ _ (by show k ≠ g; exact hkg)]
      exact (hh1 k (by omega) hkv).trans (hb1.block k hk)
    have hs2 : w.heap.size ≤ (w2.setCell ⟨g, 1, none⟩ (.slice (some ⟨q, 0, none⟩) (n + 1) cap)).heap.size := by simp [World.setCell]; omega
    have hen : Env w (w2.setCell ⟨g, 1, none⟩ (.slice (some ⟨q, 0, none⟩) (n + 1) cap)) := ⟨hb2.os.trans hb1.os, hb2.tape.trans hb1.tape, hb2.output.trans hb1.output⟩
    have HQ : Hid (∀ q', (Value.slice (some ⟨q, 0, none⟩) (n + 1) cap).ownBlock = some q' → v.ownBlock = some q' ∨ w.heap.size ≤ q') := by
      intro q' e
      have e2 : q = q' := by simpa [Value.ownBlock] using e
      rw [← e2]
      exact hq1.imp id (fun hh => by omega)
    obtain ⟨w3, hw3⟩ : ∃ w3, w3 = w2.setCell ⟨g, 1, none⟩ (.slice (some ⟨q, 0, none⟩) (n + 1) cap) := ⟨_, rfl⟩
    rw [← hw3] at hR2 hp2 hh2 hs2 hen ⊢
    have HP2 : Hid (PR B w3 (.slice (some ⟨q, 0, none⟩) (n + 1) cap) (n + 1) (cs ++ [.int .i64 (op : Int), .string t, .slice ka kl kc])) := hp2
    have HH2 : Hid (∀ k, k < w.heap.size → k ≠ g → v.ownBlock ≠ some k → w3.heap[k]? = w.heap[k]?) := hh2
    have HEN : Hid (Env w w3) := hen
    obtain ⟨z0, z1, zf0, zf1⟩ := cells2 hR2
    clear hen hw3 hp2 hh2 hp1 hh1 hb1 hb2 hq1 hq2 y0 y1 e0 e1 R2 x1 x2 c0 c1 f0 f1 HH HP CC
    go_wp2
    go_ret
    exact ⟨_, rfl, hR2, HP2.out, hs2, HH2.out, HQ.out, HEN.out⟩
end PartRiA
section PartRiB
open Go.RowKit

/-- A text of the bytes l. -/
abbrev tx (l : List UInt8) : ByteArray := ⟨l.toArray⟩
theorem tx_size (l : List UInt8) : (tx l).size = l.length := by simp [ByteArray.size]
theorem tx_list (l : List UInt8) : (tx l).data.toList = l := by simp
theorem tx_empty (l : List UInt8) : (tx l).toList.isEmpty = l.isEmpty := by rw [Lib.toList_data, tx_list]
theorem tx_one (b : UInt8) (r : List UInt8) : (tx (b :: r)).extract 0 1 = tx [b] := by rw [ext_take]; simp [tx]
theorem tx_rest (b : UInt8) (r : List UInt8) (n : Nat) (h : n = r.length + 1) : (tx (b :: r)).extract 1 n = tx r := by rw [ext_take, h]; simp [tx]

theorem index_yes (signs : List UInt8) (b : UInt8) (h : b ∈ signs) : 0 ≤ Lib.indexByte signs b := by
  have := Lib.indexByte_ge signs b
  by_cases e : Lib.indexByte signs b = -1
  · obtain ⟨j, hj, e2⟩ := List.mem_iff_getElem.1 h
    exact absurd (by rw [List.getElem?_eq_getElem hj, e2]) (Lib.indexByte_none e j)
  · omega
theorem index_no (signs : List UInt8) (b : UInt8) (h : b ∉ signs) : Lib.indexByte signs b = -1 := by
  have := Lib.indexByte_ge signs b
  by_cases e : Lib.indexByte signs b = -1
  · exact e
  · obtain ⟨o, ho⟩ : ∃ o : Nat, Lib.indexByte signs b = (o : Int) := ⟨(Lib.indexByte signs b).toNat, by omega⟩
    exact absurd (List.mem_of_getElem? (Lib.indexByte_some ho).1) h

theorem drop_at (l : List UInt8) (a : Nat) (b : UInt8) (h : l[a]? = some b) : l.drop a = b :: l.drop (a + 1) := by
  obtain ⟨hlt, e⟩ := List.getElem?_eq_some_iff.1 h
  rw [List.drop_eq_getElem_cons hlt, e]

set_option maxRecDepth 100000 in
set_option maxHeartbeats 400000 in
theorem nextYes (g a : Nat) (l signs : List UInt8) (b : UInt8) (v : Value) (w : World) (h : Ri w g l a v) (hb : l[a]? = some b) (hs : b ∈ signs) :
    Calls Tryz.prog 126 #[.pointer (some ⟨g, 0, none⟩), .string (tx signs)] w fun e w' => e = .returned (.bool true) ∧ w' = w := by
  have h' := h
  unfold Ri at h'
  rw [drop_at l a b hb] at h'
  obtain ⟨c0, c1, f0, f1⟩ := cells2 h'
  obtain ⟨z, hz⟩ : ∃ z, z = Lib.indexByte signs b := ⟨_, rfl⟩
  have C : Hid (∀ w, Calls Tryz.prog 112 #[.string (tx signs), .int .u8 (b.toNat : Int)] w fun e w' => e = .returned (.int .i64 z) ∧ w' = w) := fun w => by
    have := indexByte_any (tx signs) b w
    rw [tx_list, ← hz] at this
    exact this
  have hz0 : 0 ≤ z := by rw [hz]; exact index_yes signs b hs
  have d0 : decide ((0 : Int) ≤ z) = true := decide_eq_true hz0
  have hem : (tx (b :: l.drop (a + 1))).toList.isEmpty = false := by rw [tx_empty]; rfl
  have hsz : 0 < (tx (b :: l.drop (a + 1))).size := by rw [tx_size]; simp
  have hhd : (tx (b :: l.drop (a + 1)))[0] = b := rfl
  have h256 : b.toNat < 256 := b.toNat_lt
  obtain ⟨x, hx⟩ : ∃ x, x = tx (b :: l.drop (a + 1)) := ⟨_, rfl⟩
  have c0' : w.cell? ⟨g, 0, none⟩ = some (.string x) := by rw [hx]; exact c0
  have hem' : x.toList.isEmpty = false := by rw [hx]; exact hem
  have hsz' : 0 < x.size := by rw [hx]; exact hsz
  have hhd' : x[0] = b := by subst hx; rfl
  clear hx hz h h' hb hs c0 hem hsz hhd f0 f1
  go_enter Tryz.func126, Tryz.ntmps126
  go_wp2_with fail
  refine (C.out _).mono ?_
  rintro e w1 ⟨rfl, rfl⟩
  go_wp2
  go_ret
  exact ⟨rfl, rfl⟩

set_option maxRecDepth 100000 in
set_option maxHeartbeats 400000 in
theorem nextNo (g a : Nat) (l signs : List UInt8) (v : Value) (w : World) (h : Ri w g l a v) (hs : ∀ b, l[a]? = some b → b ∉ signs) :
    Calls Tryz.prog 126 #[.pointer (some ⟨g, 0, none⟩), .string (tx signs)] w fun e w' => e = .returned (.bool false) ∧ w' = w := by
  have h' := h
  unfold Ri at h'
  cases hb : l[a]? with
  | none =>
    have hd : l.drop a = [] := List.drop_of_length_le (by have := List.getElem?_eq_none_iff.1 hb; exact this)
    rw [hd] at h'
    obtain ⟨c0, c1, f0, f1⟩ := cells2 h'
    clear h h' hb hs hd
    go_enter Tryz.func126, Tryz.ntmps126
    go_wp2
    go_ret
    exact ⟨rfl, rfl⟩
  | some b =>
    have hs := hs b hb
    rw [drop_at l a b hb] at h'
    obtain ⟨c0, c1, f0, f1⟩ := cells2 h'
    have C : Hid (∀ w, Calls Tryz.prog 112 #[.string (tx signs), .int .u8 (b.toNat : Int)] w fun e w' => e = .returned (.int .i64 (-1)) ∧ w' = w) := fun w => by
      have := indexByte_any (tx signs) b w
      rw [tx_list, index_no signs b hs] at this
      exact this
    have h256 : b.toNat < 256 := b.toNat_lt
    obtain ⟨x, hx⟩ : ∃ x, x = tx (b :: l.drop (a + 1)) := ⟨_, rfl⟩
    have c0' : w.cell? ⟨g, 0, none⟩ = some (.string x) := by rw [hx]; exact c0
    have hem' : x.toList.isEmpty = false := by rw [hx, tx_empty]; rfl
    have hsz' : 0 < x.size := by rw [hx, tx_size]; simp
    have hhd' : x[0] = b := by subst hx; rfl
    clear hx h h' hb hs c0 f0 f1
    go_enter Tryz.func126, Tryz.ntmps126
    go_wp2_with fail
    refine (C.out _).mono ?_
    rintro e w1 ⟨rfl, rfl⟩
    go_wp2
    go_ret
    exact ⟨rfl, rfl⟩

theorem setA {w : World} {g : Nat} {a b : Value} {t : TypeId} (h : w.heap[g]? = some (.cells #[a, b] t (0, 0))) (u : Value) : (w.setCell ⟨g, 0, none⟩ u).heap[g]? = some (.cells #[u, b] t (0, 0)) := by
  simp [World.setCell, Array.getElem?_modify, h]

set_option maxRecDepth 100000 in
set_option maxHeartbeats 400000 in
theorem take_any (g a : Nat) (l : List UInt8) (b : UInt8) (v : Value) (w : World) (h : Ri w g l a v) (hb : l[a]? = some b) :
    Calls Tryz.prog 127 #[.pointer (some ⟨g, 0, none⟩)] w fun e w' => e = .returned (.string (tx [b])) ∧ Ri w' g l (a + 1) v ∧ (∃ u, w' = w.setCell ⟨g, 0, none⟩ u) := by
  have h' := h
  unfold Ri at h'
  rw [drop_at l a b hb] at h'
  obtain ⟨c0, c1, f0, f1⟩ := cells2 h'
  obtain ⟨x, hx⟩ : ∃ x, x = tx (b :: l.drop (a + 1)) := ⟨_, rfl⟩
  have c0' : w.cell? ⟨g, 0, none⟩ = some (.string x) := by rw [hx]; exact c0
  have hsz' : 1 ≤ x.size := by rw [hx, tx_size]; simp
  have e1 : x.extract 0 1 = tx [b] := by rw [hx]; exact tx_one b _
  have e2 : x.extract 1 x.size = tx (l.drop (a + 1)) := by rw [hx]; exact tx_rest b _ _ (tx_size _)
  have HS : Hid (Ri (w.setCell ⟨g, 0, none⟩ (.string (tx (l.drop (a + 1))))) g l (a + 1) v) := setA h' _
  have hi1 : (1 : Int) ≤ (x.size : Int) := by omega
  clear hx h h' hb c0 c1
  go_enter Tryz.func127, Tryz.ntmps127
  go_wp2_with fail
  go_ret
  exact ⟨rfl, HS.out, _, rfl⟩

/-- What a part of the program's reader leaves, where R is what it should tell. -/
def RiPost (B g : Nat) (l : List UInt8) (w : World) (N : Nat) (R : Option (Nat × List Pp.Pc × Nat)) (e : Ending) (w' : World) : Prop :=
  FB g B w w' ∧ match R with
  | none => ∃ (k : Int) (a' : Nat) (v' : Value) (n' : Nat) (cs' : List Value), e = .returned (.tuple #[.int .i64 k, .bool false]) ∧ Ri w' g l a' v' ∧ PR B w' v' n' cs' ∧ n' ≤ N
  | some (a', o, k) => e = .returned (.tuple #[.int .i64 (k : Int), .bool true]) ∧ ∃ v', Ri w' g l a' v' ∧ RP B w' v' o

theorem Ri.setg {w : World} {g a : Nat} {l : List UInt8} {v : Value} (h : Ri w g l a v) (p : Addr) (u : Value) (hp : p.block ≠ g) : Ri (w.setCell p u) g l a v := (Below.heap_setCell _ _ _ _ (fun e => hp e.symm)).trans h

set_option maxRecDepth 100000 in
/-- One piece more; q: the block of its kids. -/
theorem riAddP (B g a q : Nat) (l : List UInt8) (v : Value) (ps : List Pp.Pc) (p : Pp.Pc) (w0 w : World) (h : Ri w g l a v) (hr : RP B w0 v ps) (hb : Below w0.heap.size w0 w) (hg : g < B) (hB : B ≤ w0.heap.size) (hn : ps.length ≤ 60) (ht : p.text.length ≤ 100)
    (hq : p.kids ≠ [] → w0.heap.size ≤ q ∧ q < w.heap.size ∧ KidsBlk w q (p.kids.map Int.ofNat)) :
    Calls Tryz.prog 128 #[.pointer (some ⟨g, 0, none⟩), .int .i64 (p.op : Int), .string (tx p.text), kvOf q p.kids] w fun e w' => e = .returned (.int .i64 (ps.length : Int)) ∧ FB g B w w' ∧ ∃ v', Ri w' g l a v' ∧ RP B w' v' (ps ++ [p]) := by
  obtain ⟨cs, hp⟩ := (hr.up hb).pr
  have hsz := hb.size
  obtain ⟨ka, kl, kc, hkv⟩ : ∃ ka kl kc, kvOf q p.kids = .slice ka kl kc := by
    unfold kvOf
    split
    · exact ⟨_, _, _, rfl⟩
    · exact ⟨_, _, _, rfl⟩
  rw [hkv]
  refine (riAdd_any B g a ps.length p.op l (tx p.text) v cs ka kl kc w h hp (by omega) hg (by omega) (by rw [tx_size]; exact ht)).mono ?_
  rintro e w' ⟨v', rfl, hR, hP, hs, hf, ho, hen⟩
  refine ⟨rfl, FB.fr ⟨hs, hf, hen⟩ hp (by omega), v', hR, hr.put hb hq hg hB hp hP (by rw [hkv]) (fun cs0 h0 => ?_) hf ho⟩
  exact h0.unique hp fun q' e => hb.block q' (World.ownsRow.lt h0 q' e).2
set_option maxRecDepth 100000 in
theorem riAdd0 (B g a op : Nat) (l : List UInt8) (x : ByteArray) (t : List UInt8) (v : Value) (ps : List Pp.Pc) (w : World) (h : Ri w g l a v) (hr : RP B w v ps) (hg : g < B) (hB : B ≤ w.heap.size) (hn : ps.length ≤ 60) (hx : x = tx t) (ht : t.length ≤ 100) :
    Calls Tryz.prog 128 #[.pointer (some ⟨g, 0, none⟩), .int .i64 (op : Int), .string x, .slice none 0 0] w fun e w' => e = .returned (.int .i64 (ps.length : Int)) ∧ FB g B w w' ∧ ∃ v', Ri w' g l a v' ∧ RP B w' v' (ps ++ [⟨op, t, []⟩]) := by
  subst hx
  exact riAddP B g a 0 l v ps ⟨op, t, []⟩ w w h hr (Below.refl _ _) hg hB hn ht (fun h => absurd rfl h)
set_option maxRecDepth 100000 in
theorem riAdd1 (B g a op k q : Nat) (l : List UInt8) (v : Value) (ps : List Pp.Pc) (w : World) (h : Ri w g l a v) (hr : RP B w v ps) (hg : g < B) (hB : B ≤ w.heap.size) (hn : ps.length ≤ 60) (hq : q = w.heap.size) :
    Calls Tryz.prog 128 #[.pointer (some ⟨g, 0, none⟩), .int .i64 (op : Int), .string ⟨#[]⟩, .slice (some ⟨q, 0, none⟩) 1 1] (w.alloc (.cells #[.int .i64 (k : Int)] 3)) fun e w' => e = .returned (.int .i64 (ps.length : Int)) ∧ FB g B w w' ∧ ∃ v', Ri w' g l a v' ∧ RP B w' v' (ps ++ [⟨op, [], [k]⟩]) := by
  subst hq
  have hb : Below w.heap.size w (w.alloc (.cells #[.int .i64 (k : Int)] 3)) := (Below.refl _ _).alloc (Nat.le_refl _) _
  refine (riAddP B g a w.heap.size l v ps ⟨op, [], [k]⟩ w _ (h.up hb) hr hb hg hB hn (by simp) (fun _ => ⟨Nat.le_refl _, by simp, heap_alloc_new w _⟩)).mono ?_
  rintro e w' ⟨h1, h2, h3⟩
  exact ⟨h1, (FB.of (hb.mono hB)).trans h2, h3⟩
set_option maxRecDepth 100000 in
theorem riAdd2 (B g a op k j q : Nat) (l : List UInt8) (v : Value) (ps : List Pp.Pc) (w : World) (h : Ri w g l a v) (hr : RP B w v ps) (hg : g < B) (hB : B ≤ w.heap.size) (hn : ps.length ≤ 60) (hq : q = w.heap.size) :
    Calls Tryz.prog 128 #[.pointer (some ⟨g, 0, none⟩), .int .i64 (op : Int), .string ⟨#[]⟩, .slice (some ⟨q, 0, none⟩) 2 2] (w.alloc (.cells #[.int .i64 (k : Int), .int .i64 (j : Int)] 3)) fun e w' => e = .returned (.int .i64 (ps.length : Int)) ∧ FB g B w w' ∧ ∃ v', Ri w' g l a v' ∧ RP B w' v' (ps ++ [⟨op, [], [k, j]⟩]) := by
  subst hq
  have hb : Below w.heap.size w (w.alloc (.cells #[.int .i64 (k : Int), .int .i64 (j : Int)] 3)) := (Below.refl _ _).alloc (Nat.le_refl _) _
  refine (riAddP B g a w.heap.size l v ps ⟨op, [], [k, j]⟩ w _ (h.up hb) hr hb hg hB hn (by simp) (fun _ => ⟨Nat.le_refl _, by simp, heap_alloc_new w _⟩)).mono ?_
  rintro e w' ⟨h1, h2, h3⟩
  exact ⟨h1, (FB.of (hb.mono hB)).trans h2, h3⟩
end PartRiB
section PartItC
open Go.RowKit

theorem decode_wide (s : ByteArray) (pos : Nat) (hp : pos < s.size) : pos + (Utf8.decode s pos).2 ≤ s.size ∧ ∀ j (h : j < s.size), pos < j → j < pos + (Utf8.decode s pos).2 → 128 ≤ (s[j]'h).toNat := by
  have key : (Utf8.decode s pos).2 = 1 ∨ ((Utf8.decode s pos).2 = 2 ∧ (pos + 1 < s.size ∧ (s.get! (pos + 1)).toNat / 64 = 2)) ∨ ((Utf8.decode s pos).2 = 3 ∧ (pos + 1 < s.size ∧ (s.get! (pos + 1)).toNat / 64 = 2) ∧ (pos + 2 < s.size ∧ (s.get! (pos + 2)).toNat / 64 = 2)) ∨ ((Utf8.decode s pos).2 = 4 ∧ (pos + 1 < s.size ∧ (s.get! (pos + 1)).toNat / 64 = 2) ∧ (pos + 2 < s.size ∧ (s.get! (pos + 2)).toNat / 64 = 2) ∧ (pos + 3 < s.size ∧ (s.get! (pos + 3)).toNat / 64 = 2)) := by
    simp only [Utf8.decode]
    repeat' split
    all_goals simp_all
  have g : ∀ k (h : k < s.size), s.get! k = s[k]'h := fun k h => by
    simp [ByteArray.get!, getElem!_pos, h]
    rfl
  rcases key with e | ⟨e, h1⟩ | ⟨e, h1, h2⟩ | ⟨e, h1, h2, h3⟩
  · rw [e]
    exact ⟨by omega, fun j h a b => by omega⟩
  · rw [e]
    refine ⟨by omega, fun j h a b => ?_⟩
    obtain rfl : j = pos + 1 := by omega
    rw [g _ h] at h1
    omega
  · rw [e]
    refine ⟨by omega, fun j h a b => ?_⟩
    rw [g _ h1.1] at h1
    rw [g _ h2.1] at h2
    rcases (by omega : j = pos + 1 ∨ j = pos + 2) with rfl | rfl <;> omega
  · rw [e]
    refine ⟨by omega, fun j h a b => ?_⟩
    rw [g _ h1.1] at h1
    rw [g _ h2.1] at h2
    rw [g _ h3.1] at h3
    rcases (by omega : j = pos + 1 ∨ j = pos + 2 ∨ j = pos + 3) with rfl | rfl | rfl <;> omega

theorem Asc.not {t : ByteArray} (ha : Asc t) {b : UInt8} (h : 128 ≤ b.toNat) : t.data.toList.contains b = false := by
  cases e : t.data.toList.contains b with
  | false => rfl
  | true =>
    have := ha b (by simpa using e)
    omega
theorem rune_step (s t : ByteArray) (pos : Nat) (hp : pos < s.size) (ha : Asc t) : ∃ r W : Nat, Utf8.decode s pos = (r, W) ∧ r ≤ 2147483647 ∧ 1 ≤ W ∧ pos + W ≤ s.size ∧
    (decide ((r : Int) < 128) && t.data.toList.contains (r : Int).toNat.toUInt8) = t.data.toList.contains s[pos] ∧ ∀ j (h : j < s.size), pos ≤ j → j < pos + W → t.data.toList.contains (s[j]'h) = t.data.toList.contains s[pos] := by
  refine ⟨(Utf8.decode s pos).1, (Utf8.decode s pos).2, rfl, decode_le s pos, ?_, (decode_wide s pos hp).1, ?_, ?_⟩
  · by_cases h : (s[pos]'hp).toNat < 128
    · rw [decode_ascii s pos hp h]; exact Nat.le_refl _
    · exact (decode_high s pos hp (by omega)).2
  · by_cases h : (s[pos]'hp).toNat < 128
    · rw [decode_ascii s pos hp h]
      have : decide (((s[pos]'hp).toNat : Int) < 128) = true := decide_eq_true (by omega)
      simp only [this, Bool.true_and]
      simp
    · have := (decode_high s pos hp (by omega)).1
      rw [decide_eq_false (by omega), ha.not (b := s[pos]) (by omega)]
      rfl
  · intro j h a b
    by_cases hj : j = pos
    · subst hj; rfl
    · by_cases h2 : (s[pos]'hp).toNat < 128
      · rw [decode_ascii s pos hp h2] at b
        simp at b
        omega
      · rw [ha.not (b := s[pos]) (by omega), ha.not ((decode_wide s pos hp).2 j h (by omega) b)]
theorem run_steps (p : UInt8 → Bool) (l : List UInt8) (pos : Nat) : ∀ n, (∀ j, pos ≤ j → j < pos + n → ∃ h : j < l.length, p (l[j]'h) = true) → Tk.run p l pos = Tk.run p l (pos + n) := by
  intro n
  induction n with
  | zero => intro _; rfl
  | succ n ih =>
    intro h
    rw [ih (fun j a b => h j a (by omega))]
    obtain ⟨h1, h2⟩ := h (pos + n) (by omega) (by omega)
    exact Tk.run_step h1 h2
theorem iterPos_at {w : World} {k p : Nat} {s : ByteArray} (h : w.heap[k]? = some (.stringIter s p)) : w.iterPos k = p := by simp [World.iterPos, h]
theorem byte_at (s : ByteArray) (i : Nat) (h : i < s.size) : s.data.toList[i]'(by simpa using h) = s[i] := by
  simp
  rfl

set_option maxRecDepth 100000 in
set_option maxHeartbeats 1000000 in
theorem rowOf_any (s t : ByteArray) (p : UInt8 → Bool) (w : World) (ha : Asc t) (hp : ∀ b, t.data.toList.contains b = p b) :
    Calls Tryz.prog 60 #[.string s, .string t] w fun e w' => e = .returned (.string (tx (s.data.toList.take (Tk.run p s.data.toList 0)))) ∧ Below w.heap.size w w' := by
  have hsl : s.data.toList.length = s.size := by simp
  have HC : Hid (∀ (r : Nat) (w : World), r ≤ 2147483647 → Calls Tryz.prog 91 #[.string t, .int .i32 (r : Int)] w fun e w' => e = .returned (.bool (decide ((r : Int) < 128) && t.data.toList.contains (r : Int).toNat.toUInt8)) ∧ Below w.heap.size w w') := fun r w h => containsRune_any t (r : Int) w ha (by omega) (by omega)
  have HA : Hid (Asc t) := ha
  have HP : Hid (∀ b, t.data.toList.contains b = p b) := hp
  clear ha hp
  go_enter Tryz.func60, Tryz.ntmps60
  go_wp2
  go_loopw [] (fun wr => ∃ pos, wr.heap[w.heap.size]? = some (.stringIter s pos) ∧ Below w.heap.size w wr ∧ pos ≤ s.size ∧ Tk.run p s.data.toList 0 = Tk.run p s.data.toList pos) (fun wr => s.size - wr.iterPos w.heap.size)
  case atStart => exact ⟨0, World.iter_heap w s 0, below_iter w s 0, Nat.zero_le _, rfl⟩
  case round =>
    obtain ⟨pos, hk, hb, hle, hrun⟩ := hrel
    have HR : Hid (Tk.run p s.data.toList 0 = Tk.run p s.data.toList pos) := hrun
    have HB : Hid (Below w.heap.size w wr) := hb
    clear hrun hb
    by_cases hlt : pos < s.size
    · obtain ⟨r, W, hd, hr, hW, hWs, hB, hall⟩ := rune_step s t pos hlt HA.out
      have hnx : ∀ ty, (Instr.next (.pointer (some ⟨w.heap.size, 0, none⟩)) true ty).run Tryz.prog wr = .ok (.tuple #[.bool true, .int .i64 pos, .int .i32 (r : Int)]) (wr.iterAt w.heap.size s (pos + W)) := fun ty => by
        rw [Lib.run_next_any_at wr w.heap.size s pos ty hk hlt, hd]
      have HK : Hid ((wr.iterAt w.heap.size s (pos + W)).heap[w.heap.size]? = some (.stringIter s (pos + W))) := Lib.iterAt_heap wr _ s pos _ hk
      have HK2 : Hid (Below w.heap.size w (wr.iterAt w.heap.size s (pos + W))) := Lib.below_iterAt HB.out (Nat.le_refl _) s _
      have HM : Hid (wr.iterPos w.heap.size = pos) := iterPos_at hk
      obtain ⟨B, hBB⟩ : ∃ B, t.data.toList.contains s[pos] = B := ⟨_, rfl⟩
      have HC2 : Hid (∀ w : World, Calls Tryz.prog 91 #[.string t, .int .i32 (r : Int)] w fun e w' => e = .returned (.bool B) ∧ Below w.heap.size w w') := fun w => by
        have := HC.out r w hr
        rw [hB, hBB] at this
        exact this
      have HALL : Hid (∀ j (h : j < s.size), pos ≤ j → j < pos + W → p (s[j]'h) = B) := fun j h a b => by rw [← HP.out, hall j h a b, hBB]
      have HPP : Hid (p (s[pos]'hlt) = B) := by show _ = _; rw [← HP.out, hBB]
      have i0 : (0 : Int) ≤ (pos : Int) := by omega
      have i1 : (pos : Int) ≤ (s.size : Int) := by omega
      generalize wr.iterAt w.heap.size s (pos + W) = wi at *
      clear hall hBB hB hd hk HC hr
      cases B with
      | true =>
        go_wp2_with (go_at_call 91; refine (HC2.out _).mono ?_; rintro e w2 ⟨rfl, hb2⟩)
        have HK3 : w2.heap[w.heap.size]? = some (.stringIter s (pos + W)) := by
          rw [hb2.block _ (by have := (Array.getElem?_eq_some_iff.1 HK.out).1; exact this)]
          exact HK.out
        go_roundw
        case rel =>
          refine ⟨pos + W, HK3, HK2.out.trans (hb2.mono HK2.out.size), hWs, ?_⟩
          rw [HR.out]
          exact run_steps p _ pos W fun j a b => ⟨by rw [hsl]; omega, by rw [byte_at s j (by omega)]; exact HALL.out j (by omega) a b⟩
        case measure =>
          rw [iterPos_at HK3, HM.out]
          omega
      | false =>
        go_wp2_with (go_at_call 91; refine (HC2.out _).mono ?_; rintro e w2 ⟨rfl, hb2⟩)
        have HT : s.extract 0 pos = tx (s.data.toList.take (Tk.run p s.data.toList 0)) := by
          rw [HR.out, Tk.run_stop (by rw [hsl]; exact hlt) (by rw [byte_at s pos hlt]; exact HPP.out), ext_take]
          rfl
        go_ret
        exact ⟨by rw [← HT]; rfl, HK2.out.trans (hb2.mono HK2.out.size)⟩
    · have hnx : ∀ ty, (Instr.next (.pointer (some ⟨w.heap.size, 0, none⟩)) true ty).run Tryz.prog wr = .ok (.tuple #[.bool false]) wr := fun ty => Lib.run_next_end_at wr w.heap.size s pos ty hk hlt
      have HR2 := HR.out
      rw [Tk.run_end p (l := s.data.toList) (i := pos) (by omega)] at HR2
      have HT : Hid (s = tx (s.data.toList.take (Tk.run p s.data.toList 0))) := by
        show _ = _
        rw [HR2, List.take_of_length_le (by omega)]
      clear HR HR2 hk
      go_wp2
      go_ret
      refine ⟨?_, HB.out⟩
      rw [← HT.out]
      rfl
end PartItC
end Go.Proofs.YtehagonaacbmiaaGreat
