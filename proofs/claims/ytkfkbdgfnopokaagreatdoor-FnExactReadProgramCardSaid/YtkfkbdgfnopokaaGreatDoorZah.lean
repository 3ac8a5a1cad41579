/- The program's reader of a pattern: what it holds; one piece more. The program's reader of a pattern: looking at the next sign, taking it, and what each part leaves. The program's rowOf and upTo: how far a text goes on with bytes of a set, or without. The library's IndexAny and ContainsAny, where what is asked for has two bytes or more, all below 128; at every text. HasPrefix and Contains laid at this program; the sets; the program's behindGaps. Plain facts, without the program: what is a number among texts, the number of a text, what is cut of it, and the fields of a line. -/
import Derived.Test.YtkfkbdgfnopokaaGreatDoorZab
import Derived.Test.YtkfkbdgfnopokaaGreatDoorShelfC
import Derived.Test.YtkfkbdgfnopokaaGreatDoorShelfP
import Derived.Deep.RegionHeld3
import Derived.Test.YtkfkbdgfnopokaaGreatDoorZad
import Derived.Test.YtkfkbdgfnopokaaGreatDoorZag
import Derived.Lib.OthersKept
import Derived.Shelf.Strings.AsciiSet
import Derived.Lib.Builder
import Derived.Lib.IndexAny
import Derived.Laws.Strings3
import Derived.Lib.Strings
namespace Go.Proofs.YtkfkbdgfnopokaaGreatDoor
section PartRiA
open Go.RowKit
def Ri (w : World) (g : Nat) (l : List UInt8) (a : Nat) (v : Value) : Prop := w.heap[g]? = some (.cells #[.string ⟨(l.drop a).toArray⟩, v] 190 (0, 0))
theorem cells2 {w : World} {g : Nat} {a b : Value} {t : TypeId} (h : w.heap[g]? = some (.cells #[a, b] t (0, 0))) :
  w.cell? ⟨g, 0, none⟩ = some a ∧ w.cell? ⟨g, 1, none⟩ = some b ∧ w.frozen? ⟨g, 0, none⟩ = false ∧ w.frozen? ⟨g, 1, none⟩ = false := by
 refine ⟨?_, ?_, ?_, ?_⟩ <;> simp [World.cell?, World.frozen?, h]
theorem Ri.up {w w' : World} {g a : Nat} {l : List UInt8} {v : Value} (h : Ri w g l a v) (hb : Below w.heap.size w w') : Ri w' g l a v := (hb.block g (blk_lt h)).trans h
set_option maxRecDepth 100000 in
theorem PR.step1 {ops : Array Oper} {o : Oper} {a : Act} {K : Act → World → Prop} {Q : Exit → Act → World → Prop} {E : Prop} {B : Nat} {w : World} {v : Value} {n : Nat} {cs : List Value}
  (hown : PR B w v n cs) (hgd : o.guard = none) (s x : Operand)
  (ho : o.op = .call { callee := .builtin .append, args := #[s, x], argTypes := #[142, 142] })
  (hs : a.eval s = v) (c1 c2 c3 : Value) (k1 : c1.oneCell' = true) (k2 : c2.oneCell' = true) (k3 : c3.oneCell' = true) (hx : a.eval x = .slice (some ⟨w.heap.size, 0, none⟩) 1 1)
  (hlen : n ≤ 1000) (hB : B ≤ w.heap.size)
  (h : ∀ q cap w', PR B w' (.slice (some ⟨q, 0, none⟩) (n + 1) cap) (n + 1) (cs ++ [c1, c2, c3]) → w.heap.size ≤ w'.heap.size → (v.ownBlock = some q ∨ w.heap.size ≤ q) → q < w'.heap.size → Below B w w' →
   (∀ k, k < w.heap.size → v.ownBlock ≠ some k → w'.heap[k]? = w.heap[k]?) → K (a.put o.dst (.slice (some ⟨q, 0, none⟩) (n + 1) cap)) w') :
  if Region.wanted o (yielded ops a.tmps) = true then Oper.wp Tryz.prog o a (w.alloc (.cells #[c1, c2, c3] 186)) K Q else E := by
 obtain ⟨i0, hi, hy0, hy1, hy2⟩ := info_parts Tryz.infoP
 have hsz : (w.alloc (.cells #[c1, c2, c3] 186)).heap.size = w.heap.size + 1 := by simp
 refine step_append_lies _ hgd s x 142 ho B 186 i0 (.agg #[.int .i64 0, .string ByteArray.empty, .slice none 0 0]) 3 48 Tryz.underlying142 hi hy0 hy1 hy2 rfl (by decide) v n cs hs (World.ownsRow.alloc hown _) ⟨w.heap.size, 0, none⟩ 1 1 [c1, c2, c3] hx rfl
  (World.news_of_block (cs := #[c1, c2, c3]) (t := 186) (fr := (0, 0)) ?_) ?_ (by omega) ?_ ?_ ?_ (w.heap.size + 1) hsz ?_
 ·exact heap_alloc_new w (.cells #[c1, c2, c3] 186)
 ·intro u hu
  simp at hu
  rcases hu with rfl | rfl | rfl <;> assumption
 ·unfold maxLen; omega
 ·omega
 ·omega
 ·intro q cap w' h2 h3 h4 h5
  have hb0 : Below w.heap.size w (w.alloc (.cells #[c1, c2, c3] 186)) := (Below.refl _ w).alloc (Nat.le_refl _) _
  have hs3 := h3.size
  refine h q cap w' h2 (by omega) (h4.imp id (fun e => by omega)) h5 ?_ ?_
  ·exact (hb0.mono hB).grown h3 (by omega) (fun k hk => (World.ownsRow.lt hown k hk).1)
  ·intro k hk hne
   rw [h3.block k (by omega) (fun e => hne e.symm)]
   exact hb0.block k hk
theorem setB {w : World} {g : Nat} {a b : Value} {t : TypeId} (h : w.heap[g]? = some (.cells #[a, b] t (0, 0))) (u : Value) : (w.setCell ⟨g, 1, none⟩ u).heap[g]? = some (.cells #[a, u] t (0, 0)) := by
 simp [World.setCell, Array.getElem?_modify, h]
set_option maxHeartbeats 4000000 in
set_option maxRecDepth 100000 in
theorem riAdd_any (B g a n op : Nat) (l : List UInt8) (t : ByteArray) (v : Value) (cs : List Value) (ka : Option Addr) (kl kc : Nat) (w : World) (h : Ri w g l a v) (hp : PR B w v n cs) (hn : n ≤ 1000) (hg : g < B) (hB : B ≤ w.heap.size) (ht : t.size ≤ 100) :
  Calls Tryz.prog 156 #[.pointer (some ⟨g, 0, none⟩), .int .i64 (op : Int), .string t, .slice ka kl kc] w fun e w' => ∃ v' : Value, e = .returned (.int .i64 (n : Int)) ∧ Ri w' g l a v' ∧ PR B w' v' (n + 1) (cs ++ [.int .i64 (op : Int), .string t, .slice ka kl kc]) ∧
   w.heap.size ≤ w'.heap.size ∧ (∀ k, k < w.heap.size → k ≠ g → v.ownBlock ≠ some k → w'.heap[k]? = w.heap[k]?) ∧ (∀ q, v'.ownBlock = some q → v.ownBlock = some q ∨ w.heap.size ≤ q) ∧ Env w w' := by
 obtain ⟨c0, c1, f0, f1⟩ := cells2 h
 have hgl : g < w.heap.size := by omega
 have hfar := hp.far hg
 have HH : Hid (Ri w g l a v) := h
 have HP : Hid (PR B w v n cs) := hp
 have CC : Hid (∀ w, Calls Tryz.prog 115 #[.string t] w fun e w' => e = .returned (.string t) ∧ Below w.heap.size w w') := fun w => clone_any t w (by omega)
 clear h hp
 go_enter Tryz.func156, Tryz.ntmps156
 go_wp2_with fail
 go_region_law ((first | (refine PR.step1 (B := B) (w := w1) (v := v) (n := n) (cs := cs) (HP.out.keep fun q e => hb1.block q (World.ownsRow.lt HP.out q e).2) (by rfl) _ _ (by rfl) (by rfl) _ _ _ (by rfl) (by rfl) (by rfl) (by rfl) (by omega) (Nat.le_trans hB hb1.size) ?_; intro q cap w2 hp1 hs1 hq1 hq2 hb2 hh1; have R2 := (hh1 g (Nat.lt_of_lt_of_le hgl hb1.size) hfar).trans ((hb1.block g hgl).trans HH.out); obtain ⟨y0, y1, e0, e1⟩ := cells2 R2) | (go_simp; go_at_call 115; refine (CC.out _).mono ?_; rintro e w1 ⟨rfl, hb1⟩; have x1 := (hb1.cell (p := ⟨g, 1, none⟩) (by exact hgl)).trans c1; have x2 : ∀ o : Obj, (w1.alloc o).cell? ⟨g, 1, none⟩ = some v := fun o => (((Below.refl w1.heap.size w1).alloc (Nat.le_refl _) o).cell (p := ⟨g, 1, none⟩) (Nat.lt_of_lt_of_le hgl hb1.size)).trans x1; dsimp only)))
 all_goals
  have hR2 := setB R2 (.slice (some ⟨q, 0, none⟩) (n + 1) cap)
  have hp2 := PR.set hp1 hg 1 (.slice (some ⟨q, 0, none⟩) (n + 1) cap)
  have hs0 : w.heap.size ≤ w1.heap.size := hb1.size
  have hh2 : ∀ k, k < w.heap.size → k ≠ g → v.ownBlock ≠ some k → (w2.setCell ⟨g, 1, none⟩ (.slice (some ⟨q, 0, none⟩) (n + 1) cap)).heap[k]? = w.heap[k]? := by
   intro k hk hkg hkv
   rw [Below.heap_setCell _ _ _ _ (by show k ≠ g; exact hkg)]
   exact (hh1 k (by omega) hkv).trans (hb1.block k hk)
  have hs2 : w.heap.size ≤ (w2.setCell ⟨g, 1, none⟩ (.slice (some ⟨q, 0, none⟩) (n + 1) cap)).heap.size := by simp [World.setCell]; omega
  have hen : Env w (w2.setCell ⟨g, 1, none⟩ (.slice (some ⟨q, 0, none⟩) (n + 1) cap)) := ⟨hb2.os.trans hb1.os, hb2.tape.trans hb1.tape, hb2.output.trans hb1.output⟩
  have HQ : Hid (∀ q', (Value.slice (some ⟨q, 0, none⟩) (n + 1) cap).ownBlock = some q' → v.ownBlock = some q' ∨ w.heap.size ≤ q') := by
   intro q' e
   have e2 : q = q' := by simpa [Value.ownBlock] using e
   rw [← e2]
   exact hq1.imp id (fun hh => by omega)
  obtain ⟨w3, hw3⟩ : ∃ w3, w3 = w2.setCell ⟨g, 1, none⟩ (.slice (some ⟨q, 0, none⟩) (n + 1) cap) := ⟨_, rfl⟩
  rw [← hw3] at hR2 hp2 hh2 hs2 hen ⊢
  have HP2 : Hid (PR B w3 (.slice (some ⟨q, 0, none⟩) (n + 1) cap) (n + 1) (cs ++ [.int .i64 (op : Int), .string t, .slice ka kl kc])) := hp2
  have HH2 : Hid (∀ k, k < w.heap.size → k ≠ g → v.ownBlock ≠ some k → w3.heap[k]? = w.heap[k]?) := hh2
  have HEN : Hid (Env w w3) := hen
  obtain ⟨z0, z1, zf0, zf1⟩ := cells2 hR2
  clear hen hw3 hp2 hh2 hp1 hh1 hb1 hb2 hq1 hq2 y0 y1 e0 e1 R2 x1 x2 c0 c1 f0 f1 HH HP CC
  go_wp2
  go_ret
  exact ⟨_, rfl, hR2, HP2.out, hs2, HH2.out, HQ.out, HEN.out⟩
end PartRiA
section PartRiB
open Go.RowKit
abbrev tx (l : List UInt8) : ByteArray := ⟨l.toArray⟩
theorem tx_size (l : List UInt8) : (tx l).size = l.length := by simp [ByteArray.size]
theorem tx_list (l : List UInt8) : (tx l).data.toList = l := by simp
theorem tx_empty (l : List UInt8) : (tx l).toList.isEmpty = l.isEmpty := by rw [Lib.toList_data, tx_list]
theorem tx_one (b : UInt8) (r : List UInt8) : (tx (b :: r)).extract 0 1 = tx [b] := by rw [ext_take]; simp [tx]
theorem tx_rest (b : UInt8) (r : List UInt8) (n : Nat) (h : n = r.length + 1) : (tx (b :: r)).extract 1 n = tx r := by rw [ext_take, h]; simp [tx]
theorem index_yes (signs : List UInt8) (b : UInt8) (h : b ∈ signs) : 0 ≤ Lib.indexByte signs b := by
 have := Lib.indexByte_ge signs b
 by_cases e : Lib.indexByte signs b = -1
 ·obtain ⟨j, hj, e2⟩ := List.mem_iff_getElem.1 h
  exact absurd (by rw [List.getElem?_eq_getElem hj, e2]) (Lib.indexByte_none e j)
 ·omega
theorem index_no (signs : List UInt8) (b : UInt8) (h : b ∉ signs) : Lib.indexByte signs b = -1 := by
 have := Lib.indexByte_ge signs b
 by_cases e : Lib.indexByte signs b = -1
 ·exact e
 ·obtain ⟨o, ho⟩ : ∃ o : Nat, Lib.indexByte signs b = (o : Int) := ⟨(Lib.indexByte signs b).toNat, by omega⟩
  exact absurd (List.mem_of_getElem? (Lib.indexByte_some ho).1) h
theorem drop_at (l : List UInt8) (a : Nat) (b : UInt8) (h : l[a]? = some b) : l.drop a = b :: l.drop (a + 1) := by
 obtain ⟨hlt, e⟩ := List.getElem?_eq_some_iff.1 h
 rw [List.drop_eq_getElem_cons hlt, e]
set_option maxRecDepth 100000 in
set_option maxHeartbeats 400000 in
theorem nextYes (g a : Nat) (l signs : List UInt8) (b : UInt8) (v : Value) (w : World) (h : Ri w g l a v) (hb : l[a]? = some b) (hs : b ∈ signs) :
  Calls Tryz.prog 154 #[.pointer (some ⟨g, 0, none⟩), .string (tx signs)] w fun e w' => e = .returned (.bool true) ∧ w' = w := by
 have h' := h
 unfold Ri at h'
 rw [drop_at l a b hb] at h'
 obtain ⟨c0, c1, f0, f1⟩ := cells2 h'
 obtain ⟨z, hz⟩ : ∃ z, z = Lib.indexByte signs b := ⟨_, rfl⟩
 have C : Hid (∀ w, Calls Tryz.prog 147 #[.string (tx signs), .int .u8 (b.toNat : Int)] w fun e w' => e = .returned (.int .i64 z) ∧ w' = w) := fun w => by
  have := indexByte_any (tx signs) b w
  rw [tx_list, ← hz] at this
  exact this
 have hz0 : 0 ≤ z := by rw [hz]; exact index_yes signs b hs
 have d0 : decide ((0 : Int) ≤ z) = true := decide_eq_true hz0
 have hem : (tx (b :: l.drop (a + 1))).toList.isEmpty = false := by rw [tx_empty]; rfl
 have hsz : 0 < (tx (b :: l.drop (a + 1))).size := by rw [tx_size]; simp
 have hhd : (tx (b :: l.drop (a + 1)))[0] = b := rfl
 have h256 : b.toNat < 256 := b.toNat_lt
 obtain ⟨x, hx⟩ : ∃ x, x = tx (b :: l.drop (a + 1)) := ⟨_, rfl⟩
 have c0' : w.cell? ⟨g, 0, none⟩ = some (.string x) := by rw [hx]; exact c0
 have hem' : x.toList.isEmpty = false := by rw [hx]; exact hem
 have hsz' : 0 < x.size := by rw [hx]; exact hsz
 have hhd' : x[0] = b := by subst hx; rfl
 clear hx hz h h' hb hs c0 hem hsz hhd f0 f1
 go_enter Tryz.func154, Tryz.ntmps154
 go_wp2_with fail
 refine (C.out _).mono ?_
 rintro e w1 ⟨rfl, rfl⟩
 go_wp2
 go_ret
 exact ⟨rfl, rfl⟩
set_option maxRecDepth 100000 in
set_option maxHeartbeats 400000 in
theorem nextNo (g a : Nat) (l signs : List UInt8) (v : Value) (w : World) (h : Ri w g l a v) (hs : ∀ b, l[a]? = some b → b ∉ signs) :
  Calls Tryz.prog 154 #[.pointer (some ⟨g, 0, none⟩), .string (tx signs)] w fun e w' => e = .returned (.bool false) ∧ w' = w := by
 have h' := h
 unfold Ri at h'
 cases hb : l[a]? with
 | none =>
  have hd : l.drop a = [] := List.drop_of_length_le (by have := List.getElem?_eq_none_iff.1 hb; exact this)
  rw [hd] at h'
  obtain ⟨c0, c1, f0, f1⟩ := cells2 h'
  clear h h' hb hs hd
  go_enter Tryz.func154, Tryz.ntmps154
  go_wp2
  go_ret
  exact ⟨rfl, rfl⟩
 | some b =>
  have hs := hs b hb
  rw [drop_at l a b hb] at h'
  obtain ⟨c0, c1, f0, f1⟩ := cells2 h'
  have C : Hid (∀ w, Calls Tryz.prog 147 #[.string (tx signs), .int .u8 (b.toNat : Int)] w fun e w' => e = .returned (.int .i64 (-1)) ∧ w' = w) := fun w => by
   have := indexByte_any (tx signs) b w
   rw [tx_list, index_no signs b hs] at this
   exact this
  have h256 : b.toNat < 256 := b.toNat_lt
  obtain ⟨x, hx⟩ : ∃ x, x = tx (b :: l.drop (a + 1)) := ⟨_, rfl⟩
  have c0' : w.cell? ⟨g, 0, none⟩ = some (.string x) := by rw [hx]; exact c0
  have hem' : x.toList.isEmpty = false := by rw [hx, tx_empty]; rfl
  have hsz' : 0 < x.size := by rw [hx, tx_size]; simp
  have hhd' : x[0] = b := by subst hx; rfl
  clear hx h h' hb hs c0 f0 f1
  go_enter Tryz.func154, Tryz.ntmps154
  go_wp2_with fail
  refine (C.out _).mono ?_
  rintro e w1 ⟨rfl, rfl⟩
  go_wp2
  go_ret
  exact ⟨rfl, rfl⟩
theorem setA {w : World} {g : Nat} {a b : Value} {t : TypeId} (h : w.heap[g]? = some (.cells #[a, b] t (0, 0))) (u : Value) : (w.setCell ⟨g, 0, none⟩ u).heap[g]? = some (.cells #[u, b] t (0, 0)) := by
 simp [World.setCell, Array.getElem?_modify, h]
set_option maxRecDepth 100000 in
set_option maxHeartbeats 400000 in
theorem take_any (g a : Nat) (l : List UInt8) (b : UInt8) (v : Value) (w : World) (h : Ri w g l a v) (hb : l[a]? = some b) :
  Calls Tryz.prog 155 #[.pointer (some ⟨g, 0, none⟩)] w fun e w' => e = .returned (.string (tx [b])) ∧ Ri w' g l (a + 1) v ∧ (∃ u, w' = w.setCell ⟨g, 0, none⟩ u) := by
 have h' := h
 unfold Ri at h'
 rw [drop_at l a b hb] at h'
 obtain ⟨c0, c1, f0, f1⟩ := cells2 h'
 obtain ⟨x, hx⟩ : ∃ x, x = tx (b :: l.drop (a + 1)) := ⟨_, rfl⟩
 have c0' : w.cell? ⟨g, 0, none⟩ = some (.string x) := by rw [hx]; exact c0
 have hsz' : 1 ≤ x.size := by rw [hx, tx_size]; simp
 have e1 : x.extract 0 1 = tx [b] := by rw [hx]; exact tx_one b _
 have e2 : x.extract 1 x.size = tx (l.drop (a + 1)) := by rw [hx]; exact tx_rest b _ _ (tx_size _)
 have HS : Hid (Ri (w.setCell ⟨g, 0, none⟩ (.string (tx (l.drop (a + 1))))) g l (a + 1) v) := setA h' _
 have hi1 : (1 : Int) ≤ (x.size : Int) := by omega
 clear hx h h' hb c0 c1
 go_enter Tryz.func155, Tryz.ntmps155
 go_wp2_with fail
 go_ret
 exact ⟨rfl, HS.out, _, rfl⟩
def RiPost (B g : Nat) (l : List UInt8) (w : World) (N : Nat) (R : Option (Nat × List Pp.Pc × Nat)) (e : Ending) (w' : World) : Prop :=
 FB g B w w' ∧ match R with
 | none => ∃ (k : Int) (a' : Nat) (v' : Value) (n' : Nat) (cs' : List Value), e = .returned (.tuple #[.int .i64 k, .bool false]) ∧ Ri w' g l a' v' ∧ PR B w' v' n' cs' ∧ n' ≤ N
 | some (a', o, k) => e = .returned (.tuple #[.int .i64 (k : Int), .bool true]) ∧ ∃ v', Ri w' g l a' v' ∧ RP B w' v' o
theorem Ri.setg {w : World} {g a : Nat} {l : List UInt8} {v : Value} (h : Ri w g l a v) (p : Addr) (u : Value) (hp : p.block ≠ g) : Ri (w.setCell p u) g l a v := (Below.heap_setCell _ _ _ _ (fun e => hp e.symm)).trans h
set_option maxRecDepth 100000 in
theorem riAddP (B g a q : Nat) (l : List UInt8) (v : Value) (ps : List Pp.Pc) (p : Pp.Pc) (w0 w : World) (h : Ri w g l a v) (hr : RP B w0 v ps) (hb : Below w0.heap.size w0 w) (hg : g < B) (hB : B ≤ w0.heap.size) (hn : ps.length ≤ 60) (ht : p.text.length ≤ 100)
  (hq : p.kids ≠ [] → w0.heap.size ≤ q ∧ q < w.heap.size ∧ KidsBlk w q (p.kids.map Int.ofNat)) :
  Calls Tryz.prog 156 #[.pointer (some ⟨g, 0, none⟩), .int .i64 (p.op : Int), .string (tx p.text), kvOf q p.kids] w fun e w' => e = .returned (.int .i64 (ps.length : Int)) ∧ FB g B w w' ∧ ∃ v', Ri w' g l a v' ∧ RP B w' v' (ps ++ [p]) := by
 obtain ⟨cs, hp⟩ := (hr.up hb).pr
 have hsz := hb.size
 obtain ⟨ka, kl, kc, hkv⟩ : ∃ ka kl kc, kvOf q p.kids = .slice ka kl kc := by
  unfold kvOf
  split
  ·exact ⟨_, _, _, rfl⟩
  ·exact ⟨_, _, _, rfl⟩
 rw [hkv]
 refine (riAdd_any B g a ps.length p.op l (tx p.text) v cs ka kl kc w h hp (by omega) hg (by omega) (by rw [tx_size]; exact ht)).mono ?_
 rintro e w' ⟨v', rfl, hR, hP, hs, hf, ho, hen⟩
 refine ⟨rfl, FB.fr ⟨hs, hf, hen⟩ hp (by omega), v', hR, hr.put hb hq hg hB hp hP (by rw [hkv]) (fun cs0 h0 => ?_) hf ho⟩
 exact h0.unique hp fun q' e => hb.block q' (World.ownsRow.lt h0 q' e).2
set_option maxRecDepth 100000 in
theorem riAdd0 (B g a op : Nat) (l : List UInt8) (x : ByteArray) (t : List UInt8) (v : Value) (ps : List Pp.Pc) (w : World) (h : Ri w g l a v) (hr : RP B w v ps) (hg : g < B) (hB : B ≤ w.heap.size) (hn : ps.length ≤ 60) (hx : x = tx t) (ht : t.length ≤ 100) :
  Calls Tryz.prog 156 #[.pointer (some ⟨g, 0, none⟩), .int .i64 (op : Int), .string x, .slice none 0 0] w fun e w' => e = .returned (.int .i64 (ps.length : Int)) ∧ FB g B w w' ∧ ∃ v', Ri w' g l a v' ∧ RP B w' v' (ps ++ [⟨op, t, []⟩]) := by
 subst hx
 exact riAddP B g a 0 l v ps ⟨op, t, []⟩ w w h hr (Below.refl _ _) hg hB hn ht (fun h => absurd rfl h)
set_option maxRecDepth 100000 in
theorem riAdd1 (B g a op k q : Nat) (l : List UInt8) (v : Value) (ps : List Pp.Pc) (w : World) (h : Ri w g l a v) (hr : RP B w v ps) (hg : g < B) (hB : B ≤ w.heap.size) (hn : ps.length ≤ 60) (hq : q = w.heap.size) :
  Calls Tryz.prog 156 #[.pointer (some ⟨g, 0, none⟩), .int .i64 (op : Int), .string ⟨#[]⟩, .slice (some ⟨q, 0, none⟩) 1 1] (w.alloc (.cells #[.int .i64 (k : Int)] 3)) fun e w' => e = .returned (.int .i64 (ps.length : Int)) ∧ FB g B w w' ∧ ∃ v', Ri w' g l a v' ∧ RP B w' v' (ps ++ [⟨op, [], [k]⟩]) := by
 subst hq
 have hb : Below w.heap.size w (w.alloc (.cells #[.int .i64 (k : Int)] 3)) := (Below.refl _ _).alloc (Nat.le_refl _) _
 refine (riAddP B g a w.heap.size l v ps ⟨op, [], [k]⟩ w _ (h.up hb) hr hb hg hB hn (by simp) (fun _ => ⟨Nat.le_refl _, by simp, heap_alloc_new w _⟩)).mono ?_
 rintro e w' ⟨h1, h2, h3⟩
 exact ⟨h1, (FB.of (hb.mono hB)).trans h2, h3⟩
set_option maxRecDepth 100000 in
theorem riAdd2 (B g a op k j q : Nat) (l : List UInt8) (v : Value) (ps : List Pp.Pc) (w : World) (h : Ri w g l a v) (hr : RP B w v ps) (hg : g < B) (hB : B ≤ w.heap.size) (hn : ps.length ≤ 60) (hq : q = w.heap.size) :
  Calls Tryz.prog 156 #[.pointer (some ⟨g, 0, none⟩), .int .i64 (op : Int), .string ⟨#[]⟩, .slice (some ⟨q, 0, none⟩) 2 2] (w.alloc (.cells #[.int .i64 (k : Int), .int .i64 (j : Int)] 3)) fun e w' => e = .returned (.int .i64 (ps.length : Int)) ∧ FB g B w w' ∧ ∃ v', Ri w' g l a v' ∧ RP B w' v' (ps ++ [⟨op, [], [k, j]⟩]) := by
 subst hq
 have hb : Below w.heap.size w (w.alloc (.cells #[.int .i64 (k : Int), .int .i64 (j : Int)] 3)) := (Below.refl _ _).alloc (Nat.le_refl _) _
 refine (riAddP B g a w.heap.size l v ps ⟨op, [], [k, j]⟩ w _ (h.up hb) hr hb hg hB hn (by simp) (fun _ => ⟨Nat.le_refl _, by simp, heap_alloc_new w _⟩)).mono ?_
 rintro e w' ⟨h1, h2, h3⟩
 exact ⟨h1, (FB.of (hb.mono hB)).trans h2, h3⟩
end PartRiB
section PartItC
open Go.RowKit
theorem decode_wide (s : ByteArray) (pos : Nat) (hp : pos < s.size) : pos + (Utf8.decode s pos).2 ≤ s.size ∧ ∀ j (h : j < s.size), pos < j → j < pos + (Utf8.decode s pos).2 → 128 ≤ (s[j]'h).toNat := by
 have key : (Utf8.decode s pos).2 = 1 ∨ ((Utf8.decode s pos).2 = 2 ∧ (pos + 1 < s.size ∧ (s.get! (pos + 1)).toNat / 64 = 2)) ∨ ((Utf8.decode s pos).2 = 3 ∧ (pos + 1 < s.size ∧ (s.get! (pos + 1)).toNat / 64 = 2) ∧ (pos + 2 < s.size ∧ (s.get! (pos + 2)).toNat / 64 = 2)) ∨ ((Utf8.decode s pos).2 = 4 ∧ (pos + 1 < s.size ∧ (s.get! (pos + 1)).toNat / 64 = 2) ∧ (pos + 2 < s.size ∧ (s.get! (pos + 2)).toNat / 64 = 2) ∧ (pos + 3 < s.size ∧ (s.get! (pos + 3)).toNat / 64 = 2)) := by
  simp only [Utf8.decode]
  repeat' split
  all_goals simp_all
 have g : ∀ k (h : k < s.size), s.get! k = s[k]'h := fun k h => by
  simp [ByteArray.get!, getElem!_pos, h]
  rfl
 rcases key with e | ⟨e, h1⟩ | ⟨e, h1, h2⟩ | ⟨e, h1, h2, h3⟩
 ·rw [e]
  exact ⟨by omega, fun j h a b => by omega⟩
 ·rw [e]
  refine ⟨by omega, fun j h a b => ?_⟩
  obtain rfl : j = pos + 1 := by omega
  rw [g _ h] at h1
  omega
 ·rw [e]
  refine ⟨by omega, fun j h a b => ?_⟩
  rw [g _ h1.1] at h1
  rw [g _ h2.1] at h2
  rcases (by omega : j = pos + 1 ∨ j = pos + 2) with rfl | rfl <;> omega
 ·rw [e]
  refine ⟨by omega, fun j h a b => ?_⟩
  rw [g _ h1.1] at h1
  rw [g _ h2.1] at h2
  rw [g _ h3.1] at h3
  rcases (by omega : j = pos + 1 ∨ j = pos + 2 ∨ j = pos + 3) with rfl | rfl | rfl <;> omega
theorem Asc.not {t : ByteArray} (ha : Asc t) {b : UInt8} (h : 128 ≤ b.toNat) : t.data.toList.contains b = false := by
 cases e : t.data.toList.contains b with
 | false => rfl
 | true =>
  have := ha b (by simpa using e)
  omega
theorem rune_step (s t : ByteArray) (pos : Nat) (hp : pos < s.size) (ha : Asc t) : ∃ r W : Nat, Utf8.decode s pos = (r, W) ∧ r ≤ 2147483647 ∧ 1 ≤ W ∧ pos + W ≤ s.size ∧
  (decide ((r : Int) < 128) && t.data.toList.contains (r : Int).toNat.toUInt8) = t.data.toList.contains s[pos] ∧ ∀ j (h : j < s.size), pos ≤ j → j < pos + W → t.data.toList.contains (s[j]'h) = t.data.toList.contains s[pos] := by
 refine ⟨(Utf8.decode s pos).1, (Utf8.decode s pos).2, rfl, decode_le s pos, ?_, (decode_wide s pos hp).1, ?_, ?_⟩
 ·by_cases h : (s[pos]'hp).toNat < 128
  ·rw [decode_ascii s pos hp h]; exact Nat.le_refl _
  ·exact (decode_high s pos hp (by omega)).2
 ·by_cases h : (s[pos]'hp).toNat < 128
  ·rw [decode_ascii s pos hp h]
   have : decide (((s[pos]'hp).toNat : Int) < 128) = true := decide_eq_true (by omega)
   simp only [this, Bool.true_and]
   simp
  ·have := (decode_high s pos hp (by omega)).1
   rw [decide_eq_false (by omega), ha.not (b := s[pos]) (by omega)]
   rfl
 ·intro j h a b
  by_cases hj : j = pos
  ·subst hj; rfl
  ·by_cases h2 : (s[pos]'hp).toNat < 128
   ·rw [decode_ascii s pos hp h2] at b
    simp at b
    omega
   ·rw [ha.not (b := s[pos]) (by omega), ha.not ((decode_wide s pos hp).2 j h (by omega) b)]
theorem run_steps (p : UInt8 → Bool) (l : List UInt8) (pos : Nat) : ∀ n, (∀ j, pos ≤ j → j < pos + n → ∃ h : j < l.length, p (l[j]'h) = true) → Tk.run p l pos = Tk.run p l (pos + n) := by
 intro n
 induction n with
 | zero => intro _; rfl
 | succ n ih =>
  intro h
  rw [ih (fun j a b => h j a (by omega))]
  obtain ⟨h1, h2⟩ := h (pos + n) (by omega) (by omega)
  exact Tk.run_step h1 h2
theorem iterPos_at {w : World} {k p : Nat} {s : ByteArray} (h : w.heap[k]? = some (.stringIter s p)) : w.iterPos k = p := by simp [World.iterPos, h]
theorem byte_at (s : ByteArray) (i : Nat) (h : i < s.size) : s.data.toList[i]'(by simpa using h) = s[i] := by
 simp
 rfl
set_option maxRecDepth 100000 in
set_option maxHeartbeats 1000000 in
theorem rowOf_any (s t : ByteArray) (p : UInt8 → Bool) (w : World) (ha : Asc t) (hp : ∀ b, t.data.toList.contains b = p b) :
  Calls Tryz.prog 86 #[.string s, .string t] w fun e w' => e = .returned (.string (tx (s.data.toList.take (Tk.run p s.data.toList 0)))) ∧ Below w.heap.size w w' := by
 have hsl : s.data.toList.length = s.size := by simp
 have HC : Hid (∀ (r : Nat) (w : World), r ≤ 2147483647 → Calls Tryz.prog 112 #[.string t, .int .i32 (r : Int)] w fun e w' => e = .returned (.bool (decide ((r : Int) < 128) && t.data.toList.contains (r : Int).toNat.toUInt8)) ∧ Below w.heap.size w w') := fun r w h => containsRune_any t (r : Int) w ha (by omega) (by omega)
 have HA : Hid (Asc t) := ha
 have HP : Hid (∀ b, t.data.toList.contains b = p b) := hp
 clear ha hp
 go_enter Tryz.func86, Tryz.ntmps86
 go_wp2
 go_loopw [] (fun wr => ∃ pos, wr.heap[w.heap.size]? = some (.stringIter s pos) ∧ Below w.heap.size w wr ∧ pos ≤ s.size ∧ Tk.run p s.data.toList 0 = Tk.run p s.data.toList pos) (fun wr => s.size - wr.iterPos w.heap.size)
 case atStart => exact ⟨0, World.iter_heap w s 0, below_iter w s 0, Nat.zero_le _, rfl⟩
 case round =>
  obtain ⟨pos, hk, hb, hle, hrun⟩ := hrel
  have HR : Hid (Tk.run p s.data.toList 0 = Tk.run p s.data.toList pos) := hrun
  have HB : Hid (Below w.heap.size w wr) := hb
  clear hrun hb
  by_cases hlt : pos < s.size
  ·obtain ⟨r, W, hd, hr, hW, hWs, hB, hall⟩ := rune_step s t pos hlt HA.out
   have hnx : ∀ ty, (Instr.next (.pointer (some ⟨w.heap.size, 0, none⟩)) true ty).run Tryz.prog wr = .ok (.tuple #[.bool true, .int .i64 pos, .int .i32 (r : Int)]) (wr.iterAt w.heap.size s (pos + W)) := fun ty => by
    rw [Lib.run_next_any_at wr w.heap.size s pos ty hk hlt, hd]
   have HK : Hid ((wr.iterAt w.heap.size s (pos + W)).heap[w.heap.size]? = some (.stringIter s (pos + W))) := Lib.iterAt_heap wr _ s pos _ hk
   have HK2 : Hid (Below w.heap.size w (wr.iterAt w.heap.size s (pos + W))) := Lib.below_iterAt HB.out (Nat.le_refl _) s _
   have HM : Hid (wr.iterPos w.heap.size = pos) := iterPos_at hk
   obtain ⟨B, hBB⟩ : ∃ B, t.data.toList.contains s[pos] = B := ⟨_, rfl⟩
   have HC2 : Hid (∀ w : World, Calls Tryz.prog 112 #[.string t, .int .i32 (r : Int)] w fun e w' => e = .returned (.bool B) ∧ Below w.heap.size w w') := fun w => by
    have := HC.out r w hr
    rw [hB, hBB] at this
    exact this
   have HALL : Hid (∀ j (h : j < s.size), pos ≤ j → j < pos + W → p (s[j]'h) = B) := fun j h a b => by rw [← HP.out, hall j h a b, hBB]
   have HPP : Hid (p (s[pos]'hlt) = B) := by show _ = _; rw [← HP.out, hBB]
   have i0 : (0 : Int) ≤ (pos : Int) := by omega
   have i1 : (pos : Int) ≤ (s.size : Int) := by omega
   generalize wr.iterAt w.heap.size s (pos + W) = wi at *
   clear hall hBB hB hd hk HC hr
   cases B with
   | true =>
    go_wp2_with (go_at_call 112; refine (HC2.out _).mono ?_; rintro e w2 ⟨rfl, hb2⟩)
    have HK3 : w2.heap[w.heap.size]? = some (.stringIter s (pos + W)) := by
     rw [hb2.block _ (by have := (Array.getElem?_eq_some_iff.1 HK.out).1; exact this)]
     exact HK.out
    go_roundw
    case rel =>
     refine ⟨pos + W, HK3, HK2.out.trans (hb2.mono HK2.out.size), hWs, ?_⟩
     rw [HR.out]
     exact run_steps p _ pos W fun j a b => ⟨by rw [hsl]; omega, by rw [byte_at s j (by omega)]; exact HALL.out j (by omega) a b⟩
    case measure =>
     rw [iterPos_at HK3, HM.out]
     omega
   | false =>
    go_wp2_with (go_at_call 112; refine (HC2.out _).mono ?_; rintro e w2 ⟨rfl, hb2⟩)
    have HT : s.extract 0 pos = tx (s.data.toList.take (Tk.run p s.data.toList 0)) := by
     rw [HR.out, Tk.run_stop (by rw [hsl]; exact hlt) (by rw [byte_at s pos hlt]; exact HPP.out), ext_take]
     rfl
    go_ret
    exact ⟨by rw [← HT]; rfl, HK2.out.trans (hb2.mono HK2.out.size)⟩
  ·have hnx : ∀ ty, (Instr.next (.pointer (some ⟨w.heap.size, 0, none⟩)) true ty).run Tryz.prog wr = .ok (.tuple #[.bool false]) wr := fun ty => Lib.run_next_end_at wr w.heap.size s pos ty hk hlt
   have HR2 := HR.out
   rw [Tk.run_end p (l := s.data.toList) (i := pos) (by omega)] at HR2
   have HT : Hid (s = tx (s.data.toList.take (Tk.run p s.data.toList 0))) := by
    show _ = _
    rw [HR2, List.take_of_length_le (by omega)]
   clear HR HR2 hk
   go_wp2
   go_ret
   refine ⟨?_, HB.out⟩
   rw [← HT.out]
   rfl
set_option maxRecDepth 100000 in
set_option maxHeartbeats 1000000 in
theorem upTo_any (s t : ByteArray) (p : UInt8 → Bool) (w : World) (ha : Asc t) (hp : ∀ b, (!t.data.toList.contains b) = p b) :
  Calls Tryz.prog 88 #[.string s, .string t] w fun e w' => e = .returned (.string (tx (s.data.toList.take (Tk.run p s.data.toList 0)))) ∧ Below w.heap.size w w' := by
 have hsl : s.data.toList.length = s.size := by simp
 have HC : Hid (∀ (r : Nat) (w : World), r ≤ 2147483647 → Calls Tryz.prog 112 #[.string t, .int .i32 (r : Int)] w fun e w' => e = .returned (.bool (decide ((r : Int) < 128) && t.data.toList.contains (r : Int).toNat.toUInt8)) ∧ Below w.heap.size w w') := fun r w h => containsRune_any t (r : Int) w ha (by omega) (by omega)
 have HA : Hid (Asc t) := ha
 have HP : Hid (∀ b, (!t.data.toList.contains b) = p b) := hp
 clear ha hp
 go_enter Tryz.func88, Tryz.ntmps88
 go_wp2
 go_loopw [] (fun wr => ∃ pos, wr.heap[w.heap.size]? = some (.stringIter s pos) ∧ Below w.heap.size w wr ∧ pos ≤ s.size ∧ Tk.run p s.data.toList 0 = Tk.run p s.data.toList pos) (fun wr => s.size - wr.iterPos w.heap.size)
 case atStart => exact ⟨0, World.iter_heap w s 0, below_iter w s 0, Nat.zero_le _, rfl⟩
 case round =>
  obtain ⟨pos, hk, hb, hle, hrun⟩ := hrel
  have HR : Hid (Tk.run p s.data.toList 0 = Tk.run p s.data.toList pos) := hrun
  have HB : Hid (Below w.heap.size w wr) := hb
  clear hrun hb
  by_cases hlt : pos < s.size
  ·obtain ⟨r, W, hd, hr, hW, hWs, hB, hall⟩ := rune_step s t pos hlt HA.out
   have hnx : ∀ ty, (Instr.next (.pointer (some ⟨w.heap.size, 0, none⟩)) true ty).run Tryz.prog wr = .ok (.tuple #[.bool true, .int .i64 pos, .int .i32 (r : Int)]) (wr.iterAt w.heap.size s (pos + W)) := fun ty => by
    rw [Lib.run_next_any_at wr w.heap.size s pos ty hk hlt, hd]
   have HK : Hid ((wr.iterAt w.heap.size s (pos + W)).heap[w.heap.size]? = some (.stringIter s (pos + W))) := Lib.iterAt_heap wr _ s pos _ hk
   have HK2 : Hid (Below w.heap.size w (wr.iterAt w.heap.size s (pos + W))) := Lib.below_iterAt HB.out (Nat.le_refl _) s _
   have HM : Hid (wr.iterPos w.heap.size = pos) := iterPos_at hk
   obtain ⟨B, hBB⟩ : ∃ B, t.data.toList.contains s[pos] = B := ⟨_, rfl⟩
   have HC2 : Hid (∀ w : World, Calls Tryz.prog 112 #[.string t, .int .i32 (r : Int)] w fun e w' => e = .returned (.bool B) ∧ Below w.heap.size w w') := fun w => by
    have := HC.out r w hr
    rw [hB, hBB] at this
    exact this
   have HALL : Hid (∀ j (h : j < s.size), pos ≤ j → j < pos + W → p (s[j]'h) = !B) := fun j h a b => by rw [← HP.out, hall j h a b, hBB]
   have HPP : Hid (p (s[pos]'hlt) = !B) := by show _ = _; rw [← HP.out, hBB]
   have i0 : (0 : Int) ≤ (pos : Int) := by omega
   have i1 : (pos : Int) ≤ (s.size : Int) := by omega
   generalize wr.iterAt w.heap.size s (pos + W) = wi at *
   clear hall hBB hB hd hk HC hr
   cases B with
   | false =>
    go_wp2_with (go_at_call 112; refine (HC2.out _).mono ?_; rintro e w2 ⟨rfl, hb2⟩)
    have HK3 : w2.heap[w.heap.size]? = some (.stringIter s (pos + W)) := by
     rw [hb2.block _ (by have := (Array.getElem?_eq_some_iff.1 HK.out).1; exact this)]
     exact HK.out
    go_roundw
    case rel =>
     refine ⟨pos + W, HK3, HK2.out.trans (hb2.mono HK2.out.size), hWs, ?_⟩
     rw [HR.out]
     exact run_steps p _ pos W fun j a b => ⟨by rw [hsl]; omega, by rw [byte_at s j (by omega)]; exact HALL.out j (by omega) a b⟩
    case measure =>
     rw [iterPos_at HK3, HM.out]
     omega
   | true =>
    go_wp2_with (go_at_call 112; refine (HC2.out _).mono ?_; rintro e w2 ⟨rfl, hb2⟩)
    have HT : s.extract 0 pos = tx (s.data.toList.take (Tk.run p s.data.toList 0)) := by
     rw [HR.out, Tk.run_stop (by rw [hsl]; exact hlt) (by rw [byte_at s pos hlt]; exact HPP.out), ext_take]
     rfl
    go_ret
    exact ⟨by rw [← HT]; rfl, HK2.out.trans (hb2.mono HK2.out.size)⟩
  ·have hnx : ∀ ty, (Instr.next (.pointer (some ⟨w.heap.size, 0, none⟩)) true ty).run Tryz.prog wr = .ok (.tuple #[.bool false]) wr := fun ty => Lib.run_next_end_at wr w.heap.size s pos ty hk hlt
   have HR2 := HR.out
   rw [Tk.run_end p (l := s.data.toList) (i := pos) (by omega)] at HR2
   have HT : Hid (s = tx (s.data.toList.take (Tk.run p s.data.toList 0))) := by
    show _ = _
    rw [HR2, List.take_of_length_le (by omega)]
   clear HR HR2 hk
   go_wp2
   go_ret
   refine ⟨?_, HB.out⟩
   rw [← HT.out]
   rfl
end PartItC
section PartCaA
open Go.Shelf
def Tryz.lays227_ren : Go.Shelf.Ren := ⟨fun | 227 => 161 | 228 => 162 | n => n, fun | 116 => 205 | 124 => 212 | n => n, fun | n => n⟩
set_option maxRecDepth 100000 in
theorem Tryz.lays227 : Go.Proofs.Lays.n227 Tryz.prog Tryz.lays227_ren := {
 mixed := by kernel_rfl
 f227 := Tryz.func161.trans (congrArg some (by kernel_rfl))
 t0 := Tryz.underlying0
 a0 := Tryz.isAgg0
 z0 := Tryz.sizeOf0
 v0 := Tryz.zeroValue0
 t3 := Tryz.underlying3
 a3 := Tryz.isAgg3
 z3 := Tryz.sizeOf3
 v3 := Tryz.zeroValue3
 t4 := Tryz.underlying4
 a4 := Tryz.isAgg4
 z4 := Tryz.sizeOf4
 v4 := Tryz.zeroValue4
 t5 := Tryz.underlying5
 a5 := Tryz.isAgg5
 z5 := Tryz.sizeOf5
 v5 := Tryz.zeroValue5
 t9 := Tryz.underlying9
 a9 := Tryz.isAgg9
 z9 := Tryz.sizeOf9
 v9 := Tryz.zeroValue9
 t116 := Tryz.underlying205
 a116 := Tryz.isAgg205
 z116 := Tryz.sizeOf205 }
set_option maxRecDepth 100000 in
theorem Tryz.lays228 : Go.Proofs.Lays.n228 Tryz.prog Tryz.lays227_ren := {
 mixed := by kernel_rfl
 f228 := Tryz.func162.trans (congrArg some (by kernel_rfl))
 t0 := Tryz.underlying0
 a0 := Tryz.isAgg0
 z0 := Tryz.sizeOf0
 v0 := Tryz.zeroValue0
 t4 := Tryz.underlying4
 a4 := Tryz.isAgg4
 z4 := Tryz.sizeOf4
 v4 := Tryz.zeroValue4
 t5 := Tryz.underlying5
 a5 := Tryz.isAgg5
 z5 := Tryz.sizeOf5
 v5 := Tryz.zeroValue5
 t116 := Tryz.underlying205
 a116 := Tryz.isAgg205
 z116 := Tryz.sizeOf205
 t124 := Tryz.underlying212
 a124 := Tryz.isAgg212
 z124 := Tryz.sizeOf212
 v124 := Tryz.zeroValue212 }
open Go.RowKit
set_option maxRecDepth 100000 in
theorem asetInfo : (Tryz.prog.info? 205).map (fun i => (i.zero, i.size)) = some (some (.agg (Array.replicate 256 (.bool false))), 256) := by kernel_rfl
theorem asetZero (w : World) : (zeroValue 205).run Tryz.prog w = .ok (.agg (Array.replicate 256 (.bool false))) w := (zero_of_info asetInfo).1 w
theorem asetSize : (Tryz.prog.info? 205).map (·.size) = some 256 := (zero_of_info asetInfo).2
set_option maxHeartbeats 400000 in
theorem useSet_any (n : Int) (w : World) : Calls Tryz.prog 160 #[.int .i64 n] w fun e w' => e = .returned (.bool (decide (8 < n))) ∧ w' = w := by
 go_enter Tryz.func160, Tryz.ntmps160
 go_wp2
 go_ret
 exact ⟨rfl, rfl⟩
def anyOf (s t : ByteArray) : Bool := s.data.toList.any fun b => t.data.toList.contains b
theorem anyOf_yes {s t : ByteArray} {i : Nat} (h : i < s.size) (hc : t.data.toList.contains s[i] = true) : anyOf s t = true := by
 unfold anyOf
 rw [List.any_eq_true]
 exact ⟨s[i], by show s.data[i] ∈ s.data.toList; exact Array.getElem_mem_toList _, hc⟩
theorem anyOf_no {s t : ByteArray} (h : ∀ i, ∀ h : i < s.size, t.data.toList.contains s[i] = false) : anyOf s t = false := by
 unfold anyOf
 rw [List.any_eq_false]
 intro x hx
 obtain ⟨i, hi, rfl⟩ := List.getElem_of_mem hx
 have := h i (by simpa using hi)
 rw [byte_at s i (by simpa using hi), this]
 simp
set_option maxRecDepth 100000 in
set_option maxHeartbeats 2000000 in
theorem indexAny_short (s t : ByteArray) (w : World) (ha : Asc t) (h2 : 2 ≤ t.size) (h8 : s.size ≤ 8) :
  Calls Tryz.prog 141 #[.string s, .string t] w fun e w' => (∃ r : Int, e = .returned (.int .i64 r) ∧ decide (0 ≤ r) = anyOf s t) ∧ Below w.heap.size w w' := by
 have hsl : s.data.toList.length = s.size := by simp
 have HC : Hid (∀ (r : Nat) (w : World), r ≤ 2147483647 → Calls Tryz.prog 129 #[.string t, .int .i32 (r : Int)] w fun e w' => (∃ z : Int, e = .returned (.int .i64 z) ∧ decide (0 ≤ z) = (decide ((r : Int) < 128) && t.data.toList.contains (r : Int).toNat.toUInt8)) ∧ Below w.heap.size w w') := fun r w h => by
  by_cases hl : (r : Int) < 128
  ·refine (indexRune_low t (r : Int) w (by omega) hl).mono ?_
   rintro e w' ⟨rfl, rfl⟩
   exact ⟨⟨_, rfl, by rw [indexByte_contains, decide_eq_true hl, Bool.true_and]⟩, Below.refl _ _⟩
  ·refine (indexRune_high t (r : Int) w ha (by omega) (by omega)).mono ?_
   rintro e w' ⟨rfl, hb⟩
   exact ⟨⟨_, rfl, by rw [decide_eq_false hl]; rfl⟩, hb⟩
 have HU : Hid (∀ w : World, Calls Tryz.prog 160 #[.int .i64 (s.size : Int)] w fun e w' => e = .returned (.bool false) ∧ w' = w) := fun w => by
  have := useSet_any (s.size : Int) w
  rwa [decide_eq_false (by omega)] at this
 have hemp : t.toList.isEmpty = false := by
  rw [Lib.toList_data]
  cases h : t.data.toList with
  | nil => have := Lib.size_eq t; rw [h, List.length_nil] at this; omega
  | cons _ _ => rfl
 have hn1 : ((t.size : Int) == 1) = false := beq_eq_false_iff_ne.2 (by omega)
 have HA : Hid (Asc t) := ha
 clear ha
 go_enter Tryz.func141, Tryz.ntmps141
 go_wp2_with (go_at_call 160; refine (HU.out _).mono ?_; rintro e w1 ⟨rfl, hw1⟩; rw [hw1])
 go_loopw [] (fun wr => ∃ pos, wr.heap[w.heap.size]? = some (.stringIter s pos) ∧ Below w.heap.size w wr ∧ pos ≤ s.size ∧ Hid (∀ i, ∀ h : i < s.size, i < pos → t.data.toList.contains s[i] = false)) (fun wr => s.size - wr.iterPos w.heap.size)
 case atStart => exact ⟨0, World.iter_heap w s 0, below_iter w s 0, Nat.zero_le _, fun i _ h => by omega⟩
 case round =>
  obtain ⟨pos, hk, hb, hle, HR⟩ := hrel
  have HB : Hid (Below w.heap.size w wr) := hb
  clear hb
  by_cases hlt : pos < s.size
  ·obtain ⟨r, W, hd, hr, hW, hWs, hB, hall⟩ := rune_step s t pos hlt HA.out
   have hnx : ∀ ty, (Instr.next (.pointer (some ⟨w.heap.size, 0, none⟩)) true ty).run Tryz.prog wr = .ok (.tuple #[.bool true, .int .i64 pos, .int .i32 (r : Int)]) (wr.iterAt w.heap.size s (pos + W)) := fun ty => by
    rw [Lib.run_next_any_at wr w.heap.size s pos ty hk hlt, hd]
   have HK : Hid ((wr.iterAt w.heap.size s (pos + W)).heap[w.heap.size]? = some (.stringIter s (pos + W))) := Lib.iterAt_heap wr _ s pos _ hk
   have HK2 : Hid (Below w.heap.size w (wr.iterAt w.heap.size s (pos + W))) := Lib.below_iterAt HB.out (Nat.le_refl _) s _
   have HM : Hid (wr.iterPos w.heap.size = pos) := iterPos_at hk
   obtain ⟨B, hBB⟩ : ∃ B, t.data.toList.contains s[pos] = B := ⟨_, rfl⟩
   have HC2 : Hid (∀ w : World, Calls Tryz.prog 129 #[.string t, .int .i32 (r : Int)] w fun e w' => (∃ z : Int, e = .returned (.int .i64 z) ∧ decide (0 ≤ z) = B) ∧ Below w.heap.size w w') := fun w => by
    have := HC.out r w hr
    rw [hB, hBB] at this
    exact this
   have HALL : Hid (∀ j (h : j < s.size), pos ≤ j → j < pos + W → t.data.toList.contains (s[j]'h) = B) := fun j h a b => by rw [hall j h a b, hBB]
   have HPP : Hid (t.data.toList.contains (s[pos]'hlt) = B) := hBB
   generalize wr.iterAt w.heap.size s (pos + W) = wi at *
   clear hall hBB hB hd hk HC hr
   cases B with
   | true =>
    have HV : Hid (anyOf s t = true) := anyOf_yes hlt HPP.out
    clear HPP HALL
    go_wp2_with (go_at_call 129; refine (HC2.out _).mono ?_; rintro e w2 ⟨⟨z, rfl, hz⟩, hb2⟩)
    go_ret
    exact ⟨⟨_, rfl, by rw [HV.out]; exact decide_eq_true (by omega)⟩, HK2.out.trans (hb2.mono HK2.out.size)⟩
   | false =>
    go_wp2_with (go_at_call 129; refine (HC2.out _).mono ?_; rintro e w2 ⟨⟨z, rfl, hz⟩, hb2⟩)
    have HK3 : w2.heap[w.heap.size]? = some (.stringIter s (pos + W)) := by
     rw [hb2.block _ (by have := (Array.getElem?_eq_some_iff.1 HK.out).1; exact this)]
     exact HK.out
    go_roundw
    case rel =>
     refine ⟨pos + W, HK3, HK2.out.trans (hb2.mono HK2.out.size), hWs, fun i h hi => ?_⟩
     by_cases h' : i < pos
     ·exact HR.out i h h'
     ·exact HALL.out i h (by omega) hi
    case measure =>
     rw [iterPos_at HK3, HM.out]
     omega
  ·have hnx : ∀ ty, (Instr.next (.pointer (some ⟨w.heap.size, 0, none⟩)) true ty).run Tryz.prog wr = .ok (.tuple #[.bool false]) wr := fun ty => Lib.run_next_end_at wr w.heap.size s pos ty hk hlt
   have HV : Hid (anyOf s t = false) := anyOf_no fun i h => HR.out i h (by omega)
   clear HR hk
   go_wp2
   go_ret
   exact ⟨⟨_, rfl, by rw [HV.out]; rfl⟩, HB.out⟩
set_option maxHeartbeats 8000000 in
set_option maxRecDepth 1000000 in
theorem indexAny_long (s t : ByteArray) (w : World) (ha : Asc t) (h2 : 2 ≤ t.size) (h8 : 8 < s.size) (hs : s.size ≤ 1048576) (ht : t.size ≤ 1048576) :
  Calls Tryz.prog 141 #[.string s, .string t] w fun e w' => (∃ r : Int, e = .returned (.int .i64 r) ∧ decide (0 ≤ r) = anyOf s t) ∧ Below w.heap.size w w' := by
 have HM : Hid (Calls Tryz.prog 161 #[.string t] w fun e w' => e = .returned (.tuple #[.agg (Lib.setCells t.data.toList), .bool true]) ∧ w' = w.alloc (.cells (Lib.setCells t.data.toList) 205)) :=
  Any.strings_makeASCIISet Tryz.lays227 asetZero asetSize t w (by omega) (fun j b hb => ha b (List.mem_of_getElem? hb))
 have HX : Hid (∀ (b : Nat) (x : UInt8) (v : Bool) (w : World), w.cell? ⟨b, x.toNat, none⟩ = some (.bool v) → Calls Tryz.prog 162 #[.pointer (some ⟨b, 0, none⟩), .int .u8 x.toNat] w fun e w' => e = .returned (.bool v) ∧ w' = w) := fun b x v w h => Any.asciiSet_contains Tryz.lays228 b x v w h
 have HU : Hid (∀ w : World, Calls Tryz.prog 160 #[.int .i64 (s.size : Int)] w fun e w' => e = .returned (.bool true) ∧ w' = w) := fun w => by
  have := useSet_any (s.size : Int) w
  rwa [decide_eq_true (by omega)] at this
 have hemp : t.toList.isEmpty = false := by
  rw [Lib.toList_data]
  cases h : t.data.toList with
  | nil => have := Lib.size_eq t; rw [h, List.length_nil] at this; omega
  | cons _ _ => rfl
 have hn1 : ((t.size : Int) == 1) = false := beq_eq_false_iff_ne.2 (by omega)
 have hsc : (storeCells ⟨w.heap.size + 1, 0, none⟩ (Lib.setCells t.data.toList).toList 0).run Tryz.prog ((w.alloc (.cells (Lib.setCells t.data.toList) 205)).alloc (.cells Tryz.zeroCells205 205)) = .ok () ((w.alloc (.cells (Lib.setCells t.data.toList) 205)).alloc (.cells (Lib.setCells t.data.toList) 205)) := by
  have := run_storeCells_new (P := Tryz.prog) (w.alloc (.cells (Lib.setCells t.data.toList) 205)) 205 Tryz.zeroCells205 (Lib.setCells t.data.toList) (by rw [Lib.setCells_size]; exact asetSize) (by rw [Lib.setCells_size]; kernel_rfl) (Lib.setCells_one _)
  simpa using this
 have HCL : Hid (∀ x : UInt8, ((w.alloc (.cells (Lib.setCells t.data.toList) 205)).alloc (.cells (Lib.setCells t.data.toList) 205)).cell? ⟨w.heap.size + 1, x.toNat, none⟩ = some (.bool (t.data.toList.contains x))) := fun x => by
  rw [World.cell?_alloc_at _ _ _ _ (by simp), Lib.setCells_at]
 have HBB : Hid (Below w.heap.size w ((w.alloc (.cells (Lib.setCells t.data.toList) 205)).alloc (.cells (Lib.setCells t.data.toList) 205))) := ((Below.refl _ _).alloc (Nat.le_refl _) _).alloc (by simp) _
 have hsz := Lib.setCells_size t.data.toList
 go_enter Tryz.func141, Tryz.ntmps141
 go_wp2_with (first
  | (go_at_call 160; refine (HU.out _).mono ?_; rintro e w1 ⟨rfl, hw1⟩; rw [hw1])
  | (go_at_call 161; refine HM.out.mono ?_; rintro e w1 ⟨rfl, hw1⟩; rw [hw1]))
 clear HM hsc hsz hemp hn1 HU
 generalize (w.alloc (.cells (Lib.setCells t.data.toList) 205)).alloc (.cells (Lib.setCells t.data.toList) 205) = W0 at *
 go_loopw [8] (fun i wr => ∃ k : Nat, i = .int .i64 (k : Int) ∧ k ≤ s.size ∧ wr = W0 ∧ Hid (∀ i, ∀ h : i < s.size, i < k → t.data.toList.contains s[i] = false)) (fun i _ => s.size - (intOf i).toNat)
 case atStart => exact ⟨0, rfl, by omega, rfl, fun i _ h => by omega⟩
 case round =>
  obtain ⟨k, rfl, hk, rfl, HR⟩ := hrel
  by_cases hlt : k < s.size
  ·have i1 : (k : Int) < (s.size : Int) := by omega
   obtain ⟨x, hx⟩ : ∃ x : UInt8, s[k]'hlt = x := ⟨_, rfl⟩
   have hcx := HCL.out x
   have HXX : Hid (t.data.toList.contains (s[k]'hlt) = t.data.toList.contains x) := by rw [hx]; exact rfl
   obtain ⟨B, hB⟩ : ∃ B, t.data.toList.contains x = B := ⟨_, rfl⟩
   rw [hB] at hcx HXX
   have HC2 : Hid (Calls Tryz.prog 162 #[.pointer (some ⟨w.heap.size + 1, 0, none⟩), .int .u8 x.toNat] wr fun e w' => e = .returned (.bool B) ∧ w' = wr) := HX.out _ x B wr hcx
   clear hB hcx HCL HX
   cases B with
   | true =>
    have HV : Hid (anyOf s t = true) := anyOf_yes hlt HXX.out
    clear HXX HR
    go_wp2_with (go_at_call 162; refine HC2.out.mono ?_; rintro e w2 ⟨rfl, hw2⟩; rw [hw2])
    go_ret
    exact ⟨⟨_, rfl, by rw [HV.out]; exact decide_eq_true (by omega)⟩, HBB.out⟩
   | false =>
    go_wp2_with (go_at_call 162; refine HC2.out.mono ?_; rintro e w2 ⟨rfl, hw2⟩; rw [hw2])
    go_roundw
    case rel =>
     refine ⟨k + 1, by go_num, by omega, by first | rfl | trivial, fun i h hi => ?_⟩
     by_cases h' : i = k
     ·subst h'; exact HXX.out
     ·exact HR.out i h (by omega)
    case measure => simp [intOf]; omega
  ·have HV : Hid (anyOf s t = false) := anyOf_no fun i h => HR.out i h (by omega)
   clear HR HX HCL
   have i1 : ¬ ((k : Int) < (s.size : Int)) := by omega
   go_wp2
   go_ret
   exact ⟨⟨_, rfl, by rw [HV.out]; rfl⟩, HBB.out⟩
set_option maxRecDepth 100000 in
set_option maxHeartbeats 400000 in
theorem containsAny_any (s t : ByteArray) (w : World) (ha : Asc t) (h2 : 2 ≤ t.size) (hs : s.size ≤ 1048576) (ht : t.size ≤ 1048576) :
  Calls Tryz.prog 122 #[.string s, .string t] w fun e w' => e = .returned (.bool (anyOf s t)) ∧ Below w.heap.size w w' := by
 have C : Hid (Calls Tryz.prog 141 #[.string s, .string t] w fun e w' => (∃ r : Int, e = .returned (.int .i64 r) ∧ decide (0 ≤ r) = anyOf s t) ∧ Below w.heap.size w w') := by
  by_cases h8 : s.size ≤ 8
  ·exact indexAny_short s t w ha h2 h8
  ·exact indexAny_long s t w ha h2 (by omega) hs ht
 go_enter Tryz.func122, Tryz.ntmps122
 go_wp2_with fail
 refine C.out.mono ?_
 rintro e w' ⟨⟨r, rfl, hr⟩, hb⟩
 have HR : Hid (decide (0 ≤ r) = anyOf s t) := hr
 clear hr
 go_wp2
 go_ret
 exact ⟨by rw [← HR.out]; rfl, hb⟩
end PartCaA
section PartItD
open Go.RowKit
set_option maxRecDepth 100000 in
set_option maxHeartbeats 1000000 in
theorem hasPrefixL_any (s p : ByteArray) (w : World) :
  Calls Tryz.prog 113 #[.string s, .string p] w fun e w' => e = .returned (.bool (Lib.hasPrefix s.data.toList p.data.toList)) ∧ w' = w := by
 rw [← Lib.hasPrefix_of_take, ← Lib.size_eq, ← Lib.size_eq]
 go_enter Tryz.func113, Tryz.ntmps113
 go_wp2
 ·rename_i h
  go_ret
  refine ⟨?_, rfl⟩
  show Ending.returned (Value.bool ((s.extract 0 p.size).toList == p.toList)) = _
  rw [Lib.extract_toList, Lib.toList_data]
  simp [h]
 ·rename_i h
  go_ret
  refine ⟨?_, rfl⟩
  show Ending.returned (Value.bool false) = _
  simp [h]
set_option maxRecDepth 100000 in
set_option maxHeartbeats 1000000 in
theorem hasPrefix_any (s p : ByteArray) (w : World) :
  Calls Tryz.prog 87 #[.string s, .string p] w fun e w' => e = .returned (.bool (Lib.hasPrefix s.data.toList p.data.toList)) ∧ w' = w := by
 have C : Hid (∀ w, Calls Tryz.prog 113 #[.string s, .string p] w fun e w' => e = .returned (.bool (Lib.hasPrefix s.data.toList p.data.toList)) ∧ w' = w) := fun w => hasPrefixL_any s p w
 go_enter Tryz.func87, Tryz.ntmps87
 go_wp2_with (go_at_call 113; refine (C.out _).mono ?_; rintro e w' ⟨rfl, rfl⟩)
 go_ret
 exact ⟨rfl, rfl⟩
set_option maxRecDepth 100000 in
set_option maxHeartbeats 1000000 in
theorem indexOneL_any (s : ByteArray) (c : UInt8) (w : World) :
  Calls Tryz.prog 130 #[.string s, .string ⟨#[c]⟩] w fun e w' => e = .returned (.int .i64 (Lib.indexByte s.data.toList c)) ∧ w' = w := by
 have C : Hid (∀ w, Calls Tryz.prog 151 #[.string s, .int .u8 (c.toNat : Int)] w fun e w' => e = .returned (.int .i64 (Lib.indexByte s.data.toList c)) ∧ w' = w) := fun w => by
  have := Tryz.stringslite_IndexByte s (c.toNat : Int) w
  rwa [toU8] at this
 go_enter Tryz.func130, Tryz.ntmps130
 go_wp2_with (go_at_call 151; refine (C.out _).mono ?_; rintro e w' ⟨rfl, rfl⟩)
 ·have h : ([c] == s.toList) = true := by assumption
  go_ret
  refine ⟨?_, rfl⟩
  have e : s.data.toList = [c] := by rw [← Lib.toList_data]; exact (beq_iff_eq.1 h).symm
  rw [e]
  simp [Lib.indexByte]
 ·go_ret
  exact ⟨rfl, rfl⟩
set_option maxRecDepth 100000 in
set_option maxHeartbeats 1000000 in
theorem indexOne_any (s : ByteArray) (c : UInt8) (w : World) :
  Calls Tryz.prog 114 #[.string s, .string ⟨#[c]⟩] w fun e w' => e = .returned (.int .i64 (Lib.indexByte s.data.toList c)) ∧ w' = w := by
 have C : Hid (∀ w, Calls Tryz.prog 130 #[.string s, .string ⟨#[c]⟩] w fun e w' => e = .returned (.int .i64 (Lib.indexByte s.data.toList c)) ∧ w' = w) := fun w => indexOneL_any s c w
 go_enter Tryz.func114, Tryz.ntmps114
 go_wp2_with (go_at_call 130; refine (C.out _).mono ?_; rintro e w' ⟨rfl, rfl⟩)
 go_ret
 exact ⟨rfl, rfl⟩
set_option maxRecDepth 100000 in
set_option maxHeartbeats 1000000 in
theorem containsOne_any (s : ByteArray) (c : UInt8) (w : World) :
  Calls Tryz.prog 89 #[.string s, .string (tx [c])] w fun e w' => e = .returned (.bool (s.data.toList.contains c)) ∧ w' = w := by
 rw [← indexByte_contains]
 show Calls Tryz.prog 89 #[.string s, .string ⟨#[c]⟩] w _
 have C : Hid (∀ w, Calls Tryz.prog 114 #[.string s, .string ⟨#[c]⟩] w fun e w' => e = .returned (.int .i64 (Lib.indexByte s.data.toList c)) ∧ w' = w) := fun w => indexOne_any s c w
 generalize Lib.indexByte s.data.toList c = z at *
 go_enter Tryz.func89, Tryz.ntmps89
 go_wp2_with (go_at_call 114; refine (C.out _).mono ?_; rintro e w' ⟨rfl, rfl⟩)
 go_ret
 exact ⟨rfl, rfl⟩
/-! The sets of the program -/
def setLetters : ByteArray := ⟨#[97, 98, 99, 100, 101, 102, 103, 104, 105, 106, 107, 108, 109, 110, 111, 112, 113, 114, 115, 116, 117, 118, 119, 120, 121, 122, 65, 66, 67, 68, 69, 70, 71, 72, 73, 74, 75, 76, 77, 78, 79, 80, 81, 82, 83, 84, 85, 86, 87, 88, 89, 90]⟩
def setFigures : ByteArray := ⟨#[48, 49, 50, 51, 52, 53, 54, 55, 56, 57]⟩
def setGaps : ByteArray := ⟨#[32, 9]⟩
def setLine : ByteArray := ⟨#[10]⟩
def setMark (m : UInt8) : ByteArray := ⟨#[m, 10]⟩
def setSigns : ByteArray := ⟨#[123, 125, 40, 41, 91, 93, 36, 126, 60, 43, 45, 42, 37, 46, 44, 61]⟩
theorem byte_all {p : UInt8 → Bool} (h : ∀ n : Fin 256, p (UInt8.ofNat n.val) = true) (b : UInt8) : p b = true := by
 have := h ⟨b.toNat, b.toNat_lt⟩
 simpa using this
set_option maxRecDepth 100000 in
theorem letters_is (b : UInt8) : setLetters.data.toList.contains b = Tk.letter b := by
 have := byte_all (p := fun b => setLetters.data.toList.contains b == Tk.letter b) (by decide) b
 simpa using this
set_option maxRecDepth 100000 in
theorem figures_is (b : UInt8) : setFigures.data.toList.contains b = Tk.figure b := by
 have := byte_all (p := fun b => setFigures.data.toList.contains b == Tk.figure b) (by decide) b
 simpa using this
theorem gaps_is (b : UInt8) : setGaps.data.toList.contains b = Tk.blank b := by
 rw [Bool.eq_iff_iff]
 simp [setGaps, Tk.blank]
theorem line_is (b : UInt8) : (!setLine.data.toList.contains b) = (b != 10) := by
 rw [Bool.eq_iff_iff]
 simp [setLine]
theorem mark_is (m b : UInt8) : (!(setMark m).data.toList.contains b) = (b != m && b != 10) := by
 rw [Bool.eq_iff_iff]
 simp [setMark]
theorem signs_is (b : UInt8) : setSigns.data.toList.contains b = decide (b ∈ Tk.signs) := by
 simp [setSigns, Tk.signs]
theorem asc_letters : Asc setLetters := by unfold Asc; decide
theorem asc_figures : Asc setFigures := by unfold Asc; decide
theorem asc_gaps : Asc setGaps := by unfold Asc; decide
theorem asc_line : Asc setLine := by unfold Asc; decide
theorem asc_mark (m : UInt8) (h : m.toNat < 128) : Asc (setMark m) := by
 intro b hb
 simp [setMark] at hb
 rcases hb with rfl | rfl
 ·exact h
 ·decide
theorem prefix_hash (l : List UInt8) : Lib.hasPrefix l [35] = decide (l[0]? = some 35) := by
 cases l with
 | nil => rfl
 | cons b r =>
  rw [Bool.eq_iff_iff]
  simp [Lib.hasPrefix, List.isPrefixOf]
  exact eq_comm
set_option maxRecDepth 100000 in
set_option maxHeartbeats 1000000 in
theorem behindGaps_any (l : List UInt8) (w : World) :
  Calls Tryz.prog 53 #[.string (tx l)] w fun e w' => e = .returned (.string (tx (l.drop (Tk.gap l 0)))) ∧ Below w.heap.size w w' := by
 obtain ⟨k, hk⟩ : ∃ k, k = Tk.run Tk.blank l 0 := ⟨_, rfl⟩
 have hkl : k ≤ l.length := by rw [hk]; exact Tk.run_le _ (Nat.zero_le _)
 have C1 : Hid (∀ w, Calls Tryz.prog 86 #[.string (tx l), .string ⟨#[32, 9]⟩] w fun e w' => e = .returned (.string (tx (l.take k))) ∧ Below w.heap.size w w') := fun w => by
  rw [hk]
  exact rowOf_any (tx l) setGaps Tk.blank w asc_gaps gaps_is
 have HG : Hid (Tk.gap l 0 = if (l.drop k)[0]? = some 35 then k + Tk.run (fun b => b != 10) (l.drop k) 0 else k) := by
  show _ = _
  unfold Tk.gap
  rw [← hk, Tk.get_drop, Nat.add_zero, Tk.run_drop0 (fun b => b != 10) l k]
 have s1 : (tx (l.take k)).size = k := by rw [tx_size, List.length_take]; omega
 have s2 : (tx l).extract k (tx l).size = tx (l.drop k) := by
  rw [ext_take, tx_size, tx_list, List.take_of_length_le (by simp)]
 have C2 : Hid (∀ w, Calls Tryz.prog 87 #[.string (tx (l.drop k)), .string ⟨#[35]⟩] w fun e w' => e = .returned (.bool (decide ((l.drop k)[0]? = some 35))) ∧ w' = w) := fun w => by
  have := hasPrefix_any (tx (l.drop k)) ⟨#[35]⟩ w
  rw [tx_list, prefix_hash] at this
  exact this
 obtain ⟨r, hr⟩ : ∃ r, r = l.drop k := ⟨_, rfl⟩
 obtain ⟨j, hj⟩ : ∃ j, j = Tk.run (fun b => b != 10) r 0 := ⟨_, rfl⟩
 have hjl : j ≤ r.length := by rw [hj]; exact Tk.run_le _ (Nat.zero_le _)
 have C3 : Hid (∀ w, Calls Tryz.prog 88 #[.string (tx r), .string ⟨#[10]⟩] w fun e w' => e = .returned (.string (tx (r.take j))) ∧ Below w.heap.size w w') := fun w => by
  rw [hj]
  exact upTo_any (tx r) setLine (fun b => b != 10) w asc_line line_is
 have HT : Hid (r = l.drop k) := hr
 have hrl : r.length = l.length - k := by rw [hr]; simp
 rw [← hr] at C2 s2 HG
 rw [← hj] at HG
 have s3 : (tx (r.take j)).size = j := by rw [tx_size, List.length_take]; omega
 have s4 : (tx r).extract j (tx r).size = tx (r.drop j) := by
  rw [ext_take, tx_size, tx_list, List.take_of_length_le (by simp)]
 have z1 : (tx l).size = l.length := tx_size l
 have z2 : (tx r).size = r.length := tx_size r
 have i1 : (k : Int) ≤ (l.length : Int) := by omega
 have i2 : (j : Int) ≤ (r.length : Int) := by omega
 have i3 : (0 : Int) ≤ (k : Int) := by omega
 have i4 : (0 : Int) ≤ (j : Int) := by omega
 rw [z1] at s2
 rw [z2] at s4
 clear hk hj hr hrl
 by_cases h : r[0]? = some 35
 ·rw [decide_eq_true h] at C2
  rw [if_pos h] at HG
  go_enter Tryz.func53, Tryz.ntmps53
  go_wp2_with fail
  refine (C1.out _).mono ?_
  rintro e w1 ⟨rfl, hb1⟩
  have B1 : Hid (Below w.heap.size w w1) := hb1
  clear hb1
  go_wp2_with fail
  refine (C2.out _).mono ?_
  rintro e w2 ⟨rfl, rfl⟩
  go_wp2_with fail
  refine (C3.out _).mono ?_
  rintro e w2 ⟨rfl, hb2⟩
  go_wp2
  go_ret
  refine ⟨?_, B1.out.trans (hb2.mono B1.out.size)⟩
  rw [HG.out, ← List.drop_drop, ← HT.out]
  rfl
 ·rw [decide_eq_false h] at C2
  rw [if_neg h] at HG
  go_enter Tryz.func53, Tryz.ntmps53
  go_wp2_with fail
  refine (C1.out _).mono ?_
  rintro e w1 ⟨rfl, hb1⟩
  have B1 : Hid (Below w.heap.size w w1) := hb1
  clear hb1
  go_wp2_with fail
  refine (C2.out _).mono ?_
  rintro e w2 ⟨rfl, rfl⟩
  go_wp2
  go_ret
  refine ⟨?_, B1.out⟩
  rw [HG.out, ← HT.out]
  rfl
end PartItD
section PartPV
namespace Pv
def fg (b : UInt8) : Bool := decide (48 ≤ b.toNat ∧ b.toNat ≤ 57)
def isn (l : List UInt8) : Bool := l.all fg && decide (1 ≤ l.length ∧ l.length ≤ 6)
theorem isn_no (s : ByteArray) (k : Nat) (h : k < s.size) (hb : s[k].toNat < 48 ∨ 57 < s[k].toNat) : isn s.data.toList = false := by
 have : s.data.toList.all fg = false := by
  rw [List.all_eq_false]
  refine ⟨s[k], List.getElem_mem (l := s.data.toList) (by simpa using h), ?_⟩
  simp [fg]; omega
 simp [isn, this]
theorem isn_size (s : ByteArray) (h : s.size < 1 ∨ 6 < s.size) : isn s.data.toList = false := by
 have e : s.data.toList.length = s.size := by simp
 unfold isn
 rw [e, Bool.and_eq_false_iff]
 right
 simp; omega
theorem isn_all (s : ByteArray) (h : ∀ k (hk : k < s.size), 48 ≤ s[k].toNat ∧ s[k].toNat ≤ 57) : isn s.data.toList = decide (1 ≤ s.size ∧ s.size ≤ 6) := by
 have e : s.data.toList.length = s.size := by simp
 have : s.data.toList.all fg = true := by
  rw [List.all_eq_true]
  intro b hb
  obtain ⟨i, hi, rfl⟩ := List.mem_iff_getElem.1 hb
  exact decide_eq_true (h i (by simpa using hi))
 unfold isn
 rw [this, e, Bool.true_and]
theorem drop_at (s : ByteArray) (k : Nat) (h : k < s.size) : s.data.toList.drop k = s[k] :: s.data.toList.drop (k + 1) := by
 rw [List.drop_eq_getElem_cons (by simpa using h)]; rfl
theorem drop_end (s : ByteArray) (k : Nat) (h : s.size ≤ k) : s.data.toList.drop k = [] := List.drop_of_length_le (by simpa using h)
def cut (l : List UInt8) : List UInt8 := l.take 40
theorem cut_len (l : List UInt8) : (cut l).length ≤ 40 := by simp [cut]; omega
def gap (b : UInt8) : Bool := decide (b.toNat = 32 ∨ b.toNat = 9)
def fld : List UInt8 → List UInt8 → List (List UInt8)
 | cur, [] => if cur = [] then [] else [cut cur]
 | cur, b :: r => if gap b then (if cur = [] then fld [] r else cut cur :: fld [] r) else fld (cur ++ [b]) r
def flds (l : List UInt8) : List (List UInt8) := (fld [] l).take 20
theorem fld_end (cur : List UInt8) (h : cur ≠ []) : fld cur [] = [cut cur] := by rw [fld, if_neg h]
theorem fld_end0 : fld [] [] = [] := rfl
theorem fld_gap (cur : List UInt8) (h : cur ≠ []) (b : UInt8) (hb : gap b = true) (r : List UInt8) : fld cur (b :: r) = cut cur :: fld [] r := by rw [fld, if_pos hb, if_neg h]
theorem fld_gap0 (b : UInt8) (hb : gap b = true) (r : List UInt8) : fld [] (b :: r) = fld [] r := by rw [fld, if_pos hb, if_pos rfl]
theorem fld_sign (cur : List UInt8) (b : UInt8) (h : gap b = false) (r : List UInt8) : fld cur (b :: r) = fld (cur ++ [b]) r := by rw [fld, if_neg (by rw [h]; decide)]
theorem cur_more (s : ByteArray) (p k : Nat) (hp : p ≤ k) (h : k < s.size) : (s.data.toList.drop p).take (k - p) ++ [s[k]] = (s.data.toList.drop p).take (k + 1 - p) := by
 rw [show k + 1 - p = (k - p) + 1 by omega, List.take_add_one]
 congr 1
 rw [List.getElem?_drop, show p + (k - p) = k by omega, List.getElem?_eq_getElem (by simpa using h)]
 rfl
theorem cur_ne (s : ByteArray) (p k : Nat) (hp : p < k) (h : k ≤ s.size) : (s.data.toList.drop p).take (k - p) ≠ [] := by
 intro e
 have := congrArg List.length e
 simp at this
 omega
theorem cur_nil (s : ByteArray) (k : Nat) : (s.data.toList.drop k).take (k - k) = [] := by simp
structure At (s : ByteArray) (k p : Nat) (ws : List (List UInt8)) : Prop where
 inside : k ≤ s.size → p ≤ k ∧ (ws ++ fld ((s.data.toList.drop p).take (k - p)) (s.data.toList.drop k)).take 20 = flds s.data.toList
 over : s.size < k → ws = flds s.data.toList
 few : ws.length ≤ 20
theorem At.start (s : ByteArray) : At s 0 0 [] := ⟨fun _ => ⟨Nat.le_refl _, rfl⟩, fun h => by omega, by simp⟩
theorem At.sign {s : ByteArray} {k p : Nat} {ws : List (List UInt8)} (h : At s k p ws) (hk : k < s.size) (hb : s[k].toNat ≠ 32) (hb2 : s[k].toNat ≠ 9) : At s (k + 1) p ws := by
 obtain ⟨i1, i2⟩ := h.inside (by omega)
 refine ⟨fun _ => ⟨by omega, ?_⟩, fun ho => by omega, h.few⟩
 rw [← i2, drop_at s k hk, fld_sign _ _ (by simp [gap, hb, hb2]), cur_more s p k i1 hk]
theorem At.gap {s : ByteArray} {k p : Nat} {ws : List (List UInt8)} (h : At s k p ws) (hk : k < s.size) (hb : s[k].toNat = 32 ∨ s[k].toNat = 9) :
  (p < k → ws.length < 20 → At s (k + 1) (k + 1) (ws ++ [cut ((s.data.toList.drop p).take (k - p))])) ∧ (p < k → 20 ≤ ws.length → At s (k + 1) (k + 1) ws) ∧ (¬ p < k → At s (k + 1) (k + 1) ws) := by
 obtain ⟨i1, i2⟩ := h.inside (by omega)
 have hg : Pv.gap s[k] = true := decide_eq_true hb
 refine ⟨fun hp hw => ?_, fun hp hw => ?_, fun hp => ?_⟩
 ·refine ⟨fun _ => ⟨Nat.le_refl _, ?_⟩, fun ho => by omega, by simp; omega⟩
  rw [← i2, drop_at s k hk, fld_gap _ (cur_ne s p k hp (by omega)) _ hg, cur_nil]
  simp
 ·have hw2 : ws.length = 20 := by have := h.few; omega
  refine ⟨fun _ => ⟨Nat.le_refl _, ?_⟩, fun ho => by omega, h.few⟩
  rw [← i2, List.take_append_of_le_length (by omega), List.take_append_of_le_length (by omega)]
 ·obtain rfl : p = k := by omega
  refine ⟨fun _ => ⟨Nat.le_refl _, ?_⟩, fun ho => by omega, h.few⟩
  rw [← i2, cur_nil, cur_nil, drop_at s p hk, fld_gap0 _ hg]
theorem At.last {s : ByteArray} {k p : Nat} {ws : List (List UInt8)} (h : At s k p ws) (hk : k = s.size) :
  (p < k → ws.length < 20 → At s (k + 1) (k + 1) (ws ++ [cut ((s.data.toList.drop p).take (k - p))])) ∧ (p < k → 20 ≤ ws.length → At s (k + 1) (k + 1) ws) ∧ (¬ p < k → At s (k + 1) (k + 1) ws) := by
 obtain ⟨i1, i2⟩ := h.inside (by omega)
 have hd : s.data.toList.drop k = [] := drop_end s k (by omega)
 rw [hd] at i2
 refine ⟨fun hp hw => ?_, fun hp hw => ?_, fun hp => ?_⟩
 ·refine ⟨fun ho => by omega, fun _ => ?_, by simp; omega⟩
  rw [← i2, fld_end _ (cur_ne s p k hp (by omega))]
  exact (List.take_of_length_le (by rw [List.length_append, List.length_singleton]; omega)).symm
 ·have hw2 : ws.length = 20 := by have := h.few; omega
  refine ⟨fun ho => by omega, fun _ => ?_, h.few⟩
  rw [← i2, List.take_append_of_le_length (by omega), List.take_of_length_le (by omega)]
 ·obtain rfl : p = k := by omega
  refine ⟨fun ho => by omega, fun _ => ?_, h.few⟩
  rw [← i2, cur_nil, fld_end0, List.append_nil, List.take_of_length_le h.few]
end Pv
end PartPV
end Go.Proofs.YtkfkbdgfnopokaaGreatDoor
