/- The specification's reader of a pattern: the pieces that it has read, one more of them, and what each of its parts leaves. Plain facts, without the program: the bytes that a number is written as (least seven bits first), and that a text of such bytes is the shortest one just when its last byte is no needless nought. Small laws for the walks: a byte appended to a row of bytes that the call itself made, and the string of such a row. -/
import Derived.Test.YtlpdjmjbppmibaaGreatMPJoRdD
import Derived.Test.YtlpdjmjbppmibaaGreatProg
import Derived.WalkKit
import Derived.WalkSpells
import Derived.WalkLawsBesides
import Derived.Handy
import Derived.Laws.BytesArg
namespace Go.Proofs.YtlpdjmjbppmibaaGreat
section PartRdE
open Go.RowKit

def Pp.no : Pp.Pc := ⟨0, [], []⟩
/-- A piece's kids: nothing, or the slice of a block of their own. -/
def kvOf (q : Nat) (ks : List Nat) : Value := if ks = [] then .slice none 0 0 else .slice (some ⟨q, 0, none⟩) ks.length ks.length
/-- The row v, in memory from block B on, holds the pieces ps; each piece's kids lie in a block of their own. -/
def RP (B : Nat) (w : World) (v : Value) (ps : List Pp.Pc) : Prop := ∃ (Q : Nat → Nat) (cs : List Value), PR B w v ps.length cs ∧
  (∀ i, i < ps.length → cs[i * 3]? = some (.int .i64 ((ps.getD i Pp.no).op : Int)) ∧ cs[i * 3 + 1]? = some (.string ⟨(ps.getD i Pp.no).text.toArray⟩) ∧ cs[i * 3 + 2]? = some (kvOf (Q i) (ps.getD i Pp.no).kids) ∧
    ((ps.getD i Pp.no).kids ≠ [] → B ≤ Q i ∧ v.ownBlock ≠ some (Q i) ∧ KidsBlk w (Q i) ((ps.getD i Pp.no).kids.map Int.ofNat))) ∧
  ∀ i j, i < j → j < ps.length → (ps.getD i Pp.no).kids ≠ [] → (ps.getD j Pp.no).kids ≠ [] → Q i < Q j

theorem PR.keep {B : Nat} {w w' : World} {v : Value} {n : Nat} {cs : List Value} (h : PR B w v n cs) (hb : ∀ q, v.ownBlock = some q → w'.heap[q]? = w.heap[q]?) : PR B w' v n cs := by
  refine ⟨h.1, ?_⟩
  rcases h.2 with hn | ⟨g, cap, cur, rfl, h1, hg, rest⟩
  · exact .inl hn
  · refine .inr ⟨g, cap, cur, rfl, h1, ?_, rest⟩
    rw [hb g rfl]
    exact hg
theorem PR.len {B : Nat} {w : World} {v : Value} {n : Nat} {cs : List Value} (h : PR B w v n cs) : cs.length = n * 3 := h.1

/-- What is done elsewhere leaves the pieces as they were. -/
theorem RP.keep {B : Nat} {w w' : World} {v : Value} {ps : List Pp.Pc} (h : RP B w v ps) (hb : ∀ q, B ≤ q → q < w.heap.size → w'.heap[q]? = w.heap[q]?) : RP B w' v ps := by
  obtain ⟨Q, cs, hp, hc, hm⟩ := h
  refine ⟨Q, cs, hp.keep fun q e => ?_, fun i hi => ?_, hm⟩
  · have := World.ownsRow.lt hp q e
    exact hb q this.1 this.2
  · obtain ⟨h1, h2, h3, h4⟩ := hc i hi
    refine ⟨h1, h2, h3, fun hne => ?_⟩
    obtain ⟨k1, k2, k3⟩ := h4 hne
    exact ⟨k1, k2, (hb _ k1 (blk_lt k3)).trans k3⟩
theorem RP.up {B : Nat} {w w' : World} {v : Value} {ps : List Pp.Pc} (h : RP B w v ps) (hb : Below w.heap.size w w') : RP B w' v ps := h.keep fun q _ hq => hb.block q hq
theorem RP.pr {B : Nat} {w : World} {v : Value} {ps : List Pp.Pc} (h : RP B w v ps) : ∃ cs, PR B w v ps.length cs := by obtain ⟨_, cs, hp, _⟩ := h; exact ⟨cs, hp⟩

theorem getD_push (ps : List Pp.Pc) (p : Pp.Pc) (i : Nat) : (ps ++ [p]).getD i Pp.no = if i < ps.length then ps.getD i Pp.no else if i = ps.length then p else Pp.no := by
  by_cases h : i < ps.length
  · simp [List.getElem?_append_left, h]
  · rw [if_neg h]
    by_cases h2 : i = ps.length
    · subst h2; simp
    · rw [if_neg h2]
      simp only [List.getD_eq_getElem?_getD]
      rw [List.getElem?_eq_none (by simp; omega)]
      rfl

/-- One piece more; q: the block of its kids, newer than all that was there. -/
theorem RP.put {B g q : Nat} {w0 w w' : World} {v v' : Value} {ps : List Pp.Pc} {p : Pp.Pc} {cs cs' : List Value} (h : RP B w0 v ps) (hb : Below w0.heap.size w0 w) (hq : p.kids ≠ [] → w0.heap.size ≤ q ∧ q < w.heap.size ∧ KidsBlk w q (p.kids.map Int.ofNat))
    (hg : g < B) (hB : B ≤ w0.heap.size) (hcs : PR B w v ps.length cs) (hp : PR B w' v' (ps.length + 1) cs') (he : cs' = cs ++ [.int .i64 (p.op : Int), .string ⟨p.text.toArray⟩, kvOf q p.kids]) (hcs0 : ∀ cs0, PR B w0 v ps.length cs0 → cs0 = cs)
    (hf : ∀ k, k < w.heap.size → k ≠ g → v.ownBlock ≠ some k → w'.heap[k]? = w.heap[k]?) (ho : ∀ q, v'.ownBlock = some q → v.ownBlock = some q ∨ w.heap.size ≤ q) : RP B w' v' (ps ++ [p]) := by
  obtain ⟨Q, cs1, hp1, hc, hm⟩ := h
  obtain rfl := hcs0 cs1 hp1
  have hlen := hcs.len
  subst he
  have hw0 := hb.size
  have hlt : ∀ i, i < ps.length → (ps.getD i Pp.no).kids ≠ [] → Q i < w0.heap.size := fun i hi hne => blk_lt ((hc i hi).2.2.2 hne).2.2
  refine ⟨fun i => if i = ps.length then q else Q i, _, by simpa using hp, fun i hi => ?_, fun i j hij hj hi1 hj1 => ?_⟩
  · rw [getD_push]
    by_cases h : i < ps.length
    · rw [if_pos h]
      simp only [if_neg (show ¬ i = ps.length by omega)]
      obtain ⟨h1, h2, h3, h4⟩ := hc i h
      refine ⟨by rw [List.getElem?_append_left (by omega)]; exact h1, by rw [List.getElem?_append_left (by omega)]; exact h2, by rw [List.getElem?_append_left (by omega)]; exact h3, fun hne => ?_⟩
      obtain ⟨k1, k2, k3⟩ := h4 hne
      have hl := hlt i h hne
      refine ⟨k1, fun e => ?_, ?_⟩
      · rcases ho _ e with e2 | e2
        · exact k2 e2
        · omega
      · exact (hf (Q i) (by omega) (by omega) k2).trans ((hb.block _ hl).trans k3)
    · have hi2 : i = ps.length := by simp at hi; omega
      subst hi2
      simp only [if_neg h, ↓reduceIte]
      refine ⟨?_, ?_, ?_, fun hne => ?_⟩
      · rw [List.getElem?_append_right (by omega), hlen, Nat.sub_self]; rfl
      · rw [List.getElem?_append_right (by omega), hlen, Nat.add_sub_cancel_left]; rfl
      · rw [List.getElem?_append_right (by omega), hlen, Nat.add_sub_cancel_left]; rfl
      · obtain ⟨k1, k2, k3⟩ := hq hne
        have hvq : v.ownBlock ≠ some q := by
          intro e
          have := (World.ownsRow.lt hp1 q e).2
          omega
        refine ⟨by omega, fun e => ?_, ?_⟩
        · rcases ho _ e with e2 | e2
          · exact hvq e2
          · omega
        · exact (hf q k2 (by omega) hvq).trans k3
  · rw [getD_push] at hi1 hj1
    simp at hj
    have hi : i < ps.length := by omega
    rw [if_pos hi] at hi1
    simp only [if_neg (show ¬ i = ps.length by omega)]
    by_cases hj2 : j < ps.length
    · rw [if_pos hj2] at hj1
      simp only [if_neg (show ¬ j = ps.length by omega)]
      exact hm i j hij hj2 hi1 hj1
    · have hj3 : j = ps.length := by omega
      subst hj3
      simp only [if_neg hj2, ↓reduceIte] at hj1 ⊢
      have := hlt i hi hi1
      have := (hq hj1).1
      omega

/-- What may have changed: the reader itself, and what lies from block B on. -/
def FB (g B : Nat) (w w' : World) : Prop := w.heap.size ≤ w'.heap.size ∧ (∀ k, k < B → k ≠ g → w'.heap[k]? = w.heap[k]?) ∧ Env w w'
theorem FB.refl (g B : Nat) (w : World) : FB g B w w := ⟨Nat.le_refl _, fun _ _ _ => rfl, rfl, rfl, rfl⟩
theorem FB.trans {g B : Nat} {w w1 w2 : World} (h1 : FB g B w w1) (h2 : FB g B w1 w2) : FB g B w w2 := ⟨Nat.le_trans h1.1 h2.1, fun k hk hg => (h2.2.1 k hk hg).trans (h1.2.1 k hk hg), h2.2.2.1.trans h1.2.2.1, h2.2.2.2.1.trans h1.2.2.2.1, h2.2.2.2.2.trans h1.2.2.2.2⟩
theorem FB.of {g B : Nat} {w w' : World} (h : Below B w w') : FB g B w w' := ⟨h.size, fun k hk _ => h.block k hk, h.os, h.tape, h.output⟩
theorem FB.fr {g B : Nat} {v : Value} {n : Nat} {cs : List Value} {w w' : World} (h : Fr g v w w') (hp : PR B w v n cs) (hB : B ≤ w.heap.size) : FB g B w w' :=
  ⟨h.1, fun k hk hg => h.2.1 k (by omega) hg (fun e => by have := (World.ownsRow.lt hp k e).1; omega), h.2.2⟩

/-- What a part of the reader leaves, where R is what it should tell. -/
def RdPost (B g : Nat) (s : ByteArray) (w : World) (N : Nat) (R : Option (Nat × List Pp.Pc × Nat)) (e : Ending) (w' : World) : Prop :=
  FB g B w w' ∧ match R with
  | none => ∃ (k : Int) (a' : Nat) (v' : Value) (n' : Nat) (cs' : List Value), e = .returned (.int .i64 k) ∧ a' ≤ s.size ∧ Rd w' g s a' true v' ∧ PR B w' v' n' cs' ∧ n' ≤ N
  | some (a', o, k) => e = .returned (.int .i64 (k : Int)) ∧ a' ≤ s.size ∧ o.length ≤ 60 ∧ ∃ v', Rd w' g s a' false v' ∧ RP B w' v' o

theorem PR.unique {B : Nat} {w w' : World} {v : Value} {n : Nat} {cs cs' : List Value} (h : PR B w v n cs) (h' : PR B w' v n cs') (hb : ∀ q, v.ownBlock = some q → w'.heap[q]? = w.heap[q]?) : cs = cs' := by
  rcases h.2 with ⟨hv, hn⟩ | ⟨g, cap, cur, hv, h1, hg, rest⟩
  · have e1 : cs.length = n * 3 := h.len
    have e2 : cs'.length = n * 3 := h'.len
    subst hn
    rw [List.eq_nil_of_length_eq_zero (l := cs) (by omega), List.eq_nil_of_length_eq_zero (l := cs') (by omega)]
  · subst hv
    have e1 : cs.length = n * 3 := h.len
    have e2 : cs'.length = n * 3 := h'.len
    have hk := hb g rfl
    apply List.ext_getElem? 
    intro i
    by_cases hi : i < n * 3
    · rw [← World.ownsRow.cellAt h i hi, ← World.ownsRow.cellAt h' i hi]
      simp [World.cell?, hk]
    · rw [List.getElem?_eq_none (by omega), List.getElem?_eq_none (by omega)]

/-- One piece more. w0: the world ahead of its kids. -/
theorem rdPutP (B g a q : Nat) (s : ByteArray) (v : Value) (ps : List Pp.Pc) (p : Pp.Pc) (w0 w : World) (h : Rd w g s a false v) (hr : RP B w0 v ps) (hb : Below w0.heap.size w0 w) (hg : g < B) (hB : B ≤ w0.heap.size) (ha : a ≤ s.size) (hn : ps.length ≤ 60)
    (hq : p.kids ≠ [] → w0.heap.size ≤ q ∧ q < w.heap.size ∧ KidsBlk w q (p.kids.map Int.ofNat)) :
    Calls Tryz.prog 118 #[.pointer (some ⟨g, 0, none⟩), .agg #[.int .i64 (p.op : Int), .string ⟨p.text.toArray⟩, kvOf q p.kids]] w (RdPost B g s w 61 ((Pp.put ps p).map fun (o, k) => (a, o, k))) := by
  obtain ⟨cs, hp⟩ := (hr.up hb).pr
  have hsz := hb.size
  obtain ⟨ka, kl, kc, hkv⟩ : ∃ ka kl kc, kvOf q p.kids = .slice ka kl kc := by
    unfold kvOf
    split
    · exact ⟨_, _, _, rfl⟩
    · exact ⟨_, _, _, rfl⟩
  rw [hkv]
  refine (rdPut_any B g a ps.length p.op s ⟨p.text.toArray⟩ v cs ka kl kc false w h hp (by omega) hg (by omega)).mono ?_
  rintro e w' ⟨v', rfl, hR, hP, hs, hf, ho, hen⟩
  refine ⟨FB.fr ⟨hs, hf, hen⟩ hp (by omega), ?_⟩
  by_cases h60 : 60 < ps.length + 1
  · simp only [Pp.put, if_pos h60, Option.map_none]
    simp only [h60, decide_true, Bool.or_true] at hR
    exact ⟨_, a, v', _, _, rfl, ha, hR, hP, by omega⟩
  · simp only [Pp.put, if_neg h60, Option.map_some]
    simp only [h60, decide_false, Bool.or_false] at hR
    refine ⟨trivial, ha, by simp; omega, v', hR, hr.put hb hq hg hB hp hP (by rw [hkv]) (fun cs0 h0 => ?_) hf ho⟩
    exact h0.unique hp fun q' e => hb.block q' (World.ownsRow.lt h0 q' e).2
end PartRdE
section PartPlainA
namespace Pl

/-- The byte of n's least seven bits, marked as one that goes on. -/
def hb (n : Nat) : UInt8 := UInt8.ofNat (n % 128 + 128)

/-- The bytes of n, with room for f + 1 of them. -/
def vb : Nat → Nat → List UInt8
  | 0, n => [UInt8.ofNat n]
  | f + 1, n => if 127 < n then hb n :: vb f (n / 128) else [UInt8.ofNat n]

/-- The number of a text of bytes, seven bits of each, the least first. -/
def val : List UInt8 → Nat
  | [] => 0
  | b :: l => b.toNat % 128 + 128 * val l

theorem val_snoc (l : List UInt8) (b : UInt8) : val (l ++ [b]) = val l + 128 ^ l.length * (b.toNat % 128) := by
  induction l with
  | nil => simp [val]
  | cons a l ih =>
    simp only [List.cons_append, val, ih, List.length_cons, Nat.pow_succ]
    have : 128 * (128 ^ l.length * (b.toNat % 128)) = 128 ^ l.length * 128 * (b.toNat % 128) := by
      rw [Nat.mul_comm (128 ^ l.length) 128, Nat.mul_assoc]
    omega

/-- Every byte of l goes on (is 128 or more). -/
def Goes (l : List UInt8) : Prop := ∀ b ∈ l, 128 ≤ b.toNat

end Pl
end PartPlainA
section PartKit
open Go.RowKit

/-- A byte as a value. -/
def bv (b : UInt8) : Value := .int .u8 (b.toNat : Int)

theorem Tryz.infoU : (Tryz.prog.info? 5).map (fun i => (i.zero, i.size, i.bytes)) = some (some (.int .u8 0), 1, 1) := by kernel_rfl

/-- The row of bytes bs, in the call's own memory from block B on. -/
def Row (B : Nat) (w : World) (v : Value) (bs : List UInt8) : Prop := w.ownsRow B 5 1 v bs.length (bs.map bv)

theorem Row.nil (B : Nat) (w : World) : Row B w (.slice none 0 0) [] := World.ownsRow_nil _ _ _ _
theorem Row.made {B : Nat} (w : World) (cur : Array Value) (cap : Nat) (hb : B ≤ w.heap.size) (hm : cap ≤ maxLen) (hs : cur.size = cap) :
    Row B (w.alloc (.cells cur 5)) (.slice (some ⟨w.heap.size, 0, none⟩) 0 cap) [] := World.ownsRow_made w cur cap hb hm (by omega)
theorem Row.alloc {B : Nat} {w : World} {v : Value} {bs : List UInt8} (h : Row B w v bs) (o : Obj) : Row B (w.alloc o) v bs := World.ownsRow.alloc h o

set_option maxRecDepth 100000 in
/-- The string of such a row. -/
theorem Row.str {B : Nat} {w : World} {v : Value} {bs : List UInt8} (h : Row B w v bs) :
    (convert 139 9 v).run Tryz.prog w = .ok (.string ⟨bs.toArray⟩) w := by
  rcases h.2 with ⟨rfl, hn⟩ | ⟨g, cap, cur, rfl, _, hg, _, _, _, htake⟩
  · obtain rfl : bs = [] := by simpa using hn
    exact run_convert_bytes_nil w 139 5 Tryz.underlying139 Tryz.underlying5 0 0 9 Tryz.underlying9
  · have hc : ∀ j, j < bs.length → w.cell? ⟨g, 0 + j, none⟩ = some (.int .u8 ((bs.map fun b => (b.toNat : Int)).getD j 0)) := by
      intro j hj
      rw [Nat.zero_add, cell_of_row w g j cur 5 (0, 0) hg]
      have e : cur.toList[j]? = (bs.map bv)[j]? := by
        rw [← htake, List.getElem?_take, if_pos (by omega)]
      have e2 : (bs.map bv)[j]? = some (.int .u8 ((bs.map fun b => (b.toNat : Int)).getD j 0)) := by
        simp [hj, bv]
      rw [← e2, ← e]; simp
    have := run_convert_bytes_arg (P := Tryz.prog) w 139 5 Tryz.underlying139 Tryz.underlying5 g 0 bs.length cap (bs.map fun b => (b.toNat : Int)) (by simp) hc 9 Tryz.underlying9
    rw [this]
    have e3 : strOfNums (bs.map fun b => (b.toNat : Int)) = ⟨bs.toArray⟩ := by
      unfold strOfNums
      congr 2
      rw [List.map_map]
      conv => rhs; rw [← List.map_id bs]
      apply List.map_congr_left
      intro b _
      simp
    rw [e3]

set_option maxRecDepth 100000 in
/-- One byte more. -/
theorem Row.push {ops : Array Oper} {rest : List Oper} {o : Oper} {a : Act} {Q : Exit → Act → World → Prop} {B : Nat} {w : World} {v : Value} {bs : List UInt8}
    (hown : Row B w v bs) (hgd : o.guard = none) (s x : Operand)
    (ho : o.op = .call { callee := .builtin .append, args := #[s, x], argTypes := #[139, 139] })
    (hs : a.eval s = v) (z : Int) (c : UInt8) (hz : z = (c.toNat : Int)) (hx : a.eval x = .slice (some ⟨w.heap.size, 0, none⟩) 1 1)
    (hlen : bs.length < 140737488355328) (hB : B ≤ w.heap.size)
    (h : ∀ v' w', Row B w' v' (bs ++ [c]) → Below B w w' → wpList Tryz.prog ops Q rest (a.put o.dst v') w') :
    wpList Tryz.prog ops Q (o :: rest) a (w.alloc (.cells #[.int .u8 z] 5)) := by
  subst hz
  obtain ⟨i0, hi, hz0, hz1, hz2⟩ := info_parts Tryz.infoU
  refine wpList_append_own _ hgd s x 139 ho B 5 i0 (.int .u8 0) 1 1 Tryz.underlying139 hi hz0 hz1 hz2 rfl (by decide) v bs.length (bs.map bv) hs (hown.alloc _) ⟨w.heap.size, 0, none⟩ 1 1 [bv c] hx rfl (cell_one_new _ _ _) ?_ ?_ ?_ ?_ ?_
  · intro u hu; simp at hu; subst hu; rfl
  · unfold maxLen; omega
  · omega
  · simp; omega
  · intro v' w' h2 h3 _
    refine h v' w' ?_ ?_
    · unfold Row; simpa using h2
    · exact ((Below.refl B w).alloc hB _).grown h3 (by simp; omega) (fun k hk => (hown.lt k hk).1)

end PartKit
end Go.Proofs.YtlpdjmjbppmibaaGreat
