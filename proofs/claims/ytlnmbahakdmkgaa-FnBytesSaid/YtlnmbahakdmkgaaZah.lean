/- The specification's reader of a pattern: the pieces that it has read, one more of them, and what each of its parts leaves. Plain facts, without the program: the bytes that a number is written as (least seven bits first), and that a text of such bytes is the shortest one just when its last byte is no needless nought. -/
import Derived.Test.YtlnmbahakdmkgaaZag
namespace Go.Proofs.Ytlnmbahakdmkgaa
section PartRdE
open Go.RowKit

def Pp.no : Pp.Pc := ⟨0, [], []⟩
/-- A piece's kids: nothing, or the slice of a block of their own. -/
def kvOf (q : Nat) (ks : List Nat) : Value := if ks = [] then .slice none 0 0 else .slice (some ⟨q, 0, none⟩) ks.length ks.length
/-- The row v, in memory from block B on, holds the pieces ps; each piece's kids lie in a block of their own. -/
def RP (B : Nat) (w : World) (v : Value) (ps : List Pp.Pc) : Prop := ∃ (Q : Nat → Nat) (cs : List Value), PR B w v ps.length cs ∧
  (∀ i, i < ps.length → cs[i * 3]? = some (.int .i64 ((ps.getD i Pp.no).op : Int)) ∧ cs[i * 3 + 1]? = some (.string ⟨(ps.getD i Pp.no).text.toArray⟩) ∧ cs[i * 3 + 2]? = some (kvOf (Q i) (ps.getD i Pp.no).kids) ∧
    ((ps.getD i Pp.no).kids ≠ [] → B ≤ Q i ∧ v.ownBlock ≠ some (Q i) ∧ KidsBlk w (Q i) ((ps.getD i Pp.no).kids.map Int.ofNat))) ∧
  ∀ i j, i < j → j < ps.length → (ps.getD i Pp.no).kids ≠ [] → (ps.getD j Pp.no).kids ≠ [] → Q i < Q j

theorem PR.keep {B : Nat} {w w' : World} {v : Value} {n : Nat} {cs : List Value} (h : PR B w v n cs) (hb : ∀ q, v.ownBlock = some q → w'.heap[q]? = w.heap[q]?) : PR B w' v n cs := by
  refine ⟨h.1, ?_⟩
  rcases h.2 with hn | ⟨g, cap, cur, rfl, h1, hg, rest⟩
  · exact .inl hn
  · refine .inr ⟨g, cap, cur, rfl, h1, ?_, rest⟩
    rw [hb g rfl]
    exact hg
theorem PR.len {B : Nat} {w : World} {v : Value} {n : Nat} {cs : List Value} (h : PR B w v n cs) : cs.length = n * 3 := h.1

/-- What is done elsewhere leaves the pieces as they were. -/
theorem RP.keep {B : Nat} {w w' : World} {v : Value} {ps : List Pp.Pc} (h : RP B w v ps) (hb : ∀ q, B ≤ q → q < w.heap.size → w'.heap[q]? = w.heap[q]?) : RP B w' v ps := by
  obtain ⟨Q, cs, hp, hc, hm⟩ := h
  refine ⟨Q, cs, hp.keep fun q e => ?_, fun i hi => ?_, hm⟩
  · have := World.ownsRow.lt hp q e
    exact hb q this.1 this.2
  · obtain ⟨h1, h2, h3, h4⟩ := hc i hi
    refine ⟨h1, h2, h3, fun hne => ?_⟩
    obtain ⟨k1, k2, k3⟩ := h4 hne
    exact ⟨k1, k2, (hb _ k1 (blk_lt k3)).trans k3⟩
theorem RP.up {B : Nat} {w w' : World} {v : Value} {ps : List Pp.Pc} (h : RP B w v ps) (hb : Below w.heap.size w w') : RP B w' v ps := h.keep fun q _ hq => hb.block q hq
theorem RP.pr {B : Nat} {w : World} {v : Value} {ps : List Pp.Pc} (h : RP B w v ps) : ∃ cs, PR B w v ps.length cs := by obtain ⟨_, cs, hp, _⟩ := h; exact ⟨cs, hp⟩

theorem getD_push (ps : List Pp.Pc) (p : Pp.Pc) (i : Nat) : (ps ++ [p]).getD i Pp.no = if i < ps.length then ps.getD i Pp.no else if i = ps.length then p else Pp.no := by
  by_cases h : i < ps.length
  · simp [List.getElem?_append_left, h]
  · rw [if_neg h]
    by_cases h2 : i = ps.length
    · subst h2; simp
    · rw [if_neg h2]
      simp only [List.getD_eq_getElem?_getD]
      rw [List.getElem?_eq_none (by simp; omega)]
      rfl

/-- One piece more; q: the block of its kids, newer than all that was there. -/
theorem RP.put {B g q : Nat} {w0 w w' : World} {v v' : Value} {ps : List Pp.Pc} {p : Pp.Pc} {cs cs' : List Value} (h : RP B w0 v ps) (hb : Below w0.heap.size w0 w) (hq : p.kids ≠ [] → w0.heap.size ≤ q ∧ q < w.heap.size ∧ KidsBlk w q (p.kids.map Int.ofNat))
    (hg : g < B) (hB : B ≤ w0.heap.size) (hcs : PR B w v ps.length cs) (hp : PR B w' v' (ps.length + 1) cs') (he : cs' = cs ++ [.int .i64 (p.op : Int), .string ⟨p.text.toArray⟩, kvOf q p.kids]) (hcs0 : ∀ cs0, PR B w0 v ps.length cs0 → cs0 = cs)
    (hf : ∀ k, k < w.heap.size → k ≠ g → v.ownBlock ≠ some k → w'.heap[k]? = w.heap[k]?) (ho : ∀ q, v'.ownBlock = some q → v.ownBlock = some q ∨ w.heap.size ≤ q) : RP B w' v' (ps ++ [p]) := by
  obtain ⟨Q, cs1, hp1, hc, hm⟩ := h
  obtain rfl := hcs0 cs1 hp1
  have hlen := hcs.len
  subst he
  have hw0 := hb.size
  have hlt : ∀ i, i < ps.length → (ps.getD i Pp.no).kids ≠ [] → Q i < w0.heap.size := fun i hi hne => blk_lt ((hc i hi).2.2.2 hne).2.2
  refine ⟨fun i => if i = ps.length then q else Q i, _, by simpa using hp, fun i hi => ?_, fun i j hij hj hi1 hj1 => ?_⟩
  · rw [getD_push]
    by_cases h : i < ps.length
    · rw [if_pos h]
      simp only [if_neg (show ¬ i = ps.length by omega)]
      obtain ⟨h1, h2, h3, h4⟩ := hc i h
      refine ⟨by rw [List.getElem?_append_left (by omega)]; exact h1, by rw [List.getElem?_append_left (by omega)]; exact h2, by rw [List.getElem?_append_left (by omega)]; exact h3, fun hne => ?_⟩
      obtain ⟨k1, k2, k3⟩ := h4 hne
      have hl := hlt i h hne
      refine ⟨k1, fun e => ?_, ?_⟩
      · rcases ho _ e with e2 | e2
        · exact k2 e2
        · omega
      · exact (hf (Q i) (by omega) (by omega) k2).trans ((hb.block _ hl).trans k3)
    · have hi2 : i = ps.length := by simp at hi; omega
      subst hi2
      simp only [if_neg h, ↓reduceIte]
      refine ⟨?_, ?_, ?_, fun hne => ?_⟩
      · rw [List.getElem?_append_right (by omega), hlen, Nat.sub_self]; rfl
      · rw [List.getElem?_append_right (by omega), hlen, Nat.add_sub_cancel_left]; rfl
      · rw [List.getElem?_append_right (by omega), hlen, Nat.add_sub_cancel_left]; rfl
      · obtain ⟨k1, k2, k3⟩ := hq hne
        have hvq : v.ownBlock ≠ some q := by
          intro e
          have := (World.ownsRow.lt hp1 q e).2
          omega
        refine ⟨by omega, fun e => ?_, ?_⟩
        · rcases ho _ e with e2 | e2
          · exact hvq e2
          · omega
        · exact (hf q k2 (by omega) hvq).trans k3
  · rw [getD_push] at hi1 hj1
    simp at hj
    have hi : i < ps.length := by omega
    rw [if_pos hi] at hi1
    simp only [if_neg (show ¬ i = ps.length by omega)]
    by_cases hj2 : j < ps.length
    · rw [if_pos hj2] at hj1
      simp only [if_neg (show ¬ j = ps.length by omega)]
      exact hm i j hij hj2 hi1 hj1
    · have hj3 : j = ps.length := by omega
      subst hj3
      simp only [if_neg hj2, ↓reduceIte] at hj1 ⊢
      have := hlt i hi hi1
      have := (hq hj1).1
      omega

/-- What may have changed: the reader itself, and what lies from block B on. -/
def FB (g B : Nat) (w w' : World) : Prop := w.heap.size ≤ w'.heap.size ∧ (∀ k, k < B → k ≠ g → w'.heap[k]? = w.heap[k]?) ∧ Env w w'
theorem FB.refl (g B : Nat) (w : World) : FB g B w w := ⟨Nat.le_refl _, fun _ _ _ => rfl, rfl, rfl, rfl⟩
theorem FB.trans {g B : Nat} {w w1 w2 : World} (h1 : FB g B w w1) (h2 : FB g B w1 w2) : FB g B w w2 := ⟨Nat.le_trans h1.1 h2.1, fun k hk hg => (h2.2.1 k hk hg).trans (h1.2.1 k hk hg), h2.2.2.1.trans h1.2.2.1, h2.2.2.2.1.trans h1.2.2.2.1, h2.2.2.2.2.trans h1.2.2.2.2⟩
theorem FB.of {g B : Nat} {w w' : World} (h : Below B w w') : FB g B w w' := ⟨h.size, fun k hk _ => h.block k hk, h.os, h.tape, h.output⟩
theorem FB.fr {g B : Nat} {v : Value} {n : Nat} {cs : List Value} {w w' : World} (h : Fr g v w w') (hp : PR B w v n cs) (hB : B ≤ w.heap.size) : FB g B w w' :=
  ⟨h.1, fun k hk hg => h.2.1 k (by omega) hg (fun e => by have := (World.ownsRow.lt hp k e).1; omega), h.2.2⟩

/-- What a part of the reader leaves, where R is what it should tell. -/
def RdPost (B g : Nat) (s : ByteArray) (w : World) (N : Nat) (R : Option (Nat × List Pp.Pc × Nat)) (e : Ending) (w' : World) : Prop :=
  FB g B w w' ∧ match R with
  | none => ∃ (k : Int) (a' : Nat) (v' : Value) (n' : Nat) (cs' : List Value), e = .returned (.int .i64 k) ∧ a' ≤ s.size ∧ Rd w' g s a' true v' ∧ PR B w' v' n' cs' ∧ n' ≤ N
  | some (a', o, k) => e = .returned (.int .i64 (k : Int)) ∧ a' ≤ s.size ∧ o.length ≤ 60 ∧ ∃ v', Rd w' g s a' false v' ∧ RP B w' v' o

theorem PR.unique {B : Nat} {w w' : World} {v : Value} {n : Nat} {cs cs' : List Value} (h : PR B w v n cs) (h' : PR B w' v n cs') (hb : ∀ q, v.ownBlock = some q → w'.heap[q]? = w.heap[q]?) : cs = cs' := by
  rcases h.2 with ⟨hv, hn⟩ | ⟨g, cap, cur, hv, h1, hg, rest⟩
  · have e1 : cs.length = n * 3 := h.len
    have e2 : cs'.length = n * 3 := h'.len
    subst hn
    rw [List.eq_nil_of_length_eq_zero (l := cs) (by omega), List.eq_nil_of_length_eq_zero (l := cs') (by omega)]
  · subst hv
    have e1 : cs.length = n * 3 := h.len
    have e2 : cs'.length = n * 3 := h'.len
    have hk := hb g rfl
    apply List.ext_getElem? 
    intro i
    by_cases hi : i < n * 3
    · rw [← World.ownsRow.cellAt h i hi, ← World.ownsRow.cellAt h' i hi]
      simp [World.cell?, hk]
    · rw [List.getElem?_eq_none (by omega), List.getElem?_eq_none (by omega)]

/-- One piece more. w0: the world ahead of its kids. -/
theorem rdPutP (B g a q : Nat) (s : ByteArray) (v : Value) (ps : List Pp.Pc) (p : Pp.Pc) (w0 w : World) (h : Rd w g s a false v) (hr : RP B w0 v ps) (hb : Below w0.heap.size w0 w) (hg : g < B) (hB : B ≤ w0.heap.size) (ha : a ≤ s.size) (hn : ps.length ≤ 60)
    (hq : p.kids ≠ [] → w0.heap.size ≤ q ∧ q < w.heap.size ∧ KidsBlk w q (p.kids.map Int.ofNat)) :
    Calls Try.prog 76 #[.pointer (some ⟨g, 0, none⟩), .agg #[.int .i64 (p.op : Int), .string ⟨p.text.toArray⟩, kvOf q p.kids]] w (RdPost B g s w 61 ((Pp.put ps p).map fun (o, k) => (a, o, k))) := by
  obtain ⟨cs, hp⟩ := (hr.up hb).pr
  have hsz := hb.size
  obtain ⟨ka, kl, kc, hkv⟩ : ∃ ka kl kc, kvOf q p.kids = .slice ka kl kc := by
    unfold kvOf
    split
    · exact ⟨_, _, _, rfl⟩
    · exact ⟨_, _, _, rfl⟩
  rw [hkv]
  refine (rdPut_any B g a ps.length p.op s ⟨p.text.toArray⟩ v cs ka kl kc false w h hp (by omega) hg (by omega)).mono ?_
  rintro e w' ⟨v', rfl, hR, hP, hs, hf, ho, hen⟩
  refine ⟨FB.fr ⟨hs, hf, hen⟩ hp (by omega), ?_⟩
  by_cases h60 : 60 < ps.length + 1
  · simp only [Pp.put, if_pos h60, Option.map_none]
    simp only [h60, decide_true, Bool.or_true] at hR
    exact ⟨_, a, v', _, _, rfl, ha, hR, hP, by omega⟩
  · simp only [Pp.put, if_neg h60, Option.map_some]
    simp only [h60, decide_false, Bool.or_false] at hR
    refine ⟨trivial, ha, by simp; omega, v', hR, hr.put hb hq hg hB hp hP (by rw [hkv]) (fun cs0 h0 => ?_) hf ho⟩
    exact h0.unique hp fun q' e => hb.block q' (World.ownsRow.lt h0 q' e).2
end PartRdE
section PartPlainA
namespace Pl

/-- The byte of n's least seven bits, marked as one that goes on. -/
def hb (n : Nat) : UInt8 := UInt8.ofNat (n % 128 + 128)

/-- The bytes of n, with room for f + 1 of them. -/
def vb : Nat → Nat → List UInt8
  | 0, n => [UInt8.ofNat n]
  | f + 1, n => if 127 < n then hb n :: vb f (n / 128) else [UInt8.ofNat n]

theorem vb_more (f n : Nat) (h : 127 < n) : vb (f + 1) n = hb n :: vb f (n / 128) := by
  rw [vb, if_pos h]
theorem vb_last (f n : Nat) (h : ¬ 127 < n) : vb f n = [UInt8.ofNat n] := by
  cases f with
  | zero => rfl
  | succ f => rw [vb, if_neg h]

theorem vb_len (f n : Nat) : (vb f n).length ≤ f + 1 := by
  induction f generalizing n with
  | zero => simp [vb]
  | succ f ih =>
    by_cases h : 127 < n
    · rw [vb_more f n h]; have := ih (n / 128); simp; omega
    · rw [vb_last _ n h]; simp

/-- The number of a text of bytes, seven bits of each, the least first. -/
def val : List UInt8 → Nat
  | [] => 0
  | b :: l => b.toNat % 128 + 128 * val l

theorem val_snoc (l : List UInt8) (b : UInt8) : val (l ++ [b]) = val l + 128 ^ l.length * (b.toNat % 128) := by
  induction l with
  | nil => simp [val]
  | cons a l ih =>
    simp only [List.cons_append, val, ih, List.length_cons, Nat.pow_succ]
    have : 128 * (128 ^ l.length * (b.toNat % 128)) = 128 ^ l.length * 128 * (b.toNat % 128) := by
      rw [Nat.mul_comm (128 ^ l.length) 128, Nat.mul_assoc]
    omega

theorem val_lt (l : List UInt8) : val l < 128 ^ l.length := by
  induction l with
  | nil => simp [val]
  | cons a l ih => simp only [val, List.length_cons, Nat.pow_succ]; omega

/-- Every byte of l goes on (is 128 or more). -/
def Goes (l : List UInt8) : Prop := ∀ b ∈ l, 128 ≤ b.toNat

theorem val_zero_last (l : List UInt8) (c : UInt8) (hc : c.toNat < 128) (h : val (l ++ [c]) = 0) : c.toNat = 0 := by
  rw [val_snoc] at h
  have h2 : 128 ^ l.length * (c.toNat % 128) = 0 := by omega
  rcases Nat.mul_eq_zero.1 h2 with h3 | h3
  · exact absurd h3 (Nat.ne_of_gt (Nat.pow_pos (by omega)))
  · omega

theorem small (k : Nat) (h : k < 256) : (UInt8.ofNat k).toNat = k := by simp [UInt8.toNat_ofNat']; omega

theorem hb_nat (n : Nat) : (hb n).toNat = n % 128 + 128 := small _ (by omega)
theorem ofNat_toNat (b : UInt8) (n : Nat) (h : n = b.toNat) : UInt8.ofNat n = b := by subst h; simp

/-- A text of bytes that go on and a last one that does not is what its number is written as, just when the last one is no nought behind others. -/
theorem vb_val (f : Nat) (l : List UInt8) (c : UInt8) (hl : Goes l) (hc : c.toNat < 128) (hf : l.length ≤ f) :
    vb f (val (l ++ [c])) = l ++ [c] ↔ ¬ (c.toNat = 0 ∧ 0 < l.length) := by
  induction l generalizing f with
  | nil =>
    have e : val ([] ++ [c]) = c.toNat := by simp [val]; omega
    rw [e, vb_last f _ (by omega)]
    simp
  | cons a l ih =>
    have ha : 128 ≤ a.toNat := hl a (by simp)
    have ha2 : a.toNat < 256 := a.toNat_lt
    obtain ⟨g, rfl⟩ : ∃ g, f = g + 1 := ⟨f - 1, by simp at hf; omega⟩
    have hi := ih g (fun b hb => hl b (by simp [hb])) (by simp at hf; omega)
    have e : val (a :: l ++ [c]) = a.toNat % 128 + 128 * val (l ++ [c]) := by simp [val]
    rw [e]
    by_cases hz : val (l ++ [c]) = 0
    · have h0 := val_zero_last l c hc hz
      rw [vb_last _ _ (by omega)]
      simp [h0]
    · rw [vb_more _ _ (by omega)]
      have e1 : (a.toNat % 128 + 128 * val (l ++ [c])) / 128 = val (l ++ [c]) := by omega
      have e2 : (a.toNat % 128 + 128 * val (l ++ [c])) % 128 + 128 = a.toNat := by omega
      rw [e1, show hb (a.toNat % 128 + 128 * val (l ++ [c])) = a from ofNat_toNat a _ e2]
      simp only [List.cons_append, List.cons.injEq, true_and, hi, List.length_cons]
      constructor
      · rintro h ⟨h0, _⟩
        apply h
        refine ⟨h0, ?_⟩
        cases l with
        | nil => simp [val] at hz; omega
        | cons => simp
      · rintro h ⟨h0, _⟩
        exact h ⟨h0, by omega⟩

end Pl
end PartPlainA
end Go.Proofs.Ytlnmbahakdmkgaa
