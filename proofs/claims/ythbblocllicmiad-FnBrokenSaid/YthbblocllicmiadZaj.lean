/- The specification's reader of a pattern: a set. The specification's reader of a pattern: the pieces that it has read, one more of them, and what each of its parts leaves. -/
import Derived.Test.YthbblocllicmiadZaf
import Derived.Test.YthbblocllicmiadZai
namespace Go.Proofs.Ythbblocllicmiad
section PartRdD
open Go.RowKit

/-- What may have changed: the reader itself, the row's own block, what is new. -/
def Fr (g : Nat) (v : Value) (w w' : World) : Prop := w.heap.size ≤ w'.heap.size ∧ (∀ k, k < w.heap.size → k ≠ g → v.ownBlock ≠ some k → w'.heap[k]? = w.heap[k]?) ∧ Env w w'
theorem Fr.refl (g : Nat) (v : Value) (w : World) : Fr g v w w := ⟨Nat.le_refl _, fun _ _ _ _ => rfl, rfl, rfl, rfl⟩
theorem Fr.draw {g : Nat} {v : Value} {w w' : World} (h : Fr g v w w') (k : Nat) : Fr g v w (w'.drewN k) := h
theorem Fr.store {g : Nat} {v : Value} {w w' : World} (h : Fr g v w w') (o : Nat) (u : Value) : Fr g v w (w'.setCell ⟨g, o, none⟩ u) := by
  refine ⟨by simpa [World.setCell] using h.1, fun k hk hkg hkv => ?_, h.2.2⟩
  rw [Below.heap_setCell _ _ _ _ (by show k ≠ g; exact hkg)]
  exact h.2.1 k hk hkg hkv
theorem Fr.next {g : Nat} {v : Value} {w w1 w2 : World} (h1 : Fr g v w w1) (h2 : Fr g v w1 w2) : Fr g v w w2 :=
  ⟨Nat.le_trans h1.1 h2.1, fun k hk hkg hkv => (h2.2.1 k (Nat.lt_of_lt_of_le hk h1.1) hkg hkv).trans (h1.2.1 k hk hkg hkv), h2.2.2.1.trans h1.2.2.1, h2.2.2.2.1.trans h1.2.2.2.1, h2.2.2.2.2.trans h1.2.2.2.2⟩
/-- The reader's place, as the world holds it. -/
def placeOf (g : Nat) (w : World) : Nat := match w.cell? ⟨g, 1, none⟩ with
  | some (.int _ z) => z.toNat
  | _ => 0
theorem drop_at4 (s : ByteArray) (k : Nat) (h : k < s.size) : s.data.toList.drop k = s[k] :: s.data.toList.drop (k + 1) := by
  rw [List.drop_eq_getElem_cons (by simpa using h)]; rfl
theorem close_stop (s : ByteArray) (k : Nat) (h : k < s.size) (e : s[k].toNat = 93) : Pp.close (s.data.toList.drop k) k = k := by
  have : s[k] = 93 := UInt8.toNat_inj.1 (by rw [e]; rfl)
  rw [drop_at4 s k h, Pp.close, if_pos this]
theorem close_go (s : ByteArray) (k : Nat) (h : k < s.size) (e : s[k].toNat ≠ 93) : Pp.close (s.data.toList.drop k) k = Pp.close (s.data.toList.drop (k + 1)) (k + 1) := by
  have : ¬ s[k] = 93 := by intro e2; apply e; rw [e2]; rfl
  rw [drop_at4 s k h, Pp.close, if_neg this]
theorem close_end (s : ByteArray) (k : Nat) (h : k = s.size) : Pp.close (s.data.toList.drop k) k = k := by
  rw [List.drop_of_length_le (by simp; omega), Pp.close]

end PartRdD
section PartRdE
open Go.RowKit

def Pp.no : Pp.Pc := ⟨0, [], []⟩
/-- A piece's kids: nothing, or the slice of a block of their own. -/
def kvOf (q : Nat) (ks : List Nat) : Value := if ks = [] then .slice none 0 0 else .slice (some ⟨q, 0, none⟩) ks.length ks.length
/-- The row v, in memory from block B on, holds the pieces ps; each piece's kids lie in a block of their own. -/
def RP (B : Nat) (w : World) (v : Value) (ps : List Pp.Pc) : Prop := ∃ (Q : Nat → Nat) (cs : List Value), PR B w v ps.length cs ∧
  (∀ i, i < ps.length → cs[i * 3]? = some (.int .i64 ((ps.getD i Pp.no).op : Int)) ∧ cs[i * 3 + 1]? = some (.string ⟨(ps.getD i Pp.no).text.toArray⟩) ∧ cs[i * 3 + 2]? = some (kvOf (Q i) (ps.getD i Pp.no).kids) ∧
    ((ps.getD i Pp.no).kids ≠ [] → B ≤ Q i ∧ v.ownBlock ≠ some (Q i) ∧ KidsBlk w (Q i) ((ps.getD i Pp.no).kids.map Int.ofNat))) ∧
  ∀ i j, i < j → j < ps.length → (ps.getD i Pp.no).kids ≠ [] → (ps.getD j Pp.no).kids ≠ [] → Q i < Q j

theorem PR.keep {B : Nat} {w w' : World} {v : Value} {n : Nat} {cs : List Value} (h : PR B w v n cs) (hb : ∀ q, v.ownBlock = some q → w'.heap[q]? = w.heap[q]?) : PR B w' v n cs := by
  refine ⟨h.1, ?_⟩
  rcases h.2 with hn | ⟨g, cap, cur, rfl, h1, hg, rest⟩
  · exact .inl hn
  · refine .inr ⟨g, cap, cur, rfl, h1, ?_, rest⟩
    rw [hb g rfl]
    exact hg
theorem PR.len {B : Nat} {w : World} {v : Value} {n : Nat} {cs : List Value} (h : PR B w v n cs) : cs.length = n * 3 := h.1

/-- What is done elsewhere leaves the pieces as they were. -/
theorem RP.keep {B : Nat} {w w' : World} {v : Value} {ps : List Pp.Pc} (h : RP B w v ps) (hb : ∀ q, B ≤ q → q < w.heap.size → w'.heap[q]? = w.heap[q]?) : RP B w' v ps := by
  obtain ⟨Q, cs, hp, hc, hm⟩ := h
  refine ⟨Q, cs, hp.keep fun q e => ?_, fun i hi => ?_, hm⟩
  · have := World.ownsRow.lt hp q e
    exact hb q this.1 this.2
  · obtain ⟨h1, h2, h3, h4⟩ := hc i hi
    refine ⟨h1, h2, h3, fun hne => ?_⟩
    obtain ⟨k1, k2, k3⟩ := h4 hne
    exact ⟨k1, k2, (hb _ k1 (blk_lt k3)).trans k3⟩
theorem RP.up {B : Nat} {w w' : World} {v : Value} {ps : List Pp.Pc} (h : RP B w v ps) (hb : Below w.heap.size w w') : RP B w' v ps := h.keep fun q _ hq => hb.block q hq
theorem RP.pr {B : Nat} {w : World} {v : Value} {ps : List Pp.Pc} (h : RP B w v ps) : ∃ cs, PR B w v ps.length cs := by obtain ⟨_, cs, hp, _⟩ := h; exact ⟨cs, hp⟩

theorem getD_push (ps : List Pp.Pc) (p : Pp.Pc) (i : Nat) : (ps ++ [p]).getD i Pp.no = if i < ps.length then ps.getD i Pp.no else if i = ps.length then p else Pp.no := by
  by_cases h : i < ps.length
  · simp [List.getElem?_append_left, h]
  · rw [if_neg h]
    by_cases h2 : i = ps.length
    · subst h2; simp
    · rw [if_neg h2]
      simp only [List.getD_eq_getElem?_getD]
      rw [List.getElem?_eq_none (by simp; omega)]
      rfl

/-- One piece more; q: the block of its kids, newer than all that was there. -/
theorem RP.put {B g q : Nat} {w0 w w' : World} {v v' : Value} {ps : List Pp.Pc} {p : Pp.Pc} {cs cs' : List Value} (h : RP B w0 v ps) (hb : Below w0.heap.size w0 w) (hq : p.kids ≠ [] → w0.heap.size ≤ q ∧ q < w.heap.size ∧ KidsBlk w q (p.kids.map Int.ofNat))
    (hg : g < B) (hB : B ≤ w0.heap.size) (hcs : PR B w v ps.length cs) (hp : PR B w' v' (ps.length + 1) cs') (he : cs' = cs ++ [.int .i64 (p.op : Int), .string ⟨p.text.toArray⟩, kvOf q p.kids]) (hcs0 : ∀ cs0, PR B w0 v ps.length cs0 → cs0 = cs)
    (hf : ∀ k, k < w.heap.size → k ≠ g → v.ownBlock ≠ some k → w'.heap[k]? = w.heap[k]?) (ho : ∀ q, v'.ownBlock = some q → v.ownBlock = some q ∨ w.heap.size ≤ q) : RP B w' v' (ps ++ [p]) := by
  obtain ⟨Q, cs1, hp1, hc, hm⟩ := h
  obtain rfl := hcs0 cs1 hp1
  have hlen := hcs.len
  subst he
  have hw0 := hb.size
  have hlt : ∀ i, i < ps.length → (ps.getD i Pp.no).kids ≠ [] → Q i < w0.heap.size := fun i hi hne => blk_lt ((hc i hi).2.2.2 hne).2.2
  refine ⟨fun i => if i = ps.length then q else Q i, _, by simpa using hp, fun i hi => ?_, fun i j hij hj hi1 hj1 => ?_⟩
  · rw [getD_push]
    by_cases h : i < ps.length
    · rw [if_pos h]
      simp only [if_neg (show ¬ i = ps.length by omega)]
      obtain ⟨h1, h2, h3, h4⟩ := hc i h
      refine ⟨by rw [List.getElem?_append_left (by omega)]; exact h1, by rw [List.getElem?_append_left (by omega)]; exact h2, by rw [List.getElem?_append_left (by omega)]; exact h3, fun hne => ?_⟩
      obtain ⟨k1, k2, k3⟩ := h4 hne
      have hl := hlt i h hne
      refine ⟨k1, fun e => ?_, ?_⟩
      · rcases ho _ e with e2 | e2
        · exact k2 e2
        · omega
      · exact (hf (Q i) (by omega) (by omega) k2).trans ((hb.block _ hl).trans k3)
    · have hi2 : i = ps.length := by simp at hi; omega
      subst hi2
      simp only [if_neg h, ↓reduceIte]
      refine ⟨?_, ?_, ?_, fun hne => ?_⟩
      · rw [List.getElem?_append_right (by omega), hlen, Nat.sub_self]; rfl
      · rw [List.getElem?_append_right (by omega), hlen, Nat.add_sub_cancel_left]; rfl
      · rw [List.getElem?_append_right (by omega), hlen, Nat.add_sub_cancel_left]; rfl
      · obtain ⟨k1, k2, k3⟩ := hq hne
        have hvq : v.ownBlock ≠ some q := by
          intro e
          have := (World.ownsRow.lt hp1 q e).2
          omega
        refine ⟨by omega, fun e => ?_, ?_⟩
        · rcases ho _ e with e2 | e2
          · exact hvq e2
          · omega
        · exact (hf q k2 (by omega) hvq).trans k3
  · rw [getD_push] at hi1 hj1
    simp at hj
    have hi : i < ps.length := by omega
    rw [if_pos hi] at hi1
    simp only [if_neg (show ¬ i = ps.length by omega)]
    by_cases hj2 : j < ps.length
    · rw [if_pos hj2] at hj1
      simp only [if_neg (show ¬ j = ps.length by omega)]
      exact hm i j hij hj2 hi1 hj1
    · have hj3 : j = ps.length := by omega
      subst hj3
      simp only [if_neg hj2, ↓reduceIte] at hj1 ⊢
      have := hlt i hi hi1
      have := (hq hj1).1
      omega

/-- What may have changed: the reader itself, and what lies from block B on. -/
def FB (g B : Nat) (w w' : World) : Prop := w.heap.size ≤ w'.heap.size ∧ (∀ k, k < B → k ≠ g → w'.heap[k]? = w.heap[k]?) ∧ Env w w'
theorem FB.refl (g B : Nat) (w : World) : FB g B w w := ⟨Nat.le_refl _, fun _ _ _ => rfl, rfl, rfl, rfl⟩
theorem FB.trans {g B : Nat} {w w1 w2 : World} (h1 : FB g B w w1) (h2 : FB g B w1 w2) : FB g B w w2 := ⟨Nat.le_trans h1.1 h2.1, fun k hk hg => (h2.2.1 k hk hg).trans (h1.2.1 k hk hg), h2.2.2.1.trans h1.2.2.1, h2.2.2.2.1.trans h1.2.2.2.1, h2.2.2.2.2.trans h1.2.2.2.2⟩
theorem FB.of {g B : Nat} {w w' : World} (h : Below B w w') : FB g B w w' := ⟨h.size, fun k hk _ => h.block k hk, h.os, h.tape, h.output⟩
theorem FB.fr {g B : Nat} {v : Value} {n : Nat} {cs : List Value} {w w' : World} (h : Fr g v w w') (hp : PR B w v n cs) (hB : B ≤ w.heap.size) : FB g B w w' :=
  ⟨h.1, fun k hk hg => h.2.1 k (by omega) hg (fun e => by have := (World.ownsRow.lt hp k e).1; omega), h.2.2⟩

theorem PR.unique {B : Nat} {w w' : World} {v : Value} {n : Nat} {cs cs' : List Value} (h : PR B w v n cs) (h' : PR B w' v n cs') (hb : ∀ q, v.ownBlock = some q → w'.heap[q]? = w.heap[q]?) : cs = cs' := by
  rcases h.2 with ⟨hv, hn⟩ | ⟨g, cap, cur, hv, h1, hg, rest⟩
  · have e1 : cs.length = n * 3 := h.len
    have e2 : cs'.length = n * 3 := h'.len
    subst hn
    rw [List.eq_nil_of_length_eq_zero (l := cs) (by omega), List.eq_nil_of_length_eq_zero (l := cs') (by omega)]
  · subst hv
    have e1 : cs.length = n * 3 := h.len
    have e2 : cs'.length = n * 3 := h'.len
    have hk := hb g rfl
    apply List.ext_getElem? 
    intro i
    by_cases hi : i < n * 3
    · rw [← World.ownsRow.cellAt h i hi, ← World.ownsRow.cellAt h' i hi]
      simp [World.cell?, hk]
    · rw [List.getElem?_eq_none (by omega), List.getElem?_eq_none (by omega)]

end PartRdE
end Go.Proofs.Ythbblocllicmiad
