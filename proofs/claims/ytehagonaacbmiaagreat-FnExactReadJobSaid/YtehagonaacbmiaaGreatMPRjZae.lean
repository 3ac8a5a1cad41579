/- Plain facts: how far the reader of a pattern goes, and how many pieces it tells. The specification's reader of a pattern: one thing behind the other. The specification's reader of a pattern: alternatives; and what ReadPattern of the specification answers, at every text. What ReadPattern of the specification answers, at every text. -/
import Derived.Test.YtehagonaacbmiaaGreatMPRjZab
import Derived.Test.YtehagonaacbmiaaGreatMPRjZad
import Derived.Laws.ResultCell
import Derived.Laws.Rows
namespace Go.Proofs.YtehagonaacbmiaaGreat
section PartPPb
namespace Pp

theorem put_len {out o : List Pc} {x : Pc} {k : Nat} (h : put out x = some (o, k)) : o.length = out.length + 1 := by
  unfold put at h
  split at h
  · cases h
  · simp at h
    rw [← h.1]
    simp
theorem putm {out o : List Pc} {x : Pc} {k a e : Nat} (h : (put out x).map (fun (o, k) => (a, o, k)) = some (e, o, k)) : e = a ∧ o.length = out.length + 1 := by
  cases hp : put out x with
  | none => rw [hp] at h; simp at h
  | some r =>
    rw [hp] at h
    simp at h
    obtain ⟨h1, h2, h3⟩ := h
    exact ⟨h1.symm, by rw [← h2]; exact put_len (k := r.2) hp⟩
theorem close_le (l : List UInt8) (a : Nat) : a ≤ close l a ∧ close l a ≤ a + l.length := by
  induction l generalizing a with
  | nil => simp [close]
  | cons b r ih =>
    rw [close]
    split
    · simp
    · have := ih (a + 1)
      simp
      omega
theorem set_len {l : List UInt8} {a e k : Nat} {out o : List Pc} (h : set l a out = some (e, o, k)) : a + 2 ≤ e ∧ e ≤ l.length ∧ o.length = out.length + 1 := by
  have key : ∀ b x, a ≤ b → (if close (l.drop b) b = l.length ∨ close (l.drop b) b = b then none else (put out x).map fun (o, k) => (close (l.drop b) b + 1, o, k)) = some (e, o, k) → a + 2 ≤ e ∧ e ≤ l.length ∧ o.length = out.length + 1 := by
    intro b x hb h
    split at h
    · cases h
    · rename_i hn
      obtain ⟨h1, h2⟩ := putm h
      have := close_le (l.drop b) b
      simp at this
      refine ⟨by omega, ?_, h2⟩
      by_cases hbl : b ≤ l.length
      · omega
      · have : close (l.drop b) b = b := by rw [List.drop_of_length_le (by omega)]; rfl
        omega
  unfold set at h
  by_cases hneg : (l[a]? == some 94) = true
  · simp only [hneg, ↓reduceIte] at h
    exact key (a + 1) _ (by omega) h
  · have hneg : (l[a]? == some 94) = false := by simpa using hneg
    simp only [hneg, Bool.false_eq_true, ↓reduceIte] at h
    exact key a _ (Nat.le_refl _) h

/-- What each part reads, and how many pieces it makes of it. -/
structure Bd (l : List UInt8) (f : Nat) : Prop where
  thing : ∀ a out e o k, thing l f a out = some (e, o, k) → a < e ∧ e ≤ l.length ∧ o.length + 1 ≤ out.length + 2 * (e - a)
  more : ∀ a out j e o k, a ≤ l.length → more l f a out j = some (e, o, k) → a ≤ e ∧ e ≤ l.length ∧ o.length ≤ out.length + (e - a)
  many : ∀ a out e o k, many l f a out = some (e, o, k) → a < e ∧ e ≤ l.length ∧ o.length + 1 ≤ out.length + 2 * (e - a)
  rest : ∀ a out j e o k, a ≤ l.length → rest l f a out j = some (e, o, k) → a ≤ e ∧ e ≤ l.length ∧ o.length ≤ out.length + 2 * (e - a)
  row : ∀ a out e o k, a ≤ l.length → row l f a out = some (e, o, k) → a ≤ e ∧ e ≤ l.length ∧ o.length ≤ out.length + 2 * (e - a) + 1
  alts : ∀ a out j e o k, a ≤ l.length → alts l f a out j = some (e, o, k) → a ≤ e ∧ e ≤ l.length ∧ o.length ≤ out.length + 2 * (e - a)
  alt : ∀ a out e o k, a ≤ l.length → alt l f a out = some (e, o, k) → a ≤ e ∧ e ≤ l.length ∧ o.length ≤ out.length + 2 * (e - a) + 1

theorem lt_of_get {l : List UInt8} {a : Nat} {b : UInt8} (h : l[a]? = some b) : a < l.length := (List.getElem?_eq_some_iff.1 h).1

theorem bd (l : List UInt8) (f : Nat) : Bd l f := by
  induction f with
  | zero =>
    refine ⟨?_, ?_, ?_, ?_, ?_, ?_, ?_⟩
    · intro a out e o k h; rw [thing] at h; cases h
    · intro a out j e o k _ h; rw [more] at h; cases h
    · intro a out e o k h; rw [many] at h; cases h
    · intro a out j e o k _ h; rw [rest] at h; cases h
    · intro a out e o k _ h; rw [row] at h; cases h
    · intro a out j e o k _ h; rw [alts] at h; cases h
    · intro a out e o k _ h; rw [alt] at h; cases h
  | succ f ih =>
    refine ⟨?_, ?_, ?_, ?_, ?_, ?_, ?_⟩
    · intro a out e o k h
      rw [thing] at h
      split at h
      · cases h
      · rename_i b hb
        have hlt := lt_of_get hb
        split at h
        · have := putm h; omega
        split at h
        · have := putm h; omega
        split at h
        · have := putm h; omega
        split at h
        · have := set_len h; omega
        split at h
        · split at h
          · cases h
          · rename_i e1 o1 k1 h1
            have hi := ih.alt (a + 1) out e1 o1 k1 (by omega) h1
            split at h
            · rename_i h41
              have := lt_of_get h41
              simp at h
              obtain ⟨rfl, rfl, rfl⟩ := h
              omega
            · cases h
        split at h
        · split at h
          · cases h
          · rename_i c hc
            have := lt_of_get hc
            split at h
            · have := putm h; omega
            · cases h
        split at h
        · cases h
        · have := putm h; omega
    · intro a out j e o k ha h
      rw [more] at h
      split at h
      · simp at h
        obtain ⟨rfl, rfl, rfl⟩ := h
        omega
      · rename_i b hb
        have hlt := lt_of_get hb
        split at h
        · split at h
          · cases h
          · rename_i o1 j1 h1
            have hl := put_len h1
            have hi := ih.more (a + 1) o1 j1 e o k (by omega) h
            omega
        · simp at h
          obtain ⟨rfl, rfl, rfl⟩ := h
          omega
    · intro a out e o k h
      rw [many] at h
      split at h
      · cases h
      · rename_i e1 o1 k1 h1
        have hi := ih.thing a out e1 o1 k1 h1
        have hj := ih.more e1 o1 k1 e o k hi.2.1 h
        omega
    · intro a out j e o k ha h
      rw [rest] at h
      split at h
      · simp at h
        obtain ⟨rfl, rfl, rfl⟩ := h
        omega
      · rename_i b hb
        split at h
        · simp at h
          obtain ⟨rfl, rfl, rfl⟩ := h
          omega
        · split at h
          · cases h
          · rename_i e1 o1 j1 h1
            have hi := ih.many a out e1 o1 j1 h1
            split at h
            · cases h
            · rename_i o2 k2 h2
              have hl := put_len h2
              have hj := ih.rest e1 o2 k2 e o k hi.2.1 h
              omega
    · intro a out e o k ha h
      rw [row] at h
      split at h
      · have := putm h; omega
      · split at h
        · cases h
        · rename_i e1 o1 k1 h1
          have hi := ih.many a out e1 o1 k1 h1
          have hj := ih.rest e1 o1 k1 e o k hi.2.1 h
          omega
    · intro a out j e o k ha h
      rw [alts] at h
      split at h
      · rename_i h124
        have hlt := lt_of_get h124
        split at h
        · cases h
        · rename_i e1 o1 j1 h1
          have hi := ih.row (a + 1) out e1 o1 j1 (by omega) h1
          split at h
          · cases h
          · rename_i o2 k2 h2
            have hl := put_len h2
            have hj := ih.alts e1 o2 k2 e o k hi.2.1 h
            omega
      · simp at h
        obtain ⟨rfl, rfl, rfl⟩ := h
        omega
    · intro a out e o k ha h
      rw [alt] at h
      split at h
      · cases h
      · rename_i e1 o1 k1 h1
        have hi := ih.row a out e1 o1 k1 ha h1
        have hj := ih.alts e1 o1 k1 e o k hi.2.1 h
        omega
/-- Each part keeps the pieces that were there, and makes one at least. -/
structure Gr (l : List UInt8) (f : Nat) : Prop where
  thing : ∀ a out e o k, thing l f a out = some (e, o, k) → out.length < o.length
  more : ∀ a out j e o k, more l f a out j = some (e, o, k) → out.length ≤ o.length
  many : ∀ a out e o k, many l f a out = some (e, o, k) → out.length < o.length
  rest : ∀ a out j e o k, rest l f a out j = some (e, o, k) → out.length ≤ o.length
  row : ∀ a out e o k, row l f a out = some (e, o, k) → out.length < o.length
  alts : ∀ a out j e o k, alts l f a out j = some (e, o, k) → out.length ≤ o.length
  alt : ∀ a out e o k, alt l f a out = some (e, o, k) → out.length < o.length

theorem gr (l : List UInt8) (f : Nat) : Gr l f := by
  induction f with
  | zero =>
    refine ⟨?_, ?_, ?_, ?_, ?_, ?_, ?_⟩
    · intro a out e o k h; rw [thing] at h; cases h
    · intro a out j e o k h; rw [more] at h; cases h
    · intro a out e o k h; rw [many] at h; cases h
    · intro a out j e o k h; rw [rest] at h; cases h
    · intro a out e o k h; rw [row] at h; cases h
    · intro a out j e o k h; rw [alts] at h; cases h
    · intro a out e o k h; rw [alt] at h; cases h
  | succ f ih =>
    refine ⟨?_, ?_, ?_, ?_, ?_, ?_, ?_⟩
    · intro a out e o k h
      rw [thing] at h
      split at h
      · cases h
      · split at h
        · have := putm h; omega
        split at h
        · have := putm h; omega
        split at h
        · have := putm h; omega
        split at h
        · have := set_len h; omega
        split at h
        · split at h
          · cases h
          · rename_i e1 o1 k1 h1
            have hi := ih.alt (a + 1) out e1 o1 k1 h1
            split at h
            · simp at h
              obtain ⟨rfl, rfl, rfl⟩ := h
              omega
            · cases h
        split at h
        · split at h
          · cases h
          · split at h
            · have := putm h; omega
            · cases h
        split at h
        · cases h
        · have := putm h; omega
    · intro a out j e o k h
      rw [more] at h
      split at h
      · simp at h
        obtain ⟨rfl, rfl, rfl⟩ := h
        omega
      · split at h
        · split at h
          · cases h
          · rename_i o1 j1 h1
            have hl := put_len h1
            have hi := ih.more (a + 1) o1 j1 e o k h
            omega
        · simp at h
          obtain ⟨rfl, rfl, rfl⟩ := h
          omega
    · intro a out e o k h
      rw [many] at h
      split at h
      · cases h
      · rename_i e1 o1 k1 h1
        have hi := ih.thing a out e1 o1 k1 h1
        have hj := ih.more e1 o1 k1 e o k h
        omega
    · intro a out j e o k h
      rw [rest] at h
      split at h
      · simp at h
        obtain ⟨rfl, rfl, rfl⟩ := h
        omega
      · split at h
        · simp at h
          obtain ⟨rfl, rfl, rfl⟩ := h
          omega
        · split at h
          · cases h
          · rename_i e1 o1 j1 h1
            have hi := ih.many a out e1 o1 j1 h1
            split at h
            · cases h
            · rename_i o2 k2 h2
              have hl := put_len h2
              have hj := ih.rest e1 o2 k2 e o k h
              omega
    · intro a out e o k h
      rw [row] at h
      split at h
      · have := putm h; omega
      · split at h
        · cases h
        · rename_i e1 o1 k1 h1
          have hi := ih.many a out e1 o1 k1 h1
          have hj := ih.rest e1 o1 k1 e o k h
          omega
    · intro a out j e o k h
      rw [alts] at h
      split at h
      · split at h
        · cases h
        · rename_i e1 o1 j1 h1
          have hi := ih.row (a + 1) out e1 o1 j1 h1
          split at h
          · cases h
          · rename_i o2 k2 h2
            have hl := put_len h2
            have hj := ih.alts e1 o2 k2 e o k h
            omega
      · simp at h
        obtain ⟨rfl, rfl, rfl⟩ := h
        omega
    · intro a out e o k h
      rw [alt] at h
      split at h
      · cases h
      · rename_i e1 o1 k1 h1
        have hi := ih.row a out e1 o1 k1 h1
        have hj := ih.alts e1 o1 k1 e o k h
        omega
theorem alt_pos (l : List UInt8) (f a : Nat) (out o : List Pc) (e k : Nat) (h : alt l f a out = some (e, o, k)) : 0 < o.length := by
  have := (gr l f).alt a out e o k h
  omega
end Pp
end PartPPb
section PartRdI
open Go.RowKit

/-- What many promises. -/
def ManyC (B g : Nat) (s : ByteArray) (f : Nat) : Prop :=
  ∀ (a : Nat) (v : Value) (ps : List Pp.Pc) (w : World), Rd w g s a false v → RP B w v ps → B ≤ w.heap.size → a < s.size → ps.length ≤ 60 → 4 * (s.size - a) + 2 ≤ f →
    Calls Tryz.prog 124 #[.pointer (some ⟨g, 0, none⟩)] w (RdPost B g s w (61 + f) (Pp.many s.data.toList f a ps))

/-- Does the row end here? -/
def stops (s : ByteArray) (a : Nat) : Prop := ∀ h : a < s.size, s[a].toNat = 124 ∨ s[a].toNat = 41
theorem stops_iff (s : ByteArray) (a : Nat) : (s.data.toList[a]? = none ∨ s.data.toList[a]? = some 124 ∨ s.data.toList[a]? = some 41) ↔ stops s a := by
  constructor
  · intro h hlt
    rw [getAt s a hlt] at h
    rcases h with h | h | h
    · cases h
    · left; rw [show s[a] = 124 by simpa using h]; rfl
    · right; rw [show s[a] = 41 by simpa using h]; rfl
  · intro h
    by_cases hlt : a < s.size
    · rw [getAt s a hlt]
      rcases h hlt with h | h
      · right; left; rw [show s[a] = 124 from UInt8.toNat_inj.1 h]
      · right; right; rw [show s[a] = 41 from UInt8.toNat_inj.1 h]
    · left; exact List.getElem?_eq_none (by simp; omega)
theorem rest_end (s : ByteArray) (f a : Nat) (ps : List Pp.Pc) (k : Nat) (h : stops s a) : Pp.rest s.data.toList (f + 1) a ps k = some (a, ps, k) := by
  rw [Pp.rest]
  cases hb : s.data.toList[a]? with
  | none => rfl
  | some b =>
    have hc : b = 124 ∨ b = 41 := by
      have := (stops_iff s a).2 h
      rw [hb] at this
      simpa using this
    simp only [hc, ↓reduceIte]
theorem rest_go (s : ByteArray) (f a : Nat) (ps : List Pp.Pc) (k : Nat) (h : ¬ stops s a) : Pp.rest s.data.toList (f + 1) a ps k = match Pp.many s.data.toList f a ps with
    | none => none
    | some (e, o, j) => (Pp.put o ⟨5, [], [k, j]⟩).bind fun r => Pp.rest s.data.toList f e r.1 r.2 := by
  rw [Pp.rest]
  have h2 : ¬ (s.data.toList[a]? = none ∨ s.data.toList[a]? = some 124 ∨ s.data.toList[a]? = some 41) := fun e => h ((stops_iff s a).1 e)
  cases hb : s.data.toList[a]? with
  | none => rw [hb] at h2; simp at h2
  | some b =>
    rw [hb] at h2
    have hc : ¬ (b = 124 ∨ b = 41) := by simpa using h2
    simp only [hc, ↓reduceIte]
    cases Pp.many s.data.toList f a ps with
    | none => rfl
    | some r =>
      obtain ⟨e, o, j⟩ := r
      show (match Pp.put o ⟨5, [], [k, j]⟩ with | none => none | some (o2, k2) => _) = (Pp.put o ⟨5, [], [k, j]⟩).bind fun r => Pp.rest s.data.toList f e r.1 r.2
      cases Pp.put o ⟨5, [], [k, j]⟩ <;> rfl

set_option maxHeartbeats 4000000 in
set_option maxRecDepth 100000 in
/-- The loop of a row, as it stands. -/
theorem rdRow (B g : Nat) (s : ByteArray) (f : Nat) (hg : g < B) (hs : s.size ≤ 24) (hf : f ≤ 200) (hM : ∀ f', f' ≤ f → ManyC B g s f') : RdC B g s 116 (Pp.row s.data.toList) 3 (f + 1) := by
  intro a v ps w h hr hB ha hn hd
  have HM : Hid (∀ f', f' ≤ f → ManyC B g s f') := hM
  have HR0 : Hid (Rd w g s a false v) := h
  have HP0 : Hid (RP B w v ps) := hr
  obtain ⟨R, hR⟩ : ∃ R, R = Pp.row s.data.toList (f + 1) a ps := ⟨_, rfl⟩
  rw [← hR]
  obtain ⟨c0, c1, c2, c3, f0, f1, f2, f3⟩ := cells4 h
  clear h hr hM
  by_cases hst : stops s a
  · have HRE : Hid (R = (Pp.put ps ⟨12, [], []⟩).map fun (o, k) => (a, o, k)) := by
      show _ = _
      rw [hR, Pp.row, if_pos ((stops_iff s a).2 hst)]
    have fin : ∀ nn : Nat, Hid (Calls Tryz.prog 118 #[.pointer (some ⟨g, 0, none⟩), .agg #[.int .i64 12, .string ⟨#[]⟩, .slice none 0 0]] (w.drewN nn) (RdPost B g s w (61 + (f + 1)) R)) := fun nn =>
      (rdPut0 B g a 12 s _ [] v ps _ (Rd.draw HR0.out nn) (RP.draw HP0.out nn) hg hB ha hn rfl).mono fun e w' hp => hp.next (FB.draw (FB.refl g B w) nn) (by omega) HRE.out
    have FIN : Hid (∀ nn : Nat, Hid (Calls Tryz.prog 118 #[.pointer (some ⟨g, 0, none⟩), .agg #[.int .i64 12, .string ⟨#[]⟩, .slice none 0 0]] (w.drewN nn) (RdPost B g s w (61 + (f + 1)) R))) := fin
    clear fin hR HRE HR0 HP0 HM
    by_cases hlt : a < s.size
    · have h256 : s[a].toNat < 256 := s[a].toNat_lt
      have dl : decide ((s.size : Int) ≤ (a : Int)) = false := decide_eq_false (by omega)
      have dlN : decide (s.size ≤ a) = false := decide_eq_false (by omega)
      have hi : (a : Int) < (s.size : Int) := by omega
      by_cases h124 : s[a].toNat = 124
      · have d124 : ((s[a].toNat : Int) == 124) = true := by rw [h124]; rfl
        clear h124 hst
        go_enter Tryz.func116, Tryz.ntmps116
        go_wp2_with fail
        go_quiet (fail)
        go_wp2_with fail
        refine (FIN.out _).out.mono ?_
        intro e w5 hpost
        have HPO : Hid (RdPost B g s w (61 + (f + 1)) R e w5) := hpost
        obtain ⟨k, rfl⟩ := hpost.ret
        clear hpost
        go_wp2
        go_ret
        exact HPO.out
      · have h41 : s[a].toNat = 41 := by rcases hst hlt with e | e; exact absurd e h124; exact e
        have d124 : ((s[a].toNat : Int) == 124) = false := by rw [h41]; rfl
        have d41 : ((s[a].toNat : Int) == 41) = true := by rw [h41]; rfl
        clear h124 h41 hst
        go_enter Tryz.func116, Tryz.ntmps116
        go_wp2_with fail
        go_quiet (fail)
        go_wp2_with fail
        refine (FIN.out _).out.mono ?_
        intro e w5 hpost
        have HPO : Hid (RdPost B g s w (61 + (f + 1)) R e w5) := hpost
        obtain ⟨k, rfl⟩ := hpost.ret
        clear hpost
        go_wp2
        go_ret
        exact HPO.out
    · have dl : decide ((s.size : Int) ≤ (a : Int)) = true := decide_eq_true (by omega)
      have dlN : decide (s.size ≤ a) = true := decide_eq_true (by omega)
      clear hst
      go_enter Tryz.func116, Tryz.ntmps116
      go_wp2_with fail
      go_quiet (fail)
      go_wp2_with fail
      refine (FIN.out _).out.mono ?_
      intro e w5 hpost
      have HPO : Hid (RdPost B g s w (61 + (f + 1)) R e w5) := hpost
      obtain ⟨k, rfl⟩ := hpost.ret
      clear hpost
      go_wp2
      go_ret
      exact HPO.out
  · obtain ⟨hlt, h124, h41⟩ : ∃ hlt : a < s.size, s[a].toNat ≠ 124 ∧ s[a].toNat ≠ 41 := by
      by_cases hlt : a < s.size
      · exact ⟨hlt, fun e => hst fun _ => .inl e, fun e => hst fun _ => .inr e⟩
      · exact absurd (fun h => absurd h hlt) hst
    have h256 : s[a].toNat < 256 := s[a].toNat_lt
    have HR : Hid (R = (Pp.many s.data.toList f a ps).bind fun r => Pp.rest s.data.toList f r.1 r.2.1 r.2.2) := by
      show _ = _
      rw [hR, Pp.row, if_neg (fun e => hst ((stops_iff s a).1 e))]
      cases Pp.many s.data.toList f a ps <;> rfl
    have dl : decide ((s.size : Int) ≤ (a : Int)) = false := decide_eq_false (by omega)
    have dlN : decide (s.size ≤ a) = false := decide_eq_false (by omega)
    have hi : (a : Int) < (s.size : Int) := by omega
    have d124 : ((s[a].toNat : Int) == 124) = false := by simp only [beq_eq_false_iff_ne, ne_eq]; omega
    have d41 : ((s[a].toNat : Int) == 41) = false := by simp only [beq_eq_false_iff_ne, ne_eq]; omega
    clear hR hst h124 h41
    go_enter Tryz.func116, Tryz.ntmps116
    go_wp2_with fail
    go_quiet (fail)
    go_wp2_with fail
    refine (HM.out f (Nat.le_refl _) a v ps _ (Rd.draw HR0.out _) (RP.draw HP0.out _) hB hlt hn (by omega)).mono ?_
    intro e w1 hpost
    obtain ⟨k1, rfl, hmid⟩ := Mid.of (F := Pp.rest s.data.toList) (c := 3) (f := f) (hpost.next (w := w) (FB.draw (FB.refl g B w) _) (show 61 + f ≤ 61 + (f + 1) by omega) rfl) (fun a' o k e1 h1 => by have := (Pp.bd s.data.toList f).many a ps a' o k e1; omega)
    have hmid2 : Hid (Mid B g (61 + (f + 1)) s w w1 k1 R (Pp.rest s.data.toList) 3 f) := by
      show Mid B g (61 + (f + 1)) s w w1 k1 R (Pp.rest s.data.toList) 3 f
      rw [HR.out]
      exact hmid
    clear hmid hpost HR HR0 HP0 c0 c1 c2 c3 f0 f1 f2 f3 dl dlN d124 d41
    go_wp2_with fail
    go_loopw [3] (fun k wr => Hid (Mid B g (61 + (f + 1)) s w wr k R (Pp.rest s.data.toList) 3 f)) (fun _ wr => leftOf g s wr)
    case atStart => exact hmid2.out
    case round =>
      clear hmid2
      obtain ⟨hfb, hm⟩ := hrel.out
      clear hrel
      have HFB : Hid (FB g B w wr) := hfb
      have hBr : B ≤ wr.heap.size := by have := hfb.1; omega
      clear hfb
      rcases hm with ⟨z, a', v', n', cs', rfl, ha', r', p', hn', hRn⟩ | ⟨j, a', fm, v', o, rfl, ha', r', p', ho, hRe, hfm, hfm2⟩
      · have HRN : Hid (R = none) := hRn
        obtain ⟨c0, c1, c2, c3, f0, f1, f2, f3⟩ := cells4 r'
        clear hRn
        go_wp2_with fail
        go_quiet (fail)
        go_wp2
        go_ret
        exact RdPost.bad (FB.draw HFB.out _) (Rd.draw r' _) p' (by omega) ha' HRN.out z
      · obtain ⟨fm, rfl⟩ : ∃ fm', fm = fm' + 1 := ⟨fm - 1, by omega⟩
        obtain ⟨c0, c1, c2, c3, f0, f1, f2, f3⟩ := cells4 r'
        have HR' : Hid (Rd wr g s a' false v') := r'
        have HP' : Hid (RP B wr v' o) := p'
        have hpl : leftOf g s wr = s.size + 1 - a' := r'.left
        clear r' p'
        by_cases hst : stops s a'
        · have HRS : Hid (R = some (a', o, j)) := by show _ = _; rw [← hRe]; exact rest_end s fm a' o j hst
          clear hRe
          by_cases hlt2 : a' < s.size
          · have h256 : s[a'].toNat < 256 := s[a'].toNat_lt
            have dl : decide ((a' : Int) < (s.size : Int)) = true := decide_eq_true (by omega)
            have dlN : decide (a' < s.size) = true := decide_eq_true (by omega)
            have hi : (a' : Int) < (s.size : Int) := by omega
            by_cases h124 : s[a'].toNat = 124
            · have d124 : ((s[a'].toNat : Int) != 124) = false := by rw [h124]; rfl
              clear h124 hst
              go_wp2_with fail
              go_quiet (fail)
              go_wp2
              go_ret
              rw [HRS.out]
              exact ⟨FB.draw HFB.out _, rfl, ha', ho, v', Rd.draw HR'.out _, RP.draw HP'.out _⟩
            · have h41 : s[a'].toNat = 41 := by rcases hst hlt2 with e | e; exact absurd e h124; exact e
              have d124 : ((s[a'].toNat : Int) != 124) = true := by rw [h41]; rfl
              have d41 : ((s[a'].toNat : Int) != 41) = false := by rw [h41]; rfl
              clear h124 h41 hst
              go_wp2_with fail
              go_quiet (fail)
              go_wp2
              go_ret
              rw [HRS.out]
              exact ⟨FB.draw HFB.out _, rfl, ha', ho, v', Rd.draw HR'.out _, RP.draw HP'.out _⟩
          · have dl : decide ((a' : Int) < (s.size : Int)) = false := decide_eq_false (by omega)
            have dlN : decide (a' < s.size) = false := decide_eq_false (by omega)
            clear hst
            go_wp2_with fail
            go_quiet (fail)
            go_wp2
            go_ret
            rw [HRS.out]
            exact ⟨FB.draw HFB.out _, rfl, ha', ho, v', Rd.draw HR'.out _, RP.draw HP'.out _⟩
        · have HRG : Hid (R = match Pp.many s.data.toList fm a' o with
              | none => none
              | some (e, o, j2) => (Pp.put o ⟨5, [], [j, j2]⟩).bind fun r => Pp.rest s.data.toList fm e r.1 r.2) := by
            show _ = _
            rw [← hRe]
            exact rest_go s fm a' o j hst
          obtain ⟨hlt2, h124, h41⟩ : ∃ hlt : a' < s.size, s[a'].toNat ≠ 124 ∧ s[a'].toNat ≠ 41 := by
            by_cases hlt : a' < s.size
            · exact ⟨hlt, fun e => hst fun _ => .inl e, fun e => hst fun _ => .inr e⟩
            · exact absurd (fun h => absurd h hlt) hst
          have h256 : s[a'].toNat < 256 := s[a'].toNat_lt
          have dl : decide ((a' : Int) < (s.size : Int)) = true := decide_eq_true (by omega)
          have dlN : decide (a' < s.size) = true := decide_eq_true (by omega)
          have hi : (a' : Int) < (s.size : Int) := by omega
          have d124 : ((s[a'].toNat : Int) != 124) = true := by simp only [bne_iff_ne, ne_eq]; omega
          have d41 : ((s[a'].toNat : Int) != 41) = true := by simp only [bne_iff_ne, ne_eq]; omega
          clear hRe hst h124 h41
          go_wp2_with fail
          go_quiet (fail)
          go_wp2_with fail
          refine (HM.out fm (by omega) a' v' o _ (Rd.draw HR'.out _) (RP.draw HP'.out _) hBr hlt2 ho (by omega)).mono ?_
          intro e w5 hpost
          obtain ⟨hfb5, hpost⟩ := hpost
          have HF5 : Hid (FB g B w w5) := (FB.draw HFB.out _).trans hfb5
          have hB5 : B ≤ w5.heap.size := by have := hfb5.1; simp at this; omega
          clear hfb5 HFB HR' HP' c0 c1 c2 c3 f0 f1 f2 f3 dl dlN d124 d41
          cases hmr : Pp.many s.data.toList fm a' o with
          | none =>
            rw [hmr] at hpost
            obtain ⟨z, a5, v5, n5, cs5, rfl, ha5, r5, p5, hn5⟩ := hpost
            have HRN : Hid (R = none) := by show _ = _; rw [HRG.out, hmr]
            clear HRG hmr
            go_wp2_with fail
            have hb6 : ∀ o : Obj, Below w5.heap.size w5 (w5.alloc o) := fun o => (Below.refl _ _).alloc (Nat.le_refl _) _
            refine (rdPutBad B g a5 5 n5 s _ v5 cs5 _ _ _ _ (Rd.up r5 (hb6 _)) (PR.keep p5 fun q e => (hb6 _).block q (World.ownsRow.lt p5 q e).2) hg (by simp; omega) (by omega)).mono ?_
            rintro e w6 ⟨rfl, hf6, v6, cs6, r6, p6⟩
            have hl6 : leftOf g s w6 = 0 := r6.left0
            have HMID : Hid (Mid B g (61 + (f + 1)) s w w6 (.int .i64 (n5 : Int)) R (Pp.rest s.data.toList) 3 f) := ⟨(HF5.out.trans (FB.of ((hb6 _).mono hB5))).trans hf6, .inl ⟨_, a5, v6, _, cs6, rfl, ha5, r6, p6, by omega, HRN.out⟩⟩
            clear hb6 r6 p6 hf6 r5 p5
            go_wp2_with fail
            go_roundw
            case rel => exact HMID.out
            case measure => omega
          | some r =>
            obtain ⟨e5, o5, k5⟩ := r
            rw [hmr] at hpost
            have hlt5 := ((Pp.bd s.data.toList fm).many a' o e5 o5 k5 hmr).1
            obtain ⟨rfl, ha5, ho5, v5, r5, p5⟩ := hpost
            have HRP : Hid (R = (Pp.put o5 ⟨5, [], [j, k5]⟩).bind fun r => Pp.rest s.data.toList fm e5 r.1 r.2) := by show _ = _; rw [HRG.out, hmr]
            clear HRG hmr
            have HR5 : Hid (Rd w5 g s e5 false v5) := r5
            have HP5 : Hid (RP B w5 v5 o5) := p5
            clear r5 p5
            go_wp2_with fail
            refine (rdPut2 B g e5 5 j k5 _ _ _ s v5 o5 _ HR5.out HP5.out hg hB5 ha5 ho5 rfl rfl rfl).mono ?_
            intro e w6 hpost
            have hlf := hpost.left put_at
            obtain ⟨k6, rfl, hmid⟩ := Mid.put (N := 61 + (f + 1)) (c := 3) (f := f) (F := Pp.rest s.data.toList) HF5.out hpost HRP.out (by omega) (by omega) (by omega)
            have HMID : Hid (Mid B g (61 + (f + 1)) s w w6 k6 R (Pp.rest s.data.toList) 3 f) := hmid
            clear hmid hpost
            go_wp2_with fail
            go_roundw
            case rel => exact HMID.out
            case measure => omega
end PartRdI
section PartRdJ
open Go.RowKit

theorem alts_end (l : List UInt8) (f a : Nat) (ps : List Pp.Pc) (k : Nat) (h : ¬ l[a]? = some 124) : Pp.alts l (f + 1) a ps k = some (a, ps, k) := by
  rw [Pp.alts, if_neg h]
theorem alts_go (l : List UInt8) (f a : Nat) (ps : List Pp.Pc) (k : Nat) (h : l[a]? = some 124) : Pp.alts l (f + 1) a ps k = match Pp.row l f (a + 1) ps with
    | none => none
    | some (e, o, j) => (Pp.put o ⟨6, [], [k, j]⟩).bind fun r => Pp.alts l f e r.1 r.2 := by
  rw [Pp.alts, if_pos h]
  cases Pp.row l f (a + 1) ps with
  | none => rfl
  | some r =>
    obtain ⟨e, o, j⟩ := r
    show (match Pp.put o ⟨6, [], [k, j]⟩ with | none => none | some (o2, k2) => _) = (Pp.put o ⟨6, [], [k, j]⟩).bind fun r => Pp.alts l f e r.1 r.2
    cases Pp.put o ⟨6, [], [k, j]⟩ <;> rfl

set_option maxHeartbeats 4000000 in
set_option maxRecDepth 100000 in
theorem rdAlt (B g : Nat) (s : ByteArray) (f : Nat) (hg : g < B) (hs : s.size ≤ 24) (hf : f ≤ 200) (hM : ∀ f', f' ≤ f → RdC B g s 116 (Pp.row s.data.toList) 3 f') : RdC B g s 108 (Pp.alt s.data.toList) 4 (f + 1) := by
  intro a v ps w h hr hB ha hn hd
  have HM : Hid (∀ f', f' ≤ f → RdC B g s 116 (Pp.row s.data.toList) 3 f') := hM
  have HR0 : Hid (Rd w g s a false v) := h
  have HP0 : Hid (RP B w v ps) := hr
  obtain ⟨R, hR⟩ : ∃ R, R = Pp.alt s.data.toList (f + 1) a ps := ⟨_, rfl⟩
  rw [← hR]
  have HR : Hid (R = (Pp.row s.data.toList f a ps).bind fun r => Pp.alts s.data.toList f r.1 r.2.1 r.2.2) := by
    show _ = _
    rw [hR, Pp.alt]
    cases Pp.row s.data.toList f a ps <;> rfl
  clear h hr hM hR
  have hsl : s.data.toList.length = s.size := by simp
  go_enter Tryz.func108, Tryz.ntmps108
  go_wp2_with fail
  refine (HM.out f (Nat.le_refl _) a v ps _ HR0.out HP0.out hB ha hn (by omega)).mono ?_
  intro e w1 hpost
  obtain ⟨k1, rfl, hmid⟩ := Mid.of (F := Pp.alts s.data.toList) (c := 3) (f := f) (hpost.next (w := w) (FB.refl g B w) (show 61 + f ≤ 61 + (f + 1) by omega) rfl) (fun a' o k e1 h1 => by have := (Pp.bd s.data.toList f).row a ps a' o k (by omega) e1; omega)
  have hmid2 : Hid (Mid B g (61 + (f + 1)) s w w1 k1 R (Pp.alts s.data.toList) 3 f) := by
    show Mid B g (61 + (f + 1)) s w w1 k1 R (Pp.alts s.data.toList) 3 f
    rw [HR.out]
    exact hmid
  clear hmid hpost HR HR0 HP0
  go_wp2_with fail
  go_loopw [3] (fun k wr => Hid (Mid B g (61 + (f + 1)) s w wr k R (Pp.alts s.data.toList) 3 f)) (fun _ wr => leftOf g s wr)
  case atStart => exact hmid2.out
  case round =>
    clear hmid2
    obtain ⟨hfb, hm⟩ := hrel.out
    clear hrel
    have HFB : Hid (FB g B w wr) := hfb
    have hBr : B ≤ wr.heap.size := by have := hfb.1; omega
    clear hfb
    rcases hm with ⟨z, a', v', n', cs', rfl, ha', r', p', hn', hRn⟩ | ⟨j, a', fm, v', o, rfl, ha', r', p', ho, hRe, hfm, hfm2⟩
    · have HRN : Hid (R = none) := hRn
      have CB : Hid (Calls Tryz.prog 117 #[.pointer (some ⟨g, 0, none⟩), .int .u8 124] wr fun e w' => e = .returned (.bool false) ∧ ∃ k, w' = wr.drewN k) := isBad g a' 124 s v' wr r' ha' (by decide)
      clear hRn
      go_wp2_with fail
      refine CB.out.mono ?_
      rintro e w2 ⟨rfl, k2, rfl⟩
      go_wp2
      go_ret
      exact RdPost.bad (FB.draw HFB.out _) (Rd.draw r' _) p' (by omega) ha' HRN.out z
    · obtain ⟨fm, rfl⟩ : ∃ fm', fm = fm' + 1 := ⟨fm - 1, by omega⟩
      have HR' : Hid (Rd wr g s a' false v') := r'
      have HP' : Hid (RP B wr v' o) := p'
      have hpl : leftOf g s wr = s.size + 1 - a' := r'.left
      clear r' p'
      by_cases hst : ∃ hlt : a' < s.size, s[a'].toNat = 124
      · obtain ⟨hlt2, h124⟩ := hst
        have hgt : s.data.toList[a']? = some 124 := by rw [getAt s a' hlt2, show s[a'] = 124 from UInt8.toNat_inj.1 h124]
        have HRG : Hid (R = match Pp.row s.data.toList fm (a' + 1) o with
            | none => none
            | some (e, o, j2) => (Pp.put o ⟨6, [], [j, j2]⟩).bind fun r => Pp.alts s.data.toList fm e r.1 r.2) := by
          show _ = _
          rw [← hRe]
          exact alts_go _ fm a' o j hgt
        have CY : Hid (Calls Tryz.prog 117 #[.pointer (some ⟨g, 0, none⟩), .int .u8 124] wr fun e w' => e = .returned (.bool true) ∧ ∃ k, w' = wr.drewN k) := isYes g a' 124 s v' wr HR'.out hlt2 h124
        clear hRe h124 hgt
        go_wp2_with fail
        refine CY.out.mono ?_
        rintro e w2 ⟨rfl, k2, rfl⟩
        obtain ⟨c0, c1, c2, c3, f0, f1, f2, f3⟩ := cells4 (HR'.out.draw k2)
        clear CY
        go_wp2_with fail
        refine (HM.out fm (by omega) (a' + 1) v' o _ (Rd.at (Rd.draw HR'.out _) _ (a' + 1) (by omega)) (RP.setg (RP.draw HP'.out _) hg 1 _) (by simpa [World.setCell] using hBr) (by omega) ho (by omega)).mono ?_
        intro e w5 hpost
        obtain ⟨hfb5, hpost⟩ := hpost
        have HF5 : Hid (FB g B w w5) := (FB.setg (FB.draw HFB.out _) 1 _).trans hfb5
        have hB5 : B ≤ w5.heap.size := by have := hfb5.1; simp [World.setCell] at this; omega
        clear hfb5 HFB HR' HP' c0 c1 c2 c3 f0 f1 f2 f3
        cases hmr : Pp.row s.data.toList fm (a' + 1) o with
        | none =>
          rw [hmr] at hpost
          obtain ⟨z, a5, v5, n5, cs5, rfl, ha5, r5, p5, hn5⟩ := hpost
          have HRN : Hid (R = none) := by show _ = _; rw [HRG.out, hmr]
          clear HRG hmr
          go_wp2_with fail
          have hb6 : ∀ o : Obj, Below w5.heap.size w5 (w5.alloc o) := fun o => (Below.refl _ _).alloc (Nat.le_refl _) _
          refine (rdPutBad B g a5 6 n5 s _ v5 cs5 _ _ _ _ (Rd.up r5 (hb6 _)) (PR.keep p5 fun q e => (hb6 _).block q (World.ownsRow.lt p5 q e).2) hg (by simp; omega) (by omega)).mono ?_
          rintro e w6 ⟨rfl, hf6, v6, cs6, r6, p6⟩
          have hl6 : leftOf g s w6 = 0 := r6.left0
          have HMID : Hid (Mid B g (61 + (f + 1)) s w w6 (.int .i64 (n5 : Int)) R (Pp.alts s.data.toList) 3 f) := ⟨(HF5.out.trans (FB.of ((hb6 _).mono hB5))).trans hf6, .inl ⟨_, a5, v6, _, cs6, rfl, ha5, r6, p6, by omega, HRN.out⟩⟩
          clear hb6 r6 p6 hf6 r5 p5
          go_wp2_with fail
          go_roundw
          case rel => exact HMID.out
          case measure => omega
        | some r =>
          obtain ⟨e5, o5, k5⟩ := r
          rw [hmr] at hpost
          have hlt5 := ((Pp.bd s.data.toList fm).row (a' + 1) o e5 o5 k5 (by omega) hmr).1
          obtain ⟨rfl, ha5, ho5, v5, r5, p5⟩ := hpost
          have HRP : Hid (R = (Pp.put o5 ⟨6, [], [j, k5]⟩).bind fun r => Pp.alts s.data.toList fm e5 r.1 r.2) := by show _ = _; rw [HRG.out, hmr]
          clear HRG hmr
          have HR5 : Hid (Rd w5 g s e5 false v5) := r5
          have HP5 : Hid (RP B w5 v5 o5) := p5
          clear r5 p5
          go_wp2_with fail
          refine (rdPut2 B g e5 6 j k5 _ _ _ s v5 o5 _ HR5.out HP5.out hg hB5 ha5 ho5 rfl rfl rfl).mono ?_
          intro e w6 hpost
          have hlf := hpost.left put_at
          obtain ⟨k6, rfl, hmid⟩ := Mid.put (N := 61 + (f + 1)) (c := 3) (f := f) (F := Pp.alts s.data.toList) HF5.out hpost HRP.out (by omega) (by omega) (by omega)
          have HMID : Hid (Mid B g (61 + (f + 1)) s w w6 k6 R (Pp.alts s.data.toList) 3 f) := hmid
          clear hmid hpost
          go_wp2_with fail
          go_roundw
          case rel => exact HMID.out
          case measure => omega
      · have HRS : Hid (R = some (a', o, j)) := by
          show _ = _
          rw [← hRe]
          refine alts_end _ fm a' o j ?_
          intro e
          have hlt : a' < s.size := by
            have := (List.getElem?_eq_some_iff.1 e).1
            simpa using this
          refine hst ⟨hlt, ?_⟩
          rw [getAt s a' hlt] at e
          rw [show s[a'] = 124 by simpa using e]
          rfl
        have CN : Hid (Calls Tryz.prog 117 #[.pointer (some ⟨g, 0, none⟩), .int .u8 124] wr fun e w' => e = .returned (.bool false) ∧ ∃ k, w' = wr.drewN k) := isNo g a' 124 s v' wr HR'.out ha' (by decide) (fun hlt e => hst ⟨hlt, e⟩)
        clear hRe hst
        go_wp2_with fail
        refine CN.out.mono ?_
        rintro e w2 ⟨rfl, k2, rfl⟩
        go_wp2
        go_ret
        rw [HRS.out]
        exact ⟨FB.draw HFB.out _, rfl, ha', ho, v', Rd.draw HR'.out _, RP.draw HP'.out _⟩

set_option maxRecDepth 100000 in
/-- All of it, however deep it goes. -/
theorem rdAll (B g : Nat) (s : ByteArray) (hg : g < B) (hs : s.size ≤ 24) : ∀ f, f ≤ 200 → RdC B g s 108 (Pp.alt s.data.toList) 4 f := by
  intro f
  induction f using Nat.strongRecOn with
  | _ f ih =>
    intro hf
    have hT : ∀ f', f' < f → ∀ (a : Nat) (v : Value) (ps : List Pp.Pc) (w : World), Rd w g s a false v → RP B w v ps → B ≤ w.heap.size → a < s.size → ps.length ≤ 60 → 4 * (s.size - a) + 1 ≤ f' →
        Calls Tryz.prog 130 #[.pointer (some ⟨g, 0, none⟩)] w (RdPost B g s w (61 + f') (Pp.thing s.data.toList f' a ps)) := by
      intro f' hf' a v ps w h1 h2 h3 h4 h5 h6
      obtain ⟨f'', rfl⟩ : ∃ f'', f' = f'' + 1 := ⟨f' - 1, by omega⟩
      exact rdThing B g s f'' hg hs (ih f'' (by omega) (by omega)) a v ps w h1 h2 h3 h4 h5 h6
    have hMany : ∀ f', f' < f → ManyC B g s f' := by
      intro f' hf' a v ps w h1 h2 h3 h4 h5 h6
      obtain ⟨f'', rfl⟩ : ∃ f'', f' = f'' + 1 := ⟨f' - 1, by omega⟩
      exact rdMany B g s f'' hg hs a ps w (hT f'' (by omega) a v ps w h1 h2 h3 h4 h5 (by omega)) h3 h4 h6 (fun a' o k e => ((Pp.bd s.data.toList f'').thing a ps a' o k e).1)
    have hRow : ∀ f', f' < f → RdC B g s 116 (Pp.row s.data.toList) 3 f' := by
      intro f' hf'
      cases f' with
      | zero => intro a v ps w h1 h2 h3 h4 h5 h6; omega
      | succ f'' => exact rdRow B g s f'' hg hs (by omega) (fun f3 h3 => hMany f3 (by omega))
    cases f with
    | zero => intro a v ps w h1 h2 h3 h4 h5 h6; omega
    | succ f' => exact rdAlt B g s f' hg hs (by omega) (fun f3 h3 => hRow f3 (by omega))
end PartRdJ
section PartRdK
open Go.RowKit

set_option maxRecDepth 100000 in
set_option maxHeartbeats 400000 in
theorem in_text (n : Nat) (w : World) : Calls Tryz.prog 49 #[.int .i64 (n : Int), .int .i64 1, .int .i64 24] w fun e w' => e = .returned (.bool (decide (1 ≤ n ∧ n ≤ 24))) ∧ w' = w := by
  by_cases h0 : 1 ≤ n
  · have d1 : decide ((1 : Int) ≤ (n : Int)) = true := decide_eq_true (by omega)
    have e : decide (1 ≤ n ∧ n ≤ 24) = decide ((n : Int) ≤ 24) := by
      by_cases h : n ≤ 24
      · rw [decide_eq_true (show (n : Int) ≤ 24 by omega), decide_eq_true ⟨h0, h⟩]
      · rw [decide_eq_false (show ¬ (n : Int) ≤ 24 by omega), decide_eq_false (by omega)]
    rw [e]
    go_enter Tryz.func49, Tryz.ntmps49
    go_wp2
    go_ret
    exact ⟨rfl, rfl⟩
  · have d1 : decide ((1 : Int) ≤ (n : Int)) = false := decide_eq_false (by omega)
    rw [decide_eq_false (by omega)]
    go_enter Tryz.func49, Tryz.ntmps49
    go_wp2
    go_ret
    exact ⟨rfl, rfl⟩

/-- What a reader answers: its pieces and true, or nothing and false. -/
def Answer (w' : World) (B : Nat) (R : Option (List Pp.Pc)) (e : Ending) : Prop :=
  match R with
  | none => e = .returned (.tuple #[.agg #[.slice none 0 0], .bool false])
  | some ps => ∃ v, e = .returned (.tuple #[.agg #[v], .bool true]) ∧ RP B w' v ps ∧ 0 < ps.length ∧ ps.length ≤ 60

set_option maxRecDepth 100000 in
theorem res_pat {fn : Func} {p u : Tmp} (h : fn.results = #[.cell p 142, .tmp u]) (tmps : Array Value) (w : World) (g : Nat) (v : Value) (hp : tmps.getD p undef = .pointer (some ⟨g, 0, none⟩)) (hg : w.heap[g]? = some (.cells #[v] 142 (0, 0))) :
    (results fn tmps).run Tryz.prog w = .ok (.tuple #[.agg #[v], tmps.getD u undef]) w := by
  rw [results_cell_tmp h, hp]
  simp only [asAddr, Sem.run_pure, Result.andThen_ok, run_loadVar_row w g 142 142 #[v] (0, 0) _ hg Tryz.underlying142 rfl (by kernel_rfl)]
theorem alloc2_1 (w : World) (A B : Obj) : ((w.alloc A).alloc B).heap[w.heap.size + 1]? = some B := by
  show ((w.heap.push A).push B)[w.heap.size + 1]? = some B
  rw [Array.getElem?_push]
  simp
theorem alloc2_0 (w : World) (A B : Obj) : ((w.alloc A).alloc B).heap[w.heap.size]? = some A := by
  show ((w.heap.push A).push B)[w.heap.size]? = some A
  rw [Array.getElem?_push, if_neg (by simp), Array.getElem?_push]
  simp
theorem RP.form {B : Nat} {w : World} {v : Value} {ps : List Pp.Pc} (h : RP B w v ps) : ∃ ad n c, v = .slice ad n c := by
  obtain ⟨_, cs, hp, _⟩ := h
  rcases hp.2 with ⟨rfl, _⟩ | ⟨g, cap, cur, rfl, _⟩
  · exact ⟨_, _, _, rfl⟩
  · exact ⟨_, _, _, rfl⟩
theorem RP.lower {B B' : Nat} {w : World} {v : Value} {ps : List Pp.Pc} (h : RP B w v ps) (hB : B' ≤ B) : RP B' w v ps := by
  obtain ⟨Q, cs, hp, hc, hm⟩ := h
  refine ⟨Q, cs, ?_, fun i hi => ?_, hm⟩
  · refine ⟨hp.1, ?_⟩
    rcases hp.2 with hn | ⟨g, cap, cur, rfl, h1, rest⟩
    · exact .inl hn
    · exact .inr ⟨g, cap, cur, rfl, by omega, rest⟩
  · obtain ⟨h1, h2, h3, h4⟩ := hc i hi
    refine ⟨h1, h2, h3, fun hne => ?_⟩
    obtain ⟨k1, k2, k3⟩ := h4 hne
    exact ⟨by omega, k2, k3⟩
theorem FB.below {g B C : Nat} {w w' : World} (h : FB g B w w') (hC : C ≤ B) (hg : C ≤ g) : Below C w w' := ⟨h.2.2.1, h.2.2.2.1, h.2.2.2.2, h.1, fun k hk => h.2.1 k (by omega) (by omega)⟩

set_option maxHeartbeats 2000000 in
set_option maxRecDepth 100000 in
theorem specRead_any (s : ByteArray) (w : World) (hs : s.size ≤ 1048576) :
    Calls Tryz.prog 97 #[.string s] w fun e w' => Below w.heap.size w w' ∧ Answer w' w.heap.size (Pp.read s.data.toList) e := by
  have hsl : s.data.toList.length = s.size := by simp
  by_cases hin : 1 ≤ s.size ∧ s.size ≤ 24
  · have CL : Hid (∀ w' : World, Calls Tryz.prog 49 #[.int .i64 (s.size : Int), .int .i64 1, .int .i64 24] w' fun e w'' => e = .returned (.bool true) ∧ w'' = w') := by
      intro w'
      have := in_text s.size w'
      rwa [decide_eq_true hin] at this
    obtain ⟨R, hR⟩ : ∃ R, R = Pp.read s.data.toList := ⟨_, rfl⟩
    have HR : Hid (R = match Pp.alt s.data.toList 200 0 [] with
        | none => none
        | some (e, o, _) => if e < s.size then none else some o) := by
      show _ = _
      rw [hR, Pp.read, hsl, if_pos hin]
      rfl
    rw [← hR]
    clear hR
    have HA := rdAll (w.heap.size + 2) (w.heap.size + 1) s (by omega) hin.2 200 (Nat.le_refl _) 0 (.slice none 0 0) [] 
    have CA : Hid (∀ w1 : World, Rd w1 (w.heap.size + 1) s 0 false (.slice none 0 0) → w.heap.size + 2 ≤ w1.heap.size → Calls Tryz.prog 108 #[.pointer (some ⟨w.heap.size + 1, 0, none⟩)] w1 (RdPost (w.heap.size + 2) (w.heap.size + 1) s w1 261 (Pp.alt s.data.toList 200 0 []))) :=
      fun w1 h1 h2 => HA w1 h1 ⟨fun _ => 0, [], World.ownsRow_nil _ _ _ _, fun i hi => by simp at hi, fun i j _ hj => by simp at hj⟩ h2 (by omega) (by simp) (by omega)
    clear HA
    go_enter Tryz.func97, Tryz.ntmps97
    go_wp2_with fail
    refine (CL.out _).mono ?_
    rintro e w1 ⟨rfl, rfl⟩
    go_wp2_with fail
    refine (CA.out _ (alloc2_1 _ _ _) (by simp)).mono ?_
    intro e w5 hpost
    clear CA CL
    obtain ⟨hfb, hpost⟩ := hpost
    have B5 : Below w.heap.size w w5 := (((Below.refl _ _).alloc (Nat.le_refl _) _).alloc (by simp) _).trans (hfb.below (by omega) (by omega))
    have r0 := hfb.2.1 w.heap.size (by omega) (by omega)
    rw [alloc2_0] at r0
    have hsz5 : w.heap.size + 2 ≤ w5.heap.size := by have := hfb.1; simp at this; omega
    clear hfb
    cases hA : Pp.alt s.data.toList 200 0 [] with
    | none =>
      rw [hA] at hpost
      obtain ⟨k, a', v', n', cs', rfl, ha', r', p', hn'⟩ := hpost
      have HRN : Hid (R = none) := by show _ = _; rw [HR.out, hA]
      clear HR hA
      obtain ⟨c0, c1, c2, c3, f0, f1, f2, f3⟩ := cells4 r'
      have x0 := blk_cell r0 0
      have y0 := blk_free r0 0
      simp at x0
      go_wp2_with fail
      refine bodyPost_ret (res_pat rfl _ _ w.heap.size (.slice none 0 0) rfl (blk_set r0 0 (.slice none 0 0))) rfl ?_
      rw [HRN.out]
      exact ⟨B5.setCell (by exact Nat.le_refl _) _, rfl⟩
    | some r =>
      obtain ⟨e5, o5, k5⟩ := r
      rw [hA] at hpost
      obtain ⟨rfl, ha', ho, v', r', p'⟩ := hpost
      obtain ⟨c0, c1, c2, c3, f0, f1, f2, f3⟩ := cells4 r'
      have x0 := blk_cell r0 0
      have y0 := blk_free r0 0
      simp at x0
      by_cases hend : e5 < s.size
      · have HRN : Hid (R = none) := by show _ = _; rw [HR.out, hA]; simp only [hend, ↓reduceIte]
        have dl : decide ((e5 : Int) < (s.size : Int)) = true := decide_eq_true (by omega)
        clear HR hA
        go_wp2_with fail
        refine bodyPost_ret (res_pat rfl _ _ w.heap.size (.slice none 0 0) rfl (blk_set r0 0 (.slice none 0 0))) rfl ?_
        rw [HRN.out]
        exact ⟨B5.setCell (by exact Nat.le_refl _) _, rfl⟩
      · have HRS : Hid (R = some o5) := by show _ = _; rw [HR.out, hA]; simp only [hend, ↓reduceIte]
        have dl : decide ((e5 : Int) < (s.size : Int)) = false := decide_eq_false (by omega)
        have hpos : 0 < o5.length := Pp.alt_pos _ _ _ _ _ _ _ hA
        obtain ⟨ad, nn, cc, rfl⟩ := p'.form
        have HP' : Hid (RP (w.heap.size + 2) w5 (.slice ad nn cc) o5) := p'
        clear HR hA p'
        go_wp2_with fail
        refine bodyPost_ret (res_pat rfl _ _ w.heap.size (.slice ad nn cc) rfl (blk_set r0 0 (.slice ad nn cc))) rfl ?_
        rw [HRS.out]
        refine ⟨B5.setCell (by exact Nat.le_refl _) _, _, rfl, ?_, hpos, ho⟩
        exact RP.lower (RP.setg HP'.out (by omega) 0 _) (by omega)
  · have CL : Hid (∀ w' : World, Calls Tryz.prog 49 #[.int .i64 (s.size : Int), .int .i64 1, .int .i64 24] w' fun e w'' => e = .returned (.bool false) ∧ w'' = w') := by
      intro w'
      have := in_text s.size w'
      rwa [decide_eq_false hin] at this
    have HR : Hid (Pp.read s.data.toList = none) := by show _ = _; rw [Pp.read, hsl, if_neg hin]
    go_enter Tryz.func97, Tryz.ntmps97
    go_wp2_with fail
    refine (CL.out _).mono ?_
    rintro e w1 ⟨rfl, rfl⟩
    go_wp2_with fail
    refine bodyPost_ret (res_pat rfl _ _ w.heap.size (.slice none 0 0) rfl (heap_alloc_new _ _)) rfl ?_
    rw [HR.out]
    exact ⟨(Below.refl _ _).alloc (Nat.le_refl _) _, rfl⟩
end PartRdK
end Go.Proofs.YtehagonaacbmiaaGreat
