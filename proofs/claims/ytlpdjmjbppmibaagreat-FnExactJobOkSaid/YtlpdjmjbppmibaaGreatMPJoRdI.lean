/- The specification's reader of a pattern: one thing behind the other. -/
import Derived.Test.YtlpdjmjbppmibaaGreatMPJoZae
namespace Go.Proofs.YtlpdjmjbppmibaaGreat
open Go.RowKit

/-- What many promises. -/
def ManyC (B g : Nat) (s : ByteArray) (f : Nat) : Prop :=
  ∀ (a : Nat) (v : Value) (ps : List Pp.Pc) (w : World), Rd w g s a false v → RP B w v ps → B ≤ w.heap.size → a < s.size → ps.length ≤ 60 → 4 * (s.size - a) + 2 ≤ f →
    Calls Tryz.prog 124 #[.pointer (some ⟨g, 0, none⟩)] w (RdPost B g s w (61 + f) (Pp.many s.data.toList f a ps))

/-- Does the row end here? -/
def stops (s : ByteArray) (a : Nat) : Prop := ∀ h : a < s.size, s[a].toNat = 124 ∨ s[a].toNat = 41
theorem stops_iff (s : ByteArray) (a : Nat) : (s.data.toList[a]? = none ∨ s.data.toList[a]? = some 124 ∨ s.data.toList[a]? = some 41) ↔ stops s a := by
  constructor
  · intro h hlt
    rw [getAt s a hlt] at h
    rcases h with h | h | h
    · cases h
    · left; rw [show s[a] = 124 by simpa using h]; rfl
    · right; rw [show s[a] = 41 by simpa using h]; rfl
  · intro h
    by_cases hlt : a < s.size
    · rw [getAt s a hlt]
      rcases h hlt with h | h
      · right; left; rw [show s[a] = 124 from UInt8.toNat_inj.1 h]
      · right; right; rw [show s[a] = 41 from UInt8.toNat_inj.1 h]
    · left; exact List.getElem?_eq_none (by simp; omega)
theorem rest_end (s : ByteArray) (f a : Nat) (ps : List Pp.Pc) (k : Nat) (h : stops s a) : Pp.rest s.data.toList (f + 1) a ps k = some (a, ps, k) := by
  rw [Pp.rest]
  cases hb : s.data.toList[a]? with
  | none => rfl
  | some b =>
    have hc : b = 124 ∨ b = 41 := by
      have := (stops_iff s a).2 h
      rw [hb] at this
      simpa using this
    simp only [hc, ↓reduceIte]
theorem rest_go (s : ByteArray) (f a : Nat) (ps : List Pp.Pc) (k : Nat) (h : ¬ stops s a) : Pp.rest s.data.toList (f + 1) a ps k = match Pp.many s.data.toList f a ps with
    | none => none
    | some (e, o, j) => (Pp.put o ⟨5, [], [k, j]⟩).bind fun r => Pp.rest s.data.toList f e r.1 r.2 := by
  rw [Pp.rest]
  have h2 : ¬ (s.data.toList[a]? = none ∨ s.data.toList[a]? = some 124 ∨ s.data.toList[a]? = some 41) := fun e => h ((stops_iff s a).1 e)
  cases hb : s.data.toList[a]? with
  | none => rw [hb] at h2; simp at h2
  | some b =>
    rw [hb] at h2
    have hc : ¬ (b = 124 ∨ b = 41) := by simpa using h2
    simp only [hc, ↓reduceIte]
    cases Pp.many s.data.toList f a ps with
    | none => rfl
    | some r =>
      obtain ⟨e, o, j⟩ := r
      show (match Pp.put o ⟨5, [], [k, j]⟩ with | none => none | some (o2, k2) => _) = (Pp.put o ⟨5, [], [k, j]⟩).bind fun r => Pp.rest s.data.toList f e r.1 r.2
      cases Pp.put o ⟨5, [], [k, j]⟩ <;> rfl

set_option maxHeartbeats 4000000 in
set_option maxRecDepth 100000 in
/-- The loop of a row, as it stands. -/
theorem rdRow (B g : Nat) (s : ByteArray) (f : Nat) (hg : g < B) (hs : s.size ≤ 24) (hf : f ≤ 200) (hM : ∀ f', f' ≤ f → ManyC B g s f') : RdC B g s 116 (Pp.row s.data.toList) 3 (f + 1) := by
  intro a v ps w h hr hB ha hn hd
  have HM : Hid (∀ f', f' ≤ f → ManyC B g s f') := hM
  have HR0 : Hid (Rd w g s a false v) := h
  have HP0 : Hid (RP B w v ps) := hr
  obtain ⟨R, hR⟩ : ∃ R, R = Pp.row s.data.toList (f + 1) a ps := ⟨_, rfl⟩
  rw [← hR]
  obtain ⟨c0, c1, c2, c3, f0, f1, f2, f3⟩ := cells4 h
  clear h hr hM
  by_cases hst : stops s a
  · have HRE : Hid (R = (Pp.put ps ⟨12, [], []⟩).map fun (o, k) => (a, o, k)) := by
      show _ = _
      rw [hR, Pp.row, if_pos ((stops_iff s a).2 hst)]
    have fin : ∀ nn : Nat, Hid (Calls Tryz.prog 118 #[.pointer (some ⟨g, 0, none⟩), .agg #[.int .i64 12, .string ⟨#[]⟩, .slice none 0 0]] (w.drewN nn) (RdPost B g s w (61 + (f + 1)) R)) := fun nn =>
      (rdPut0 B g a 12 s _ [] v ps _ (Rd.draw HR0.out nn) (RP.draw HP0.out nn) hg hB ha hn rfl).mono fun e w' hp => hp.next (FB.draw (FB.refl g B w) nn) (by omega) HRE.out
    have FIN : Hid (∀ nn : Nat, Hid (Calls Tryz.prog 118 #[.pointer (some ⟨g, 0, none⟩), .agg #[.int .i64 12, .string ⟨#[]⟩, .slice none 0 0]] (w.drewN nn) (RdPost B g s w (61 + (f + 1)) R))) := fin
    clear fin hR HRE HR0 HP0 HM
    by_cases hlt : a < s.size
    · have h256 : s[a].toNat < 256 := s[a].toNat_lt
      have dl : decide ((s.size : Int) ≤ (a : Int)) = false := decide_eq_false (by omega)
      have dlN : decide (s.size ≤ a) = false := decide_eq_false (by omega)
      have hi : (a : Int) < (s.size : Int) := by omega
      by_cases h124 : s[a].toNat = 124
      · have d124 : ((s[a].toNat : Int) == 124) = true := by rw [h124]; rfl
        clear h124 hst
        go_enter Tryz.func116, Tryz.ntmps116
        go_wp2_with fail
        go_quiet (fail)
        go_wp2_with fail
        refine (FIN.out _).out.mono ?_
        intro e w5 hpost
        have HPO : Hid (RdPost B g s w (61 + (f + 1)) R e w5) := hpost
        obtain ⟨k, rfl⟩ := hpost.ret
        clear hpost
        go_wp2
        go_ret
        exact HPO.out
      · have h41 : s[a].toNat = 41 := by rcases hst hlt with e | e; exact absurd e h124; exact e
        have d124 : ((s[a].toNat : Int) == 124) = false := by rw [h41]; rfl
        have d41 : ((s[a].toNat : Int) == 41) = true := by rw [h41]; rfl
        clear h124 h41 hst
        go_enter Tryz.func116, Tryz.ntmps116
        go_wp2_with fail
        go_quiet (fail)
        go_wp2_with fail
        refine (FIN.out _).out.mono ?_
        intro e w5 hpost
        have HPO : Hid (RdPost B g s w (61 + (f + 1)) R e w5) := hpost
        obtain ⟨k, rfl⟩ := hpost.ret
        clear hpost
        go_wp2
        go_ret
        exact HPO.out
    · have dl : decide ((s.size : Int) ≤ (a : Int)) = true := decide_eq_true (by omega)
      have dlN : decide (s.size ≤ a) = true := decide_eq_true (by omega)
      clear hst
      go_enter Tryz.func116, Tryz.ntmps116
      go_wp2_with fail
      go_quiet (fail)
      go_wp2_with fail
      refine (FIN.out _).out.mono ?_
      intro e w5 hpost
      have HPO : Hid (RdPost B g s w (61 + (f + 1)) R e w5) := hpost
      obtain ⟨k, rfl⟩ := hpost.ret
      clear hpost
      go_wp2
      go_ret
      exact HPO.out
  · obtain ⟨hlt, h124, h41⟩ : ∃ hlt : a < s.size, s[a].toNat ≠ 124 ∧ s[a].toNat ≠ 41 := by
      by_cases hlt : a < s.size
      · exact ⟨hlt, fun e => hst fun _ => .inl e, fun e => hst fun _ => .inr e⟩
      · exact absurd (fun h => absurd h hlt) hst
    have h256 : s[a].toNat < 256 := s[a].toNat_lt
    have HR : Hid (R = (Pp.many s.data.toList f a ps).bind fun r => Pp.rest s.data.toList f r.1 r.2.1 r.2.2) := by
      show _ = _
      rw [hR, Pp.row, if_neg (fun e => hst ((stops_iff s a).1 e))]
      cases Pp.many s.data.toList f a ps <;> rfl
    have dl : decide ((s.size : Int) ≤ (a : Int)) = false := decide_eq_false (by omega)
    have dlN : decide (s.size ≤ a) = false := decide_eq_false (by omega)
    have hi : (a : Int) < (s.size : Int) := by omega
    have d124 : ((s[a].toNat : Int) == 124) = false := by simp only [beq_eq_false_iff_ne, ne_eq]; omega
    have d41 : ((s[a].toNat : Int) == 41) = false := by simp only [beq_eq_false_iff_ne, ne_eq]; omega
    clear hR hst h124 h41
    go_enter Tryz.func116, Tryz.ntmps116
    go_wp2_with fail
    go_quiet (fail)
    go_wp2_with fail
    refine (HM.out f (Nat.le_refl _) a v ps _ (Rd.draw HR0.out _) (RP.draw HP0.out _) hB hlt hn (by omega)).mono ?_
    intro e w1 hpost
    obtain ⟨k1, rfl, hmid⟩ := Mid.of (F := Pp.rest s.data.toList) (c := 3) (f := f) (hpost.next (w := w) (FB.draw (FB.refl g B w) _) (show 61 + f ≤ 61 + (f + 1) by omega) rfl) (fun a' o k e1 h1 => by have := (Pp.bd s.data.toList f).many a ps a' o k e1; omega)
    have hmid2 : Hid (Mid B g (61 + (f + 1)) s w w1 k1 R (Pp.rest s.data.toList) 3 f) := by
      show Mid B g (61 + (f + 1)) s w w1 k1 R (Pp.rest s.data.toList) 3 f
      rw [HR.out]
      exact hmid
    clear hmid hpost HR HR0 HP0 c0 c1 c2 c3 f0 f1 f2 f3 dl dlN d124 d41
    go_wp2_with fail
    go_loopw [3] (fun k wr => Hid (Mid B g (61 + (f + 1)) s w wr k R (Pp.rest s.data.toList) 3 f)) (fun _ wr => leftOf g s wr)
    case atStart => exact hmid2.out
    case round =>
      clear hmid2
      obtain ⟨hfb, hm⟩ := hrel.out
      clear hrel
      have HFB : Hid (FB g B w wr) := hfb
      have hBr : B ≤ wr.heap.size := by have := hfb.1; omega
      clear hfb
      rcases hm with ⟨z, a', v', n', cs', rfl, ha', r', p', hn', hRn⟩ | ⟨j, a', fm, v', o, rfl, ha', r', p', ho, hRe, hfm, hfm2⟩
      · have HRN : Hid (R = none) := hRn
        obtain ⟨c0, c1, c2, c3, f0, f1, f2, f3⟩ := cells4 r'
        clear hRn
        go_wp2_with fail
        go_quiet (fail)
        go_wp2
        go_ret
        exact RdPost.bad (FB.draw HFB.out _) (Rd.draw r' _) p' (by omega) ha' HRN.out z
      · obtain ⟨fm, rfl⟩ : ∃ fm', fm = fm' + 1 := ⟨fm - 1, by omega⟩
        obtain ⟨c0, c1, c2, c3, f0, f1, f2, f3⟩ := cells4 r'
        have HR' : Hid (Rd wr g s a' false v') := r'
        have HP' : Hid (RP B wr v' o) := p'
        have hpl : leftOf g s wr = s.size + 1 - a' := r'.left
        clear r' p'
        by_cases hst : stops s a'
        · have HRS : Hid (R = some (a', o, j)) := by show _ = _; rw [← hRe]; exact rest_end s fm a' o j hst
          clear hRe
          by_cases hlt2 : a' < s.size
          · have h256 : s[a'].toNat < 256 := s[a'].toNat_lt
            have dl : decide ((a' : Int) < (s.size : Int)) = true := decide_eq_true (by omega)
            have dlN : decide (a' < s.size) = true := decide_eq_true (by omega)
            have hi : (a' : Int) < (s.size : Int) := by omega
            by_cases h124 : s[a'].toNat = 124
            · have d124 : ((s[a'].toNat : Int) != 124) = false := by rw [h124]; rfl
              clear h124 hst
              go_wp2_with fail
              go_quiet (fail)
              go_wp2
              go_ret
              rw [HRS.out]
              exact ⟨FB.draw HFB.out _, rfl, ha', ho, v', Rd.draw HR'.out _, RP.draw HP'.out _⟩
            · have h41 : s[a'].toNat = 41 := by rcases hst hlt2 with e | e; exact absurd e h124; exact e
              have d124 : ((s[a'].toNat : Int) != 124) = true := by rw [h41]; rfl
              have d41 : ((s[a'].toNat : Int) != 41) = false := by rw [h41]; rfl
              clear h124 h41 hst
              go_wp2_with fail
              go_quiet (fail)
              go_wp2
              go_ret
              rw [HRS.out]
              exact ⟨FB.draw HFB.out _, rfl, ha', ho, v', Rd.draw HR'.out _, RP.draw HP'.out _⟩
          · have dl : decide ((a' : Int) < (s.size : Int)) = false := decide_eq_false (by omega)
            have dlN : decide (a' < s.size) = false := decide_eq_false (by omega)
            clear hst
            go_wp2_with fail
            go_quiet (fail)
            go_wp2
            go_ret
            rw [HRS.out]
            exact ⟨FB.draw HFB.out _, rfl, ha', ho, v', Rd.draw HR'.out _, RP.draw HP'.out _⟩
        · have HRG : Hid (R = match Pp.many s.data.toList fm a' o with
              | none => none
              | some (e, o, j2) => (Pp.put o ⟨5, [], [j, j2]⟩).bind fun r => Pp.rest s.data.toList fm e r.1 r.2) := by
            show _ = _
            rw [← hRe]
            exact rest_go s fm a' o j hst
          obtain ⟨hlt2, h124, h41⟩ : ∃ hlt : a' < s.size, s[a'].toNat ≠ 124 ∧ s[a'].toNat ≠ 41 := by
            by_cases hlt : a' < s.size
            · exact ⟨hlt, fun e => hst fun _ => .inl e, fun e => hst fun _ => .inr e⟩
            · exact absurd (fun h => absurd h hlt) hst
          have h256 : s[a'].toNat < 256 := s[a'].toNat_lt
          have dl : decide ((a' : Int) < (s.size : Int)) = true := decide_eq_true (by omega)
          have dlN : decide (a' < s.size) = true := decide_eq_true (by omega)
          have hi : (a' : Int) < (s.size : Int) := by omega
          have d124 : ((s[a'].toNat : Int) != 124) = true := by simp only [bne_iff_ne, ne_eq]; omega
          have d41 : ((s[a'].toNat : Int) != 41) = true := by simp only [bne_iff_ne, ne_eq]; omega
          clear hRe hst h124 h41
          go_wp2_with fail
          go_quiet (fail)
          go_wp2_with fail
          refine (HM.out fm (by omega) a' v' o _ (Rd.draw HR'.out _) (RP.draw HP'.out _) hBr hlt2 ho (by omega)).mono ?_
          intro e w5 hpost
          obtain ⟨hfb5, hpost⟩ := hpost
          have HF5 : Hid (FB g B w w5) := (FB.draw HFB.out _).trans hfb5
          have hB5 : B ≤ w5.heap.size := by have := hfb5.1; simp at this; omega
          clear hfb5 HFB HR' HP' c0 c1 c2 c3 f0 f1 f2 f3 dl dlN d124 d41
          cases hmr : Pp.many s.data.toList fm a' o with
          | none =>
            rw [hmr] at hpost
            obtain ⟨z, a5, v5, n5, cs5, rfl, ha5, r5, p5, hn5⟩ := hpost
            have HRN : Hid (R = none) := by show _ = _; rw [HRG.out, hmr]
            clear HRG hmr
            go_wp2_with fail
            have hb6 : ∀ o : Obj, Below w5.heap.size w5 (w5.alloc o) := fun o => (Below.refl _ _).alloc (Nat.le_refl _) _
            refine (rdPutBad B g a5 5 n5 s _ v5 cs5 _ _ _ _ (Rd.up r5 (hb6 _)) (PR.keep p5 fun q e => (hb6 _).block q (World.ownsRow.lt p5 q e).2) hg (by simp; omega) (by omega)).mono ?_
            rintro e w6 ⟨rfl, hf6, v6, cs6, r6, p6⟩
            have hl6 : leftOf g s w6 = 0 := r6.left0
            have HMID : Hid (Mid B g (61 + (f + 1)) s w w6 (.int .i64 (n5 : Int)) R (Pp.rest s.data.toList) 3 f) := ⟨(HF5.out.trans (FB.of ((hb6 _).mono hB5))).trans hf6, .inl ⟨_, a5, v6, _, cs6, rfl, ha5, r6, p6, by omega, HRN.out⟩⟩
            clear hb6 r6 p6 hf6 r5 p5
            go_wp2_with fail
            go_roundw
            case rel => exact HMID.out
            case measure => omega
          | some r =>
            obtain ⟨e5, o5, k5⟩ := r
            rw [hmr] at hpost
            have hlt5 := ((Pp.bd s.data.toList fm).many a' o e5 o5 k5 hmr).1
            obtain ⟨rfl, ha5, ho5, v5, r5, p5⟩ := hpost
            have HRP : Hid (R = (Pp.put o5 ⟨5, [], [j, k5]⟩).bind fun r => Pp.rest s.data.toList fm e5 r.1 r.2) := by show _ = _; rw [HRG.out, hmr]
            clear HRG hmr
            have HR5 : Hid (Rd w5 g s e5 false v5) := r5
            have HP5 : Hid (RP B w5 v5 o5) := p5
            clear r5 p5
            go_wp2_with fail
            refine (rdPut2 B g e5 5 j k5 _ _ _ s v5 o5 _ HR5.out HP5.out hg hB5 ha5 ho5 rfl rfl rfl).mono ?_
            intro e w6 hpost
            have hlf := hpost.left put_at
            obtain ⟨k6, rfl, hmid⟩ := Mid.put (N := 61 + (f + 1)) (c := 3) (f := f) (F := Pp.rest s.data.toList) HF5.out hpost HRP.out (by omega) (by omega) (by omega)
            have HMID : Hid (Mid B g (61 + (f + 1)) s w w6 k6 R (Pp.rest s.data.toList) 3 f) := hmid
            clear hmid hpost
            go_wp2_with fail
            go_roundw
            case rel => exact HMID.out
            case measure => omega
end Go.Proofs.YtlpdjmjbppmibaaGreat
