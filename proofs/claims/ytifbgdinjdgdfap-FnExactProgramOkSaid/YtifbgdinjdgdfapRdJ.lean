/- The specification's reader of a pattern: alternatives; and what ReadPattern of the specification answers, at every text. -/
import Derived.Test.YtifbgdinjdgdfapRdI
namespace Go.Proofs.Ytifbgdinjdgdfap
open Go.RowKit

theorem alts_end (l : List UInt8) (f a : Nat) (ps : List Pp.Pc) (k : Nat) (h : ¬ l[a]? = some 124) : Pp.alts l (f + 1) a ps k = some (a, ps, k) := by
  rw [Pp.alts, if_neg h]
theorem alts_go (l : List UInt8) (f a : Nat) (ps : List Pp.Pc) (k : Nat) (h : l[a]? = some 124) : Pp.alts l (f + 1) a ps k = match Pp.row l f (a + 1) ps with
    | none => none
    | some (e, o, j) => (Pp.put o ⟨6, [], [k, j]⟩).bind fun r => Pp.alts l f e r.1 r.2 := by
  rw [Pp.alts, if_pos h]
  cases Pp.row l f (a + 1) ps with
  | none => rfl
  | some r =>
    obtain ⟨e, o, j⟩ := r
    show (match Pp.put o ⟨6, [], [k, j]⟩ with | none => none | some (o2, k2) => _) = (Pp.put o ⟨6, [], [k, j]⟩).bind fun r => Pp.alts l f e r.1 r.2
    cases Pp.put o ⟨6, [], [k, j]⟩ <;> rfl

set_option maxHeartbeats 4000000 in
set_option maxRecDepth 100000 in
theorem rdAlt (B g : Nat) (s : ByteArray) (f : Nat) (hg : g < B) (hs : s.size ≤ 24) (hf : f ≤ 200) (hM : ∀ f', f' ≤ f → RdC B g s 77 (Pp.row s.data.toList) 3 f') : RdC B g s 62 (Pp.alt s.data.toList) 4 (f + 1) := by
  intro a v ps w h hr hB ha hn hd
  have HM : Hid (∀ f', f' ≤ f → RdC B g s 77 (Pp.row s.data.toList) 3 f') := hM
  have HR0 : Hid (Rd w g s a false v) := h
  have HP0 : Hid (RP B w v ps) := hr
  obtain ⟨R, hR⟩ : ∃ R, R = Pp.alt s.data.toList (f + 1) a ps := ⟨_, rfl⟩
  rw [← hR]
  have HR : Hid (R = (Pp.row s.data.toList f a ps).bind fun r => Pp.alts s.data.toList f r.1 r.2.1 r.2.2) := by
    show _ = _
    rw [hR, Pp.alt]
    cases Pp.row s.data.toList f a ps <;> rfl
  clear h hr hM hR
  have hsl : s.data.toList.length = s.size := by simp
  go_enter Try.func62, Try.ntmps62
  go_wp2_with fail
  refine (HM.out f (Nat.le_refl _) a v ps _ HR0.out HP0.out hB ha hn (by omega)).mono ?_
  intro e w1 hpost
  obtain ⟨k1, rfl, hmid⟩ := Mid.of (F := Pp.alts s.data.toList) (c := 3) (f := f) (hpost.next (w := w) (FB.refl g B w) (show 61 + f ≤ 61 + (f + 1) by omega) rfl) (fun a' o k e1 h1 => by have := (Pp.bd s.data.toList f).row a ps a' o k (by omega) e1; omega)
  have hmid2 : Hid (Mid B g (61 + (f + 1)) s w w1 k1 R (Pp.alts s.data.toList) 3 f) := by
    show Mid B g (61 + (f + 1)) s w w1 k1 R (Pp.alts s.data.toList) 3 f
    rw [HR.out]
    exact hmid
  clear hmid hpost HR HR0 HP0
  go_wp2_with fail
  go_loopw [3] (fun k wr => Hid (Mid B g (61 + (f + 1)) s w wr k R (Pp.alts s.data.toList) 3 f)) (fun _ wr => leftOf g s wr)
  case atStart => exact hmid2.out
  case round =>
    clear hmid2
    obtain ⟨hfb, hm⟩ := hrel.out
    clear hrel
    have HFB : Hid (FB g B w wr) := hfb
    have hBr : B ≤ wr.heap.size := by have := hfb.1; omega
    clear hfb
    rcases hm with ⟨z, a', v', n', cs', rfl, ha', r', p', hn', hRn⟩ | ⟨j, a', fm, v', o, rfl, ha', r', p', ho, hRe, hfm, hfm2⟩
    · have HRN : Hid (R = none) := hRn
      have CB : Hid (Calls Try.prog 78 #[.pointer (some ⟨g, 0, none⟩), .int .u8 124] wr fun e w' => e = .returned (.bool false) ∧ ∃ k, w' = wr.drewN k) := isBad g a' 124 s v' wr r' ha' (by decide)
      clear hRn
      go_wp2_with fail
      refine CB.out.mono ?_
      rintro e w2 ⟨rfl, k2, rfl⟩
      go_wp2
      go_ret
      exact RdPost.bad (FB.draw HFB.out _) (Rd.draw r' _) p' (by omega) ha' HRN.out z
    · obtain ⟨fm, rfl⟩ : ∃ fm', fm = fm' + 1 := ⟨fm - 1, by omega⟩
      have HR' : Hid (Rd wr g s a' false v') := r'
      have HP' : Hid (RP B wr v' o) := p'
      have hpl : leftOf g s wr = s.size + 1 - a' := r'.left
      clear r' p'
      by_cases hst : ∃ hlt : a' < s.size, s[a'].toNat = 124
      · obtain ⟨hlt2, h124⟩ := hst
        have hgt : s.data.toList[a']? = some 124 := by rw [getAt s a' hlt2, show s[a'] = 124 from UInt8.toNat_inj.1 h124]
        have HRG : Hid (R = match Pp.row s.data.toList fm (a' + 1) o with
            | none => none
            | some (e, o, j2) => (Pp.put o ⟨6, [], [j, j2]⟩).bind fun r => Pp.alts s.data.toList fm e r.1 r.2) := by
          show _ = _
          rw [← hRe]
          exact alts_go _ fm a' o j hgt
        have CY : Hid (Calls Try.prog 78 #[.pointer (some ⟨g, 0, none⟩), .int .u8 124] wr fun e w' => e = .returned (.bool true) ∧ ∃ k, w' = wr.drewN k) := isYes g a' 124 s v' wr HR'.out hlt2 h124
        clear hRe h124 hgt
        go_wp2_with fail
        refine CY.out.mono ?_
        rintro e w2 ⟨rfl, k2, rfl⟩
        obtain ⟨c0, c1, c2, c3, f0, f1, f2, f3⟩ := cells4 (HR'.out.draw k2)
        clear CY
        go_wp2_with fail
        refine (HM.out fm (by omega) (a' + 1) v' o _ (Rd.at (Rd.draw HR'.out _) _ (a' + 1) (by omega)) (RP.setg (RP.draw HP'.out _) hg 1 _) (by simpa [World.setCell] using hBr) (by omega) ho (by omega)).mono ?_
        intro e w5 hpost
        obtain ⟨hfb5, hpost⟩ := hpost
        have HF5 : Hid (FB g B w w5) := (FB.setg (FB.draw HFB.out _) 1 _).trans hfb5
        have hB5 : B ≤ w5.heap.size := by have := hfb5.1; simp [World.setCell] at this; omega
        clear hfb5 HFB HR' HP' c0 c1 c2 c3 f0 f1 f2 f3
        cases hmr : Pp.row s.data.toList fm (a' + 1) o with
        | none =>
          rw [hmr] at hpost
          obtain ⟨z, a5, v5, n5, cs5, rfl, ha5, r5, p5, hn5⟩ := hpost
          have HRN : Hid (R = none) := by show _ = _; rw [HRG.out, hmr]
          clear HRG hmr
          go_wp2_with fail
          have hb6 : ∀ o : Obj, Below w5.heap.size w5 (w5.alloc o) := fun o => (Below.refl _ _).alloc (Nat.le_refl _) _
          refine (rdPutBad B g a5 6 n5 s _ v5 cs5 _ _ _ _ (Rd.up r5 (hb6 _)) (PR.keep p5 fun q e => (hb6 _).block q (World.ownsRow.lt p5 q e).2) hg (by simp; omega) (by omega)).mono ?_
          rintro e w6 ⟨rfl, hf6, v6, cs6, r6, p6⟩
          have hl6 : leftOf g s w6 = 0 := r6.left0
          have HMID : Hid (Mid B g (61 + (f + 1)) s w w6 (.int .i64 (n5 : Int)) R (Pp.alts s.data.toList) 3 f) := ⟨(HF5.out.trans (FB.of ((hb6 _).mono hB5))).trans hf6, .inl ⟨_, a5, v6, _, cs6, rfl, ha5, r6, p6, by omega, HRN.out⟩⟩
          clear hb6 r6 p6 hf6 r5 p5
          go_wp2_with fail
          go_roundw
          case rel => exact HMID.out
          case measure => omega
        | some r =>
          obtain ⟨e5, o5, k5⟩ := r
          rw [hmr] at hpost
          have hlt5 := ((Pp.bd s.data.toList fm).row (a' + 1) o e5 o5 k5 (by omega) hmr).1
          obtain ⟨rfl, ha5, ho5, v5, r5, p5⟩ := hpost
          have HRP : Hid (R = (Pp.put o5 ⟨6, [], [j, k5]⟩).bind fun r => Pp.alts s.data.toList fm e5 r.1 r.2) := by show _ = _; rw [HRG.out, hmr]
          clear HRG hmr
          have HR5 : Hid (Rd w5 g s e5 false v5) := r5
          have HP5 : Hid (RP B w5 v5 o5) := p5
          clear r5 p5
          go_wp2_with fail
          refine (rdPut2 B g e5 6 j k5 _ _ _ s v5 o5 _ HR5.out HP5.out hg hB5 ha5 ho5 rfl rfl rfl).mono ?_
          intro e w6 hpost
          have hlf := hpost.left put_at
          obtain ⟨k6, rfl, hmid⟩ := Mid.put (N := 61 + (f + 1)) (c := 3) (f := f) (F := Pp.alts s.data.toList) HF5.out hpost HRP.out (by omega) (by omega) (by omega)
          have HMID : Hid (Mid B g (61 + (f + 1)) s w w6 k6 R (Pp.alts s.data.toList) 3 f) := hmid
          clear hmid hpost
          go_wp2_with fail
          go_roundw
          case rel => exact HMID.out
          case measure => omega
      · have HRS : Hid (R = some (a', o, j)) := by
          show _ = _
          rw [← hRe]
          refine alts_end _ fm a' o j ?_
          intro e
          have hlt : a' < s.size := by
            have := (List.getElem?_eq_some_iff.1 e).1
            simpa using this
          refine hst ⟨hlt, ?_⟩
          rw [getAt s a' hlt] at e
          rw [show s[a'] = 124 by simpa using e]
          rfl
        have CN : Hid (Calls Try.prog 78 #[.pointer (some ⟨g, 0, none⟩), .int .u8 124] wr fun e w' => e = .returned (.bool false) ∧ ∃ k, w' = wr.drewN k) := isNo g a' 124 s v' wr HR'.out ha' (by decide) (fun hlt e => hst ⟨hlt, e⟩)
        clear hRe hst
        go_wp2_with fail
        refine CN.out.mono ?_
        rintro e w2 ⟨rfl, k2, rfl⟩
        go_wp2
        go_ret
        rw [HRS.out]
        exact ⟨FB.draw HFB.out _, rfl, ha', ho, v', Rd.draw HR'.out _, RP.draw HP'.out _⟩

set_option maxRecDepth 100000 in
/-- All of it, however deep it goes. -/
theorem rdAll (B g : Nat) (s : ByteArray) (hg : g < B) (hs : s.size ≤ 24) : ∀ f, f ≤ 200 → RdC B g s 62 (Pp.alt s.data.toList) 4 f := by
  intro f
  induction f using Nat.strongRecOn with
  | _ f ih =>
    intro hf
    have hT : ∀ f', f' < f → ∀ (a : Nat) (v : Value) (ps : List Pp.Pc) (w : World), Rd w g s a false v → RP B w v ps → B ≤ w.heap.size → a < s.size → ps.length ≤ 60 → 4 * (s.size - a) + 1 ≤ f' →
        Calls Try.prog 101 #[.pointer (some ⟨g, 0, none⟩)] w (RdPost B g s w (61 + f') (Pp.thing s.data.toList f' a ps)) := by
      intro f' hf' a v ps w h1 h2 h3 h4 h5 h6
      obtain ⟨f'', rfl⟩ : ∃ f'', f' = f'' + 1 := ⟨f' - 1, by omega⟩
      exact rdThing B g s f'' hg hs (ih f'' (by omega) (by omega)) a v ps w h1 h2 h3 h4 h5 h6
    have hMany : ∀ f', f' < f → ManyC B g s f' := by
      intro f' hf' a v ps w h1 h2 h3 h4 h5 h6
      obtain ⟨f'', rfl⟩ : ∃ f'', f' = f'' + 1 := ⟨f' - 1, by omega⟩
      exact rdMany B g s f'' hg hs a ps w (hT f'' (by omega) a v ps w h1 h2 h3 h4 h5 (by omega)) h3 h4 h6 (fun a' o k e => ((Pp.bd s.data.toList f'').thing a ps a' o k e).1)
    have hRow : ∀ f', f' < f → RdC B g s 77 (Pp.row s.data.toList) 3 f' := by
      intro f' hf'
      cases f' with
      | zero => intro a v ps w h1 h2 h3 h4 h5 h6; omega
      | succ f'' => exact rdRow B g s f'' hg hs (by omega) (fun f3 h3 => hMany f3 (by omega))
    cases f with
    | zero => intro a v ps w h1 h2 h3 h4 h5 h6; omega
    | succ f' => exact rdAlt B g s f' hg hs (by omega) (fun f3 h3 => hRow f3 (by omega))
#print axioms rdAll
end Go.Proofs.Ytifbgdinjdgdfap
