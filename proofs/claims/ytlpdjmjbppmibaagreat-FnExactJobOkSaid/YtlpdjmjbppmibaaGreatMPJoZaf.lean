/- The specification's reader of a pattern: alternatives; and what ReadPattern of the specification answers, at every text. What ReadPattern of the specification answers, at every text. Code in memory: how great it is, the law's own copy of it, two of the same, what is handed in. -/
import Derived.Test.YtlpdjmjbppmibaaGreatMPJoRdI
import Derived.Laws.ResultCell
import Derived.Laws.Rows
import Derived.Test.YtlpdjmjbppmibaaGreatMPJoZaa
import Derived.Test.YtlpdjmjbppmibaaGreatMPJoZab
namespace Go.Proofs.YtlpdjmjbppmibaaGreat
section PartRdJ
open Go.RowKit

theorem alts_end (l : List UInt8) (f a : Nat) (ps : List Pp.Pc) (k : Nat) (h : ¬ l[a]? = some 124) : Pp.alts l (f + 1) a ps k = some (a, ps, k) := by
  rw [Pp.alts, if_neg h]
theorem alts_go (l : List UInt8) (f a : Nat) (ps : List Pp.Pc) (k : Nat) (h : l[a]? = some 124) : Pp.alts l (f + 1) a ps k = match Pp.row l f (a + 1) ps with
    | none => none
    | some (e, o, j) => (Pp.put o ⟨6, [], [k, j]⟩).bind fun r => Pp.alts l f e r.1 r.2 := by
  rw [Pp.alts, if_pos h]
  cases Pp.row l f (a + 1) ps with
  | none => rfl
  | some r =>
    obtain ⟨e, o, j⟩ := r
    show (match Pp.put o ⟨6, [], [k, j]⟩ with | none => none | some (o2, k2) => _) = (Pp.put o ⟨6, [], [k, j]⟩).bind fun r => Pp.alts l f e r.1 r.2
    cases Pp.put o ⟨6, [], [k, j]⟩ <;> rfl

set_option maxHeartbeats 4000000 in
set_option maxRecDepth 100000 in
theorem rdAlt (B g : Nat) (s : ByteArray) (f : Nat) (hg : g < B) (hs : s.size ≤ 24) (hf : f ≤ 200) (hM : ∀ f', f' ≤ f → RdC B g s 116 (Pp.row s.data.toList) 3 f') : RdC B g s 108 (Pp.alt s.data.toList) 4 (f + 1) := by
  intro a v ps w h hr hB ha hn hd
  have HM : Hid (∀ f', f' ≤ f → RdC B g s 116 (Pp.row s.data.toList) 3 f') := hM
  have HR0 : Hid (Rd w g s a false v) := h
  have HP0 : Hid (RP B w v ps) := hr
  obtain ⟨R, hR⟩ : ∃ R, R = Pp.alt s.data.toList (f + 1) a ps := ⟨_, rfl⟩
  rw [← hR]
  have HR : Hid (R = (Pp.row s.data.toList f a ps).bind fun r => Pp.alts s.data.toList f r.1 r.2.1 r.2.2) := by
    show _ = _
    rw [hR, Pp.alt]
    cases Pp.row s.data.toList f a ps <;> rfl
  clear h hr hM hR
  have hsl : s.data.toList.length = s.size := by simp
  go_enter Tryz.func108, Tryz.ntmps108
  go_wp2_with fail
  refine (HM.out f (Nat.le_refl _) a v ps _ HR0.out HP0.out hB ha hn (by omega)).mono ?_
  intro e w1 hpost
  obtain ⟨k1, rfl, hmid⟩ := Mid.of (F := Pp.alts s.data.toList) (c := 3) (f := f) (hpost.next (w := w) (FB.refl g B w) (show 61 + f ≤ 61 + (f + 1) by omega) rfl) (fun a' o k e1 h1 => by have := (Pp.bd s.data.toList f).row a ps a' o k (by omega) e1; omega)
  have hmid2 : Hid (Mid B g (61 + (f + 1)) s w w1 k1 R (Pp.alts s.data.toList) 3 f) := by
    show Mid B g (61 + (f + 1)) s w w1 k1 R (Pp.alts s.data.toList) 3 f
    rw [HR.out]
    exact hmid
  clear hmid hpost HR HR0 HP0
  go_wp2_with fail
  go_loopw [3] (fun k wr => Hid (Mid B g (61 + (f + 1)) s w wr k R (Pp.alts s.data.toList) 3 f)) (fun _ wr => leftOf g s wr)
  case atStart => exact hmid2.out
  case round =>
    clear hmid2
    obtain ⟨hfb, hm⟩ := hrel.out
    clear hrel
    have HFB : Hid (FB g B w wr) := hfb
    have hBr : B ≤ wr.heap.size := by have := hfb.1; omega
    clear hfb
    rcases hm with ⟨z, a', v', n', cs', rfl, ha', r', p', hn', hRn⟩ | ⟨j, a', fm, v', o, rfl, ha', r', p', ho, hRe, hfm, hfm2⟩
    · have HRN : Hid (R = none) := hRn
      have CB : Hid (Calls Tryz.prog 117 #[.pointer (some ⟨g, 0, none⟩), .int .u8 124] wr fun e w' => e = .returned (.bool false) ∧ ∃ k, w' = wr.drewN k) := isBad g a' 124 s v' wr r' ha' (by decide)
      clear hRn
      go_wp2_with fail
      refine CB.out.mono ?_
      rintro e w2 ⟨rfl, k2, rfl⟩
      go_wp2
      go_ret
      exact RdPost.bad (FB.draw HFB.out _) (Rd.draw r' _) p' (by omega) ha' HRN.out z
    · obtain ⟨fm, rfl⟩ : ∃ fm', fm = fm' + 1 := ⟨fm - 1, by omega⟩
      have HR' : Hid (Rd wr g s a' false v') := r'
      have HP' : Hid (RP B wr v' o) := p'
      have hpl : leftOf g s wr = s.size + 1 - a' := r'.left
      clear r' p'
      by_cases hst : ∃ hlt : a' < s.size, s[a'].toNat = 124
      · obtain ⟨hlt2, h124⟩ := hst
        have hgt : s.data.toList[a']? = some 124 := by rw [getAt s a' hlt2, show s[a'] = 124 from UInt8.toNat_inj.1 h124]
        have HRG : Hid (R = match Pp.row s.data.toList fm (a' + 1) o with
            | none => none
            | some (e, o, j2) => (Pp.put o ⟨6, [], [j, j2]⟩).bind fun r => Pp.alts s.data.toList fm e r.1 r.2) := by
          show _ = _
          rw [← hRe]
          exact alts_go _ fm a' o j hgt
        have CY : Hid (Calls Tryz.prog 117 #[.pointer (some ⟨g, 0, none⟩), .int .u8 124] wr fun e w' => e = .returned (.bool true) ∧ ∃ k, w' = wr.drewN k) := isYes g a' 124 s v' wr HR'.out hlt2 h124
        clear hRe h124 hgt
        go_wp2_with fail
        refine CY.out.mono ?_
        rintro e w2 ⟨rfl, k2, rfl⟩
        obtain ⟨c0, c1, c2, c3, f0, f1, f2, f3⟩ := cells4 (HR'.out.draw k2)
        clear CY
        go_wp2_with fail
        refine (HM.out fm (by omega) (a' + 1) v' o _ (Rd.at (Rd.draw HR'.out _) _ (a' + 1) (by omega)) (RP.setg (RP.draw HP'.out _) hg 1 _) (by simpa [World.setCell] using hBr) (by omega) ho (by omega)).mono ?_
        intro e w5 hpost
        obtain ⟨hfb5, hpost⟩ := hpost
        have HF5 : Hid (FB g B w w5) := (FB.setg (FB.draw HFB.out _) 1 _).trans hfb5
        have hB5 : B ≤ w5.heap.size := by have := hfb5.1; simp [World.setCell] at this; omega
        clear hfb5 HFB HR' HP' c0 c1 c2 c3 f0 f1 f2 f3
        cases hmr : Pp.row s.data.toList fm (a' + 1) o with
        | none =>
          rw [hmr] at hpost
          obtain ⟨z, a5, v5, n5, cs5, rfl, ha5, r5, p5, hn5⟩ := hpost
          have HRN : Hid (R = none) := by show _ = _; rw [HRG.out, hmr]
          clear HRG hmr
          go_wp2_with fail
          have hb6 : ∀ o : Obj, Below w5.heap.size w5 (w5.alloc o) := fun o => (Below.refl _ _).alloc (Nat.le_refl _) _
          refine (rdPutBad B g a5 6 n5 s _ v5 cs5 _ _ _ _ (Rd.up r5 (hb6 _)) (PR.keep p5 fun q e => (hb6 _).block q (World.ownsRow.lt p5 q e).2) hg (by simp; omega) (by omega)).mono ?_
          rintro e w6 ⟨rfl, hf6, v6, cs6, r6, p6⟩
          have hl6 : leftOf g s w6 = 0 := r6.left0
          have HMID : Hid (Mid B g (61 + (f + 1)) s w w6 (.int .i64 (n5 : Int)) R (Pp.alts s.data.toList) 3 f) := ⟨(HF5.out.trans (FB.of ((hb6 _).mono hB5))).trans hf6, .inl ⟨_, a5, v6, _, cs6, rfl, ha5, r6, p6, by omega, HRN.out⟩⟩
          clear hb6 r6 p6 hf6 r5 p5
          go_wp2_with fail
          go_roundw
          case rel => exact HMID.out
          case measure => omega
        | some r =>
          obtain ⟨e5, o5, k5⟩ := r
          rw [hmr] at hpost
          have hlt5 := ((Pp.bd s.data.toList fm).row (a' + 1) o e5 o5 k5 (by omega) hmr).1
          obtain ⟨rfl, ha5, ho5, v5, r5, p5⟩ := hpost
          have HRP : Hid (R = (Pp.put o5 ⟨6, [], [j, k5]⟩).bind fun r => Pp.alts s.data.toList fm e5 r.1 r.2) := by show _ = _; rw [HRG.out, hmr]
          clear HRG hmr
          have HR5 : Hid (Rd w5 g s e5 false v5) := r5
          have HP5 : Hid (RP B w5 v5 o5) := p5
          clear r5 p5
          go_wp2_with fail
          refine (rdPut2 B g e5 6 j k5 _ _ _ s v5 o5 _ HR5.out HP5.out hg hB5 ha5 ho5 rfl rfl rfl).mono ?_
          intro e w6 hpost
          have hlf := hpost.left put_at
          obtain ⟨k6, rfl, hmid⟩ := Mid.put (N := 61 + (f + 1)) (c := 3) (f := f) (F := Pp.alts s.data.toList) HF5.out hpost HRP.out (by omega) (by omega) (by omega)
          have HMID : Hid (Mid B g (61 + (f + 1)) s w w6 k6 R (Pp.alts s.data.toList) 3 f) := hmid
          clear hmid hpost
          go_wp2_with fail
          go_roundw
          case rel => exact HMID.out
          case measure => omega
      · have HRS : Hid (R = some (a', o, j)) := by
          show _ = _
          rw [← hRe]
          refine alts_end _ fm a' o j ?_
          intro e
          have hlt : a' < s.size := by
            have := (List.getElem?_eq_some_iff.1 e).1
            simpa using this
          refine hst ⟨hlt, ?_⟩
          rw [getAt s a' hlt] at e
          rw [show s[a'] = 124 by simpa using e]
          rfl
        have CN : Hid (Calls Tryz.prog 117 #[.pointer (some ⟨g, 0, none⟩), .int .u8 124] wr fun e w' => e = .returned (.bool false) ∧ ∃ k, w' = wr.drewN k) := isNo g a' 124 s v' wr HR'.out ha' (by decide) (fun hlt e => hst ⟨hlt, e⟩)
        clear hRe hst
        go_wp2_with fail
        refine CN.out.mono ?_
        rintro e w2 ⟨rfl, k2, rfl⟩
        go_wp2
        go_ret
        rw [HRS.out]
        exact ⟨FB.draw HFB.out _, rfl, ha', ho, v', Rd.draw HR'.out _, RP.draw HP'.out _⟩

set_option maxRecDepth 100000 in
/-- All of it, however deep it goes. -/
theorem rdAll (B g : Nat) (s : ByteArray) (hg : g < B) (hs : s.size ≤ 24) : ∀ f, f ≤ 200 → RdC B g s 108 (Pp.alt s.data.toList) 4 f := by
  intro f
  induction f using Nat.strongRecOn with
  | _ f ih =>
    intro hf
    have hT : ∀ f', f' < f → ∀ (a : Nat) (v : Value) (ps : List Pp.Pc) (w : World), Rd w g s a false v → RP B w v ps → B ≤ w.heap.size → a < s.size → ps.length ≤ 60 → 4 * (s.size - a) + 1 ≤ f' →
        Calls Tryz.prog 130 #[.pointer (some ⟨g, 0, none⟩)] w (RdPost B g s w (61 + f') (Pp.thing s.data.toList f' a ps)) := by
      intro f' hf' a v ps w h1 h2 h3 h4 h5 h6
      obtain ⟨f'', rfl⟩ : ∃ f'', f' = f'' + 1 := ⟨f' - 1, by omega⟩
      exact rdThing B g s f'' hg hs (ih f'' (by omega) (by omega)) a v ps w h1 h2 h3 h4 h5 h6
    have hMany : ∀ f', f' < f → ManyC B g s f' := by
      intro f' hf' a v ps w h1 h2 h3 h4 h5 h6
      obtain ⟨f'', rfl⟩ : ∃ f'', f' = f'' + 1 := ⟨f' - 1, by omega⟩
      exact rdMany B g s f'' hg hs a ps w (hT f'' (by omega) a v ps w h1 h2 h3 h4 h5 (by omega)) h3 h4 h6 (fun a' o k e => ((Pp.bd s.data.toList f'').thing a ps a' o k e).1)
    have hRow : ∀ f', f' < f → RdC B g s 116 (Pp.row s.data.toList) 3 f' := by
      intro f' hf'
      cases f' with
      | zero => intro a v ps w h1 h2 h3 h4 h5 h6; omega
      | succ f'' => exact rdRow B g s f'' hg hs (by omega) (fun f3 h3 => hMany f3 (by omega))
    cases f with
    | zero => intro a v ps w h1 h2 h3 h4 h5 h6; omega
    | succ f' => exact rdAlt B g s f' hg hs (by omega) (fun f3 h3 => hRow f3 (by omega))
end PartRdJ
section PartRdK
open Go.RowKit

set_option maxRecDepth 100000 in
set_option maxHeartbeats 400000 in
theorem in_text (n : Nat) (w : World) : Calls Tryz.prog 49 #[.int .i64 (n : Int), .int .i64 1, .int .i64 24] w fun e w' => e = .returned (.bool (decide (1 ≤ n ∧ n ≤ 24))) ∧ w' = w := by
  by_cases h0 : 1 ≤ n
  · have d1 : decide ((1 : Int) ≤ (n : Int)) = true := decide_eq_true (by omega)
    have e : decide (1 ≤ n ∧ n ≤ 24) = decide ((n : Int) ≤ 24) := by
      by_cases h : n ≤ 24
      · rw [decide_eq_true (show (n : Int) ≤ 24 by omega), decide_eq_true ⟨h0, h⟩]
      · rw [decide_eq_false (show ¬ (n : Int) ≤ 24 by omega), decide_eq_false (by omega)]
    rw [e]
    go_enter Tryz.func49, Tryz.ntmps49
    go_wp2
    go_ret
    exact ⟨rfl, rfl⟩
  · have d1 : decide ((1 : Int) ≤ (n : Int)) = false := decide_eq_false (by omega)
    rw [decide_eq_false (by omega)]
    go_enter Tryz.func49, Tryz.ntmps49
    go_wp2
    go_ret
    exact ⟨rfl, rfl⟩

/-- What a reader answers: its pieces and true, or nothing and false. -/
def Answer (w' : World) (B : Nat) (R : Option (List Pp.Pc)) (e : Ending) : Prop :=
  match R with
  | none => e = .returned (.tuple #[.agg #[.slice none 0 0], .bool false])
  | some ps => ∃ v, e = .returned (.tuple #[.agg #[v], .bool true]) ∧ RP B w' v ps ∧ 0 < ps.length ∧ ps.length ≤ 60

set_option maxRecDepth 100000 in
theorem res_pat {fn : Func} {p u : Tmp} (h : fn.results = #[.cell p 142, .tmp u]) (tmps : Array Value) (w : World) (g : Nat) (v : Value) (hp : tmps.getD p undef = .pointer (some ⟨g, 0, none⟩)) (hg : w.heap[g]? = some (.cells #[v] 142 (0, 0))) :
    (results fn tmps).run Tryz.prog w = .ok (.tuple #[.agg #[v], tmps.getD u undef]) w := by
  rw [results_cell_tmp h, hp]
  simp only [asAddr, Sem.run_pure, Result.andThen_ok, run_loadVar_row w g 142 142 #[v] (0, 0) _ hg Tryz.underlying142 rfl (by kernel_rfl)]
theorem alloc2_1 (w : World) (A B : Obj) : ((w.alloc A).alloc B).heap[w.heap.size + 1]? = some B := by
  show ((w.heap.push A).push B)[w.heap.size + 1]? = some B
  rw [Array.getElem?_push]
  simp
theorem alloc2_0 (w : World) (A B : Obj) : ((w.alloc A).alloc B).heap[w.heap.size]? = some A := by
  show ((w.heap.push A).push B)[w.heap.size]? = some A
  rw [Array.getElem?_push, if_neg (by simp), Array.getElem?_push]
  simp
theorem RP.form {B : Nat} {w : World} {v : Value} {ps : List Pp.Pc} (h : RP B w v ps) : ∃ ad n c, v = .slice ad n c := by
  obtain ⟨_, cs, hp, _⟩ := h
  rcases hp.2 with ⟨rfl, _⟩ | ⟨g, cap, cur, rfl, _⟩
  · exact ⟨_, _, _, rfl⟩
  · exact ⟨_, _, _, rfl⟩
theorem RP.lower {B B' : Nat} {w : World} {v : Value} {ps : List Pp.Pc} (h : RP B w v ps) (hB : B' ≤ B) : RP B' w v ps := by
  obtain ⟨Q, cs, hp, hc, hm⟩ := h
  refine ⟨Q, cs, ?_, fun i hi => ?_, hm⟩
  · refine ⟨hp.1, ?_⟩
    rcases hp.2 with hn | ⟨g, cap, cur, rfl, h1, rest⟩
    · exact .inl hn
    · exact .inr ⟨g, cap, cur, rfl, by omega, rest⟩
  · obtain ⟨h1, h2, h3, h4⟩ := hc i hi
    refine ⟨h1, h2, h3, fun hne => ?_⟩
    obtain ⟨k1, k2, k3⟩ := h4 hne
    exact ⟨by omega, k2, k3⟩
theorem FB.below {g B C : Nat} {w w' : World} (h : FB g B w w') (hC : C ≤ B) (hg : C ≤ g) : Below C w w' := ⟨h.2.2.1, h.2.2.2.1, h.2.2.2.2, h.1, fun k hk => h.2.1 k (by omega) (by omega)⟩

set_option maxHeartbeats 2000000 in
set_option maxRecDepth 100000 in
theorem specRead_any (s : ByteArray) (w : World) (hs : s.size ≤ 1048576) :
    Calls Tryz.prog 97 #[.string s] w fun e w' => Below w.heap.size w w' ∧ Answer w' w.heap.size (Pp.read s.data.toList) e := by
  have hsl : s.data.toList.length = s.size := by simp
  by_cases hin : 1 ≤ s.size ∧ s.size ≤ 24
  · have CL : Hid (∀ w' : World, Calls Tryz.prog 49 #[.int .i64 (s.size : Int), .int .i64 1, .int .i64 24] w' fun e w'' => e = .returned (.bool true) ∧ w'' = w') := by
      intro w'
      have := in_text s.size w'
      rwa [decide_eq_true hin] at this
    obtain ⟨R, hR⟩ : ∃ R, R = Pp.read s.data.toList := ⟨_, rfl⟩
    have HR : Hid (R = match Pp.alt s.data.toList 200 0 [] with
        | none => none
        | some (e, o, _) => if e < s.size then none else some o) := by
      show _ = _
      rw [hR, Pp.read, hsl, if_pos hin]
      rfl
    rw [← hR]
    clear hR
    have HA := rdAll (w.heap.size + 2) (w.heap.size + 1) s (by omega) hin.2 200 (Nat.le_refl _) 0 (.slice none 0 0) [] 
    have CA : Hid (∀ w1 : World, Rd w1 (w.heap.size + 1) s 0 false (.slice none 0 0) → w.heap.size + 2 ≤ w1.heap.size → Calls Tryz.prog 108 #[.pointer (some ⟨w.heap.size + 1, 0, none⟩)] w1 (RdPost (w.heap.size + 2) (w.heap.size + 1) s w1 261 (Pp.alt s.data.toList 200 0 []))) :=
      fun w1 h1 h2 => HA w1 h1 ⟨fun _ => 0, [], World.ownsRow_nil _ _ _ _, fun i hi => by simp at hi, fun i j _ hj => by simp at hj⟩ h2 (by omega) (by simp) (by omega)
    clear HA
    go_enter Tryz.func97, Tryz.ntmps97
    go_wp2_with fail
    refine (CL.out _).mono ?_
    rintro e w1 ⟨rfl, rfl⟩
    go_wp2_with fail
    refine (CA.out _ (alloc2_1 _ _ _) (by simp)).mono ?_
    intro e w5 hpost
    clear CA CL
    obtain ⟨hfb, hpost⟩ := hpost
    have B5 : Below w.heap.size w w5 := (((Below.refl _ _).alloc (Nat.le_refl _) _).alloc (by simp) _).trans (hfb.below (by omega) (by omega))
    have r0 := hfb.2.1 w.heap.size (by omega) (by omega)
    rw [alloc2_0] at r0
    have hsz5 : w.heap.size + 2 ≤ w5.heap.size := by have := hfb.1; simp at this; omega
    clear hfb
    cases hA : Pp.alt s.data.toList 200 0 [] with
    | none =>
      rw [hA] at hpost
      obtain ⟨k, a', v', n', cs', rfl, ha', r', p', hn'⟩ := hpost
      have HRN : Hid (R = none) := by show _ = _; rw [HR.out, hA]
      clear HR hA
      obtain ⟨c0, c1, c2, c3, f0, f1, f2, f3⟩ := cells4 r'
      have x0 := blk_cell r0 0
      have y0 := blk_free r0 0
      simp at x0
      go_wp2_with fail
      refine bodyPost_ret (res_pat rfl _ _ w.heap.size (.slice none 0 0) rfl (blk_set r0 0 (.slice none 0 0))) rfl ?_
      rw [HRN.out]
      exact ⟨B5.setCell (by exact Nat.le_refl _) _, rfl⟩
    | some r =>
      obtain ⟨e5, o5, k5⟩ := r
      rw [hA] at hpost
      obtain ⟨rfl, ha', ho, v', r', p'⟩ := hpost
      obtain ⟨c0, c1, c2, c3, f0, f1, f2, f3⟩ := cells4 r'
      have x0 := blk_cell r0 0
      have y0 := blk_free r0 0
      simp at x0
      by_cases hend : e5 < s.size
      · have HRN : Hid (R = none) := by show _ = _; rw [HR.out, hA]; simp only [hend, ↓reduceIte]
        have dl : decide ((e5 : Int) < (s.size : Int)) = true := decide_eq_true (by omega)
        clear HR hA
        go_wp2_with fail
        refine bodyPost_ret (res_pat rfl _ _ w.heap.size (.slice none 0 0) rfl (blk_set r0 0 (.slice none 0 0))) rfl ?_
        rw [HRN.out]
        exact ⟨B5.setCell (by exact Nat.le_refl _) _, rfl⟩
      · have HRS : Hid (R = some o5) := by show _ = _; rw [HR.out, hA]; simp only [hend, ↓reduceIte]
        have dl : decide ((e5 : Int) < (s.size : Int)) = false := decide_eq_false (by omega)
        have hpos : 0 < o5.length := Pp.alt_pos _ _ _ _ _ _ _ hA
        obtain ⟨ad, nn, cc, rfl⟩ := p'.form
        have HP' : Hid (RP (w.heap.size + 2) w5 (.slice ad nn cc) o5) := p'
        clear HR hA p'
        go_wp2_with fail
        refine bodyPost_ret (res_pat rfl _ _ w.heap.size (.slice ad nn cc) rfl (blk_set r0 0 (.slice ad nn cc))) rfl ?_
        rw [HRS.out]
        refine ⟨B5.setCell (by exact Nat.le_refl _) _, _, rfl, ?_, hpos, ho⟩
        exact RP.lower (RP.setg HP'.out (by omega) 0 _) (by omega)
  · have CL : Hid (∀ w' : World, Calls Tryz.prog 49 #[.int .i64 (s.size : Int), .int .i64 1, .int .i64 24] w' fun e w'' => e = .returned (.bool false) ∧ w'' = w') := by
      intro w'
      have := in_text s.size w'
      rwa [decide_eq_false hin] at this
    have HR : Hid (Pp.read s.data.toList = none) := by show _ = _; rw [Pp.read, hsl, if_neg hin]
    go_enter Tryz.func97, Tryz.ntmps97
    go_wp2_with fail
    refine (CL.out _).mono ?_
    rintro e w1 ⟨rfl, rfl⟩
    go_wp2_with fail
    refine bodyPost_ret (res_pat rfl _ _ w.heap.size (.slice none 0 0) rfl (heap_alloc_new _ _)) rfl ?_
    rw [HR.out]
    exact ⟨(Below.refl _ _).alloc (Nat.le_refl _) _, rfl⟩
end PartRdK
section PartCoC
open Go.RowKit

theorem alloc3_0c (w : World) (A B C : Obj) : (((w.alloc A).alloc B).alloc C).heap[w.heap.size]? = some A := by
  show (((w.heap.push A).push B).push C)[w.heap.size]? = some A
  rw [Array.getElem?_push, if_neg (by simp; omega), Array.getElem?_push, if_neg (by simp), Array.getElem?_push]
  simp

set_option maxHeartbeats 800000 in
theorem szCode_any (v rv : Value) (bg ln en : Int) (ts : List ByteArray) (xs : List Ins) (l : Int) (w : World) (h : TsAt w v ts) (hr : InsAt w rv xs) (hl0 : 0 ≤ l) (hl : l ≤ 1048576) (hf : ts.length ≤ maxLen) (hf2 : ∀ i, i < ts.length → (ts.getD i ByteArray.empty).size ≤ maxLen) (hfr : xs.length ≤ maxLen) :
    Calls Tryz.prog 14 #[.agg #[v, rv, .int .i64 bg, .int .i64 ln, .int .i64 en], .int .i64 l] w fun e w' => Below w.heap.size w w' ∧ ∃ r : Int, e = .returned (.int .i64 r) ∧ (r = -1 ∨ 0 ≤ r ∧ r ≤ l ∧ ts.length ≤ 1048576 ∧ TsSmall ts ts.length ∧ xs.length ≤ 1048576) := by
  have HB : Hid (Below w.heap.size w (w.alloc (.cells #[v, rv, .int .i64 bg, .int .i64 ln, .int .i64 en] 25))) := (Below.refl _ _).alloc (Nat.le_refl _) _
  have CC : Hid (∀ W, Below w.heap.size w W → Calls Tryz.prog 16 #[v, .int .i64 l] W fun e w' => Below W.heap.size W w' ∧ ∃ r : Int, e = .returned (.int .i64 r) ∧ (r = -1 ∨ 0 ≤ r ∧ r ≤ l ∧ ts.length ≤ 1048576 ∧ TsSmall ts ts.length)) :=
    fun W hb => szTs_any v ts l _ (h.keep hb) hl0 hl hf hf2
  have CR : Hid (∀ W (r : Int), Below w.heap.size w W → 0 ≤ r → r ≤ l → Calls Tryz.prog 45 #[rv, .int .i64 r] W fun e w' => w' = W ∧ ∃ r' : Int, e = .returned (.int .i64 r') ∧ (r' = -1 ∨ 0 ≤ r' ∧ r' ≤ r ∧ xs.length ≤ 1048576)) :=
    fun W r hb h0 h1 => szInss_any rv xs r W (hr.keep hb) h0 (by omega) hfr
  obtain ⟨ad, c, rfl, _⟩ := h
  obtain ⟨ra, rc, rfl, _⟩ := hr
  go_enter Tryz.func14, Tryz.ntmps14
  go_wp2_with fail
  refine (CC.out _ HB.out).mono ?_
  rintro e w1 ⟨hb1, r1, rfl, hr⟩
  have hb2 := HB.out.trans (hb1.mono (by simp))
  have c1 : w1.cell? ⟨w.heap.size, 1, none⟩ = some (.slice ra xs.length rc) := (hb1.cell (by simp)).trans (by simp)
  rcases hr with rfl | ⟨h3, h4, h5⟩
  · go_wp2
    go_ret
    exact ⟨hb2, -1, rfl, .inl rfl⟩
  · have d2 : decide (r1 < 0) = false := by simp; omega
    have H5 : Hid (ts.length ≤ 1048576 ∧ TsSmall ts ts.length) := h5
    clear h5 hb1
    go_wp2_with fail
    refine (CR.out _ _ hb2 h3 h4).mono ?_
    rintro e w2 ⟨rfl, r2, rfl, hr⟩
    rcases hr with rfl | ⟨h6, h7, h8⟩
    · go_wp2
      go_ret
      exact ⟨hb2, -1, rfl, .inl rfl⟩
    · have d3 : decide (r2 < 0) = false := by simp; omega
      go_wp2
      go_ret
      exact ⟨hb2, _, rfl, .inr ⟨h6, by omega, H5.out.1, H5.out.2, h8⟩⟩

set_option maxHeartbeats 800000 in
theorem eqCode_any (v1 r1 v2 r2 : Value) (bg ln en : Int) (ts : List ByteArray) (xs : List Ins) (w : World) (h1 : TsAt w v1 ts) (g1 : InsAt w r1 xs) (h2 : TsAt w v2 ts) (g2 : InsAt w r2 xs) (hl : ts.length ≤ 1048576) (hlr : xs.length ≤ 1048576) :
    Calls Tryz.prog 26 #[.agg #[v1, r1, .int .i64 bg, .int .i64 ln, .int .i64 en], .agg #[v2, r2, .int .i64 bg, .int .i64 ln, .int .i64 en]] w fun e w' => e = .returned (.bool true) ∧ Below w.heap.size w w' := by
  have CC : Hid (∀ w', Below w.heap.size w w' → Calls Tryz.prog 28 #[v1, v2] w' fun e w'' => e = .returned (.bool true) ∧ Below w'.heap.size w' w'') := fun w' hb => eqTs_any v1 v2 ts w' (h1.keep hb) (h2.keep hb) hl
  have CR : Hid (∀ w', Below w.heap.size w w' → Calls Tryz.prog 61 #[r1, r2] w' fun e w'' => e = .returned (.bool true) ∧ Below w'.heap.size w' w'') := fun w' hb => eqInss_any r1 r2 xs w' (g1.keep hb) (g2.keep hb) hlr
  obtain ⟨a1, c1, rfl, -⟩ := h1
  obtain ⟨a2, c2, rfl, -⟩ := h2
  obtain ⟨d1, e1, rfl, -⟩ := g1
  obtain ⟨d2, e2, rfl, -⟩ := g2
  have q1 : (bg != bg) = false := by simp
  have q2 : (ln != ln) = false := by simp
  have q3 : (en != en) = false := by simp
  have HB : Hid (Below w.heap.size w ((w.alloc (.cells #[.slice a1 ts.length c1, .slice d1 xs.length e1, .int .i64 bg, .int .i64 ln, .int .i64 en] 36)).alloc (.cells #[.slice a2 ts.length c2, .slice d2 xs.length e2, .int .i64 bg, .int .i64 ln, .int .i64 en] 36))) := ((Below.refl _ _).alloc (Nat.le_refl _) _).alloc (by simp) _
  have R0 := alloc2_0 w (.cells #[.slice a1 ts.length c1, .slice d1 xs.length e1, .int .i64 bg, .int .i64 ln, .int .i64 en] 36) (.cells #[.slice a2 ts.length c2, .slice d2 xs.length e2, .int .i64 bg, .int .i64 ln, .int .i64 en] 36)
  have R1 := alloc2_1 w (.cells #[.slice a1 ts.length c1, .slice d1 xs.length e1, .int .i64 bg, .int .i64 ln, .int .i64 en] 36) (.cells #[.slice a2 ts.length c2, .slice d2 xs.length e2, .int .i64 bg, .int .i64 ln, .int .i64 en] 36)
  have hz : w.heap.size + 2 ≤ ((w.alloc (.cells #[.slice a1 ts.length c1, .slice d1 xs.length e1, .int .i64 bg, .int .i64 ln, .int .i64 en] 36)).alloc (.cells #[.slice a2 ts.length c2, .slice d2 xs.length e2, .int .i64 bg, .int .i64 ln, .int .i64 en] 36)).heap.size := by simp
  have HR : Hid _ := And.intro R0 R1
  clear R0 R1
  go_enter Tryz.func26, Tryz.ntmps26
  go_wp2_with fail
  generalize (w.alloc (.cells #[.slice a1 ts.length c1, .slice d1 xs.length e1, .int .i64 bg, .int .i64 ln, .int .i64 en] 36)).alloc (.cells #[.slice a2 ts.length c2, .slice d2 xs.length e2, .int .i64 bg, .int .i64 ln, .int .i64 en] 36) = W at *
  refine (CC.out _ HB.out).mono ?_
  rintro e w1 ⟨rfl, hb1⟩
  have x1 := blk_cell ((hb1.block w.heap.size (by omega)).trans HR.out.1) 1
  have x2 := blk_cell ((hb1.block (w.heap.size + 1) (by omega)).trans HR.out.2) 1
  simp only [List.getElem?_toArray, List.getElem?_cons_zero, List.getElem?_cons_succ] at x1 x2
  have HB1 : Hid (Below w.heap.size w w1) := HB.out.trans (hb1.mono HB.out.size)
  have HW1 : Hid (Below W.heap.size W w1) := hb1
  clear hb1 CC
  go_wp2_with fail
  refine (CR.out _ HB1.out).mono ?_
  rintro e w2 ⟨rfl, hb2⟩
  have HW2 : Hid (Below W.heap.size W w2) := HW1.out.trans (hb2.mono HW1.out.size)
  have R0 := (HW2.out.block w.heap.size (by omega)).trans HR.out.1
  have R1 := (HW2.out.block (w.heap.size + 1) (by omega)).trans HR.out.2
  have y2 := blk_cell R0 2
  have y3 := blk_cell R0 3
  have y4 := blk_cell R0 4
  have z2 := blk_cell R1 2
  have z3 := blk_cell R1 3
  have z4 := blk_cell R1 4
  simp only [List.getElem?_toArray, List.getElem?_cons_zero, List.getElem?_cons_succ] at y2 y3 y4 z2 z3 z4
  have HB2 : Hid (Below w.heap.size w w2) := HB1.out.trans (hb2.mono HB1.out.size)
  clear hb2 CR x1 x2 R0 R1 HW1 HW2 HR
  go_wp2
  go_ret
  exact ⟨rfl, HB2.out⟩

/-- The law's own copy of code. -/
def CodeCopy (w : World) (v : Value) (B : Nat) (ts : List ByteArray) (xs : List Ins) (bg ln en : Int) : Prop := ∃ g h, v = .agg #[.slice (some ⟨g, 0, none⟩) ts.length ts.length, .slice (some ⟨h, 0, none⟩) xs.length xs.length, .int .i64 bg, .int .i64 ln, .int .i64 en] ∧ B ≤ g ∧ B ≤ h ∧ TsBlk w g ts ∧ InsCopy w h xs.length xs xs.length

set_option maxRecDepth 100000 in
set_option maxHeartbeats 4000000 in
theorem toCode_any (v rv : Value) (bg ln en : Int) (ts : List ByteArray) (xs : List Ins) (w : World) (h : TsAt w v ts) (hr : InsAt w rv xs) (hk : ts.length ≤ 1048576) (hkr : xs.length ≤ 1048576) :
    Calls Tryz.prog 20 #[.agg #[v, rv, .int .i64 bg, .int .i64 ln, .int .i64 en]] w fun e w' => ∃ u, e = .returned u ∧ Below w.heap.size w w' ∧ CodeCopy w' u w.heap.size ts xs bg ln en := by
  have CC : Hid (∀ w' : World, Below w.heap.size w w' → Calls Tryz.prog 22 #[v] w' fun e w'' => e = .returned (.slice (some ⟨w'.heap.size, 0, none⟩) ts.length ts.length) ∧ Below w'.heap.size w' w'' ∧ TsBlk w'' w'.heap.size ts) :=
    fun w' hb => toTs_any v ts w' (h.keep hb) hk
  have CR : Hid (∀ w' : World, Below w.heap.size w w' → Calls Tryz.prog 52 #[rv] w' fun e w'' => e = .returned (.slice (some ⟨w'.heap.size, 0, none⟩) xs.length xs.length) ∧ Below w'.heap.size w' w'' ∧ InsCopy w'' w'.heap.size xs.length xs xs.length) :=
    fun w' hb => toInss_any rv xs w' (hr.keep hb) hkr
  obtain ⟨ad, c, rfl, _⟩ := h
  obtain ⟨ra, rc, rfl, _⟩ := hr
  go_enter Tryz.func20, Tryz.ntmps20
  go_wp2_with fail
  refine (CC.out _ ((((Below.refl _ _).alloc (Nat.le_refl _) _).alloc (by simp) _).alloc (by simp; omega) _)).mono ?_
  rintro e w1 ⟨rfl, hb1, hk1⟩
  have R3 := hb1.block (w.heap.size + 1 + 1) (by simp)
  have R2 := hb1.block (w.heap.size + 1) (by simp)
  have R1 := hb1.block w.heap.size (by simp; omega)
  rw [alloc3_2] at R3
  rw [alloc3_1] at R2
  rw [alloc3_0c] at R1
  have HB1 : Hid (Below w.heap.size w w1) := ((((Below.refl _ _).alloc (Nat.le_refl _) _).alloc (by simp) _).alloc (by simp; omega) _).trans (hb1.mono (by simp; omega))
  have hs1 : w.heap.size + 1 + 1 + 1 ≤ w1.heap.size := by have := hb1.size; simpa using this
  simp only [World.size_alloc] at hk1
  have HK1 : Hid _ := hk1
  clear hk1 hb1 CC
  have c3 := blk_cell R3 0
  have f3 := blk_free R3 0
  have S3 := blk_set R3 0 (.slice (some ⟨w.heap.size + 1 + 1 + 1, 0, none⟩) ts.length ts.length)
  have S2 := (Below.heap_setCell w1 ⟨w.heap.size + 1 + 1, 0, none⟩ (.slice (some ⟨w.heap.size + 1 + 1 + 1, 0, none⟩) ts.length ts.length) (w.heap.size + 1) (by simp)).trans R2
  have S1 := (Below.heap_setCell w1 ⟨w.heap.size + 1 + 1, 0, none⟩ (.slice (some ⟨w.heap.size + 1 + 1 + 1, 0, none⟩) ts.length ts.length) w.heap.size (by simp; omega)).trans R1
  have a1 := blk_cell S1 1
  simp at c3 a1
  have HS3 : Hid _ := S3
  have HS2 : Hid _ := S2
  have HS1 : Hid _ := S1
  have HB2 : Hid (Below w.heap.size w (w1.setCell ⟨w.heap.size + 1 + 1, 0, none⟩ (.slice (some ⟨w.heap.size + 1 + 1 + 1, 0, none⟩) ts.length ts.length))) := HB1.out.setCell (by show _ ≤ w.heap.size + 1 + 1; omega) _
  have HK2 : Hid (TsBlk (w1.setCell ⟨w.heap.size + 1 + 1, 0, none⟩ (.slice (some ⟨w.heap.size + 1 + 1 + 1, 0, none⟩) ts.length ts.length)) (w.heap.size + 1 + 1 + 1) ts) := TsBlk.setFar HK1.out _ _ (by show w.heap.size + 1 + 1 < _; omega)
  have hs2 : w.heap.size + 1 + 1 + 1 ≤ (w1.setCell ⟨w.heap.size + 1 + 1, 0, none⟩ (.slice (some ⟨w.heap.size + 1 + 1 + 1, 0, none⟩) ts.length ts.length)).heap.size := by simpa [World.setCell] using hs1
  clear S1 S2 S3 R1 R2 R3
  go_wp2_with fail
  refine (CR.out _ HB2.out).mono ?_
  generalize w1.setCell ⟨w.heap.size + 1 + 1, 0, none⟩ (.slice (some ⟨w.heap.size + 1 + 1 + 1, 0, none⟩) ts.length ts.length) = w2 at *
  rintro e w3 ⟨rfl, hb3, hk3⟩
  have R3 := (hb3.block (w.heap.size + 1 + 1) (by omega)).trans HS3.out
  have R2 := (hb3.block (w.heap.size + 1) (by omega)).trans HS2.out
  have R1 := (hb3.block w.heap.size (by omega)).trans HS1.out
  have HB3 : Hid (Below w.heap.size w w3) := HB2.out.trans (hb3.mono (by omega))
  have HN3 : Hid (TsBlk w3 (w.heap.size + 1 + 1 + 1) ts) := HK2.out.keep hb3
  have HR3 : Hid (InsCopy w3 w2.heap.size xs.length xs xs.length) := hk3
  clear hk3 hb3 HK2 HS3 HS2 HS1 HB2 HK1 HB1 CR c3 f3 a1
  obtain ⟨G, hG⟩ : ∃ G, G = w2.heap.size := ⟨_, rfl⟩
  rw [← hG] at HR3 hs2 ⊢
  clear hG
  simp only [List.setIfInBounds_toArray, List.set_cons_zero] at R3
  have d0 := blk_cell R3 0
  have d1 := blk_cell R3 1
  have d2 := blk_cell R3 2
  have d3 := blk_cell R3 3
  have d4 := blk_cell R3 4
  have f1 := blk_free R3 1
  have f2 := blk_free R3 2
  have f3 := blk_free R3 3
  have f4 := blk_free R3 4
  have a2 := blk_cell R1 2
  have a3 := blk_cell R1 3
  have a4 := blk_cell R1 4
  have b0 := blk_cell R2 0
  have b1 := blk_cell R2 1
  have b2 := blk_cell R2 2
  have b3 := blk_cell R2 3
  have b4 := blk_cell R2 4
  have g0 := blk_free R2 0
  have g1 := blk_free R2 1
  have g2 := blk_free R2 2
  have g3 := blk_free R2 3
  have g4 := blk_free R2 4
  simp only [List.getElem?_toArray, List.getElem?_cons_zero, List.getElem?_cons_succ] at d0 d1 d2 d3 d4 a2 a3 a4 b0 b1 b2 b3 b4
  have HT2 : Hid _ := R2
  clear R1 R2 R3
  go_wp2_with fail
  have K : ∀ (W : World) (j : Nat) (u : Value) {X : Option Obj}, W.heap[w.heap.size + 1]? = X → (W.setCell ⟨w.heap.size + 1 + 1, j, none⟩ u).heap[w.heap.size + 1]? = X := fun W j u X e => (Below.heap_setCell _ _ _ _ (by show w.heap.size + 1 ≠ w.heap.size + 1 + 1; omega)).trans e
  have Q := blk_set (blk_set (blk_set (blk_set (blk_set (K _ 4 (.int .i64 en) (K _ 3 (.int .i64 ln) (K _ 2 (.int .i64 bg) (K _ 1 (.slice (some ⟨G, 0, none⟩) xs.length xs.length) HT2.out)))) 0 (.slice (some ⟨w.heap.size + 1 + 1 + 1, 0, none⟩) ts.length ts.length)) 1 (.slice (some ⟨G, 0, none⟩) xs.length xs.length)) 2 (.int .i64 bg)) 3 (.int .i64 ln)) 4 (.int .i64 en)
  refine bodyPost_ret (results_cell_row (p := 2) (ty := 36) rfl _ _ (w.heap.size + 1) 36 _ (0, 0) _ rfl Q Tryz.underlying36 rfl (by kernel_rfl)) rfl ?_
  refine ⟨_, rfl, ?_, w.heap.size + 1 + 1 + 1, G, rfl, by omega, by omega, ?_, ?_⟩
  · exact (((((((((HB3.out.setCell (by show _ ≤ w.heap.size + 1 + 1; omega) _).setCell (by show _ ≤ w.heap.size + 1 + 1; omega) _).setCell (by show _ ≤ w.heap.size + 1 + 1; omega) _).setCell (by show _ ≤ w.heap.size + 1 + 1; omega) _).setCell (by show _ ≤ w.heap.size + 1; omega) _).setCell (by show _ ≤ w.heap.size + 1; omega) _).setCell (by show _ ≤ w.heap.size + 1; omega) _).setCell (by show _ ≤ w.heap.size + 1; omega) _).setCell (by show _ ≤ w.heap.size + 1; omega) _)
  · exact (((((((((HN3.out.setFar _ _ (by show w.heap.size + 1 + 1 < _; omega)).setFar _ _ (by show w.heap.size + 1 + 1 < _; omega)).setFar _ _ (by show w.heap.size + 1 + 1 < _; omega)).setFar _ _ (by show w.heap.size + 1 + 1 < _; omega)).setFar _ _ (by show w.heap.size + 1 < _; omega)).setFar _ _ (by show w.heap.size + 1 < _; omega)).setFar _ _ (by show w.heap.size + 1 < _; omega)).setFar _ _ (by show w.heap.size + 1 < _; omega)).setFar _ _ (by show w.heap.size + 1 < _; omega))
  · exact (((((((((HR3.out.setFar _ _ (by show w.heap.size + 1 + 1 < _; omega)).setFar _ _ (by show w.heap.size + 1 + 1 < _; omega)).setFar _ _ (by show w.heap.size + 1 + 1 < _; omega)).setFar _ _ (by show w.heap.size + 1 + 1 < _; omega)).setFar _ _ (by show w.heap.size + 1 < _; omega)).setFar _ _ (by show w.heap.size + 1 < _; omega)).setFar _ _ (by show w.heap.size + 1 < _; omega)).setFar _ _ (by show w.heap.size + 1 < _; omega)).setFar _ _ (by show w.heap.size + 1 < _; omega))

end PartCoC
end Go.Proofs.YtlpdjmjbppmibaaGreat
