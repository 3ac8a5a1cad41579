/- The specification's reader of a pattern: a thing with its signs behind it. Plain facts: how far the reader of a pattern goes, and how many pieces it tells. -/
import Derived.Test.YtlpdjmjbppmibaaGreatMPJoRdG
import Derived.Test.YtlpdjmjbppmibaaGreatMPJoZab
namespace Go.Proofs.YtlpdjmjbppmibaaGreat
section PartRdH
open Go.RowKit

/-- The sign's kind. -/
def mop (b : UInt8) : Nat := if b = 43 then 8 else if b = 63 then 9 else 7

theorem more_end (l : List UInt8) (f a : Nat) (ps : List Pp.Pc) (k : Nat) (h : ∀ b, l[a]? = some b → ¬ (b = 42 ∨ b = 43 ∨ b = 63)) : Pp.more l (f + 1) a ps k = some (a, ps, k) := by
  rw [Pp.more]
  cases hb : l[a]? with
  | none => rfl
  | some b => simp only [h b hb, ↓reduceIte]
theorem more_go (l : List UInt8) (f a : Nat) (ps : List Pp.Pc) (k : Nat) (b : UInt8) (hb : l[a]? = some b) (h : b = 42 ∨ b = 43 ∨ b = 63) : Pp.more l (f + 1) a ps k = match Pp.put ps ⟨mop b, [], [k]⟩ with
    | none => none
    | some (o, j) => Pp.more l f (a + 1) o j := by
  rw [Pp.more, hb]
  simp only [h, ↓reduceIte]
  rfl

/-- The kids of a piece, as they are written down just ahead of it. -/
theorem rkids1 (W : World) (k : Nat) : KidsBlk (W.alloc (.cells #[.int .i64 (k : Int)] 3)) W.heap.size ([k].map Int.ofNat) := heap_alloc_new W _
theorem rkids2 (W : World) (k j : Nat) : KidsBlk (W.alloc (.cells #[.int .i64 (k : Int), .int .i64 (j : Int)] 3)) W.heap.size ([k, j].map Int.ofNat) := heap_alloc_new W _

set_option maxRecDepth 100000 in
/-- One piece with one kid more, its kids' block new. -/
theorem rdPut1 (B g a op k q : Nat) (z : Int) (s : ByteArray) (v : Value) (ps : List Pp.Pc) (w : World) (h : Rd w g s a false v) (hr : RP B w v ps) (hg : g < B) (hB : B ≤ w.heap.size) (ha : a ≤ s.size) (hn : ps.length ≤ 60) (hz : z = (k : Int)) (hq : q = w.heap.size) :
    Calls Tryz.prog 118 #[.pointer (some ⟨g, 0, none⟩), .agg #[.int .i64 (op : Int), .string ⟨#[]⟩, .slice (some ⟨q, 0, none⟩) 1 1]] (w.alloc (.cells #[.int .i64 z] 3)) (RdPost B g s w 61 ((Pp.put ps ⟨op, [], [k]⟩).map fun (o, k) => (a, o, k))) := by
  subst hz hq
  have hb : Below w.heap.size w (w.alloc (.cells #[.int .i64 (k : Int)] 3)) := (Below.refl _ _).alloc (Nat.le_refl _) _
  exact (rdPutP B g a w.heap.size s v ps ⟨op, [], [k]⟩ w _ (h.up hb) hr hb hg hB ha hn (fun _ => ⟨Nat.le_refl _, by simp, rkids1 w k⟩)).mono fun e w' hp => hp.next (FB.of (hb.mono hB)) (Nat.le_refl _) rfl
set_option maxRecDepth 100000 in
theorem rdPut2 (B g a op k j q : Nat) (z z2 : Int) (s : ByteArray) (v : Value) (ps : List Pp.Pc) (w : World) (h : Rd w g s a false v) (hr : RP B w v ps) (hg : g < B) (hB : B ≤ w.heap.size) (ha : a ≤ s.size) (hn : ps.length ≤ 60) (hz : z = (k : Int)) (hz2 : z2 = (j : Int)) (hq : q = w.heap.size) :
    Calls Tryz.prog 118 #[.pointer (some ⟨g, 0, none⟩), .agg #[.int .i64 (op : Int), .string ⟨#[]⟩, .slice (some ⟨q, 0, none⟩) 2 2]] (w.alloc (.cells #[.int .i64 z, .int .i64 z2] 3)) (RdPost B g s w 61 ((Pp.put ps ⟨op, [], [k, j]⟩).map fun (o, k) => (a, o, k))) := by
  subst hz hz2 hq
  have hb : Below w.heap.size w (w.alloc (.cells #[.int .i64 (k : Int), .int .i64 (j : Int)] 3)) := (Below.refl _ _).alloc (Nat.le_refl _) _
  exact (rdPutP B g a w.heap.size s v ps ⟨op, [], [k, j]⟩ w _ (h.up hb) hr hb hg hB ha hn (fun _ => ⟨Nat.le_refl _, by simp, rkids2 w k j⟩)).mono fun e w' hp => hp.next (FB.of (hb.mono hB)) (Nat.le_refl _) rfl

set_option maxRecDepth 100000 in
/-- What is put behind a fault: it stays one. -/
theorem rdPutBad (B g a op n : Nat) (s t : ByteArray) (v : Value) (cs : List Value) (ka : Option Addr) (kl kc : Nat) (w : World) (h : Rd w g s a true v) (hp : PR B w v n cs) (hg : g < B) (hB : B ≤ w.heap.size) (hn : n ≤ 1000) :
    Calls Tryz.prog 118 #[.pointer (some ⟨g, 0, none⟩), .agg #[.int .i64 (op : Int), .string t, .slice ka kl kc]] w fun e w' => e = .returned (.int .i64 (n : Int)) ∧ FB g B w w' ∧ ∃ v' cs', Rd w' g s a true v' ∧ PR B w' v' (n + 1) cs' := by
  refine (rdPut_any B g a n op s t v cs ka kl kc true w h hp hn hg hB).mono ?_
  rintro e w' ⟨v', rfl, hR, hP, hs, hf, _, hen⟩
  exact ⟨rfl, FB.fr ⟨hs, hf, hen⟩ hp hB, v', _, hR, hP⟩

set_option maxRecDepth 100000 in
/-- Is it c that comes next? As it stands. -/
theorem isYes (g a c : Nat) (s : ByteArray) (v : Value) (w : World) (h : Rd w g s a false v) (ha : a < s.size) (hc : s[a].toNat = c) :
    Calls Tryz.prog 117 #[.pointer (some ⟨g, 0, none⟩), .int .u8 (c : Int)] w fun e w' => e = .returned (.bool true) ∧ ∃ k, w' = w.drewN k := by
  have hc2 : c < 256 := by rw [← hc]; exact s[a].toNat_lt
  have := rdIs_any g a c s false v w h (by omega) hc2
  have e : decide (s.data.toList[a]? = some (UInt8.ofNat c)) = true := by
    rw [getAt s a ha, ← hc]
    simp
  rw [e] at this
  exact this
set_option maxRecDepth 100000 in
theorem isNo (g a c : Nat) (s : ByteArray) (v : Value) (w : World) (h : Rd w g s a false v) (ha : a ≤ s.size) (hc2 : c < 256) (hc : ∀ h : a < s.size, s[a].toNat ≠ c) :
    Calls Tryz.prog 117 #[.pointer (some ⟨g, 0, none⟩), .int .u8 (c : Int)] w fun e w' => e = .returned (.bool false) ∧ ∃ k, w' = w.drewN k := by
  have := rdIs_any g a c s false v w h ha hc2
  have e : decide (s.data.toList[a]? = some (UInt8.ofNat c)) = false := by
    apply decide_eq_false
    by_cases hlt : a < s.size
    · rw [getAt s a hlt]
      intro e
      have e2 : s[a] = UInt8.ofNat c := by simpa using e
      apply hc hlt
      rw [e2, UInt8.toNat_ofNat']
      omega
    · rw [List.getElem?_eq_none (by simp; omega)]
      simp
  rw [e] at this
  exact this
set_option maxRecDepth 100000 in
theorem isBad (g a c : Nat) (s : ByteArray) (v : Value) (w : World) (h : Rd w g s a true v) (ha : a ≤ s.size) (hc2 : c < 256) :
    Calls Tryz.prog 117 #[.pointer (some ⟨g, 0, none⟩), .int .u8 (c : Int)] w fun e w' => e = .returned (.bool false) ∧ ∃ k, w' = w.drewN k :=
  rdIs_any g a c s true v w h ha hc2

/-- Where the reader stands in the midst of a part: R is what the part should tell in the end. -/
def Mid (B g N : Nat) (s : ByteArray) (w wr : World) (k : Value) (R : Option (Nat × List Pp.Pc × Nat)) (F : Nat → Nat → List Pp.Pc → Nat → Option (Nat × List Pp.Pc × Nat)) (c f : Nat) : Prop :=
  FB g B w wr ∧ ((∃ (z : Int) (a' : Nat) (v' : Value) (n' : Nat) (cs' : List Value), k = .int .i64 z ∧ a' ≤ s.size ∧ Rd wr g s a' true v' ∧ PR B wr v' n' cs' ∧ n' ≤ N ∧ R = none) ∨
    (∃ (j a' fm : Nat) (v' : Value) (o : List Pp.Pc), k = .int .i64 (j : Int) ∧ a' ≤ s.size ∧ Rd wr g s a' false v' ∧ RP B wr v' o ∧ o.length ≤ 60 ∧ F fm a' o j = R ∧ 4 * (s.size - a') + c ≤ fm ∧ fm ≤ f))

theorem Mid.of {B g N c f : Nat} {s : ByteArray} {w w' : World} {R : Option (Nat × List Pp.Pc × Nat)} {F : Nat → Nat → List Pp.Pc → Nat → Option (Nat × List Pp.Pc × Nat)} {e : Ending} (h : RdPost B g s w N R e w')
    (hd : ∀ a' o k, R = some (a', o, k) → a' ≤ s.size → 4 * (s.size - a') + c ≤ f) :
    ∃ k, e = .returned k ∧ Mid B g N s w w' k (R.bind fun r => F f r.1 r.2.1 r.2.2) F c f := by
  obtain ⟨hf, h⟩ := h
  cases R with
  | none =>
    obtain ⟨z, a', v', n', cs', rfl, h1, h2, h3, h4⟩ := h
    exact ⟨_, rfl, hf, .inl ⟨z, a', v', n', cs', rfl, h1, h2, h3, h4, rfl⟩⟩
  | some r =>
    obtain ⟨a', o, j⟩ := r
    obtain ⟨rfl, h1, h2, v', h3, h4⟩ := h
    exact ⟨_, rfl, hf, .inr ⟨j, a', f, v', o, rfl, h1, h3, h4, h2, rfl, hd a' o j rfl h1, Nat.le_refl _⟩⟩

theorem Mid.put {B g N c f a1 fm : Nat} {s : ByteArray} {w W w5 : World} {R : Option (Nat × List Pp.Pc × Nat)} {F : Nat → Nat → List Pp.Pc → Nat → Option (Nat × List Pp.Pc × Nat)} {e : Ending} {o : List Pp.Pc} {p : Pp.Pc} (hf : FB g B w W)
    (h : RdPost B g s W 61 ((Pp.put o p).map fun (o, k) => (a1, o, k)) e w5) (hR : R = (Pp.put o p).bind fun r => F fm a1 r.1 r.2) (hN : 61 ≤ N) (hd : 4 * (s.size - a1) + c ≤ fm) (hm : fm ≤ f) :
    ∃ k, e = .returned k ∧ Mid B g N s w w5 k R F c f := by
  obtain ⟨hf2, h⟩ := h
  cases hp : Pp.put o p with
  | none =>
    rw [hp] at h hR
    obtain ⟨z, a', v', n', cs', rfl, h1, h2, h3, h4⟩ := h
    exact ⟨_, rfl, hf.trans hf2, .inl ⟨z, a', v', n', cs', rfl, h1, h2, h3, by omega, hR⟩⟩
  | some r =>
    rw [hp] at h hR
    obtain ⟨rfl, h1, h2, v', h3, h4⟩ := h
    exact ⟨_, rfl, hf.trans hf2, .inr ⟨r.2, a1, fm, v', r.1, rfl, h1, h3, h4, h2, hR.symm, hd, hm⟩⟩
/-- How much is left to read, as the world holds it. -/
def leftOf (g : Nat) (s : ByteArray) (w : World) : Nat := match w.cell? ⟨g, 2, none⟩ with
  | some (.bool true) => 0
  | _ => s.size + 1 - placeOf g w
theorem Rd.left {w : World} {g : Nat} {s : ByteArray} {a : Nat} {v : Value} (h : Rd w g s a false v) : leftOf g s w = s.size + 1 - a := by
  obtain ⟨_, _, c2, _⟩ := cells4 h
  unfold leftOf
  rw [c2, h.place]
theorem Rd.left0 {w : World} {g : Nat} {s : ByteArray} {a : Nat} {v : Value} (h : Rd w g s a true v) : leftOf g s w = 0 := by
  obtain ⟨_, _, c2, _⟩ := cells4 h
  unfold leftOf
  rw [c2]
theorem RdPost.left {B g N a1 : Nat} {s : ByteArray} {w w' : World} {R : Option (Nat × List Pp.Pc × Nat)} {e : Ending} (h : RdPost B g s w N R e w') (ha : ∀ a o k, R = some (a, o, k) → a1 ≤ a) : leftOf g s w' ≤ s.size + 1 - a1 := by
  obtain ⟨_, h⟩ := h
  cases R with
  | none => obtain ⟨_, _, _, _, _, _, _, h2, _⟩ := h; rw [h2.left0]; omega
  | some r =>
    obtain ⟨a', o, j⟩ := r
    obtain ⟨_, _, _, v', h3, _⟩ := h
    rw [h3.left]
    have := ha a' o j rfl
    omega
theorem put_at {o : List Pp.Pc} {p : Pp.Pc} {a1 : Nat} : ∀ a x k, ((Pp.put o p).map fun (o, k) => (a1, o, k)) = some (a, x, k) → a1 ≤ a := by
  intro a x k h
  cases hp : Pp.put o p with
  | none => rw [hp] at h; simp at h
  | some r => rw [hp] at h; simp at h; omega

set_option maxHeartbeats 4000000 in
set_option maxRecDepth 100000 in
theorem rdMany (B g : Nat) (s : ByteArray) (f : Nat) (hg : g < B) (hs : s.size ≤ 24) (a : Nat) (ps : List Pp.Pc) (w : World)
    (hT : Calls Tryz.prog 130 #[.pointer (some ⟨g, 0, none⟩)] w (RdPost B g s w (61 + f) (Pp.thing s.data.toList f a ps)))
    (hB : B ≤ w.heap.size) (ha : a < s.size) (hd : 4 * (s.size - a) + 2 ≤ f + 1)
    (hlt : ∀ a' o k, Pp.thing s.data.toList f a ps = some (a', o, k) → a < a') :
    Calls Tryz.prog 124 #[.pointer (some ⟨g, 0, none⟩)] w (RdPost B g s w (61 + (f + 1)) (Pp.many s.data.toList (f + 1) a ps)) := by
  have HT : Hid (Calls Tryz.prog 130 #[.pointer (some ⟨g, 0, none⟩)] w (RdPost B g s w (61 + f) (Pp.thing s.data.toList f a ps))) := hT
  obtain ⟨R, hR⟩ : ∃ R, R = Pp.many s.data.toList (f + 1) a ps := ⟨_, rfl⟩
  rw [← hR]
  have HR : Hid (R = Pp.many s.data.toList (f + 1) a ps) := hR
  have HLT : Hid (∀ a' o k, Pp.thing s.data.toList f a ps = some (a', o, k) → a < a') := hlt
  clear hT hR hlt
  go_enter Tryz.func124, Tryz.ntmps124
  go_wp2_with fail
  refine HT.out.mono ?_
  intro e w1 hpost
  obtain ⟨k1, rfl, hmid⟩ := Mid.of (F := Pp.more s.data.toList) (c := 1) (f := f) hpost (fun a' o k e1 h1 => by have := HLT.out a' o k e1; omega)
  have hmid2 : Mid B g (61 + f) s w w1 k1 R (Pp.more s.data.toList) 1 f := by
    have e1 : R = (Pp.thing s.data.toList f a ps).bind fun r => Pp.more s.data.toList f r.1 r.2.1 r.2.2 := by
      rw [HR.out, Pp.many]
      cases Pp.thing s.data.toList f a ps <;> rfl
    rw [e1]
    exact hmid
  clear hmid hpost HT HR HLT
  go_wp2_with fail
  go_loopw [3] (fun k wr => Hid (Mid B g (61 + f) s w wr k R (Pp.more s.data.toList) 1 f)) (fun _ wr => leftOf g s wr)
  case atStart => exact hmid2
  case round =>
    clear hmid2
    obtain ⟨hfb, hm⟩ := hrel.out
    clear hrel
    have HFB : Hid (FB g B w wr) := hfb
    have hBr : B ≤ wr.heap.size := by have := hfb.1; omega
    clear hfb
    rcases hm with ⟨z, a', v', n', cs', rfl, ha', r', p', hn', hRn⟩ | ⟨j, a', fm, v', o, rfl, ha', r', p', ho, hRe, hfm, hfm2⟩
    · have HRN : Hid (R = none) := hRn
      have CB : Hid (∀ (c : Nat) (W : World), c < 256 → Rd W g s a' true v' → Calls Tryz.prog 117 #[.pointer (some ⟨g, 0, none⟩), .int .u8 (c : Int)] W fun e w' => e = .returned (.bool false) ∧ ∃ k, w' = W.drewN k) := fun c W hc h => isBad g a' c s v' W h ha' hc
      clear hRn
      go_wp2_with fail
      refine (CB.out 42 _ (by decide) r').mono ?_
      rintro e w2 ⟨rfl, k2, rfl⟩
      go_wp2_with fail
      refine (CB.out 43 _ (by decide) (Rd.draw r' _)).mono ?_
      rintro e w3 ⟨rfl, k3, rfl⟩
      go_wp2_with fail
      refine (CB.out 63 _ (by decide) (Rd.draw r' _)).mono ?_
      rintro e w4 ⟨rfl, k4, rfl⟩
      go_wp2
      go_ret
      exact RdPost.bad (FB.draw HFB.out _) (Rd.draw r' _) p' (by omega) ha' HRN.out z
    · by_cases hq : ∃ hlt : a' < s.size, s[a'].toNat = 42 ∨ s[a'].toNat = 43 ∨ s[a'].toNat = 63
      · obtain ⟨hlt, hb⟩ := hq
        obtain ⟨fm, rfl⟩ : ∃ fm', fm = fm' + 1 := ⟨fm - 1, by omega⟩
        have hsg : s[a'] = 42 ∨ s[a'] = 43 ∨ s[a'] = 63 := by
          rcases hb with h | h | h
          · exact .inl (UInt8.toNat_inj.1 h)
          · exact .inr (.inl (UInt8.toNat_inj.1 h))
          · exact .inr (.inr (UInt8.toNat_inj.1 h))
        have h256 : s[a'].toNat < 256 := s[a'].toNat_lt
        have HY : Hid (∀ (c : Nat) (W : World), s[a'].toNat = c → Rd W g s a' false v' → Calls Tryz.prog 117 #[.pointer (some ⟨g, 0, none⟩), .int .u8 (c : Int)] W fun e w' => e = .returned (.bool true) ∧ ∃ k, w' = W.drewN k) := fun c W hc h => isYes g a' c s v' W h hlt hc
        have HNO : Hid (∀ (c : Nat) (W : World), c < 256 → s[a'].toNat ≠ c → Rd W g s a' false v' → Calls Tryz.prog 117 #[.pointer (some ⟨g, 0, none⟩), .int .u8 (c : Int)] W fun e w' => e = .returned (.bool false) ∧ ∃ k, w' = W.drewN k) := fun c W hc hne h => isNo g a' c s v' W h ha' hc (fun _ => hne)
        rcases hb with hb | hb | hb
        · have hx : s[a'].toNat = 42 := hb
          have HPUT : Hid (R = (Pp.put o ⟨7, [], [j]⟩).bind fun r => Pp.more s.data.toList fm (a' + 1) r.1 r.2) := by
            show _ = _
            rw [← hRe, more_go s.data.toList fm a' o j s[a'] (getAt s a' hlt) hsg, show s[a'] = 42 from UInt8.toNat_inj.1 hx]
            show (match Pp.put o ⟨7, [], [j]⟩ with | none => none | some (o, j) => _) = _
            cases Pp.put o ⟨7, [], [j]⟩ <;> rfl
          have d43 : ((s[a'].toNat : Int) == 43) = false := by rw [hx]; rfl
          have d63 : ((s[a'].toNat : Int) == 63) = false := by rw [hx]; rfl
          clear hRe hsg hb
          have hi : (a' : Int) < (s.size : Int) := by omega
          obtain ⟨c0, c1, c2, c3, f0, f1, f2, f3⟩ := cells4 r'
          have HR' : Hid (Rd wr g s a' false v') := r'
          have HP' : Hid (RP B wr v' o) := p'
          have hpl : leftOf g s wr = s.size + 1 - a' := r'.left
          clear r' p'
          go_wp2_with fail
          refine (HY.out 42 _ hx HR'.out).mono ?_
          rintro e w2 ⟨rfl, k42, rfl⟩
          clear HY HNO hx
          go_wp2_with fail
          go_quiet (fail)
          go_wp2_with fail
          go_quiet (fail)
          go_wp2_with fail
          have HR1 := fun k => Rd.at (Rd.draw HR'.out k) ((a' : Int) + 1) (a' + 1) (by omega)
          have HP1 := fun k => RP.setg (RP.draw HP'.out k) hg 1 (.int .i64 ((a' : Int) + 1))
          have HF1 := fun k => FB.setg (FB.draw HFB.out k) 1 (.int .i64 ((a' : Int) + 1))
          refine (rdPut1 B g (a' + 1) 7 j _ _ s v' o _ (HR1 _) (HP1 _) hg (by simpa [World.setCell] using hBr) (by omega) ho rfl (by simp [World.setCell])).mono ?_
          intro e w5 hpost
          have hlf := hpost.left put_at
          obtain ⟨k5, rfl, hmid⟩ := Mid.put (N := 61 + f) (c := 1) (f := f) (F := Pp.more s.data.toList) (HF1 _) hpost HPUT.out (by omega) (by omega) (by omega)
          have HMID : Hid (Mid B g (61 + f) s w w5 k5 R (Pp.more s.data.toList) 1 f) := hmid
          clear hmid hpost HR1 HP1 HF1
          go_wp2_with fail
          go_roundw
          case rel => exact HMID.out
          case measure => omega
        · have hx : s[a'].toNat = 43 := hb
          have HPUT : Hid (R = (Pp.put o ⟨8, [], [j]⟩).bind fun r => Pp.more s.data.toList fm (a' + 1) r.1 r.2) := by
            show _ = _
            rw [← hRe, more_go s.data.toList fm a' o j s[a'] (getAt s a' hlt) hsg, show s[a'] = 43 from UInt8.toNat_inj.1 hx]
            show (match Pp.put o ⟨8, [], [j]⟩ with | none => none | some (o, j) => _) = _
            cases Pp.put o ⟨8, [], [j]⟩ <;> rfl
          have d43 : ((s[a'].toNat : Int) == 43) = true := by rw [hx]; rfl
          have d63 : ((s[a'].toNat : Int) == 63) = false := by rw [hx]; rfl
          clear hRe hsg hb
          have hi : (a' : Int) < (s.size : Int) := by omega
          obtain ⟨c0, c1, c2, c3, f0, f1, f2, f3⟩ := cells4 r'
          have HR' : Hid (Rd wr g s a' false v') := r'
          have HP' : Hid (RP B wr v' o) := p'
          have hpl : leftOf g s wr = s.size + 1 - a' := r'.left
          clear r' p'
          go_wp2_with fail
          refine (HNO.out 42 _ (by decide) (by omega) HR'.out).mono ?_
          rintro e w2 ⟨rfl, k42, rfl⟩
          go_wp2_with fail
          refine (HY.out 43 _ hx (Rd.draw HR'.out _)).mono ?_
          rintro e w2 ⟨rfl, k43, rfl⟩
          clear HY HNO hx
          go_wp2_with fail
          go_quiet (fail)
          go_wp2_with fail
          go_quiet (fail)
          go_wp2_with fail
          have HR1 := fun k => Rd.at (Rd.draw HR'.out k) ((a' : Int) + 1) (a' + 1) (by omega)
          have HP1 := fun k => RP.setg (RP.draw HP'.out k) hg 1 (.int .i64 ((a' : Int) + 1))
          have HF1 := fun k => FB.setg (FB.draw HFB.out k) 1 (.int .i64 ((a' : Int) + 1))
          refine (rdPut1 B g (a' + 1) 8 j _ _ s v' o _ (HR1 _) (HP1 _) hg (by simpa [World.setCell] using hBr) (by omega) ho rfl (by simp [World.setCell])).mono ?_
          intro e w5 hpost
          have hlf := hpost.left put_at
          obtain ⟨k5, rfl, hmid⟩ := Mid.put (N := 61 + f) (c := 1) (f := f) (F := Pp.more s.data.toList) (HF1 _) hpost HPUT.out (by omega) (by omega) (by omega)
          have HMID : Hid (Mid B g (61 + f) s w w5 k5 R (Pp.more s.data.toList) 1 f) := hmid
          clear hmid hpost HR1 HP1 HF1
          go_wp2_with fail
          go_roundw
          case rel => exact HMID.out
          case measure => omega
        · have hx : s[a'].toNat = 63 := hb
          have HPUT : Hid (R = (Pp.put o ⟨9, [], [j]⟩).bind fun r => Pp.more s.data.toList fm (a' + 1) r.1 r.2) := by
            show _ = _
            rw [← hRe, more_go s.data.toList fm a' o j s[a'] (getAt s a' hlt) hsg, show s[a'] = 63 from UInt8.toNat_inj.1 hx]
            show (match Pp.put o ⟨9, [], [j]⟩ with | none => none | some (o, j) => _) = _
            cases Pp.put o ⟨9, [], [j]⟩ <;> rfl
          have d43 : ((s[a'].toNat : Int) == 43) = false := by rw [hx]; rfl
          have d63 : ((s[a'].toNat : Int) == 63) = true := by rw [hx]; rfl
          clear hRe hsg hb
          have hi : (a' : Int) < (s.size : Int) := by omega
          obtain ⟨c0, c1, c2, c3, f0, f1, f2, f3⟩ := cells4 r'
          have HR' : Hid (Rd wr g s a' false v') := r'
          have HP' : Hid (RP B wr v' o) := p'
          have hpl : leftOf g s wr = s.size + 1 - a' := r'.left
          clear r' p'
          go_wp2_with fail
          refine (HNO.out 42 _ (by decide) (by omega) HR'.out).mono ?_
          rintro e w2 ⟨rfl, k42, rfl⟩
          go_wp2_with fail
          refine (HNO.out 43 _ (by decide) (by omega) (Rd.draw HR'.out _)).mono ?_
          rintro e w2 ⟨rfl, k43, rfl⟩
          go_wp2_with fail
          refine (HY.out 63 _ hx (Rd.draw HR'.out _)).mono ?_
          rintro e w2 ⟨rfl, k63, rfl⟩
          clear HY HNO hx
          go_wp2_with fail
          go_quiet (fail)
          go_wp2_with fail
          go_quiet (fail)
          go_wp2_with fail
          have HR1 := fun k => Rd.at (Rd.draw HR'.out k) ((a' : Int) + 1) (a' + 1) (by omega)
          have HP1 := fun k => RP.setg (RP.draw HP'.out k) hg 1 (.int .i64 ((a' : Int) + 1))
          have HF1 := fun k => FB.setg (FB.draw HFB.out k) 1 (.int .i64 ((a' : Int) + 1))
          refine (rdPut1 B g (a' + 1) 9 j _ _ s v' o _ (HR1 _) (HP1 _) hg (by simpa [World.setCell] using hBr) (by omega) ho rfl (by simp [World.setCell])).mono ?_
          intro e w5 hpost
          have hlf := hpost.left put_at
          obtain ⟨k5, rfl, hmid⟩ := Mid.put (N := 61 + f) (c := 1) (f := f) (F := Pp.more s.data.toList) (HF1 _) hpost HPUT.out (by omega) (by omega) (by omega)
          have HMID : Hid (Mid B g (61 + f) s w w5 k5 R (Pp.more s.data.toList) 1 f) := hmid
          clear hmid hpost HR1 HP1 HF1
          go_wp2_with fail
          go_roundw
          case rel => exact HMID.out
          case measure => omega
      · have HRS : Hid (R = some (a', o, j)) := by
          show _ = _
          obtain ⟨fm, rfl⟩ : ∃ fm', fm = fm' + 1 := ⟨fm - 1, by omega⟩
          rw [← hRe]
          refine more_end _ _ _ _ _ ?_
          intro b hb hbb
          have hlt : a' < s.size := by
            have := (List.getElem?_eq_some_iff.1 hb).1
            simpa using this
          rw [getAt s a' hlt] at hb
          obtain rfl : s[a'] = b := by simpa using hb
          exact hq ⟨hlt, by rcases hbb with e | e | e <;> rw [e] <;> decide⟩
        have HNO : Hid (∀ (c : Nat) (W : World), c = 42 ∨ c = 43 ∨ c = 63 → Rd W g s a' false v' → Calls Tryz.prog 117 #[.pointer (some ⟨g, 0, none⟩), .int .u8 (c : Int)] W fun e w' => e = .returned (.bool false) ∧ ∃ k, w' = W.drewN k) :=
          fun c W hc h => isNo g a' c s v' W h ha' (by omega) (fun hlt e => hq ⟨hlt, by omega⟩)
        have HP' : Hid (RP B wr v' o) := p'
        clear hRe hq p'
        go_wp2_with fail
        refine (HNO.out 42 _ (by decide) r').mono ?_
        rintro e w2 ⟨rfl, k2, rfl⟩
        go_wp2_with fail
        refine (HNO.out 43 _ (by decide) (Rd.draw r' _)).mono ?_
        rintro e w3 ⟨rfl, k3, rfl⟩
        go_wp2_with fail
        refine (HNO.out 63 _ (by decide) (Rd.draw r' _)).mono ?_
        rintro e w4 ⟨rfl, k4, rfl⟩
        go_wp2
        go_ret
        rw [HRS.out]
        exact ⟨FB.draw HFB.out _, rfl, ha', ho, v', Rd.draw r' _, RP.draw HP'.out _⟩
end PartRdH
section PartPPb
namespace Pp

theorem put_len {out o : List Pc} {x : Pc} {k : Nat} (h : put out x = some (o, k)) : o.length = out.length + 1 := by
  unfold put at h
  split at h
  · cases h
  · simp at h
    rw [← h.1]
    simp
theorem putm {out o : List Pc} {x : Pc} {k a e : Nat} (h : (put out x).map (fun (o, k) => (a, o, k)) = some (e, o, k)) : e = a ∧ o.length = out.length + 1 := by
  cases hp : put out x with
  | none => rw [hp] at h; simp at h
  | some r =>
    rw [hp] at h
    simp at h
    obtain ⟨h1, h2, h3⟩ := h
    exact ⟨h1.symm, by rw [← h2]; exact put_len (k := r.2) hp⟩
theorem close_le (l : List UInt8) (a : Nat) : a ≤ close l a ∧ close l a ≤ a + l.length := by
  induction l generalizing a with
  | nil => simp [close]
  | cons b r ih =>
    rw [close]
    split
    · simp
    · have := ih (a + 1)
      simp
      omega
theorem set_len {l : List UInt8} {a e k : Nat} {out o : List Pc} (h : set l a out = some (e, o, k)) : a + 2 ≤ e ∧ e ≤ l.length ∧ o.length = out.length + 1 := by
  have key : ∀ b x, a ≤ b → (if close (l.drop b) b = l.length ∨ close (l.drop b) b = b then none else (put out x).map fun (o, k) => (close (l.drop b) b + 1, o, k)) = some (e, o, k) → a + 2 ≤ e ∧ e ≤ l.length ∧ o.length = out.length + 1 := by
    intro b x hb h
    split at h
    · cases h
    · rename_i hn
      obtain ⟨h1, h2⟩ := putm h
      have := close_le (l.drop b) b
      simp at this
      refine ⟨by omega, ?_, h2⟩
      by_cases hbl : b ≤ l.length
      · omega
      · have : close (l.drop b) b = b := by rw [List.drop_of_length_le (by omega)]; rfl
        omega
  unfold set at h
  by_cases hneg : (l[a]? == some 94) = true
  · simp only [hneg, ↓reduceIte] at h
    exact key (a + 1) _ (by omega) h
  · have hneg : (l[a]? == some 94) = false := by simpa using hneg
    simp only [hneg, Bool.false_eq_true, ↓reduceIte] at h
    exact key a _ (Nat.le_refl _) h

/-- What each part reads, and how many pieces it makes of it. -/
structure Bd (l : List UInt8) (f : Nat) : Prop where
  thing : ∀ a out e o k, thing l f a out = some (e, o, k) → a < e ∧ e ≤ l.length ∧ o.length + 1 ≤ out.length + 2 * (e - a)
  more : ∀ a out j e o k, a ≤ l.length → more l f a out j = some (e, o, k) → a ≤ e ∧ e ≤ l.length ∧ o.length ≤ out.length + (e - a)
  many : ∀ a out e o k, many l f a out = some (e, o, k) → a < e ∧ e ≤ l.length ∧ o.length + 1 ≤ out.length + 2 * (e - a)
  rest : ∀ a out j e o k, a ≤ l.length → rest l f a out j = some (e, o, k) → a ≤ e ∧ e ≤ l.length ∧ o.length ≤ out.length + 2 * (e - a)
  row : ∀ a out e o k, a ≤ l.length → row l f a out = some (e, o, k) → a ≤ e ∧ e ≤ l.length ∧ o.length ≤ out.length + 2 * (e - a) + 1
  alts : ∀ a out j e o k, a ≤ l.length → alts l f a out j = some (e, o, k) → a ≤ e ∧ e ≤ l.length ∧ o.length ≤ out.length + 2 * (e - a)
  alt : ∀ a out e o k, a ≤ l.length → alt l f a out = some (e, o, k) → a ≤ e ∧ e ≤ l.length ∧ o.length ≤ out.length + 2 * (e - a) + 1

theorem lt_of_get {l : List UInt8} {a : Nat} {b : UInt8} (h : l[a]? = some b) : a < l.length := (List.getElem?_eq_some_iff.1 h).1

theorem bd (l : List UInt8) (f : Nat) : Bd l f := by
  induction f with
  | zero =>
    refine ⟨?_, ?_, ?_, ?_, ?_, ?_, ?_⟩
    · intro a out e o k h; rw [thing] at h; cases h
    · intro a out j e o k _ h; rw [more] at h; cases h
    · intro a out e o k h; rw [many] at h; cases h
    · intro a out j e o k _ h; rw [rest] at h; cases h
    · intro a out e o k _ h; rw [row] at h; cases h
    · intro a out j e o k _ h; rw [alts] at h; cases h
    · intro a out e o k _ h; rw [alt] at h; cases h
  | succ f ih =>
    refine ⟨?_, ?_, ?_, ?_, ?_, ?_, ?_⟩
    · intro a out e o k h
      rw [thing] at h
      split at h
      · cases h
      · rename_i b hb
        have hlt := lt_of_get hb
        split at h
        · have := putm h; omega
        split at h
        · have := putm h; omega
        split at h
        · have := putm h; omega
        split at h
        · have := set_len h; omega
        split at h
        · split at h
          · cases h
          · rename_i e1 o1 k1 h1
            have hi := ih.alt (a + 1) out e1 o1 k1 (by omega) h1
            split at h
            · rename_i h41
              have := lt_of_get h41
              simp at h
              obtain ⟨rfl, rfl, rfl⟩ := h
              omega
            · cases h
        split at h
        · split at h
          · cases h
          · rename_i c hc
            have := lt_of_get hc
            split at h
            · have := putm h; omega
            · cases h
        split at h
        · cases h
        · have := putm h; omega
    · intro a out j e o k ha h
      rw [more] at h
      split at h
      · simp at h
        obtain ⟨rfl, rfl, rfl⟩ := h
        omega
      · rename_i b hb
        have hlt := lt_of_get hb
        split at h
        · split at h
          · cases h
          · rename_i o1 j1 h1
            have hl := put_len h1
            have hi := ih.more (a + 1) o1 j1 e o k (by omega) h
            omega
        · simp at h
          obtain ⟨rfl, rfl, rfl⟩ := h
          omega
    · intro a out e o k h
      rw [many] at h
      split at h
      · cases h
      · rename_i e1 o1 k1 h1
        have hi := ih.thing a out e1 o1 k1 h1
        have hj := ih.more e1 o1 k1 e o k hi.2.1 h
        omega
    · intro a out j e o k ha h
      rw [rest] at h
      split at h
      · simp at h
        obtain ⟨rfl, rfl, rfl⟩ := h
        omega
      · rename_i b hb
        split at h
        · simp at h
          obtain ⟨rfl, rfl, rfl⟩ := h
          omega
        · split at h
          · cases h
          · rename_i e1 o1 j1 h1
            have hi := ih.many a out e1 o1 j1 h1
            split at h
            · cases h
            · rename_i o2 k2 h2
              have hl := put_len h2
              have hj := ih.rest e1 o2 k2 e o k hi.2.1 h
              omega
    · intro a out e o k ha h
      rw [row] at h
      split at h
      · have := putm h; omega
      · split at h
        · cases h
        · rename_i e1 o1 k1 h1
          have hi := ih.many a out e1 o1 k1 h1
          have hj := ih.rest e1 o1 k1 e o k hi.2.1 h
          omega
    · intro a out j e o k ha h
      rw [alts] at h
      split at h
      · rename_i h124
        have hlt := lt_of_get h124
        split at h
        · cases h
        · rename_i e1 o1 j1 h1
          have hi := ih.row (a + 1) out e1 o1 j1 (by omega) h1
          split at h
          · cases h
          · rename_i o2 k2 h2
            have hl := put_len h2
            have hj := ih.alts e1 o2 k2 e o k hi.2.1 h
            omega
      · simp at h
        obtain ⟨rfl, rfl, rfl⟩ := h
        omega
    · intro a out e o k ha h
      rw [alt] at h
      split at h
      · cases h
      · rename_i e1 o1 k1 h1
        have hi := ih.row a out e1 o1 k1 ha h1
        have hj := ih.alts e1 o1 k1 e o k hi.2.1 h
        omega
/-- Each part keeps the pieces that were there, and makes one at least. -/
structure Gr (l : List UInt8) (f : Nat) : Prop where
  thing : ∀ a out e o k, thing l f a out = some (e, o, k) → out.length < o.length
  more : ∀ a out j e o k, more l f a out j = some (e, o, k) → out.length ≤ o.length
  many : ∀ a out e o k, many l f a out = some (e, o, k) → out.length < o.length
  rest : ∀ a out j e o k, rest l f a out j = some (e, o, k) → out.length ≤ o.length
  row : ∀ a out e o k, row l f a out = some (e, o, k) → out.length < o.length
  alts : ∀ a out j e o k, alts l f a out j = some (e, o, k) → out.length ≤ o.length
  alt : ∀ a out e o k, alt l f a out = some (e, o, k) → out.length < o.length

theorem gr (l : List UInt8) (f : Nat) : Gr l f := by
  induction f with
  | zero =>
    refine ⟨?_, ?_, ?_, ?_, ?_, ?_, ?_⟩
    · intro a out e o k h; rw [thing] at h; cases h
    · intro a out j e o k h; rw [more] at h; cases h
    · intro a out e o k h; rw [many] at h; cases h
    · intro a out j e o k h; rw [rest] at h; cases h
    · intro a out e o k h; rw [row] at h; cases h
    · intro a out j e o k h; rw [alts] at h; cases h
    · intro a out e o k h; rw [alt] at h; cases h
  | succ f ih =>
    refine ⟨?_, ?_, ?_, ?_, ?_, ?_, ?_⟩
    · intro a out e o k h
      rw [thing] at h
      split at h
      · cases h
      · split at h
        · have := putm h; omega
        split at h
        · have := putm h; omega
        split at h
        · have := putm h; omega
        split at h
        · have := set_len h; omega
        split at h
        · split at h
          · cases h
          · rename_i e1 o1 k1 h1
            have hi := ih.alt (a + 1) out e1 o1 k1 h1
            split at h
            · simp at h
              obtain ⟨rfl, rfl, rfl⟩ := h
              omega
            · cases h
        split at h
        · split at h
          · cases h
          · split at h
            · have := putm h; omega
            · cases h
        split at h
        · cases h
        · have := putm h; omega
    · intro a out j e o k h
      rw [more] at h
      split at h
      · simp at h
        obtain ⟨rfl, rfl, rfl⟩ := h
        omega
      · split at h
        · split at h
          · cases h
          · rename_i o1 j1 h1
            have hl := put_len h1
            have hi := ih.more (a + 1) o1 j1 e o k h
            omega
        · simp at h
          obtain ⟨rfl, rfl, rfl⟩ := h
          omega
    · intro a out e o k h
      rw [many] at h
      split at h
      · cases h
      · rename_i e1 o1 k1 h1
        have hi := ih.thing a out e1 o1 k1 h1
        have hj := ih.more e1 o1 k1 e o k h
        omega
    · intro a out j e o k h
      rw [rest] at h
      split at h
      · simp at h
        obtain ⟨rfl, rfl, rfl⟩ := h
        omega
      · split at h
        · simp at h
          obtain ⟨rfl, rfl, rfl⟩ := h
          omega
        · split at h
          · cases h
          · rename_i e1 o1 j1 h1
            have hi := ih.many a out e1 o1 j1 h1
            split at h
            · cases h
            · rename_i o2 k2 h2
              have hl := put_len h2
              have hj := ih.rest e1 o2 k2 e o k h
              omega
    · intro a out e o k h
      rw [row] at h
      split at h
      · have := putm h; omega
      · split at h
        · cases h
        · rename_i e1 o1 k1 h1
          have hi := ih.many a out e1 o1 k1 h1
          have hj := ih.rest e1 o1 k1 e o k h
          omega
    · intro a out j e o k h
      rw [alts] at h
      split at h
      · split at h
        · cases h
        · rename_i e1 o1 j1 h1
          have hi := ih.row (a + 1) out e1 o1 j1 h1
          split at h
          · cases h
          · rename_i o2 k2 h2
            have hl := put_len h2
            have hj := ih.alts e1 o2 k2 e o k h
            omega
      · simp at h
        obtain ⟨rfl, rfl, rfl⟩ := h
        omega
    · intro a out e o k h
      rw [alt] at h
      split at h
      · cases h
      · rename_i e1 o1 k1 h1
        have hi := ih.row a out e1 o1 k1 h1
        have hj := ih.alts e1 o1 k1 e o k h
        omega
theorem alt_pos (l : List UInt8) (f a : Nat) (out o : List Pc) (e k : Nat) (h : alt l f a out = some (e, o, k)) : 0 < o.length := by
  have := (gr l f).alt a out e o k h
  omega
end Pp
end PartPPb
end Go.Proofs.YtlpdjmjbppmibaaGreat
