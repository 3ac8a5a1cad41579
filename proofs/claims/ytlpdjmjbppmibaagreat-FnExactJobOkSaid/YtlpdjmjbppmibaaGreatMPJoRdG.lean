/- The specification's reader of a pattern: a thing. -/
import Derived.Test.YtlpdjmjbppmibaaGreatMPJoRdF
namespace Go.Proofs.YtlpdjmjbppmibaaGreat
open Go.RowKit

/-- What a part of the reader promises: fid the part, F what it should tell, c and f how deep it may go. -/
def RdC (B g : Nat) (s : ByteArray) (fid : Nat) (F : Nat → Nat → List Pp.Pc → Option (Nat × List Pp.Pc × Nat)) (c f : Nat) : Prop :=
  ∀ (a : Nat) (v : Value) (ps : List Pp.Pc) (w : World), Rd w g s a false v → RP B w v ps → B ≤ w.heap.size → a ≤ s.size → ps.length ≤ 60 → 4 * (s.size - a) + c ≤ f →
    Calls Tryz.prog fid #[.pointer (some ⟨g, 0, none⟩)] w (RdPost B g s w (61 + f) (F f a ps))

theorem Rd.up {w w' : World} {g : Nat} {s : ByteArray} {a : Nat} {bad : Bool} {v : Value} (h : Rd w g s a bad v) (hb : Below w.heap.size w w') : Rd w' g s a bad v := (hb.block g (blk_lt h)).trans h
set_option maxRecDepth 100000 in
theorem conv2 (w : World) (g k : Nat) (z : Int) (b : UInt8) : (convert 139 9 (.slice (some ⟨w.heap.size, 0, none⟩) 1 1)).run Tryz.prog (((w.drewN k).setCell ⟨g, 1, none⟩ (.int .i64 z)).alloc (.cells #[.int .u8 (b.toNat : Int)] 5)) =
    .ok (.string ⟨[b].toArray⟩) (((w.drewN k).setCell ⟨g, 1, none⟩ (.int .i64 z)).alloc (.cells #[.int .u8 (b.toNat : Int)] 5)) := by
  have h := conv1 ((w.drewN k).setCell ⟨g, 1, none⟩ (.int .i64 z)) b
  have e : ((w.drewN k).setCell ⟨g, 1, none⟩ (.int .i64 z)).heap.size = w.heap.size := by simp [World.setCell]
  rwa [e] at h
set_option maxRecDepth 100000 in
theorem conv3 (w : World) (g k k2 : Nat) (z z2 : Int) (b : UInt8) : (convert 139 9 (.slice (some ⟨w.heap.size, 0, none⟩) 1 1)).run Tryz.prog (((((w.drewN k).setCell ⟨g, 1, none⟩ (.int .i64 z)).drewN k2).setCell ⟨g, 1, none⟩ (.int .i64 z2)).alloc (.cells #[.int .u8 (b.toNat : Int)] 5)) =
    .ok (.string ⟨[b].toArray⟩) (((((w.drewN k).setCell ⟨g, 1, none⟩ (.int .i64 z)).drewN k2).setCell ⟨g, 1, none⟩ (.int .i64 z2)).alloc (.cells #[.int .u8 (b.toNat : Int)] 5)) := by
  have h := conv2 ((w.drewN k).setCell ⟨g, 1, none⟩ (.int .i64 z)) g k2 z2 b
  have e : ((w.drewN k).setCell ⟨g, 1, none⟩ (.int .i64 z)).heap.size = w.heap.size := by simp [World.setCell]
  rwa [e] at h
theorem getAt (s : ByteArray) (a : Nat) (h : a < s.size) : s.data.toList[a]? = some s[a] := by
  rw [List.getElem?_eq_getElem (by simpa using h)]; rfl

set_option maxHeartbeats 2000000 in
set_option maxRecDepth 100000 in
theorem thing94 (B g : Nat) (s : ByteArray) (f : Nat) (hg : g < B) (hs : s.size ≤ 24) (a : Nat) (v : Value) (ps : List Pp.Pc) (w : World) (h : Rd w g s a false v) (hr : RP B w v ps) (hB : B ≤ w.heap.size) (ha : a < s.size) (hn : ps.length ≤ 60) (hx : s[a].toNat = 94) :
    Calls Tryz.prog 130 #[.pointer (some ⟨g, 0, none⟩)] w (RdPost B g s w (61 + (f + 1)) (Pp.thing s.data.toList (f + 1) a ps)) := by
  have hget := getAt s a ha
  have h256 : s[a].toNat < 256 := s[a].toNat_lt
  obtain ⟨c0, c1, c2, c3, f0, f1, f2, f3⟩ := cells4 h
  have dl : decide ((s.size : Int) ≤ (a : Int)) = false := decide_eq_false (by omega)
  have hi : (a : Int) < (s.size : Int) := by omega
  have HR0 : Hid (Rd w g s a false v) := h
  have HP0 : Hid (RP B w v ps) := hr
  have hb : s[a] = 94 := UInt8.toNat_inj.1 hx
  have HE : Hid (Pp.thing s.data.toList (f + 1) a ps = (Pp.put ps ⟨10, [], []⟩).map fun (o, k) => (a + 1, o, k)) := by
    show _ = _
    rw [Pp.thing, hget, hb]
    rfl
  have d94 : ((s[a].toNat : Int) == 94) = true := by rw [hx]; rfl
  clear hget hb hx h hr
  go_enter Tryz.func130, Tryz.ntmps130
  go_wp2_with fail
  go_quiet (fail)
  go_wp2_with fail
  go_quiet (fail)
  go_wp2_with fail
  refine (rdPut0 B g (a + 1) 10 s _ [] v ps _ (Rd.at (Rd.draw HR0.out _) _ (a + 1) (by omega)) (RP.setg (RP.draw HP0.out _) hg 1 _) hg (by simpa [World.setCell] using hB) (by omega) hn rfl).mono ?_
  intro e w5 hpost
  have HPO : Hid (RdPost B g s w (61 + (f + 1)) (Pp.thing s.data.toList (f + 1) a ps) e w5) := hpost.next (FB.setg (FB.draw (FB.refl g B w) _) 1 _) (by omega) HE.out
  obtain ⟨k, rfl⟩ := hpost.ret
  clear hpost
  go_wp2
  go_ret
  exact HPO.out

set_option maxHeartbeats 2000000 in
set_option maxRecDepth 100000 in
theorem thing36 (B g : Nat) (s : ByteArray) (f : Nat) (hg : g < B) (hs : s.size ≤ 24) (a : Nat) (v : Value) (ps : List Pp.Pc) (w : World) (h : Rd w g s a false v) (hr : RP B w v ps) (hB : B ≤ w.heap.size) (ha : a < s.size) (hn : ps.length ≤ 60) (hx : s[a].toNat = 36) :
    Calls Tryz.prog 130 #[.pointer (some ⟨g, 0, none⟩)] w (RdPost B g s w (61 + (f + 1)) (Pp.thing s.data.toList (f + 1) a ps)) := by
  have hget := getAt s a ha
  have h256 : s[a].toNat < 256 := s[a].toNat_lt
  obtain ⟨c0, c1, c2, c3, f0, f1, f2, f3⟩ := cells4 h
  have dl : decide ((s.size : Int) ≤ (a : Int)) = false := decide_eq_false (by omega)
  have hi : (a : Int) < (s.size : Int) := by omega
  have HR0 : Hid (Rd w g s a false v) := h
  have HP0 : Hid (RP B w v ps) := hr
  have hb : s[a] = 36 := UInt8.toNat_inj.1 hx
  have HE : Hid (Pp.thing s.data.toList (f + 1) a ps = (Pp.put ps ⟨11, [], []⟩).map fun (o, k) => (a + 1, o, k)) := by
    show _ = _
    rw [Pp.thing, hget, hb]
    rfl
  have d94 : ((s[a].toNat : Int) == 94) = false := by rw [hx]; rfl
  have d36 : ((s[a].toNat : Int) == 36) = true := by rw [hx]; rfl
  clear hget hb hx h hr
  go_enter Tryz.func130, Tryz.ntmps130
  go_wp2_with fail
  go_quiet (fail)
  go_wp2_with fail
  go_quiet (fail)
  go_wp2_with fail
  refine (rdPut0 B g (a + 1) 11 s _ [] v ps _ (Rd.at (Rd.draw HR0.out _) _ (a + 1) (by omega)) (RP.setg (RP.draw HP0.out _) hg 1 _) hg (by simpa [World.setCell] using hB) (by omega) hn rfl).mono ?_
  intro e w5 hpost
  have HPO : Hid (RdPost B g s w (61 + (f + 1)) (Pp.thing s.data.toList (f + 1) a ps) e w5) := hpost.next (FB.setg (FB.draw (FB.refl g B w) _) 1 _) (by omega) HE.out
  obtain ⟨k, rfl⟩ := hpost.ret
  clear hpost
  go_wp2
  go_ret
  exact HPO.out

set_option maxHeartbeats 2000000 in
set_option maxRecDepth 100000 in
theorem thing46 (B g : Nat) (s : ByteArray) (f : Nat) (hg : g < B) (hs : s.size ≤ 24) (a : Nat) (v : Value) (ps : List Pp.Pc) (w : World) (h : Rd w g s a false v) (hr : RP B w v ps) (hB : B ≤ w.heap.size) (ha : a < s.size) (hn : ps.length ≤ 60) (hx : s[a].toNat = 46) :
    Calls Tryz.prog 130 #[.pointer (some ⟨g, 0, none⟩)] w (RdPost B g s w (61 + (f + 1)) (Pp.thing s.data.toList (f + 1) a ps)) := by
  have hget := getAt s a ha
  have h256 : s[a].toNat < 256 := s[a].toNat_lt
  obtain ⟨c0, c1, c2, c3, f0, f1, f2, f3⟩ := cells4 h
  have dl : decide ((s.size : Int) ≤ (a : Int)) = false := decide_eq_false (by omega)
  have hi : (a : Int) < (s.size : Int) := by omega
  have HR0 : Hid (Rd w g s a false v) := h
  have HP0 : Hid (RP B w v ps) := hr
  have hb : s[a] = 46 := UInt8.toNat_inj.1 hx
  have HE : Hid (Pp.thing s.data.toList (f + 1) a ps = (Pp.put ps ⟨2, [], []⟩).map fun (o, k) => (a + 1, o, k)) := by
    show _ = _
    rw [Pp.thing, hget, hb]
    rfl
  have d94 : ((s[a].toNat : Int) == 94) = false := by rw [hx]; rfl
  have d36 : ((s[a].toNat : Int) == 36) = false := by rw [hx]; rfl
  have d46 : ((s[a].toNat : Int) == 46) = true := by rw [hx]; rfl
  clear hget hb hx h hr
  go_enter Tryz.func130, Tryz.ntmps130
  go_wp2_with fail
  go_quiet (fail)
  go_wp2_with fail
  go_quiet (fail)
  go_wp2_with fail
  refine (rdPut0 B g (a + 1) 2 s _ [] v ps _ (Rd.at (Rd.draw HR0.out _) _ (a + 1) (by omega)) (RP.setg (RP.draw HP0.out _) hg 1 _) hg (by simpa [World.setCell] using hB) (by omega) hn rfl).mono ?_
  intro e w5 hpost
  have HPO : Hid (RdPost B g s w (61 + (f + 1)) (Pp.thing s.data.toList (f + 1) a ps) e w5) := hpost.next (FB.setg (FB.draw (FB.refl g B w) _) 1 _) (by omega) HE.out
  obtain ⟨k, rfl⟩ := hpost.ret
  clear hpost
  go_wp2
  go_ret
  exact HPO.out

set_option maxHeartbeats 2000000 in
set_option maxRecDepth 100000 in
theorem thing91 (B g : Nat) (s : ByteArray) (f : Nat) (hg : g < B) (hs : s.size ≤ 24) (a : Nat) (v : Value) (ps : List Pp.Pc) (w : World) (h : Rd w g s a false v) (hr : RP B w v ps) (hB : B ≤ w.heap.size) (ha : a < s.size) (hn : ps.length ≤ 60) (hx : s[a].toNat = 91) :
    Calls Tryz.prog 130 #[.pointer (some ⟨g, 0, none⟩)] w (RdPost B g s w (61 + (f + 1)) (Pp.thing s.data.toList (f + 1) a ps)) := by
  have hget := getAt s a ha
  have h256 : s[a].toNat < 256 := s[a].toNat_lt
  obtain ⟨c0, c1, c2, c3, f0, f1, f2, f3⟩ := cells4 h
  have dl : decide ((s.size : Int) ≤ (a : Int)) = false := decide_eq_false (by omega)
  have hi : (a : Int) < (s.size : Int) := by omega
  have HR0 : Hid (Rd w g s a false v) := h
  have HP0 : Hid (RP B w v ps) := hr
  have hb : s[a] = 91 := UInt8.toNat_inj.1 hx
  have HE : Hid (Pp.thing s.data.toList (f + 1) a ps = Pp.set s.data.toList (a + 1) ps) := by
    show _ = _
    rw [Pp.thing, hget, hb]
    rfl
  have d94 : ((s[a].toNat : Int) == 94) = false := by rw [hx]; rfl
  have d36 : ((s[a].toNat : Int) == 36) = false := by rw [hx]; rfl
  have d46 : ((s[a].toNat : Int) == 46) = false := by rw [hx]; rfl
  have d91 : ((s[a].toNat : Int) == 91) = true := by rw [hx]; rfl
  clear hget hb hx h hr
  go_enter Tryz.func130, Tryz.ntmps130
  go_wp2_with fail
  go_quiet (fail)
  go_wp2_with fail
  go_quiet (fail)
  go_wp2_with fail
  refine (rdSetP B g a s v ps _ (Rd.draw HR0.out _) (RP.draw HP0.out _) hg hB ha hs hn).mono ?_
  intro e w5 hpost
  have HPO : Hid (RdPost B g s w (61 + (f + 1)) (Pp.thing s.data.toList (f + 1) a ps) e w5) := hpost.next (FB.draw (FB.refl g B w) _) (by omega) HE.out
  obtain ⟨k, rfl⟩ := hpost.ret
  clear hpost
  go_wp2
  go_ret
  exact HPO.out

set_option maxHeartbeats 2000000 in
set_option maxRecDepth 100000 in
theorem thing40 (B g : Nat) (s : ByteArray) (f : Nat) (hg : g < B) (hs : s.size ≤ 24) (hA : RdC B g s 108 (Pp.alt s.data.toList) 4 f) (a : Nat) (v : Value) (ps : List Pp.Pc) (w : World) (h : Rd w g s a false v) (hr : RP B w v ps) (hB : B ≤ w.heap.size) (ha : a < s.size) (hn : ps.length ≤ 60) (hd : 4 * (s.size - a) + 1 ≤ f + 1) (hx : s[a].toNat = 40) :
    Calls Tryz.prog 130 #[.pointer (some ⟨g, 0, none⟩)] w (RdPost B g s w (61 + (f + 1)) (Pp.thing s.data.toList (f + 1) a ps)) := by
  have hget := getAt s a ha
  have h256 : s[a].toNat < 256 := s[a].toNat_lt
  obtain ⟨c0, c1, c2, c3, f0, f1, f2, f3⟩ := cells4 h
  have dl : decide ((s.size : Int) ≤ (a : Int)) = false := decide_eq_false (by omega)
  have hi : (a : Int) < (s.size : Int) := by omega
  have HR0 : Hid (Rd w g s a false v) := h
  have HP0 : Hid (RP B w v ps) := hr
  have hb : s[a] = 40 := UInt8.toNat_inj.1 hx
  have HE : Hid (Pp.thing s.data.toList (f + 1) a ps = match Pp.alt s.data.toList f (a + 1) ps with
      | none => none
      | some (e, o, k) => if s.data.toList[e]? = some 41 then some (e + 1, o, k) else none) := by
    show _ = _
    rw [Pp.thing, hget, hb]
    rfl
  have d94 : ((s[a].toNat : Int) == 94) = false := by rw [hx]; rfl
  have d36 : ((s[a].toNat : Int) == 36) = false := by rw [hx]; rfl
  have d46 : ((s[a].toNat : Int) == 46) = false := by rw [hx]; rfl
  have d91 : ((s[a].toNat : Int) == 91) = false := by rw [hx]; rfl
  have d40 : ((s[a].toNat : Int) == 40) = true := by rw [hx]; rfl
  clear hget hb hx h hr
  have HA : Hid (∀ (w1 : World), Rd w1 g s (a + 1) false v → RP B w1 v ps → B ≤ w1.heap.size → Calls Tryz.prog 108 #[.pointer (some ⟨g, 0, none⟩)] w1 (RdPost B g s w1 (61 + f) (Pp.alt s.data.toList f (a + 1) ps))) :=
    fun w1 h1 h2 h3 => hA (a + 1) v ps w1 h1 h2 h3 (by omega) hn (by omega)
  clear hA
  go_enter Tryz.func130, Tryz.ntmps130
  go_wp2_with fail
  go_quiet (fail)
  go_wp2_with fail
  go_quiet (fail)
  go_wp2_with fail
  refine (HA.out _ (Rd.at (Rd.draw HR0.out _) _ (a + 1) (by omega)) (RP.setg (RP.draw HP0.out _) hg 1 _) (by simpa [World.setCell] using hB)).mono ?_
  intro e w5 hpost
  clear HA
  obtain ⟨hfb, hpost⟩ := hpost
  have HF5 : Hid (FB g B w w5) := (FB.setg (FB.draw (FB.refl g B w) _) 1 _).trans hfb
  clear hfb
  cases hR : Pp.alt s.data.toList f (a + 1) ps with
  | none =>
    rw [hR] at hpost
    obtain ⟨k, a5, v5, n5, cs5, rfl, ha5, r5, p5, hn5⟩ := hpost
    have HT : Hid (Pp.thing s.data.toList (f + 1) a ps = none) := by show _ = _; rw [HE.out, hR]
    clear HE hR
    have CI := rdIs_any g a5 41 s true v5 w5 r5 ha5 (by decide)
    go_wp2_with fail
    refine CI.mono ?_
    rintro e w6 ⟨rfl, k6, rfl⟩
    clear CI
    obtain ⟨e0, e1, e2, e3, g0, g1, g2, g3⟩ := cells4 (r5.draw k6)
    go_wp2
    go_ret
    exact RdPost.bad (FB.setg (FB.draw HF5.out _) 2 _) (Rd.bad (Rd.draw r5 _)) (PR.set (B := B) (w := w5.drewN _) p5 hg 2 _) (by omega) ha5 HT.out 0
  | some r =>
    obtain ⟨e1, o, k⟩ := r
    rw [hR] at hpost
    obtain ⟨rfl, ha5, ho, v5, r5, p5⟩ := hpost
    have CI := rdIs_any g e1 41 s false v5 w5 r5 ha5 (by decide)
    have e41 : UInt8.ofNat 41 = 41 := rfl
    rw [e41] at CI
    by_cases h41 : s.data.toList[e1]? = some 41
    · rw [decide_eq_true h41] at CI
      have hlt : e1 < s.size := by
        have := (List.getElem?_eq_some_iff.1 h41).1
        simpa using this
      have HT : Hid (Pp.thing s.data.toList (f + 1) a ps = some (e1 + 1, o, k)) := by show _ = _; rw [HE.out, hR]; simp only [h41, ↓reduceIte]
      clear HE hR h41
      go_wp2_with fail
      refine CI.mono ?_
      rintro e w6 ⟨rfl, k6, rfl⟩
      clear CI
      obtain ⟨x0, x1, x2, x3, g0, g1, g2, g3⟩ := cells4 (r5.draw k6)
      go_wp2
      go_ret
      refine ⟨FB.setg (FB.draw HF5.out _) 1 _, ?_⟩
      rw [HT.out]
      exact ⟨rfl, by omega, ho, v5, Rd.at (Rd.draw r5 _) _ (e1 + 1) (by omega), RP.setg (RP.draw p5 _) hg 1 _⟩
    · rw [decide_eq_false h41] at CI
      have HT : Hid (Pp.thing s.data.toList (f + 1) a ps = none) := by show _ = _; rw [HE.out, hR]; simp only [h41, ↓reduceIte]
      clear HE hR h41
      obtain ⟨cs5, q5⟩ := p5.pr
      go_wp2_with fail
      refine CI.mono ?_
      rintro e w6 ⟨rfl, k6, rfl⟩
      clear CI
      obtain ⟨x0, x1, x2, x3, g0, g1, g2, g3⟩ := cells4 (r5.draw k6)
      go_wp2
      go_ret
      exact RdPost.bad (FB.setg (FB.draw HF5.out _) 2 _) (Rd.bad (Rd.draw r5 _)) (PR.set (B := B) (w := w5.drewN _) q5 hg 2 _) (by omega) ha5 HT.out 0

set_option maxHeartbeats 2000000 in
set_option maxRecDepth 100000 in
theorem thing92 (B g : Nat) (s : ByteArray) (f : Nat) (hg : g < B) (hs : s.size ≤ 24) (a : Nat) (v : Value) (ps : List Pp.Pc) (w : World) (h : Rd w g s a false v) (hr : RP B w v ps) (hB : B ≤ w.heap.size) (ha : a < s.size) (hn : ps.length ≤ 60) (hx : s[a].toNat = 92) :
    Calls Tryz.prog 130 #[.pointer (some ⟨g, 0, none⟩)] w (RdPost B g s w (61 + (f + 1)) (Pp.thing s.data.toList (f + 1) a ps)) := by
  have hget := getAt s a ha
  have h256 : s[a].toNat < 256 := s[a].toNat_lt
  obtain ⟨c0, c1, c2, c3, f0, f1, f2, f3⟩ := cells4 h
  have dl : decide ((s.size : Int) ≤ (a : Int)) = false := decide_eq_false (by omega)
  have hi : (a : Int) < (s.size : Int) := by omega
  have HR0 : Hid (Rd w g s a false v) := h
  have HP0 : Hid (RP B w v ps) := hr
  have hb : s[a] = 92 := UInt8.toNat_inj.1 hx
  have HE : Hid (Pp.thing s.data.toList (f + 1) a ps = match s.data.toList[a + 1]? with
      | none => none
      | some c => if Pp.special c then (Pp.put ps ⟨1, [c], []⟩).map fun (o, k) => (a + 2, o, k) else none) := by
    show _ = _
    rw [Pp.thing, hget, hb]
    rfl
  have d94 : ((s[a].toNat : Int) == 94) = false := by rw [hx]; rfl
  have d36 : ((s[a].toNat : Int) == 36) = false := by rw [hx]; rfl
  have d46 : ((s[a].toNat : Int) == 46) = false := by rw [hx]; rfl
  have d91 : ((s[a].toNat : Int) == 91) = false := by rw [hx]; rfl
  have d40 : ((s[a].toNat : Int) == 40) = false := by rw [hx]; rfl
  have d92 : ((s[a].toNat : Int) == 92) = true := by rw [hx]; rfl
  clear hget hb hx h hr
  obtain ⟨cs, hp⟩ := HP0.out.pr
  have HPR : Hid (PR B w v ps.length cs) := hp
  clear hp
  by_cases hlt : a + 1 < s.size
  · have hget1 := getAt s (a + 1) hlt
    obtain ⟨b, hbb⟩ : ∃ b, b = s[a + 1] := ⟨_, rfl⟩
    rw [← hbb] at hget1
    have h2561 : b.toNat < 256 := b.toNat_lt
    have hidx : s[a + 1] = b := hbb.symm
    have dl1 : decide ((s.size : Int) ≤ (a : Int) + 1) = false := decide_eq_false (by omega)
    have hi1 : (a : Int) + 1 < (s.size : Int) := by omega
    have hj1 : ((a : Int) + 1).toNat = a + 1 := by omega
    have CS : Hid (∀ w' : World, Calls Tryz.prog 134 #[.int .u8 (b.toNat : Int)] w' fun e w'' => e = .returned (.bool (Pp.special b)) ∧ w'' = w') := fun w' => special_any b w'
    cases hsp : Pp.special b with
    | true =>
      rw [hsp] at CS
      have HT : Hid (Pp.thing s.data.toList (f + 1) a ps = (Pp.put ps ⟨1, [b], []⟩).map fun (o, k) => (a + 2, o, k)) := by show _ = _; rw [HE.out, hget1]; simp only [hsp, ↓reduceIte]
      clear HE hsp hget1 hbb HPR
      have hcv := fun k k2 => conv3 w g k k2 ((a : Int) + 1) ((a : Int) + 1 + 1) b
      go_enter Tryz.func130, Tryz.ntmps130
      go_wp2_with fail
      go_quiet (fail)
      go_wp2_with fail
      go_quiet (fail)
      go_wp2_with fail
      go_quiet ((go_at_call 134; refine Calls.quiet_of_same (CS.out _)))
      go_wp2_with fail
      go_quiet (fail)
      go_wp2_with fail
      have HR1 := fun k k2 => Rd.at (Rd.draw (Rd.at (Rd.draw HR0.out k) ((a : Int) + 1) (a + 1) (by omega)) k2) ((a : Int) + 1 + 1) (a + 2) (by omega)
      have HP1 := fun k k2 => RP.setg (RP.draw (RP.setg (RP.draw HP0.out k) hg 1 (.int .i64 ((a : Int) + 1))) k2) hg 1 (.int .i64 ((a : Int) + 1 + 1))
      have HF1 := fun k k2 => FB.setg (FB.draw (FB.setg (FB.draw (FB.refl g B w) k) 1 (.int .i64 ((a : Int) + 1))) k2) 1 (.int .i64 ((a : Int) + 1 + 1))
      have HUP : ∀ (W : World) (o : Obj), Below W.heap.size W (W.alloc o) := fun W o => (Below.refl _ _).alloc (Nat.le_refl _) _
      refine (rdPut0 B g (a + 2) 1 s _ [b] v ps _ (Rd.up (HR1 _ _) (HUP _ _)) (RP.up (HP1 _ _) (HUP _ _)) hg (by simp [World.setCell]; omega) (by omega) hn rfl).mono ?_
      intro e w5 hpost
      have HPO : Hid (RdPost B g s w (61 + (f + 1)) (Pp.thing s.data.toList (f + 1) a ps) e w5) := hpost.next ((HF1 _ _).trans (FB.of ((HUP _ _).mono (by simp [World.setCell]; omega)))) (by omega) HT.out
      obtain ⟨k, rfl⟩ := hpost.ret
      clear hpost HR1 HP1 HF1 HUP
      go_wp2
      go_ret
      exact HPO.out
    | false =>
      rw [hsp] at CS
      have HT : Hid (Pp.thing s.data.toList (f + 1) a ps = none) := by show _ = _; rw [HE.out, hget1]; simp only [hsp, Bool.false_eq_true, ↓reduceIte]
      clear HE hsp hget1 hbb
      go_enter Tryz.func130, Tryz.ntmps130
      go_wp2_with fail
      go_quiet (fail)
      go_wp2_with fail
      go_quiet (fail)
      go_wp2_with fail
      go_quiet ((go_at_call 134; refine Calls.quiet_of_same (CS.out _)))
      go_wp2
      go_ret
      exact RdPost.bad (FB.setg (FB.draw (FB.setg (FB.draw (FB.refl g B w) _) 1 _) _) 2 _) (Rd.bad (Rd.draw (Rd.at (Rd.draw HR0.out _) _ (a + 1) (by omega)) _)) (PR.set (B := B) (PR.set (B := B) (w := w.drewN _) HPR.out hg 1 _) hg 2 _) (by omega) (by omega) HT.out 0
  · have hget1 : s.data.toList[a + 1]? = none := List.getElem?_eq_none (by simp; omega)
    have HT : Hid (Pp.thing s.data.toList (f + 1) a ps = none) := by show _ = _; rw [HE.out, hget1]
    have dl1 : decide ((s.size : Int) ≤ (a : Int) + 1) = true := decide_eq_true (by omega)
    clear HE hget1
    go_enter Tryz.func130, Tryz.ntmps130
    go_wp2_with fail
    go_quiet (fail)
    go_wp2_with fail
    go_quiet (fail)
    go_wp2_with fail
    go_quiet (fail)
    go_wp2
    go_ret
    exact RdPost.bad (FB.setg (FB.draw (FB.setg (FB.draw (FB.refl g B w) _) 1 _) _) 2 _) (Rd.bad (Rd.draw (Rd.at (Rd.draw HR0.out _) _ (a + 1) (by omega)) _)) (PR.set (B := B) (PR.set (B := B) (w := w.drewN _) HPR.out hg 1 _) hg 2 _) (by omega) (by omega) HT.out 0

set_option maxHeartbeats 2000000 in
set_option maxRecDepth 100000 in
theorem thingOther (B g : Nat) (s : ByteArray) (f : Nat) (hg : g < B) (hs : s.size ≤ 24) (a : Nat) (v : Value) (ps : List Pp.Pc) (w : World) (h : Rd w g s a false v) (hr : RP B w v ps) (hB : B ≤ w.heap.size) (ha : a < s.size) (hn : ps.length ≤ 60) (hx : s[a].toNat ≠ 94 ∧ s[a].toNat ≠ 36 ∧ s[a].toNat ≠ 46 ∧ s[a].toNat ≠ 91 ∧ s[a].toNat ≠ 40 ∧ s[a].toNat ≠ 92) :
    Calls Tryz.prog 130 #[.pointer (some ⟨g, 0, none⟩)] w (RdPost B g s w (61 + (f + 1)) (Pp.thing s.data.toList (f + 1) a ps)) := by
  have hget := getAt s a ha
  have h256 : s[a].toNat < 256 := s[a].toNat_lt
  obtain ⟨c0, c1, c2, c3, f0, f1, f2, f3⟩ := cells4 h
  have dl : decide ((s.size : Int) ≤ (a : Int)) = false := decide_eq_false (by omega)
  have hi : (a : Int) < (s.size : Int) := by omega
  have HR0 : Hid (Rd w g s a false v) := h
  have HP0 : Hid (RP B w v ps) := hr
  obtain ⟨h94, h36, h46, h91, h40, h92⟩ := hx
  obtain ⟨b, hbb⟩ : ∃ b, b = s[a] := ⟨_, rfl⟩
  have HE : Hid (Pp.thing s.data.toList (f + 1) a ps = if Pp.special b then none else (Pp.put ps ⟨1, [b], []⟩).map fun (o, k) => (a + 1, o, k)) := by
    show _ = _
    have n94 : ¬ b = 94 := by rw [hbb]; intro e; apply h94; rw [e]; rfl
    have n36 : ¬ b = 36 := by rw [hbb]; intro e; apply h36; rw [e]; rfl
    have n46 : ¬ b = 46 := by rw [hbb]; intro e; apply h46; rw [e]; rfl
    have n91 : ¬ b = 91 := by rw [hbb]; intro e; apply h91; rw [e]; rfl
    have n40 : ¬ b = 40 := by rw [hbb]; intro e; apply h40; rw [e]; rfl
    have n92 : ¬ b = 92 := by rw [hbb]; intro e; apply h92; rw [e]; rfl
    rw [Pp.thing, hget, ← hbb]
    simp only [n94, n36, n46, n91, n40, n92, ↓reduceIte]
  have d94 : ((s[a].toNat : Int) == 94) = false := by simp only [beq_eq_false_iff_ne, ne_eq]; omega
  have d36 : ((s[a].toNat : Int) == 36) = false := by simp only [beq_eq_false_iff_ne, ne_eq]; omega
  have d46 : ((s[a].toNat : Int) == 46) = false := by simp only [beq_eq_false_iff_ne, ne_eq]; omega
  have d91 : ((s[a].toNat : Int) == 91) = false := by simp only [beq_eq_false_iff_ne, ne_eq]; omega
  have d40 : ((s[a].toNat : Int) == 40) = false := by simp only [beq_eq_false_iff_ne, ne_eq]; omega
  have d92 : ((s[a].toNat : Int) == 92) = false := by simp only [beq_eq_false_iff_ne, ne_eq]; omega
  rw [← hbb] at d94 d36 d46 d91 d40 d92 h256
  have hidx : s[a] = b := hbb.symm
  have CS : Hid (∀ w' : World, Calls Tryz.prog 134 #[.int .u8 (b.toNat : Int)] w' fun e w'' => e = .returned (.bool (Pp.special b)) ∧ w'' = w') := fun w' => special_any b w'
  clear hget h94 h36 h46 h91 h40 h92 h hr hbb
  cases hsp : Pp.special b with
  | true =>
    rw [hsp] at CS HE
    have HT : Hid (Pp.thing s.data.toList (f + 1) a ps = none) := by show _ = _; rw [HE.out]; rfl
    clear HE hsp
    obtain ⟨cs, hp⟩ := HP0.out.pr
    have HPR : Hid (PR B w v ps.length cs) := hp
    clear hp
    go_enter Tryz.func130, Tryz.ntmps130
    go_wp2_with fail
    go_quiet (fail)
    go_wp2_with fail
    go_quiet (fail)
    go_wp2_with fail
    refine (CS.out _).mono ?_
    rintro e w1 ⟨rfl, rfl⟩
    go_wp2
    go_ret
    exact RdPost.bad (FB.setg (FB.draw (FB.refl g B w) _) 2 _) (Rd.bad (Rd.draw HR0.out _)) (PR.set (B := B) (w := w.drewN _) HPR.out hg 2 _) (by omega) (by omega) HT.out 0
  | false =>
    rw [hsp] at CS HE
    have HT : Hid (Pp.thing s.data.toList (f + 1) a ps = (Pp.put ps ⟨1, [b], []⟩).map fun (o, k) => (a + 1, o, k)) := by show _ = _; rw [HE.out]; rfl
    clear HE hsp
    have hcv := fun k => conv2 w g k ((a : Int) + 1) b
    go_enter Tryz.func130, Tryz.ntmps130
    go_wp2_with fail
    go_quiet (fail)
    go_wp2_with fail
    go_quiet (fail)
    go_wp2_with fail
    refine (CS.out _).mono ?_
    rintro e w1 ⟨rfl, rfl⟩
    go_wp2_with fail
    have HUP : Hid (∀ (k : Nat) (o : Obj), Below ((w.drewN k).setCell ⟨g, 1, none⟩ (.int .i64 ((a : Int) + 1))).heap.size ((w.drewN k).setCell ⟨g, 1, none⟩ (.int .i64 ((a : Int) + 1))) (((w.drewN k).setCell ⟨g, 1, none⟩ (.int .i64 ((a : Int) + 1))).alloc o)) := fun k o => (Below.refl _ _).alloc (Nat.le_refl _) _
    refine (rdPut0 B g (a + 1) 1 s _ [b] v ps _ (Rd.up (Rd.at (Rd.draw HR0.out _) _ (a + 1) (by omega)) (HUP.out _ _)) (RP.up (RP.setg (RP.draw HP0.out _) hg 1 _) (HUP.out _ _)) hg (by simp [World.setCell]; omega) (by omega) hn rfl).mono ?_
    intro e w5 hpost
    have HPO : Hid (RdPost B g s w (61 + (f + 1)) (Pp.thing s.data.toList (f + 1) a ps) e w5) := hpost.next ((FB.setg (FB.draw (FB.refl g B w) _) 1 _).trans (FB.of ((HUP.out _ _).mono (by simp [World.setCell]; omega)))) (by omega) HT.out
    obtain ⟨k, rfl⟩ := hpost.ret
    clear hpost
    go_wp2
    go_ret
    exact HPO.out

set_option maxRecDepth 100000 in
/-- A thing. -/
theorem rdThing (B g : Nat) (s : ByteArray) (f : Nat) (hg : g < B) (hs : s.size ≤ 24) (hA : RdC B g s 108 (Pp.alt s.data.toList) 4 f) (a : Nat) (v : Value) (ps : List Pp.Pc) (w : World) (h : Rd w g s a false v) (hr : RP B w v ps) (hB : B ≤ w.heap.size) (ha : a < s.size) (hn : ps.length ≤ 60) (hd : 4 * (s.size - a) + 1 ≤ f + 1) :
    Calls Tryz.prog 130 #[.pointer (some ⟨g, 0, none⟩)] w (RdPost B g s w (61 + (f + 1)) (Pp.thing s.data.toList (f + 1) a ps)) := by
  by_cases h94 : s[a].toNat = 94
  · exact thing94 B g s f hg hs a v ps w h hr hB ha hn h94
  by_cases h36 : s[a].toNat = 36
  · exact thing36 B g s f hg hs a v ps w h hr hB ha hn h36
  by_cases h46 : s[a].toNat = 46
  · exact thing46 B g s f hg hs a v ps w h hr hB ha hn h46
  by_cases h91 : s[a].toNat = 91
  · exact thing91 B g s f hg hs a v ps w h hr hB ha hn h91
  by_cases h40 : s[a].toNat = 40
  · exact thing40 B g s f hg hs hA a v ps w h hr hB ha hn hd h40
  by_cases h92 : s[a].toNat = 92
  · exact thing92 B g s f hg hs a v ps w h hr hB ha hn h92
  exact thingOther B g s f hg hs a v ps w h hr hB ha hn ⟨h94, h36, h46, h91, h40, h92⟩
end Go.Proofs.YtlpdjmjbppmibaaGreat
