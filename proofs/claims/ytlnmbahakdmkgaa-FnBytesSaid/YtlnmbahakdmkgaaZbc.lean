/- When a pattern is right: what PatternOk of the program answers, at every pattern. Where a piece may end: the program's EndsAt. -/
import Derived.Test.YtlnmbahakdmkgaaZbb
namespace Go.Proofs.Ytlnmbahakdmkgaa
section PartPtF
open Go.RowKit

set_option maxHeartbeats 2000000 in
theorem implOk_any (v : Value) (ps : List Pi) (w : World) (h : PcsAt w v ps) (hl : ps.length ≤ 1048576) (hs : Small ps ps.length) :
    Calls Try.prog 24 #[.agg #[v]] w fun e w' => e = .returned (.bool (Pk.pat ps)) ∧ Below w.heap.size w w' := by
  obtain ⟨ad, c, rfl, f⟩ := h
  obtain ⟨n, hn⟩ : ∃ n, n = ps.length := ⟨_, rfl⟩
  have HV : Hid (Pk.pat ps = (decide (1 ≤ n ∧ n ≤ 60) && Pk.upto ps n)) := by rw [hn]; rfl
  have HS : Hid (Small ps n) := by rw [hn]; exact hs
  rw [← hn] at f hl ⊢
  have HFP : Hid (0 < n → ∃ b o, ad = some ⟨b, o, none⟩ ∧ b < w.heap.size ∧ ∀ i, i < n → PieceAt w b (o + i * 3) (ps.getD i Pi.no)) := f
  clear hs hn f
  have HB : Hid (∀ o : Obj, Below w.heap.size w (w.alloc o)) := fun o => (Below.refl _ _).alloc (Nat.le_refl _) _
  by_cases h1 : n < 1
  · have d1 : decide ((n : Int) < 1) = true := decide_eq_true (by omega)
    have HR : Hid (Pk.pat ps = false) := by show _ = _; rw [HV.out, decide_eq_false (by omega), Bool.false_and]
    go_enter Try.func24, Try.ntmps24
    go_wp2
    go_ret
    rw [HR.out]
    exact ⟨rfl, HB.out _⟩
  · have d1 : decide ((n : Int) < 1) = false := decide_eq_false (by omega)
    by_cases h2 : 60 < n
    · have d2 : decide ((60 : Int) < (n : Int)) = true := decide_eq_true (by omega)
      have HR : Hid (Pk.pat ps = false) := by show _ = _; rw [HV.out, decide_eq_false (by omega), Bool.false_and]
      go_enter Try.func24, Try.ntmps24
      go_wp2
      go_ret
      rw [HR.out]
      exact ⟨rfl, HB.out _⟩
    · have d2 : decide ((60 : Int) < (n : Int)) = false := decide_eq_false (by omega)
      have HV2 : Hid (Pk.pat ps = Pk.upto ps n) := by show _ = _; rw [HV.out, decide_eq_true (by omega), Bool.true_and]
      obtain ⟨b, o, rfl, hb, hc⟩ := HFP.out (by omega)
      have HC : Hid (∀ i, i < n → PieceAt w b (o + i * 3) (ps.getD i Pi.no)) := hc
      clear HFP HV hc h1 h2
      go_enter Try.func24, Try.ntmps24
      go_wp2
      go_loopw [18] (fun i wr => ∃ k : Nat, i = .int .i64 (k : Int) ∧ k ≤ n ∧ Below w.heap.size w wr ∧ Hid (Pk.upto ps k = true)) (fun i _ => n - (intOf i).toNat)
      case atStart => exact ⟨0, rfl, by omega, HB.out _, rfl⟩
      case round =>
        obtain ⟨k, rfl, hk, hbel, HU⟩ := hrel
        have hsz := hbel.size
        by_cases hlt : k < n
        · have hpc := HC.out k hlt
          have hkl := (HS.out k hlt).1
          obtain ⟨p, hp⟩ : ∃ p, p = ps.getD k Pi.no := ⟨_, rfl⟩
          rw [← hp] at hpc hkl
          have HP : Hid (p = ps.getD k Pi.no) := hp
          clear hp
          obtain ⟨kv, c0, c1, c2, hkv⟩ := hpc
          have e0 := (hbel.cell hb).trans c0
          have e1 := (hbel.cell hb).trans c1
          have e2 := (hbel.cell hb).trans c2
          have hkv2 := hkv.keep hbel
          clear c0 c1 c2 hkv
          obtain ⟨pb, hpb⟩ : ∃ pb, pb = Pk.piece k p := ⟨_, rfl⟩
          have CP : Hid (∀ w', Below wr.heap.size wr w' → Calls Try.prog 46 #[.agg #[.int .i64 p.op, .string p.text, kv], .int .i64 (k : Int)] w' fun e w'' => e = .returned (.bool pb) ∧ Below w'.heap.size w' w'') := by
            rw [hpb]
            exact fun w' hb => pieceOk_any kv p k w' (hkv2.keep hb) hkl
          have HPB : Hid (pb = Pk.piece k (ps.getD k Pi.no)) := by show _ = _; rw [hpb, HP.out]
          clear hpb HP
          obtain ⟨op, t, ks⟩ := p
          simp only at e0 e1 CP
          obtain ⟨ka, kc, rfl, _⟩ := hkv2
          have i1 : (k : Int) < (n : Int) := by omega
          go_wp2_with fail
          refine (CP.out _ ((Below.refl _ _).alloc (Nat.le_refl _) _)).mono ?_
          rintro e w1 ⟨rfl, hb1⟩
          have hb2 : Below w.heap.size w w1 := (hbel.alloc hsz _).trans (hb1.mono (by simp; omega))
          cases pb with
          | true =>
            have HR : Hid (Pk.upto ps (k + 1) = true) := by show _ = _; rw [Pk.upto_succ, HU.out, ← HPB.out]; rfl
            go_wp2
            go_roundw
            case rel => exact ⟨k + 1, by go_num, by omega, hb2, HR.out⟩
            case measure => simp [intOf]; omega
          | false =>
            have HR : Hid (Pk.upto ps n = false) := Pk.upto_false ps n k hlt HPB.out.symm
            go_wp2
            go_ret
            rw [HV2.out, HR.out]
            exact ⟨rfl, hb2⟩
        · obtain rfl : k = n := by omega
          go_wp2
          go_ret
          rw [HV2.out, HU.out]
          exact ⟨rfl, hbel⟩
end PartPtF
section PartIpO
open Go.RowKit Go.Maps

theorem list_upTo (ps : List Pi) (s : ByteArray) (k i : Nat) : En.list ps s k i = upTo (s.size + 1) (En.Ends ps s k i) := rfl

/-- From new linked pieces on: where piece k may end. -/
theorem linked_ends2 {c : Im} (L : ILie c) {W : World} (hm : IMemo c (fun _ => False) W) (h0 : c.M0 ≤ W.heap.size) (k i : Nat) (hk : k < c.K) (hi : i < c.s.size + 1) :
    Calls Try.prog 26 #[.pointer (some ⟨c.P k, 0, none⟩), .string c.s, .int .i64 (i : Int)] W (fun e w' => ∃ ob, e = .returned (.map ob) ∧ OS w' 0 ob (En.Ends c.ps c.s k i) ∧ Below c.M0 W w' ∧ IMemo c (fun _ => False) w') := by
  refine (ends_all c L k hk _ W i (fun _ h => h.elim) hm hi).mono ?_
  rintro e w' ⟨ob, rfl, o1, -, o3, o4⟩
  exact ⟨ob, rfl, o1.low (Nat.zero_le _), o4.below h0, o3⟩
theorem linked_ends {c : Im} (L : ILie c) {W : World} (hm : IMemo c (fun _ => False) W) (h0 : c.M0 ≤ W.heap.size) (k i : Nat) (hk : k < c.K) (hi : i < c.s.size + 1) :
    Calls Try.prog 26 #[.pointer (some ⟨c.P k, 0, none⟩), .string c.s, .int .i64 (i : Int)] W (fun e w' => ∃ ob, e = .returned (.map ob) ∧ OS w' 0 ob (En.Ends c.ps c.s k i) ∧ Below c.M0 W w') := by
  refine (linked_ends2 L hm h0 k i hk hi).mono ?_
  rintro e w' ⟨ob, rfl, o1, o2, -⟩
  exact ⟨ob, rfl, o1, o2⟩

set_option maxHeartbeats 4000000 in
set_option maxRecDepth 100000 in
theorem implEnds (v : Value) (ps : List Pi) (s : ByteArray) (k i : Int) (w : World) (h : PcsAt w v ps) (hl : ps.length ≤ 1048576) (hsm : Small ps ps.length) (hs : s.size ≤ 1048576) :
    Calls Try.prog 36 #[.agg #[v], .int .i64 k, .string s, .int .i64 i] w (fun e w' => ∃ y, e = .returned y ∧ Ws w.heap.size w' y (En.ans ps s k i) ∧ Below w.heap.size w w') := by
  have CP : Hid (∀ w' : World, Below w.heap.size w w' → Calls Try.prog 24 #[.agg #[v]] w' fun e w'' => e = .returned (.bool (Pk.pat ps)) ∧ Below w'.heap.size w' w'') := fun w' hb => implOk_any v ps w' (h.keep hb) hl hsm
  have HPV : Hid (PcsAt w v ps) := h
  have HA : Hid (∀ ws, ws = En.ans ps s k i → ws = if Pk.pat ps = true ∧ (0 ≤ k ∧ k ≤ (ps.length : Int) - 1) ∧ (0 ≤ i ∧ i ≤ (s.size : Int)) then En.list ps s k.toNat i.toNat else []) := fun ws e => e
  obtain ⟨pt, hpt⟩ : ∃ pt, pt = Pk.pat ps := ⟨_, rfl⟩
  obtain ⟨ws, hws⟩ : ∃ ws, ws = En.ans ps s k i := ⟨_, rfl⟩
  have HWS := HA.out ws hws
  rw [← hws]
  rw [← hpt] at CP HWS
  have HPT : Hid (pt = Pk.pat ps) := hpt
  obtain ⟨va, vc, rfl, -⟩ := h
  obtain ⟨n, hn⟩ : ∃ n, n = ps.length := ⟨_, rfl⟩
  rw [← hn] at CP hl HWS HPV
  have HWH : Hid (ws = if pt = true ∧ (0 ≤ k ∧ k ≤ (n : Int) - 1) ∧ (0 ≤ i ∧ i ≤ (s.size : Int)) then En.list ps s k.toNat i.toNat else []) := HWS
  have HN : Hid (n = ps.length) := hn
  clear hpt hws HA HWS hsm
  rw [← hn]
  clear hn
  have HB1 : Hid (∀ A : Obj, Below w.heap.size w (w.alloc A)) := fun A => (Below.refl _ _).alloc (Nat.le_refl _) _
  go_enter Try.func36, Try.ntmps36
  go_wp2_with fail
  refine (CP.out _ (HB1.out _)).mono ?_
  rintro e w1 ⟨rfl, b1⟩
  have HW1 : Hid (Below w.heap.size w w1) := (HB1.out _).trans (b1.mono (by simp))
  have cp : w1.cell? ⟨w.heap.size, 0, none⟩ = some (.slice va n vc) := by
    rw [b1.cell (p := ⟨w.heap.size, 0, none⟩) (by simp), blk_cell (heap_alloc_new w _)]
    rfl
  have hwl : w.heap.size ≤ w1.heap.size := HW1.out.size
  have HNO : Hid (ws = [] → ∀ W : World, Below w.heap.size w W → Ws w.heap.size W (.slice none 0 0) ws ∧ Below w.heap.size w W) := by
    rintro rfl W hb
    exact ⟨⟨rfl, .inl ⟨rfl, rfl⟩⟩, hb⟩
  clear b1 CP
  cases pt with
  | false =>
    have HE : Hid (ws = []) := by
      show ws = []
      rw [HWH.out, if_neg (by simp)]
    go_wp2_with fail
    go_ret
    exact ⟨_, rfl, HNO.out HE.out w1 HW1.out⟩
  | true =>
    by_cases hk : 0 ≤ k ∧ k ≤ (n : Int) - 1
    · by_cases hi : 0 ≤ i ∧ i ≤ (s.size : Int)
      · have HE : Hid (ws = En.list ps s k.toNat i.toNat) := by
          show ws = _
          rw [HWH.out, if_pos ⟨rfl, hk, hi⟩]
        obtain ⟨hk0, hk1⟩ := hk
        obtain ⟨hi0, hi1⟩ := hi
        obtain ⟨kn, rfl⟩ : ∃ kn : Nat, k = (kn : Int) := ⟨k.toNat, by omega⟩
        obtain ⟨ni, rfl⟩ : ∃ ni : Nat, i = (ni : Int) := ⟨i.toNat, by omega⟩
        rw [Int.toNat_natCast, Int.toNat_natCast] at HE
        have HCL : Hid (∀ W : World, Below w.heap.size w W → Calls Try.prog 25 #[.agg #[.slice va n vc], .int .i64 (kn : Int)] W (fun e w' => ∃ c : Im, e = .returned (.pointer (some ⟨c.P kn, 0, none⟩)) ∧ c.s = s ∧ c.ps = ps ∧ c.K = kn + 1 ∧ W.heap.size ≤ c.M0 ∧ c.M0 ≤ w'.heap.size ∧ ILie c ∧ IMemo c (fun _ => False) w' ∧ Below W.heap.size W w')) := fun W hb => linked_any _ s ps kn W (HPV.out.keep hb) (by have := HN.out; omega) (pat_pieces HPT.out.symm).2.1 (pat_pieces HPT.out.symm).2.2 hs
        have d1 : decide ((kn : Int) < 0) = false := decide_eq_false (by omega)
        have d2 : decide ((n : Int) ≤ (kn : Int)) = false := by simp; omega
        have d3 : decide ((ni : Int) < 0) = false := decide_eq_false (by omega)
        have d4 : decide ((s.size : Int) < (ni : Int)) = false := by simp; omega
        have d2' : decide (n ≤ kn) = false := by simp; omega
        have d4' : decide (s.size < ni) = false := by simp; omega
        clear HNO
        go_wp2_with fail
        refine (HCL.out _ HW1.out).mono ?_
        rintro e w2 ⟨c, rfl, e1, e2, e3, e4, e5, L, hm, b2⟩
        have HC : Hid (Calls Try.prog 26 #[.pointer (some ⟨c.P kn, 0, none⟩), .string s, .int .i64 (ni : Int)] w2 (fun e w' => ∃ ob, e = .returned (.map ob) ∧ OS w' 0 ob (En.Ends ps s kn ni) ∧ Below c.M0 w2 w')) := by
          have := linked_ends L hm e5 kn ni (by omega) (by rw [e1]; omega)
          rw [e1, e2] at this
          exact this
        have HW2 : Hid (Below w.heap.size w w2) := HW1.out.trans (b2.mono hwl)
        have hcm : w.heap.size ≤ c.M0 := by omega
        clear e1 e2 e3 e4 e5 L hm b2 HCL cp
        go_wp2_with fail
        refine HC.out.mono ?_
        rintro e w3 ⟨ob, rfl, o1, o2⟩
        have HW3 : Hid (Below w.heap.size w w3) := HW2.out.trans (o2.mono hcm)
        have HO : Hid (OS w3 0 ob (En.Ends ps s kn ni)) := o1
        clear o1 o2 HC HW2
        obtain ⟨wo, hwo⟩ : ∃ wo : World, wo = w3 := ⟨_, rfl⟩
        go_wp2_with fail
        refine (keys_run ob w3).mono ?_
        rintro e w4 ⟨rfl, rfl⟩
        have HS : Hid (Calls Try.prog 58 #[.func (.func 50) #[] #[.pointer (some ⟨w3.heap.size, 0, none⟩)]] (w3.alloc (.cells #[.map ob] 57)) fun e w' => ∃ v, e = .returned v ∧ Ws w.heap.size w' v ws ∧ Below w.heap.size w w') := by
          have hsz : (w3.alloc (.cells #[.map ob] 57)).heap.size = w3.heap.size + 1 := by simp
          have hw3 := HW3.out.size
          refine (sorted_os (w := w3.alloc (.cells #[.map ob] 57)) (B := 0) (Bm := w3.heap.size) (N := s.size + 1) (ob := ob) (S := En.Ends ps s kn ni) (by
            rcases HO.out with h | ⟨b, e, h1, h2⟩
            · exact .inl h
            · exact .inr ⟨b, e, h1, h2.keep (((Below.refl w3.heap.size w3).alloc (Nat.le_refl _) _).block b h2.lt)⟩) (by omega) (by rw [blk_cell (heap_alloc_new w3 _)]; rfl) (fun j hj => by have := hj.le; omega) (by omega)).mono ?_
          rintro e w' ⟨v, rfl, h1, h2⟩
          rw [hsz] at h1 h2
          refine ⟨v, rfl, ?_, (HW3.out.alloc hw3 _).trans (h2.mono (by omega))⟩
          rw [HE.out, list_upTo]
          exact h1.low (by omega)
        clear hwo HO HW3
        go_wp2_with fail
        refine HS.out.mono ?_
        rintro e w5 ⟨y, rfl, y1, y2⟩
        have HY : Hid (Ws w.heap.size w5 y ws ∧ Below w.heap.size w w5) := ⟨y1, y2⟩
        clear y1 y2 HS
        go_wp2_with fail
        go_ret
        exact ⟨_, rfl, HY.out⟩
      · have HE : Hid (ws = []) := by
          show ws = []
          rw [HWH.out, if_neg (fun h => hi h.2.2)]
        obtain ⟨hk0, hk1⟩ := hk
        have d1 : decide (k < 0) = false := decide_eq_false (by omega)
        have d2 : decide ((n : Int) ≤ k) = false := decide_eq_false (by omega)
        by_cases hi0 : i < 0
        · have d3 : decide (i < 0) = true := decide_eq_true hi0
          clear hi
          go_wp2_with fail
          go_ret
          exact ⟨_, rfl, HNO.out HE.out w1 HW1.out⟩
        · have d3 : decide (i < 0) = false := decide_eq_false hi0
          have d4 : decide ((s.size : Int) < i) = true := decide_eq_true (by omega)
          clear hi
          go_wp2_with fail
          go_ret
          exact ⟨_, rfl, HNO.out HE.out w1 HW1.out⟩
    · have HE : Hid (ws = []) := by
        show ws = []
        rw [HWH.out, if_neg (fun h => hk h.2.1)]
      by_cases hk0 : k < 0
      · have d1 : decide (k < 0) = true := decide_eq_true hk0
        clear hk
        go_wp2_with fail
        go_ret
        exact ⟨_, rfl, HNO.out HE.out w1 HW1.out⟩
      · have d1 : decide (k < 0) = false := decide_eq_false hk0
        have d2 : decide ((n : Int) ≤ k) = true := decide_eq_true (by omega)
        clear hk
        go_wp2_with fail
        go_ret
        exact ⟨_, rfl, HNO.out HE.out w1 HW1.out⟩
end PartIpO
end Go.Proofs.Ytlnmbahakdmkgaa
