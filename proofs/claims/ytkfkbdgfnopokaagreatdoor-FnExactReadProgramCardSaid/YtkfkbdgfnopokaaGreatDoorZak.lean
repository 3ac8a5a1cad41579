/- The program's reader of a program: the sign of one of several. The specification's reader of a program: what it holds, and its tests. The specification's reader of a program: signs and words, how deep it is. The specification's reader of a program: one node more. Plain facts: how a program is read from its tokens. Plain facts: bounds of what the reader makes. -/
import Derived.Test.YtkfkbdgfnopokaaGreatDoorZaj
import Derived.Test.YtkfkbdgfnopokaaGreatDoorTrB
import Derived.Test.YtkfkbdgfnopokaaGreatDoorZaf
import Derived.Test.YtkfkbdgfnopokaaGreatDoorZai
namespace Go.Proofs.YtkfkbdgfnopokaaGreatDoor
section PartRrE
open Go.RowKit
def Rx.sign (op : Nat) : List UInt8 := match op with | 9 => [43] | 10 => [45] | 11 => [42] | 12 => [37] | 13 => [46] | 14 => [60] | _ => [61, 61]
theorem TwoS.sign {w : World} (h : TwoS w) (op : Nat) (h1 : 9 ≤ op) (h2 : op ≤ 15) : w.cell? ⟨0, op - 9, none⟩ = some (.string ⟨(Rx.sign op).toArray⟩) := by
 obtain ⟨a, b, c, d, e, f, g⟩ := h
 have : op = 9 ∨ op = 10 ∨ op = 11 ∨ op = 12 ∨ op = 13 ∨ op = 14 ∨ op = 15 := by omega
 rcases this with rfl | rfl | rfl | rfl | rfl | rfl | rfl
 ·exact a
 ·exact b
 ·exact c
 ·exact d
 ·exact e
 ·exact f
 ·exact g
set_option maxHeartbeats 1000000 in
set_option maxRecDepth 100000 in
theorem rrOp (X g a b : Nat) (d : Int) (ts : List Tk.Tok) (w : World) (h : Rt X g w ts d) (h2 : TwoS w) (ha : 9 ≤ a) (hab : a ≤ b) (hb : b ≤ 15) :
  Calls Tryz.prog 135 #[.pointer (some ⟨g, 0, none⟩), .int .i64 (a : Int), .int .i64 (b : Int)] w fun e w' =>
   (e = .returned (.tuple #[.int .i64 0, .bool false]) ∧ w' = w ∧ ∀ j, a ≤ j → j ≤ b → Rx.is ts 5 (Rx.sign j) = false) ∨
   ∃ (j : Nat) (t : Tk.Tok) (r : List Tk.Tok), e = .returned (.tuple #[.int .i64 (j : Int), .bool true]) ∧ a ≤ j ∧ j ≤ b ∧ (∀ k, a ≤ k → k < j → Rx.is ts 5 (Rx.sign k) = false) ∧ ts = t :: r ∧ Rx.is ts 5 (Rx.sign j) = true ∧ Rt X g w' r d ∧ Og g w w' := by
 have HR : Hid (Rt X g w ts d) := h
 have HS : Hid (TwoS w) := h2
 clear h h2
 go_enter Tryz.func135, Tryz.ntmps135
 go_wp2_with fail
 go_loopw [8] (fun i wr => ∃ j : Nat, i = .int .i64 (j : Int) ∧ a ≤ j ∧ j ≤ b + 1 ∧ wr = w ∧ Hid (∀ k, a ≤ k → k < j → Rx.is ts 5 (Rx.sign k) = false)) (fun i _ => 16 - (intOf i).toNat)
 case atStart => exact ⟨a, rfl, Nat.le_refl _, by omega, rfl, fun k h1 h2 => by omega⟩
 case round =>
  obtain ⟨j, rfl, hj, hjb, rfl, HK⟩ := hrel
  by_cases hle : j ≤ b
  ·have e1 : decide ((j : Int) ≤ (b : Int)) = true := decide_eq_true (by omega)
   have e2 : (j : Int) - 9 = ((j - 9 : Nat) : Int) := by omega
   have sc := HS.out.sign j (by omega) (by omega)
   have i1 : (0 : Int) ≤ (j : Int) - 9 := by omega
   have i2 : (j : Int) - 9 < 7 := by omega
   have e3 : ((j : Int) - 9).toNat = j - 9 := by omega
   cases hi : Rx.is ts 5 (Rx.sign j) with
   | false =>
    have C := hidOf2 (rrTakes_no X g d ts 5 (Rx.sign j) wr HR.out hi)
    have HK2 : Hid (∀ k, a ≤ k → k < j + 1 → Rx.is ts 5 (Rx.sign k) = false) := fun k h1 h2 => by
     by_cases hk : k < j
     ·exact HK.out k h1 hk
     ·obtain rfl : k = j := by omega
      exact hi
    generalize (⟨(Rx.sign j).toArray⟩ : ByteArray) = S at *
    clear hi HK
    go_wp2_with fail
    refine C.out.mono ?_
    rintro e w2 ⟨rfl, rfl⟩
    go_wp2
    go_roundw
    case rel => exact ⟨j + 1, by go_num, by omega, by omega, trivial, HK2.out⟩
    case measure => simp [intOf]; omega
   | true =>
    cases ts with
    | nil => cases hi
    | cons t r =>
     have C := hidOf2 (rrTakes_yes X g d t r 5 (Rx.sign j) wr HR.out hi)
     have HI := hidOf2 hi
     generalize (⟨(Rx.sign j).toArray⟩ : ByteArray) = S at *
     clear hi
     go_wp2_with fail
     refine C.out.mono ?_
     rintro e w2 ⟨rfl, h2, h3⟩
     have H2 : Hid (Rt X g w2 r d ∧ Og g wr w2) := ⟨h2, h3⟩
     clear h2 h3
     go_wp2
     go_ret2
     exact .inr ⟨j, t, r, rfl, hj, hle, HK.out, rfl, HI.out, H2.out⟩
  ·have e1 : decide ((j : Int) ≤ (b : Int)) = false := decide_eq_false (by omega)
   go_wp2
   go_ret2
   exact .inl ⟨rfl, rfl, fun k h1 h2 => HK.out k h1 (by omega)⟩
end PartRrE
section PartPrA
open Go.RowKit
def Rg (w : World) (g : Nat) (L : Value) (a : Nat) (d : Int) (bad : Bool) (v : Value) : Prop :=
 w.heap[g]? = some (.cells #[L, .int .i64 (a : Int), .int .i64 d, .bool bad, v] 45 (0, 0))
theorem cells5 {w : World} {g : Nat} {a b c d e : Value} {t : TypeId} (h : w.heap[g]? = some (.cells #[a, b, c, d, e] t (0, 0))) :
  w.cell? ⟨g, 0, none⟩ = some a ∧ w.cell? ⟨g, 1, none⟩ = some b ∧ w.cell? ⟨g, 2, none⟩ = some c ∧ w.cell? ⟨g, 3, none⟩ = some d ∧ w.cell? ⟨g, 4, none⟩ = some e ∧
   w.frozen? ⟨g, 1, none⟩ = false ∧ w.frozen? ⟨g, 2, none⟩ = false ∧ w.frozen? ⟨g, 3, none⟩ = false ∧ w.frozen? ⟨g, 4, none⟩ = false := by
 refine ⟨?_, ?_, ?_, ?_, ?_, ?_, ?_, ?_, ?_⟩ <;> simp [World.cell?, World.frozen?, h]
set_option maxHeartbeats 2000000 in
set_option maxRecDepth 100000 in
theorem rgIs (g a : Nat) (d : Int) (L v : Value) (ts : List Tk.Tok) (bad : Bool) (kind : Nat) (x : List UInt8) (w : World) (h : Rg w g L a d bad v) (hL : TkAt w L ts) (ha : a ≤ 1000) (hl : ts.length ≤ 200) :
  Calls Tryz.prog 17 #[.pointer (some ⟨g, 0, none⟩), .int .i64 (kind : Int), .string ⟨x.toArray⟩] w fun e w' =>
   e = .returned (.bool (!bad && decide (a < ts.length) && decide ((ts.getD a Tk.no).kind = kind) && decide ((ts.getD a Tk.no).text = x))) ∧ ∃ k, w' = w.drewN k := by
 obtain ⟨c0, c1, c2, c3, c4, f1, f2, f3, f4⟩ := cells5 h
 obtain ⟨ad, cap, rfl, f⟩ := hL
 obtain ⟨n, hn⟩ : ∃ n, n = ts.length := ⟨_, rfl⟩
 rw [← hn] at c0 f hl ⊢
 obtain ⟨X, hX⟩ : ∃ X : ByteArray, X = ⟨x.toArray⟩ := ⟨_, rfl⟩
 have hXl : X.toList = x := by rw [hX, Lib.toList_data]
 rw [← hX]
 obtain ⟨V, hV⟩ : ∃ V, V = (!bad && decide (a < n) && decide ((ts.getD a Tk.no).kind = kind) && decide ((ts.getD a Tk.no).text = x)) := ⟨_, rfl⟩
 rw [← hV]
 have HV : Hid (V = (!bad && decide (a < n) && decide ((ts.getD a Tk.no).kind = kind) && decide ((ts.getD a Tk.no).text = x))) := hV
 clear h c2 c4 f1 f2 f3 f4 hV hX hn
 cases bad with
 | true =>
  have HF : Hid (V = false) := by show _ = _; rw [HV.out]; rfl
  clear HV f hXl
  go_enter Tryz.func17, Tryz.ntmps17
  go_wp2_with fail
  go_quiet (fail)
  go_wp2
  go_ret
  exact ⟨by rw [HF.out]; rfl, _, rfl⟩
 | false =>
  by_cases hlt : a < n
  ·have d1 : decide ((a : Int) < (n : Int)) = true := decide_eq_true (by omega)
   have d1n : decide (a < n) = true := decide_eq_true hlt
   have hi : (a : Int) < (n : Int) := by omega
   obtain ⟨b, rfl, hb, hc⟩ := f (by omega)
   obtain ⟨t0, t1⟩ := hc a hlt
   rw [d1n] at HV
   obtain ⟨tk, htk⟩ : ∃ tk, tk = (ts.getD a Tk.no).kind := ⟨_, rfl⟩
   obtain ⟨tt, htt⟩ : ∃ tt, tt = (ts.getD a Tk.no).text := ⟨_, rfl⟩
   rw [← htk] at t0 HV
   rw [← htt] at t1 HV
   obtain ⟨T, hT⟩ : ∃ T : ByteArray, T = ⟨tt.toArray⟩ := ⟨_, rfl⟩
   have hTl : T.toList = tt := by rw [hT, Lib.toList_data]
   rw [← hT] at t1
   clear hc f htk htt hT
   by_cases hk : tk = kind
   ·have d2 : ((tk : Int) == (kind : Int)) = true := by rw [hk]; simp
    by_cases ht : tt = x
    ·have d3 : (T.toList == X.toList) = true := by rw [hTl, hXl, ht]; simp
     have HF : Hid (V = true) := by show _ = _; rw [HV.out, decide_eq_true hk, decide_eq_true ht]; rfl
     clear HV hk ht hTl hXl
     go_enter Tryz.func17, Tryz.ntmps17
     go_wp2_with fail
     go_quiet (fail)
     go_wp2
     go_ret
     exact ⟨by rw [HF.out]; rfl, _, rfl⟩
    ·have d3 : (T.toList == X.toList) = false := by rw [hTl, hXl]; simpa using ht
     have HF : Hid (V = false) := by show _ = _; rw [HV.out, decide_eq_false ht]; simp
     clear HV hk ht hTl hXl
     go_enter Tryz.func17, Tryz.ntmps17
     go_wp2_with fail
     go_quiet (fail)
     go_wp2
     go_ret
     exact ⟨by rw [HF.out]; rfl, _, rfl⟩
   ·have d2 : ((tk : Int) == (kind : Int)) = false := beq_eq_false_iff_ne.2 (by omega)
    have HF : Hid (V = false) := by show _ = _; rw [HV.out, decide_eq_false hk]; simp
    clear HV hk hTl hXl
    go_enter Tryz.func17, Tryz.ntmps17
    go_wp2_with fail
    go_quiet (fail)
    go_wp2
    go_ret
    exact ⟨by rw [HF.out]; rfl, _, rfl⟩
  ·have d1 : decide ((a : Int) < (n : Int)) = false := decide_eq_false (by omega)
   have d1n : decide (a < n) = false := decide_eq_false hlt
   have HF : Hid (V = false) := by show _ = _; rw [HV.out, d1n]; rfl
   clear HV f hXl
   go_enter Tryz.func17, Tryz.ntmps17
   go_wp2_with fail
   go_quiet (fail)
   go_wp2
   go_ret
   exact ⟨by rw [HF.out]; rfl, _, rfl⟩
end PartPrA
section PartPrB
open Go.RowKit
def Pr.is (ts : List Tk.Tok) (a : Nat) (bad : Bool) (kind : Nat) (x : List UInt8) : Bool := !bad && decide (a < ts.length) && decide ((ts.getD a Tk.no).kind = kind) && decide ((ts.getD a Tk.no).text = x)
def Onl (g : Nat) (w w' : World) : Prop := Env w w' ∧ w'.heap.size = w.heap.size ∧ ∀ k, k ≠ g → w'.heap[k]? = w.heap[k]?
theorem Onl.refl (g : Nat) (w : World) : Onl g w w := ⟨Env.refl w, rfl, fun _ _ => rfl⟩
theorem Onl.trans {g : Nat} {w w1 w2 : World} (h : Onl g w w1) (k : Onl g w1 w2) : Onl g w w2 := ⟨h.1.trans k.1, k.2.1.trans h.2.1, fun j hj => (k.2.2 j hj).trans (h.2.2 j hj)⟩
theorem Onl.drewN (g : Nat) (w : World) (k : Nat) : Onl g w (w.drewN k) := ⟨⟨rfl, rfl, rfl⟩, rfl, fun _ _ => rfl⟩
theorem Onl.set {g : Nat} {w w' : World} (h : Onl g w w') (o : Nat) (u : Value) : Onl g w (w'.setCell ⟨g, o, none⟩ u) :=
 ⟨h.1, by simpa [World.setCell] using h.2.1, fun k hk => by rw [Below.heap_setCell _ _ _ _ (by show k ≠ g; exact hk)]; exact h.2.2 k hk⟩
theorem TkAt.onl {w w' : World} {g : Nat} {L : Value} {ts : List Tk.Tok} (h : TkAt w L ts) (hf : L.ownBlock ≠ some g) (ho : Onl g w w') : TkAt w' L ts := by
 obtain ⟨ad, cap, rfl, f⟩ := h
 refine ⟨ad, cap, rfl, fun h0 => ?_⟩
 obtain ⟨b, rfl, hb, hc⟩ := f h0
 have hbg : b ≠ g := fun e => hf (by simp [Value.ownBlock, e])
 refine ⟨b, rfl, by rw [ho.2.1]; exact hb, fun j hj => ?_⟩
 have e : ∀ o, w'.cell? ⟨b, o, none⟩ = w.cell? ⟨b, o, none⟩ := by
  intro o
  simp only [World.cell?, ho.2.2 b hbg]
 rw [e, e]
 exact hc j hj
theorem Rg.drewN {w : World} {g a : Nat} {L : Value} {d : Int} {bad : Bool} {v : Value} (h : Rg w g L a d bad v) (k : Nat) : Rg (w.drewN k) g L a d bad v := h
theorem Rg.at1 {w : World} {g a : Nat} {L : Value} {d : Int} {bad : Bool} {v : Value} (h : Rg w g L a d bad v) (b : Nat) : Rg (w.setCell ⟨g, 1, none⟩ (.int .i64 (b : Int))) g L b d bad v := by
 unfold Rg at h ⊢
 simp [World.setCell, Array.getElem?_modify, h]
theorem Rg.deep {w : World} {g a : Nat} {L : Value} {d : Int} {bad : Bool} {v : Value} (h : Rg w g L a d bad v) (e : Int) : Rg (w.setCell ⟨g, 2, none⟩ (.int .i64 e)) g L a e bad v := by
 unfold Rg at h ⊢
 simp [World.setCell, Array.getElem?_modify, h]
theorem Rg.bads {w : World} {g a : Nat} {L : Value} {d : Int} {bad : Bool} {v : Value} (h : Rg w g L a d bad v) (b : Bool) : Rg (w.setCell ⟨g, 3, none⟩ (.bool b)) g L a d b v := by
 unfold Rg at h ⊢
 simp [World.setCell, Array.getElem?_modify, h]
set_option maxHeartbeats 1000000 in
set_option maxRecDepth 100000 in
theorem rgSign (g a : Nat) (d : Int) (L v : Value) (ts : List Tk.Tok) (bad : Bool) (x : List UInt8) (w : World) (h : Rg w g L a d bad v) (hL : TkAt w L ts) (ha : a ≤ 1000) (hl : ts.length ≤ 200) :
  Calls Tryz.prog 81 #[.pointer (some ⟨g, 0, none⟩), .string ⟨x.toArray⟩] w fun e w' =>
   e = .returned (.bool (Pr.is ts a bad 5 x)) ∧ Rg w' g L (if Pr.is ts a bad 5 x = true then a + 1 else a) d bad v ∧ Onl g w w' := by
 have C : Hid (Calls Tryz.prog 17 #[.pointer (some ⟨g, 0, none⟩), .int .i64 5, .string ⟨x.toArray⟩] w fun e w' => e = .returned (.bool (Pr.is ts a bad 5 x)) ∧ ∃ k, w' = w.drewN k) := rgIs g a d L v ts bad 5 x w h hL ha hl
 have HH : Hid (Rg w g L a d bad v) := h
 generalize (⟨x.toArray⟩ : ByteArray) = X at *
 generalize Pr.is ts a bad 5 x = V at *
 clear h hL
 cases V with
 | true =>
  go_enter Tryz.func81, Tryz.ntmps81
  go_wp2_with fail
  refine C.out.mono ?_
  rintro e w1 ⟨rfl, k, rfl⟩
  obtain ⟨c0, c1, c2, c3, c4, f1, f2, f3, f4⟩ := cells5 (HH.out.drewN k)
  have HN : Hid (Rg ((w.drewN k).setCell ⟨g, 1, none⟩ (.int .i64 ((a + 1 : Nat) : Int))) g L (a + 1) d bad v) := (HH.out.drewN k).at1 (a + 1)
  have e1 : ((a + 1 : Nat) : Int) = (a : Int) + 1 := by omega
  rw [e1] at HN
  go_wp2
  go_ret
  exact ⟨rfl, HN.out, (Onl.drewN g w k).set 1 _⟩
 | false =>
  go_enter Tryz.func81, Tryz.ntmps81
  go_wp2_with fail
  refine C.out.mono ?_
  rintro e w1 ⟨rfl, k, rfl⟩
  go_wp2
  go_ret
  exact ⟨rfl, HH.out.drewN k, Onl.drewN g w k⟩
set_option maxHeartbeats 1000000 in
set_option maxRecDepth 100000 in
theorem rgWord (g a : Nat) (d : Int) (L v : Value) (ts : List Tk.Tok) (bad : Bool) (x : List UInt8) (w : World) (h : Rg w g L a d bad v) (hL : TkAt w L ts) (ha : a ≤ 1000) (hl : ts.length ≤ 200) :
  Calls Tryz.prog 16 #[.pointer (some ⟨g, 0, none⟩), .string ⟨x.toArray⟩] w fun e w' =>
   e = .returned (.bool (Pr.is ts a bad 1 x)) ∧ Rg w' g L (if Pr.is ts a bad 1 x = true then a + 1 else a) d bad v ∧ Onl g w w' := by
 have C : Hid (Calls Tryz.prog 17 #[.pointer (some ⟨g, 0, none⟩), .int .i64 1, .string ⟨x.toArray⟩] w fun e w' => e = .returned (.bool (Pr.is ts a bad 1 x)) ∧ ∃ k, w' = w.drewN k) := rgIs g a d L v ts bad 1 x w h hL ha hl
 have HH : Hid (Rg w g L a d bad v) := h
 generalize (⟨x.toArray⟩ : ByteArray) = X at *
 generalize Pr.is ts a bad 1 x = V at *
 clear h hL
 cases V with
 | true =>
  go_enter Tryz.func16, Tryz.ntmps16
  go_wp2_with fail
  refine C.out.mono ?_
  rintro e w1 ⟨rfl, k, rfl⟩
  obtain ⟨c0, c1, c2, c3, c4, f1, f2, f3, f4⟩ := cells5 (HH.out.drewN k)
  have HN : Hid (Rg ((w.drewN k).setCell ⟨g, 1, none⟩ (.int .i64 ((a + 1 : Nat) : Int))) g L (a + 1) d bad v) := (HH.out.drewN k).at1 (a + 1)
  have e1 : ((a + 1 : Nat) : Int) = (a : Int) + 1 := by omega
  rw [e1] at HN
  go_wp2
  go_ret
  exact ⟨rfl, HN.out, (Onl.drewN g w k).set 1 _⟩
 | false =>
  go_enter Tryz.func16, Tryz.ntmps16
  go_wp2_with fail
  refine C.out.mono ?_
  rintro e w1 ⟨rfl, k, rfl⟩
  go_wp2
  go_ret
  exact ⟨rfl, HH.out.drewN k, Onl.drewN g w k⟩
set_option maxHeartbeats 1000000 in
set_option maxRecDepth 100000 in
theorem rgWant (g a : Nat) (d : Int) (L v : Value) (ts : List Tk.Tok) (bad : Bool) (x : List UInt8) (w : World) (h : Rg w g L a d bad v) (hL : TkAt w L ts) (ha : a ≤ 1000) (hl : ts.length ≤ 200) :
  Calls Tryz.prog 47 #[.pointer (some ⟨g, 0, none⟩), .string ⟨x.toArray⟩] w fun e w' =>
   e = .returned (.tuple #[]) ∧ Rg w' g L (if Pr.is ts a bad 5 x = true then a + 1 else a) d (bad || !Pr.is ts a bad 5 x) v ∧ Onl g w w' := by
 have C : Hid _ := rgSign g a d L v ts bad x w h hL ha hl
 have C2 : Hid (Calls Tryz.prog 81 #[.pointer (some ⟨g, 0, none⟩), .string ⟨x.toArray⟩] w fun e w' => e = .returned (.bool (Pr.is ts a bad 5 x)) ∧ Rg w' g L (if Pr.is ts a bad 5 x = true then a + 1 else a) d bad v ∧ Onl g w w') := C.out
 clear C
 generalize (⟨x.toArray⟩ : ByteArray) = X at *
 generalize Pr.is ts a bad 5 x = V at *
 clear h hL
 cases V with
 | true =>
  go_enter Tryz.func47, Tryz.ntmps47
  go_wp2_with fail
  refine C2.out.mono ?_
  rintro e w1 ⟨rfl, h1, h2⟩
  have H1 : Hid (Rg w1 g L (a + 1) d bad v) := h1
  have H2 : Hid (Onl g w w1) := h2
  clear h1 h2 C2
  go_wp2
  go_end0
  refine ⟨rfl, ?_, H2.out⟩
  simpa using H1.out
 | false =>
  go_enter Tryz.func47, Tryz.ntmps47
  go_wp2_with fail
  refine C2.out.mono ?_
  rintro e w1 ⟨rfl, h1, h2⟩
  have H1 : Hid (Rg w1 g L a d bad v) := h1
  have H2 : Hid (Onl g w w1) := h2
  obtain ⟨c0, c1, c2, c3, c4, f1, f2, f3, f4⟩ := cells5 H1.out
  clear h1 h2 C2
  go_wp2
  go_end0
  refine ⟨rfl, ?_, H2.out.set 3 _⟩
  simpa using H1.out.bads true
set_option maxHeartbeats 1000000 in
set_option maxRecDepth 100000 in
theorem rgDown (g a : Nat) (d : Int) (L v : Value) (bad : Bool) (w : World) (h : Rg w g L a d bad v) (hd : -1000 ≤ d) (hd2 : d ≤ 1000) :
  Calls Tryz.prog 44 #[.pointer (some ⟨g, 0, none⟩)] w fun e w' => e = .returned (.tuple #[]) ∧ Rg w' g L a (d + 1) (bad || decide (30 < d + 1)) v ∧ Onl g w w' := by
 have HH : Hid (Rg w g L a d bad v) := h
 obtain ⟨c0, c1, c2, c3, c4, f1, f2, f3, f4⟩ := cells5 h
 obtain ⟨k0, k1, k2, k3, k4, j1, j2, j3, j4⟩ := cells5 (h.deep (d + 1))
 clear h
 by_cases h30 : 30 < d + 1
 ·have d1 : decide ((30 : Int) < d + 1) = true := decide_eq_true h30
  go_enter Tryz.func44, Tryz.ntmps44
  go_wp2
  go_end0
  refine ⟨rfl, ?_, ((Onl.refl g w).set 2 _).set 3 _⟩
  have e : (bad || decide (30 < d + 1)) = true := by rw [decide_eq_true h30, Bool.or_true]
  rw [e]
  exact (HH.out.deep (d + 1)).bads true
 ·have d1 : decide ((30 : Int) < d + 1) = false := decide_eq_false h30
  go_enter Tryz.func44, Tryz.ntmps44
  go_wp2
  go_end0
  refine ⟨rfl, ?_, (Onl.refl g w).set 2 _⟩
  exact HH.out.deep (d + 1)
set_option maxHeartbeats 1000000 in
set_option maxRecDepth 100000 in
theorem rgUp (g a : Nat) (d : Int) (L v : Value) (bad : Bool) (w : World) (h : Rg w g L a d bad v) (hd : -1000 ≤ d) (hd2 : d ≤ 1000) :
  Calls Tryz.prog 46 #[.pointer (some ⟨g, 0, none⟩)] w fun e w' => e = .returned (.tuple #[]) ∧ Rg w' g L a (d - 1) bad v ∧ Onl g w w' := by
 have HH : Hid (Rg w g L a d bad v) := h
 obtain ⟨c0, c1, c2, c3, c4, f1, f2, f3, f4⟩ := cells5 h
 clear h
 go_enter Tryz.func46, Tryz.ntmps46
 go_wp2
 go_end0
 exact ⟨rfl, HH.out.deep (d - 1), (Onl.refl g w).set 2 _⟩
def Pr.isEnd (t : Tk.Tok) : Bool := decide (t.kind = 6) && decide (t.text = [59])
def Pr.ends (ts : List Tk.Tok) (a : Nat) : Nat := ((ts.drop a).takeWhile Pr.isEnd).length
theorem Pr.ends_step {ts : List Tk.Tok} {a : Nat} (h : Pr.is ts a false 6 [59] = true) : Pr.ends ts a = Pr.ends ts (a + 1) + 1 := by
 unfold Pr.is at h
 simp only [Bool.not_false, Bool.true_and, Bool.and_eq_true, decide_eq_true_eq] at h
 obtain ⟨⟨h1, h2⟩, h3⟩ := h
 unfold Pr.ends
 rw [List.drop_eq_getElem_cons h1]
 have e : ts.getD a Tk.no = ts[a] := by simp [h1]
 rw [e] at h2 h3
 rw [List.takeWhile_cons_of_pos (by unfold Pr.isEnd; rw [h2, h3]; rfl)]
 rfl
theorem Pr.ends_stop {ts : List Tk.Tok} {a : Nat} (h : Pr.is ts a false 6 [59] = false) : Pr.ends ts a = 0 := by
 unfold Pr.ends
 by_cases h1 : a < ts.length
 ·rw [List.drop_eq_getElem_cons h1]
  have e : ts.getD a Tk.no = ts[a] := by simp [h1]
  unfold Pr.is at h
  rw [e, decide_eq_true h1] at h
  rw [List.takeWhile_cons_of_neg (by
   unfold Pr.isEnd
   simpa using h)]
  rfl
 ·rw [List.drop_eq_nil_of_le (by omega)]
  rfl
theorem Pr.ends_le (ts : List Tk.Tok) (a : Nat) : Pr.ends ts a ≤ ts.length - a := by
 unfold Pr.ends
 have := (List.takeWhile_prefix Pr.isEnd (l := ts.drop a)).length_le
 simpa using this
set_option maxHeartbeats 2000000 in
set_option maxRecDepth 100000 in
theorem rgEnds (g a : Nat) (d : Int) (L v : Value) (ts : List Tk.Tok) (bad : Bool) (w : World) (h : Rg w g L a d bad v) (hL : TkAt w L ts) (hf : L.ownBlock ≠ some g) (ha : a ≤ 201) (hl : ts.length ≤ 200) :
  Calls Tryz.prog 15 #[.pointer (some ⟨g, 0, none⟩)] w fun e w' =>
   e = .returned (.int .i64 ((if bad = true then 0 else Pr.ends ts a : Nat) : Int)) ∧ Rg w' g L (a + if bad = true then 0 else Pr.ends ts a) d bad v ∧ Onl g w w' := by
 have HF : Hid (L.ownBlock ≠ some g) := hf
 have HL : Hid (TkAt w L ts) := hL
 have HH : Hid (Rg w g L a d bad v) := h
 obtain ⟨N, hN⟩ : ∃ N, N = if bad = true then 0 else Pr.ends ts a := ⟨_, rfl⟩
 rw [← hN]
 have hNl : N ≤ 200 := by
  rw [hN]
  split
  ·omega
  ·have := Pr.ends_le ts a; omega
 have HN : Hid (N = if bad = true then 0 else Pr.ends ts a) := hN
 clear h hL hf hN
 go_enter Tryz.func15, Tryz.ntmps15
 go_wp2
 go_loopw [3] (fun i wr => ∃ j : Nat, i = .int .i64 (j : Int) ∧ j ≤ N ∧ Hid (N = j + if bad = true then 0 else Pr.ends ts (a + j)) ∧ Hid (Rg wr g L (a + j) d bad v) ∧ Hid (Onl g w wr)) (fun i _ => N - (intOf i).toNat)
 case atStart => exact ⟨0, rfl, by omega, (by show _ = _; rw [HN.out]; simp), HH.out, Onl.refl _ _⟩
 case round =>
  obtain ⟨j, rfl, hj, HJ, HR, HO⟩ := hrel
  have C : Hid (Calls Tryz.prog 17 #[.pointer (some ⟨g, 0, none⟩), .int .i64 6, .string ⟨#[59]⟩] wr fun e w' => e = .returned (.bool (Pr.is ts (a + j) bad 6 [59])) ∧ ∃ k, w' = wr.drewN k) := rgIs g (a + j) d L v ts bad 6 [59] wr HR.out (HL.out.onl HF.out HO.out) (by omega) hl
  cases hb : Pr.is ts (a + j) bad 6 [59] with
  | true =>
   rw [hb] at C
   have hbad : bad = false := by
    cases bad with
    | false => rfl
    | true => unfold Pr.is at hb; simp at hb
   have HJ2 : Hid (N = (j + 1) + if bad = true then 0 else Pr.ends ts (a + (j + 1))) := by
    have h1 := HJ.out
    rw [hbad] at hb h1 ⊢
    show _ = _
    rw [if_neg (by simp)] at h1 ⊢
    rw [h1, Pr.ends_step hb, show a + (j + 1) = a + j + 1 by omega]
    omega
   have hjN : j < N := by have := HJ2.out; omega
   clear hb hbad HJ
   go_wp2_with fail
   refine C.out.mono ?_
   rintro e w1 ⟨rfl, k, rfl⟩
   obtain ⟨c0, c1, c2, c3, c4, f1, f2, f3, f4⟩ := cells5 (HR.out.drewN k)
   have HR2 : Hid (Rg ((wr.drewN k).setCell ⟨g, 1, none⟩ (.int .i64 ((a + (j + 1) : Nat) : Int))) g L (a + (j + 1)) d bad v) := (HR.out.drewN k).at1 (a + (j + 1))
   have e1 : ((a + (j + 1) : Nat) : Int) = (a : Int) + (j : Int) + 1 := by omega
   have e2 : ((a + j : Nat) : Int) = (a : Int) + (j : Int) := by omega
   rw [e1] at HR2
   rw [e2] at c1
   have HO2 : Hid (Onl g w ((wr.drewN k).setCell ⟨g, 1, none⟩ (.int .i64 ((a : Int) + (j : Int) + 1)))) := (HO.out.trans (Onl.drewN g wr k)).set 1 _
   clear C HR HO e1 e2
   go_wp2
   go_roundw
   case rel => exact ⟨j + 1, by go_num, by omega, HJ2.out, HR2.out, HO2.out⟩
   case measure => simp [intOf]; omega
  | false =>
   rw [hb] at C
   have hjN : N = j := by
    have h1 := HJ.out
    cases bad with
    | true => rw [h1]; simp
    | false => rw [if_neg (by simp), Pr.ends_stop hb] at h1; omega
   subst hjN
   clear hb HJ
   go_wp2_with fail
   refine C.out.mono ?_
   rintro e w1 ⟨rfl, k, rfl⟩
   have HR2 : Hid (Rg (wr.drewN k) g L (a + N) d bad v) := HR.out.drewN k
   have HO2 : Hid (Onl g w (wr.drewN k)) := HO.out.trans (Onl.drewN g wr k)
   clear C HR HO
   go_wp2
   go_ret
   exact ⟨rfl, HR2.out, HO2.out⟩
end PartPrB
section PartPrC
open Go.RowKit
theorem infoNd : (Tryz.prog.info? 87).map (fun i => (i.zero, i.size, i.bytes)) = some (some (.agg #[.int .i64 0, .string ByteArray.empty, .slice none 0 0]), 3, 48) := by kernel_rfl
def NR (B : Nat) (w : World) (v : Value) (n : Nat) (cs : List Value) : Prop := w.ownsRow B 87 3 v n cs
theorem NR.far {B g : Nat} {w : World} {v : Value} {n : Nat} {cs : List Value} (h : NR B w v n cs) (hg : g < B) : v.ownBlock ≠ some g := by
 intro e
 have := (World.ownsRow.lt h g e).1
 omega
theorem NR.set {B g : Nat} {w : World} {v : Value} {n : Nat} {cs : List Value} (h : NR B w v n cs) (hg : g < B) (o : Nat) (u : Value) : NR B (w.setCell ⟨g, o, none⟩ u) v n cs := by
 refine ⟨h.1, ?_⟩
 rcases h.2 with hn | ⟨g2, cap2, cur, hv2, hb2, hc2, rest⟩
 ·exact .inl hn
 ·refine .inr ⟨g2, cap2, cur, hv2, hb2, ?_, rest⟩
  rw [Below.heap_setCell _ _ _ _ (by show g2 ≠ g; omega)]
  exact hc2
theorem NR.step {ops : Array Oper} {o : Oper} {a : Act} {K : Act → World → Prop} {Q : Exit → Act → World → Prop} {E : Prop} {B : Nat} {w : World} {v : Value} {n : Nat} {cs : List Value}
  (hown : NR B w v n cs) (hgd : o.guard = none) (s x : Operand)
  (ho : o.op = .call { callee := .builtin .append, args := #[s, x], argTypes := #[22, 22] })
  (hs : a.eval s = v) (c1 c2 c3 : Value) (k1 : c1.oneCell' = true) (k2 : c2.oneCell' = true) (k3 : c3.oneCell' = true) (o1 : Obj) (hx : a.eval x = .slice (some ⟨w.heap.size + 1, 0, none⟩) 1 1)
  (hlen : n ≤ 1000) (hB : B ≤ w.heap.size)
  (h : ∀ q cap w', NR B w' (.slice (some ⟨q, 0, none⟩) (n + 1) cap) (n + 1) (cs ++ [c1, c2, c3]) → w.heap.size ≤ w'.heap.size → (v.ownBlock = some q ∨ w.heap.size ≤ q) → q < w'.heap.size → Below B w w' →
   (∀ ad u, w.cell? ad = some u → v.ownBlock ≠ some ad.block → w'.cell? ad = some u) → (∀ k, k < w.heap.size → v.ownBlock ≠ some k → w'.heap[k]? = w.heap[k]?) → K (a.put o.dst (.slice (some ⟨q, 0, none⟩) (n + 1) cap)) w') :
  if Region.wanted o (yielded ops a.tmps) = true then Oper.wp Tryz.prog o a ((w.alloc o1).alloc (.cells #[c1, c2, c3] 87)).drew K Q else E := by
 obtain ⟨i0, hi, hy0, hy1, hy2⟩ := info_parts infoNd
 have hsz : ((w.alloc o1).alloc (.cells #[c1, c2, c3] 87)).drew.heap.size = w.heap.size + 2 := by simp
 refine step_append_lies _ hgd s x 22 ho B 87 i0 (.agg #[.int .i64 0, .string ByteArray.empty, .slice none 0 0]) 3 48 Tryz.underlying22 hi hy0 hy1 hy2 rfl (by decide) v n cs hs (World.ownsRow.drew (World.ownsRow.alloc (World.ownsRow.alloc hown _) _)) ⟨w.heap.size + 1, 0, none⟩ 1 1 [c1, c2, c3] hx rfl
  (World.news_of_block (cs := #[c1, c2, c3]) (t := 87) (fr := (0, 0)) ?_) ?_ (by omega) ?_ ?_ ?_ (w.heap.size + 2) hsz ?_
 ·have := heap_alloc_new (w.alloc o1) (.cells #[c1, c2, c3] 87)
  have e : (w.alloc o1).heap.size = w.heap.size + 1 := by simp
  rw [e] at this
  exact this
 ·intro u hu
  simp at hu
  rcases hu with rfl | rfl | rfl <;> assumption
 ·unfold maxLen; omega
 ·omega
 ·omega
 ·intro q cap w' h2 h3 h4 h5
  have hb0 : Below w.heap.size w ((w.alloc o1).alloc (.cells #[c1, c2, c3] 87)).drew := ((((Below.refl _ w).alloc (Nat.le_refl _) _).alloc (by simp) _).drew)
  have hs3 := h3.size
  refine h q cap w' h2 (by omega) (h4.imp id (fun e => by omega)) h5 ?_ ?_ ?_
  ·exact (hb0.mono hB).grown h3 (by omega) (fun k hk => (World.ownsRow.lt hown k hk).1)
  ·intro ad u hu hne
   have hlt := World.block_lt_of_cell? w _ hu
   refine h3.cell ((hb0.cell hlt).trans hu) ?_
   intro e; exact hne e.symm
  ·intro k hk hne
   rw [h3.block k (by omega) (fun e => hne e.symm)]
   exact hb0.block k hk
theorem set4 {w : World} {g : Nat} {a b c d e : Value} {t : TypeId} (h : w.heap[g]? = some (.cells #[a, b, c, d, e] t (0, 0))) (u : Value) : (w.setCell ⟨g, 4, none⟩ u).heap[g]? = some (.cells #[a, b, c, d, u] t (0, 0)) := by
 simp [World.setCell, Array.getElem?_modify, h]
set_option maxHeartbeats 2000000 in
set_option maxRecDepth 100000 in
theorem rgPut (B g a n op : Nat) (d : Int) (L : Value) (t : ByteArray) (v : Value) (cs : List Value) (ka : Option Addr) (kl kc : Nat) (bad : Bool) (w : World) (h : Rg w g L a d bad v) (hp : NR B w v n cs) (hn : n ≤ 1000) (hg : g < B) (hB : B ≤ w.heap.size) :
  Calls Tryz.prog 49 #[.pointer (some ⟨g, 0, none⟩), .agg #[.int .i64 (op : Int), .string t, .slice ka kl kc]] w fun e w' => ∃ v' : Value, e = .returned (.int .i64 (n : Int)) ∧ Rg w' g L a d (bad || decide (200 < n + 1)) v' ∧ NR B w' v' (n + 1) (cs ++ [.int .i64 (op : Int), .string t, .slice ka kl kc]) ∧
   w.heap.size ≤ w'.heap.size ∧ (∀ k, k < w.heap.size → k ≠ g → v.ownBlock ≠ some k → w'.heap[k]? = w.heap[k]?) ∧ (∀ q, v'.ownBlock = some q → v.ownBlock = some q ∨ w.heap.size ≤ q) ∧ Env w w' := by
 obtain ⟨c0, c1, c2, c3, c4, f1, f2, f3, f4⟩ := cells5 h
 have hgl : g < w.heap.size := by omega
 have hfar := hp.far hg
 go_enter Tryz.func49, Tryz.ntmps49
 go_wp2_with fail
 go_region_law ((refine NR.step hp (by rfl) _ _ (by rfl) (by rfl) _ _ _ (by rfl) (by rfl) (by rfl) _ (by rfl) (by omega) hB ?_; intro q cap w1 hp1 hs1 hq1 hq2 hb1 hk1 hh1; have hR1 := (hh1 g hgl hfar).trans h; obtain ⟨d0, d1, d2, d3, d4, e1, e2, e3, e4⟩ := cells5 hR1))
 all_goals
  have hR2 := set4 hR1 (.slice (some ⟨q, 0, none⟩) (n + 1) cap)
  have hp2 := NR.set hp1 hg 4 (.slice (some ⟨q, 0, none⟩) (n + 1) cap)
  have hh2 : ∀ k, k < w.heap.size → k ≠ g → v.ownBlock ≠ some k → (w1.setCell ⟨g, 4, none⟩ (.slice (some ⟨q, 0, none⟩) (n + 1) cap)).heap[k]? = w.heap[k]? := by
   intro k hk hkg hkv
   rw [Below.heap_setCell _ _ _ _ (by show k ≠ g; exact hkg)]
   exact hh1 k hk hkv
  have hs2 : w.heap.size ≤ (w1.setCell ⟨g, 4, none⟩ (.slice (some ⟨q, 0, none⟩) (n + 1) cap)).heap.size := by simp [World.setCell]; omega
  have hen : Env w (w1.setCell ⟨g, 4, none⟩ (.slice (some ⟨q, 0, none⟩) (n + 1) cap)) := ⟨hb1.os, hb1.tape, hb1.output⟩
  obtain ⟨w2, hw2⟩ : ∃ w2, w2 = w1.setCell ⟨g, 4, none⟩ (.slice (some ⟨q, 0, none⟩) (n + 1) cap) := ⟨_, rfl⟩
  rw [← hw2] at hR2 hp2 hh2 hs2 hen ⊢
  have HEN : Hid (Env w w2) := hen
  have HP2 : Hid (NR B w2 (.slice (some ⟨q, 0, none⟩) (n + 1) cap) (n + 1) (cs ++ [.int .i64 (op : Int), .string t, .slice ka kl kc])) := hp2
  have HH2 : Hid (∀ k, k < w.heap.size → k ≠ g → v.ownBlock ≠ some k → w2.heap[k]? = w.heap[k]?) := hh2
  have HQ : Hid (∀ q', (Value.slice (some ⟨q, 0, none⟩) (n + 1) cap).ownBlock = some q' → v.ownBlock = some q' ∨ w.heap.size ≤ q') := by
   intro q' e
   have e2 : q = q' := by simpa [Value.ownBlock] using e
   rw [← e2]
   exact hq1
  clear hen hw2 hp2 hh2 hp1 hh1 hk1 hb1 hq1 hq2 d0 d1 d2 d3 d4 e1 e2 e3 e4 c0 c1 c2 c3 c4 f1 f2 f3 f4 hR1 h hp
  obtain ⟨d0, d1, d2, d3, d4, e1, e2, e3, e4⟩ := cells5 hR2
  by_cases h200 : 200 < n + 1
  ·have HB : Hid ((bad || decide (200 < n + 1)) = true) := by show _ = _; simp [h200]
   have dd : decide ((200 : Int) < (n : Int) + 1) = true := by simp; omega
   have HR3 : Hid (Rg (w2.setCell ⟨g, 3, none⟩ (.bool true)) g L a d true (.slice (some ⟨q, 0, none⟩) (n + 1) cap)) := (show Rg w2 g L a d bad _ from hR2).bads true
   go_wp2
   go_ret
   rw [HB.out]
   refine ⟨_, rfl, HR3.out, HP2.out.set hg 3 _, by simpa [World.setCell] using hs2, fun k hk hkg hkv => ?_, HQ.out, HEN.out⟩
   rw [Below.heap_setCell _ _ _ _ (by show k ≠ g; exact hkg)]
   exact HH2.out k hk hkg hkv
  ·have HB : Hid ((bad || decide (200 < n + 1)) = bad) := by show _ = _; simp [h200]
   have dd : decide ((200 : Int) < (n : Int) + 1) = false := by simp; omega
   go_wp2
   go_ret
   rw [HB.out]
   exact ⟨_, rfl, hR2, HP2.out, hs2, HH2.out, HQ.out, HEN.out⟩
end PartPrC
section PartPrP
namespace Pr
structure PS where
 a : Nat
 bad : Bool
 out : List Pi
def nd (op : Int) (t : List UInt8) (ks : List Int) : Pi := ⟨op, ⟨t.toArray⟩, ks⟩
namespace PS
def go (st : PS) : PS := ⟨st.a + 1, st.bad, st.out⟩
def fail (st : PS) : PS := ⟨st.a, true, st.out⟩
def put (st : PS) (p : Pi) : PS × Int := (⟨st.a, st.bad || decide (200 < st.out.length + 1), st.out ++ [p]⟩, (st.out.length : Int))
def is (ts : List Tk.Tok) (st : PS) (kind : Nat) (x : List UInt8) : Bool := Pr.is ts st.a st.bad kind x
def want (ts : List Tk.Tok) (st : PS) (x : List UInt8) : PS := if st.is ts 5 x = true then st.go else st.fail
def tok (ts : List Tk.Tok) (st : PS) : Tk.Tok := ts.getD st.a Tk.no
def over (ts : List Tk.Tok) (st : PS) : Bool := st.bad || decide (ts.length ≤ st.a)
def endsN (ts : List Tk.Tok) (st : PS) : Nat := if st.bad = true then 0 else Pr.ends ts st.a
def ends (ts : List Tk.Tok) (st : PS) : PS := ⟨st.a + st.endsN ts, st.bad, st.out⟩
end PS
abbrev Rf := PS → PS × Int
section
variable (ts : List Tk.Tok)
def simpleOne (S E : Rf) (st : PS) : PS × Int :=
 if st.over ts = true then (st.fail, 0)
 else if st.is ts 5 [36] = true then (S st.go).1.put (nd 5 [] [(S st.go).2])
 else if st.is ts 5 [40] = true then ((E st.go).1.want ts [41], (E st.go).2)
 else if (st.tok ts).kind = 2 then st.go.put (nd 1 (st.tok ts).text [])
 else if (st.tok ts).kind = 3 then st.go.put (nd 2 (st.tok ts).text [])
 else if st.is ts 1 [78, 70] = true then st.go.put (nd 6 [] [])
 else if st.is ts 1 [78, 82] = true then st.go.put (nd 7 [] [])
 else if st.is ts 1 [108, 101, 110, 103, 116, 104] = true then ((E (st.go.want ts [40])).1.want ts [41]).put (nd 8 [] [(E (st.go.want ts [40])).2])
 else if (st.tok ts).kind = 1 ∧ Pg.name (st.tok ts).text = true then
  (if st.go.is ts 5 [91] = true then ((E st.go.go).1.want ts [93]).put (nd 4 (st.tok ts).text [(E st.go.go).2]) else st.go.put (nd 3 (st.tok ts).text []))
 else (st.fail, 0)
def binL (F : Rf) (x1 x2 : List UInt8) (o1 o2 : Int) : Nat → PS → Int → PS × Int
 | 0, st, k => (st, k)
 | f + 1, st, k =>
  if st.bad = true then (st, k)
  else if st.is ts 5 x1 = true then binL F x1 x2 o1 o2 f ((F st.go).1.put (nd o1 [] [k, (F st.go).2])).1 ((F st.go).1.put (nd o1 [] [k, (F st.go).2])).2
  else if st.is ts 5 x2 = true then binL F x1 x2 o1 o2 f ((F st.go).1.put (nd o2 [] [k, (F st.go).2])).1 ((F st.go).1.put (nd o2 [] [k, (F st.go).2])).2
  else (st, k)
def product (S : Rf) (st : PS) : PS × Int := binL ts S [42] [37] 11 12 (ts.length + 1) (S st).1 (S st).2
def sum (S : Rf) (st : PS) : PS × Int := binL ts (product ts S) [43] [45] 9 10 (ts.length + 1) (product ts S st).1 (product ts S st).2
def joinL (F : Rf) : Nat → PS → Int → PS × Int
 | 0, st, k => (st, k)
 | f + 1, st, k => if st.is ts 5 [46] = true then joinL F f ((F st.go).1.put (nd 13 [] [k, (F st.go).2])).1 ((F st.go).1.put (nd 13 [] [k, (F st.go).2])).2 else (st, k)
def joined (S : Rf) (st : PS) : PS × Int := joinL ts (sum ts S) (ts.length + 1) (sum ts S st).1 (sum ts S st).2
def held (J : Rf) (st : PS) (k : Int) : PS × Int :=
 if st.is ts 5 [60] = true then (J st.go).1.put (nd 14 [] [k, (J st.go).2])
 else if st.is ts 5 [61, 61] = true then (J st.go).1.put (nd 15 [] [k, (J st.go).2])
 else if st.is ts 5 [126] = true then (if st.go.over ts = true ∨ (st.go.tok ts).kind ≠ 4 then (st.go.fail, 0) else st.go.go.put (nd 16 (st.go.tok ts).text [k]))
 else (st, k)
def exprOne (S : Rf) (st : PS) : PS × Int := held ts (joined ts S) (joined ts S st).1 (joined ts S st).2
def key (E : Rf) (st : PS) : PS × Int := if st.is ts 5 [91] = true then ((E st.go).1.want ts [93], (E st.go).2) else (st, -1)
def setTo (E : Rf) (name : List UInt8) (st : PS) (k : Int) (add : Bool) : PS × Int :=
 if 0 ≤ k ∧ add = true then (E st).1.put (nd 21 name [k, (E st).2])
 else if 0 ≤ k then (E st).1.put (nd 20 name [k, (E st).2])
 else if add = true then (E st).1.put (nd 19 name [(E st).2])
 else (E st).1.put (nd 18 name [(E st).2])
def setOne (E : Rf) (name : List UInt8) (st : PS) : PS × Int :=
 if (key ts E st).1.is ts 5 [43, 61] = true then setTo E name (key ts E st).1.go (key ts E st).2 true else setTo E name ((key ts E st).1.want ts [61]) (key ts E st).2 false
def other (T : Rf) (st : PS) (a b : Int) : PS × Int :=
 if st.is ts 1 [101, 108, 115, 101] = true then (if st.go.is ts 1 [105, 102] = true then (st.go.fail, 0) else (T st.go).1.put (nd 22 [] [a, b, (T st.go).2]))
 else st.put (nd 22 [] [a, b])
def choose (T : Rf) (st : PS) (a : Int) : PS × Int := if st.is ts 1 [105, 102] = true then (st.fail, 0) else other ts T (T st).1 a (T st).2
def choice (E T : Rf) (st : PS) : PS × Int := choose ts T ((E (st.want ts [40])).1.want ts [41]) (E (st.want ts [40])).2
def printL (E : Rf) : Nat → PS → List Int → PS × List Int
 | 0, st, ks => (st, ks)
 | f + 1, st, ks => if st.is ts 5 [44] = true then printL E f (E st.go).1 (ks ++ [(E st.go).2]) else (st, ks)
def printEnd (q : PS × List Int) : PS × Int := (if 4 < q.2.length then q.1.fail else q.1).put (nd 17 [] q.2)
def print (E : Rf) (st : PS) : PS × Int := printEnd (printL ts E (ts.length + 1) (E st).1 [(E st).2])
def behind (st : PS) : PS := if st.endsN ts = 0 ∧ (st.ends ts).is ts 5 [125] = false then (st.ends ts).fail else st.ends ts
def blockL (T : Rf) : Nat → PS → List Int → PS × List Int
 | 0, st, ks => (st, ks)
 | f + 1, st, ks => if st.bad = true ∨ st.is ts 5 [125] = true then (st, ks) else blockL T f (behind ts (T st).1) (ks ++ [(T st).2])
def blockEnd (q : PS × List Int) : PS × Int := (if 20 < q.2.length then (q.1.want ts [125]).fail else q.1.want ts [125]).put (nd 24 [] q.2)
def block (T : Rf) (st : PS) : PS × Int := blockEnd ts (blockL ts T (ts.length + 1) ((st.want ts [123]).ends ts) [])
def statementOne (E T : Rf) (st : PS) : PS × Int :=
 if st.over ts = true then (st.fail, 0)
 else if st.is ts 5 [123] = true then block ts T st
 else if st.is ts 1 [112, 114, 105, 110, 116] = true then print ts E st.go
 else if st.is ts 1 [110, 101, 120, 116] = true then st.go.put (nd 23 [] [])
 else if st.is ts 1 [105, 102] = true then choice ts E T st.go
 else if st.is ts 1 [100, 117, 109, 112] = true then (if ts.length ≤ st.go.a ∨ (st.go.tok ts).kind ≠ 1 ∨ Pg.name (st.go.tok ts).text = false then (st.go.fail, 0) else st.go.go.put (nd 25 (st.go.tok ts).text []))
 else if (st.tok ts).kind = 1 ∧ Pg.name (st.tok ts).text = true then setOne ts E (st.tok ts).text st.go
 else (st.fail, 0)
def stop (st : PS) : PS × Int := (st.fail, 0)
def SE : Nat → Rf × Rf
 | 0 => (stop, fun st => exprOne ts stop st.fail)
 | n + 1 => (simpleOne ts (SE n).1 (SE n).2, exprOne ts (SE n).1)
def T : Nat → Rf
 | 0 => stop
 | n + 1 => statementOne ts (SE ts n).2 (T n)
def ruleHead (st : PS) : PS × (Int × Int) :=
 if st.is ts 1 [66, 69, 71, 73, 78] = true then (st.go, 1, -1)
 else if st.is ts 1 [69, 78, 68] = true then (st.go, 3, -1)
 else if st.is ts 5 [123] = true then (st, 2, -1)
 else (((SE ts 30).2 st).1, 2, ((SE ts 30).2 st).2)
def rulesL : Nat → PS → List Pg.Rl → PS × List Pg.Rl
 | 0, st, rs => (st, rs)
 | f + 1, st, rs => if st.over ts = true then (st, rs) else rulesL f ((block ts (T ts 30) (ruleHead ts st).1).1.ends ts) (rs ++ [⟨(ruleHead ts st).2.1, (ruleHead ts st).2.2, (block ts (T ts 30) (ruleHead ts st).1).2⟩])
end
def readEnd (q : PS × List Pg.Rl) : Option (List Pi × List Pg.Rl) := if q.1.bad = true ∨ Pg.ok q.1.out q.2 = false then none else some (q.1.out, q.2)
def read (l : List UInt8) : Option (List Pi × List Pg.Rl) :=
 if (Tk.tokens l).2 ≠ 0 then none else readEnd (rulesL (Tk.tokens l).1 ((Tk.tokens l).1.length + 1) ((PS.mk 0 false []).ends (Tk.tokens l).1) [])
end Pr
end PartPrP
section PartPrQ
namespace Pr
def Sm (ps : List Pi) : Prop := ∀ p ∈ ps, p.kids.length ≤ 300 ∧ p.text.size ≤ 700
structure Lm (ts : List Tk.Tok) (m : Nat) (st : PS) : Prop where
 good : st.bad = false → st.out.length ≤ 200
 len : st.out.length ≤ 201 + m
 top : st.a ≤ ts.length
 sm : Sm st.out
structure Fn (ts : List Tk.Tok) (m : Nat) (F : Rf) : Prop where
 bad : ∀ st, st.bad = true → (F st).1 = st
 good : ∀ st, st.bad = false → Lm ts 0 st → Lm ts m (F st).1
 mono : ∀ st, st.a ≤ (F st).1.a
variable {ts : List Tk.Tok} {m : Nat} {st : PS}
theorem Lm.zero (h : Lm ts m st) (hb : st.bad = false) : Lm ts 0 st := ⟨h.good, by have := h.good hb; omega, h.top, h.sm⟩
theorem Lm.up {m' : Nat} (h : Lm ts m st) (hm : m ≤ m') : Lm ts m' st := ⟨h.good, by have := h.len; omega, h.top, h.sm⟩
theorem Lm.fn {m' : Nat} {F : Rf} (hF : Fn ts m' F) (h : Lm ts m st) : Lm ts (max m m') (F st).1 := by
 cases hb : st.bad with
 | true => rw [hF.bad st hb]; exact h.up (by omega)
 | false => exact (hF.good st hb (h.zero hb)).up (by omega)
theorem Lm.put {p : Pi} (h : Lm ts m st) (hk : p.kids.length ≤ 300) (ht : p.text.size ≤ 700) : Lm ts (m + 1) (st.put p).1 := by
 refine ⟨fun hb => ?_, ?_, h.top, ?_⟩
 ·simp [PS.put] at hb ⊢
  omega
 ·have := h.len
  simp [PS.put]
  omega
 ·intro q hq
  simp [PS.put] at hq
  rcases hq with hq | rfl
  ·exact h.sm q hq
  ·exact ⟨hk, ht⟩
theorem Lm.fail (h : Lm ts m st) : Lm ts m st.fail := ⟨fun hb => by simp [PS.fail] at hb, h.len, h.top, h.sm⟩
theorem is_lt {k : Nat} {x : List UInt8} (h : st.is ts k x = true) : st.a < ts.length ∧ st.bad = false := by
 unfold PS.is Pr.is at h
 simp at h
 exact ⟨h.1.1.2, h.1.1.1⟩
theorem is_bad {k : Nat} {x : List UInt8} (h : st.bad = true) : st.is ts k x = false := by
 unfold PS.is Pr.is
 rw [h]
 rfl
theorem Lm.go (h : Lm ts m st) (ha : st.a < ts.length) : Lm ts m st.go := ⟨h.good, h.len, ha, h.sm⟩
theorem Lm.want {x : List UInt8} (h : Lm ts m st) : Lm ts m (st.want ts x) := by
 unfold PS.want
 split
 ·rename_i hi
  exact h.go (is_lt hi).1
 ·exact h.fail
theorem want_bad {x : List UInt8} (h : st.bad = true) : st.want ts x = st := by
 unfold PS.want
 rw [is_bad h, if_neg (by simp)]
 cases st
 simp at h
 simp [PS.fail, h]
theorem want_mono {x : List UInt8} : st.a ≤ (st.want ts x).a := by
 unfold PS.want
 split
 ·simp [PS.go]
 ·simp [PS.fail]
theorem fail_bad (h : st.bad = true) : st.fail = st := by
 cases st
 simp at h
 simp [PS.fail, h]
theorem over_bad (h : st.bad = true) : st.over ts = true := by simp [PS.over, h]
theorem over_no (h : ¬ st.over ts = true) : st.bad = false ∧ st.a < ts.length := by
 unfold PS.over at h
 simp at h
 exact ⟨h.1, h.2⟩
theorem put_a {p : Pi} : (st.put p).1.a = st.a := rfl
theorem put_badT {p : Pi} (h : st.bad = true) : (st.put p).1.bad = true := by simp [PS.put, h]
def Tsm (ts : List Tk.Tok) : Prop := ∀ t ∈ ts, t.text.length ≤ 600
theorem Tsm.tok (h : Tsm ts) (st : PS) : (st.tok ts).text.length ≤ 600 := by
 unfold PS.tok
 by_cases hi : st.a < ts.length
 ·rw [List.getD_eq_getElem?_getD, List.getElem?_eq_getElem hi]
  exact h _ (List.getElem_mem hi)
 ·rw [List.getD_eq_getElem?_getD, List.getElem?_eq_none (by omega)]
  simp [Tk.no]
theorem nd_text {op : Int} {t : List UInt8} {ks : List Int} : (nd op t ks).text.size = t.length := by simp [nd, ByteArray.size]
theorem fnStop : Fn ts 0 stop := ⟨fun _ h => fail_bad h, fun _ _ h => h.fail, fun _ => Nat.le_refl _⟩
set_option maxHeartbeats 2000000 in
theorem fnSimple {S E : Rf} (hS : Fn ts m S) (hE : Fn ts m E) (ht : Tsm ts) : Fn ts (m + 1) (simpleOne ts S E) := by
 refine ⟨fun st h => ?_, fun st hb h => ?_, fun st => ?_⟩
 ·unfold simpleOne
  rw [if_pos (over_bad h)]
  exact fail_bad h
 ·unfold simpleOne
  split
  ·exact h.fail.up (by omega)
  rename_i ho
  have hlt := (over_no ho).2
  have tl := ht.tok st
  have hg := h.go hlt
  split
  ·exact ((hg.fn hS).put (by simp [nd]) (by simp [nd_text])).up (by omega)
  split
  ·exact ((hg.fn hE).want).up (by omega)
  split
  ·exact (hg.put (by simp [nd]) (by rw [nd_text]; omega)).up (by omega)
  split
  ·exact (hg.put (by simp [nd]) (by rw [nd_text]; omega)).up (by omega)
  split
  ·exact (hg.put (by simp [nd]) (by simp [nd_text])).up (by omega)
  split
  ·exact (hg.put (by simp [nd]) (by simp [nd_text])).up (by omega)
  split
  ·exact (((hg.want).fn hE).want.put (by simp [nd]) (by simp [nd_text])).up (by omega)
  split
  ·split
   ·rename_i hi
    exact (((hg.go (is_lt hi).1).fn hE).want.put (by simp [nd]) (by rw [nd_text]; omega)).up (by omega)
   ·exact (hg.put (by simp [nd]) (by rw [nd_text]; omega)).up (by omega)
  ·exact h.fail.up (by omega)
 ·unfold simpleOne
  have e1 : st.a ≤ st.go.a := by simp [PS.go]
  split
  ·exact Nat.le_refl _
  split
  ·rw [put_a]; exact Nat.le_trans e1 (hS.mono _)
  split
  ·exact Nat.le_trans e1 (Nat.le_trans (hE.mono _) want_mono)
  split
  ·exact e1
  split
  ·exact e1
  split
  ·exact e1
  split
  ·exact e1
  split
  ·exact Nat.le_trans e1 (Nat.le_trans want_mono (Nat.le_trans (hE.mono _) want_mono))
  split
  ·split
   ·exact Nat.le_trans e1 (Nat.le_trans (by simp [PS.go]) (Nat.le_trans (hE.mono _) want_mono))
   ·exact e1
  ·exact Nat.le_refl _
theorem binL_bad (F : Rf) (x1 x2 : List UInt8) (o1 o2 : Int) (f : Nat) (k : Int) (h : st.bad = true) : binL ts F x1 x2 o1 o2 f st k = (st, k) := by
 cases f with
 | zero => rfl
 | succ f => unfold binL; rw [if_pos h]
theorem binL_lm {F : Rf} (hF : Fn ts m F) (x1 x2 : List UInt8) (o1 o2 : Int) : ∀ f st k, Lm ts (m + 1) st → Lm ts (m + 1) (binL ts F x1 x2 o1 o2 f st k).1 := by
 intro f
 induction f with
 | zero => intro st k h; exact h
 | succ f ih =>
  intro st k h
  unfold binL
  split
  ·exact h
  rename_i hb
  have h0 := h.zero (by simpa using hb)
  split
  ·rename_i hi
   exact ih _ _ ((((h0.go (is_lt hi).1).fn hF).put (by simp [nd]) (by simp [nd_text])).up (by omega))
  split
  ·rename_i hi
   exact ih _ _ ((((h0.go (is_lt hi).1).fn hF).put (by simp [nd]) (by simp [nd_text])).up (by omega))
  ·exact h
theorem binL_mono {F : Rf} (hF : Fn ts m F) (x1 x2 : List UInt8) (o1 o2 : Int) : ∀ f st k, st.a ≤ (binL ts F x1 x2 o1 o2 f st k).1.a := by
 intro f
 induction f with
 | zero => intro st k; exact Nat.le_refl _
 | succ f ih =>
  intro st k
  have e1 : st.a ≤ st.go.a := by simp [PS.go]
  unfold binL
  split
  ·exact Nat.le_refl _
  split
  ·exact Nat.le_trans e1 (Nat.le_trans (hF.mono st.go) (ih ((F st.go).1.put (nd o1 [] [k, (F st.go).2])).1 _))
  split
  ·exact Nat.le_trans e1 (Nat.le_trans (hF.mono st.go) (ih ((F st.go).1.put (nd o2 [] [k, (F st.go).2])).1 _))
  ·exact Nat.le_refl _
theorem fnBin {F : Rf} (hF : Fn ts m F) (x1 x2 : List UInt8) (o1 o2 : Int) (f : Nat) : Fn ts (m + 1) (fun st => binL ts F x1 x2 o1 o2 f (F st).1 (F st).2) := by
 refine ⟨fun st h => ?_, fun st hb h => ?_, fun st => ?_⟩
 ·have e := hF.bad st h
  show (binL ts F x1 x2 o1 o2 f (F st).1 (F st).2).1 = st
  rw [e, binL_bad F x1 x2 o1 o2 f _ h]
 ·exact binL_lm hF x1 x2 o1 o2 f _ _ ((hF.good st hb h).up (by omega))
 ·exact Nat.le_trans (hF.mono st) (binL_mono hF x1 x2 o1 o2 f _ _)
theorem fnProduct {S : Rf} (hS : Fn ts m S) : Fn ts (m + 1) (product ts S) := fnBin hS _ _ _ _ _
theorem fnSum {S : Rf} (hS : Fn ts m S) : Fn ts (m + 2) (sum ts S) := fnBin (fnProduct hS) _ _ _ _ _
theorem joinL_bad (F : Rf) (f : Nat) (k : Int) (h : st.bad = true) : joinL ts F f st k = (st, k) := by
 cases f with
 | zero => rfl
 | succ f => unfold joinL; rw [is_bad h, if_neg (by simp)]
theorem joinL_lm {F : Rf} (hF : Fn ts m F) : ∀ f st k, Lm ts (m + 1) st → Lm ts (m + 1) (joinL ts F f st k).1 := by
 intro f
 induction f with
 | zero => intro st k h; exact h
 | succ f ih =>
  intro st k h
  unfold joinL
  split
  ·rename_i hi
   have h0 := h.zero (is_lt hi).2
   exact ih _ _ ((((h0.go (is_lt hi).1).fn hF).put (by simp [nd]) (by simp [nd_text])).up (by omega))
  ·exact h
theorem joinL_mono {F : Rf} (hF : Fn ts m F) : ∀ f st k, st.a ≤ (joinL ts F f st k).1.a := by
 intro f
 induction f with
 | zero => intro st k; exact Nat.le_refl _
 | succ f ih =>
  intro st k
  have e1 : st.a ≤ st.go.a := by simp [PS.go]
  unfold joinL
  split
  ·exact Nat.le_trans e1 (Nat.le_trans (hF.mono st.go) (ih ((F st.go).1.put (nd 13 [] [k, (F st.go).2])).1 _))
  ·exact Nat.le_refl _
theorem fnJoined {S : Rf} (hS : Fn ts m S) : Fn ts (m + 3) (joined ts S) := by
 have hF := fnSum hS
 refine ⟨fun st h => ?_, fun st hb h => ?_, fun st => ?_⟩
 ·have e := hF.bad st h
  unfold joined
  rw [e, joinL_bad _ _ _ h]
 ·exact joinL_lm hF _ _ _ ((hF.good st hb h).up (by omega))
 ·exact Nat.le_trans (hF.mono st) (joinL_mono hF _ _ _)
theorem fnExpr {S : Rf} (hS : Fn ts m S) (ht : Tsm ts) : Fn ts (m + 4) (exprOne ts S) := by
 have hJ := fnJoined hS
 refine ⟨fun st h => ?_, fun st hb h => ?_, fun st => ?_⟩
 ·unfold exprOne held
  rw [hJ.bad st h, is_bad h, is_bad h, is_bad h, if_neg (by simp), if_neg (by simp), if_neg (by simp)]
 ·have h1 := hJ.good st hb h
  unfold exprOne
  generalize (joined ts S st).1 = s1 at *
  generalize (joined ts S st).2 = k
  unfold held
  split
  ·rename_i hi
   exact (((h1.zero (is_lt hi).2).go (is_lt hi).1).fn hJ).put (by simp [nd]) (by simp [nd_text]) |>.up (by omega)
  split
  ·rename_i hi
   exact (((h1.zero (is_lt hi).2).go (is_lt hi).1).fn hJ).put (by simp [nd]) (by simp [nd_text]) |>.up (by omega)
  split
  ·rename_i hi
   have hg := (h1.zero (is_lt hi).2).go (is_lt hi).1
   split
   ·exact hg.fail.up (by omega)
   ·rename_i ho
    have h3 := over_no (fun h => ho (.inl h))
    exact ((hg.go h3.2).put (by simp [nd]) (by rw [nd_text]; have := ht.tok s1.go; omega)).up (by omega)
  ·exact h1.up (by omega)
 ·have h1 := hJ.mono st
  unfold exprOne
  generalize (joined ts S st).1 = s1 at *
  generalize (joined ts S st).2 = k
  have e1 : s1.a ≤ s1.go.a := by simp [PS.go]
  unfold held
  split
  ·exact Nat.le_trans h1 (Nat.le_trans e1 (hJ.mono _))
  split
  ·exact Nat.le_trans h1 (Nat.le_trans e1 (hJ.mono _))
  split
  ·split
   ·exact Nat.le_trans h1 e1
   ·exact Nat.le_trans h1 (Nat.le_trans e1 (by simp [PS.go, PS.put]))
  ·exact h1
theorem fnSE (ht : Tsm ts) : ∀ n, Fn ts (5 * n + 4) (SE ts n).1 ∧ Fn ts (5 * n + 4) (SE ts n).2 := by
 intro n
 induction n with
 | zero =>
  have hS := fnStop (ts := ts)
  refine ⟨⟨hS.bad, fun st hb h => (hS.good st hb h).up (by omega), hS.mono⟩, ?_⟩
  have hE := fnExpr (ts := ts) fnStop ht
  refine ⟨fun st h => ?_, fun st hb h => ?_, fun st => ?_⟩
  ·show (exprOne ts stop st.fail).1 = st
   rw [fail_bad h, hE.bad st h]
  ·show Lm ts _ (exprOne ts stop st.fail).1
   rw [hE.bad st.fail rfl]
   exact h.fail.up (by omega)
  ·exact hE.mono st.fail
 | succ n ih =>
  have e1 := fnSimple ih.1 ih.2 ht
  have e2 := fnExpr ih.1 ht
  exact ⟨⟨e1.bad, fun st hb h => (e1.good st hb h).up (by omega), e1.mono⟩, ⟨e2.bad, fun st hb h => (e2.good st hb h).up (by omega), e2.mono⟩⟩
end Pr
end PartPrQ
end Go.Proofs.YtkfkbdgfnopokaaGreatDoor
