/- Tasks in memory: a row of them that is read; how great it is, as the law measures it. Frames: what of a world is as it was. -/
import Derived.Test.YthnmopldpgdenaaMPTcZac
import Derived.Test.YthnmopldpgdenaaMPTcZad
import Derived.Test.YthnmopldpgdenaaProg
import Derived.WalkKit
import Derived.Below
namespace Go.Proofs.Ythnmopldpgdenaa
section PartKdA
open Go.RowKit

/-- A task, plain. -/
structure Tk where
  ls : List ByteArray
  try_ : Int
  till : Int
  done : Bool
  vs : List Vr
  cs : List Cl
  o : ByteArray
def Tk.no : Tk := ⟨[], 0, 0, false, [], [], ByteArray.empty⟩
instance : Inhabited Tk := ⟨Tk.no⟩
theorem hidOfT {p : Prop} (h : p) : Hid p := h
/-- The task's value. -/
def Tk.val (l u x : Value) (t : Tk) : Value := .agg #[l, .int .i64 t.try_, .int .i64 t.till, .bool t.done, u, x, .string t.o]
/-- The rows of a task. -/
structure Tk.Rows (w : World) (l u x : Value) (t : Tk) : Prop where
  ls : TsAt w l t.ls
  vr : VrAt w u t.vs
  cl : ClAt w x t.cs
theorem Tk.Rows.keep {w w' : World} {l u x : Value} {t : Tk} (h : Tk.Rows w l u x t) (hb : Below w.heap.size w w') : Tk.Rows w' l u x t := ⟨h.ls.keep hb, h.vr.keep hb, h.cl.keep hb⟩
/-- The seven cells of a task. -/
def TkC (w : World) (b o : Nat) (l u x : Value) (t : Tk) : Prop := w.cell? ⟨b, o, none⟩ = some l ∧ w.cell? ⟨b, o + 1, none⟩ = some (.int .i64 t.try_) ∧ w.cell? ⟨b, o + 2, none⟩ = some (.int .i64 t.till) ∧ w.cell? ⟨b, o + 3, none⟩ = some (.bool t.done) ∧ w.cell? ⟨b, o + 4, none⟩ = some u ∧ w.cell? ⟨b, o + 5, none⟩ = some x ∧ w.cell? ⟨b, o + 6, none⟩ = some (.string t.o)
theorem TkC.keep {w w' : World} {b o : Nat} {l u x : Value} {t : Tk} (h : TkC w b o l u x t) (hl : b < w.heap.size) (hb : Below w.heap.size w w') : TkC w' b o l u x t :=
  ⟨(hb.cell hl).trans h.1, (hb.cell hl).trans h.2.1, (hb.cell hl).trans h.2.2.1, (hb.cell hl).trans h.2.2.2.1, (hb.cell hl).trans h.2.2.2.2.1, (hb.cell hl).trans h.2.2.2.2.2.1, (hb.cell hl).trans h.2.2.2.2.2.2⟩
/-- The slice v leads to the tasks ks. -/
def KsAt (w : World) (v : Value) (ks : List Tk) : Prop := ∃ (a : Option Addr) (c : Nat), v = .slice a ks.length c ∧
  (0 < ks.length → ∃ b o, a = some ⟨b, o, none⟩ ∧ b < w.heap.size ∧ ∀ i, i < ks.length → ∃ l u x, TkC w b (o + i * 7) l u x (ks.getD i Tk.no) ∧ Tk.Rows w l u x (ks.getD i Tk.no))
theorem KsAt.keep {w w' : World} {v : Value} {ks : List Tk} (h : KsAt w v ks) (hb : Below w.heap.size w w') : KsAt w' v ks := by
  obtain ⟨ka, kc, rfl, f⟩ := h
  refine ⟨ka, kc, rfl, fun h0 => ?_⟩
  obtain ⟨b, o, rfl, hl, hc⟩ := f h0
  refine ⟨b, o, rfl, Nat.lt_of_lt_of_le hl hb.size, fun i hi => ?_⟩
  obtain ⟨l, u, x, h1, h2⟩ := hc i hi
  exact ⟨l, u, x, h1.keep hl hb, h2.keep hb⟩
/-- What can be handed in. -/
structure Tk.Fit (t : Tk) : Prop where
  l : t.ls.length ≤ maxLen ∧ ∀ i, i < t.ls.length → (t.ls.getD i ByteArray.empty).size ≤ maxLen
  s : StFit t.vs t.cs t.o
/-- No part is too great. -/
structure Tk.Sm (t : Tk) : Prop where
  ll : t.ls.length ≤ 1048576
  lt : TsSmall t.ls t.ls.length
  s : StSmall t.vs t.cs t.o
def KsFit (ks : List Tk) : Prop := ks.length ≤ maxLen ∧ ∀ i, i < ks.length → (ks.getD i Tk.no).Fit
def KsSm (ks : List Tk) (n : Nat) : Prop := ∀ i, i < n → (ks.getD i Tk.no).Sm
theorem sevT {W : World} {b : Nat} {t : TypeId} {u0 u1 u2 u3 u4 u5 u6 : Value} (h : W.heap[b]? = some (.cells #[u0, u1, u2, u3, u4, u5, u6] t (0, 0))) :
    W.cell? ⟨b, 0, none⟩ = some u0 ∧ W.cell? ⟨b, 1, none⟩ = some u1 ∧ W.cell? ⟨b, 2, none⟩ = some u2 ∧ W.cell? ⟨b, 3, none⟩ = some u3 ∧ W.cell? ⟨b, 4, none⟩ = some u4 ∧ W.cell? ⟨b, 5, none⟩ = some u5 ∧ W.cell? ⟨b, 6, none⟩ = some u6 :=
  ⟨(blk_cell h 0).trans rfl, (blk_cell h 1).trans rfl, (blk_cell h 2).trans rfl, (blk_cell h 3).trans rfl, (blk_cell h 4).trans rfl, (blk_cell h 5).trans rfl, (blk_cell h 6).trans rfl⟩

set_option maxHeartbeats 2000000 in
set_option maxRecDepth 100000 in
theorem szTask_any (lv u x : Value) (t : Tk) (l : Int) (w : World) (h : Tk.Rows w lv u x t) (hl0 : 0 ≤ l) (hl : l ≤ 1048576) (hf : t.Fit) :
    Calls Try.prog 37 #[Tk.val lv u x t, .int .i64 l] w fun e w' => Below w.heap.size w w' ∧ ∃ r : Int, e = .returned (.int .i64 r) ∧ (r = -1 ∨ (0 ≤ r ∧ r ≤ l ∧ t.Sm)) := by
  have HH : Hid (∀ W, Below w.heap.size w W → Tk.Rows W lv u x t) := fun W hb => h.keep hb
  have HF := hidOfT hf
  obtain ⟨la, lc, rfl, -⟩ := h.ls
  obtain ⟨ua, uc, rfl, -⟩ := h.vr
  obtain ⟨xa, xc, rfl, -⟩ := h.cl
  have CN : Hid (∀ W, Below w.heap.size w W → Calls Try.prog 12 #[.slice la t.ls.length lc, .int .i64 l] W fun e w' => Below W.heap.size W w' ∧ ∃ r' : Int, e = .returned (.int .i64 r') ∧ (r' = -1 ∨ 0 ≤ r' ∧ r' ≤ l ∧ t.ls.length ≤ 1048576 ∧ TsSmall t.ls t.ls.length)) :=
    fun W hb => szTs_any _ _ l W (HH.out _ hb).ls hl0 hl HF.out.l.1 HF.out.l.2
  have CS : Hid (∀ W (r : Int), Below w.heap.size w W → 0 ≤ r → r ≤ l → Calls Try.prog 13 #[.agg #[.slice ua t.vs.length uc, .slice xa t.cs.length xc, .string t.o], .int .i64 r] W fun e w' => Below W.heap.size W w' ∧ ∃ r' : Int, e = .returned (.int .i64 r') ∧ (r' = -1 ∨ 0 ≤ r' ∧ r' ≤ r ∧ StSmall t.vs t.cs t.o)) :=
    fun W r hb h0 h1 => szStore_any _ _ _ _ _ r W (HH.out _ hb).vr (HH.out _ hb).cl h0 (by omega) HF.out.s
  unfold Tk.val
  obtain ⟨a0, hA⟩ : ∃ A : Obj, A = .cells #[.slice la t.ls.length lc, .int .i64 t.try_, .int .i64 t.till, .bool t.done, .slice ua t.vs.length uc, .slice xa t.cs.length xc, .string t.o] 73 := ⟨_, rfl⟩
  have HB0 : Hid (Below w.heap.size w (w.alloc (.cells #[.slice la t.ls.length lc, .int .i64 t.try_, .int .i64 t.till, .bool t.done, .slice ua t.vs.length uc, .slice xa t.cs.length xc, .string t.o] 73))) := (Below.refl _ _).alloc (Nat.le_refl _) _
  have HR0 : Hid ((w.alloc (.cells #[.slice la t.ls.length lc, .int .i64 t.try_, .int .i64 t.till, .bool t.done, .slice ua t.vs.length uc, .slice xa t.cs.length xc, .string t.o] 73)).heap[w.heap.size]? = some (.cells #[.slice la t.ls.length lc, .int .i64 t.try_, .int .i64 t.till, .bool t.done, .slice ua t.vs.length uc, .slice xa t.cs.length xc, .string t.o] 73 (0, 0))) := heap_alloc_new _ _
  clear HH HF h hf
  go_enter Try.func37, Try.ntmps37
  go_wp2_with fail
  generalize w.alloc (.cells #[.slice la t.ls.length lc, .int .i64 t.try_, .int .i64 t.till, .bool t.done, .slice ua t.vs.length uc, .slice xa t.cs.length xc, .string t.o] 73) = W0 at *
  have HQ : Hid (∀ W, Below W0.heap.size W0 W → W.heap[w.heap.size]? = some (.cells #[.slice la t.ls.length lc, .int .i64 t.try_, .int .i64 t.till, .bool t.done, .slice ua t.vs.length uc, .slice xa t.cs.length xc, .string t.o] 73 (0, 0)) ∧ Below w.heap.size w W) := fun W hb => ⟨(hb.block _ (blk_lt HR0.out)).trans HR0.out, HB0.out.trans (hb.mono HB0.out.size)⟩
  refine (CN.out _ HB0.out).mono ?_
  rintro e w1 ⟨hb1, r1, rfl, hr⟩
  have H1 : Hid (Below W0.heap.size W0 w1) := hb1
  clear hb1 CN HB0 HR0
  rcases hr with rfl | ⟨k1, k2, k3⟩
  · go_wp2_with fail
    go_ret
    exact ⟨(HQ.out _ H1.out).2, -1, rfl, .inl rfl⟩
  have K1 := hidOfT k3
  have d1 : decide (r1 < 0) = false := decide_eq_false (by omega)
  obtain ⟨-, -, -, -, q4, q5, q6⟩ := sevT (HQ.out _ H1.out).1
  go_wp2_with fail
  refine (CS.out _ r1 (HQ.out _ H1.out).2 k1 k2).mono ?_
  rintro e w2 ⟨hb2, r2, rfl, hr⟩
  have H2 : Hid (Below W0.heap.size W0 w2) := H1.out.trans (hb2.mono H1.out.size)
  clear hb2 CS H1 q4 q5 q6 d1
  rcases hr with rfl | ⟨k4, k5, k6⟩
  · go_wp2_with fail
    go_ret
    exact ⟨(HQ.out _ H2.out).2, -1, rfl, .inl rfl⟩
  have K2 := hidOfT k6
  have d2 : decide (r2 < 0) = false := decide_eq_false (by omega)
  clear k3 k6
  go_wp2_with fail
  go_ret
  exact ⟨(HQ.out _ H2.out).2, _, rfl, .inr ⟨k4, by omega, ⟨K1.out.1, K1.out.2, K2.out⟩⟩⟩

set_option maxHeartbeats 2000000 in
set_option maxRecDepth 100000 in
theorem szTasks_any (v : Value) (ks : List Tk) (l : Int) (w : World) (h : KsAt w v ks) (hl0 : 0 ≤ l) (hl : l ≤ 1048576) (hf : KsFit ks) :
    Calls Try.prog 14 #[v, .int .i64 l] w fun e w' => Below w.heap.size w w' ∧ ∃ r : Int, e = .returned (.int .i64 r) ∧ (r = -1 ∨ 0 ≤ r ∧ r ≤ l ∧ ks.length ≤ 1048576 ∧ KsSm ks ks.length) := by
  have hf1 := hf.1
  unfold maxLen at hf1
  obtain ⟨ad, c, rfl, f⟩ := h
  obtain ⟨n, hn⟩ : ∃ n, n = ks.length := ⟨_, rfl⟩
  have HF : Hid (∀ i, i < n → (ks.getD i Tk.no).Fit) := by rw [hn]; exact hf.2
  rw [← hn] at f hf1 ⊢
  clear hf
  by_cases hq : l - (n : Int) < 0
  · have d : decide (l - (n : Int) < 0) = true := by simpa using hq
    clear f hn
    go_enter Try.func14, Try.ntmps14
    go_wp2
    go_ret
    exact ⟨Below.refl _ _, -1, rfl, .inl rfl⟩
  · have d : decide (l - (n : Int) < 0) = false := by simpa using hq
    have hn2 : n ≤ 1048576 := by omega
    by_cases h0 : n = 0
    · subst h0
      clear f hn HF
      have d : decide (l - ((0 : Nat) : Int) < 0) = false := by simpa using hq
      go_enter Try.func14, Try.ntmps14
      go_wp2
      refine wp_loop_rounds 1 ?_
      rw [rounds_succ]
      go_wp2
      go_ret
      exact ⟨Below.refl _ _, _, rfl, .inr ⟨by omega, by omega, by omega, fun i hi => by omega⟩⟩
    · obtain ⟨b, o, rfl, hb, hc⟩ := f (by omega)
      have HC : Hid (∀ i, i < n → ∃ l u x, TkC w b (o + i * 7) l u x (ks.getD i Tk.no) ∧ Tk.Rows w l u x (ks.getD i Tk.no)) := hc
      clear hc f hn
      go_enter Try.func14, Try.ntmps14
      go_wp2
      go_loopw [1, 5] (fun q i wr => ∃ (k : Nat) (r : Int), i = .int .i64 (k : Int) ∧ q = .int .i64 r ∧ 0 ≤ r ∧ r ≤ l ∧ k ≤ n ∧ Below w.heap.size w wr ∧ Hid (KsSm ks k)) (fun _ i _ => n - (intOf i).toNat)
      case atStart => exact ⟨0, _, rfl, rfl, by omega, by omega, by omega, Below.refl _ _, fun i hi => by omega⟩
      case round =>
        obtain ⟨k, r, rfl, rfl, hr0, hr1, hk, hbel, HS⟩ := hrel
        have hsz := hbel.size
        by_cases hlt : k < n
        · obtain ⟨p, hp⟩ : ∃ p, p = ks.getD k Tk.no := ⟨_, rfl⟩
          have hpc := HC.out k hlt
          rw [← hp] at hpc
          obtain ⟨lv, u, x, hcc, hrw⟩ := hpc
          obtain ⟨e0, e1, e2, e3, e4, e5, e6⟩ := hcc.keep hb hbel
          have hkl := HF.out k hlt
          rw [← hp] at hkl
          have CC : Hid (Calls Try.prog 37 #[Tk.val lv u x p, .int .i64 r] wr fun e w' => Below wr.heap.size wr w' ∧ ∃ r' : Int, e = .returned (.int .i64 r') ∧ (r' = -1 ∨ 0 ≤ r' ∧ r' ≤ r ∧ p.Sm)) :=
            szTask_any lv u x p r wr (hrw.keep hbel) hr0 (by omega) hkl
          have HP : Hid (p = ks.getD k Tk.no) := hp
          unfold Tk.val at CC
          clear hp hcc hkl
          obtain ⟨la, lc, rfl, -⟩ := hrw.ls
          obtain ⟨ua, uc, rfl, -⟩ := hrw.vr
          obtain ⟨xa, xc, rfl, -⟩ := hrw.cl
          clear hrw
          have i1 : (k : Int) < (n : Int) := by omega
          go_wp2_with fail
          refine CC.out.mono ?_
          rintro e w1 ⟨hb1, r1, rfl, hr⟩
          rcases hr with rfl | ⟨h3, h4, h5⟩
          · go_wp2
            go_ret
            exact ⟨hbel.trans (hb1.mono hsz), -1, rfl, .inl rfl⟩
          · have d2 : decide (r1 < 0) = false := by simp; omega
            have H5 := hidOfT h5
            clear h5
            go_wp2
            go_roundw
            case rel =>
              refine ⟨k + 1, r1, by go_num, rfl, h3, by omega, by omega, hbel.trans (hb1.mono hsz), ?_⟩
              intro i hi
              by_cases hik : i = k
              · subst hik
                rw [← HP.out]
                exact H5.out
              · exact HS.out i (by omega)
            case measure => simp [intOf]; omega
        · obtain rfl : k = n := by omega
          go_wp2
          go_ret
          exact ⟨hbel, _, rfl, .inr ⟨hr0, hr1, by omega, HS.out⟩⟩
end PartKdA
section PartFrm
open Go.RowKit

/-- All but the memory is as it was. -/
def Env (w w' : World) : Prop := w'.os = w.os ∧ w'.tape = w.tape ∧ w'.output = w.output
theorem Env.refl (w : World) : Env w w := ⟨rfl, rfl, rfl⟩
theorem Env.trans {w w1 w2 : World} (h : Env w w1) (k : Env w1 w2) : Env w w2 := ⟨k.1.trans h.1, k.2.1.trans h.2.1, k.2.2.trans h.2.2⟩
/-- A frame: what lies below B, and from C on, is as it was. -/
def FM (B C : Nat) (w w' : World) : Prop := Env w w' ∧ w.heap.size ≤ w'.heap.size ∧ ∀ k, k < w.heap.size → (k < B ∨ C ≤ k) → w'.heap[k]? = w.heap[k]?
theorem FM.refl (B C : Nat) (w : World) : FM B C w w := ⟨Env.refl w, Nat.le_refl _, fun _ _ _ => rfl⟩
theorem FM.set {B C : Nat} {w w' : World} (h : FM B C w w') (r o : Nat) (u : Value) (h1 : B ≤ r) (h2 : r < C) : FM B C w (w'.setCell ⟨r, o, none⟩ u) :=
  ⟨h.1, by simpa [World.setCell] using h.2.1, fun k hk hkk => by rw [Below.heap_setCell _ _ _ _ (by show k ≠ r; omega)]; exact h.2.2 k hk hkk⟩
theorem FM.up {B C : Nat} {w w' w2 : World} (h : FM B C w w') (hb : Below w'.heap.size w' w2) : FM B C w w2 :=
  ⟨h.1.trans ⟨hb.os, hb.tape, hb.output⟩, Nat.le_trans h.2.1 hb.size, fun k hk hkk => (hb.block k (Nat.lt_of_lt_of_le hk h.2.1)).trans (h.2.2 k hk hkk)⟩
end PartFrm
end Go.Proofs.Ythnmopldpgdenaa
