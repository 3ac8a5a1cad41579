/- The law on Tokens, out of what the program's Tokens answers. -/
import Derived.Test.YtbiknfhfpmomfapTkN
namespace Go.Proofs.Ytbiknfhfpmomfap
open Go.RowKit

/-- A row of tokens in memory of the call's own, from block B on, that may be written. -/
def OwnTk (B : Nat) (w : World) (v : Value) (ts : List Tk.Tok) : Prop := ∃ ad cap, v = .slice ad ts.length cap ∧ TkAt w v ts ∧ (0 < ts.length → ∃ g, ad = some ⟨g, 0, none⟩ ∧ B ≤ g ∧ WT w g ts.length 0)
theorem TkRow.own {B : Nat} {w : World} {v : Value} {ts : List Tk.Tok} (h : TkRow B w v ts) : OwnTk B w v ts := by
  have ha := h.at
  obtain ⟨ad, cap, rfl⟩ := h.form
  refine ⟨ad, cap, rfl, ha, fun h0 => ?_⟩
  obtain ⟨_, _, e, f⟩ := ha
  simp only [Value.slice.injEq] at e
  obtain ⟨rfl, -, -⟩ := e
  obtain ⟨g, rfl, hg, hc⟩ := f h0
  rcases h.2 with ⟨e, _⟩ | ⟨g2, cap2, cur, e, h1, hg2, _⟩
  · simp at e
  · simp only [Value.slice.injEq, Option.some.injEq, Addr.mk.injEq] at e
    obtain ⟨⟨rfl, -, -⟩, -, -⟩ := e
    refine ⟨g, rfl, h1, cur, hg2, ?_, fun i hi => by omega⟩
    have := (hc (ts.length - 1) (by omega)).2
    rw [blk_cell hg2] at this
    have := (Array.getElem?_eq_some_iff.1 this).1
    omega
theorem OwnTk.keep {B : Nat} {w w' : World} {v : Value} {ts : List Tk.Tok} (h : OwnTk B w v ts) (hb : Below w.heap.size w w') : OwnTk B w' v ts := by
  obtain ⟨ad, cap, rfl, h1, f⟩ := h
  refine ⟨ad, cap, rfl, h1.keep hb, fun h0 => ?_⟩
  obtain ⟨g, rfl, hg, k⟩ := f h0
  exact ⟨g, rfl, hg, k.keep hb⟩
/-- All of the row's tokens are marked. -/
def Mkd (w : World) (v : Value) (n : Nat) : Prop := ∃ ad cap, v = .slice ad n cap ∧ (0 < n → ∃ g, ad = some ⟨g, 0, none⟩ ∧ WT w g n n)
theorem Mkd.keep {w w' : World} {v : Value} {n : Nat} (h : Mkd w v n) (hb : Below w.heap.size w w') : Mkd w' v n := by
  obtain ⟨ad, cap, rfl, f⟩ := h
  refine ⟨ad, cap, rfl, fun h0 => ?_⟩
  obtain ⟨g, rfl, k⟩ := f h0
  exact ⟨g, rfl, k.keep hb⟩
theorem marks_own (B : Nat) (v : Value) (ts : List Tk.Tok) (w : World) (h : OwnTk B w v ts) (hB : B ≤ w.heap.size) (hl : ts.length ≤ 1000) :
    Calls Try.prog 7 #[v, .int .i64 1] w fun e w' => e = .returned (.int .i64 ((2 * ts.length + 1 : Nat) : Int)) ∧ Mkd w' v ts.length ∧ Below B w w' := by
  obtain ⟨ad, cap, rfl, -, f⟩ := h
  by_cases h0 : ts.length = 0
  · rw [h0]
    refine (markToks_none ad cap w).mono ?_
    rintro e w' ⟨rfl, rfl⟩
    exact ⟨rfl, ⟨ad, cap, rfl, fun h => absurd h (by omega)⟩, Below.refl _ _⟩
  · obtain ⟨g, rfl, hg, hw⟩ := f (by omega)
    refine (markToks_any g ts.length cap w hw hl).mono ?_
    rintro e w' ⟨rfl, h1, h2⟩
    exact ⟨rfl, ⟨_, cap, rfl, fun _ => ⟨g, rfl, h1⟩⟩, h2.below hg hB⟩
theorem helds_own (v : Value) (n : Nat) (w : World) (h : Mkd w v n) (hl : n ≤ 1000) :
    Calls Try.prog 8 #[v, .int .i64 1] w fun e w' => e = .returned (.int .i64 ((2 * n + 1 : Nat) : Int)) ∧ Below w.heap.size w w' := by
  obtain ⟨ad, cap, rfl, f⟩ := h
  by_cases h0 : n = 0
  · subst h0
    refine (heldToks_none ad cap w).mono ?_
    rintro e w' ⟨rfl, rfl⟩
    exact ⟨rfl, Below.refl _ _⟩
  · obtain ⟨g, rfl, hw⟩ := f (by omega)
    exact heldToks_any g n cap w hw hl

/-- What the program's Tokens is to answer. -/
def ImplTk : Prop := ∀ (s : ByteArray) (w : World), s.size ≤ 1048576 → Calls Try.prog 5 #[.string s] w fun e w' => ∃ v, e = .returned (.tuple #[v, .int .i64 ((Tk.tokens s.data.toList).2 : Int)]) ∧ OwnTk w.heap.size w' v (Tk.tokens s.data.toList).1 ∧ Below w.heap.size w w'

set_option maxHeartbeats 4000000 in
set_option maxRecDepth 100000 in
theorem lawTokens_of (HI : ImplTk) (s : ByteArray) (w : World) :
    Calls Try.prog 3 #[.string s] w fun e w' => e = .returned (.bool true) ∧ Below w.heap.size w w' := by
  by_cases hbig : 1048576 < s.size
  · have d0 : decide ((1048576 : Int) < (s.size : Int)) = true := decide_eq_true (by omega)
    go_enter Try.func3, Try.ntmps3
    go_wp2
    go_ret
    exact ⟨rfl, Below.refl _ _⟩
  have d0 : decide ((1048576 : Int) < (s.size : Int)) = false := decide_eq_false (by omega)
  have hs : s.size ≤ 1048576 := by omega
  have HP : Hid ImplTk := HI
  clear HI hbig
  have hl := Tk.tokens_len s.data.toList
  have CS : Hid (Calls Try.prog 4 #[.string s] w fun e w' => ∃ v, e = .returned (.tuple #[v, .int .i64 ((Tk.tokens s.data.toList).2 : Int)]) ∧ TkRow w.heap.size w' v (Tk.tokens s.data.toList).1 ∧ Below w.heap.size w w') := specTokens_any s w hs
  have CI : Hid (∀ w, Calls Try.prog 5 #[.string s] w fun e w' => ∃ v, e = .returned (.tuple #[v, .int .i64 ((Tk.tokens s.data.toList).2 : Int)]) ∧ OwnTk w.heap.size w' v (Tk.tokens s.data.toList).1 ∧ Below w.heap.size w w') := fun w => HP.out s w hs
  clear HP
  generalize (Tk.tokens s.data.toList).2 = F at *
  generalize (Tk.tokens s.data.toList).1 = ts at *
  have hq : ((F : Int) != (F : Int)) = false := by simp
  go_enter Try.func3, Try.ntmps3
  go_wp2_with fail
  refine CS.out.mono ?_
  rintro e w1 ⟨v, rfl, hv, b1⟩
  have A1 : Hid (TkAt w1 v ts) := hv.at
  have B1 : Hid (Below w.heap.size w w1) := b1
  obtain ⟨va, vc, rfl⟩ := hv.form
  clear b1 hv CS
  go_wp2_with fail
  refine (CI.out _).mono ?_
  rintro e w2 ⟨u, rfl, hu, b2⟩
  have B2 : Hid (Below w1.heap.size w1 w2) := b2
  have O2 : Hid (OwnTk w1.heap.size w2 u ts) := hu
  obtain ⟨ua, uc, rfl, hua, -⟩ := hu
  have E2 : Hid (Calls Try.prog 6 #[.slice ua ts.length uc, .slice va ts.length vc] w2 fun e w' => e = .returned (.bool true) ∧ Below w2.heap.size w2 w') := eqToks_same _ _ ts w2 hua (A1.out.keep b2) (by omega)
  have hs2 := b2.size
  clear b2 hua
  go_wp2_with fail
  refine E2.out.mono ?_
  rintro e w3 ⟨rfl, b3⟩
  have B3 : Hid (Below w1.heap.size w1 w3) := B2.out.trans (b3.mono hs2)
  have hs3 := B3.out.size
  obtain ⟨M, hM⟩ : ∃ M, M = 2 * ts.length + 1 := ⟨_, rfl⟩
  have C3 : Hid (Calls Try.prog 7 #[.slice ua ts.length uc, .int .i64 1] w3 fun e w' => e = .returned (.int .i64 (M : Int)) ∧ Mkd w' (.slice ua ts.length uc) ts.length ∧ Below w1.heap.size w3 w') := by
    rw [hM]
    exact marks_own w1.heap.size _ ts w3 (O2.out.keep b3) hs3 (by omega)
  have HM : Hid (M = 2 * ts.length + 1) := hM
  have dM : decide ((M : Int) < 0) = false := decide_eq_false (by omega)
  have qM : ((M : Int) != (M : Int)) = false := by simp
  clear b3 hM O2 B2 E2 hs2
  go_wp2_with fail
  refine C3.out.mono ?_
  rintro e w4 ⟨rfl, m4, b4⟩
  have B4 : Hid (Below w1.heap.size w1 w4) := B3.out.trans b4
  have M4 : Hid (Mkd w4 (.slice ua ts.length uc) ts.length) := m4
  have CH : Hid (∀ W, Below w4.heap.size w4 W → Calls Try.prog 8 #[.slice ua ts.length uc, .int .i64 1] W fun e w' => e = .returned (.int .i64 (M : Int)) ∧ Below W.heap.size W w') := by
    intro W hW
    rw [HM.out]
    exact helds_own _ ts.length W (M4.out.keep hW) (by omega)
  clear b4 m4 C3 B3 hs3
  go_wp2_with fail
  refine (CH.out _ (Below.refl _ _)).mono ?_
  rintro e w5 ⟨rfl, b5⟩
  have G5 : Hid (Below w4.heap.size w4 w5) := b5
  clear b5
  go_wp2_with fail
  refine (CI.out _).mono ?_
  rintro e w6 ⟨x, rfl, hx, b6⟩
  have G6 : Hid (Below w4.heap.size w4 w6) := G5.out.trans (b6.mono G5.out.size)
  have B6 : Hid (Below w1.heap.size w1 w6) := B4.out.trans (G6.out.mono B4.out.size)
  obtain ⟨xa, xc, rfl, hxa, -⟩ := hx
  have E6 : Hid (Calls Try.prog 6 #[.slice xa ts.length xc, .slice va ts.length vc] w6 fun e w' => e = .returned (.bool true) ∧ Below w6.heap.size w6 w') := eqToks_same _ _ ts w6 hxa (A1.out.keep B6.out) (by omega)
  clear b6 hxa G5 B4
  go_wp2_with fail
  refine E6.out.mono ?_
  rintro e w7 ⟨rfl, b7⟩
  have G7 : Hid (Below w4.heap.size w4 w7) := G6.out.trans (b7.mono G6.out.size)
  have B7 : Hid (Below w1.heap.size w1 w7) := B6.out.trans (b7.mono B6.out.size)
  clear b7 G6 B6 E6
  go_wp2_with fail
  refine (CH.out _ G7.out).mono ?_
  rintro e w8 ⟨rfl, b8⟩
  have B8 : Hid (Below w.heap.size w w8) := B1.out.trans ((B7.out.trans (b8.mono B7.out.size)).mono B1.out.size)
  clear b8 G7 B7 B1
  go_wp2
  go_ret
  exact ⟨rfl, B8.out⟩
#print axioms lawTokens_of
end Go.Proofs.Ytbiknfhfpmomfap
