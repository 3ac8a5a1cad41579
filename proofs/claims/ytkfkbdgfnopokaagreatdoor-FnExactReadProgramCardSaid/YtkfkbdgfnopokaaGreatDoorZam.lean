/- The specification's reader of a program: simple ones and expressions, however deep. Plain facts: bounds of what the reader makes of statements. The specification's reader of a program: what is set. What is a number: the program's IsNum and the specification's, at every text. The specification of ProgramOk: how many kids; expressions; a node's text. The specification of ProgramOk: a node's text. -/
import Derived.Test.YtkfkbdgfnopokaaGreatDoorPrH
import Derived.Test.YtkfkbdgfnopokaaGreatDoorZak
import Derived.Test.YtkfkbdgfnopokaaGreatDoorProg
import Derived.Test.YtkfkbdgfnopokaaGreatDoorZah
import Derived.WalkKit
import Derived.WalkSpells
import Derived.WalkLawsBesides
import Derived.Handy
import Derived.Lib.Strings
import Derived.Test.YtkfkbdgfnopokaaGreatDoorZai
import Derived.Test.YtkfkbdgfnopokaaGreatDoorZaa
import Derived.Test.YtkfkbdgfnopokaaGreatDoorZae
namespace Go.Proofs.YtkfkbdgfnopokaaGreatDoor
section PartPrI
open Go.RowKit
section
variable {ts : List Tk.Tok} {B g : Nat} {L : Value} {Xs : Nat → Prop} {d : Int} {st : Pr.PS}
set_option maxRecDepth 100000 in
set_option maxHeartbeats 1000000 in
theorem conSimpleBad (hdd : 30 < d) : Con ts B g L 165 d Pr.stop := by
 intro st hlm hd Xs w0 v0 w v h
 have HA : Hid (At ts B g L Xs w0 v0 w d st v) := h
 obtain ⟨c0, c1, c2, c3, c4, f1, f2, f3, f4⟩ := cells5 h.rs.rg
 rw [hd hdd] at c3
 obtain ⟨ad, cap, rfl, -⟩ := h.rs.tk
 clear h hd hdd hlm
 unfold me at *
 go_enter Tryz.func165, Tryz.ntmps165
 go_wp2_with fail
 go_quiet (fail)
 go_wp2
 go_ret
 exact ⟨v, rfl, (HA.out.drew _).fail⟩
theorem deeper_far (h : 30 < d + 1) (st : Pr.PS) : deeper d st = st.fail := by
 unfold deeper Pr.PS.fail
 rw [decide_eq_true h, Bool.or_true]
theorem deeper_near (h : ¬ 30 < d + 1) (st : Pr.PS) : deeper d st = st := by
 unfold deeper
 rw [decide_eq_false h, Bool.or_false]
theorem conStop (h : 29 < d) (h2 : d ≤ 100) : Con ts B g L 146 d Pr.stop := by
 refine (conSimple (F := Pr.stop) (conSimpleBad (by omega)) (by omega) h2).of (fun st _ => ?_)
 rw [deeper_far (by omega)]
 rfl
theorem conExprs {S : Pr.Rf} {m : Nat} (hS : Con ts B g L 146 d S) (hF : Pr.Fn ts m S) (hm : m ≤ 240) (hl : ts.length ≤ 200) : Con ts B g L 45 d (Pr.exprOne ts S) := by
 have h1 : Con ts B g L 128 d (Pr.product ts S) := conProductL hS hF (by omega) hl
 have h2 : Con ts B g L 106 d (Pr.sum ts S) := conSumL h1 (Pr.fnProduct hF) (by omega) hl
 have h3 : Con ts B g L 80 d (Pr.joined ts S) := conJoinedL h2 (Pr.fnSum hF) (by omega) hl
 exact conExprOne h3 (Pr.fnJoined hF) (by omega) hl
theorem conSE (hl : ts.length ≤ 200) (hts : Pr.Tsm ts) : ∀ n : Nat, n ≤ 30 → ∀ d : Int, d = 30 - (n : Int) → Con ts B g L 146 d (Pr.SE ts n).1 ∧ Con ts B g L 18 d (Pr.SE ts n).2 := by
 intro n
 induction n with
 | zero =>
  intro _ d hd
  refine ⟨conStop (by omega) (by omega), ?_⟩
  have hE := conExprs (ts := ts) (B := B) (g := g) (L := L) (d := d + 1) (conStop (by omega) (by omega)) Pr.fnStop (by omega) hl
  refine (conExpr hE (by omega) (by omega)).of (fun st _ => ?_)
  rw [deeper_far (by omega)]
  rfl
 | succ n ih =>
  intro hn d hd
  obtain ⟨hS, hE⟩ := ih (by omega) (d + 1) (by omega)
  obtain ⟨fS, fE⟩ := Pr.fnSE (ts := ts) hts n
  constructor
  ·refine (conSimple (conSimpleOne hS hE fS fE (by omega) hl hts) (by omega) (by omega)).of (fun st _ => ?_)
   rw [deeper_near (by omega)]
   rfl
  ·refine (conExpr (conExprs hS fS (by omega) hl) (by omega) (by omega)).of (fun st _ => ?_)
   rw [deeper_near (by omega)]
   rfl
end
end PartPrI
section PartPrR
namespace Pr
variable {ts : List Tk.Tok} {m : Nat} {st : PS}
theorem endsN_le (h : st.a ≤ ts.length) : st.a + st.endsN ts ≤ ts.length := by
 unfold PS.endsN
 split
 ·omega
 ·have := Pr.ends_le ts st.a
  omega
theorem Lm.ends (h : Lm ts m st) : Lm ts m (st.ends ts) := ⟨h.good, h.len, endsN_le h.top, h.sm⟩
theorem ends_mono : st.a ≤ (st.ends ts).a := by simp [PS.ends]
theorem Lm.behind (h : Lm ts m st) : Lm ts m (behind ts st) := by
 unfold Pr.behind
 split
 ·exact h.ends.fail
 ·exact h.ends
theorem behind_mono : st.a ≤ (behind ts st).a := by
 unfold Pr.behind
 split
 ·exact ends_mono
 ·exact ends_mono
theorem key_lm {E : Rf} (hE : Fn ts m E) (h : Lm ts m st) : Lm ts m (key ts E st).1 := by
 unfold key
 split
 ·rename_i hi
  exact ((h.go (is_lt hi).1).fn hE).want.up (by omega)
 ·exact h
theorem key_mono {E : Rf} (hE : Fn ts m E) : st.a ≤ (key ts E st).1.a := by
 unfold key
 split
 ·exact Nat.le_trans (by simp [PS.go]) (Nat.le_trans (hE.mono st.go) want_mono)
 ·exact Nat.le_refl _
theorem setTo_lm {E : Rf} (hE : Fn ts m E) (h : Lm ts m st) (name : List UInt8) (hn : name.length ≤ 600) (k : Int) (add : Bool) : Lm ts (m + 1) (setTo E name st k add).1 := by
 have h1 := (h.fn hE).up (m' := m) (by omega)
 unfold setTo
 split
 ·exact h1.put (by simp [nd]) (by rw [nd_text]; omega)
 split
 ·exact h1.put (by simp [nd]) (by rw [nd_text]; omega)
 split
 ·exact h1.put (by simp [nd]) (by rw [nd_text]; omega)
 ·exact h1.put (by simp [nd]) (by rw [nd_text]; omega)
theorem setTo_mono {E : Rf} (hE : Fn ts m E) (name : List UInt8) (k : Int) (add : Bool) : st.a ≤ (setTo E name st k add).1.a := by
 unfold setTo
 split
 ·exact hE.mono st
 split
 ·exact hE.mono st
 split
 ·exact hE.mono st
 ·exact hE.mono st
theorem setOne_lm {E : Rf} (hE : Fn ts m E) (h : Lm ts m st) (name : List UInt8) (hn : name.length ≤ 600) : Lm ts (m + 1) (setOne ts E name st).1 := by
 have h1 := key_lm hE h
 unfold setOne
 split
 ·rename_i hi
  exact setTo_lm hE (h1.go (is_lt hi).1) name hn _ _
 ·exact setTo_lm hE h1.want name hn _ _
theorem setOne_mono {E : Rf} (hE : Fn ts m E) (name : List UInt8) : st.a ≤ (setOne ts E name st).1.a := by
 have h1 := key_mono (st := st) hE
 unfold setOne
 split
 ·exact Nat.le_trans h1 (Nat.le_trans (by simp [PS.go]) (setTo_mono hE _ _ _))
 ·exact Nat.le_trans h1 (Nat.le_trans want_mono (setTo_mono hE _ _ _))
theorem other_lm {T : Rf} (hT : Fn ts m T) (h : Lm ts m st) (a b : Int) : Lm ts (m + 1) (other ts T st a b).1 := by
 unfold other
 split
 ·rename_i hi
  have hg := h.go (is_lt hi).1
  split
  ·exact hg.fail.up (by omega)
  ·exact ((hg.fn hT).up (m' := m) (by omega)).put (by simp [nd]) (by simp [nd_text])
 ·exact h.put (by simp [nd]) (by simp [nd_text])
theorem other_mono {T : Rf} (hT : Fn ts m T) (a b : Int) : st.a ≤ (other ts T st a b).1.a := by
 unfold other
 split
 ·split
  ·simp [PS.go, PS.fail]
  ·exact Nat.le_trans (by simp [PS.go]) (hT.mono st.go)
 ·exact Nat.le_refl _
theorem choice_lm {E T : Rf} (hE : Fn ts m E) (hT : Fn ts m T) (h : Lm ts m st) : Lm ts (m + 1) (choice ts E T st).1 := by
 have h1 := ((h.want (x := [40])).fn hE).want (x := [41]) |>.up (m' := m) (by omega)
 unfold choice
 generalize ((E (st.want ts [40])).1.want ts [41]) = s1 at *
 unfold choose
 split
 ·exact h1.fail.up (by omega)
 ·exact other_lm hT ((h1.fn hT).up (by omega)) _ _
theorem choice_mono {E T : Rf} (hE : Fn ts m E) (hT : Fn ts m T) : st.a ≤ (choice ts E T st).1.a := by
 have h1 : st.a ≤ ((E (st.want ts [40])).1.want ts [41]).a := Nat.le_trans want_mono (Nat.le_trans (hE.mono _) want_mono)
 unfold choice
 generalize ((E (st.want ts [40])).1.want ts [41]) = s1 at *
 unfold choose
 split
 ·exact h1
 ·exact Nat.le_trans h1 (Nat.le_trans (hT.mono s1) (other_mono hT _ _))
theorem printL_lm {E : Rf} (hE : Fn ts m E) : ∀ f st ks, Lm ts m st → Lm ts m (printL ts E f st ks).1 ∧ (printL ts E f st ks).2.length ≤ ks.length + f ∧ st.a ≤ (printL ts E f st ks).1.a := by
 intro f
 induction f with
 | zero => intro st ks h; exact ⟨h, Nat.le_refl _, Nat.le_refl _⟩
 | succ f ih =>
  intro st ks h
  unfold printL
  split
  ·rename_i hi
   obtain ⟨h1, h2, h3⟩ := ih (E st.go).1 (ks ++ [(E st.go).2]) (((h.go (is_lt hi).1).fn hE).up (by omega))
   refine ⟨h1, by simp at h2; omega, Nat.le_trans (by simp [PS.go]) (Nat.le_trans (hE.mono st.go) h3)⟩
  ·exact ⟨h, by show ks.length ≤ _; omega, Nat.le_refl _⟩
theorem print_lm {E : Rf} (hE : Fn ts m E) (hl : ts.length ≤ 200) (h : Lm ts m st) : Lm ts (m + 1) (print ts E st).1 := by
 obtain ⟨h1, h2, h3⟩ := printL_lm hE (ts.length + 1) (E st).1 [(E st).2] ((h.fn hE).up (by omega))
 unfold print
 generalize printL ts E (ts.length + 1) (E st).1 [(E st).2] = q at *
 unfold printEnd
 simp at h2
 split
 ·exact h1.fail.put (by simp [nd]; omega) (by simp [nd_text])
 ·exact h1.put (by simp [nd]; omega) (by simp [nd_text])
theorem printL_mono {E : Rf} (hE : Fn ts m E) : ∀ f st ks, st.a ≤ (printL ts E f st ks).1.a := by
 intro f
 induction f with
 | zero => intro st ks; exact Nat.le_refl _
 | succ f ih =>
  intro st ks
  unfold printL
  split
  ·exact Nat.le_trans (by simp [PS.go]) (Nat.le_trans (hE.mono st.go) (ih _ _))
  ·exact Nat.le_refl _
theorem print_mono {E : Rf} (hE : Fn ts m E) : st.a ≤ (print ts E st).1.a := by
 have h4 := Nat.le_trans (hE.mono st) (printL_mono hE (ts.length + 1) (E st).1 [(E st).2])
 unfold print
 generalize printL ts E (ts.length + 1) (E st).1 [(E st).2] = q at *
 unfold printEnd
 split
 ·exact h4
 ·exact h4
theorem blockL_lm {T : Rf} {k : Nat} (hT : Fn ts m T) (hk : m ≤ k) : ∀ f st ks, Lm ts k st → Lm ts k (blockL ts T f st ks).1 ∧ (blockL ts T f st ks).2.length ≤ ks.length + f ∧ st.a ≤ (blockL ts T f st ks).1.a := by
 intro f
 induction f with
 | zero => intro st ks h; exact ⟨h, Nat.le_refl _, Nat.le_refl _⟩
 | succ f ih =>
  intro st ks h
  unfold blockL
  split
  ·exact ⟨h, by show ks.length ≤ _; omega, Nat.le_refl _⟩
  ·obtain ⟨h1, h2, h3⟩ := ih (behind ts (T st).1) (ks ++ [(T st).2]) (((h.fn hT).behind).up (by omega))
   refine ⟨h1, by simp at h2; omega, Nat.le_trans (hT.mono st) (Nat.le_trans behind_mono h3)⟩
theorem block_lm {T : Rf} {k : Nat} (hT : Fn ts m T) (hk : m ≤ k) (hl : ts.length ≤ 200) (h : Lm ts k st) : Lm ts (k + 1) (block ts T st).1 ∧ st.a ≤ (block ts T st).1.a := by
 obtain ⟨h1, h2, h3⟩ := blockL_lm hT hk (ts.length + 1) ((st.want ts [123]).ends ts) [] h.want.ends
 have h4 : st.a ≤ ((st.want ts [123]).ends ts).a := Nat.le_trans want_mono ends_mono
 unfold block
 generalize blockL ts T (ts.length + 1) ((st.want ts [123]).ends ts) [] = q at *
 unfold blockEnd
 simp at h2
 have h5 : st.a ≤ (q.1.want ts [125]).a := Nat.le_trans h4 (Nat.le_trans h3 want_mono)
 split
 ·exact ⟨h1.want.fail.put (by simp [nd]; omega) (by simp [nd_text]), h5⟩
 ·exact ⟨h1.want.put (by simp [nd]; omega) (by simp [nd_text]), h5⟩
theorem blockL_mono {T : Rf} (hT : Fn ts m T) : ∀ f st ks, st.a ≤ (blockL ts T f st ks).1.a := by
 intro f
 induction f with
 | zero => intro st ks; exact Nat.le_refl _
 | succ f ih =>
  intro st ks
  unfold blockL
  split
  ·exact Nat.le_refl _
  ·exact Nat.le_trans (hT.mono st) (Nat.le_trans behind_mono (ih _ _))
theorem block_mono {T : Rf} (hT : Fn ts m T) : st.a ≤ (block ts T st).1.a := by
 have h3 := blockL_mono hT (ts.length + 1) ((st.want ts [123]).ends ts) []
 have h4 : st.a ≤ ((st.want ts [123]).ends ts).a := Nat.le_trans want_mono ends_mono
 unfold block
 generalize blockL ts T (ts.length + 1) ((st.want ts [123]).ends ts) [] = q at *
 unfold blockEnd
 have h5 : st.a ≤ (q.1.want ts [125]).a := Nat.le_trans h4 (Nat.le_trans h3 want_mono)
 split
 ·exact h5
 ·exact h5
theorem Fn.up {F : Rf} {m' : Nat} (h : Fn ts m F) (hm : m ≤ m') : Fn ts m' F := ⟨h.bad, fun st hb hl => (h.good st hb hl).up hm, h.mono⟩
set_option maxHeartbeats 2000000 in
theorem fnStatement {E T : Rf} (hE : Fn ts m E) (hT : Fn ts m T) (ht : Tsm ts) (hl : ts.length ≤ 200) : Fn ts (m + 1) (statementOne ts E T) := by
 have key : ∀ st, Lm ts m st → Lm ts (m + 1) (statementOne ts E T st).1 := by
  intro st h
  unfold statementOne
  split
  ·exact h.fail.up (by omega)
  rename_i ho
  have hg := h.go (over_no ho).2
  have tl := ht.tok st
  split
  ·exact (block_lm hT (Nat.le_refl _) hl h).1
  split
  ·exact print_lm hE hl hg
  split
  ·exact hg.put (by simp [nd]) (by simp [nd_text])
  split
  ·exact choice_lm hE hT hg
  split
  ·split
   ·exact hg.fail.up (by omega)
   ·rename_i hx
    exact (hg.go (by omega)).put (by simp [nd]) (by rw [nd_text]; have := ht.tok st.go; omega)
  split
  ·exact setOne_lm hE hg _ tl
  ·exact h.fail.up (by omega)
 refine ⟨fun st h => ?_, fun st _ h => key st (h.up (by omega)), fun st => ?_⟩
 ·unfold statementOne
  rw [if_pos (over_bad h)]
  exact fail_bad h
 ·have e1 : st.a ≤ st.go.a := by simp [PS.go]
  unfold statementOne
  split
  ·exact Nat.le_refl _
  split
  ·exact block_mono hT
  split
  ·exact Nat.le_trans e1 (print_mono hE)
  split
  ·exact e1
  split
  ·exact Nat.le_trans e1 (choice_mono hE hT)
  split
  ·split
   ·exact e1
   ·exact Nat.le_trans e1 (by simp [PS.go, PS.put])
  split
  ·exact Nat.le_trans e1 (setOne_mono hE _)
  ·exact Nat.le_refl _
theorem fnT (ht : Tsm ts) (hl : ts.length ≤ 200) : ∀ n, Fn ts (6 * n + 5) (T ts n) := by
 intro n
 induction n with
 | zero => exact fnStop.up (by omega)
 | succ n ih => exact (fnStatement ((fnSE ht n).2.up (m' := 6 * n + 5) (by omega)) ih ht hl).up (by omega)
end Pr
end PartPrR
section PartPrJ
open Go.RowKit
section
variable {ts : List Tk.Tok} {B g : Nat} {L : Value} {Xs : Nat → Prop} {d : Int} {st : Pr.PS}
theorem setPut (op : Nat) (nm : List UInt8) (ks : List Int) (s : Pr.PS) (R : Pr.PS × Int) (hR : R = s.put (Pr.nd (op : Int) nm ks)) (hn : s.out.length ≤ 1000) (cs : Array Value) (n : Nat) (hks : ks.length = n) (hc : ∀ i, i < ks.length → cs[i]? = some (.int .i64 (ks.getD i 0))) :
  ∀ (Xs : Nat → Prop) (w0 : World) (v0 : Value) (W : World) (v : Value) (q : Nat), At ts B g L Xs w0 v0 W d s v → q = W.heap.size → Calls Tryz.prog 49 #[me g, .agg #[.int .i64 (op : Int), .string ⟨nm.toArray⟩, .slice (some ⟨q, 0, none⟩) n n]] (W.alloc (.cells cs 3)) fun e w' => ∃ v', e = .returned (.int .i64 R.2) ∧ At ts B g L Xs w0 v0 w' d R.1 v' := by
 intro Xs w0 v0 W v q h e
 subst e
 subst hks
 rw [hR]
 exact stPut op nm ks _ _ _ w0 v0 _ v (h.alloc _) hn (kf_new h.rs cs hc ks.length)
set_option maxRecDepth 100000 in
set_option maxHeartbeats 4000000 in
theorem stSet {m : Nat} {E : Pr.Rf} (hE : Con ts B g L 18 d E) (hF : Pr.Fn ts m E) (hm : m ≤ 250) (hl : ts.length ≤ 200) (nm : List UInt8) (hlm : Pr.Lm ts 250 st) (hd30 : ¬ 30 < d) :
  Step ts B g L 109 #[me g, .string ⟨nm.toArray⟩] d st (.int .i64 (Pr.setOne ts E nm st).2) d (Pr.setOne ts E nm st).1 := by
 intro Xs w0 v0 w v h
 have HA : Hid (At ts B g L Xs w0 v0 w d st v) := h
 obtain ⟨R, hR⟩ : ∃ R, R = Pr.setOne ts E nm st := ⟨_, rfl⟩
 rw [← hR]
 have HF : Hid (Pr.Fn ts 250 E) := hF.up hm
 have CE : Hid (∀ s, Pr.Lm ts 300 s → Step ts B g L 18 #[.pointer (some ⟨g, 0, none⟩)] d s (.int .i64 (E s).2) d (E s).1) := fun s hs => hE s hs (fun h => absurd h hd30)
 have PUT : Hid (∀ (op : Nat) (ks : List Int) (s : Pr.PS), R = s.put (Pr.nd (op : Int) nm ks) → s.out.length ≤ 1000 → ∀ (cs : Array Value) (n : Nat), ks.length = n → (∀ i, i < ks.length → cs[i]? = some (.int .i64 (ks.getD i 0))) → ∀ (Xs : Nat → Prop) (w0 : World) (v0 : Value) (W : World) (v : Value) (q : Nat), At ts B g L Xs w0 v0 W d s v → q = W.heap.size → Calls Tryz.prog 49 #[.pointer (some ⟨g, 0, none⟩), .agg #[.int .i64 (op : Int), .string ⟨nm.toArray⟩, .slice (some ⟨q, 0, none⟩) n n]] (W.alloc (.cells cs 3)) fun e w' => ∃ v', e = .returned (.int .i64 R.2) ∧ At ts B g L Xs w0 v0 w' d R.1 v') := fun op ks s e hn cs n h1 h2 => setPut op nm ks s R e hn cs n h1 h2
 have HKL : Hid (Pr.Lm ts 250 (Pr.key ts E st).1) := Pr.key_lm HF.out hlm
 have S91 : Hid (Step ts B g L 81 #[.pointer (some ⟨g, 0, none⟩), .string ⟨#[91]⟩] d st (.bool (st.is ts 5 [91])) d (if st.is ts 5 [91] = true then st.go else st)) := stSign [91] hl hlm.top
 have HR : Hid (R = Pr.setOne ts E nm st) := hR
 clear h hE hF hR hd30
 unfold me at *
 obtain ⟨X, hX⟩ : ∃ X : ByteArray, X = ⟨nm.toArray⟩ := ⟨_, rfl⟩
 rw [← hX] at PUT ⊢
 clear hX
 cases hV : st.is ts 5 [91] with
 | true =>
  rw [hV] at S91
  obtain ⟨s1, hs1⟩ : ∃ s, s = (Pr.key ts E st).1 := ⟨_, rfl⟩
  obtain ⟨k0, hk0⟩ : ∃ k, k = (Pr.key ts E st).2 := ⟨_, rfl⟩
  have HR2 : Hid (R = if s1.is ts 5 [43, 61] = true then Pr.setTo E nm s1.go k0 true else Pr.setTo E nm (s1.want ts [61]) k0 false) := by show _ = _; rw [HR.out, Pr.setOne, ← hs1, ← hk0]
  have hlm1 : Pr.Lm ts 250 s1 := by rw [hs1]; exact HKL.out
  have hkey : Pr.key ts E st = ((E st.go).1.want ts [93], (E st.go).2) := by rw [Pr.key, if_pos hV]
  have hg := hlm.go (Pr.is_lt hV).1
  have CE1 : Hid (Step ts B g L 18 #[.pointer (some ⟨g, 0, none⟩)] d st.go (.int .i64 k0) d ((E st.go).1)) := by rw [hk0, hkey]; exact CE.out st.go (hg.up (by omega))
  have CW : Hid (Step ts B g L 47 #[.pointer (some ⟨g, 0, none⟩), .string ⟨#[93]⟩] d (E st.go).1 (.tuple #[]) d (s1)) := by rw [hs1, hkey]; exact stWant [93] hl (hg.fn HF.out).top
  generalize (E st.go).1 = s0 at *
  clear hg hkey
  clear hs1 hk0 HKL HR
  have SA : Hid (Step ts B g L 81 #[.pointer (some ⟨g, 0, none⟩), .string ⟨#[43, 61]⟩] d s1 (.bool (s1.is ts 5 [43, 61])) d (if s1.is ts 5 [43, 61] = true then s1.go else s1)) := stSign [43, 61] hl hlm1.top
  cases hA : s1.is ts 5 [43, 61] with
  | true =>
   rw [hA] at SA
   have hlm2 : Pr.Lm ts 250 (s1.go) := hlm1.go (Pr.is_lt hA).1
   have CE2 : Hid (Step ts B g L 18 #[.pointer (some ⟨g, 0, none⟩)] d (s1.go) (.int .i64 (E (s1.go)).2) d ((E (s1.go)).1)) := CE.out (s1.go) (hlm2.up (by omega))
   have HR3 : Hid (R = Pr.setTo E nm (s1.go) k0 true) := by show _ = _; rw [HR2.out, if_pos hA]
   have hln : (E (s1.go)).1.out.length ≤ 1000 := by have := (hlm2.fn HF.out).len; omega
   unfold Pr.setTo at HR3
   generalize (E (s1.go)).1 = s3 at *
   generalize (E (s1.go)).2 = k3 at *
   by_cases hk : 0 ≤ k0
   ·have dk : decide ((0 : Int) ≤ k0) = true := decide_eq_true hk
    have HE : Hid (R = s3.put (Pr.nd 21 nm [k0, k3])) := by show _ = _; rw [HR3.out]; simp [hk]
    have CP : Hid (∀ (Xs : Nat → Prop) (w0 : World) (v0 : Value) (W : World) (v : Value) (q : Nat), At ts B g L Xs w0 v0 W d s3 v → q = W.heap.size → Calls Tryz.prog 49 #[.pointer (some ⟨g, 0, none⟩), .agg #[.int .i64 21, .string X, .slice (some ⟨q, 0, none⟩) 2 2]] (W.alloc (.cells #[.int .i64 k0, .int .i64 k3] 3)) fun e w' => ∃ v', e = .returned (.int .i64 R.2) ∧ At ts B g L Xs w0 v0 w' d R.1 v') := PUT.out 21 [k0, k3] s3 HE.out hln #[.int .i64 k0, .int .i64 k3] 2 rfl (fun i hi => by match i, hi with | 0, _ => rfl | 1, _ => rfl)
    clear HE HR3 HR2 PUT CE HF hln hlm1 hlm2 hlm
    go_enter Tryz.func109, Tryz.ntmps109
    go_wp2_with fail
    refine (S91.out _ _ _ _ _ HA.out).mono ?_
    rintro e w1 ⟨v1, rfl, a1⟩
    have HA1 : Hid _ := a1
    clear a1 HA
    go_wp2_with fail
    refine (CE1.out _ _ _ _ _ HA1.out).mono ?_
    rintro e w2 ⟨v2, rfl, a2⟩
    have HA2 : Hid _ := a2
    clear a2 HA1
    go_wp2_with fail
    refine (CW.out _ _ _ _ _ HA2.out).mono ?_
    rintro e w3 ⟨v3, rfl, a3⟩
    have HA3 : Hid _ := a3
    clear a3 HA2
    go_wp2_with fail
    refine (SA.out _ _ _ _ _ HA3.out).mono ?_
    rintro e w4 ⟨v4, rfl, a4⟩
    have HA4 : Hid _ := a4
    clear a4 HA3
    go_wp2_with fail
    refine (CE2.out _ _ _ _ _ HA4.out).mono ?_
    rintro e w5 ⟨v5, rfl, a5⟩
    have HA5 : Hid _ := a5
    clear a5 HA4
    go_wp2_with fail
    refine (CP.out _ _ _ _ _ _ HA5.out (by first | rfl | simp)).mono ?_
    rintro e w6 ⟨v6, rfl, a6⟩
    have HA6 : Hid _ := a6
    clear a6 HA5
    go_wp2
    go_ret
    exact ⟨v6, rfl, HA6.out⟩
   ·have dk : decide ((0 : Int) ≤ k0) = false := decide_eq_false hk
    have HE : Hid (R = s3.put (Pr.nd 19 nm [k3])) := by show _ = _; rw [HR3.out]; simp [hk]
    have CP : Hid (∀ (Xs : Nat → Prop) (w0 : World) (v0 : Value) (W : World) (v : Value) (q : Nat), At ts B g L Xs w0 v0 W d s3 v → q = W.heap.size → Calls Tryz.prog 49 #[.pointer (some ⟨g, 0, none⟩), .agg #[.int .i64 19, .string X, .slice (some ⟨q, 0, none⟩) 1 1]] (W.alloc (.cells #[.int .i64 k3] 3)) fun e w' => ∃ v', e = .returned (.int .i64 R.2) ∧ At ts B g L Xs w0 v0 w' d R.1 v') := PUT.out 19 [k3] s3 HE.out hln #[.int .i64 k3] 1 rfl (fun i hi => by match i, hi with | 0, _ => rfl)
    clear HE HR3 HR2 PUT CE HF hln hlm1 hlm2 hlm
    go_enter Tryz.func109, Tryz.ntmps109
    go_wp2_with fail
    refine (S91.out _ _ _ _ _ HA.out).mono ?_
    rintro e w1 ⟨v1, rfl, a1⟩
    have HA1 : Hid _ := a1
    clear a1 HA
    go_wp2_with fail
    refine (CE1.out _ _ _ _ _ HA1.out).mono ?_
    rintro e w2 ⟨v2, rfl, a2⟩
    have HA2 : Hid _ := a2
    clear a2 HA1
    go_wp2_with fail
    refine (CW.out _ _ _ _ _ HA2.out).mono ?_
    rintro e w3 ⟨v3, rfl, a3⟩
    have HA3 : Hid _ := a3
    clear a3 HA2
    go_wp2_with fail
    refine (SA.out _ _ _ _ _ HA3.out).mono ?_
    rintro e w4 ⟨v4, rfl, a4⟩
    have HA4 : Hid _ := a4
    clear a4 HA3
    go_wp2_with fail
    refine (CE2.out _ _ _ _ _ HA4.out).mono ?_
    rintro e w5 ⟨v5, rfl, a5⟩
    have HA5 : Hid _ := a5
    clear a5 HA4
    go_wp2_with fail
    refine (CP.out _ _ _ _ _ _ HA5.out (by first | rfl | simp)).mono ?_
    rintro e w6 ⟨v6, rfl, a6⟩
    have HA6 : Hid _ := a6
    clear a6 HA5
    go_wp2
    go_ret
    exact ⟨v6, rfl, HA6.out⟩
  | false =>
   rw [hA] at SA
   have hlm2 : Pr.Lm ts 250 (s1.want ts [61]) := hlm1.want
   have CW2 : Hid (Step ts B g L 47 #[.pointer (some ⟨g, 0, none⟩), .string ⟨#[61]⟩] d s1 (.tuple #[]) d (s1.want ts [61])) := stWant [61] hl hlm1.top
   have CE2 : Hid (Step ts B g L 18 #[.pointer (some ⟨g, 0, none⟩)] d (s1.want ts [61]) (.int .i64 (E (s1.want ts [61])).2) d ((E (s1.want ts [61])).1)) := CE.out (s1.want ts [61]) (hlm2.up (by omega))
   have HR3 : Hid (R = Pr.setTo E nm (s1.want ts [61]) k0 false) := by show _ = _; rw [HR2.out, if_neg (by simp [hA])]
   have hln : (E (s1.want ts [61])).1.out.length ≤ 1000 := by have := (hlm2.fn HF.out).len; omega
   unfold Pr.setTo at HR3
   generalize (E (s1.want ts [61])).1 = s3 at *
   generalize (E (s1.want ts [61])).2 = k3 at *
   generalize s1.want ts [61] = s2 at *
   by_cases hk : 0 ≤ k0
   ·have dk : decide ((0 : Int) ≤ k0) = true := decide_eq_true hk
    have HE : Hid (R = s3.put (Pr.nd 20 nm [k0, k3])) := by show _ = _; rw [HR3.out]; simp [hk]
    have CP : Hid (∀ (Xs : Nat → Prop) (w0 : World) (v0 : Value) (W : World) (v : Value) (q : Nat), At ts B g L Xs w0 v0 W d s3 v → q = W.heap.size → Calls Tryz.prog 49 #[.pointer (some ⟨g, 0, none⟩), .agg #[.int .i64 20, .string X, .slice (some ⟨q, 0, none⟩) 2 2]] (W.alloc (.cells #[.int .i64 k0, .int .i64 k3] 3)) fun e w' => ∃ v', e = .returned (.int .i64 R.2) ∧ At ts B g L Xs w0 v0 w' d R.1 v') := PUT.out 20 [k0, k3] s3 HE.out hln #[.int .i64 k0, .int .i64 k3] 2 rfl (fun i hi => by match i, hi with | 0, _ => rfl | 1, _ => rfl)
    clear HE HR3 HR2 PUT CE HF hln hlm1 hlm2 hlm
    go_enter Tryz.func109, Tryz.ntmps109
    go_wp2_with fail
    refine (S91.out _ _ _ _ _ HA.out).mono ?_
    rintro e w1 ⟨v1, rfl, a1⟩
    have HA1 : Hid _ := a1
    clear a1 HA
    go_wp2_with fail
    refine (CE1.out _ _ _ _ _ HA1.out).mono ?_
    rintro e w2 ⟨v2, rfl, a2⟩
    have HA2 : Hid _ := a2
    clear a2 HA1
    go_wp2_with fail
    refine (CW.out _ _ _ _ _ HA2.out).mono ?_
    rintro e w3 ⟨v3, rfl, a3⟩
    have HA3 : Hid _ := a3
    clear a3 HA2
    go_wp2_with fail
    refine (SA.out _ _ _ _ _ HA3.out).mono ?_
    rintro e w4 ⟨v4, rfl, a4⟩
    have HA4 : Hid _ := a4
    clear a4 HA3
    go_wp2_with fail
    refine (CW2.out _ _ _ _ _ HA4.out).mono ?_
    rintro e w5 ⟨v5, rfl, a5⟩
    have HA5 : Hid _ := a5
    clear a5 HA4
    go_wp2_with fail
    refine (CE2.out _ _ _ _ _ HA5.out).mono ?_
    rintro e w6 ⟨v6, rfl, a6⟩
    have HA6 : Hid _ := a6
    clear a6 HA5
    go_wp2_with fail
    refine (CP.out _ _ _ _ _ _ HA6.out (by first | rfl | simp)).mono ?_
    rintro e w7 ⟨v7, rfl, a7⟩
    have HA7 : Hid _ := a7
    clear a7 HA6
    go_wp2
    go_ret
    exact ⟨v7, rfl, HA7.out⟩
   ·have dk : decide ((0 : Int) ≤ k0) = false := decide_eq_false hk
    have HE : Hid (R = s3.put (Pr.nd 18 nm [k3])) := by show _ = _; rw [HR3.out]; simp [hk]
    have CP : Hid (∀ (Xs : Nat → Prop) (w0 : World) (v0 : Value) (W : World) (v : Value) (q : Nat), At ts B g L Xs w0 v0 W d s3 v → q = W.heap.size → Calls Tryz.prog 49 #[.pointer (some ⟨g, 0, none⟩), .agg #[.int .i64 18, .string X, .slice (some ⟨q, 0, none⟩) 1 1]] (W.alloc (.cells #[.int .i64 k3] 3)) fun e w' => ∃ v', e = .returned (.int .i64 R.2) ∧ At ts B g L Xs w0 v0 w' d R.1 v') := PUT.out 18 [k3] s3 HE.out hln #[.int .i64 k3] 1 rfl (fun i hi => by match i, hi with | 0, _ => rfl)
    clear HE HR3 HR2 PUT CE HF hln hlm1 hlm2 hlm
    go_enter Tryz.func109, Tryz.ntmps109
    go_wp2_with fail
    refine (S91.out _ _ _ _ _ HA.out).mono ?_
    rintro e w1 ⟨v1, rfl, a1⟩
    have HA1 : Hid _ := a1
    clear a1 HA
    go_wp2_with fail
    refine (CE1.out _ _ _ _ _ HA1.out).mono ?_
    rintro e w2 ⟨v2, rfl, a2⟩
    have HA2 : Hid _ := a2
    clear a2 HA1
    go_wp2_with fail
    refine (CW.out _ _ _ _ _ HA2.out).mono ?_
    rintro e w3 ⟨v3, rfl, a3⟩
    have HA3 : Hid _ := a3
    clear a3 HA2
    go_wp2_with fail
    refine (SA.out _ _ _ _ _ HA3.out).mono ?_
    rintro e w4 ⟨v4, rfl, a4⟩
    have HA4 : Hid _ := a4
    clear a4 HA3
    go_wp2_with fail
    refine (CW2.out _ _ _ _ _ HA4.out).mono ?_
    rintro e w5 ⟨v5, rfl, a5⟩
    have HA5 : Hid _ := a5
    clear a5 HA4
    go_wp2_with fail
    refine (CE2.out _ _ _ _ _ HA5.out).mono ?_
    rintro e w6 ⟨v6, rfl, a6⟩
    have HA6 : Hid _ := a6
    clear a6 HA5
    go_wp2_with fail
    refine (CP.out _ _ _ _ _ _ HA6.out (by first | rfl | simp)).mono ?_
    rintro e w7 ⟨v7, rfl, a7⟩
    have HA7 : Hid _ := a7
    clear a7 HA6
    go_wp2
    go_ret
    exact ⟨v7, rfl, HA7.out⟩
 | false =>
  rw [hV] at S91
  obtain ⟨s1, hs1⟩ : ∃ s, s = (Pr.key ts E st).1 := ⟨_, rfl⟩
  obtain ⟨k0, hk0⟩ : ∃ k, k = (Pr.key ts E st).2 := ⟨_, rfl⟩
  have HR2 : Hid (R = if s1.is ts 5 [43, 61] = true then Pr.setTo E nm s1.go k0 true else Pr.setTo E nm (s1.want ts [61]) k0 false) := by show _ = _; rw [HR.out, Pr.setOne, ← hs1, ← hk0]
  have hlm1 : Pr.Lm ts 250 s1 := by rw [hs1]; exact HKL.out
  have hkey : Pr.key ts E st = (st, -1) := by rw [Pr.key, if_neg (by simp [hV])]
  obtain rfl : s1 = st := by rw [hs1, hkey]
  obtain rfl : k0 = -1 := by rw [hk0, hkey]
  clear hkey
  clear hs1 hk0 HKL HR
  have SA : Hid (Step ts B g L 81 #[.pointer (some ⟨g, 0, none⟩), .string ⟨#[43, 61]⟩] d s1 (.bool (s1.is ts 5 [43, 61])) d (if s1.is ts 5 [43, 61] = true then s1.go else s1)) := stSign [43, 61] hl hlm1.top
  cases hA : s1.is ts 5 [43, 61] with
  | true =>
   rw [hA] at SA
   have hlm2 : Pr.Lm ts 250 (s1.go) := hlm1.go (Pr.is_lt hA).1
   have CE2 : Hid (Step ts B g L 18 #[.pointer (some ⟨g, 0, none⟩)] d (s1.go) (.int .i64 (E (s1.go)).2) d ((E (s1.go)).1)) := CE.out (s1.go) (hlm2.up (by omega))
   have HR3 : Hid (R = Pr.setTo E nm (s1.go) (-1) true) := by show _ = _; rw [HR2.out, if_pos hA]
   have hln : (E (s1.go)).1.out.length ≤ 1000 := by have := (hlm2.fn HF.out).len; omega
   unfold Pr.setTo at HR3
   generalize (E (s1.go)).1 = s3 at *
   generalize (E (s1.go)).2 = k3 at *
   have HE : Hid (R = s3.put (Pr.nd 19 nm [k3])) := by show _ = _; rw [HR3.out]; simp
   have CP : Hid (∀ (Xs : Nat → Prop) (w0 : World) (v0 : Value) (W : World) (v : Value) (q : Nat), At ts B g L Xs w0 v0 W d s3 v → q = W.heap.size → Calls Tryz.prog 49 #[.pointer (some ⟨g, 0, none⟩), .agg #[.int .i64 19, .string X, .slice (some ⟨q, 0, none⟩) 1 1]] (W.alloc (.cells #[.int .i64 k3] 3)) fun e w' => ∃ v', e = .returned (.int .i64 R.2) ∧ At ts B g L Xs w0 v0 w' d R.1 v') := PUT.out 19 [k3] s3 HE.out hln #[.int .i64 k3] 1 rfl (fun i hi => by match i, hi with | 0, _ => rfl)
   clear HE HR3 HR2 PUT CE HF hln hlm1 hlm2 hlm
   go_enter Tryz.func109, Tryz.ntmps109
   go_wp2_with fail
   refine (S91.out _ _ _ _ _ HA.out).mono ?_
   rintro e w1 ⟨v1, rfl, a1⟩
   have HA1 : Hid _ := a1
   clear a1 HA
   go_wp2_with fail
   refine (SA.out _ _ _ _ _ HA1.out).mono ?_
   rintro e w2 ⟨v2, rfl, a2⟩
   have HA2 : Hid _ := a2
   clear a2 HA1
   go_wp2_with fail
   refine (CE2.out _ _ _ _ _ HA2.out).mono ?_
   rintro e w3 ⟨v3, rfl, a3⟩
   have HA3 : Hid _ := a3
   clear a3 HA2
   go_wp2_with fail
   refine (CP.out _ _ _ _ _ _ HA3.out (by first | rfl | simp)).mono ?_
   rintro e w4 ⟨v4, rfl, a4⟩
   have HA4 : Hid _ := a4
   clear a4 HA3
   go_wp2
   go_ret
   exact ⟨v4, rfl, HA4.out⟩
  | false =>
   rw [hA] at SA
   have hlm2 : Pr.Lm ts 250 (s1.want ts [61]) := hlm1.want
   have CW2 : Hid (Step ts B g L 47 #[.pointer (some ⟨g, 0, none⟩), .string ⟨#[61]⟩] d s1 (.tuple #[]) d (s1.want ts [61])) := stWant [61] hl hlm1.top
   have CE2 : Hid (Step ts B g L 18 #[.pointer (some ⟨g, 0, none⟩)] d (s1.want ts [61]) (.int .i64 (E (s1.want ts [61])).2) d ((E (s1.want ts [61])).1)) := CE.out (s1.want ts [61]) (hlm2.up (by omega))
   have HR3 : Hid (R = Pr.setTo E nm (s1.want ts [61]) (-1) false) := by show _ = _; rw [HR2.out, if_neg (by simp [hA])]
   have hln : (E (s1.want ts [61])).1.out.length ≤ 1000 := by have := (hlm2.fn HF.out).len; omega
   unfold Pr.setTo at HR3
   generalize (E (s1.want ts [61])).1 = s3 at *
   generalize (E (s1.want ts [61])).2 = k3 at *
   generalize s1.want ts [61] = s2 at *
   have HE : Hid (R = s3.put (Pr.nd 18 nm [k3])) := by show _ = _; rw [HR3.out]; simp
   have CP : Hid (∀ (Xs : Nat → Prop) (w0 : World) (v0 : Value) (W : World) (v : Value) (q : Nat), At ts B g L Xs w0 v0 W d s3 v → q = W.heap.size → Calls Tryz.prog 49 #[.pointer (some ⟨g, 0, none⟩), .agg #[.int .i64 18, .string X, .slice (some ⟨q, 0, none⟩) 1 1]] (W.alloc (.cells #[.int .i64 k3] 3)) fun e w' => ∃ v', e = .returned (.int .i64 R.2) ∧ At ts B g L Xs w0 v0 w' d R.1 v') := PUT.out 18 [k3] s3 HE.out hln #[.int .i64 k3] 1 rfl (fun i hi => by match i, hi with | 0, _ => rfl)
   clear HE HR3 HR2 PUT CE HF hln hlm1 hlm2 hlm
   go_enter Tryz.func109, Tryz.ntmps109
   go_wp2_with fail
   refine (S91.out _ _ _ _ _ HA.out).mono ?_
   rintro e w1 ⟨v1, rfl, a1⟩
   have HA1 : Hid _ := a1
   clear a1 HA
   go_wp2_with fail
   refine (SA.out _ _ _ _ _ HA1.out).mono ?_
   rintro e w2 ⟨v2, rfl, a2⟩
   have HA2 : Hid _ := a2
   clear a2 HA1
   go_wp2_with fail
   refine (CW2.out _ _ _ _ _ HA2.out).mono ?_
   rintro e w3 ⟨v3, rfl, a3⟩
   have HA3 : Hid _ := a3
   clear a3 HA2
   go_wp2_with fail
   refine (CE2.out _ _ _ _ _ HA3.out).mono ?_
   rintro e w4 ⟨v4, rfl, a4⟩
   have HA4 : Hid _ := a4
   clear a4 HA3
   go_wp2_with fail
   refine (CP.out _ _ _ _ _ _ HA4.out (by first | rfl | simp)).mono ?_
   rintro e w5 ⟨v5, rfl, a5⟩
   have HA5 : Hid _ := a5
   clear a5 HA4
   go_wp2
   go_ret
   exact ⟨v5, rfl, HA5.out⟩
end
end PartPrJ
section PartVNum
open Go.RowKit
set_option maxHeartbeats 400000 in
theorem isFigure_any (z : Nat) (w : World) (h : z < 256) :
  Calls Tryz.prog 140 #[.int .u8 (z : Int)] w fun e w' => e = .returned (.bool (decide (48 ≤ z ∧ z ≤ 57))) ∧ w' = w := by
 by_cases h1 : 48 ≤ z
 ·by_cases h2 : z ≤ 57
  ·have d1 : decide ((48 : Int) ≤ (z : Int)) = true := by simp; omega
   have d2 : decide ((z : Int) ≤ 57) = true := by simp; omega
   have e : decide (48 ≤ z ∧ z ≤ 57) = true := by simp; omega
   rw [e]; clear e
   go_enter Tryz.func140, Tryz.ntmps140
   go_wp2
   go_ret
   exact ⟨rfl, rfl⟩
  ·have d1 : decide ((48 : Int) ≤ (z : Int)) = true := by simp; omega
   have d2 : decide ((z : Int) ≤ 57) = false := by simp; omega
   have e : decide (48 ≤ z ∧ z ≤ 57) = false := by simp; omega
   rw [e]; clear e
   go_enter Tryz.func140, Tryz.ntmps140
   go_wp2
   go_ret
   exact ⟨rfl, rfl⟩
 ·have d1 : decide ((48 : Int) ≤ (z : Int)) = false := by simp; omega
  have e : decide (48 ≤ z ∧ z ≤ 57) = false := by simp; omega
  rw [e]; clear e
  go_enter Tryz.func140, Tryz.ntmps140
  go_wp2
  go_ret
  exact ⟨rfl, rfl⟩
theorem isFigure_at (z : Nat) (b : Bool) (w : World) (h : z < 256) (hb : decide (48 ≤ z ∧ z ≤ 57) = b) :
  Calls Tryz.prog 140 #[.int .u8 (z : Int)] w fun e w' => e = .returned (.bool b) ∧ w' = w := by
 subst hb
 exact isFigure_any z w h
theorem str_ne (s : ByteArray) (h : 0 < s.size) : s.toList.isEmpty = false := by
 rw [Lib.toList_data]
 have e : s.data.toList.length = s.size := by simp
 cases hd : s.data.toList with
 | nil => rw [hd] at e; simp at e; omega
 | cons a l => rfl
theorem str_nil (s : ByteArray) (h : ¬ 0 < s.size) : s = (⟨#[]⟩ : ByteArray) := by
 apply ByteArray.ext
 apply Array.eq_empty_of_size_eq_zero
 have : s.data.size = s.size := rfl
 omega
set_option maxHeartbeats 400000 in
set_option maxRecDepth 100000 in
theorem implIsNum_any (s : ByteArray) (w : World) (hs : s.size ≤ 2097152) :
  Calls Tryz.prog 121 #[.string s] w fun e w' => e = .returned (.bool (Pv.isn s.data.toList)) ∧ w' = w := by
 by_cases h0 : 0 < s.size
 ·have e0 := str_ne s h0
  by_cases h6 : 6 < s.size
  ·have HN : Hid (Pv.isn s.data.toList = false) := Pv.isn_size s (.inr h6)
   have d6 : decide ((6 : Int) < (s.size : Int)) = true := by simp; omega
   go_enter Tryz.func121, Tryz.ntmps121
   go_wp2
   go_ret
   exact ⟨by rw [HN.out]; rfl, rfl⟩
  have d6 : decide ((6 : Int) < (s.size : Int)) = false := by simp; omega
  go_enter Tryz.func121, Tryz.ntmps121
  go_wp2
  go_loop [3] (fun i => ∃ k : Nat, i = .int .i64 (k : Int) ∧ k ≤ s.size ∧ Hid (∀ j (hj : j < s.size), j < k → 48 ≤ s[j].toNat ∧ s[j].toNat ≤ 57)) (fun i => s.size - (intOf i).toNat)
  case atStart => exact ⟨0, rfl, by omega, fun j _ hj => by omega⟩
  case round =>
   obtain ⟨k, rfl, hk, HP⟩ := hrel
   by_cases hlt : k < s.size
   ·have h256 : s[k].toNat < 256 := s[k].toNat_lt
    by_cases hf : 48 ≤ s[k].toNat ∧ s[k].toNat ≤ 57
    ·have C : Hid (∀ w, Calls Tryz.prog 140 #[.int .u8 (s[k].toNat : Int)] w fun e w' => e = .returned (.bool true) ∧ w' = w) := fun w => isFigure_at _ true w h256 (by simpa using hf)
     have HN : Hid (∀ j (hj : j < s.size), j < k + 1 → 48 ≤ s[j].toNat ∧ s[j].toNat ≤ 57) := by
      intro j hj hjk
      by_cases e : j = k
      ·subst e; exact hf
      ·exact HP.out j hj (by omega)
     clear hf
     go_wp2_with (go_at_call 140; refine (C.out _).mono ?_; rintro e w' ⟨rfl, rfl⟩)
     go_round
     case rel => exact ⟨k + 1, by go_num, by omega, HN.out⟩
     case measure => simp [intOf]; omega
    ·have C : Hid (∀ w, Calls Tryz.prog 140 #[.int .u8 (s[k].toNat : Int)] w fun e w' => e = .returned (.bool false) ∧ w' = w) := fun w => isFigure_at _ false w h256 (by simpa using hf)
     have HN : Hid (Pv.isn s.data.toList = false) := Pv.isn_no s k hlt (by omega)
     clear hf
     go_wp2_with (go_at_call 140; refine (C.out _).mono ?_; rintro e w' ⟨rfl, rfl⟩)
     go_ret
     exact ⟨by rw [HN.out]; rfl, rfl⟩
   ·have HY : Hid (Pv.isn s.data.toList = true) := by
     show _ = _
     rw [Pv.isn_all s (fun j hj => HP.out j hj (by omega))]
     simp; omega
    go_wp2
    go_ret
    exact ⟨by rw [HY.out]; rfl, rfl⟩
 ·obtain rfl := str_nil s h0
  go_enter Tryz.func121, Tryz.ntmps121
  go_wp2
  go_ret
  exact ⟨rfl, rfl⟩
set_option maxHeartbeats 400000 in
theorem l01In_any (x : Nat) (w : World) (h : x ≤ 2097152) :
  Calls Tryz.prog 51 #[.int .i64 (x : Int), .int .i64 1, .int .i64 6] w fun e w' => e = .returned (.bool (decide (1 ≤ x ∧ x ≤ 6))) ∧ w' = w := by
 by_cases h1 : 1 ≤ x
 ·by_cases h2 : x ≤ 6
  ·have d1 : decide ((1 : Int) ≤ (x : Int)) = true := by simp; omega
   have d2 : decide ((x : Int) ≤ 6) = true := by simp; omega
   have e : decide (1 ≤ x ∧ x ≤ 6) = true := by simp; omega
   rw [e]; clear e
   go_enter Tryz.func51, Tryz.ntmps51
   go_wp2
   go_ret
   exact ⟨rfl, rfl⟩
  ·have d1 : decide ((1 : Int) ≤ (x : Int)) = true := by simp; omega
   have d2 : decide ((x : Int) ≤ 6) = false := by simp; omega
   have e : decide (1 ≤ x ∧ x ≤ 6) = false := by simp; omega
   rw [e]; clear e
   go_enter Tryz.func51, Tryz.ntmps51
   go_wp2
   go_ret
   exact ⟨rfl, rfl⟩
 ·have d1 : decide ((1 : Int) ≤ (x : Int)) = false := by simp; omega
  have e : decide (1 ≤ x ∧ x ≤ 6) = false := by simp; omega
  rw [e]; clear e
  go_enter Tryz.func51, Tryz.ntmps51
  go_wp2
  go_ret
  exact ⟨rfl, rfl⟩
set_option maxHeartbeats 400000 in
set_option maxRecDepth 100000 in
theorem specIsNum_any (s : ByteArray) (w : World) (hs : s.size ≤ 2097152) :
  Calls Tryz.prog 110 #[.string s] w fun e w' => e = .returned (.bool (Pv.isn s.data.toList)) ∧ w' = w := by
 go_enter Tryz.func110, Tryz.ntmps110
 go_wp2
 go_loop [3] (fun i => ∃ k : Nat, i = .int .i64 (k : Int) ∧ k ≤ s.size ∧ Hid (∀ j (hj : j < s.size), j < k → 48 ≤ s[j].toNat ∧ s[j].toNat ≤ 57)) (fun i => s.size - (intOf i).toNat)
 case atStart => exact ⟨0, rfl, by omega, fun j _ hj => by omega⟩
 case round =>
  obtain ⟨k, rfl, hk, HP⟩ := hrel
  by_cases hlt : k < s.size
  ·have h256 : s[k].toNat < 256 := s[k].toNat_lt
   by_cases h1 : s[k].toNat < 48
   ·have HN : Hid (Pv.isn s.data.toList = false) := Pv.isn_no s k hlt (.inl h1)
    go_wp2
    go_ret
    exact ⟨by rw [HN.out]; rfl, rfl⟩
   ·by_cases h2 : 57 < s[k].toNat
    ·have HN : Hid (Pv.isn s.data.toList = false) := Pv.isn_no s k hlt (.inr h2)
     have d2 : decide ((57 : Int) < (s[k].toNat : Int)) = true := by simp; omega
     go_wp2
     go_ret
     exact ⟨by rw [HN.out]; rfl, rfl⟩
    ·have d2 : decide ((57 : Int) < (s[k].toNat : Int)) = false := by simp; omega
     have HN : Hid (∀ j (hj : j < s.size), j < k + 1 → 48 ≤ s[j].toNat ∧ s[j].toNat ≤ 57) := by
      intro j hj hjk
      by_cases e : j = k
      ·subst e; omega
      ·exact HP.out j hj (by omega)
     go_wp2
     go_round
     case rel => exact ⟨k + 1, by go_num, by omega, HN.out⟩
     case measure => simp [intOf]; omega
  ·have HY : Hid (Pv.isn s.data.toList = decide (1 ≤ s.size ∧ s.size ≤ 6)) := Pv.isn_all s (fun j hj => HP.out j hj (by omega))
   have C : Hid (∀ w, Calls Tryz.prog 51 #[.int .i64 (s.size : Int), .int .i64 1, .int .i64 6] w fun e w' => e = .returned (.bool (Pv.isn s.data.toList)) ∧ w' = w) := by
    intro w
    rw [HY.out]
    exact l01In_any s.size w hs
   go_wp2_with (go_at_call 51; refine (C.out _).mono ?_; rintro e w' ⟨rfl, rfl⟩)
   go_ret
   exact ⟨rfl, rfl⟩
end PartVNum
section PartPgC
open Go.RowKit
theorem spEx (op : Int) (w : World) : Calls Tryz.prog 52 #[.int .i64 op] w fun e w' => e = .returned (.bool (Pg.ex op)) ∧ w' = w := by
 have C : Hid (∀ w, Calls Tryz.prog 51 #[.int .i64 op, .int .i64 1, .int .i64 16] w fun e w' => e = .returned (.bool (Pg.ex op)) ∧ w' = w) := fun w => sIn_any op 1 16 w
 generalize Pg.ex op = V at *
 go_enter Tryz.func52, Tryz.ntmps52
 go_wp2_with (go_at_call 51; refine (C.out _).mono ?_; rintro e w2 ⟨rfl, rfl⟩)
 go_ret
 exact ⟨rfl, rfl⟩
set_option maxHeartbeats 4000000 in
set_option maxRecDepth 100000 in
theorem spMany (op : Int) (w : World) : Calls Tryz.prog 84 #[.int .i64 op] w fun e w' => e = .returned (.tuple #[.int .i64 ((Pg.many op).1 : Int), .int .i64 ((Pg.many op).2 : Int)]) ∧ w' = w := by
 by_cases hr : 1 ≤ op ∧ op ≤ 25
 ·rcases (show op = 1 ∨ op = 2 ∨ op = 3 ∨ op = 4 ∨ op = 5 ∨ op = 6 ∨ op = 7 ∨ op = 8 ∨ op = 9 ∨ op = 10 ∨ op = 11 ∨ op = 12 ∨ op = 13 ∨ op = 14 ∨ op = 15 ∨ op = 16 ∨ op = 17 ∨ op = 18 ∨ op = 19 ∨ op = 20 ∨ op = 21 ∨ op = 22 ∨ op = 23 ∨ op = 24 ∨ op = 25 by omega) with rfl | rfl | rfl | rfl | rfl | rfl | rfl | rfl | rfl | rfl | rfl | rfl | rfl | rfl | rfl | rfl | rfl | rfl | rfl | rfl | rfl | rfl | rfl | rfl | rfl
  all_goals
   go_enter Tryz.func84, Tryz.ntmps84
   go_wp2
   go_ret2
   exact ⟨rfl, rfl⟩
 ·have HM : Hid (Pg.many op = (0, 0)) := by
   show _ = _
   unfold Pg.many
   rw [if_neg (by omega), if_neg (by omega), if_neg (by omega), if_neg (by omega), if_neg (by omega)]
  have e4 : (op == 4) = false := beq_eq_false_iff_ne.2 (by omega)
  have e5 : (op == 5) = false := beq_eq_false_iff_ne.2 (by omega)
  have e8 : (op == 8) = false := beq_eq_false_iff_ne.2 (by omega)
  have e16 : (op == 16) = false := beq_eq_false_iff_ne.2 (by omega)
  have e18 : (op == 18) = false := beq_eq_false_iff_ne.2 (by omega)
  have e19 : (op == 19) = false := beq_eq_false_iff_ne.2 (by omega)
  have e9 : (op == 9) = false := beq_eq_false_iff_ne.2 (by omega)
  have e10 : (op == 10) = false := beq_eq_false_iff_ne.2 (by omega)
  have e11 : (op == 11) = false := beq_eq_false_iff_ne.2 (by omega)
  have e12 : (op == 12) = false := beq_eq_false_iff_ne.2 (by omega)
  have e13 : (op == 13) = false := beq_eq_false_iff_ne.2 (by omega)
  have e14 : (op == 14) = false := beq_eq_false_iff_ne.2 (by omega)
  have e15 : (op == 15) = false := beq_eq_false_iff_ne.2 (by omega)
  have e20 : (op == 20) = false := beq_eq_false_iff_ne.2 (by omega)
  have e21 : (op == 21) = false := beq_eq_false_iff_ne.2 (by omega)
  have e17 : (op == 17) = false := beq_eq_false_iff_ne.2 (by omega)
  have e22 : (op == 22) = false := beq_eq_false_iff_ne.2 (by omega)
  have e24 : (op == 24) = false := beq_eq_false_iff_ne.2 (by omega)
  clear hr
  go_enter Tryz.func84, Tryz.ntmps84
  go_wp2
  go_ret2
  rw [HM.out]
  exact ⟨rfl, rfl⟩
end PartPgC
section PartPgD
open Go.RowKit
theorem spReadOk (t : ByteArray) (w : World) (ht : t.size ≤ 1048576) :
  Calls Tryz.prog 79 #[.string t] w fun e w' => ∃ va vn vc, e = .returned (.tuple #[.agg #[.slice va vn vc], .bool (Pp.read t.data.toList).isSome]) ∧ Below w.heap.size w w' := by
 refine (specRead_any t w ht).mono ?_
 rintro e w' ⟨b, k⟩
 cases h : Pp.read t.data.toList with
 | none =>
  rw [h] at k
  obtain rfl : e = _ := k
  exact ⟨_, _, _, rfl, b⟩
 | some p =>
  rw [h] at k
  obtain ⟨v, rfl, k1, k2, k3⟩ := k
  obtain ⟨va, vn, vc, rfl⟩ := k1.form
  exact ⟨va, vn, vc, rfl, b⟩
set_option maxHeartbeats 4000000 in
set_option maxRecDepth 100000 in
theorem spNodeText (op : Int) (t : ByteArray) (ka : Option Addr) (kl kc : Nat) (w : World) (ht : t.size ≤ 1048576) :
  Calls Tryz.prog 85 #[.agg #[.int .i64 op, .string t, .slice ka kl kc]] w fun e w' => e = .returned (.bool (Pg.text op t.data.toList)) ∧ Below w.heap.size w w' := by
 obtain ⟨V, hV⟩ : ∃ V, V = Pg.text op t.data.toList := ⟨_, rfl⟩
 rw [← hV]
 have HV : Hid (V = Pg.text op t.data.toList) := hV
 clear hV
 have bA : Below w.heap.size w (w.alloc (.cells #[.int .i64 op, .string t, .slice ka kl kc] 87)) := (Below.refl _ _).alloc (Nat.le_refl _) _
 by_cases h1 : op = 1
 ·have C : Hid (∀ w, Calls Tryz.prog 110 #[.string t] w fun e w' => e = .returned (.bool V) ∧ w' = w) := by
   intro w
   have := specIsNum_any t w (by omega)
   rwa [HV.out, h1]
  subst h1
  have HA : Hid _ := bA
  clear HV bA
  go_enter Tryz.func85, Tryz.ntmps85
  go_wp2_with (go_at_call 110; refine (C.out _).mono ?_; rintro e w2 ⟨rfl, rfl⟩)
  go_ret
  exact ⟨rfl, HA.out⟩
 by_cases h2 : op = 2
 ·have C : Hid (∀ w, Calls Tryz.prog 111 #[.string t, .int .i64 30, .int .u8 34] w fun e w' => e = .returned (.bool V) ∧ w' = w) := by
   intro w
   have := spPlain t 30 34 w ht
   rw [HV.out, h2]
   exact this
  subst h2
  have HA : Hid _ := bA
  clear HV bA h1
  go_enter Tryz.func85, Tryz.ntmps85
  go_wp2_with (go_at_call 111; refine (C.out _).mono ?_; rintro e w2 ⟨rfl, rfl⟩)
  go_ret
  exact ⟨rfl, HA.out⟩
 by_cases h3 : op = 3 ∨ op = 4 ∨ op = 18 ∨ op = 19 ∨ op = 20 ∨ op = 21 ∨ op = 25
 ·have C : Hid (∀ w, Calls Tryz.prog 108 #[.string t] w fun e w' => e = .returned (.bool V) ∧ Below w.heap.size w w') := by
   intro w
   have := spName t w ht
   rw [HV.out]
   unfold Pg.text
   rw [if_neg h1, if_neg h2, if_pos h3]
   exact this
  clear HV h1 h2
  rcases h3 with rfl | rfl | rfl | rfl | rfl | rfl | rfl
  all_goals
   have HA : Hid _ := bA
   clear bA
   go_enter Tryz.func85, Tryz.ntmps85
   go_wp2_with (go_at_call 108; refine (C.out _).mono ?_; rintro e w2 ⟨rfl, b2⟩)
   go_ret
   exact ⟨rfl, HA.out.trans (b2.mono (by simp))⟩
 by_cases h4 : op = 16
 ·have HV2 : Hid (V = ((Pp.read t.data.toList).isSome && Pg.plain t.data.toList 24 47)) := by
   show _ = _
   rw [HV.out]
   unfold Pg.text
   rw [if_neg h1, if_neg h2, if_neg h3, if_pos h4]
  subst h4
  clear HV h1 h2 h3
  obtain ⟨ok, hok⟩ : ∃ ok, ok = (Pp.read t.data.toList).isSome := ⟨_, rfl⟩
  obtain ⟨pl, hpl⟩ : ∃ pl, pl = Pg.plain t.data.toList 24 47 := ⟨_, rfl⟩
  rw [← hok, ← hpl] at HV2
  have C : Hid (∀ w, Calls Tryz.prog 79 #[.string t] w fun e w' => ∃ va vn vc, e = .returned (.tuple #[.agg #[.slice va vn vc], .bool ok]) ∧ Below w.heap.size w w') := by
   intro w
   rw [hok]
   exact spReadOk t w ht
  have CP : Hid (∀ w, Calls Tryz.prog 111 #[.string t, .int .i64 24, .int .u8 47] w fun e w' => e = .returned (.bool pl) ∧ w' = w) := by
   intro w
   rw [hpl]
   exact spPlain t 24 47 w ht
  clear hok hpl
  have hA0 := heap_alloc_new w (.cells #[.int .i64 16, .string t, .slice ka kl kc] 87)
  have HA : Hid _ := bA
  have hl0 : w.heap.size < (w.alloc (.cells #[.int .i64 16, .string t, .slice ka kl kc] 87)).heap.size := by simp
  clear bA
  go_enter Tryz.func85, Tryz.ntmps85
  go_wp2_with fail
  refine (C.out _).mono ?_
  rintro e w2 ⟨va, vn, vc, rfl, b2⟩
  have c1 : w2.cell? ⟨w.heap.size, 1, none⟩ = some (.string t) := by
   rw [b2.cell (p := ⟨w.heap.size, 1, none⟩) hl0, blk_cell hA0]
   rfl
  have HB2 : Hid (Below w.heap.size w w2) := HA.out.trans (b2.mono (by simp))
  have hsz := HB2.out.size
  have c2 : (w2.alloc (.cells #[.slice va vn vc] 144)).cell? ⟨w.heap.size, 1, none⟩ = some (.string t) := (((Below.refl w2.heap.size w2).alloc (Nat.le_refl _) _).cell (p := ⟨w.heap.size, 1, none⟩) (World.block_lt_of_cell? w2 _ c1)).trans c1
  clear b2 hA0 HA C hl0 c1
  cases ok with
  | false =>
   clear CP
   go_wp2
   go_ret
   exact ⟨by rw [HV2.out]; rfl, HB2.out.alloc hsz _⟩
  | true =>
   go_wp2_with (go_at_call 111; refine (CP.out _).mono ?_; rintro e w3 ⟨rfl, rfl⟩)
   go_ret
   exact ⟨by rw [HV2.out]; rfl, HB2.out.alloc hsz _⟩
 have HV2 : Hid (V = t.data.toList.isEmpty) := by
  show _ = _
  rw [HV.out]
  unfold Pg.text
  rw [if_neg h1, if_neg h2, if_neg h3, if_neg h4]
 have e1 : (op == 1) = false := beq_eq_false_iff_ne.2 h1
 have e2 : (op == 2) = false := beq_eq_false_iff_ne.2 h2
 have e3 : (op == 3) = false := beq_eq_false_iff_ne.2 (by omega)
 have e4 : (op == 4) = false := beq_eq_false_iff_ne.2 (by omega)
 have e18 : (op == 18) = false := beq_eq_false_iff_ne.2 (by omega)
 have e19 : (op == 19) = false := beq_eq_false_iff_ne.2 (by omega)
 have e20 : (op == 20) = false := beq_eq_false_iff_ne.2 (by omega)
 have e21 : (op == 21) = false := beq_eq_false_iff_ne.2 (by omega)
 have e25 : (op == 25) = false := beq_eq_false_iff_ne.2 (by omega)
 have e16 : (op == 16) = false := beq_eq_false_iff_ne.2 h4
 have HA : Hid _ := bA
 have HE : Hid (t.toList.isEmpty = t.data.toList.isEmpty) := by show _ = _; rw [Lib.toList_data]
 clear HV bA h1 h2 h3 h4
 go_enter Tryz.func85, Tryz.ntmps85
 go_wp2
 go_ret
 refine ⟨?_, HA.out⟩
 rw [HV2.out, ← HE.out]
 rfl
end PartPgD
end Go.Proofs.YtkfkbdgfnopokaaGreatDoor
