/- Both readers of a program, plainly: what sets, what prints. Both readers of a program, plainly: what chooses, what prints. Both readers of a program, plainly: what prints, blocks. Both readers of a program, plainly: blocks. Both readers of a program, plainly: statements at every depth. Both readers of a program, plainly: rules, and the program of a text. -/
import Derived.Test.YtkfkbdgfnopokaaGreatDoorZay
import Derived.Test.YtkfkbdgfnopokaaGreatDoorZar
import Derived.Test.YtkfkbdgfnopokaaGreatDoorPrV
import Derived.Test.YtkfkbdgfnopokaaGreatDoorZas
namespace Go.Proofs.YtkfkbdgfnopokaaGreatDoor
section PartRsU
namespace Ip
def Ne (I : Rd) : Prop := ∀ ts G r, I ts = some (G, r) → ∀ n, G n ≠ []
theorem ne_node (op : Nat) (t : List UInt8) (Gs : List (Nat → List Pi)) (n : Nat) : Fl.node op t Gs n ≠ [] := by unfold Fl.node; simp
theorem ne_upTo {E : Rd} {x : List UInt8} (h : Ne E) : Ne (upTo E x) := by
 intro ts G r e
 unfold upTo at e
 simp only [Option.bind_eq_some_iff, Option.map_eq_some_iff, Prod.mk.injEq] at e
 obtain ⟨q, h1, r2, -, rfl, -⟩ := e
 exact h _ _ _ h1
theorem ne_here {S U V : Rd} (hU : Ne U) : Ne (here S U V) := by
 intro ts G r e n
 unfold here at e
 split at e
 ·simp only [Option.map_eq_some_iff, Prod.mk.injEq] at e
  obtain ⟨q, -, rfl, -⟩ := e
  exact ne_node _ _ _ _
 ·split at e
  ·exact hU _ _ _ e n
  ·split at e
   ·simp only [Option.some.injEq, Prod.mk.injEq] at e; obtain ⟨rfl, -⟩ := e; exact ne_node _ _ _ _
   ·split at e
    ·simp only [Option.some.injEq, Prod.mk.injEq] at e; obtain ⟨rfl, -⟩ := e; exact ne_node _ _ _ _
    ·split at e
     ·unfold long at e
      simp only [Option.bind_eq_some_iff, Option.map_eq_some_iff, Prod.mk.injEq] at e
      obtain ⟨r1, -, q, -, rfl, -⟩ := e
      exact ne_node _ _ _ _
     ·cases ts with
      | nil => cases e
      | cons t r1 =>
       simp only [ofOne] at e
       split at e
       ·simp only [Option.some.injEq, Prod.mk.injEq] at e; obtain ⟨rfl, -⟩ := e; exact ne_node _ _ _ _
       ·split at e
        ·simp only [Option.some.injEq, Prod.mk.injEq] at e; obtain ⟨rfl, -⟩ := e; exact ne_node _ _ _ _
        ·split at e
         ·unfold named at e
          split at e
          ·simp only [Option.some.injEq, Prod.mk.injEq] at e; obtain ⟨rfl, -⟩ := e; exact ne_node _ _ _ _
          ·simp only [Option.map_eq_some_iff, Prod.mk.injEq] at e
           obtain ⟨q, -, rfl, -⟩ := e
           exact ne_node _ _ _ _
         ·cases e
theorem ne_row {F : Rd} {a b : Nat} (h : Ne F) : Ne (row F a b) := by
 intro ts G r e n
 unfold row at e
 simp only [Option.bind_eq_some_iff] at e
 obtain ⟨q, h1, h2⟩ := e
 obtain ⟨Y, hY⟩ := Pr.rowL_ext _ _ _ _ _ n h2
 rw [hY]
 have := h _ _ _ h1 n
 simp [this]
theorem ne_expr {F : Rd} (h : Ne F) : Ne (expr F) := by
 intro ts G r e n
 unfold expr at e
 simp only [Option.bind_eq_some_iff] at e
 obtain ⟨q, h1, h2⟩ := e
 unfold held at h2
 split at h2
 ·simp only [Option.map_eq_some_iff, Prod.mk.injEq] at h2
  obtain ⟨p, -, rfl, -⟩ := h2
  exact ne_node _ _ _ _
 ·split at h2
  ·rename_i r1 hw
   cases r1 with
   | nil => cases h2
   | cons t r2 =>
    simp only [has] at h2
    split at h2
    ·simp only [Option.some.injEq, Prod.mk.injEq] at h2; obtain ⟨rfl, -⟩ := h2; exact ne_node _ _ _ _
    ·cases h2
  ·simp only [Option.some.injEq, Prod.mk.injEq] at h2; obtain ⟨rfl, -⟩ := h2; exact h _ _ _ h1 n
theorem ne_SE : ∀ n, Ne (SE n).1 ∧ Ne (SE n).2
 | 0 => ⟨(fun _ _ _ e => nomatch e), (fun _ _ _ e => nomatch e)⟩
 | n + 1 => ⟨ne_here (ne_upTo (ne_SE n).2), ne_expr (ne_row (ne_row (ne_row (ne_SE n).1)))⟩
end Ip
namespace Pr
section
variable {ts : List Tk.Tok} {m : Nat} {o X : List Pi} {r : List Tk.Tok} {st : PS}
theorem last_pos {X : List Pi} (h : X ≠ []) : 0 ≤ last o X := by
 have : 0 < X.length := List.length_pos_iff.2 h
 unfold last
 omega
theorem one_stepT {F : Rf} {I : Ip.Rd} (hF : Fn ts m F) (hA : Agr ts F I) (h : Okk ts o [] r st) (j : Nat) (t : List UInt8) :
  match I r with
  | none => ((F st).1.put (nd (j : Int) t [(F st).2])).1.bad = true
  | some (H, r2) => Okk ts o (Fl.node j t [H] o.length) r2 ((F st).1.put (nd (j : Int) t [(F st).2])).1 ∧ (((F st).1.put (nd (j : Int) t [(F st).2])).1.bad = false → ((F st).1.put (nd (j : Int) t [(F st).2])).2 = last o (Fl.node j t [H] o.length)) := by
 have h1 := h.then hF hA
 cases hI : I r with
 | none => rw [hI] at h1; exact put_badT h1
 | some q =>
  obtain ⟨H, r2⟩ := q
  rw [hI] at h1
  simp only [List.nil_append, List.length_nil, Nat.add_zero] at h1
  show Okk _ _ _ _ _ ∧ _
  rw [node1]
  exact h1.1.put (fun hb => by rw [h1.2 hb])
theorem two_stepT {F : Rf} {I : Ip.Rd} (hF : Fn ts m F) (hA : Agr ts F I) {k : Int} {G : Nat → List Pi} (h : Okk ts o (G o.length) r st) (hk : st.bad = false → k = last o (G o.length)) (j : Nat) (t : List UInt8) :
  match I r with
  | none => ((F st).1.put (nd (j : Int) t [k, (F st).2])).1.bad = true
  | some (H, r2) => Okk ts o (Fl.node j t [G, H] o.length) r2 ((F st).1.put (nd (j : Int) t [k, (F st).2])).1 ∧ (((F st).1.put (nd (j : Int) t [k, (F st).2])).1.bad = false → ((F st).1.put (nd (j : Int) t [k, (F st).2])).2 = last o (Fl.node j t [G, H] o.length)) := by
 have h1 := h.then hF hA
 cases hI : I r with
 | none => rw [hI] at h1; exact put_badT h1
 | some q =>
  obtain ⟨H, r2⟩ := q
  rw [hI] at h1
  obtain ⟨h2, h3⟩ := h1
  show Okk _ _ _ _ _ ∧ _
  rw [node2]
  exact h2.put (fun hb => by
   have hst : st.bad = false := by
    cases hs : st.bad with
    | false => rfl
    | true => rw [hF.bad st hs, hs] at hb; cases hb
   rw [hk hst, h3 hb])
theorem setTo_bad {E : Rf} (hE : Fn ts m E) (h : st.bad = true) (name : List UInt8) (k : Int) (add : Bool) : (setTo E name st k add).1.bad = true := by
 have e := hE.bad st h
 unfold setTo
 split
 ·exact put_badT (by rw [e]; exact h)
 ·split
  ·exact put_badT (by rw [e]; exact h)
  ·split
   ·exact put_badT (by rw [e]; exact h)
   ·exact put_badT (by rw [e]; exact h)
theorem setOp_yes {us r' : List Tk.Tok} (h : Ip.want 5 [43, 61] us = some r') : Ip.setOp us = some (true, r') := by unfold Ip.setOp; rw [h]
theorem setOp_no {us : List Tk.Tok} (h : Ip.want 5 [43, 61] us = none) : Ip.setOp us = (Ip.want 5 [61] us).map fun r => (false, r) := by
 unfold Ip.setOp
 rw [h]
 cases Ip.want 5 [61] us <;> rfl
theorem keyed_agr {E : Rf} {IE : Ip.Rd} (hE : Fn ts m E) (aE : Agr ts E IE) {k : Int} {G : Nat → List Pi} {us : List Tk.Tok} (t : List UInt8) (h : Okk ts o (G o.length) us st) (hk : st.bad = false → k = last o (G o.length)) (hne : G o.length ≠ []) :
  Agr1 ts o ((Ip.setOp us).bind fun a => (IE a.2).map fun q => (Fl.node (if a.1 then 21 else 20) t [G, q.1], q.2)) (if st.is ts 5 [43, 61] = true then setTo E t st.go k true else setTo E t (st.want ts [61]) k false) := by
 cases hb : st.bad with
 | true =>
  rw [if_neg (by rw [is_bad hb]; decide), want_bad hb]
  refine Agr1.bad (setTo_bad hE hb t k false) (fun G' r' e => ?_)
  simp only [Option.bind_eq_some_iff, Option.map_eq_some_iff, Prod.mk.injEq] at e
  obtain ⟨a, -, q, -, rfl, -⟩ := e
  rw [node2, List.append_assoc, ← List.append_assoc]
  rcases h with ⟨-, hw⟩ | ⟨hb2, -⟩
  ·exact hw.more _
  ·rw [hb] at hb2; cases hb2
 | false =>
  have hk2 := hk hb
  have hpos : 0 ≤ k := by rw [hk2]; exact last_pos hne
  cases w1 : Ip.want 5 [43, 61] us with
  | some r1 =>
   obtain ⟨g1, g2, g3⟩ := h.go hb w1
   rw [if_pos g1, setOp_yes w1]
   have eq : setTo E t st.go k true = (E st.go).1.put (nd ((21 : Nat) : Int) t [k, (E st.go).2]) := by
    unfold setTo
    rw [if_pos ⟨hpos, rfl⟩]
    rfl
   rw [eq]
   have h3 := two_stepT hE aE g2 (fun _ => hk2) 21 t
   cases hI : IE r1 with
   | none => rw [hI] at h3; exact Agr1.none' (by simp [hI]) h3
   | some q =>
    obtain ⟨H, r2⟩ := q
    rw [hI] at h3
    exact Agr1.some' (G := Fl.node 21 t [G, H]) (r := r2) (by simp [hI]) h3.1 h3.2
  | none =>
   rw [if_neg (by rw [h.isn w1]; decide), setOp_no w1]
   cases w2 : Ip.want 5 [61] us with
   | none => exact Agr1.none' (by simp) (setTo_bad hE (h.want_no w2) t k false)
   | some r1 =>
    have g2 := h.want w2
    have eq : setTo E t (st.want ts [61]) k false = (E (st.want ts [61])).1.put (nd ((20 : Nat) : Int) t [k, (E (st.want ts [61])).2]) := by
     unfold setTo
     rw [if_neg (fun e => by cases e.2), if_pos hpos]
     rfl
    rw [eq]
    have h3 := two_stepT hE aE g2 (fun _ => hk2) 20 t
    cases hI : IE r1 with
    | none => rw [hI] at h3; exact Agr1.none' (by simp [hI]) h3
    | some q =>
     obtain ⟨H, r2⟩ := q
     rw [hI] at h3
     exact Agr1.some' (G := Fl.node 20 t [G, H]) (r := r2) (by simp [hI]) h3.1 h3.2
theorem setOne_agr {E : Rf} {IE : Ip.Rd} (hE : Fn ts m E) (aE : Agr ts E IE) (hne : Ip.Ne IE) (t : List UInt8) (hb : st.bad = false) (h : Okk ts o [] r st) : Agr1 ts o (Ip.settingOf IE (Ip.upTo IE [93]) t r) (setOne ts E t st) := by
 unfold setOne
 cases w0 : Ip.want 5 [91] r with
 | none =>
  have e0 : key ts E st = (st, -1) := by unfold key; rw [if_neg (by rw [h.isn w0]; decide)]
  rw [e0]
  have eR : Ip.settingOf IE (Ip.upTo IE [93]) t r = (Ip.setOp r).bind fun a => (IE a.2).map fun q => (Fl.node (if a.1 then 19 else 18) t [q.1], q.2) := by unfold Ip.settingOf; simp only [w0]
  rw [eR]
  show Agr1 ts o _ (if st.is ts 5 [43, 61] = true then setTo E t st.go (-1) true else setTo E t (st.want ts [61]) (-1) false)
  cases w1 : Ip.want 5 [43, 61] r with
  | some r1 =>
   obtain ⟨g1, g2, g3⟩ := h.go hb w1
   rw [if_pos g1, setOp_yes w1]
   have eq : setTo E t st.go (-1) true = (E st.go).1.put (nd ((19 : Nat) : Int) t [(E st.go).2]) := by
    unfold setTo
    rw [if_neg (fun e => by omega), if_neg (by omega), if_pos rfl]
    rfl
   rw [eq]
   have h3 := one_stepT hE aE g2 19 t
   cases hI : IE r1 with
   | none => rw [hI] at h3; exact Agr1.none' (by simp [hI]) h3
   | some q =>
    obtain ⟨H, r2⟩ := q
    rw [hI] at h3
    exact Agr1.some' (G := Fl.node 19 t [H]) (r := r2) (by simp [hI]) h3.1 h3.2
  | none =>
   rw [if_neg (by rw [h.isn w1]; decide), setOp_no w1]
   cases w2 : Ip.want 5 [61] r with
   | none => exact Agr1.none' (by simp) (setTo_bad hE (h.want_no w2) t (-1) false)
   | some r1 =>
    have g2 := h.want w2
    have eq : setTo E t (st.want ts [61]) (-1) false = (E (st.want ts [61])).1.put (nd ((18 : Nat) : Int) t [(E (st.want ts [61])).2]) := by
     unfold setTo
     rw [if_neg (fun e => by cases e.2), if_neg (by omega), if_neg (by decide)]
     rfl
    rw [eq]
    have h3 := one_stepT hE aE g2 18 t
    cases hI : IE r1 with
    | none => rw [hI] at h3; exact Agr1.none' (by simp [hI]) h3
    | some q =>
     obtain ⟨H, r2⟩ := q
     rw [hI] at h3
     exact Agr1.some' (G := Fl.node 18 t [H]) (r := r2) (by simp [hI]) h3.1 h3.2
 | some r0 =>
  obtain ⟨g1, g2, g3⟩ := h.go hb w0
  have e0 : key ts E st = ((E st.go).1.want ts [93], (E st.go).2) := by unfold key; rw [if_pos g1]
  rw [e0]
  have h1 := g2.upTo hE aE [93]
  cases hI : Ip.upTo IE [93] r0 with
  | none =>
   rw [hI] at h1
   refine Agr1.none' (by unfold Ip.settingOf; simp [w0, hI]) ?_
   have hbd : ((E st.go).1.want ts [93]).bad = true := h1
   show (if ((E st.go).1.want ts [93]).is ts 5 [43, 61] = true then setTo E t ((E st.go).1.want ts [93]).go (E st.go).2 true else setTo E t (((E st.go).1.want ts [93]).want ts [61]) (E st.go).2 false).1.bad = true
   rw [if_neg (by rw [is_bad hbd]; decide), want_bad hbd]
   exact setTo_bad hE hbd t _ false
  | some q =>
   obtain ⟨G, r2⟩ := q
   rw [hI] at h1
   simp only [List.nil_append, List.length_nil, Nat.add_zero] at h1
   have eR : Ip.settingOf IE (Ip.upTo IE [93]) t r = (Ip.setOp r2).bind fun a => (IE a.2).map fun q => (Fl.node (if a.1 then 21 else 20) t [G, q.1], q.2) := by unfold Ip.settingOf; simp only [w0, hI]; rfl
   rw [eR]
   exact keyed_agr hE aE t h1.1 h1.2 (Ip.ne_upTo hne _ _ _ hI _)
end
end Pr
end PartRsU
section PartRsV
namespace Pr
section
variable {ts : List Tk.Tok} {m : Nat} {o X : List Pi} {r : List Tk.Tok} {st : PS}
theorem node3 (op : Nat) (t : List UInt8) (G H J : Nat → List Pi) : Fl.node op t [G, H, J] o.length = (G o.length ++ H (o.length + (G o.length).length) ++ J (o.length + (G o.length ++ H (o.length + (G o.length).length)).length)) ++ [nd (op : Int) t [last o (G o.length), last o (G o.length ++ H (o.length + (G o.length).length)), last o (G o.length ++ H (o.length + (G o.length).length) ++ J (o.length + (G o.length ++ H (o.length + (G o.length).length)).length))]] := by
 simp only [Fl.node, Fl.all, Fl.ids, last, List.length_append, Nat.add_assoc, List.append_nil, List.append_assoc]
theorem getD_last (ps : List Pi) (x : Pi) : (ps ++ [x]).getD ps.length Pi.no = x := by simp [List.getD_eq_getElem?_getD]
theorem wrong_if {ps : List Pi} {ks : List Int} {k i : Nat} (hkl : k < ks.length) (hp : ks.getD k 0 = (i : Int)) (hi : i < ps.length) (hop : (ps.getD i Pi.no).op = 22) : Wrong (ps ++ [nd 22 [] ks]) := by
 refine .inr ⟨ps.length, by simp, ?_⟩
 have hkid : Pg.kid (ps ++ [nd 22 [] ks]) ps.length (nd 22 [] ks) k = false := by
  unfold Pg.kid
  have e1 : (nd 22 [] ks).kids = ks := rfl
  have e2 : (nd 22 [] ks).op = 22 := rfl
  rw [e1, e2, hp]
  have e3 : ((i : Int)).toNat = i := by omega
  rw [e3, getD_app ps _ i hi, hop]
  simp
 have hall : (List.range (nd 22 [] ks).kids.length).all (Pg.kid (ps ++ [nd 22 [] ks]) ps.length (nd 22 [] ks)) = false := by
  cases hh : (List.range (nd 22 [] ks).kids.length).all (Pg.kid (ps ++ [nd 22 [] ks]) ps.length (nd 22 [] ks)) with
  | false => rfl
  | true =>
   have := List.all_eq_true.1 hh k (List.mem_range.2 hkl)
   rw [hkid] at this
   cases this
 unfold Pg.node
 rw [getD_last, hall, Bool.and_false]
theorem wrong_many {ps : List Pi} {op : Int} {t : List UInt8} {ks : List Int} (h : (Pg.many op).2 < ks.length) : Wrong (ps ++ [nd op t ks]) := by
 refine .inr ⟨ps.length, by simp, ?_⟩
 unfold Pg.node
 rw [getD_last]
 have e : decide ((Pg.many (nd op t ks).op).1 ≤ (nd op t ks).kids.length ∧ (nd op t ks).kids.length ≤ (Pg.many (nd op t ks).op).2) = false := decide_eq_false (fun e => by
  have h2 : ks.length ≤ (Pg.many op).2 := e.2
  omega)
 rw [e, Bool.and_false, Bool.false_and]
def IfL (I : Ip.Rd) : Prop := ∀ us G r n, Rx.is us 1 [105, 102] = true → I us = some (G, r) → ∃ Y p, G n = Y ++ [p] ∧ p.op = 22
theorem last_at (o X Y : List Pi) (p : Pi) (h : X = Y ++ [p]) : ∃ i : Nat, last o X = (i : Int) ∧ i < (o ++ X).length ∧ ∀ Z, (o ++ (X ++ Z)).getD i Pi.no = p := by
 subst h
 refine ⟨o.length + Y.length, ?_, by simp, fun Z => ?_⟩
 ·unfold last
  simp only [List.length_append, List.length_cons, List.length_nil]
  omega
 ·rw [show o ++ (Y ++ [p] ++ Z) = (o ++ Y) ++ ([p] ++ Z) by simp, List.getD_eq_getElem?_getD, List.getElem?_append_right (by simp)]
  simp
theorem choose_bad {T : Rf} (hT : Fn ts m T) (h : st.bad = true) (a : Int) : (choose ts T st a).1.bad = true := by
 unfold choose other
 rw [is_bad h, hT.bad st h, is_bad h]
 simp only [Bool.false_eq_true, if_false]
 exact put_badT h
theorem choice_agr {E T : Rf} {IE IT : Ip.Rd} (hE : Fn ts m E) (hT : Fn ts m T) (aE : Agr ts E IE) (aT : Agr ts T IT) (hif : IfL IT) (h : Okk ts o [] r st) : Agr1 ts o (Ip.choice (Ip.upTo IE [41]) IT r) (choice ts E T st) := by
 unfold choice
 cases w0 : Ip.want 5 [40] r with
 | none =>
  have hb := h.want_no w0
  refine Agr1.none' (by unfold Ip.choice; rw [w0]; rfl) (choose_bad hT ?_ _)
  rw [hE.bad _ hb, want_bad hb]
  exact hb
 | some r1 =>
  have h0 := h.want w0
  have h1 := h0.upTo hE aE [41]
  cases hU : Ip.upTo IE [41] r1 with
  | none =>
   rw [hU] at h1
   exact Agr1.none' (by unfold Ip.choice; rw [w0]; simp [hU]) (choose_bad hT h1 _)
  | some q =>
   obtain ⟨G, r2⟩ := q
   rw [hU] at h1
   simp only [List.nil_append, List.length_nil, Nat.add_zero] at h1
   obtain ⟨h2, hk⟩ := h1
   have eR : Ip.choice (Ip.upTo IE [41]) IT r = (IT r2).bind fun a => match Ip.want 1 [101, 108, 115, 101] a.2 with | none => some (Fl.node 22 [] [G, a.1], a.2) | some r6 => (IT r6).map fun b => (Fl.node 22 [] [G, a.1, b.1], b.2) := by
    unfold Ip.choice
    rw [w0]
    simp only [Option.bind_some, hU]
    rfl
   rw [eR]
   generalize hs : (E (st.want ts [40])).1.want ts [41] = s at *
   generalize (E (st.want ts [40])).2 = a at *
   clear hs
   cases hb : s.bad with
   | true =>
    refine Agr1.bad (choose_bad hT hb a) (fun G' r' e => ?_)
    have hw : Wrong (o ++ G o.length) := by
     rcases h2 with ⟨-, hw⟩ | ⟨hb2, -⟩
     ·exact hw
     ·rw [hb] at hb2; cases hb2
    simp only [Option.bind_eq_some_iff] at e
    obtain ⟨p, -, e⟩ := e
    split at e
    ·simp only [Option.some.injEq, Prod.mk.injEq] at e
     obtain ⟨rfl, -⟩ := e
     rw [node2, List.append_assoc, ← List.append_assoc]
     exact hw.more _
    ·simp only [Option.map_eq_some_iff, Prod.mk.injEq] at e
     obtain ⟨b, -, rfl, -⟩ := e
     rw [node3, List.append_assoc, List.append_assoc, ← List.append_assoc]
     exact hw.more _
   | false =>
    have hka := hk hb
    have hsi : s.is ts 1 [105, 102] = Rx.is r2 1 [105, 102] := by
     rcases h2 with ⟨hb2, -⟩ | ⟨-, -, hr, -⟩
     ·rw [hb] at hb2; cases hb2
     ·rw [is_drop hb, hr]
    unfold choose
    cases hi : Rx.is r2 1 [105, 102] with
    | true =>
     rw [if_pos (by rw [hsi, hi])]
     refine Agr1.bad rfl (fun G' r' e => ?_)
     simp only [Option.bind_eq_some_iff] at e
     obtain ⟨⟨H, r3⟩, hI, e⟩ := e
     obtain ⟨Y, p, hY, hp⟩ := hif r2 H r3 (o.length + (G o.length).length) hi hI
     obtain ⟨i, e1, e2, e3⟩ := last_at o (G o.length ++ H (o.length + (G o.length).length)) (G o.length ++ Y) p (by rw [hY, List.append_assoc])
     split at e
     ·simp only [Option.some.injEq, Prod.mk.injEq] at e
      obtain ⟨rfl, -⟩ := e
      rw [node2, ← List.append_assoc]
      refine wrong_if (k := 1) (i := i) (by simp) (by simpa using e1) e2 ?_
      have := e3 []
      rw [List.append_nil] at this
      rw [this]; exact hp
     ·simp only [Option.map_eq_some_iff, Prod.mk.injEq] at e
      obtain ⟨b, -, rfl, -⟩ := e
      rw [node3, ← List.append_assoc]
      refine wrong_if (k := 1) (i := i) (by simp) (by simpa using e1) ?_ ?_
      ·rw [← List.append_assoc, List.length_append]; omega
      ·rw [e3]; exact hp
    | false =>
     rw [if_neg (by rw [hsi, hi]; decide)]
     have h3 := h2.then hT aT
     cases hI : IT r2 with
     | none =>
      rw [hI] at h3
      refine Agr1.none' rfl ?_
      unfold other
      rw [is_bad h3, if_neg (by decide)]
      exact put_badT h3
     | some q =>
      obtain ⟨H, r3⟩ := q
      rw [hI] at h3
      obtain ⟨h4, hk4⟩ := h3
      simp only [Option.bind_some]
      generalize hs4 : (T s).1 = s4 at *
      generalize (T s).2 = b at *
      clear hs4
      cases hb4 : s4.bad with
      | true =>
       have hw : Wrong (o ++ (G o.length ++ H (o.length + (G o.length).length))) := by
        rcases h4 with ⟨-, hw⟩ | ⟨hb2, -⟩
        ·exact hw
        ·rw [hb4] at hb2; cases hb2
       refine Agr1.bad ?_ (fun G' r' e => ?_)
       ·unfold other
        rw [is_bad hb4, if_neg (by decide)]
        exact put_badT hb4
       ·split at e
        ·simp only [Option.some.injEq, Prod.mk.injEq] at e
         obtain ⟨rfl, -⟩ := e
         rw [node2, ← List.append_assoc]
         exact hw.more _
        ·simp only [Option.map_eq_some_iff, Prod.mk.injEq] at e
         obtain ⟨c, -, rfl, -⟩ := e
         rw [node3, List.append_assoc, ← List.append_assoc]
         exact hw.more _
      | false =>
       have hkb := hk4 hb4
       unfold other
       cases w1 : Ip.want 1 [101, 108, 115, 101] r3 with
       | none =>
        rw [if_neg (by rw [h4.isn w1]; decide)]
        have h5 := h4.put (p := nd 22 [] [a, b]) (p' := nd ((22 : Nat) : Int) [] [last o (G o.length), last o (G o.length ++ H (o.length + (G o.length).length))]) (fun _ => by rw [hka, hkb]; rfl)
        rw [← node2] at h5
        exact Agr1.some' (G := Fl.node 22 [] [G, H]) (r := r3) rfl h5.1 h5.2
       | some r4 =>
        obtain ⟨g1, g2, g3⟩ := h4.go hb4 w1
        rw [if_pos g1]
        have hsi4 : s4.go.is ts 1 [105, 102] = Rx.is r4 1 [105, 102] := by
         rcases g2 with ⟨hb2, -⟩ | ⟨-, -, hr, -⟩
         ·rw [g3] at hb2; cases hb2
         ·rw [is_drop g3, hr]
        cases hi4 : Rx.is r4 1 [105, 102] with
        | true =>
         rw [if_pos (by rw [hsi4, hi4])]
         refine Agr1.bad rfl (fun G' r' e => ?_)
         simp only [Option.map_eq_some_iff, Prod.mk.injEq] at e
         obtain ⟨⟨J, r5⟩, hJ, rfl, -⟩ := e
         obtain ⟨Y, p, hY, hp⟩ := hif r4 J r5 (o.length + (G o.length ++ H (o.length + (G o.length).length)).length) hi4 hJ
         obtain ⟨i, e1, e2, e3⟩ := last_at o (G o.length ++ H (o.length + (G o.length).length) ++ J (o.length + (G o.length ++ H (o.length + (G o.length).length)).length)) (G o.length ++ H (o.length + (G o.length).length) ++ Y) p (by rw [hY, ← List.append_assoc])
         rw [node3, ← List.append_assoc]
         refine wrong_if (k := 2) (i := i) (by simp) (by simpa using e1) e2 ?_
         have := e3 []
         rw [List.append_nil] at this
         rw [this]; exact hp
        | false =>
         rw [if_neg (by rw [hsi4, hi4]; decide)]
         have h6 := g2.then hT aT
         cases hJ : IT r4 with
         | none =>
          rw [hJ] at h6
          exact Agr1.none' (by simp [hJ]) (put_badT h6)
         | some q =>
          obtain ⟨J, r5⟩ := q
          rw [hJ] at h6
          have h7 := h6.1.put (p := nd 22 [] [a, b, (T s4.go).2]) (p' := nd ((22 : Nat) : Int) [] [last o (G o.length), last o (G o.length ++ H (o.length + (G o.length).length)), last o (G o.length ++ H (o.length + (G o.length).length) ++ J (o.length + (G o.length ++ H (o.length + (G o.length).length)).length))]) (fun hb => by rw [hka, hkb, h6.2 hb]; rfl)
          rw [← node3] at h7
          exact Agr1.some' (G := Fl.node 22 [] [G, H, J]) (r := r5) (by simp [hJ]) h7.1 h7.2
end
end Pr
end PartRsV
section PartRsW
namespace Pr
section
variable {ts : List Tk.Tok} {m : Nat} {o X : List Pi} {r : List Tk.Tok} {st : PS}
theorem wlen {k : Nat} {x : List UInt8} {us r' : List Tk.Tok} (h : Ip.want k x us = some r') : us.length = r'.length + 1 := by
 obtain ⟨t, rfl, -⟩ := want_some h
 simp
theorem alls (Gs : List (Nat → List Pi)) (G : Nat → List Pi) : ∀ n, Fl.all (Gs ++ [G]) n = Fl.all Gs n ++ G (n + (Fl.all Gs n).length) := by
 induction Gs with
 | nil => intro n; simp [Fl.all]
 | cons H r ih => intro n; simp only [List.cons_append, Fl.all, ih, List.length_append, List.append_assoc, Nat.add_assoc]
theorem idss (Gs : List (Nat → List Pi)) (G : Nat → List Pi) : ∀ n, Fl.ids (Gs ++ [G]) n = Fl.ids Gs n ++ [((n + (Fl.all (Gs ++ [G]) n).length : Nat) : Int) - 1] := by
 induction Gs with
 | nil => intro n; simp [Fl.all, Fl.ids]
 | cons H r ih =>
  intro n
  simp only [List.cons_append, Fl.all, Fl.ids, ih, List.length_append, Nat.add_assoc]
theorem ids_last (Gs : List (Nat → List Pi)) (G : Nat → List Pi) : Fl.ids (Gs ++ [G]) o.length = Fl.ids Gs o.length ++ [last o (Fl.all Gs o.length ++ G (o.length + (Fl.all Gs o.length).length))] := by
 rw [idss, alls]
 rfl
theorem more_ext {E : Ip.Rd} : ∀ (f : Nat) (Gs : List (Nat → List Pi)) (us : List Tk.Tok) (z : List (Nat → List Pi)) (r : List Tk.Tok) (n : Nat), Ip.more E f Gs us = some (z, r) → ∃ Y, Fl.all z n = Fl.all Gs n ++ Y
 | 0, Gs, us, z, r, n, e => by
  simp only [Ip.more, Option.some.injEq, Prod.mk.injEq] at e
  obtain ⟨rfl, rfl⟩ := e
  exact ⟨[], by simp⟩
 | f + 1, Gs, us, z, r, n, e => by
  simp only [Ip.more] at e
  split at e
  ·simp only [Option.some.injEq, Prod.mk.injEq] at e
   obtain ⟨rfl, rfl⟩ := e
   exact ⟨[], by simp⟩
  ·simp only [Option.bind_eq_some_iff] at e
   obtain ⟨q, -, h2⟩ := e
   obtain ⟨Y, hY⟩ := more_ext f _ _ _ _ n h2
   exact ⟨q.1 (n + (Fl.all Gs n).length) ++ Y, by rw [hY, alls, List.append_assoc]⟩
theorem printL_bad {E : Rf} (f : Nat) (ks : List Int) (h : st.bad = true) : printL ts E f st ks = (st, ks) := by
 cases f with
 | zero => rfl
 | succ f => rw [printL, if_neg (by rw [is_bad h]; decide)]
theorem printL_agr {E : Rf} {IE : Ip.Rd} (hE : Fn ts m E) (aE : Agr ts E IE) (hS : Ip.Shr IE) :
  ∀ (f2 f1 : Nat) (st : PS) (ks : List Int) (Gs : List (Nat → List Pi)) (us : List Tk.Tok), Okk ts o (Fl.all Gs o.length) us st → (st.bad = false → ks = Fl.ids Gs o.length) → us.length ≤ f1 → us.length ≤ f2 →
   match Ip.more IE f2 Gs us with
   | none => (printL ts E f1 st ks).1.bad = true
   | some (z, r) => Okk ts o (Fl.all z o.length) r (printL ts E f1 st ks).1 ∧ ((printL ts E f1 st ks).1.bad = false → (printL ts E f1 st ks).2 = Fl.ids z o.length) := by
 intro f2
 induction f2 with
 | zero =>
  intro f1 st ks Gs us h hk h1 h2
  have e : us = [] := List.length_eq_zero_iff.1 (by omega)
  subst e
  have hq : printL ts E f1 st ks = (st, ks) := by
   cases f1 with
   | zero => rfl
   | succ f1 => rw [printL, if_neg (by rw [h.isn (k := 5) (x := [44]) rfl]; decide)]
  rw [hq]
  exact ⟨h, hk⟩
 | succ f2 ih =>
  intro f1 st ks Gs us h hk h1 h2
  cases hb : st.bad with
  | true =>
   rw [printL_bad f1 ks hb]
   cases hM : Ip.more IE (f2 + 1) Gs us with
   | none => exact hb
   | some q =>
    obtain ⟨z, r⟩ := q
    obtain ⟨Y, hY⟩ := more_ext _ _ _ _ _ o.length hM
    refine ⟨.inl ⟨hb, ?_⟩, fun h3 => by rw [hb] at h3; cases h3⟩
    rw [hY, ← List.append_assoc]
    rcases h with ⟨-, hw⟩ | ⟨hb2, -⟩
    ·exact hw.more _
    ·rw [hb] at hb2; cases hb2
  | false =>
   cases w : Ip.want 5 [44] us with
   | none =>
    have hq : printL ts E f1 st ks = (st, ks) := by
     cases f1 with
     | zero => rfl
     | succ f1 => rw [printL, if_neg (by rw [h.isn w]; decide)]
    rw [hq, Ip.more, w]
    exact ⟨h, hk⟩
   | some r1 =>
    have hlen := wlen w
    obtain ⟨f1, rfl⟩ : ∃ f', f1 = f' + 1 := ⟨f1 - 1, by omega⟩
    obtain ⟨g1, g2, -⟩ := h.go hb w
    have hq : printL ts E (f1 + 1) st ks = printL ts E f1 (E st.go).1 (ks ++ [(E st.go).2]) := by rw [printL, if_pos g1]
    have eM : Ip.more IE (f2 + 1) Gs us = (IE r1).bind fun q => Ip.more IE f2 (Gs ++ [q.1]) q.2 := by rw [Ip.more, w]
    rw [hq, eM]
    have h3 := g2.then hE aE
    cases hI : IE r1 with
    | none =>
     rw [hI] at h3
     show (printL ts E f1 (E st.go).1 (ks ++ [(E st.go).2])).1.bad = true
     rw [printL_bad f1 _ h3]
     exact h3
    | some p =>
     obtain ⟨H, r2⟩ := p
     rw [hI] at h3
     have hs := hS _ _ _ hI
     have h3' : Okk ts o (Fl.all Gs o.length ++ H (o.length + (Fl.all Gs o.length).length)) r2 (E st.go).1 ∧ ((E st.go).1.bad = false → (E st.go).2 = last o (Fl.all Gs o.length ++ H (o.length + (Fl.all Gs o.length).length))) := h3
     clear h3
     have h3 := h3'
     rw [← alls] at h3
     exact ih f1 _ _ (Gs ++ [H]) r2 h3.1 (fun hg => by rw [hk hb, h3.2 hg, alls, ids_last]) (by omega) (by omega)
theorem print_agr {E : Rf} {IE : Ip.Rd} (hE : Fn ts m E) (aE : Agr ts E IE) (hS : Ip.Shr IE) (h : Okk ts o [] r st) (hr : r.length ≤ ts.length) : Agr1 ts o (Ip.printed IE r) (print ts E st) := by
 unfold print
 have h1 := h.then hE aE
 cases hI : IE r with
 | none =>
  rw [hI] at h1
  refine Agr1.none' (by unfold Ip.printed; rw [hI]; rfl) ?_
  rw [printL_bad _ _ h1]
  unfold printEnd
  split
  ·exact put_badT rfl
  ·exact put_badT h1
 | some q =>
  obtain ⟨G, r1⟩ := q
  rw [hI] at h1
  simp only [List.nil_append, List.length_nil, Nat.add_zero] at h1
  have hs := hS _ _ _ hI
  have e1 : Fl.all [G] o.length = G o.length := all1 G _
  have h2 := printL_agr hE aE hS r1.length (ts.length + 1) (E st).1 [(E st).2] [G] r1 (by rw [e1]; exact h1.1) (fun hb => by rw [h1.2 hb]; simp [Fl.ids, last]) (by omega) (Nat.le_refl _)
  have eR : Ip.printed IE r = (Ip.more IE r1.length [G] r1).map fun z => (Fl.node 17 [] z.1, z.2) := by unfold Ip.printed; rw [hI]; rfl
  rw [eR]
  generalize printL ts E (ts.length + 1) (E st).1 [(E st).2] = Q at *
  cases hM : Ip.more IE r1.length [G] r1 with
  | none =>
   rw [hM] at h2
   refine Agr1.none' rfl ?_
   have h2' : Q.1.bad = true := h2
   unfold printEnd
   split
   ·exact put_badT rfl
   ·exact put_badT h2'
  | some p =>
   obtain ⟨z, r2⟩ := p
   rw [hM] at h2
   obtain ⟨h3, h4⟩ := h2
   have en : Fl.node 17 [] z o.length = Fl.all z o.length ++ [nd ((17 : Nat) : Int) [] (Fl.ids z o.length)] := rfl
   cases hb : Q.1.bad with
   | true =>
    refine Agr1.bad ?_ (fun G' r' e => ?_)
    ·unfold printEnd
     split
     ·exact put_badT rfl
     ·exact put_badT hb
    ·simp only [Option.map_some, Option.some.injEq, Prod.mk.injEq] at e
     obtain ⟨rfl, -⟩ := e
     rw [en, ← List.append_assoc]
     rcases h3 with ⟨-, hw⟩ | ⟨hb2, -⟩
     ·exact hw.more _
     ·rw [hb] at hb2; cases hb2
   | false =>
    have hq := h4 hb
    by_cases h5 : 4 < Q.2.length
    ·refine Agr1.bad ?_ (fun G' r' e => ?_)
     ·unfold printEnd
      rw [if_pos h5]
      exact put_badT rfl
     ·simp only [Option.map_some, Option.some.injEq, Prod.mk.injEq] at e
      obtain ⟨rfl, -⟩ := e
      rw [en, ← List.append_assoc]
      refine wrong_many ?_
      rw [← hq]
      exact h5
    ·have h6 := h3.put (p := nd 17 [] Q.2) (p' := nd ((17 : Nat) : Int) [] (Fl.ids z o.length)) (fun _ => by rw [hq]; rfl)
     rw [← en] at h6
     refine Agr1.some' (G := Fl.node 17 [] z) (r := r2) rfl ?_ ?_
     ·unfold printEnd
      rw [if_neg h5]
      exact h6.1
     ·unfold printEnd
      rw [if_neg h5]
      exact h6.2
theorem ends_drop (a : Nat) : ts.drop (a + Pr.ends ts a) = Rx.ends (ts.drop a) := by
 unfold Pr.ends
 rw [← List.drop_drop]
 generalize ts.drop a = us
 induction us with
 | nil => rfl
 | cons t r ih =>
  have e : Pr.isEnd t = Rx.is (t :: r) 6 [59] := rfl
  rw [List.takeWhile_cons, e]
  cases hi : Rx.is (t :: r) 6 [59] with
  | true =>
   have e2 : Rx.ends (t :: r) = Rx.ends r := by rw [Rx.ends, if_pos hi]
   rw [e2]
   simpa using ih
  | false =>
   have e2 : Rx.ends (t :: r) = t :: r := by rw [Rx.ends, if_neg (by rw [hi]; decide)]
   rw [e2]
   rfl
theorem Okk.ends (h : Okk ts o X r st) : Okk ts o X (Rx.ends r) (st.ends ts) := by
 rcases h with ⟨hb, hw⟩ | ⟨hb, ho, hr, ha⟩
 ·refine .inl ⟨hb, hw⟩
 ·refine .inr ⟨hb, ho, ?_, ?_⟩
  ·show ts.drop (st.a + st.endsN ts) = _
   unfold PS.endsN
   rw [hb, if_neg (by decide), ends_drop, hr]
  ·show st.a + st.endsN ts ≤ ts.length
   unfold PS.endsN
   rw [hb, if_neg (by decide)]
   unfold Pr.ends
   have := (List.takeWhile_prefix (l := ts.drop st.a) Pr.isEnd).length_le
   rw [List.length_drop] at this
   omega
end
end Pr
end PartRsW
section PartRsX
namespace Pr
section
variable {ts : List Tk.Tok} {m : Nat} {o X : List Pi} {r : List Tk.Tok} {st : PS}
theorem behind_bad (h : st.bad = true) : (behind ts st).bad = true := by
 unfold behind
 split
 ·rfl
 ·exact h
theorem rxends_no {us : List Tk.Tok} (h : Rx.is us 6 [59] = false) : Rx.ends us = us := by
 cases us with
 | nil => rfl
 | cons t r => rw [Rx.ends, if_neg (by rw [h]; decide)]
theorem endsN_is (hb : st.bad = false) : (st.endsN ts = 0) ↔ Rx.is (ts.drop st.a) 6 [59] = false := by
 unfold PS.endsN Pr.ends
 rw [hb, if_neg (by decide)]
 cases h : ts.drop st.a with
 | nil => simp [Rx.is]
 | cons t r =>
  have e : Pr.isEnd t = Rx.is (t :: r) 6 [59] := rfl
  rw [List.takeWhile_cons, e]
  cases hi : Rx.is (t :: r) 6 [59] with
  | true => simp
  | false => simp
theorem sign_not_end {us : List Tk.Tok} (h : Rx.is us 5 [125] = true) : Rx.is us 6 [59] = false := by
 cases us with
 | nil => rfl
 | cons t r =>
  simp only [Rx.is, Bool.and_eq_true, decide_eq_true_eq] at h
  simp only [Rx.is, Bool.and_eq_false_iff, decide_eq_false_iff_not]
  exact .inl (by omega)
theorem Okk.behind1 {us : List Tk.Tok} (h : Okk ts o X us st) (hi : Rx.is us 5 [125] = true) : Okk ts o X us (behind ts st) := by
 have he := h.ends
 rw [rxends_no (sign_not_end hi)] at he
 cases hb : st.bad with
 | true =>
  rcases h with ⟨-, hw⟩ | ⟨hb2, -⟩
  ·exact .inl ⟨behind_bad hb, hw⟩
  ·rw [hb] at hb2; cases hb2
 | false =>
  have hn : (st.ends ts).is ts 5 [125] = true := by
   rcases he with ⟨hb2, -⟩ | ⟨hg, -, hr, -⟩
   ·have : st.bad = true := hb2
    rw [hb] at this; cases this
   ·rw [is_drop hg, hr]; exact hi
  unfold behind
  rw [if_neg (fun e => by rw [hn] at e; cases e.2)]
  exact he
theorem Okk.behind2 {us r2 : List Tk.Tok} (h : Okk ts o X us st) (hw : Ip.want 6 [59] us = some r2) : Okk ts o X (Rx.ends r2) (behind ts st) := by
 obtain ⟨t, e, hi⟩ := want_some hw
 have he := h.ends
 have e2 : Rx.ends us = Rx.ends r2 := by rw [e] at hi ⊢; rw [Rx.ends, if_pos hi]
 rw [e2] at he
 cases hb : st.bad with
 | true =>
  rcases h with ⟨-, hw⟩ | ⟨hb2, -⟩
  ·exact .inl ⟨behind_bad hb, hw⟩
  ·rw [hb] at hb2; cases hb2
 | false =>
  have hr : ts.drop st.a = us := by
   rcases h with ⟨hb2, -⟩ | ⟨-, -, hr, -⟩
   ·rw [hb] at hb2; cases hb2
   ·exact hr
  unfold behind
  rw [if_neg (fun e => by
   have := (endsN_is hb).1 e.1
   rw [hr, hi] at this
   cases this)]
  exact he
theorem Okk.behind3 {us : List Tk.Tok} (h : Okk ts o X us st) (hi : Rx.is us 5 [125] = false) (hw : Ip.want 6 [59] us = none) : (behind ts st).bad = true := by
 cases hb : st.bad with
 | true => exact behind_bad hb
 | false =>
  have he := h.ends
  rw [rxends_no (want_none hw)] at he
  have hr : ts.drop st.a = us := by
   rcases h with ⟨hb2, -⟩ | ⟨-, -, hr, -⟩
   ·rw [hb] at hb2; cases hb2
   ·exact hr
  have hn : (st.ends ts).is ts 5 [125] = false := by
   rcases he with ⟨hb2, -⟩ | ⟨hg, -, hr2, -⟩
   ·exact is_bad hb2
   ·rw [is_drop hg, hr2]; exact hi
  unfold behind
  rw [if_pos ⟨(endsN_is hb).2 (by rw [hr]; exact want_none hw), hn⟩]
  rfl
theorem blockL_ext {S : Ip.Rd} : ∀ (f : Nat) (Gs : List (Nat → List Pi)) (us : List Tk.Tok) (z : List (Nat → List Pi)) (r : List Tk.Tok) (n : Nat), Ip.blockL S f Gs us = some (z, r) → ∃ Y, Fl.all z n = Fl.all Gs n ++ Y
 | 0, Gs, us, z, r, n, e => by cases e
 | f + 1, Gs, us, z, r, n, e => by
  simp only [Ip.blockL] at e
  split at e
  ·simp only [Option.some.injEq, Prod.mk.injEq] at e
   obtain ⟨rfl, rfl⟩ := e
   exact ⟨[], by simp⟩
  ·simp only [Option.bind_eq_some_iff] at e
   obtain ⟨q, -, h2⟩ := e
   split at h2
   ·obtain ⟨Y, hY⟩ := blockL_ext f _ _ _ _ n h2
    exact ⟨q.1 (n + (Fl.all Gs n).length) ++ Y, by rw [hY, alls, List.append_assoc]⟩
   ·simp only [Option.bind_eq_some_iff] at h2
    obtain ⟨r2, -, h4⟩ := h2
    obtain ⟨Y, hY⟩ := blockL_ext f _ _ _ _ n h4
    exact ⟨q.1 (n + (Fl.all Gs n).length) ++ Y, by rw [hY, alls, List.append_assoc]⟩
theorem blockL_agr {T : Rf} {IT : Ip.Rd} (hT : Fn ts m T) (aT : Agr ts T IT) (hS : Ip.Shs IT) :
  ∀ (f2 f1 : Nat) (st : PS) (ks : List Int) (Gs : List (Nat → List Pi)) (us : List Tk.Tok), Okk ts o (Fl.all Gs o.length) us st → (st.bad = false → ks = Fl.ids Gs o.length) → us.length + 1 ≤ f1 → us.length + 1 ≤ f2 →
   match Ip.blockL IT f2 Gs us with
   | none => ((blockL ts T f1 st ks).1.want ts [125]).bad = true
   | some (z, r) => Okk ts o (Fl.all z o.length) r ((blockL ts T f1 st ks).1.want ts [125]) ∧ (((blockL ts T f1 st ks).1.want ts [125]).bad = false → (blockL ts T f1 st ks).2 = Fl.ids z o.length) := by
 intro f2
 induction f2 with
 | zero => intro f1 st ks Gs us h hk h1 h2; omega
 | succ f2 ih =>
  intro f1 st ks Gs us h hk h1 h2
  obtain ⟨f1, rfl⟩ : ∃ f', f1 = f' + 1 := ⟨f1 - 1, by omega⟩
  cases hb : st.bad with
  | true =>
   rw [blockL_end (f1 + 1) ks (.inl hb)]
   simp only [want_bad hb]
   cases hM : Ip.blockL IT (f2 + 1) Gs us with
   | none => exact hb
   | some q =>
    obtain ⟨z, r⟩ := q
    obtain ⟨Y, hY⟩ := blockL_ext _ _ _ _ _ o.length hM
    refine ⟨.inl ⟨hb, ?_⟩, fun h3 => by rw [hb] at h3; cases h3⟩
    rw [hY, ← List.append_assoc]
    rcases h with ⟨-, hw⟩ | ⟨hb2, -⟩
    ·exact hw.more _
    ·rw [hb] at hb2; cases hb2
  | false =>
   cases w : Ip.want 5 [125] us with
   | some r1 =>
    have e1 := (h.go hb w).1
    rw [blockL_end (f1 + 1) ks (.inr e1)]
    have eM : Ip.blockL IT (f2 + 1) Gs us = some (Gs, r1) := by rw [Ip.blockL, w]
    rw [eM]
    exact ⟨h.want w, fun h3 => hk (wantGood h3)⟩
   | none =>
    rw [blockL_go f1 ks hb (h.isn w)]
    have eM : Ip.blockL IT (f2 + 1) Gs us = (IT us).bind fun q => if Rx.is q.2 5 [125] = true then Ip.blockL IT f2 (Gs ++ [q.1]) q.2 else (Ip.want 6 [59] q.2).bind fun r2 => Ip.blockL IT f2 (Gs ++ [q.1]) (Rx.ends r2) := by rw [Ip.blockL, w]
    rw [eM]
    have h3 := h.then hT aT
    have stop : ∀ s : PS, s.bad = true → ((blockL ts T f1 s (ks ++ [(T st).2])).1.want ts [125]).bad = true := fun s hs => by
     rw [blockL_end f1 _ (.inl hs)]
     show (s.want ts [125]).bad = true
     rw [want_bad hs]
     exact hs
    cases hI : IT us with
    | none =>
     rw [hI] at h3
     exact stop _ (behind_bad h3)
    | some p =>
     obtain ⟨H, r2⟩ := p
     rw [hI] at h3
     have h3' : Okk ts o (Fl.all Gs o.length ++ H (o.length + (Fl.all Gs o.length).length)) r2 (T st).1 ∧ ((T st).1.bad = false → (T st).2 = last o (Fl.all Gs o.length ++ H (o.length + (Fl.all Gs o.length).length))) := h3
     clear h3
     rw [← alls] at h3'
     have hs := hS _ _ _ hI
     have hks : (behind ts (T st).1).bad = false → ks ++ [(T st).2] = Fl.ids (Gs ++ [H]) o.length := fun hg => by
      have hgt : (T st).1.bad = false := by
       cases hx : (T st).1.bad with
       | false => rfl
       | true => rw [behind_bad hx] at hg; cases hg
      rw [hk hb, h3'.2 hgt, alls, ids_last]
     cases hi : Rx.is r2 5 [125] with
     | true =>
      simp only [Option.bind_some, hi, if_true]
      exact ih f1 _ _ (Gs ++ [H]) r2 (h3'.1.behind1 hi) hks (by omega) (by omega)
     | false =>
      simp only [Option.bind_some, hi, Bool.false_eq_true, if_false]
      cases w6 : Ip.want 6 [59] r2 with
      | none => exact stop _ (h3'.1.behind3 hi w6)
      | some r3 =>
       have hl3 := wlen w6
       have hle : (Rx.ends r3).length ≤ r3.length := Rx.ends_len r3
       exact ih f1 _ _ (Gs ++ [H]) (Rx.ends r3) (h3'.1.behind2 w6) hks (by omega) (by omega)
theorem block_agr {T : Rf} {IT : Ip.Rd} (hT : Fn ts m T) (aT : Agr ts T IT) (hS : Ip.Shs IT) (h : Okk ts o [] r st) (hr : r.length ≤ ts.length) : Agr1 ts o (Ip.block IT r) (block ts T st) := by
 unfold block
 have endBad : ∀ q : PS × List Int, (q.1.want ts [125]).bad = true → (blockEnd ts q).1.bad = true := fun q hq => by
  unfold blockEnd
  split
  ·exact put_badT rfl
  ·exact put_badT hq
 cases w : Ip.want 5 [123] r with
 | none =>
  have hb : ((st.want ts [123]).ends ts).bad = true := h.want_no w
  refine Agr1.none' (by unfold Ip.block; rw [w]; rfl) (endBad _ ?_)
  rw [blockL_end _ _ (.inl hb)]
  show (((st.want ts [123]).ends ts).want ts [125]).bad = true
  rw [want_bad hb]
  exact hb
 | some r1 =>
  have hl := wlen w
  have hle : (Rx.ends r1).length ≤ r1.length := Rx.ends_len r1
  have h1 := (h.want w).ends
  have h2 := blockL_agr hT aT hS (r1.length + 1) (ts.length + 1) ((st.want ts [123]).ends ts) [] [] (Rx.ends r1) h1 (fun _ => rfl) (by omega) (by omega)
  have eR : Ip.block IT r = (Ip.blockL IT (r1.length + 1) [] (Rx.ends r1)).map fun z => (Fl.node 24 [] z.1, z.2) := by unfold Ip.block; rw [w]; rfl
  rw [eR]
  generalize blockL ts T (ts.length + 1) ((st.want ts [123]).ends ts) [] = Q at *
  cases hM : Ip.blockL IT (r1.length + 1) [] (Rx.ends r1) with
  | none =>
   rw [hM] at h2
   exact Agr1.none' rfl (endBad Q h2)
  | some p =>
   obtain ⟨z, r2⟩ := p
   rw [hM] at h2
   obtain ⟨h3, h4⟩ := h2
   have en : Fl.node 24 [] z o.length = Fl.all z o.length ++ [nd ((24 : Nat) : Int) [] (Fl.ids z o.length)] := rfl
   cases hb : (Q.1.want ts [125]).bad with
   | true =>
    refine Agr1.bad (endBad Q hb) (fun G' r' e => ?_)
    simp only [Option.map_some, Option.some.injEq, Prod.mk.injEq] at e
    obtain ⟨rfl, -⟩ := e
    rw [en, ← List.append_assoc]
    rcases h3 with ⟨-, hw⟩ | ⟨hb2, -⟩
    ·exact hw.more _
    ·rw [hb] at hb2; cases hb2
   | false =>
    have hq := h4 hb
    by_cases h5 : 20 < Q.2.length
    ·refine Agr1.bad ?_ (fun G' r' e => ?_)
     ·unfold blockEnd
      rw [if_pos h5]
      exact put_badT rfl
     ·simp only [Option.map_some, Option.some.injEq, Prod.mk.injEq] at e
      obtain ⟨rfl, -⟩ := e
      rw [en, ← List.append_assoc]
      refine wrong_many ?_
      rw [← hq]
      exact h5
    ·have h6 := h3.put (p := nd 24 [] Q.2) (p' := nd ((24 : Nat) : Int) [] (Fl.ids z o.length)) (fun _ => by rw [hq]; rfl)
     rw [← en] at h6
     refine Agr1.some' (G := Fl.node 24 [] z) (r := r2) rfl ?_ ?_
     ·unfold blockEnd
      rw [if_neg h5]
      exact h6.1
     ·unfold blockEnd
      rw [if_neg h5]
      exact h6.2
end
end Pr
end PartRsX
section PartRsY
namespace Pr
section
variable {ts : List Tk.Tok} {m : Nat} {o X : List Pi} {r : List Tk.Tok} {st : PS}
theorem is_none {us : List Tk.Tok} {k : Nat} {x : List UInt8} (h : Rx.is us k x = false) : Ip.want k x us = none := by
 cases us with
 | nil => rfl
 | cons t r => simp only [Ip.want]; rw [if_neg (by rw [h]; decide)]
theorem is_one {us : List Tk.Tok} {x y : List UInt8} (h : Rx.is us 1 x = true) (hn : x ≠ y) : Ip.want 1 y us = none := by
 apply is_none
 cases us with
 | nil => rfl
 | cons t r =>
  simp only [Rx.is, Bool.and_eq_true, decide_eq_true_eq] at h
  simp only [Rx.is, Bool.and_eq_false_iff, decide_eq_false_iff_not]
  exact .inr (fun e => hn (h.2.symm.trans e))
theorem is_word {us : List Tk.Tok} {x y : List UInt8} (h : Rx.is us 1 x = true) : Rx.is us 5 y = false := by
 cases us with
 | nil => rfl
 | cons t r =>
  simp only [Rx.is, Bool.and_eq_true, decide_eq_true_eq] at h
  simp only [Rx.is, Bool.and_eq_false_iff, decide_eq_false_iff_not]
  exact .inl (by omega)
theorem ifL_stHere {B P U S Z : Ip.Rd} : IfL (Ip.stHere B P (Ip.choice U S) Z) := by
 intro us G r n hi e
 unfold Ip.stHere at e
 rw [if_neg (by rw [is_word hi]; decide), is_one hi (by decide), is_one hi (by decide), is_one hi (by decide)] at e
 simp only at e
 split at e
 ·unfold Ip.choice at e
  simp only [Option.bind_eq_some_iff] at e
  obtain ⟨r1, -, k, -, a, -, e⟩ := e
  split at e
  ·simp only [Option.some.injEq, Prod.mk.injEq] at e
   obtain ⟨rfl, -⟩ := e
   exact ⟨_, _, rfl, rfl⟩
  ·simp only [Option.map_eq_some_iff, Prod.mk.injEq] at e
   obtain ⟨b, -, rfl, -⟩ := e
   exact ⟨_, _, rfl, rfl⟩
 ·rename_i hw
  have := want_none hw
  rw [hi] at this
  cases this
theorem statement_agr {E T : Rf} {IE IT : Ip.Rd} (hE : Fn ts m E) (hT : Fn ts m T) (aE : Agr ts E IE) (aT : Agr ts T IT) (hN : Nm ts) (hne : Ip.Ne IE) (sE : Ip.Shr IE) (sT : Ip.Shs IT) (hif : IfL IT) : Agr ts (statementOne ts E T) (Ip.stHere (Ip.block IT) (Ip.printed IE) (Ip.choice (Ip.upTo IE [41]) IT) (Ip.setting IE (Ip.upTo IE [93]))) := by
 intro st hb ha
 have ok0 := Okk.start hb ha
 have hdl : (ts.drop st.a).length ≤ ts.length := by simp
 cases hd : ts.drop st.a with
 | nil =>
  have hov : st.over ts = true := by
   have := dropN hd
   simp [PS.over]
   omega
  refine Agr1.none' (by simp [Ip.stHere, Rx.is, want_nil, Ip.setting]) ?_
  unfold statementOne
  rw [if_pos hov]
  rfl
 | cons t r =>
  obtain ⟨c1, c2, c3⟩ := dropC hd
  have htk : st.tok ts = t := c2
  have hmem : t ∈ ts := by rw [← c2]; simp [List.getD_eq_getElem?_getD, c1]
  have hov : st.over ts = false := by simp [PS.over, hb]; omega
  rw [hd] at ok0 hdl
  have hrl : r.length ≤ ts.length := by simp only [List.length_cons] at hdl; omega
  have okg : Okk ts st.out [] r st.go := .inr ⟨hb, by rw [List.append_nil]; rfl, c3, c1⟩
  have hgb : st.go.bad = false := hb
  cases i0 : Rx.is (t :: r) 5 [123] with
  | true =>
   have e0 : st.is ts 5 [123] = true := by rw [is_drop hb, hd]; exact i0
   have eq : statementOne ts E T st = block ts T st := by unfold statementOne; rw [hov, e0]; simp
   rw [eq]
   have eR : Ip.stHere (Ip.block IT) (Ip.printed IE) (Ip.choice (Ip.upTo IE [41]) IT) (Ip.setting IE (Ip.upTo IE [93])) (t :: r) = Ip.block IT (t :: r) := by unfold Ip.stHere; rw [if_pos i0]
   rw [eR]
   exact block_agr hT aT sT ok0 hdl
  | false =>
   have n0 : st.is ts 5 [123] = false := by rw [is_drop hb, hd]; exact i0
   have eR0 : Ip.stHere (Ip.block IT) (Ip.printed IE) (Ip.choice (Ip.upTo IE [41]) IT) (Ip.setting IE (Ip.upTo IE [93])) (t :: r) = (match Ip.want 1 [112, 114, 105, 110, 116] (t :: r) with
     | some r => Ip.printed IE r
     | none => match Ip.want 1 [110, 101, 120, 116] (t :: r) with
      | some r => some (Fl.node 23 [] [], r)
      | none => match Ip.want 1 [100, 117, 109, 112] (t :: r) with
       | some r => Ip.dumpOf r
       | none => match Ip.want 1 [105, 102] (t :: r) with
        | some r => Ip.choice (Ip.upTo IE [41]) IT r
        | none => Ip.setting IE (Ip.upTo IE [93]) (t :: r)) := by unfold Ip.stHere; rw [if_neg (by rw [i0]; decide)]; rfl
   rw [eR0]
   cases w1 : Ip.want 1 [112, 114, 105, 110, 116] (t :: r) with
   | some r1 =>
    obtain ⟨rfl, -⟩ := want_rest w1
    have e1 := (ok0.go hb w1).1
    have eq : statementOne ts E T st = print ts E st.go := by unfold statementOne; rw [hov, n0, e1]; simp
    rw [eq]
    exact print_agr hE aE sE okg hrl
   | none =>
    have n1 := ok0.isn w1
    cases w2 : Ip.want 1 [110, 101, 120, 116] (t :: r) with
    | some r1 =>
     obtain ⟨rfl, -⟩ := want_rest w2
     have e2 := (ok0.go hb w2).1
     have eq : statementOne ts E T st = st.go.put (nd 23 [] []) := by unfold statementOne; rw [hov, n0, n1, e2]; simp
     rw [eq]
     have h2 := okg.put (p := nd 23 [] []) (p' := nd ((23 : Nat) : Int) [] []) (fun _ => rfl)
     rw [List.nil_append, ← node0 23 [] st.out.length] at h2
     exact Agr1.some' (G := Fl.node 23 [] []) (r := r1) rfl h2.1 h2.2
    | none =>
     have n2 := ok0.isn w2
     cases w3 : Ip.want 1 [100, 117, 109, 112] (t :: r) with
     | some r1 =>
      obtain ⟨rfl, hk, hx⟩ := want_rest w3
      have e3 := (ok0.go hb w3).1
      have n4 : st.is ts 1 [105, 102] = false := ok0.isn (is_one (x := [100, 117, 109, 112]) (by simp [Rx.is, hk, hx]) (by decide) : Ip.want 1 [105, 102] (t :: r1) = none)
      show Agr1 ts st.out (Ip.dumpOf r1) _
      cases r1 with
      | nil =>
       have hl := dropN c3
       have eq : statementOne ts E T st = (st.go.fail, 0) := by
        unfold statementOne
        rw [hov, n0, n1, n2, n4, e3, if_pos (show ts.length ≤ st.go.a ∨ _ from .inl hl)]
        simp
       rw [eq]
       exact Agr1.none' rfl rfl
      | cons t2 r2 =>
       obtain ⟨d1, d2, d3⟩ := dropC c3
       have htk2 : st.go.tok ts = t2 := d2
       have hmem2 : t2 ∈ ts := by rw [← d2]; simp [List.getD_eq_getElem?_getD, d1]
       by_cases hk2 : t2.kind = 1 ∧ Pg.words.contains t2.text = false
       ·have hnm := hN t2 hmem2 hk2.1 hk2.2
        have hla : ¬ ts.length ≤ st.go.a := by show ¬ ts.length ≤ st.a + 1; omega
        have eq : statementOne ts E T st = st.go.go.put (nd 25 t2.text []) := by
         unfold statementOne
         rw [hov, n0, n1, n2, n4, e3, htk2, if_neg (show ¬ (ts.length ≤ st.go.a ∨ t2.kind ≠ 1 ∨ Pg.name t2.text = false) from fun e => by
          rcases e with e | e | e
          ·exact hla e
          ·exact e hk2.1
          ·rw [hnm] at e; cases e)]
         simp
        rw [eq]
        have okgg : Okk ts st.out [] r2 st.go.go := .inr ⟨hb, by rw [List.append_nil]; rfl, d3, d1⟩
        have h2 := okgg.put (p := nd 25 t2.text []) (p' := nd ((25 : Nat) : Int) t2.text []) (fun _ => rfl)
        rw [List.nil_append, ← node0 25 t2.text st.out.length] at h2
        exact Agr1.some' (G := Fl.node 25 t2.text []) (r := r2) (by simp only [Ip.dumpOf]; rw [if_pos hk2]) h2.1 h2.2
       ·have eq : statementOne ts E T st = (st.go.fail, 0) := by
         unfold statementOne
         rw [hov, n0, n1, n2, n4, e3, htk2, if_pos (show ts.length ≤ st.go.a ∨ t2.kind ≠ 1 ∨ Pg.name t2.text = false from by
          by_cases hq : t2.kind = 1
          ·refine .inr (.inr ?_)
           have hc : Pg.words.contains t2.text = true := by
            cases hw : Pg.words.contains t2.text with
            | true => rfl
            | false => exact absurd ⟨hq, hw⟩ hk2
           unfold Pg.name
           rw [hc]
           rfl
          ·exact .inr (.inl hq))]
         simp
        rw [eq]
        exact Agr1.none' (by simp only [Ip.dumpOf]; rw [if_neg hk2]) rfl
     | none =>
      have n3 := ok0.isn w3
      cases w4 : Ip.want 1 [105, 102] (t :: r) with
      | some r1 =>
       obtain ⟨rfl, -⟩ := want_rest w4
       have e4 := (ok0.go hb w4).1
       have eq : statementOne ts E T st = choice ts E T st.go := by unfold statementOne; rw [hov, n0, n1, n2, e4]; simp
       rw [eq]
       exact choice_agr hE hT aE aT hif okg
      | none =>
       have n4 := ok0.isn w4
       show Agr1 ts st.out (Ip.setting IE (Ip.upTo IE [93]) (t :: r)) _
       by_cases hk : t.kind = 1 ∧ Pg.words.contains t.text = false
       ·have hnm := hN t hmem hk.1 hk.2
        have eq : statementOne ts E T st = setOne ts E t.text st.go := by
         unfold statementOne
         rw [hov, n0, n1, n2, n3, n4, htk, if_pos (show t.kind = 1 ∧ Pg.name t.text = true from ⟨hk.1, hnm⟩)]
         simp
        rw [eq]
        have eR : Ip.setting IE (Ip.upTo IE [93]) (t :: r) = Ip.settingOf IE (Ip.upTo IE [93]) t.text r := by simp only [Ip.setting]; rw [if_pos hk]
        rw [eR]
        exact setOne_agr hE aE hne t.text hgb okg
       ·have hno : ¬ (t.kind = 1 ∧ Pg.name t.text = true) := fun e => hk ⟨e.1, by
         have := e.2
         unfold Pg.name at this
         simp only [Bool.and_eq_true, Bool.not_eq_true'] at this
         exact this.1.1⟩
        have eq : statementOne ts E T st = (st.fail, 0) := by
         unfold statementOne
         rw [hov, n0, n1, n2, n3, n4, htk, if_neg hno]
         simp
        rw [eq]
        exact Agr1.none' (by simp only [Ip.setting]; rw [if_neg hk]) rfl
theorem T_agr (ht : Tsm ts) (hl : ts.length ≤ 200) (hN : Nm ts) : ∀ n, Agr ts (T ts n) (Ip.ST n) ∧ IfL (Ip.ST n)
 | 0 => ⟨fun st _ _ => rfl, (fun _ _ _ _ _ e => nomatch e)⟩
 | n + 1 => by
  obtain ⟨h1, h2⟩ := T_agr ht hl hN n
  have hT := fnT ht hl n
  have hE := (fnSE ht n).2
  exact ⟨statement_agr (hE.up (m' := 6 * n + 5) (by omega)) hT (SE_agr ht hN n).2 h1 hN (Ip.ne_SE n).2 (Ip.shr_SE n).2 (Ip.shs_ST n) h2, ifL_stHere⟩
end
end Pr
end PartRsY
section PartRtA
namespace Pr
section
variable {ts : List Tk.Tok} {m : Nat} {o X : List Pi} {r : List Tk.Tok} {st : PS}
theorem wrong_ok {ps : List Pi} (h : Wrong ps) (rs : List Pg.Rl) : Pg.ok ps rs = false := by
 unfold Pg.ok
 rcases h with h | ⟨i, hi, h⟩
 ·rw [decide_eq_false (by omega : ¬ ps.length ≤ 200)]
  rfl
 ·have : (List.range ps.length).all (Pg.node ps) = false := by
   cases hh : (List.range ps.length).all (Pg.node ps) with
   | false => rfl
   | true =>
    have := List.all_eq_true.1 hh i (List.mem_range.2 hi)
    rw [h] at this
    cases this
  rw [this, Bool.and_false, Bool.false_and]
theorem Okk.whole (h : Okk ts o X r st) : Okk ts [] (o ++ X) r st := h
theorem block_badT {T : Rf} (h : st.bad = true) : (block ts T st).1.bad = true := block_bad (is_bad h)
theorem Okk.thenBlock {T : Rf} {IT : Ip.Rd} (hT : Fn ts m T) (aT : Agr ts T IT) (hS : Ip.Shs IT) (h : Okk ts o X r st) :
  match Ip.block IT r with
  | none => (block ts T st).1.bad = true
  | some (G, r') => Okk ts o (X ++ G (o.length + X.length)) r' (block ts T st).1 ∧ ((block ts T st).1.bad = false → (block ts T st).2 = last o (X ++ G (o.length + X.length))) := by
 rcases h with ⟨hb, hw⟩ | ⟨hb, ho, hr, ha⟩
 ·cases hI : Ip.block IT r with
  | none => exact block_badT hb
  | some q =>
   obtain ⟨G, r'⟩ := q
   exact ⟨.inl ⟨block_badT hb, by rw [← List.append_assoc]; exact hw.more _⟩, fun h2 => by rw [block_badT hb] at h2; cases h2⟩
 ·have h1 := block_agr hT aT hS (Okk.start (ts := ts) hb ha) (by simp)
  rw [hr] at h1
  cases hI : Ip.block IT r with
  | none => rw [hI] at h1; exact h1
  | some q =>
   obtain ⟨G, r'⟩ := q
   rw [hI] at h1
   obtain ⟨h2, h3⟩ := h1
   have hl : st.out.length = o.length + X.length := by rw [ho, List.length_append]
   have e1 : st.out ++ G st.out.length = o ++ (X ++ G (o.length + X.length)) := by rw [hl, ho, List.append_assoc]
   refine ⟨?_, fun h4 => ?_⟩
   ·rcases h2 with ⟨a, b⟩ | ⟨a, b, c, d⟩
    ·exact .inl ⟨a, by rw [← e1]; exact b⟩
    ·exact .inr ⟨a, by rw [← e1]; exact b, c, d⟩
   ·rw [h3 h4]
    unfold last
    rw [hl, List.length_append]
    omega
theorem rule_agr (ht : Tsm ts) (hl : ts.length ≤ 200) (hN : Nm ts) (hb : st.bad = false) (ha : st.a ≤ ts.length) (q : List Pi × List Pg.Rl) (hq : st.out = q.1) :
  match Ip.rule (Ip.SE 30).2 (Ip.block (Ip.ST 30)) (ts.drop st.a) with
  | none => (block ts (T ts 30) (ruleHead ts st).1).1.bad = true
  | some (p, r2) => Okk ts [] (Fl.one q p).1 r2 (block ts (T ts 30) (ruleHead ts st).1).1 ∧ ((block ts (T ts 30) (ruleHead ts st).1).1.bad = false → q.2 ++ [⟨(ruleHead ts st).2.1, (ruleHead ts st).2.2, (block ts (T ts 30) (ruleHead ts st).1).2⟩] = (Fl.one q p).2) := by
 have hT := fnT ht hl 30
 have aT := (T_agr ht hl hN 30).1
 have hS := Ip.shs_ST 30
 have ok0 := Okk.start hb ha
 have plain : ∀ (w : Nat) (s : PS) (r1 : List Tk.Tok) (R : Option (Ru.P × List Tk.Tok)), Okk ts st.out [] r1 s → ruleHead ts st = (s, (w : Int), -1) → R = ((Ip.block (Ip.ST 30) r1).map fun z => ((w, none, z.1), z.2)) →
   match R with
   | none => (block ts (T ts 30) (ruleHead ts st).1).1.bad = true
   | some (p, r2) => Okk ts [] (Fl.one q p).1 r2 (block ts (T ts 30) (ruleHead ts st).1).1 ∧ ((block ts (T ts 30) (ruleHead ts st).1).1.bad = false → q.2 ++ [⟨(ruleHead ts st).2.1, (ruleHead ts st).2.2, (block ts (T ts 30) (ruleHead ts st).1).2⟩] = (Fl.one q p).2) := by
  intro w s r1 R h e eR
  rw [e]
  have h1 := h.thenBlock hT aT hS
  cases hI : Ip.block (Ip.ST 30) r1 with
  | none =>
   rw [hI] at h1
   rw [eR, hI]
   exact h1
  | some z =>
   obtain ⟨D, r2⟩ := z
   rw [hI] at h1
   simp only [List.nil_append, List.length_nil, Nat.add_zero] at h1
   rw [eR, hI]
   rw [hq] at h1
   refine ⟨h1.1.whole, fun hg => ?_⟩
   show q.2 ++ [⟨(w : Int), -1, (block ts (T ts 30) s).2⟩] = q.2 ++ [⟨(w : Int), -1, _⟩]
   rw [h1.2 hg]
   rfl
 unfold Ip.rule
 cases w1 : Ip.want 1 [66, 69, 71, 73, 78] (ts.drop st.a) with
 | some r1 =>
  obtain ⟨g1, g2, g3⟩ := ok0.go hb w1
  exact plain 1 st.go r1 _ g2 (by unfold ruleHead; rw [if_pos g1]; rfl) rfl
 | none =>
  have n1 := ok0.isn w1
  cases w2 : Ip.want 1 [69, 78, 68] (ts.drop st.a) with
  | some r1 =>
   obtain ⟨g1, g2, g3⟩ := ok0.go hb w2
   exact plain 3 st.go r1 _ g2 (by unfold ruleHead; rw [if_neg (by rw [n1]; decide), if_pos g1]; rfl) rfl
  | none =>
   have n2 := ok0.isn w2
   cases i0 : Rx.is (ts.drop st.a) 5 [123] with
   | true =>
    have e0 : st.is ts 5 [123] = true := by rw [is_drop hb]; exact i0
    exact plain 2 st (ts.drop st.a) _ ok0 (by unfold ruleHead; rw [if_neg (by rw [n1]; decide), if_neg (by rw [n2]; decide), if_pos e0]; rfl) (by simp)
   | false =>
    have e0 : st.is ts 5 [123] = false := by rw [is_drop hb]; exact i0
    have hE := (fnSE ht 30).2
    have aE := (SE_agr ht hN 30).2
    have eH : ruleHead ts st = (((SE ts 30).2 st).1, 2, ((SE ts 30).2 st).2) := by unfold ruleHead; rw [if_neg (by rw [n1]; decide), if_neg (by rw [n2]; decide), if_neg (by rw [e0]; decide)]
    rw [eH]
    have h1 := ok0.then hE aE
    simp only [Bool.false_eq_true, if_false]
    cases hI : (Ip.SE 30).2 (ts.drop st.a) with
    | none =>
     rw [hI] at h1
     exact block_badT h1
    | some k =>
     obtain ⟨G, r1⟩ := k
     rw [hI] at h1
     simp only [List.nil_append, List.length_nil, Nat.add_zero] at h1
     have h2 := h1.1.thenBlock hT aT hS
     simp only [Option.bind_some]
     cases hB : Ip.block (Ip.ST 30) r1 with
     | none =>
      rw [hB] at h2
      exact h2
     | some z =>
      obtain ⟨D, r2⟩ := z
      rw [hB] at h2
      have hgood : (block ts (T ts 30) ((SE ts 30).2 st).1).1.bad = false → ((SE ts 30).2 st).1.bad = false := fun hg => by
       cases hx : ((SE ts 30).2 st).1.bad with
       | false => rfl
       | true => rw [block_badT hx] at hg; cases hg
      obtain ⟨h2a, h2b⟩ := h2
      obtain ⟨h1a, h1b⟩ := h1
      rw [hq] at h2a h2b h1b
      refine ⟨?_, fun hg => ?_⟩
      ·have := h2a.whole
       rw [← List.append_assoc] at this
       exact this
      ·show q.2 ++ [⟨2, ((SE ts 30).2 st).2, (block ts (T ts 30) ((SE ts 30).2 st).1).2⟩] = q.2 ++ [⟨((2 : Nat) : Int), _, _⟩]
       rw [h1b (hgood hg), h2b hg]
       unfold last
       simp only [List.length_append, Nat.add_assoc]
       rfl
theorem prog_snoc (ps : List Ru.P) (p : Ru.P) : Fl.prog (ps ++ [p]) = Fl.one (Fl.prog ps) p := by
 unfold Fl.prog
 rw [List.foldl_append]
 rfl
theorem one_ext (q : List Pi × List Pg.Rl) (p : Ru.P) : ∃ Y, (Fl.one q p).1 = q.1 ++ Y := by
 unfold Fl.one
 split
 ·exact ⟨_, rfl⟩
 ·exact ⟨_, by rw [List.append_assoc]⟩
theorem rulesL_ext {E B : Ip.Rd} : ∀ (f : Nat) (ps : List Ru.P) (us : List Tk.Tok) (z : List Ru.P), Ip.rulesL E B f ps us = some z → ∃ Y, (Fl.prog z).1 = (Fl.prog ps).1 ++ Y
 | 0, ps, us, z, e => by
  simp only [Ip.rulesL, Option.some.injEq] at e
  subst e
  exact ⟨[], by simp⟩
 | f + 1, ps, [], z, e => by
  simp only [Ip.rulesL, Option.some.injEq] at e
  subst e
  exact ⟨[], by simp⟩
 | f + 1, ps, t :: r, z, e => by
  simp only [Ip.rulesL, Option.bind_eq_some_iff] at e
  obtain ⟨q, -, h2⟩ := e
  obtain ⟨Y, hY⟩ := rulesL_ext f _ _ _ h2
  obtain ⟨Y2, hY2⟩ := one_ext (Fl.prog ps) q.1
  exact ⟨Y2 ++ Y, by rw [hY, prog_snoc, hY2, List.append_assoc]⟩
theorem rules_agr (ht : Tsm ts) (hl : ts.length ≤ 200) (hN : Nm ts) :
  ∀ (f2 f1 : Nat) (st : PS) (rs : List Pg.Rl) (ps : List Ru.P) (us : List Tk.Tok), Okk ts [] (Fl.prog ps).1 us st → (st.bad = false → rs = (Fl.prog ps).2) → us.length + 1 ≤ f1 → us.length ≤ f2 →
   match Ip.rulesL (Ip.SE 30).2 (Ip.block (Ip.ST 30)) f2 ps us with
   | none => (rulesL ts f1 st rs).1.bad = true
   | some z => Okk ts [] (Fl.prog z).1 [] (rulesL ts f1 st rs).1 ∧ ((rulesL ts f1 st rs).1.bad = false → (rulesL ts f1 st rs).2 = (Fl.prog z).2) := by
 intro f2
 induction f2 with
 | zero =>
  intro f1 st rs ps us h hk h1 h2
  have e : us = [] := List.length_eq_zero_iff.1 (by omega)
  subst e
  have hov : st.over ts = true := by
   rcases h with ⟨hb, -⟩ | ⟨hb, -, hr, -⟩
   ·exact over_bad hb
   ·have := dropN hr
    simp [PS.over]
    omega
  rw [rulesL_end f1 rs hov]
  exact ⟨h, hk⟩
 | succ f2 ih =>
  intro f1 st rs ps us h hk h1 h2
  obtain ⟨f1, rfl⟩ : ∃ f', f1 = f' + 1 := ⟨f1 - 1, by omega⟩
  cases hb : st.bad with
  | true =>
   rw [rulesL_end (f1 + 1) rs (over_bad hb)]
   cases hM : Ip.rulesL (Ip.SE 30).2 (Ip.block (Ip.ST 30)) (f2 + 1) ps us with
   | none => exact hb
   | some z =>
    obtain ⟨Y, hY⟩ := rulesL_ext _ _ _ _ hM
    refine ⟨.inl ⟨hb, ?_⟩, fun h3 => by rw [hb] at h3; cases h3⟩
    rw [hY, ← List.append_assoc]
    rcases h with ⟨-, hw⟩ | ⟨hb2, -⟩
    ·exact hw.more _
    ·rw [hb] at hb2; cases hb2
  | false =>
   obtain ⟨ho, hr, ha⟩ : st.out = (Fl.prog ps).1 ∧ ts.drop st.a = us ∧ st.a ≤ ts.length := by
    rcases h with ⟨hb2, -⟩ | ⟨-, ho, hr, ha⟩
    ·rw [hb] at hb2; cases hb2
    ·exact ⟨by simpa using ho, hr, ha⟩
   cases us with
   | nil =>
    have hov : st.over ts = true := by
     have := dropN hr
     simp [PS.over]
     omega
    rw [rulesL_end (f1 + 1) rs hov]
    exact ⟨h, hk⟩
   | cons t r =>
    have hlt := (dropC hr).1
    have hov : ¬ st.over ts = true := by
     simp [PS.over, hb]
     omega
    rw [rulesL_go f1 rs hov]
    have h3 := rule_agr ht hl hN hb ha (Fl.prog ps) ho
    rw [hr] at h3
    have eM : Ip.rulesL (Ip.SE 30).2 (Ip.block (Ip.ST 30)) (f2 + 1) ps (t :: r) = (Ip.rule (Ip.SE 30).2 (Ip.block (Ip.ST 30)) (t :: r)).bind fun q => Ip.rulesL (Ip.SE 30).2 (Ip.block (Ip.ST 30)) f2 (ps ++ [q.1]) (Rx.ends q.2) := rfl
    rw [eM]
    cases hI : Ip.rule (Ip.SE 30).2 (Ip.block (Ip.ST 30)) (t :: r) with
    | none =>
     rw [hI] at h3
     have hbd : ((block ts (T ts 30) (ruleHead ts st).1).1.ends ts).bad = true := h3
     show (rulesL ts f1 _ _).1.bad = true
     rw [rulesL_end f1 _ (over_bad hbd)]
     exact hbd
    | some k =>
     obtain ⟨p, r2⟩ := k
     rw [hI] at h3
     have hs := Ip.rule_shs (Ip.shr_SE 30).2 (Ip.shs_block (Ip.shs_ST 30).shr) hI
     have hle : (Rx.ends r2).length ≤ r2.length := Rx.ends_len r2
     have h4 := h3.1.ends
     rw [← prog_snoc] at h4
     refine ih f1 _ _ (ps ++ [p]) (Rx.ends r2) h4 (fun hg => ?_) (by simp only [List.length_cons] at *; omega) (by simp only [List.length_cons] at *; omega)
     have := h3.2 hg
     rw [hk hb, prog_snoc]
     exact this
theorem read_agr (ht : Tsm ts) (hl : ts.length ≤ 200) (hN : Nm ts) : readEnd (rulesL ts (ts.length + 1) ((PS.mk 0 false []).ends ts) []) = (match Ip.rules (Ip.SE 30).2 (Ip.block (Ip.ST 30)) ts with
  | none => none
  | some ps => if Pg.ok (Fl.prog ps).1 (Fl.prog ps).2 = true then some (Fl.prog ps) else none) := by
 have h0 : Okk ts [] [] ts (PS.mk 0 false []) := .inr ⟨rfl, rfl, rfl, Nat.zero_le _⟩
 have hle : (Rx.ends ts).length ≤ ts.length := Rx.ends_len ts
 have h := rules_agr ht hl hN ts.length (ts.length + 1) ((PS.mk 0 false []).ends ts) [] [] (Rx.ends ts) h0.ends (fun _ => rfl) (by omega) hle
 have eR : Ip.rules (Ip.SE 30).2 (Ip.block (Ip.ST 30)) ts = Ip.rulesL (Ip.SE 30).2 (Ip.block (Ip.ST 30)) ts.length [] (Rx.ends ts) := rfl
 rw [eR]
 generalize rulesL ts (ts.length + 1) ((PS.mk 0 false []).ends ts) [] = Q at *
 cases hM : Ip.rulesL (Ip.SE 30).2 (Ip.block (Ip.ST 30)) ts.length [] (Rx.ends ts) with
 | none =>
  rw [hM] at h
  unfold readEnd
  rw [if_pos (.inl h)]
 | some ps =>
  rw [hM] at h
  obtain ⟨h1, h2⟩ := h
  rcases h1 with ⟨hb, hw⟩ | ⟨hb, ho, -, -⟩
  ·unfold readEnd
   rw [if_pos (.inl hb)]
   have hw2 : Wrong (Fl.prog ps).1 := hw
   show none = if Pg.ok (Fl.prog ps).1 (Fl.prog ps).2 = true then _ else none
   rw [wrong_ok hw2, if_neg (by decide)]
  ·have e1 : Q.1.out = (Fl.prog ps).1 := by simpa using ho
   have e2 := h2 hb
   unfold readEnd
   rw [e1, e2]
   show _ = if Pg.ok (Fl.prog ps).1 (Fl.prog ps).2 = true then some (Fl.prog ps) else none
   cases hok : Pg.ok (Fl.prog ps).1 (Fl.prog ps).2 with
   | true =>
    rw [if_neg, if_pos rfl]
    intro e
    rcases e with e | e
    ·rw [hb] at e
     cases e
    ·cases e
   | false => rw [if_pos (.inr rfl), if_neg (by decide)]
end
end Pr
end PartRtA
end Go.Proofs.YtkfkbdgfnopokaaGreatDoor
