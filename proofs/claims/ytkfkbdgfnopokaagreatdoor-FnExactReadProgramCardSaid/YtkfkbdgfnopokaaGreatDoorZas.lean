/- The program's reader of a program: all rules. The program's reader of a program: what it catches. The program's reader of a program: the rules of some tokens. The specification's reader of a program: choices. Plain facts: a statement that is read well takes a token at least; rounds of a block. The specification's reader of a program: blocks. -/
import Derived.Test.YtkfkbdgfnopokaaGreatDoorRsF
import Derived.Defers
import Derived.Recover
import Derived.Test.YtkfkbdgfnopokaaGreatDoorZan
import Derived.Test.YtkfkbdgfnopokaaGreatDoorZam
namespace Go.Proofs.YtkfkbdgfnopokaaGreatDoor
section PartRsG
open Go.RowKit
theorem Tryz.infoRu : (Tryz.prog.info? 104).map (fun i => (i.zero, i.size, i.bytes)) = some (some (.agg #[.int .i64 0, .nilIface, .nilIface]), 3, 40) := by kernel_rfl
def RRw (B : Nat) (w : World) (v : Value) (us : List Ru) : Prop := w.ownsRow B 104 3 v us.length (us.flatMap Ru.cells)
theorem tvo_one (o : Option Tr) : (tvo o).oneCell' = true := by cases o <;> rfl
theorem RRw.push {ops : Array Oper} {rest : List Oper} {o : Oper} {a : Act} {Q : Exit → Act → World → Prop} {B : Nat} {w : World} {v : Value} {us : List Ru}
  (hown : RRw B w v us) (hgd : o.guard = none) (s x : Operand)
  (ho : o.op = .call { callee := .builtin .append, args := #[s, x], argTypes := #[51, 51] })
  (hs : a.eval s = v) (u : Ru) (arr : Array Value) (harr : arr = u.cells.toArray) (hx : a.eval x = .slice (some ⟨w.heap.size, 0, none⟩) 1 1)
  (hlen : us.length < 100000) (hB : B ≤ w.heap.size)
  (h : ∀ q cap w', RRw B w' (.slice (some ⟨q, 0, none⟩) (us.length + 1) cap) (us ++ [u]) → (v.ownBlock = some q ∨ w.heap.size ≤ q) → w.heap.size ≤ w'.heap.size → Env w w' → (∀ k, k < w.heap.size → v.ownBlock ≠ some k → w'.heap[k]? = w.heap[k]?) →
   wpList Tryz.prog ops Q rest (a.put o.dst (.slice (some ⟨q, 0, none⟩) (us.length + 1) cap)) w') :
  wpList Tryz.prog ops Q (o :: rest) a (w.alloc (.cells arr 104)) := by
 subst harr
 obtain ⟨i0, hi, hz0, hz1, hz2⟩ := info_parts Tryz.infoRu
 refine wpList_append_lies _ hgd s x 51 ho B 104 i0 (.agg #[.int .i64 0, .nilIface, .nilIface]) 3 40 Tryz.underlying51 hi hz0 hz1 hz2 rfl (by decide) v us.length (us.flatMap Ru.cells) hs (World.ownsRow.alloc hown _) ⟨w.heap.size, 0, none⟩ 1 1 u.cells hx rfl
  (World.news_of_block (cs := u.cells.toArray) (t := 104) (fr := (0, 0)) (heap_alloc_new w _)) ?_ (by omega) ?_ ?_ ?_ (w.heap.size + 1) (by simp) ?_
 ·intro z hz
  simp only [Ru.cells, List.mem_cons, List.not_mem_nil, or_false] at hz
  rcases hz with rfl | rfl | rfl
  ·rfl
  ·exact tvo_one _
  ·rfl
 ·unfold maxLen; omega
 ·omega
 ·simp; omega
 ·intro g cap w' h2 h3 h4 h5
  have hb0 : Below w.heap.size w (w.alloc (.cells u.cells.toArray 104)) := (Below.refl _ w).alloc (Nat.le_refl _) _
  have hs3 := h3.size
  simp at hs3
  have hb3 : Below B w w' := (hb0.mono hB).grown h3 (by simp; omega) (fun k hk => (World.ownsRow.lt hown k hk).1)
  refine h g cap w' ?_ (h4.imp id (fun e => by omega)) (by omega) ⟨hb3.os, hb3.tape, hb3.output⟩ ?_
  ·unfold RRw
   rw [List.flatMap_append]
   simpa using h2
  ·intro k hk hne
   rw [h3.block k (by simp; omega) (fun e => hne e.symm)]
   exact hb0.block k hk
theorem RRw.keep2 {B : Nat} {w w' : World} {u : Value} {us : List Ru} (h : RRw B w u us) (hb : ∀ q, u.ownBlock = some q → w'.heap[q]? = w.heap[q]?) : RRw B w' u us := by
 refine ⟨h.1, ?_⟩
 rcases h.2 with hn | ⟨g, cap, cur, rfl, h1, hg, rest⟩
 ·exact .inl hn
 ·refine .inr ⟨g, cap, cur, rfl, h1, ?_, rest⟩
  rw [hb g rfl]
  exact hg
structure Urow (w0 W : World) (v : Value) (us : List Ru) : Prop where
 row : RRw w0.heap.size W v us
 sep : ∀ t ∈ us.flatMap Ru.trees, ∀ b, t.R b → v.ownBlock ≠ some b
section
variable {X g : Nat} {d d' : Int} {w0 W W' : World} {r r' : List Tk.Tok} {us : List Ru} {v : Value}
theorem Urow.lt (h : Urow w0 W v us) {q : Nat} (hq : v.ownBlock = some q) : w0.heap.size ≤ q ∧ q < W.heap.size := World.ownsRow.lt h.row q hq
theorem Urow.step (h : Urow w0 W v us) (hg : g < w0.heap.size) (ho : Og g W W') : Urow w0 W' v us :=
 ⟨h.row.keep2 (fun q hq => by have := h.lt hq; exact ho.2.2 q this.2 (by omega)), h.sep⟩
theorem Urow.nil : Urow w0 W (.slice none 0 0) [] := ⟨World.ownsRow_nil _ _ _ _, fun _ ht => nomatch ht⟩
theorem Urow.push {ops : Array Oper} {rest : List Oper} {o : Oper} {a : Act} {Q : Exit → Act → World → Prop} {u : Ru} (hr : Urow w0 W v us) (hq : Hq X g d w0 W r (u.trees ++ us.flatMap Ru.trees)) (hsep : ∀ t ∈ u.trees, ∀ b, t.R b → v.ownBlock ≠ some b)
  (hgd : o.guard = none) (s x : Operand) (ho : o.op = .call { callee := .builtin .append, args := #[s, x], argTypes := #[51, 51] })
  (hs : a.eval s = v) (arr : Array Value) (harr : arr = u.cells.toArray) (hx : a.eval x = .slice (some ⟨W.heap.size, 0, none⟩) 1 1) (hlen : us.length < 100000)
  (h : ∀ v' w', Hq X g d w0 w' r ((us ++ [u]).flatMap Ru.trees) → Urow w0 w' v' (us ++ [u]) → wpList Tryz.prog ops Q rest (a.put o.dst v') w') :
  wpList Tryz.prog ops Q (o :: rest) a (W.alloc (.cells arr 104)) := by
 refine hr.row.push hgd s x ho hs u arr harr hx hlen hq.og.2.1 ?_
 intro q cap w' h2 h4 h5 henv hkeep
 have hmem : ∀ t' ∈ (us ++ [u]).flatMap Ru.trees, t' ∈ u.trees ++ us.flatMap Ru.trees := fun t' ht' => by
  rw [List.flatMap_append] at ht'
  rcases List.mem_append.1 ht' with h1 | h1
  ·exact List.mem_append_right _ h1
  ·exact List.mem_append_left _ (by simpa using h1)
 have hsepA : ∀ t' ∈ u.trees ++ us.flatMap Ru.trees, ∀ b, t'.R b → v.ownBlock ≠ some b := fun t' ht' => by
  rcases List.mem_append.1 ht' with h1 | h1
  ·exact hsep t' h1
  ·exact hr.sep t' h1
 refine h _ w' ?_ ?_
 ·cases hv : v.ownBlock with
  | none => exact (hq.other (b := W.heap.size) ⟨henv, h5, fun k hk _ => hkeep k hk (by rw [hv]; exact fun e => nomatch e)⟩ hq.og.2.1 (fun t' ht' hb => by have := (hq.tr t' ht').1.1 _ hb; omega)).sub hmem
  | some b0 => exact (hq.other (b := b0) ⟨henv, h5, fun k hk hne => hkeep k hk (by rw [hv]; intro e; exact hne (Option.some.inj e).symm)⟩ (hr.lt hv).1 (fun t' ht' hb => hsepA t' ht' b0 hb hv)).sub hmem
 ·refine ⟨by simpa using h2, fun t' ht' b hb e => ?_⟩
  have e2 : q = b := by simpa [Value.ownBlock] using e
  subst e2
  rcases h4 with h4 | h4
  ·exact hsepA t' (hmem t' ht') q hb h4
  ·have := (hq.tr t' (hmem t' ht')).1.1 q hb
   omega
end
namespace Ip
def rulesL (E B : Rd) : Nat → List Ru.P → List Tk.Tok → Option (List Ru.P)
 | 0, ps, _ => some ps
 | _ + 1, ps, [] => some ps
 | f + 1, ps, t :: r => (rule E B (t :: r)).bind fun q => rulesL E B f (ps ++ [q.1]) (Rx.ends q.2)
def rules (E B : Rd) (ts : List Tk.Tok) : Option (List Ru.P) := rulesL E B ts.length [] (Rx.ends ts)
theorem rule_shs {E B : Rd} (hE : Shr E) (hB : Shs B) {ts r : List Tk.Tok} {p : Ru.P} (h : rule E B ts = some (p, r)) : r.length + 1 ≤ ts.length := by
 unfold rule at h
 split at h
 ·rename_i r0 hw
  simp only [Option.map_eq_some_iff, Prod.mk.injEq] at h
  obtain ⟨q, h1, -, rfl⟩ := h
  have a := want_len1 hw
  have b := hB _ _ _ h1
  omega
 ·split at h
  ·rename_i r0 hw
   simp only [Option.map_eq_some_iff, Prod.mk.injEq] at h
   obtain ⟨q, h1, -, rfl⟩ := h
   have a := want_len1 hw
   have b := hB _ _ _ h1
   omega
  ·split at h
   ·simp only [Option.map_eq_some_iff, Prod.mk.injEq] at h
    obtain ⟨q, h1, -, rfl⟩ := h
    exact hB _ _ _ h1
   ·simp only [Option.bind_eq_some_iff, Option.map_eq_some_iff, Prod.mk.injEq] at h
    obtain ⟨k, h0, q, h1, -, rfl⟩ := h
    have a := hE _ _ _ h0
    have b := hB _ _ _ h1
    omega
end Ip
def GotS (X g : Nat) (w : World) (d : Int) (o : Option (List Ru.P)) (e : Ending) (w' : World) : Prop :=
 match o with
 | none => e = noProg ∧ Og g w w'
 | some ps => ∃ (us : List Ru) (v : Value), e = .returned v ∧ us.map Ru.plain = ps ∧ us.length ≤ 200 ∧ Urow w w' v us ∧ Hq X g d w w' [] (us.flatMap Ru.trees)
set_option maxHeartbeats 4000000 in
set_option maxRecDepth 100000 in
theorem rdsRules (X g : Nat) (d : Int) (E B : Ip.Rd) (hE : Rds X g 119 [] d E) (hB : RdsB X g 120 [] d B) (se : Ip.Shr E) (sb : Ip.Shs B) (ts : List Tk.Tok) (w : World) (hlen : ts.length ≤ 200) (h : Rq X g w ts d) :
  Calls Tryz.prog 57 #[.pointer (some ⟨g, 0, none⟩)] w (GotS X g w d (Ip.rules E B ts)) := by
 have H0 := hidOf2 (Hq.start h)
 have C1 := hidOf2 (rrEnds X g d ts w h.rt)
 have HU : Hid (∀ us W, us.length ≤ 200 → Rq X g W us d → Calls Tryz.prog 95 #[.pointer (some ⟨g, 0, none⟩)] W (GotU X g W d (Ip.rule E B us))) := fun us W hl hq => rdsRule X g d E B hE hB se us W hl hq
 have SH : Hid (∀ us p r, Ip.rule E B us = some (p, r) → r.length + 1 ≤ us.length) := fun us p r e => Ip.rule_shs se sb e
 clear hE hB se sb h
 obtain ⟨V, hV⟩ : ∃ V, V = Ip.rules E B ts := ⟨_, rfl⟩
 rw [← hV]
 have HV : Hid (Ip.rulesL E B ts.length [] (Rx.ends ts) = V) := hV.symm
 clear hV
 go_enter Tryz.func57, Tryz.ntmps57
 go_wp2_with fail
 refine C1.out.mono ?_
 rintro e w1 ⟨rfl, h1, ho1⟩
 have hle := Rx.ends_len ts
 have HI : Hid (∃ (us : List Ru) (rs : List Tk.Tok) (f : Nat), Hq X g d w w1 rs (us.flatMap Ru.trees) ∧ Urow w w1 (.slice none 0 0) us ∧ rs.length ≤ f ∧ us.length + rs.length ≤ 200 ∧ Ip.rulesL E B f (us.map Ru.plain) rs = V) :=
  ⟨[], Rx.ends ts, ts.length, H0.out.step h1 ho1, Urow.nil, hle, by simp; omega, HV.out⟩
 clear h1 ho1 C1 H0 HV hle
 go_wp2_with fail
 go_loopw [3] (fun u3 wr => Hid (∃ (us : List Ru) (rs : List Tk.Tok) (f : Nat), Hq X g d w wr rs (us.flatMap Ru.trees) ∧ Urow w wr u3 us ∧ rs.length ≤ f ∧ us.length + rs.length ≤ 200 ∧ Ip.rulesL E B f (us.map Ru.plain) rs = V)) (fun _ wr => Rx.many g wr)
 case atStart => exact HI
 case round =>
  clear HI
  have HRL := hrel
  clear hrel
  obtain ⟨us, rs, f, hq, hrow, hf, hln, hv⟩ := HRL.out
  have HQ := hidOf2 hq
  have HR := hidOf2 hrow
  have HM : Hid (Rx.many g wr = rs.length) := hq.q.rt.many
  obtain ⟨ad, cap, hc0⟩ : ∃ ad cap, wr.cell? ⟨g, 0, none⟩ = some (.slice ad rs.length cap) := by
   obtain ⟨-, Lv, k1, k2⟩ := hq.q.rt
   obtain ⟨ad, cap, rfl, -⟩ := k2
   exact ⟨ad, cap, k1.cells.1⟩
  clear HRL hq hrow
  cases rs with
  | nil =>
   have HF : Hid (GotS X g w d V (.returned u3) wr) := by
    have e : V = some (us.map Ru.plain) := by
     rw [← hv]
     cases f with
     | zero => rfl
     | succ f => rfl
    rw [e]
    exact ⟨us, u3, rfl, rfl, by simp at hln; omega, HR.out, HQ.out⟩
   clear hv HU SH HM HQ HR
   rw [List.length_nil] at hc0
   go_wp2
   go_ret
   exact HF.out
  | cons t r =>
   obtain ⟨f, rfl⟩ : ∃ f', f = f' + 1 := ⟨f - 1, by simp at hf; omega⟩
   have C2 := hidOf2 (HU.out (t :: r) wr (by omega) HQ.out.q)
   have HVV : Hid ((Ip.rule E B (t :: r)).bind (fun q => Ip.rulesL E B f (us.map Ru.plain ++ [q.1]) (Rx.ends q.2)) = V) := hv
   obtain ⟨n, hn⟩ : ∃ n, n = (t :: r).length := ⟨_, rfl⟩
   rw [← hn] at hc0
   have hpos : (0 : Int) < (n : Int) := by rw [hn]; simp only [List.length_cons]; omega
   have hposn : 0 < n := by rw [hn]; simp
   have HN := hidOf2 hn
   have HLN := hidOf2 (And.intro hf hln)
   clear hv hn hf hln
   cases hu : Ip.rule E B (t :: r) with
   | none =>
    rw [hu] at C2
    have HV : Hid (V = none) := by have := HVV.out; rw [hu] at this; exact this.symm
    clear hu HVV HU SH
    go_wp2_with fail
    refine C2.out.mono ?_
    rintro e w2 ⟨rfl, hbd⟩
    have HO := hidOf2 hbd
    clear hbd
    unfold noProg
    go_wp2
    rw [HV.out]
    exact ⟨rfl, rfl, HQ.out.bad HO.out⟩
   | some q =>
    obtain ⟨p, r2⟩ := q
    have hl2 := SH.out (t :: r) p r2 hu
    rw [hu] at C2
    have HV2 : Hid (Ip.rulesL E B f (us.map Ru.plain ++ [p]) (Rx.ends r2) = V) := by have := HVV.out; rw [hu] at this; exact this
    clear hu HVV
    have HL2 := hidOf2 hl2
    clear hl2
    go_wp2_with fail
    refine C2.out.mono ?_
    rintro e w2 ⟨u, rfl, hp, hq2⟩
    have H2 : Hid (Hq X g d w w2 r2 (u.trees ++ us.flatMap Ru.trees)) := ⟨hq2.q, HQ.out.og.trans hq2.og, HQ.out.lt, fun t' ht' => by
     rcases List.mem_append.1 ht' with k | k
     ·exact ⟨(hq2.tr t' k).1, fun b hb => Nat.le_trans HQ.out.og.2.1 ((hq2.tr t' k).2 b hb)⟩
     ·exact (HQ.out.step hq2.q.rt hq2.og).tr t' k⟩
    have K2 := hidOf2 (HR.out.step HQ.out.lt hq2.og)
    have KS := hidOf2 (show ∀ t ∈ u.trees, ∀ b, t.R b → u3.ownBlock ≠ some b from fun t' ht' b hb e => by have h1 := (HR.out.lt e).2; have h2 := (hq2.tr t' ht').2 b hb; omega)
    have HP := hidOf2 hp
    clear hq2 hp C2 HQ HR hc0 hpos hposn
    have HCE : Hid (u.cells.toArray = #[.int .i64 (u.when : Int), tvo u.test, tv u.doo.k]) := rfl
    rw [HCE.out]
    go_wp2_with (at_builtin; go_must (refine K2.out.push (u := u) H2.out KS.out rfl _ _ rfl rfl _ rfl rfl ?hl ?_))
    case hl => have := HLN.out.2; omega
    intro v' w3 hq3 hr3
    have H3 := hidOf2 hq3
    have K3 := hidOf2 hr3
    have C4 := hidOf2 (rrEnds X g d r2 w3 H3.out.q.rt)
    clear hq3 hr3 H2 K2 KS
    go_wp2_with fail
    refine C4.out.mono ?_
    rintro e w4 ⟨rfl, h4, ho4⟩
    have hle := Rx.ends_len r2
    have H5 := hidOf2 (H3.out.step h4 ho4)
    have H6 : Hid (∃ (us : List Ru) (rs : List Tk.Tok) (f : Nat), Hq X g d w w4 rs (us.flatMap Ru.trees) ∧ Urow w w4 v' us ∧ rs.length ≤ f ∧ us.length + rs.length ≤ 200 ∧ Ip.rulesL E B f (us.map Ru.plain) rs = V) :=
     ⟨us ++ [u], Rx.ends r2, f, H5.out.sub (fun t ht => by simpa using ht), K3.out.step H3.out.lt ho4, by have h1 := HL2.out; have h2 := HLN.out.1; simp only [List.length_cons] at h1 h2; omega, by have h1 := HL2.out; have h2 := HLN.out.2; simp only [List.length_cons, List.length_append, List.length_nil] at h1 h2 ⊢; omega, by rw [List.map_append]; have := HP.out; simp only [List.map_cons, List.map_nil, this]; exact HV2.out⟩
    have HMM : Hid (Rx.many g w4 = (Rx.ends r2).length) := H5.out.q.rt.many
    have HLE := hidOf2 hle
    clear h4 ho4 C4 H3 K3 H5 hle HV2 HP
    go_wp2
    go_roundw
    case rel => exact H6
    case measure =>
     have a := HM.out
     have b := HMM.out
     have c := HLE.out
     have e := HL2.out
     simp only [List.length_cons] at a e
     omega
end PartRsG
section PartRsH
open Go.RowKit
set_option maxHeartbeats 1000000 in
set_option maxRecDepth 100000 in
theorem catch_idle (p q : Addr) (w : World) :
  CallsD Tryz.prog 56 #[.pointer (some p), .pointer (some q)] .returning w fun e u' w' => e = .returned (.tuple #[]) ∧ u' = .returning ∧ w' = w := by
 refine callsD_of_wpS Tryz.func56 rfl fun c₀ cs hu => ?_
 apply wpS_seq
 apply wpS_region
 simp [wpOpsS, go_sem, recoverD, hu, Tryz.ntmps56, Exit.thenS]
 refine wpS_of_wp ?_
 go_wp2
 cases c₀
 simp_all [bodyPostS, results, Tryz.results56]
set_option maxHeartbeats 1000000 in
set_option maxRecDepth 100000 in
theorem catch_no (a b : Nat) (w : World) (vp vq : Value) (tp tq : TypeId) (hp : w.heap[a]? = some (.cells #[vp] tp (0, 0))) (hq : w.heap[b]? = some (.cells #[vq] tq (0, 0))) (hne : a ≠ b) :
  CallsD Tryz.prog 56 #[.pointer (some ⟨a, 0, none⟩), .pointer (some ⟨b, 0, none⟩)] (.panicking [{ v := .iface 95 (.agg #[]), recovered := false }]) w fun e u' w' =>
   e = .returned (.tuple #[]) ∧ u' = .panicking [{ v := .iface 95 (.agg #[]), recovered := true }] ∧ w' = ((w.alloc (.cells #[] 95)).setCell ⟨a, 0, none⟩ (.slice none 0 0)).setCell ⟨b, 0, none⟩ (.bool false) := by
 have hb : Below w.heap.size w (w.alloc (.cells #[] 95)) := (Below.refl _ _).alloc (Nat.le_refl _) _
 have hp2 := (hb.block a (blk_lt hp)).trans hp
 have hq2 := (hb.block b (blk_lt hq)).trans hq
 have hq3 : ((w.alloc (.cells #[] 95)).setCell ⟨a, 0, none⟩ (.slice none 0 0)).heap[b]? = some (.cells #[vq] tq (0, 0)) := (Below.heap_setCell _ _ _ _ (by show b ≠ a; exact fun e => hne e.symm)).trans hq2
 have c1 := (wcell hp2).1
 have z1 := (wcell hp2).2
 have c2 := (wcell hq2).1
 have z2 := (wcell hq2).2
 have c3 := (wcell hq3).1
 have z3 := (wcell hq3).2
 refine callsD_of_wpS Tryz.func56 rfl fun c₀ cs hu => ?_
 have q0 := fun v w => as_yes Tryz.underlying95 20 v w
 clear hp hq hb hp2 hq2 hq3
 apply wpS_seq
 apply wpS_region
 simp [wpOpsS, go_sem, recoverD, hu, Tryz.ntmps56, Exit.thenS]
 refine wpS_of_wp ?_
 go_wp2
 simp [bodyPostS, results, Tryz.results56]
end PartRsH
section PartRsI
open Go.RowKit
namespace Ip
def all (ts : List Tk.Tok) : Option (List Ru.P) := rules (SE 30).2 (block (ST 30)) ts
end Ip
def GotA (w : World) (o : Option (List Ru.P)) (e : Ending) (w' : World) : Prop :=
 match o with
 | none => e = .returned (.tuple #[.slice none 0 0, .bool false]) ∧ Below w.heap.size w w'
 | some ps => ∃ (us : List Ru) (v : Value), e = .returned (.tuple #[v, .bool true]) ∧ us.map Ru.plain = ps ∧ us.length ≤ 200 ∧ RRw w.heap.size w' v us ∧ Below w.heap.size w w' ∧ ∀ t ∈ us.flatMap Ru.trees, Adds t.R w' t.k t.G ∧ ∀ b, t.R b → w.heap.size ≤ b
theorem alloc3_0r (w : World) (A B C : Obj) : (((w.alloc A).alloc B).alloc C).heap[w.heap.size]? = some A := by
 show (((w.heap.push A).push B).push C)[w.heap.size]? = some A
 rw [Array.getElem?_push, if_neg (by simp; omega), Array.getElem?_push, if_neg (by simp), Array.getElem?_push]
 simp
theorem alloc3_1r (w : World) (A B C : Obj) : (((w.alloc A).alloc B).alloc C).heap[w.heap.size + 1]? = some B := by
 show (((w.heap.push A).push B).push C)[w.heap.size + 1]? = some B
 rw [Array.getElem?_push, if_neg (by simp), Array.getElem?_push]
 simp
theorem alloc3_2r (w : World) (A B C : Obj) : (((w.alloc A).alloc B).alloc C).heap[w.heap.size + 2]? = some C := by
 show (((w.heap.push A).push B).push C)[w.heap.size + 2]? = some C
 rw [Array.getElem?_push]
 simp
theorem set2r {W : World} {a b : Nat} {x y : Value} {tx ty : TypeId} (ha : W.heap[a]? = some (.cells #[x] tx (0, 0))) (hb : W.heap[b]? = some (.cells #[y] ty (0, 0))) (hne : a ≠ b) (u v : Value) :
  ((W.setCell ⟨a, 0, none⟩ u).setCell ⟨b, 0, none⟩ v).heap[a]? = some (.cells #[u] tx (0, 0)) ∧ ((W.setCell ⟨a, 0, none⟩ u).setCell ⟨b, 0, none⟩ v).heap[b]? = some (.cells #[v] ty (0, 0)) :=
 ⟨(Below.heap_setCell _ _ _ _ (by show a ≠ b; exact hne)).trans (set0w ha u), set0w ((Below.heap_setCell _ _ _ _ (by show b ≠ a; exact fun e => hne e.symm)).trans hb) v⟩
set_option maxHeartbeats 2000000 in
set_option maxRecDepth 100000 in
theorem rulesOf_any (L : Value) (ts : List Tk.Tok) (w : World) (hlen : ts.length ≤ 200) (hL : Lf w.heap.size w L ts) (h2 : TwoS w) (h3 : RowO w) (lo : 0 < w.heap.size ∧ 2 < w.heap.size) :
  Calls Tryz.prog 22 #[L] w (GotA w (Ip.all ts)) := by
 have hmf : ∀ (fn : Fn) (first cap : Array Value) (w : World), (Instr.makeFunc fn first cap).run Tryz.prog w = .ok (.func fn first cap) w := fun _ _ _ _ => rfl
 have hLL := hL
 obtain ⟨ad, cap, rfl, hL2⟩ := hL
 have hb0 : Below w.heap.size w (((w.alloc (.cells #[.slice none 0 0] 51)).alloc (.cells #[.bool false] 4)).alloc (.cells #[.slice ad ts.length cap, .int .i64 0] 98)) := (((Below.refl _ _).alloc (Nat.le_refl _) _).alloc (by simp) _).alloc (by simp; omega) _
 have qa := alloc3_0r w (.cells #[.slice none 0 0] 51) (.cells #[.bool false] 4) (.cells #[.slice ad ts.length cap, .int .i64 0] 98)
 have qb := alloc3_1r w (.cells #[.slice none 0 0] 51) (.cells #[.bool false] 4) (.cells #[.slice ad ts.length cap, .int .i64 0] 98)
 have qg := alloc3_2r w (.cells #[.slice none 0 0] 51) (.cells #[.bool false] 4) (.cells #[.slice ad ts.length cap, .int .i64 0] 98)
 have hz : (((w.alloc (.cells #[.slice none 0 0] 51)).alloc (.cells #[.bool false] 4)).alloc (.cells #[.slice ad ts.length cap, .int .i64 0] 98)).heap.size = w.heap.size + 3 := by simp
 have hq : Rq w.heap.size (w.heap.size + 2) (((w.alloc (.cells #[.slice none 0 0] 51)).alloc (.cells #[.bool false] 4)).alloc (.cells #[.slice ad ts.length cap, .int .i64 0] 98)) ts 0 := by
  have hog : Og (w.heap.size + 2) w (((w.alloc (.cells #[.slice none 0 0] 51)).alloc (.cells #[.bool false] 4)).alloc (.cells #[.slice ad ts.length cap, .int .i64 0] 98)) := Og.of hb0
  exact ⟨⟨by omega, _, qg, hLL.keep (by omega) hog⟩, hog.two h2 lo.1 (by omega), hog.row h3 lo.2 (by omega), lo⟩
 have C := hidOf2 (rdsRules w.heap.size (w.heap.size + 2) 0 (Ip.SE 30).2 (Ip.block (Ip.ST 30)) (by have := (rdsSE w.heap.size (w.heap.size + 2) 30 (by omega)).2; exact this) (rdsBlock _ _ _ _ (by have := rdsST w.heap.size (w.heap.size + 2) 30 (by omega); exact this) (Ip.shs_ST 30)) (Ip.shr_SE 30).2 (Ip.shs_block (Ip.shs_ST 30).shr) ts _ hlen hq)
 have HB := hidOf2 hb0
 have QA := hidOf2 qa
 have QB := hidOf2 qb
 have HZ := hidOf2 hz
 clear hb0 qa qb qg hz hq hLL hL2 h2 h3 lo
 obtain ⟨V, hV⟩ : ∃ V, V = Ip.all ts := ⟨_, rfl⟩
 rw [← hV]
 rw [show Ip.rules (Ip.SE 30).2 (Ip.block (Ip.ST 30)) ts = V from hV.symm] at C
 clear hV
 go_enter_defers Tryz.func22, Tryz.ntmps22
 go_wp2_with fail
 change Calls _ _ _ (((w.alloc (.cells #[.slice none 0 0] 51)).alloc (.cells #[.bool false] 4)).alloc (.cells #[.slice ad ts.length cap, .int .i64 0] 98)) _
 generalize (((w.alloc (.cells #[.slice none 0 0] 51)).alloc (.cells #[.bool false] 4)).alloc (.cells #[.slice ad ts.length cap, .int .i64 0] 98)) = W0 at *
 cases V with
 | none =>
  refine C.out.mono ?_
  rintro e w1 ⟨rfl, ho⟩
  have ka : w1.heap[w.heap.size]? = some (.cells #[.slice none 0 0] 51 (0, 0)) := (ho.2.2 _ (by have := HZ.out; omega) (by omega)).trans QA.out
  have kb : w1.heap[w.heap.size + 1]? = some (.cells #[.bool false] 4 (0, 0)) := (ho.2.2 _ (by have := HZ.out; omega) (by omega)).trans QB.out
  have hbw : Below w.heap.size w w1 := HB.out.trans ⟨ho.1.1, ho.1.2.1, ho.1.2.2, ho.2.1, fun k hk => ho.2.2 k (by have := HZ.out; omega) (by omega)⟩
  unfold noProg
  go_wp2
  refine leaves_cons (f := 56) (args := #[.pointer (some ⟨w.heap.size, 0, none⟩), .pointer (some ⟨w.heap.size + 1, 0, none⟩)]) (by simp) (by simp [go_sem]) ?_
  refine (catch_no w.heap.size (w.heap.size + 1) w1 _ _ _ _ ka kb (by omega)).mono ?_
  rintro e u' w'' ⟨rfl, rfl, rfl⟩
  have hal : Below w1.heap.size w1 (w1.alloc (.cells #[] 95)) := (Below.refl _ _).alloc (Nat.le_refl _) _
  have hf := set2r ((hal.block _ (blk_lt ka)).trans ka) ((hal.block _ (blk_lt kb)).trans kb) (by omega) (.slice none 0 0) (.bool false)
  have hbf : Below w.heap.size w (((w1.alloc (.cells #[] 95)).setCell ⟨w.heap.size, 0, none⟩ (.slice none 0 0)).setCell ⟨w.heap.size + 1, 0, none⟩ (.bool false)) := ((hbw.trans (hal.mono hbw.size)).setCell (by show _ ≤ w.heap.size; omega) _).setCell (by show _ ≤ w.heap.size + 1; omega) _
  generalize ((w1.alloc (.cells #[] 95)).setCell ⟨w.heap.size, 0, none⟩ (.slice none 0 0)).setCell ⟨w.heap.size + 1, 0, none⟩ (.bool false) = w2 at *
  have c1 := (wcell hf.1).1
  have c2 := (wcell hf.2).1
  simp [Leaves, settle, results, Tryz.results22, go_sem, c1, c2]
  exact ⟨rfl, hbf⟩
 | some ps =>
  refine C.out.mono ?_
  rintro e w1 ⟨us, v, rfl, hps, hul, hrow, hq⟩
  obtain ⟨va, vc, rfl⟩ : ∃ va vc, v = .slice va us.length vc := by
   rcases hrow.row.2 with ⟨rfl, hn⟩ | ⟨g, cap, cur, rfl, -⟩
   ·exact ⟨none, 0, by rw [hn]⟩
   ·exact ⟨_, _, rfl⟩
  obtain ⟨v, hv⟩ : ∃ v, v = Value.slice va us.length vc := ⟨_, rfl⟩
  rw [← hv] at hrow ⊢
  have ho := hq.og
  have ka : w1.heap[w.heap.size]? = some (.cells #[.slice none 0 0] 51 (0, 0)) := (ho.2.2 _ (by have := HZ.out; omega) (by omega)).trans QA.out
  have kb : w1.heap[w.heap.size + 1]? = some (.cells #[.bool false] 4 (0, 0)) := (ho.2.2 _ (by have := HZ.out; omega) (by omega)).trans QB.out
  have hbw : Below w.heap.size w w1 := HB.out.trans ⟨ho.1.1, ho.1.2.1, ho.1.2.2, ho.2.1, fun k hk => ho.2.2 k (by have := HZ.out; omega) (by omega)⟩
  have hf := set2r ka kb (by omega) v (.bool true)
  have hkeep : ∀ k, w.heap.size + 1 < k → ((w1.setCell ⟨w.heap.size, 0, none⟩ v).setCell ⟨w.heap.size + 1, 0, none⟩ (.bool true)).heap[k]? = w1.heap[k]? := fun k hk => by
   rw [Below.heap_setCell _ _ _ _ (by show k ≠ w.heap.size + 1; omega), Below.heap_setCell _ _ _ _ (by show k ≠ w.heap.size; omega)]
  have hbf : Below w.heap.size w ((w1.setCell ⟨w.heap.size, 0, none⟩ v).setCell ⟨w.heap.size + 1, 0, none⟩ (.bool true)) := (hbw.setCell (by show _ ≤ w.heap.size; omega) _).setCell (by show _ ≤ w.heap.size + 1; omega) _
  have HF : Hid (GotA w (some ps) (.returned (.tuple #[v, .bool true])) ((w1.setCell ⟨w.heap.size, 0, none⟩ v).setCell ⟨w.heap.size + 1, 0, none⟩ (.bool true))) := by
   have hzz := HZ.out
   refine ⟨us, v, rfl, hps, hul, ?_, hbf, fun t ht => ⟨(hq.tr t ht).1.keep (by simp [World.setCell]) (fun b hb => hkeep b (by have := (hq.tr t ht).2 b hb; omega)), fun b hb => by have := (hq.tr t ht).2 b hb; omega⟩⟩
   have r1 : RRw w.heap.size w1 v us := by
    refine ⟨hrow.row.1, ?_⟩
    rcases hrow.row.2 with hn | ⟨g, cap, cur, e, h1, rest⟩
    ·exact .inl hn
    ·exact .inr ⟨g, cap, cur, e, by omega, rest⟩
   exact r1.keep2 (fun q hq2 => hkeep q (by have := (hrow.lt hq2).1; omega))
  have c1 := (wcell hf.1).1
  have c2 := (wcell hf.2).1
  have d1 := (wcell ka).1
  have d2 := (wcell kb).1
  have z1 := (wcell ka).2
  have z2 := (wcell kb).2
  have d3 := (wcell ((Below.heap_setCell w1 ⟨w.heap.size, 0, none⟩ v (w.heap.size + 1) (by show w.heap.size + 1 ≠ w.heap.size; omega)).trans kb)).1
  have z3 := (wcell ((Below.heap_setCell w1 ⟨w.heap.size, 0, none⟩ v (w.heap.size + 1) (by show w.heap.size + 1 ≠ w.heap.size; omega)).trans kb)).2
  clear hf hkeep hbf hrow hq ho hbw hps hul ka kb
  subst hv
  go_wp2
  refine leaves_cons (f := 56) (args := #[.pointer (some ⟨w.heap.size, 0, none⟩), .pointer (some ⟨w.heap.size + 1, 0, none⟩)]) (by simp) (by simp [go_sem]) ?_
  refine (catch_idle ⟨w.heap.size, 0, none⟩ ⟨w.heap.size + 1, 0, none⟩ _).mono ?_
  rintro e u' w'' ⟨rfl, rfl, rfl⟩
  simp [Leaves, settle, results, Tryz.results22, go_sem, c1, c2]
  exact HF.out
end PartRsI
section PartPrL
open Go.RowKit
section
variable {ts : List Tk.Tok} {B g : Nat} {L : Value} {Xs : Nat → Prop} {d : Int} {st : Pr.PS}
set_option maxRecDepth 100000 in
set_option maxHeartbeats 4000000 in
theorem stChoice {m : Nat} {E T : Pr.Rf} (hE : Con ts B g L 18 d E) (hT : Con ts B g L 48 d T) (hFE : Pr.Fn ts m E) (hFT : Pr.Fn ts m T) (hm : m ≤ 250) (hl : ts.length ≤ 200) (hlm : Pr.Lm ts 250 st) (hd30 : ¬ 30 < d) :
  Step ts B g L 107 #[me g] d st (.int .i64 (Pr.choice ts E T st).2) d (Pr.choice ts E T st).1 := by
 intro Xs w0 v0 w v h
 have HA : Hid (At ts B g L Xs w0 v0 w d st v) := h
 have hq0 := h.kb.2.1
 have hsz := h.rs.sz
 obtain ⟨R, hR⟩ : ∃ R, R = Pr.choice ts E T st := ⟨_, rfl⟩
 rw [← hR]
 have FE : Hid (Pr.Fn ts 250 E) := hFE.up hm
 have FT : Hid (Pr.Fn ts 250 T) := hFT.up hm
 have CEx : Hid (∀ s, Pr.Lm ts 300 s → Step ts B g L 18 #[.pointer (some ⟨g, 0, none⟩)] d s (.int .i64 (E s).2) d (E s).1) := fun s hs => hE s hs (fun h => absurd h hd30)
 have CTx : Hid (∀ s, Pr.Lm ts 300 s → Step ts B g L 48 #[.pointer (some ⟨g, 0, none⟩)] d s (.int .i64 (T s).2) d (T s).1) := fun s hs => hT s hs (fun h => absurd h hd30)
 have C1 : Hid (Step ts B g L 47 #[me g, .string ⟨#[40]⟩] d st (.tuple #[]) d (st.want ts [40])) := stWant [40] hl hlm.top
 have hl1 := hlm.want (x := [40])
 have C2 : Hid (Step ts B g L 18 #[.pointer (some ⟨g, 0, none⟩)] d (st.want ts [40]) (.int .i64 (E (st.want ts [40])).2) d (E (st.want ts [40])).1) := CEx.out _ (hl1.up (by omega))
 have hl2 : Pr.Lm ts 250 (E (st.want ts [40])).1 := (hl1.fn FE.out).up (by omega)
 have C3 : Hid (Step ts B g L 47 #[me g, .string ⟨#[41]⟩] d (E (st.want ts [40])).1 (.tuple #[]) d ((E (st.want ts [40])).1.want ts [41])) := stWant [41] hl hl2.top
 have hl3 := hl2.want (x := [41])
 have HR : Hid (R = Pr.choose ts T ((E (st.want ts [40])).1.want ts [41]) (E (st.want ts [40])).2) := hR
 generalize (E (st.want ts [40])).1.want ts [41] = s3 at *
 generalize (E (st.want ts [40])).1 = s2 at *
 generalize (E (st.want ts [40])).2 = k0 at *
 generalize st.want ts [40] = s1 at *
 have C4 : Hid (Step ts B g L 17 #[me g, .int .i64 1, .string ⟨#[105, 102]⟩] d s3 (.bool (s3.is ts 1 [105, 102])) d s3) := stIs 1 [105, 102] hl hl3.top
 clear h hE hT hFE hFT hR hlm hl1 hl2 hd30
 unfold me at *
 go_enter Tryz.func107, Tryz.ntmps107
 go_wp2_with fail
 refine (C1.out _ _ _ _ _ HA.out).mono ?_
 rintro e w1 ⟨v1, rfl, a1⟩
 have HA1 : Hid _ := a1
 clear a1 HA C1
 go_wp2_with fail
 refine (C2.out _ _ _ _ _ HA1.out).mono ?_
 rintro e w2 ⟨v2, rfl, a2⟩
 have HK2 : Hid (IRow B (w2.alloc (.cells #[.int .i64 k0] 3)) (.slice (some ⟨w2.heap.size, 0, none⟩) 1 1) [k0]) := IRow.new1 w2 a2.rs.sz k0
 have HA2 : Hid (At ts B g L (plus Xs w2.heap.size) w0 v0 (w2.alloc (.cells #[.int .i64 k0] 3)) d s2 v2) := a2.add _
 have hq2 := a2.kb.2.1
 have HXq : Hid (¬ Xs w2.heap.size) := fun e => by have := (a2.rs.xb _ e).2.1; omega
 clear a2 HA1 C2
 go_wp2_with fail
 refine (C3.out _ _ _ _ _ HA2.out.here).mono ?_
 rintro e w3 ⟨v3, rfl, a3⟩
 have HK3 : Hid (IRow B w3 _ _) := IRow.at HK2.out HA2.out.rs rfl a3
 have HA3 : Hid (At ts B g L _ w0 v0 w3 d _ v3) := HA2.out.then a3
 clear a3 HA2 HK2 C3
 go_wp2_with fail
 refine (C4.out _ _ _ _ _ HA3.out.here).mono ?_
 rintro e w4 ⟨v4, rfl, a4⟩
 have HK4 : Hid (IRow B w4 _ _) := IRow.at HK3.out HA3.out.rs rfl a4
 have HA4 : Hid (At ts B g L _ w0 v0 w4 d _ v4) := HA3.out.then a4
 clear a4 HA3 HK3 C4
 have hq4 := HA4.out.rs.xb _ (.inr rfl)
 cases hV4 : s3.is ts 1 [105, 102] with
 | true =>
  have HE : Hid (R = (s3.fail, 0)) := by show _ = _; rw [HR.out, Pr.choose, if_pos hV4]
  obtain ⟨-, -, -, g3, -, -, -, h3, -⟩ := cells5 HA4.out.rs.rg
  clear HR CEx CTx hV4
  go_wp2
  go_ret
  rw [HE.out]
  exact ⟨v4, rfl, HA4.out.fail.sub⟩
 | false =>
 have C5 : Hid (Step ts B g L 48 #[.pointer (some ⟨g, 0, none⟩)] d s3 (.int .i64 (T s3).2) d (T s3).1) := CTx.out s3 (hl3.up (by omega))
 have hl5 : Pr.Lm ts 250 (T s3).1 := (hl3.fn FT.out).up (by omega)
 have HR5 : Hid (R = Pr.other ts T (T s3).1 k0 (T s3).2) := by show _ = _; rw [HR.out, Pr.choose, if_neg (by simp [hV4])]
 generalize (T s3).1 = s5 at *
 generalize (T s3).2 = k5 at *
 clear HR hV4
 go_wp2_with fail
 refine (C5.out _ _ _ _ _ HA4.out.here).mono ?_
 rintro e w5 ⟨v5, rfl, a5⟩
 have HK5 : Hid (IRow B w5 _ _) := IRow.at HK4.out HA4.out.rs rfl a5
 have HA5 : Hid (At ts B g L _ w0 v0 w5 d _ v5) := HA4.out.then a5
 clear a5 HA4 HK4 C5
 obtain ⟨Q5, hQ5⟩ : ∃ Q, Q = w2.heap.size := ⟨_, rfl⟩
 rw [← hQ5] at HK5 HA5 HXq ⊢
 have HQ5 : Hid (w0.heap.size ≤ Q5) := by show _ ≤ _; rw [hQ5]; exact hq2
 have HX5 : Hid (¬ Xs Q5) := HXq.out
 clear hQ5 hq2 hq4 HXq hq0 hsz
 have hx5 := HA5.out.rs.xb _ (.inr rfl)
 have hs5 := HA5.out.rs.sz
 go_wp2_with (at_builtin; go_must (refine HK5.out.push rfl _ _ rfl rfl k5 w5.heap.size rfl rfl ?hl ?hb ?_))
 case hl => simp
 case hb => exact hs5
 intro q6 cap6 w6 hrow hq hq2 hsz2 hen hblk
 have hq' : q6 = Q5 ∨ w5.heap.size ≤ q6 := hq.imp (fun e => (Option.some.inj e).symm) id
 have HK6 : Hid (IRow B w6 (.slice (some ⟨q6, 0, none⟩) _ cap6) _) := hrow
 have HA6 : Hid (At ts B g L (plus Xs q6) w0 v0 w6 d _ v5) := HA5.out.poke HQ5.out hsz2 hen (fun k hk hne => hblk k hk (fun e => hne (Option.some.inj e).symm)) hq' hq2
 have HQ6 : Hid (w0.heap.size ≤ q6) := by
  show _ ≤ _
  have := HQ5.out
  have := HA5.out.kb.2.1
  rcases hq' with e | e <;> omega
 have HX6 : Hid (¬ Xs q6) := fun e => by
  rcases hq' with e2 | e2
  ·rw [e2] at e; exact HX5.out e
  ·have := (HA5.out.sub.rs.xb _ e).2.1; omega
 clear hrow hq hq2 hsz2 hen hblk hq' hx5 hs5 HK5 HA5 HQ5 HX5
 have C7 : Hid (Step ts B g L 16 #[.pointer (some ⟨g, 0, none⟩), .string ⟨#[101, 108, 115, 101]⟩] d s5 (.bool (s5.is ts 1 [101, 108, 115, 101])) d (if s5.is ts 1 [101, 108, 115, 101] = true then s5.go else s5)) := stWord [101, 108, 115, 101] hl hl5.top
 cases hVe : s5.is ts 1 [101, 108, 115, 101] with
 | false =>
  rw [hVe] at C7
  have HE : Hid (R = s5.put (Pr.nd 22 [] [k0, k5])) := by show _ = _; rw [HR5.out, Pr.other, if_neg (by simp [hVe])]
  have hlen := hl5.len
  clear HR5 CEx CTx hVe
  go_wp2_with fail
  refine (C7.out _ _ _ _ _ HA6.out.here).mono ?_
  rintro e w7 ⟨v7, rfl, a7⟩
  have HK7 : Hid (IRow B w7 (.slice (some ⟨q6, 0, none⟩) _ cap6) [k0, k5]) := IRow.at HK6.out HA6.out.rs rfl a7
  have HB7 : Hid (At ts B g L (plus Xs q6) w0 v0 w7 d s5 v7) := HA6.out.then a7
  clear a7 HA6 HK6 C7
  have CP := stPut (ts := ts) (B := B) (g := g) (L := L) (d := d) 22 [] [k0, k5] _ _ _ w0 v0 w7 v7 HB7.out.sub (by omega) (IRow.kf HK7.out HB7.out.rs rfl HX6.out)
  have HCP : Hid (Calls Tryz.prog 49 #[.pointer (some ⟨g, 0, none⟩), .agg #[.int .i64 22, .string ⟨#[]⟩, .slice (some ⟨q6, 0, none⟩) _ cap6]] w7 _) := CP
  clear CP
  go_wp2_with fail
  refine HCP.out.mono ?_
  rintro e w8 ⟨v8, rfl, a8⟩
  have HA8 : Hid _ := a8
  clear a8 HCP
  go_wp2
  go_ret
  rw [HE.out]
  exact ⟨v8, rfl, HA8.out⟩
 | true =>
  rw [hVe] at C7
  have hl6 : Pr.Lm ts 250 s5.go := hl5.go (Pr.is_lt hVe).1
  have HR6 : Hid (R = if s5.go.is ts 1 [105, 102] = true then (s5.go.fail, 0) else (T s5.go).1.put (Pr.nd 22 [] [k0, k5, (T s5.go).2])) := by show _ = _; rw [HR5.out, Pr.other, if_pos hVe]
  clear HR5 hVe
  go_wp2_with fail
  refine (C7.out _ _ _ _ _ HA6.out.here).mono ?_
  rintro e w7 ⟨v7, rfl, a7⟩
  have HK7 : Hid (IRow B w7 (.slice (some ⟨q6, 0, none⟩) _ cap6) [k0, k5]) := IRow.at HK6.out HA6.out.rs rfl a7
  have HA7 : Hid (At ts B g L (plus Xs q6) w0 v0 w7 d s5.go v7) := HA6.out.then a7
  clear a7 HA6 HK6 C7
  generalize s5.go = s6 at *
  have C8 : Hid (Step ts B g L 17 #[.pointer (some ⟨g, 0, none⟩), .int .i64 1, .string ⟨#[105, 102]⟩] d s6 (.bool (s6.is ts 1 [105, 102])) d s6) := stIs 1 [105, 102] hl hl6.top
  go_wp2_with fail
  refine (C8.out _ _ _ _ _ HA7.out.here).mono ?_
  rintro e w8 ⟨v8, rfl, a8⟩
  have HK8 : Hid (IRow B w8 _ _) := IRow.at HK7.out HA7.out.rs rfl a8
  have HA8 : Hid (At ts B g L _ w0 v0 w8 d _ v8) := HA7.out.then a8
  clear a8 HA7 HK7 C8
  cases hVi : s6.is ts 1 [105, 102] with
  | true =>
   have HE : Hid (R = (s6.fail, 0)) := by show _ = _; rw [HR6.out, if_pos hVi]
   obtain ⟨-, -, -, g3, -, -, -, h3, -⟩ := cells5 HA8.out.rs.rg
   clear HR6 CEx CTx hVi
   go_wp2
   go_ret
   rw [HE.out]
   exact ⟨v8, rfl, HA8.out.fail.sub⟩
  | false =>
   have HE : Hid (R = (T s6).1.put (Pr.nd 22 [] [k0, k5, (T s6).2])) := by show _ = _; rw [HR6.out, if_neg (by simp [hVi])]
   have C9 : Hid (Step ts B g L 48 #[.pointer (some ⟨g, 0, none⟩)] d s6 (.int .i64 (T s6).2) d (T s6).1) := CTx.out s6 (hl6.up (by omega))
   have hlen : (T s6).1.out.length ≤ 1000 := by have := (hl6.fn FT.out).len; omega
   generalize (T s6).1 = s9 at *
   generalize (T s6).2 = k9 at *
   clear HR6 hVi CEx CTx
   go_wp2_with fail
   refine (C9.out _ _ _ _ _ HA8.out.here).mono ?_
   rintro e w9 ⟨v9, rfl, a9⟩
   have HK9 : Hid (IRow B w9 _ _) := IRow.at HK8.out HA8.out.rs rfl a9
   have HA9 : Hid (At ts B g L _ w0 v0 w9 d _ v9) := HA8.out.then a9
   clear a9 HA8 HK8 C9
   have hs9 := HA9.out.rs.sz
   go_wp2_with (at_builtin; go_must (refine HK9.out.push rfl _ _ rfl rfl k9 w9.heap.size rfl rfl ?hl ?hb ?_))
   case hl => simp
   case hb => exact hs9
   intro q10 cap10 w10 hrow hq hq2 hsz2 hen hblk
   have hq' : q10 = q6 ∨ w9.heap.size ≤ q10 := hq.imp (fun e => (Option.some.inj e).symm) id
   have HK10 : Hid (IRow B w10 (.slice (some ⟨q10, 0, none⟩) _ cap10) _) := hrow
   have HA10 : Hid (At ts B g L (plus Xs q10) w0 v0 w10 d _ v9) := HA9.out.poke HQ6.out hsz2 hen (fun k hk hne => hblk k hk (fun e => hne (Option.some.inj e).symm)) hq' hq2
   have HX10 : Hid (¬ Xs q10) := fun e => by
    rcases hq' with e2 | e2
    ·rw [e2] at e; exact HX6.out e
    ·have := (HA9.out.sub.rs.xb _ e).2.1; omega
   clear hrow hq hq2 hsz2 hen hblk hq' hs9 HK9 HA9 HQ6 HX6
   have CP := stPut (ts := ts) (B := B) (g := g) (L := L) (d := d) 22 [] [k0, k5, k9] _ _ _ w0 v0 w10 v9 HA10.out.sub hlen (IRow.kf HK10.out HA10.out.rs rfl HX10.out)
   have HCP : Hid (Calls Tryz.prog 49 #[.pointer (some ⟨g, 0, none⟩), .agg #[.int .i64 22, .string ⟨#[]⟩, .slice (some ⟨q10, 0, none⟩) _ cap10]] w10 _) := CP
   clear CP
   go_wp2_with fail
   refine HCP.out.mono ?_
   rintro e w11 ⟨v11, rfl, a11⟩
   have HA11 : Hid _ := a11
   clear a11 HCP
   go_wp2
   go_ret
   rw [HE.out]
   exact ⟨v11, rfl, HA11.out⟩
end
end PartPrL
section PartPrS
namespace Pr
variable {ts : List Tk.Tok} {m : Nat} {st : PS}
theorem want_go {x : List UInt8} (h : st.is ts 5 x = true) : st.want ts x = st.go := by rw [PS.want, if_pos h]
theorem block_prog {T : Rf} (hT : Fn ts m T) (h : st.is ts 5 [123] = true) : st.a < (block ts T st).1.a := by
 have h3 := blockL_mono hT (ts.length + 1) ((st.want ts [123]).ends ts) []
 rw [want_go h] at h3
 have h4 : st.a < (st.go.ends ts).a := Nat.lt_of_lt_of_le (by simp [PS.go]) ends_mono
 unfold block
 rw [want_go h]
 generalize blockL ts T (ts.length + 1) (st.go.ends ts) [] = q at *
 unfold blockEnd
 have h5 : st.a < (q.1.want ts [125]).a := Nat.lt_of_lt_of_le h4 (Nat.le_trans h3 want_mono)
 split
 ·exact h5
 ·exact h5
theorem stmt_prog {E T : Rf} (hE : Fn ts m E) (hT : Fn ts m T) (h : (statementOne ts E T st).1.bad = false) : st.a < (statementOne ts E T st).1.a := by
 have e1 : st.a < st.go.a := by simp [PS.go]
 unfold statementOne at h ⊢
 split
 ·rename_i c; rw [if_pos c] at h; simp [PS.fail] at h
 rename_i c1
 rw [if_neg c1] at h
 split
 ·rename_i c; exact block_prog hT c
 rename_i c2
 rw [if_neg c2] at h
 split
 ·exact Nat.lt_of_lt_of_le e1 (print_mono hE)
 rename_i c3
 rw [if_neg c3] at h
 split
 ·exact e1
 rename_i c4
 rw [if_neg c4] at h
 split
 ·exact Nat.lt_of_lt_of_le e1 (choice_mono hE hT)
 rename_i c5
 rw [if_neg c5] at h
 split
 ·split
  ·exact e1
  ·exact Nat.lt_of_lt_of_le e1 (by simp [PS.go, PS.put])
 rename_i c6
 rw [if_neg c6] at h
 split
 ·exact Nat.lt_of_lt_of_le e1 (setOne_mono hE _)
 ·rename_i c; rw [if_neg c] at h; simp [PS.fail] at h
theorem T_prog (ht : Tsm ts) (hl : ts.length ≤ 200) (n : Nat) (st : PS) (h : (T ts n st).1.bad = false) : st.a < (T ts n st).1.a := by
 cases n with
 | zero => exact absurd h (by show ¬ true = false; simp)
 | succ n => exact stmt_prog ((fnSE ht n).2.up (m' := 6 * n + 5) (by omega)) (fnT ht hl n) h
theorem blockL_end {T : Rf} (f : Nat) (ks : List Int) (h : st.bad = true ∨ st.is ts 5 [125] = true) : blockL ts T f st ks = (st, ks) := by
 cases f with
 | zero => rfl
 | succ f => rw [blockL, if_pos h]
theorem blockL_go {T : Rf} (f : Nat) (ks : List Int) (h1 : st.bad = false) (h2 : st.is ts 5 [125] = false) : blockL ts T (f + 1) st ks = blockL ts T f (behind ts (T st).1) (ks ++ [(T st).2]) := by
 rw [blockL, if_neg (by simp [h1, h2])]
end Pr
end PartPrS
section PartPrM
open Go.RowKit
section
variable {ts : List Tk.Tok} {B g : Nat} {L : Value} {Xs : Nat → Prop} {d : Int} {st : Pr.PS}
set_option maxRecDepth 100000 in
set_option maxHeartbeats 4000000 in
theorem stBlock {m : Nat} {T : Pr.Rf} (hT : Con ts B g L 48 d T) (hFT : Pr.Fn ts m T) (hP : ∀ st, (T st).1.bad = false → st.a < (T st).1.a) (hm : m ≤ 250) (hl : ts.length ≤ 200) (hlm : Pr.Lm ts 280 st) (hd30 : ¬ 30 < d) :
  Step ts B g L 19 #[me g] d st (.int .i64 (Pr.block ts T st).2) d (Pr.block ts T st).1 := by
 intro Xs w0 v0 w v h
 have HA : Hid (At ts B g L Xs w0 v0 w d st v) := h
 have CTx : Hid (∀ s, Pr.Lm ts 300 s → Step ts B g L 48 #[.pointer (some ⟨g, 0, none⟩)] d s (.int .i64 (T s).2) d (T s).1) := fun s hs => hT s hs (fun h => absurd h hd30)
 have FT : Hid (Pr.Fn ts 280 T) := hFT.up (by omega)
 have HP : Hid (∀ st, (T st).1.bad = false → st.a < (T st).1.a) := hP
 have C1 : Hid (Step ts B g L 47 #[me g, .string ⟨#[123]⟩] d st (.tuple #[]) d (st.want ts [123])) := stWant [123] hl hlm.top
 have hl1 := hlm.want (x := [123])
 have C2 : Hid (Step ts B g L 15 #[me g] d (st.want ts [123]) (.int .i64 (((st.want ts [123]).endsN ts : Nat) : Int)) d ((st.want ts [123]).ends ts)) := stEnds hl hl1.top
 have HL2 : Hid (Pr.Lm ts 280 ((st.want ts [123]).ends ts)) := hl1.ends
 obtain ⟨q0, hq0⟩ : ∃ q, q = Pr.blockL ts T (ts.length + 1) ((st.want ts [123]).ends ts) [] := ⟨_, rfl⟩
 obtain ⟨R, hR⟩ : ∃ R, R = Pr.block ts T st := ⟨_, rfl⟩
 rw [← hR]
 have HR : Hid (R = Pr.blockEnd ts q0) := by show _ = _; rw [hR, hq0]; rfl
 have HB0 : Hid (Pr.blockL ts T (ts.length + 1) ((st.want ts [123]).ends ts) [] = q0) := hq0.symm
 generalize (st.want ts [123]).endsN ts = N1 at *
 generalize (st.want ts [123]).ends ts = s2 at *
 generalize st.want ts [123] = s1 at *
 clear h hT hFT hP hR hq0 hlm hl1 hd30
 unfold me at *
 go_enter Tryz.func19, Tryz.ntmps19
 go_wp2_with fail
 refine (C1.out _ _ _ _ _ HA.out).mono ?_
 rintro e w1 ⟨v1, rfl, a1⟩
 have HA1 : Hid (At ts B g L Xs w0 v0 w1 d s1 v1) := a1
 clear a1 HA C1
 have HK2 : Hid (IRow B (w1.alloc (.cells #[] 3)) (.slice (some ⟨w1.heap.size, 0, none⟩) 0 0) []) := IRow.new0 w1 HA1.out.rs.sz
 have HA2 : Hid (At ts B g L (plus Xs w1.heap.size) w0 v0 (w1.alloc (.cells #[] 3)) d s1 v1) := HA1.out.add _
 have HQ2 : Hid (w0.heap.size ≤ w1.heap.size) := HA1.out.kb.2.1
 have HX2 : Hid (¬ Xs w1.heap.size) := fun e => by have := (HA1.out.rs.xb _ e).2.1; omega
 clear HA1
 go_wp2_with fail
 refine (C2.out _ _ _ _ _ HA2.out.here).mono ?_
 rintro e w3 ⟨v3, rfl, a3⟩
 have HK3 : Hid (IRow B w3 (.slice (some ⟨w1.heap.size, 0, none⟩) 0 0) []) := IRow.at HK2.out HA2.out.rs rfl a3
 have HA3 : Hid (At ts B g L (plus Xs w1.heap.size) w0 v0 w3 d s2 v3) := HA2.out.then a3
 clear a3 HA2 HK2 C2
 go_wp2_with fail
 go_loopw [3] (fun u wr => ∃ (st : Pr.PS) (v : Value) (ks : List Int) (f q cap : Nat), u = .slice (some ⟨q, 0, none⟩) ks.length cap ∧ Hid (At ts B g L (plus Xs q) w0 v0 wr d st v) ∧ Hid (IRow B wr (.slice (some ⟨q, 0, none⟩) ks.length cap) ks) ∧ Hid (w0.heap.size ≤ q) ∧ Hid (¬ Xs q) ∧ Hid (Pr.blockL ts T f st ks = q0) ∧ Hid (Pr.Lm ts 280 st) ∧ (st.bad = false → ts.length < st.a + f) ∧ ks.length + f ≤ ts.length + 1) (fun _ wr => leftG g ts.length wr)
 case atStart => exact ⟨s2, v3, [], ts.length + 1, w1.heap.size, 0, rfl, HA3.out, HK3.out, HQ2.out, HX2.out, HB0.out, HL2.out, fun _ => by omega, by simp⟩
 case round =>
  clear HQ2 HX2 HB0 HL2 HA3 HK3
  obtain ⟨st, v, ks, f, q, cap, rfl, HAr, HKr, HQr, HXr, HB, HLM, hf, hkf⟩ := hrel
  obtain ⟨c0, c1, c2, c3, c4, -, -, -, -⟩ := cells5 HAr.out.rs.rg
  clear c0 c1 c2 c4
  cases hbad : st.bad with
  | true =>
   rw [hbad] at c3
   have HE0 : Hid (R = (if 20 < ks.length then (st.want ts [125]).fail else st.want ts [125]).put (Pr.nd 24 [] ks)) := by show _ = _; rw [HR.out, ← HB.out, Pr.blockL_end f ks (.inl hbad)]; rfl
   clear HR hbad
   have C7 : Hid (Step ts B g L 47 #[.pointer (some ⟨g, 0, none⟩), .string ⟨#[125]⟩] d st (.tuple #[]) d (st.want ts [125])) := stWant [125] hl HLM.out.top
   have hlen := (HLM.out.want (x := [125])).len
   clear HLM HB CTx FT HP hf
   generalize st.want ts [125] = s7 at *
   go_wp2_with fail
   refine (C7.out _ _ _ _ _ HAr.out.here).mono ?_
   rintro e w7 ⟨v7, rfl, a7⟩
   have HK7 : Hid (IRow B w7 (.slice (some ⟨q, 0, none⟩) ks.length cap) ks) := IRow.at HKr.out HAr.out.rs rfl a7
   have HA7 : Hid (At ts B g L (plus Xs q) w0 v0 w7 d s7 v7) := HAr.out.then a7
   clear a7 C7
   by_cases h20 : 20 < ks.length
   ·have d20 : decide ((20 : Int) < (ks.length : Int)) = true := decide_eq_true (by omega)
    have HE : Hid (R = s7.fail.put (Pr.nd 24 [] ks)) := by show _ = _; rw [HE0.out, if_pos h20]
    have hlf : s7.fail.out.length = s7.out.length := rfl
    obtain ⟨-, -, -, g3, -, -, -, h3, -⟩ := cells5 HA7.out.rs.rg
    have HK8 : Hid (IRow B (w7.setCell ⟨g, 3, none⟩ (.bool true)) (.slice (some ⟨q, 0, none⟩) ks.length cap) ks) := IRow.at HK7.out HA7.out.rs rfl HA7.out.here.fail
    clear HE0
    have CP := stPut (ts := ts) (B := B) (g := g) (L := L) (d := d) 24 [] ks _ _ _ w0 v0 _ v7 (HA7.out.fail).sub (by omega) (IRow.kf HK8.out (HA7.out.fail).rs rfl HXr.out)
    have HCP : Hid (Calls Tryz.prog 49 #[.pointer (some ⟨g, 0, none⟩), .agg #[.int .i64 24, .string ⟨#[]⟩, .slice (some ⟨q, 0, none⟩) ks.length cap]] (w7.setCell ⟨g, 3, none⟩ (.bool true)) _) := CP
    clear CP
    go_wp2_with fail
    refine HCP.out.mono ?_
    rintro e w9 ⟨v9, rfl, a9⟩
    have HA9 : Hid _ := a9
    clear a9 HCP
    go_wp2
    go_ret
    rw [HE.out]
    exact ⟨v9, rfl, HA9.out⟩
   ·have d20 : decide ((20 : Int) < (ks.length : Int)) = false := decide_eq_false (by omega)
    have HE : Hid (R = s7.put (Pr.nd 24 [] ks)) := by show _ = _; rw [HE0.out, if_neg h20]
    clear HE0
    have CP := stPut (ts := ts) (B := B) (g := g) (L := L) (d := d) 24 [] ks _ _ _ w0 v0 _ v7 (HA7.out).sub (by omega) (IRow.kf HK7.out (HA7.out).rs rfl HXr.out)
    have HCP : Hid (Calls Tryz.prog 49 #[.pointer (some ⟨g, 0, none⟩), .agg #[.int .i64 24, .string ⟨#[]⟩, .slice (some ⟨q, 0, none⟩) ks.length cap]] w7 _) := CP
    clear CP
    go_wp2_with fail
    refine HCP.out.mono ?_
    rintro e w9 ⟨v9, rfl, a9⟩
    have HA9 : Hid _ := a9
    clear a9 HCP
    go_wp2
    go_ret
    rw [HE.out]
    exact ⟨v9, rfl, HA9.out⟩
  | false =>
   rw [hbad] at c3
   have C4 : Hid (Step ts B g L 17 #[.pointer (some ⟨g, 0, none⟩), .int .i64 5, .string ⟨#[125]⟩] d st (.bool (st.is ts 5 [125])) d st) := stIs 5 [125] hl HLM.out.top
   have HLE : Hid (leftG g ts.length wr = ts.length + 1 - st.a) := by
    show _ = _
    rw [HAr.out.rs.left, hbad]
    rfl
   have hf := hf hbad
   have htop := HLM.out.top
   go_wp2_with fail
   refine (C4.out _ _ _ _ _ HAr.out.here).mono ?_
   rintro e w4 ⟨v4, rfl, a4⟩
   have HK4 : Hid (IRow B w4 (.slice (some ⟨q, 0, none⟩) ks.length cap) ks) := IRow.at HKr.out HAr.out.rs rfl a4
   have HA4 : Hid (At ts B g L (plus Xs q) w0 v0 w4 d st v4) := HAr.out.then a4
   clear a4 C4 HKr HAr c3
   cases hV : st.is ts 5 [125] with
   | true =>
    have HE0 : Hid (R = (if 20 < ks.length then (st.want ts [125]).fail else st.want ts [125]).put (Pr.nd 24 [] ks)) := by show _ = _; rw [HR.out, ← HB.out, Pr.blockL_end f ks (.inr hV)]; rfl
    clear HR hbad hV HLE htop
    have C7 : Hid (Step ts B g L 47 #[.pointer (some ⟨g, 0, none⟩), .string ⟨#[125]⟩] d st (.tuple #[]) d (st.want ts [125])) := stWant [125] hl HLM.out.top
    have hlen := (HLM.out.want (x := [125])).len
    clear HLM HB CTx FT HP hf
    generalize st.want ts [125] = s7 at *
    go_wp2_with fail
    refine (C7.out _ _ _ _ _ HA4.out.here).mono ?_
    rintro e w7 ⟨v7, rfl, a7⟩
    have HK7 : Hid (IRow B w7 (.slice (some ⟨q, 0, none⟩) ks.length cap) ks) := IRow.at HK4.out HA4.out.rs rfl a7
    have HA7 : Hid (At ts B g L (plus Xs q) w0 v0 w7 d s7 v7) := HA4.out.then a7
    clear a7 C7
    by_cases h20 : 20 < ks.length
    ·have d20 : decide ((20 : Int) < (ks.length : Int)) = true := decide_eq_true (by omega)
     have HE : Hid (R = s7.fail.put (Pr.nd 24 [] ks)) := by show _ = _; rw [HE0.out, if_pos h20]
     have hlf : s7.fail.out.length = s7.out.length := rfl
     obtain ⟨-, -, -, g3, -, -, -, h3, -⟩ := cells5 HA7.out.rs.rg
     have HK8 : Hid (IRow B (w7.setCell ⟨g, 3, none⟩ (.bool true)) (.slice (some ⟨q, 0, none⟩) ks.length cap) ks) := IRow.at HK7.out HA7.out.rs rfl HA7.out.here.fail
     clear HE0
     have CP := stPut (ts := ts) (B := B) (g := g) (L := L) (d := d) 24 [] ks _ _ _ w0 v0 _ v7 (HA7.out.fail).sub (by omega) (IRow.kf HK8.out (HA7.out.fail).rs rfl HXr.out)
     have HCP : Hid (Calls Tryz.prog 49 #[.pointer (some ⟨g, 0, none⟩), .agg #[.int .i64 24, .string ⟨#[]⟩, .slice (some ⟨q, 0, none⟩) ks.length cap]] (w7.setCell ⟨g, 3, none⟩ (.bool true)) _) := CP
     clear CP
     go_wp2_with fail
     refine HCP.out.mono ?_
     rintro e w9 ⟨v9, rfl, a9⟩
     have HA9 : Hid _ := a9
     clear a9 HCP
     go_wp2
     go_ret
     rw [HE.out]
     exact ⟨v9, rfl, HA9.out⟩
    ·have d20 : decide ((20 : Int) < (ks.length : Int)) = false := decide_eq_false (by omega)
     have HE : Hid (R = s7.put (Pr.nd 24 [] ks)) := by show _ = _; rw [HE0.out, if_neg h20]
     clear HE0
     have CP := stPut (ts := ts) (B := B) (g := g) (L := L) (d := d) 24 [] ks _ _ _ w0 v0 _ v7 (HA7.out).sub (by omega) (IRow.kf HK7.out (HA7.out).rs rfl HXr.out)
     have HCP : Hid (Calls Tryz.prog 49 #[.pointer (some ⟨g, 0, none⟩), .agg #[.int .i64 24, .string ⟨#[]⟩, .slice (some ⟨q, 0, none⟩) ks.length cap]] w7 _) := CP
     clear CP
     go_wp2_with fail
     refine HCP.out.mono ?_
     rintro e w9 ⟨v9, rfl, a9⟩
     have HA9 : Hid _ := a9
     clear a9 HCP
     go_wp2
     go_ret
     rw [HE.out]
     exact ⟨v9, rfl, HA9.out⟩
   | false =>
    obtain ⟨f, rfl⟩ : ∃ f', f = f' + 1 := ⟨f - 1, by omega⟩
    have C5 : Hid (Step ts B g L 48 #[.pointer (some ⟨g, 0, none⟩)] d st (.int .i64 (T st).2) d (T st).1) := CTx.out st (HLM.out.up (by omega))
    have hl5 : Pr.Lm ts 280 (T st).1 := (HLM.out.fn FT.out).up (by omega)
    have hpr := HP.out st
    have hmono := FT.out.mono st
    have HB2 : Hid (Pr.blockL ts T f (Pr.behind ts (T st).1) (ks ++ [(T st).2]) = q0) := by show _ = _; rw [← HB.out, Pr.blockL_go f ks hbad hV]
    generalize (T st).1 = s5 at *
    generalize (T st).2 = k5 at *
    clear HB HLM hbad hV
    go_wp2_with fail
    refine (C5.out _ _ _ _ _ HA4.out.here).mono ?_
    rintro e w5 ⟨v5, rfl, a5⟩
    have HK5 : Hid (IRow B w5 (.slice (some ⟨q, 0, none⟩) ks.length cap) ks) := IRow.at HK4.out HA4.out.rs rfl a5
    have HA5 : Hid (At ts B g L (plus Xs q) w0 v0 w5 d s5 v5) := HA4.out.then a5
    clear a5 C5 HK4 HA4
    have hs5 := HA5.out.rs.sz
    go_wp2_with (at_builtin; go_must (refine HK5.out.push rfl _ _ rfl rfl k5 w5.heap.size rfl rfl ?hl ?hb ?_))
    case hl => omega
    case hb => exact hs5
    intro q6 cap6 w6 hrow hq hq2 hsz2 hen hblk
    have hq' : q6 = q ∨ w5.heap.size ≤ q6 := hq.imp (fun e => (Option.some.inj e).symm) id
    have HA6 : Hid (At ts B g L (plus Xs q6) w0 v0 w6 d s5 v5) := HA5.out.poke HQr.out hsz2 hen (fun k hk hne => hblk k hk (fun e => hne (Option.some.inj e).symm)) hq' hq2
    have HK6 : Hid (IRow B w6 (.slice (some ⟨q6, 0, none⟩) (ks.length + 1) cap6) (ks ++ [k5])) := hrow
    have HQ6 : Hid (w0.heap.size ≤ q6) := by
     show _ ≤ _
     have := HQr.out
     have := HA5.out.kb.2.1
     rcases hq' with e | e <;> omega
    have HX6 : Hid (¬ Xs q6) := fun e => by
     rcases hq' with e2 | e2
     ·rw [e2] at e; exact HXr.out e
     ·have := (HA5.out.sub.rs.xb _ e).2.1; omega
    clear hrow hq hq2 hsz2 hen hblk hq' hs5 HK5 HA5 HQr HXr
    have C6 : Hid (Step ts B g L 15 #[.pointer (some ⟨g, 0, none⟩)] d s5 (.int .i64 ((s5.endsN ts : Nat) : Int)) d (s5.ends ts)) := stEnds hl hl5.top
    have hl6 := hl5.ends
    have hl7 := hl5.behind
    have hbm := Pr.behind_mono (ts := ts) (st := s5)
    have hbh : Pr.behind ts s5 = if s5.endsN ts = 0 ∧ (s5.ends ts).is ts 5 [125] = false then (s5.ends ts).fail else s5.ends ts := rfl
    have hbb : (s5.ends ts).bad = s5.bad := rfl
    have C7 : Hid (Step ts B g L 17 #[.pointer (some ⟨g, 0, none⟩), .int .i64 5, .string ⟨#[125]⟩] d (s5.ends ts) (.bool ((s5.ends ts).is ts 5 [125])) d (s5.ends ts)) := stIs 5 [125] hl hl6.top
    have HLB : Hid (Pr.Lm ts 280 (Pr.behind ts s5)) := hl7
    have HBB : Hid ((Pr.behind ts s5).bad = false → s5.bad = false) := by
     intro h
     rw [hbh] at h
     split at h
     ·simp [Pr.PS.fail] at h
     ·exact h
    generalize s5.ends ts = s6 at *
    generalize s5.endsN ts = N6 at *
    generalize Pr.behind ts s5 = s8 at *
    go_wp2_with fail
    refine (C6.out _ _ _ _ _ HA6.out.here).mono ?_
    rintro e w7 ⟨v7, rfl, a7⟩
    have HK7 : Hid (IRow B w7 (.slice (some ⟨q6, 0, none⟩) (ks.length + 1) cap6) (ks ++ [k5])) := IRow.at HK6.out HA6.out.rs rfl a7
    have HA7 : Hid (At ts B g L (plus Xs q6) w0 v0 w7 d s6 v7) := HA6.out.then a7
    clear a7 C6 HK6 HA6
    by_cases h0 : N6 = 0
    ·have d0 : ((N6 : Int) == 0) = true := beq_iff_eq.2 (by omega)
     go_wp2_with fail
     refine (C7.out _ _ _ _ _ HA7.out.here).mono ?_
     rintro e w8 ⟨v8, rfl, a8⟩
     have HK8 : Hid (IRow B w8 (.slice (some ⟨q6, 0, none⟩) (ks.length + 1) cap6) (ks ++ [k5])) := IRow.at HK7.out HA7.out.rs rfl a8
     have HA8 : Hid (At ts B g L (plus Xs q6) w0 v0 w8 d s6 v8) := HA7.out.then a8
     clear a8 C7 HK7 HA7
     cases hV2 : s6.is ts 5 [125] with
     | true =>
      obtain rfl : s8 = s6 := by rw [hbh, if_neg (by simp [hV2])]
      clear hV2 hbh
      go_wp2
      go_roundw
      case rel => exact ⟨s8, v8, ks ++ [k5], f, q6, cap6, by simp, HA8.out, by simpa using HK8, HQ6.out, HX6.out, HB2.out, HLB.out, fun h => by have := hpr (HBB.out h); omega, by simp; omega⟩
      case measure =>
       rw [HLE.out, HA8.out.rs.left]
       split
       ·omega
       ·rename_i hb; have := hpr (HBB.out (by simpa using hb)); omega
     | false =>
      obtain rfl : s8 = s6.fail := by rw [hbh, if_pos ⟨h0, hV2⟩]
      obtain ⟨-, -, -, g3, -, -, -, h3, -⟩ := cells5 HA8.out.rs.rg
      have HA9 : Hid (At ts B g L (plus Xs q6) w0 v0 (w8.setCell ⟨g, 3, none⟩ (.bool true)) d s6.fail v8) := HA8.out.fail
      have HK9 : Hid (IRow B (w8.setCell ⟨g, 3, none⟩ (.bool true)) (.slice (some ⟨q6, 0, none⟩) (ks.length + 1) cap6) (ks ++ [k5])) := IRow.at HK8.out HA8.out.rs rfl HA8.out.here.fail
      clear hV2 hbh HK8 HA8
      go_wp2
      go_roundw
      case rel => exact ⟨s6.fail, v8, ks ++ [k5], f, q6, cap6, by simp, HA9.out, by simpa using HK9, HQ6.out, HX6.out, HB2.out, HLB.out, fun h => by simp [Pr.PS.fail] at h, by simp; omega⟩
      case measure =>
       rw [HLE.out, HA9.out.rs.left]
       split
       ·omega
       ·rename_i hb; exact absurd rfl hb
    ·have d0 : ((N6 : Int) == 0) = false := beq_eq_false_iff_ne.2 (by omega)
     obtain rfl : s8 = s6 := by rw [hbh, if_neg (fun h => h0 h.1)]
     clear hbh
     go_wp2
     go_roundw
     case rel => exact ⟨s8, v7, ks ++ [k5], f, q6, cap6, by simp, HA7.out, by simpa using HK7, HQ6.out, HX6.out, HB2.out, HLB.out, fun h => by have := hpr (HBB.out h); omega, by simp; omega⟩
     case measure =>
      rw [HLE.out, HA7.out.rs.left]
      split
      ·omega
      ·rename_i hb; have := hpr (HBB.out (by simpa using hb)); omega
end
end PartPrM
end Go.Proofs.YtkfkbdgfnopokaaGreatDoor
