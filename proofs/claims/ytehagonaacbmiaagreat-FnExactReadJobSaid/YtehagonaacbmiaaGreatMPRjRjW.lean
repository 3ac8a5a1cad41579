/- What is read of the bytes of a job: the program's ReadJob. -/
import Derived.Test.YtehagonaacbmiaaGreatMPRjZbc
import Derived.Test.YtehagonaacbmiaaGreatMPRjZax
namespace Go.Proofs.YtehagonaacbmiaaGreat
open Go.RowKit

theorem IW.setN {w W : World} {s : ByteArray} {a : Nat} {b : Bool} (h : IW w W s a b) (p : Addr) (u : Value) (hp : w.heap.size + 2 ≤ p.block) : IW w (W.setCell p u) s a b :=
  ⟨(Below.heap_setCell _ _ _ _ (by omega)).trans h.res, (Below.heap_setCell _ _ _ _ (by omega)).trans h.rd, h.env.setCell (by omega) _⟩
theorem IW.setN10 {w W : World} {s : ByteArray} {a g : Nat} {b : Bool} (h : IW w W s a b) (hp : w.heap.size + 2 ≤ g) (v0 v1 v2 v3 v4 v5 v6 v7 v8 v9 : Value) : IW w ((((((((((W.setCell ⟨g, 0, none⟩ v0).setCell ⟨g, 1, none⟩ v1).setCell ⟨g, 2, none⟩ v2).setCell ⟨g, 3, none⟩ v3).setCell ⟨g, 4, none⟩ v4).setCell ⟨g, 5, none⟩ v5).setCell ⟨g, 6, none⟩ v6).setCell ⟨g, 7, none⟩ v7).setCell ⟨g, 8, none⟩ v8).setCell ⟨g, 9, none⟩ v9) s a b := by
  have h := h.setN ⟨g, 0, none⟩ v0 hp
  have h := h.setN ⟨g, 1, none⟩ v1 hp
  have h := h.setN ⟨g, 2, none⟩ v2 hp
  have h := h.setN ⟨g, 3, none⟩ v3 hp
  have h := h.setN ⟨g, 4, none⟩ v4 hp
  have h := h.setN ⟨g, 5, none⟩ v5 hp
  have h := h.setN ⟨g, 6, none⟩ v6 hp
  have h := h.setN ⟨g, 7, none⟩ v7 hp
  have h := h.setN ⟨g, 8, none⟩ v8 hp
  have h := h.setN ⟨g, 9, none⟩ v9 hp
  exact h
/-- The six rows of a job, each in memory of its own from B on. -/
structure RjRows (B : Nat) (W : World) (tv lv u x nv mv : Value) (ts ns ls : List ByteArray) (xs : List Ins) (P : List Vr) (R : List Cl) : Prop where
  t : TR B W tv ts
  l : IR B W lv xs
  u : VrRow B W u P
  x : ClRow B W x R
  n : TR B W nv ns
  m : TR B W mv ls
theorem RjRows.kq {B : Nat} {W W' : World} {tv lv u x nv mv : Value} {ts ns ls : List ByteArray} {xs : List Ins} {P : List Vr} {R : List Cl} (h : RjRows B W tv lv u x nv mv ts ns ls xs P R) (hk : Kq B W W') : RjRows B W' tv lv u x nv mv ts ns ls xs P R :=
  ⟨row_kq h.t hk (Nat.le_refl _), row_kq h.l hk (Nat.le_refl _), row_kq h.u hk (Nat.le_refl _), row_kq h.x hk (Nat.le_refl _), row_kq h.n hk (Nat.le_refl _), row_kq h.m hk (Nat.le_refl _)⟩
theorem RjRows.at {B : Nat} {W : World} {tv lv u x nv mv : Value} {ts ns ls : List ByteArray} {xs : List Ins} {P : List Vr} {R : List Cl} {l9 u9 : Int} {O : ByteArray} (h : RjRows B W tv lv u x nv mv ts ns ls xs P R) : Jb.At W tv lv u x nv mv ⟨ts, xs, 0, l9, u9, P, R, O, ns, ls⟩ :=
  ⟨h.t.at, h.l.at, (VrRow.in h.u).at, (ClRow.in h.x).at, h.n.at, h.m.at⟩
theorem tl_small {L : List UInt8} {H : List ByteArray → List UInt8 → Prop} {n a : Nat} {ts : List ByteArray} {bad : Bool} (h : Rc.TL L H n n a ts bad) : TsSmall ts ts.length := fun i hi => by
  have : ts.getD i ByteArray.empty ∈ ts := by rw [List.getD_eq_getElem?_getD, List.getElem?_eq_getElem hi]; exact List.getElem_mem _
  have := h.small _ this
  omega
theorem jobSm {ts : List ByteArray} {xs : List Ins} {l u : Int} {P : List Vr} {R : List Cl} {O : ByteArray} {ns ls : List ByteArray} {L : List UInt8} {n1 n2 a3 a4 : Nat} {b3 b4 : Bool} {H1 H2 : List ByteArray → List UInt8 → Prop}
    (h1 : Cd.ok ts xs 0 l u = true) (h2 : St.ok P R O = true) (h3 : Rc.TL L H1 n1 n1 a3 ns b3) (h4 : Rc.TL L H2 n2 n2 a4 ls b4) (h5 : n1 ≤ 20) (h6 : n2 ≤ 20) : Jb.Sm ⟨ts, xs, 0, l, u, P, R, O, ns, ls⟩ := by
  obtain ⟨g1, g2, g3, -⟩ := Cd.ok_facts h1
  obtain ⟨s1, s2, s3, s4, s5⟩ := St.ok_sizes h2
  have e1 := h3.len
  have e2 := h4.len
  have hst : StSmall P R O := by
    refine ⟨by omega, fun i hi => ?_, by omega, fun i hi => ?_, by omega⟩
    · have := s4 i hi; omega
    · have := s5 i hi; omega
  have hts : TsSmall ts ts.length := fun i hi => by have := g1 i hi; omega
  exact ⟨hts, by show ts.length ≤ _; omega, by show xs.length ≤ _; omega, hst, tl_small h3, by show ns.length ≤ _; omega, tl_small h4, by show ls.length ≤ _; omega⟩
theorem jobIs {L t1 t2 : List UInt8} {ts : List ByteArray} {xs : List Ins} {l u : Nat} {P : List Vr} {R : List Cl} {O : ByteArray} {ns ls : List ByteArray} {b4 : Bool} {a4 : Nat} {j : Jb}
    (h : (∃ l u : Nat, Rc.ans t1 = some (j.ts, j.xs, l, u) ∧ j.bg = 0 ∧ j.ln = (l : Int) ∧ j.en = (u : Int)) ∧ Rs.isOf t2 j.vs j.cs j.o ∧ j.ns = ns ∧ j.ls = ls ∧ b4 = false ∧ a4 = L.length)
    (h2 : ∀ q : List ByteArray × List Ins × Nat × Nat, Rc.ans t1 = some q → q = (ts, xs, l, u)) (h4 : ∀ vs cs o, Rs.isOf t2 vs cs o → P = vs ∧ R = cs ∧ O = o) : j = ⟨ts, xs, 0, (l : Int), (u : Int), P, R, O, ns, ls⟩ := by
  obtain ⟨⟨l9, u9, e1, e2, e3, e4⟩, e5, e6, e7, -⟩ := h
  have e8 := h2 _ e1
  obtain ⟨e9, e10, e11⟩ := h4 _ _ _ e5
  obtain ⟨jts, jxs, jbg, jln, jen, jvs, jcs, jo, jns, jls⟩ := j
  simp only [Prod.mk.injEq] at *
  obtain ⟨rfl, rfl, rfl, rfl⟩ := e8
  subst e2 e3 e4 e6 e7 e9 e10 e11
  rfl
/-- What ReadJob answers, its rows in memory of their own. -/
def RdJO (w w' : World) (L : List UInt8) (e : Ending) : Prop := Below w.heap.size w w' ∧ ((∃ tv lv u x nv mv j, Jb.isOf L j ∧ e = .returned (.tuple #[.agg (Jb.cells tv lv u x nv mv j), .bool true]) ∧ Jb.Sm j ∧ RjRows (w.heap.size + 2) w' tv lv u x nv mv j.ts j.ns j.ls j.xs j.vs j.cs ∧ Apart6 (w.heap.size + 2) tv lv u x nv mv) ∨
  ((∀ j, ¬ Jb.isOf L j) ∧ e = .returned (.tuple #[.agg #[.slice none 0 0, .slice none 0 0, .int .i64 0, .int .i64 0, .int .i64 0, .slice none 0 0, .slice none 0 0, .string ⟨#[]⟩, .slice none 0 0, .slice none 0 0], .bool false])))
set_option maxHeartbeats 16000000 in
set_option maxRecDepth 100000 in
theorem imReadJob (s : ByteArray) (w : World) (hs : s.size ≤ 1048576) :
    Calls Tryz.prog 11 #[.string s] w fun e w' => RdJO w w' s.data.toList e := by
  have CS : Hid (∀ (W : World) (a : Nat) (bad : Bool), Br7 W (w.heap.size + 1) s a bad → a ≤ s.size → Calls Tryz.prog 35 #[.pointer (some ⟨w.heap.size + 1, 0, none⟩)] W fun e w' => ∃ (t : List UInt8) (a' : Nat) (bad' : Bool), e = .returned (.string ⟨t.toArray⟩) ∧ W.grownBy w' (some (w.heap.size + 1)) ∧ Br7 w' (w.heap.size + 1) s a' bad' ∧ t.length ≤ 20000 ∧ a' ≤ s.size ∧
      (bad' = false → bad = false ∧ Rc.rs s.data.toList a = some (t, a')) ∧ (bad' = true → bad = true ∨ Rc.rs s.data.toList a = none)) := fun W a bad h ha => imShort1 (w.heap.size + 1) s a bad W h ha hs
  have HSS := hidOfV hs
  have H0 := hidOf9 (IW.start w s)
  go_enter Tryz.func11, Tryz.ntmps11
  go_wp2_with fail
  generalize (w.alloc (.cells #[.slice none 0 0, .slice none 0 0, .int .i64 0, .int .i64 0, .int .i64 0, .slice none 0 0, .slice none 0 0, .string ⟨#[]⟩, .slice none 0 0, .slice none 0 0] 42)).alloc (.cells #[.string s, .int .i64 0, .bool false] 74) = W0 at *
  refine (CS.out W0 0 false H0.out.rd (Nat.zero_le _)).mono ?_
  rintro e w1 ⟨t1, a1, b1, rfl, hg1, hr1, hl1, ha1, hgood1, hbad1⟩
  have H1 := hidOf9 (H0.out.call hg1 hr1)
  have F1 := hidOf9 (And.intro hl1 (And.intro ha1 (And.intro hgood1 hbad1)))
  clear hg1 hr1 hl1 ha1 hgood1 hbad1 H0
  have C2 := hidOf9 (code_own ⟨t1.toArray⟩ w1 (by have := F1.out.1; rw [sz9]; omega))
  go_wp2_with fail
  refine C2.out.mono ?_
  rintro e w2 ⟨tv, lv, ts, xs, l, u, ok1, rfl, ht2, hi2, hb2, hc2, hc2', ho2⟩
  have u2 : Below w2.heap.size w2 (w2.alloc (.cells #[tv, lv, .int .i64 0, .int .i64 (l : Int), .int .i64 (u : Int)] 36)) := (Below.refl _ _).alloc (Nat.le_refl _) _
  have q2 := heap_alloc_new w2 (.cells #[tv, lv, .int .i64 0, .int .i64 (l : Int), .int .i64 (u : Int)] 36)
  have H2 := hidOf9 ((H1.out.up hb2).up u2)
  have hB1 := H1.out.size
  have T2 := hidOf9 (And.intro (row_kq (B := w.heap.size + 2) (row_mono ht2 hB1) (Kq.ofBelow u2) (Nat.le_refl _)) (row_kq (B := w.heap.size + 2) (row_mono hi2 hB1) (Kq.ofBelow u2) (Nat.le_refl _)))
  have F2 := hidOf9 (And.intro hc2 hc2')
  have Q2 := hidOf9 q2
  have hgc2 : w.heap.size + 2 ≤ w2.heap.size := Nat.le_trans hB1 hb2.size
  have GC := hidOf9 hgc2
  have O2 : Hid (∃ c1, w.heap.size + 2 ≤ c1 ∧ c1 ≤ w2.heap.size ∧ OB tv (w.heap.size + 2) c1 ∧ OB lv c1 w2.heap.size) := by
    obtain ⟨c1, p1, p2, p3, p4⟩ := ho2
    exact ⟨c1, by omega, p2, p3.wide hB1 (Nat.le_refl _), p4⟩
  clear ho2
  obtain ⟨ta, tc, rfl⟩ := row_form ht2
  obtain ⟨la, lc, rfl⟩ := row_form hi2
  clear u2 q2 ht2 hi2 hb2 hc2 hc2' H1 C2 hB1 hgc2
  go_wp2_with fail
  generalize w2.alloc (.cells #[.slice ta ts.length tc, .slice la xs.length lc, .int .i64 0, .int .i64 (l : Int), .int .i64 (u : Int)] 36) = W2 at *
  generalize w2.heap.size = gc at *
  refine (CS.out W2 a1 b1 H2.out.rd F1.out.2.1).mono ?_
  rintro e w3 ⟨t2, a2, b2, rfl, hg3, hr3, hl3, ha3, hgood3, hbad3⟩
  have H3 := hidOf9 (H2.out.call hg3 hr3)
  have K3 : Hid (Kq (w.heap.size + 2) W2 w3) := Kq.ofGrown hg3 (by omega)
  have F3 := hidOf9 (And.intro hl3 (And.intro ha3 (And.intro hgood3 hbad3)))
  clear hg3 hr3 hl3 ha3 hgood3 hbad3 H2
  obtain ⟨P, R, O, ok2, hPo, hPu, HP⟩ := rd_own t2
  have C4 := hidOf9 (imReadStore ⟨t2.toArray⟩ w3 (by have := F3.out.1; rw [sz9]; omega))
  have HPR := hidOf9 HP
  have F4 := hidOf9 (And.intro hPo hPu)
  clear HP hPo hPu
  go_wp2_with fail
  refine C4.out.mono ?_
  rintro e w4 h4
  obtain ⟨uv, xv, rfl, hv4, hx4, hb4, ho4⟩ := HPR.out _ _ _ h4
  have u4 : Below w4.heap.size w4 (w4.alloc (.cells #[uv, xv, .string O] 40)) := (Below.refl _ _).alloc (Nat.le_refl _) _
  have q4 := hidOf9 (heap_alloc_new w4 (.cells #[uv, xv, .string O] 40))
  have H4 := hidOf9 ((H3.out.up hb4).up u4)
  have hB3 := H3.out.size
  have K4 : Hid (Kq (w.heap.size + 2) W2 (w4.alloc (.cells #[uv, xv, .string O] 40))) := (K3.out.trans (Kq.ofBelow hb4)).trans (Kq.ofBelow u4)
  have V4 := hidOf9 (And.intro (row_kq (B := w.heap.size + 2) (row_mono hv4 hB3) (Kq.ofBelow u4) (Nat.le_refl _)) (row_kq (B := w.heap.size + 2) (row_mono hx4 hB3) (Kq.ofBelow u4) (Nat.le_refl _)))
  have GS := hidOf9 (Nat.le_trans hB3 hb4.size)
  have O4 : Hid (∃ c3, gc ≤ c3 ∧ c3 ≤ w4.heap.size ∧ OB uv gc c3 ∧ OB xv c3 w4.heap.size) := by
    obtain ⟨c3, p1, p2, p3, p4⟩ := ho4
    have p5 : gc ≤ w3.heap.size := Nat.le_trans (Nat.le_of_lt (blk_lt Q2.out)) K3.out.1
    exact ⟨c3, by omega, p2, p3.wide p5 (Nat.le_refl _), p4⟩
  clear ho4
  obtain ⟨va, vc, rfl⟩ := row_form hv4
  obtain ⟨ra, rc, rfl⟩ := row_form hx4
  clear u4 hv4 hx4 hb4 h4 H3 K3 C4 HPR hB3
  go_wp2_with fail
  generalize w4.alloc (.cells #[.slice va P.length vc, .slice ra R.length rc, .string O] 40) = W4 at *
  generalize w4.heap.size = gs at *
  have QC := hidOf9 ((K4.out.2 gc GC.out (blk_lt Q2.out)).trans Q2.out)
  have T4 := hidOf9 (And.intro (row_kq T2.out.1 K4.out (Nat.le_refl _)) (row_kq T2.out.2 K4.out (Nat.le_refl _)))
  clear T2 Q2 K4
  rename_i Q9 K9 hK9
  have HK9 := Shut9.mk hK9
  clear hK9
  have N12 : Hid (∀ ts0 r, Jb.HN s.data.toList ts0 r → b2 = false ∧ s.data.toList.drop a2 = Pl.vb 8 ts0.length ++ (ts0.flatMap Cd.short ++ r) ∧ ts0.length ≤ 20 ∧ ts0.length ≤ 1000000000 ∧ ∀ i, i < ts0.length → (ts0.getD i ByteArray.empty).size ≤ 20000) := Jb.names_hyp (fun e => (F1.out.2.2.1 e).2) (fun e => (F1.out.2.2.2 e).resolve_left (by simp)) F3.out.2.2.1 F3.out.2.2.2
  have C5 : Hid (∀ W : World, Br7 W (w.heap.size + 1) s a2 b2 → Calls Tryz.prog 37 #[.pointer (some ⟨w.heap.size + 1, 0, none⟩), .int .i64 20] W fun e w' => ∃ (tv : Value) (ts : List ByteArray) (n a' : Nat) (bad' : Bool), e = .returned tv ∧ W.grownBy w' (some (w.heap.size + 1)) ∧ Br7 w' (w.heap.size + 1) s a' bad' ∧ TR W.heap.size w' tv ts ∧ a' ≤ s.size ∧ n ≤ 20 ∧ Rc.TL s.data.toList (Jb.HN s.data.toList) n n a' ts bad' ∧ Rc.CP s.data.toList a2 n a' ts b2 bad') := fun W h => imCounted (w.heap.size + 1) s a2 20 b2 (Jb.HN s.data.toList) W h F3.out.2.1 HSS.out (by omega) N12.out
  have C6 : Hid (∀ (W : World) (ns : List ByteArray) (n a3 : Nat) (b3 : Bool), Rc.TL s.data.toList (Jb.HN s.data.toList) n n a3 ns b3 → a3 ≤ s.size → Br7 W (w.heap.size + 1) s a3 b3 → Calls Tryz.prog 37 #[.pointer (some ⟨w.heap.size + 1, 0, none⟩), .int .i64 20] W fun e w' => ∃ (tv : Value) (ts : List ByteArray) (n a' : Nat) (bad' : Bool), e = .returned tv ∧ W.grownBy w' (some (w.heap.size + 1)) ∧ Br7 w' (w.heap.size + 1) s a' bad' ∧ TR W.heap.size w' tv ts ∧ a' ≤ s.size ∧ n ≤ 20 ∧ Rc.TL s.data.toList (Jb.HL s.data.toList ns) n n a' ts bad' ∧ Rc.CP s.data.toList a3 n a' ts b3 bad') := fun W ns n a3 b3 ht ha h => imCounted (w.heap.size + 1) s a3 20 b3 (Jb.HL s.data.toList ns) W h ha HSS.out (by omega) (Jb.lines_hyp ht)
  have END : Hid (∀ (x0 x1 x5 x7 x10 x11 x12 x13 x14 x15 x16 x17 x18 x19 x20 x21 x22 x23 x24 x25 x26 x27 x28 x29 x30 x31 : Value) (gj : Nat) (na ma : Option Addr) (nc mc : Nat) (ns ls : List ByteArray) (n1 n2 a3 a4 : Nat) (b3 b4 : Bool) (Wf : World), Hid (IW w Wf s a4 b4) → Hid ((w.heap.size + 2) ≤ gj ∧ Wf.heap[gj]? = some (.cells #[.slice ta ts.length tc, .slice la xs.length lc, .int .i64 0, .int .i64 (l : Int), .int .i64 (u : Int), .slice va P.length vc, .slice ra R.length rc, .string O, .slice na ns.length nc, .slice ma ls.length mc] 42 (0, 0))) → Hid (RjRows (w.heap.size + 2) Wf (.slice ta ts.length tc) (.slice la xs.length lc) (.slice va P.length vc) (.slice ra R.length rc) (.slice na ns.length nc) (.slice ma ls.length mc) ts ns ls xs P R) → Hid (Rc.TL s.data.toList (Jb.HN s.data.toList) n1 n1 a3 ns b3 ∧ Rc.TL s.data.toList (Jb.HL s.data.toList ns) n2 n2 a4 ls b4 ∧ Rc.CP s.data.toList a2 n1 a3 ns b2 b3 ∧ Rc.CP s.data.toList a3 n2 a4 ls b3 b4 ∧ a4 ≤ s.size ∧ n1 ≤ 20 ∧ n2 ≤ 20) → Hid (∃ c5 c6, gs ≤ c5 ∧ OB (.slice na ns.length nc) gs c5 ∧ OB (.slice ma ls.length mc) c5 c6) → K9 { tmps := #[x0, x1, .pointer (some ⟨w.heap.size, 0, none⟩), .bool false, .pointer (some ⟨w.heap.size + 1, 0, none⟩), x5, .bool ok1, x7, .bool ok2, .pointer (some ⟨gj, 0, none⟩), x10, x11, x12, x13, x14, x15, x16, x17, x18, x19, x20, x21, x22, x23, x24, x25, x26, x27, x28, x29, x30, x31, undef, undef, undef, undef, undef, undef, undef, undef, undef, undef, undef, undef, undef, undef, undef, undef, undef, undef], defers := [] } Wf) := by
    intro x0 x1 x5 x7 x10 x11 x12 x13 x14 x15 x16 x17 x18 x19 x20 x21 x22 x23 x24 x25 x26 x27 x28 x29 x30 x31 gj na ma nc mc ns ls n1 n2 a3 a4 b3 b4 Wf HI HJ HR HT HO
    have HIS : Hid (∀ j, Jb.isOf s.data.toList j → (∃ l u : Nat, Rc.ans t1 = some (j.ts, j.xs, l, u) ∧ j.bg = 0 ∧ j.ln = (l : Int) ∧ j.en = (u : Int)) ∧ Rs.isOf t2 j.vs j.cs j.o ∧ j.ns = ns ∧ j.ls = ls ∧ b4 = false ∧ a4 = s.data.toList.length) := Jb.read_is (fun e => (F1.out.2.2.1 e).2) (fun e => (F1.out.2.2.2 e).resolve_left (by simp)) F3.out.2.2.1 F3.out.2.2.2 HT.out.1 HT.out.2.1 (by have h := HT.out.2.2.2.2.1; simpa using h)
    refine HK9.out _ _ ?_
    clear HK9 C5 C6 N12
    cases ok1 with
    | false =>
      have zc0 := (blk_cell HI.out.res 0).trans rfl
      have zf0 := blk_free HI.out.res 0
      have zh0 := blk_set HI.out.res 0 (.slice none 0 0)
      have zc1 := (blk_cell zh0 1).trans rfl
      have zf1 := blk_free zh0 1
      have zh1 := blk_set zh0 1 (.slice none 0 0)
      have zc2 := (blk_cell zh1 2).trans rfl
      have zf2 := blk_free zh1 2
      have zh2 := blk_set zh1 2 (.int .i64 0)
      have zc3 := (blk_cell zh2 3).trans rfl
      have zf3 := blk_free zh2 3
      have zh3 := blk_set zh2 3 (.int .i64 0)
      have zc4 := (blk_cell zh3 4).trans rfl
      have zf4 := blk_free zh3 4
      have zh4 := blk_set zh3 4 (.int .i64 0)
      have zc5 := (blk_cell zh4 5).trans rfl
      have zf5 := blk_free zh4 5
      have zh5 := blk_set zh4 5 (.slice none 0 0)
      have zc6 := (blk_cell zh5 6).trans rfl
      have zf6 := blk_free zh5 6
      have zh6 := blk_set zh5 6 (.slice none 0 0)
      have zc7 := (blk_cell zh6 7).trans rfl
      have zf7 := blk_free zh6 7
      have zh7 := blk_set zh6 7 (.string ⟨#[]⟩)
      have zc8 := (blk_cell zh7 8).trans rfl
      have zf8 := blk_free zh7 8
      have zh8 := blk_set zh7 8 (.slice none 0 0)
      have zc9 := (blk_cell zh8 9).trans rfl
      have zf9 := blk_free zh8 9
      have zh9 := blk_set zh8 9 (.slice none 0 0)
      have HZ := hidOfV zh9
      have HZB := hidOfV ((((((((((HI.out.env.setCell (p := ⟨w.heap.size, 0, none⟩) (Nat.le_refl _) (.slice none 0 0)).setCell (p := ⟨w.heap.size, 1, none⟩) (Nat.le_refl _) (.slice none 0 0)).setCell (p := ⟨w.heap.size, 2, none⟩) (Nat.le_refl _) (.int .i64 0)).setCell (p := ⟨w.heap.size, 3, none⟩) (Nat.le_refl _) (.int .i64 0)).setCell (p := ⟨w.heap.size, 4, none⟩) (Nat.le_refl _) (.int .i64 0)).setCell (p := ⟨w.heap.size, 5, none⟩) (Nat.le_refl _) (.slice none 0 0)).setCell (p := ⟨w.heap.size, 6, none⟩) (Nat.le_refl _) (.slice none 0 0)).setCell (p := ⟨w.heap.size, 7, none⟩) (Nat.le_refl _) (.string ⟨#[]⟩)).setCell (p := ⟨w.heap.size, 8, none⟩) (Nat.le_refl _) (.slice none 0 0)).setCell (p := ⟨w.heap.size, 9, none⟩) (Nat.le_refl _) (.slice none 0 0))
      clear zh9
      clear zh0 zh1 zh2 zh3 zh4 zh5 zh6 zh7 zh8
      go_wp2_with fail
      refine bodyPost_ret (res_job rfl _ _ w.heap.size (.slice none 0 0) (.slice none 0 0) (.int .i64 0) (.int .i64 0) (.int .i64 0) (.slice none 0 0) (.slice none 0 0) (.string ⟨#[]⟩) (.slice none 0 0) (.slice none 0 0) rfl HZ.out) rfl ?_
      exact ⟨HZB.out, .inr ⟨fun j hj => by obtain ⟨⟨l9, u9, h, -⟩, -⟩ := HIS.out j hj; exact absurd (F2.out.2 _ h).1 (by simp), rfl⟩⟩
    | true =>
      cases ok2 with
      | false =>
        have zc0 := (blk_cell HI.out.res 0).trans rfl
        have zf0 := blk_free HI.out.res 0
        have zh0 := blk_set HI.out.res 0 (.slice none 0 0)
        have zc1 := (blk_cell zh0 1).trans rfl
        have zf1 := blk_free zh0 1
        have zh1 := blk_set zh0 1 (.slice none 0 0)
        have zc2 := (blk_cell zh1 2).trans rfl
        have zf2 := blk_free zh1 2
        have zh2 := blk_set zh1 2 (.int .i64 0)
        have zc3 := (blk_cell zh2 3).trans rfl
        have zf3 := blk_free zh2 3
        have zh3 := blk_set zh2 3 (.int .i64 0)
        have zc4 := (blk_cell zh3 4).trans rfl
        have zf4 := blk_free zh3 4
        have zh4 := blk_set zh3 4 (.int .i64 0)
        have zc5 := (blk_cell zh4 5).trans rfl
        have zf5 := blk_free zh4 5
        have zh5 := blk_set zh4 5 (.slice none 0 0)
        have zc6 := (blk_cell zh5 6).trans rfl
        have zf6 := blk_free zh5 6
        have zh6 := blk_set zh5 6 (.slice none 0 0)
        have zc7 := (blk_cell zh6 7).trans rfl
        have zf7 := blk_free zh6 7
        have zh7 := blk_set zh6 7 (.string ⟨#[]⟩)
        have zc8 := (blk_cell zh7 8).trans rfl
        have zf8 := blk_free zh7 8
        have zh8 := blk_set zh7 8 (.slice none 0 0)
        have zc9 := (blk_cell zh8 9).trans rfl
        have zf9 := blk_free zh8 9
        have zh9 := blk_set zh8 9 (.slice none 0 0)
        have HZ := hidOfV zh9
        have HZB := hidOfV ((((((((((HI.out.env.setCell (p := ⟨w.heap.size, 0, none⟩) (Nat.le_refl _) (.slice none 0 0)).setCell (p := ⟨w.heap.size, 1, none⟩) (Nat.le_refl _) (.slice none 0 0)).setCell (p := ⟨w.heap.size, 2, none⟩) (Nat.le_refl _) (.int .i64 0)).setCell (p := ⟨w.heap.size, 3, none⟩) (Nat.le_refl _) (.int .i64 0)).setCell (p := ⟨w.heap.size, 4, none⟩) (Nat.le_refl _) (.int .i64 0)).setCell (p := ⟨w.heap.size, 5, none⟩) (Nat.le_refl _) (.slice none 0 0)).setCell (p := ⟨w.heap.size, 6, none⟩) (Nat.le_refl _) (.slice none 0 0)).setCell (p := ⟨w.heap.size, 7, none⟩) (Nat.le_refl _) (.string ⟨#[]⟩)).setCell (p := ⟨w.heap.size, 8, none⟩) (Nat.le_refl _) (.slice none 0 0)).setCell (p := ⟨w.heap.size, 9, none⟩) (Nat.le_refl _) (.slice none 0 0))
        clear zh9
        clear zh0 zh1 zh2 zh3 zh4 zh5 zh6 zh7 zh8
        go_wp2_with fail
        refine bodyPost_ret (res_job rfl _ _ w.heap.size (.slice none 0 0) (.slice none 0 0) (.int .i64 0) (.int .i64 0) (.int .i64 0) (.slice none 0 0) (.slice none 0 0) (.string ⟨#[]⟩) (.slice none 0 0) (.slice none 0 0) rfl HZ.out) rfl ?_
        exact ⟨HZB.out, .inr ⟨fun j hj => by obtain ⟨-, h, -⟩ := HIS.out j hj; exact absurd (F4.out.2 _ _ _ h).1 (by simp), rfl⟩⟩
      | true =>
        have CW := hidOfV (imWhole9 (w.heap.size + 1) s a4 b4 Wf HI.out.rd)
        have HV : Hid ((!b4 && decide (a4 = s.size)) = (!b4 && decide (a4 = s.size))) := rfl
        obtain ⟨V, hV⟩ : ∃ V, V = (!b4 && decide (a4 = s.size)) := ⟨_, rfl⟩
        rw [← hV] at CW
        have HVV := hidOfV hV
        clear hV HV
        go_wp2_with fail
        refine CW.out.mono ?_
        rintro e w7 ⟨rfl, hb7⟩
        have HI7 := hidOfV (HI.out.up hb7)
        have HJ7 := hidOfV (And.intro HJ.out.1 ((hb7.block gj (blk_lt HJ.out.2)).trans HJ.out.2))
        have HR7 := hidOfV (HR.out.kq (Kq.ofBelow hb7))
        clear hb7 CW HI HJ HR
        cases V with
        | false =>
          have zc0 := (blk_cell HI7.out.res 0).trans rfl
          have zf0 := blk_free HI7.out.res 0
          have zh0 := blk_set HI7.out.res 0 (.slice none 0 0)
          have zc1 := (blk_cell zh0 1).trans rfl
          have zf1 := blk_free zh0 1
          have zh1 := blk_set zh0 1 (.slice none 0 0)
          have zc2 := (blk_cell zh1 2).trans rfl
          have zf2 := blk_free zh1 2
          have zh2 := blk_set zh1 2 (.int .i64 0)
          have zc3 := (blk_cell zh2 3).trans rfl
          have zf3 := blk_free zh2 3
          have zh3 := blk_set zh2 3 (.int .i64 0)
          have zc4 := (blk_cell zh3 4).trans rfl
          have zf4 := blk_free zh3 4
          have zh4 := blk_set zh3 4 (.int .i64 0)
          have zc5 := (blk_cell zh4 5).trans rfl
          have zf5 := blk_free zh4 5
          have zh5 := blk_set zh4 5 (.slice none 0 0)
          have zc6 := (blk_cell zh5 6).trans rfl
          have zf6 := blk_free zh5 6
          have zh6 := blk_set zh5 6 (.slice none 0 0)
          have zc7 := (blk_cell zh6 7).trans rfl
          have zf7 := blk_free zh6 7
          have zh7 := blk_set zh6 7 (.string ⟨#[]⟩)
          have zc8 := (blk_cell zh7 8).trans rfl
          have zf8 := blk_free zh7 8
          have zh8 := blk_set zh7 8 (.slice none 0 0)
          have zc9 := (blk_cell zh8 9).trans rfl
          have zf9 := blk_free zh8 9
          have zh9 := blk_set zh8 9 (.slice none 0 0)
          have HZ := hidOfV zh9
          have HZB := hidOfV ((((((((((HI7.out.env.setCell (p := ⟨w.heap.size, 0, none⟩) (Nat.le_refl _) (.slice none 0 0)).setCell (p := ⟨w.heap.size, 1, none⟩) (Nat.le_refl _) (.slice none 0 0)).setCell (p := ⟨w.heap.size, 2, none⟩) (Nat.le_refl _) (.int .i64 0)).setCell (p := ⟨w.heap.size, 3, none⟩) (Nat.le_refl _) (.int .i64 0)).setCell (p := ⟨w.heap.size, 4, none⟩) (Nat.le_refl _) (.int .i64 0)).setCell (p := ⟨w.heap.size, 5, none⟩) (Nat.le_refl _) (.slice none 0 0)).setCell (p := ⟨w.heap.size, 6, none⟩) (Nat.le_refl _) (.slice none 0 0)).setCell (p := ⟨w.heap.size, 7, none⟩) (Nat.le_refl _) (.string ⟨#[]⟩)).setCell (p := ⟨w.heap.size, 8, none⟩) (Nat.le_refl _) (.slice none 0 0)).setCell (p := ⟨w.heap.size, 9, none⟩) (Nat.le_refl _) (.slice none 0 0))
          clear zh9
          clear zh0 zh1 zh2 zh3 zh4 zh5 zh6 zh7 zh8
          go_wp2_with fail
          refine bodyPost_ret (res_job rfl _ _ w.heap.size (.slice none 0 0) (.slice none 0 0) (.int .i64 0) (.int .i64 0) (.int .i64 0) (.slice none 0 0) (.slice none 0 0) (.string ⟨#[]⟩) (.slice none 0 0) (.slice none 0 0) rfl HZ.out) rfl ?_
          exact ⟨HZB.out, .inr ⟨fun j hj => by obtain ⟨-, -, -, -, h1, h2⟩ := HIS.out j hj; have h3 := HVV.out; rw [h1, h2] at h3; simp at h3, rfl⟩⟩
        | true =>
          have HBE := hidOfV (show b4 = false ∧ a4 = s.size from by have h3 := HVV.out; simpa using h3.symm)
          have hA9 : Rc.ans t1 = some (ts, xs, l, u) := by have h := F2.out.1; simpa using h
          have hR9 : Rs.isOf t2 P R O := by have h := F4.out.1; simpa using h
          have HA9 := hidOfV hA9
          have HR9 := hidOfV hR9
          clear hA9 hR9
          have HJS : Hid (Jb.Sm ⟨ts, xs, 0, (l : Int), (u : Int), P, R, O, ns, ls⟩) := jobSm (Rc.ans_bytes HA9.out).1 HR9.out.1 HT.out.1 HT.out.2.1 HT.out.2.2.2.2.2.1 HT.out.2.2.2.2.2.2
          have CJ : Hid (Calls Tryz.prog 8 #[.agg #[.slice ta ts.length tc, .slice la xs.length lc, .int .i64 0, .int .i64 (l : Int), .int .i64 (u : Int), .slice va P.length vc, .slice ra R.length rc, .string O, .slice na ns.length nc, .slice ma ls.length mc]] w7 fun e w' => e = .returned (.bool (Jb.ok ⟨ts, xs, 0, (l : Int), (u : Int), P, R, O, ns, ls⟩)) ∧ Below w7.heap.size w7 w') := imJobOk _ _ _ _ _ _ ⟨ts, xs, 0, (l : Int), (u : Int), P, R, O, ns, ls⟩ w7 HR7.out.at HJS.out
          obtain ⟨U, hU⟩ : ∃ U, U = Jb.ok ⟨ts, xs, 0, (l : Int), (u : Int), P, R, O, ns, ls⟩ := ⟨_, rfl⟩
          rw [← hU] at CJ
          have HUU := hidOfV hU
          clear hU
          have y0 := (blk_cell HJ7.out.2 0).trans rfl
          have y1 := (blk_cell HJ7.out.2 1).trans rfl
          have y2 := (blk_cell HJ7.out.2 2).trans rfl
          have y3 := (blk_cell HJ7.out.2 3).trans rfl
          have y4 := (blk_cell HJ7.out.2 4).trans rfl
          have y5 := (blk_cell HJ7.out.2 5).trans rfl
          have y6 := (blk_cell HJ7.out.2 6).trans rfl
          have y7 := (blk_cell HJ7.out.2 7).trans rfl
          have y8 := (blk_cell HJ7.out.2 8).trans rfl
          have y9 := (blk_cell HJ7.out.2 9).trans rfl
          go_wp2_with fail
          refine CJ.out.mono ?_
          rintro e w8 ⟨rfl, hb8⟩
          have HI8 := hidOfV (HI7.out.up hb8)
          have HJ8 := hidOfV (And.intro HJ7.out.1 ((hb8.block gj (blk_lt HJ7.out.2)).trans HJ7.out.2))
          have HR8 := hidOfV (HR7.out.kq (Kq.ofBelow hb8))
          clear hb8 CJ HI7 HJ7 HR7 y0 y1 y2 y3 y4 y5 y6 y7 y8 y9
          cases U with
          | false =>
            have zc0 := (blk_cell HI8.out.res 0).trans rfl
            have zf0 := blk_free HI8.out.res 0
            have zh0 := blk_set HI8.out.res 0 (.slice none 0 0)
            have zc1 := (blk_cell zh0 1).trans rfl
            have zf1 := blk_free zh0 1
            have zh1 := blk_set zh0 1 (.slice none 0 0)
            have zc2 := (blk_cell zh1 2).trans rfl
            have zf2 := blk_free zh1 2
            have zh2 := blk_set zh1 2 (.int .i64 0)
            have zc3 := (blk_cell zh2 3).trans rfl
            have zf3 := blk_free zh2 3
            have zh3 := blk_set zh2 3 (.int .i64 0)
            have zc4 := (blk_cell zh3 4).trans rfl
            have zf4 := blk_free zh3 4
            have zh4 := blk_set zh3 4 (.int .i64 0)
            have zc5 := (blk_cell zh4 5).trans rfl
            have zf5 := blk_free zh4 5
            have zh5 := blk_set zh4 5 (.slice none 0 0)
            have zc6 := (blk_cell zh5 6).trans rfl
            have zf6 := blk_free zh5 6
            have zh6 := blk_set zh5 6 (.slice none 0 0)
            have zc7 := (blk_cell zh6 7).trans rfl
            have zf7 := blk_free zh6 7
            have zh7 := blk_set zh6 7 (.string ⟨#[]⟩)
            have zc8 := (blk_cell zh7 8).trans rfl
            have zf8 := blk_free zh7 8
            have zh8 := blk_set zh7 8 (.slice none 0 0)
            have zc9 := (blk_cell zh8 9).trans rfl
            have zf9 := blk_free zh8 9
            have zh9 := blk_set zh8 9 (.slice none 0 0)
            have HZ := hidOfV zh9
            have HZB := hidOfV ((((((((((HI8.out.env.setCell (p := ⟨w.heap.size, 0, none⟩) (Nat.le_refl _) (.slice none 0 0)).setCell (p := ⟨w.heap.size, 1, none⟩) (Nat.le_refl _) (.slice none 0 0)).setCell (p := ⟨w.heap.size, 2, none⟩) (Nat.le_refl _) (.int .i64 0)).setCell (p := ⟨w.heap.size, 3, none⟩) (Nat.le_refl _) (.int .i64 0)).setCell (p := ⟨w.heap.size, 4, none⟩) (Nat.le_refl _) (.int .i64 0)).setCell (p := ⟨w.heap.size, 5, none⟩) (Nat.le_refl _) (.slice none 0 0)).setCell (p := ⟨w.heap.size, 6, none⟩) (Nat.le_refl _) (.slice none 0 0)).setCell (p := ⟨w.heap.size, 7, none⟩) (Nat.le_refl _) (.string ⟨#[]⟩)).setCell (p := ⟨w.heap.size, 8, none⟩) (Nat.le_refl _) (.slice none 0 0)).setCell (p := ⟨w.heap.size, 9, none⟩) (Nat.le_refl _) (.slice none 0 0))
            clear zh9
            clear zh0 zh1 zh2 zh3 zh4 zh5 zh6 zh7 zh8
            go_wp2_with fail
            refine bodyPost_ret (res_job rfl _ _ w.heap.size (.slice none 0 0) (.slice none 0 0) (.int .i64 0) (.int .i64 0) (.int .i64 0) (.slice none 0 0) (.slice none 0 0) (.string ⟨#[]⟩) (.slice none 0 0) (.slice none 0 0) rfl HZ.out) rfl ?_
            exact ⟨HZB.out, .inr ⟨fun j hj => by have h := jobIs (HIS.out j hj) (fun q hq => (F2.out.2 q hq).2) (fun vs cs o h => (F4.out.2 vs cs o h).2); rw [h] at hj; have h2 := HUU.out; rw [hj.1] at h2; simp at h2, rfl⟩⟩
          | true =>
            have y0 := (blk_cell HJ8.out.2 0).trans rfl
            have y1 := (blk_cell HJ8.out.2 1).trans rfl
            have y2 := (blk_cell HJ8.out.2 2).trans rfl
            have y3 := (blk_cell HJ8.out.2 3).trans rfl
            have y4 := (blk_cell HJ8.out.2 4).trans rfl
            have y5 := (blk_cell HJ8.out.2 5).trans rfl
            have y6 := (blk_cell HJ8.out.2 6).trans rfl
            have y7 := (blk_cell HJ8.out.2 7).trans rfl
            have y8 := (blk_cell HJ8.out.2 8).trans rfl
            have y9 := (blk_cell HJ8.out.2 9).trans rfl
            have zc0 := (blk_cell HI8.out.res 0).trans rfl
            have zf0 := blk_free HI8.out.res 0
            have zh0 := blk_set HI8.out.res 0 (.slice ta ts.length tc)
            have zc1 := (blk_cell zh0 1).trans rfl
            have zf1 := blk_free zh0 1
            have zh1 := blk_set zh0 1 (.slice la xs.length lc)
            have zc2 := (blk_cell zh1 2).trans rfl
            have zf2 := blk_free zh1 2
            have zh2 := blk_set zh1 2 (.int .i64 0)
            have zc3 := (blk_cell zh2 3).trans rfl
            have zf3 := blk_free zh2 3
            have zh3 := blk_set zh2 3 (.int .i64 (l : Int))
            have zc4 := (blk_cell zh3 4).trans rfl
            have zf4 := blk_free zh3 4
            have zh4 := blk_set zh3 4 (.int .i64 (u : Int))
            have zc5 := (blk_cell zh4 5).trans rfl
            have zf5 := blk_free zh4 5
            have zh5 := blk_set zh4 5 (.slice va P.length vc)
            have zc6 := (blk_cell zh5 6).trans rfl
            have zf6 := blk_free zh5 6
            have zh6 := blk_set zh5 6 (.slice ra R.length rc)
            have zc7 := (blk_cell zh6 7).trans rfl
            have zf7 := blk_free zh6 7
            have zh7 := blk_set zh6 7 (.string O)
            have zc8 := (blk_cell zh7 8).trans rfl
            have zf8 := blk_free zh7 8
            have zh8 := blk_set zh7 8 (.slice na ns.length nc)
            have zc9 := (blk_cell zh8 9).trans rfl
            have zf9 := blk_free zh8 9
            have zh9 := blk_set zh8 9 (.slice ma ls.length mc)
            have HZ := hidOfV (blkSet10 HI8.out.res (.slice ta ts.length tc) (.slice la xs.length lc) (.int .i64 0) (.int .i64 (l : Int)) (.int .i64 (u : Int)) (.slice va P.length vc) (.slice ra R.length rc) (.string O) (.slice na ns.length nc) (.slice ma ls.length mc))
            have HZB := hidOfV ((((((((((HI8.out.env.setCell (p := ⟨w.heap.size, 0, none⟩) (Nat.le_refl _) (.slice ta ts.length tc)).setCell (p := ⟨w.heap.size, 1, none⟩) (Nat.le_refl _) (.slice la xs.length lc)).setCell (p := ⟨w.heap.size, 2, none⟩) (Nat.le_refl _) (.int .i64 0)).setCell (p := ⟨w.heap.size, 3, none⟩) (Nat.le_refl _) (.int .i64 (l : Int))).setCell (p := ⟨w.heap.size, 4, none⟩) (Nat.le_refl _) (.int .i64 (u : Int))).setCell (p := ⟨w.heap.size, 5, none⟩) (Nat.le_refl _) (.slice va P.length vc)).setCell (p := ⟨w.heap.size, 6, none⟩) (Nat.le_refl _) (.slice ra R.length rc)).setCell (p := ⟨w.heap.size, 7, none⟩) (Nat.le_refl _) (.string O)).setCell (p := ⟨w.heap.size, 8, none⟩) (Nat.le_refl _) (.slice na ns.length nc)).setCell (p := ⟨w.heap.size, 9, none⟩) (Nat.le_refl _) (.slice ma ls.length mc))
            have HRZ := hidOfV (HR8.out.kq (Kq.set10 (show w.heap.size < w.heap.size + 2 by omega) (.slice ta ts.length tc) (.slice la xs.length lc) (.int .i64 0) (.int .i64 (l : Int)) (.int .i64 (u : Int)) (.slice va P.length vc) (.slice ra R.length rc) (.string O) (.slice na ns.length nc) (.slice ma ls.length mc)))
            clear zh9
            clear zh0 zh1 zh2 zh3 zh4 zh5 zh6 zh7 zh8
            go_wp2_with fail
            refine bodyPost_ret (res_job rfl _ _ w.heap.size (.slice ta ts.length tc) (.slice la xs.length lc) (.int .i64 0) (.int .i64 (l : Int)) (.int .i64 (u : Int)) (.slice va P.length vc) (.slice ra R.length rc) (.string O) (.slice na ns.length nc) (.slice ma ls.length mc) rfl HZ.out) rfl ?_
            have hyes : Jb.isOf s.data.toList ⟨ts, xs, 0, (l : Int), (u : Int), P, R, O, ns, ls⟩ := by
              obtain ⟨rfl, e4⟩ := HBE.out
              exact Jb.read_yes (fun e => (F1.out.2.2.1 e).2) F3.out.2.2.1 F3.out.1 HT.out.2.2.1 HT.out.2.2.2.1 HT.out.1.len HT.out.2.1.len (by rw [e4]; simp) (Rc.ans_bytes HA9.out).2 HR9.out.2 HUU.out.symm
            have hap : Apart6 (w.heap.size + 2) (.slice ta ts.length tc) (.slice la xs.length lc) (.slice va P.length vc) (.slice ra R.length rc) (.slice na ns.length nc) (.slice ma ls.length mc) := by
              obtain ⟨c1, p1, p2, p3, p4⟩ := O2.out
              obtain ⟨c3, r1, r2, r3, r4⟩ := O4.out
              obtain ⟨c5, c6, q1, q2, q3⟩ := HO.out
              exact ⟨c1, gc, c3, gs, c5, c6, p3, p4, r3, r4, q2, q3, p1, p2, r1, r2, q1⟩
            exact ⟨HZB.out, .inl ⟨.slice ta ts.length tc, .slice la xs.length lc, .slice va P.length vc, .slice ra R.length rc, .slice na ns.length nc, .slice ma ls.length mc, ⟨ts, xs, 0, (l : Int), (u : Int), P, R, O, ns, ls⟩, hyes, rfl, HJS.out, HRZ.out, hap⟩⟩
  have SK : Hid (∀ W, Kq (w.heap.size + 2) W4 W → (W.cell? ⟨gc, 0, none⟩ = some (.slice ta ts.length tc) ∧ W.cell? ⟨gc, 1, none⟩ = some (.slice la xs.length lc) ∧ W.cell? ⟨gc, 2, none⟩ = some (.int .i64 0) ∧ W.cell? ⟨gc, 3, none⟩ = some (.int .i64 (l : Int)) ∧ W.cell? ⟨gc, 4, none⟩ = some (.int .i64 (u : Int)) ∧ W.cell? ⟨gs, 0, none⟩ = some (.slice va P.length vc) ∧ W.cell? ⟨gs, 1, none⟩ = some (.slice ra R.length rc) ∧ W.cell? ⟨gs, 2, none⟩ = some (.string O)) ∧ Hid (Kq (w.heap.size + 2) W4 W)) := fun W hk => by
    have e1 := (hk.2 gc GC.out (blk_lt QC.out)).trans QC.out
    have e2 := (hk.2 gs GS.out (blk_lt q4.out)).trans q4.out
    exact ⟨⟨(blk_cell e1 0).trans rfl, (blk_cell e1 1).trans rfl, (blk_cell e1 2).trans rfl, (blk_cell e1 3).trans rfl, (blk_cell e1 4).trans rfl, (blk_cell e2 0).trans rfl, (blk_cell e2 1).trans rfl, (blk_cell e2 2).trans rfl⟩, hk⟩
  have KD : Hid (Kq (w.heap.size + 2) W4 W4.drew) := ⟨Nat.le_refl _, fun _ _ _ => rfl⟩
  have HI0 := hidOfV (H4.out.up ((Below.refl _ _).drew))
  have HS0 := hidOfV (SK.out _ KD.out)
  refine wp_region_noPanic ?_
  refine wp_region_held_drew (S := (fun W => (W.cell? ⟨gc, 0, none⟩ = some (.slice ta ts.length tc) ∧ W.cell? ⟨gc, 1, none⟩ = some (.slice la xs.length lc) ∧ W.cell? ⟨gc, 2, none⟩ = some (.int .i64 0) ∧ W.cell? ⟨gc, 3, none⟩ = some (.int .i64 (l : Int)) ∧ W.cell? ⟨gc, 4, none⟩ = some (.int .i64 (u : Int)) ∧ W.cell? ⟨gs, 0, none⟩ = some (.slice va P.length vc) ∧ W.cell? ⟨gs, 1, none⟩ = some (.slice ra R.length rc) ∧ W.cell? ⟨gs, 2, none⟩ = some (.string O)) ∧ Hid (Kq (w.heap.size + 2) W4 W))) (by kernel_rfl) HS0.out (fun _ => ?_)
  generalize W4.drew = Wd at *
  have HSS := hidOfV HS0.out
  clear HS0 H4
  refine wpAnyH_take (i := 0) (v := ?_) rfl (by kernel_rfl) (by kernel_rfl) (by kernel_rfl) (fun _ _ _ h => h) (Or.inl ⟨by kernel_rfl, ?_⟩) HSS.out ?_
  rotate_left
  · (intro u9 hSw; (try dsimp only at hSw); go_simp; try with_reducible rfl)
  try show wpAnyH _ _ _ _ _ _ _ (Act.put _ (some 25) _) _
  (try simp only [Act.put]); (try simp only [List.setIfInBounds_toArray]); (try simp only [List.set_cons_succ, List.set_cons_zero])
  refine wpAnyH_take (i := 1) (v := ?_) rfl (by kernel_rfl) (by kernel_rfl) (by kernel_rfl) (fun _ _ _ h => h) (Or.inl ⟨by kernel_rfl, ?_⟩) HSS.out ?_
  rotate_left
  · (intro u9 hSw; (try dsimp only at hSw); go_simp; try with_reducible rfl)
  try show wpAnyH _ _ _ _ _ _ _ (Act.put _ (some 26) _) _
  (try simp only [Act.put]); (try simp only [List.setIfInBounds_toArray]); (try simp only [List.set_cons_succ, List.set_cons_zero])
  refine wpAnyH_take (i := 2) (v := ?_) rfl (by kernel_rfl) (by kernel_rfl) (by kernel_rfl) (fun _ _ _ h => h) (Or.inl ⟨by kernel_rfl, ?_⟩) HSS.out ?_
  rotate_left
  · (intro u9 hSw; (try dsimp only at hSw); go_simp; try with_reducible rfl)
  try show wpAnyH _ _ _ _ _ _ _ (Act.put _ (some 27) _) _
  (try simp only [Act.put]); (try simp only [List.setIfInBounds_toArray]); (try simp only [List.set_cons_succ, List.set_cons_zero])
  refine wpAnyH_take (i := 4) (v := ?_) rfl (by kernel_rfl) (by kernel_rfl) (by kernel_rfl) (fun _ _ _ h => h) (Or.inl ⟨by kernel_rfl, ?_⟩) HSS.out ?_
  rotate_left
  · (intro u9 hSw; (try dsimp only at hSw); go_simp; try with_reducible rfl)
  try show wpAnyH _ _ _ _ _ _ _ (Act.put _ (some 29) _) _
  (try simp only [Act.put]); (try simp only [List.setIfInBounds_toArray]); (try simp only [List.set_cons_succ, List.set_cons_zero])
  refine wpAnyH_ready (rs := [3, 7]) (by kernel_rfl) (by simp) ?_
  refine (AllReadyH.cons rfl (fun K hK => ?_) (AllReadyH.cons rfl (fun K hK => ?_) AllReadyH.nil))
  · go_simp
    go_at_call 37
    refine (C5.out _ HI0.out.rd).mono ?_
    rintro e w5 ⟨nv, ns, n1, a3, b3, rfl, hg5, hr5, hn5, ha3, hn1, htl, hcp⟩
    obtain ⟨na, nc, rfl⟩ := row_form hn5
    have HI5 := hidOfV (HI0.out.call hg5 hr5)
    have KQ5 := hidOfV (KD.out.trans (Kq.ofGrown hg5 (show (w.heap.size + 1) < (w.heap.size + 2) by omega)))
    have HN5 : Hid (TR (w.heap.size + 2) w5 (.slice na ns.length nc) ns) := row_mono hn5 HI0.out.size
    have ON5 : Hid (OB (.slice na ns.length nc) gs w5.heap.size ∧ gs ≤ w5.heap.size) := ⟨(OB.row hn5).wide (Nat.le_trans (Nat.le_of_lt (blk_lt q4.out)) KD.out.1) (Nat.le_refl _), Nat.le_trans (Nat.le_of_lt (blk_lt q4.out)) KQ5.out.1⟩
    have T5 := hidOfV (And.intro htl (And.intro hcp (And.intro ha3 hn1)))
    clear hg5 hr5 hn5 ha3 hn1 htl hcp
    try dsimp only
    refine hK.out _ _ (SK.out _ KQ5.out) (fun _ => ?_)
    clear hK K HSS
    have HSS := hidOfV (SK.out _ KQ5.out)
    try show wpAnyH _ _ _ _ _ _ _ (Act.put _ (some 28) _) _
    (try simp only [Act.put]); (try simp only [List.setIfInBounds_toArray]); (try simp only [List.set_cons_succ, List.set_cons_zero])
    refine wpAnyH_ready (rs := [5, 7]) (by kernel_rfl) (by simp) ?_
    refine (AllReadyH.cons rfl (fun K hK => ?_) (AllReadyH.cons rfl (fun K hK => ?_) AllReadyH.nil))
    · go_simp
      go_at_call 37
      refine (C6.out _ ns n1 a3 b3 T5.out.1 T5.out.2.2.1 HI5.out.rd).mono ?_
      rintro e w6 ⟨mv, ls, n2, a4, b4, rfl, hg6, hr6, hm6, ha4, hn2, htl2, hcp2⟩
      obtain ⟨ma, mc, rfl⟩ := row_form hm6
      have HI6 := hidOfV (HI5.out.call hg6 hr6)
      have KQ6 := hidOfV (KQ5.out.trans (Kq.ofGrown hg6 (show (w.heap.size + 1) < (w.heap.size + 2) by omega)))
      have HN6 : Hid (TR (w.heap.size + 2) w6 (.slice na ns.length nc) ns) := row_kq HN5.out (Kq.ofGrown hg6 (show (w.heap.size + 1) < (w.heap.size + 2) by omega)) (Nat.le_refl _)
      have HM6 : Hid (TR (w.heap.size + 2) w6 (.slice ma ls.length mc) ls) := row_mono hm6 HI5.out.size
      have OM6 : Hid (∃ c5 c6, gs ≤ c5 ∧ OB (.slice na ns.length nc) gs c5 ∧ OB (.slice ma ls.length mc) c5 c6) := ⟨_, _, ON5.out.2, ON5.out.1, (OB.row hm6).wide (Nat.le_refl _) (Nat.le_refl _)⟩
      have T6 := hidOfV (And.intro htl2 (And.intro hcp2 (And.intro ha4 hn2)))
      clear hg6 hr6 hm6 ha4 hn2 htl2 hcp2
      try dsimp only
      refine hK.out _ _ (SK.out _ KQ6.out) (fun _ => ?_)
      clear hK K HSS
      have HSS := hidOfV (SK.out _ KQ6.out)
      try show wpAnyH _ _ _ _ _ _ _ (Act.put _ (some 30) _) _
      (try simp only [Act.put]); (try simp only [List.setIfInBounds_toArray]); (try simp only [List.set_cons_succ, List.set_cons_zero])
      refine wpAnyH_take (i := 6) (v := ?_) rfl (by kernel_rfl) (by kernel_rfl) (by kernel_rfl) (fun _ _ _ h => h) (Or.inl ⟨by kernel_rfl, ?_⟩) HSS.out ?_
      rotate_left
      · (intro u9 hSw; (try dsimp only at hSw); go_simp; try with_reducible rfl)
      try show wpAnyH _ _ _ _ _ _ _ (Act.put _ (some 31) _) _
      (try simp only [Act.put]); (try simp only [List.setIfInBounds_toArray]); (try simp only [List.set_cons_succ, List.set_cons_zero])
      refine wpAnyH_ready (rs := [7]) (by kernel_rfl) (by simp) ?_
      refine (AllReadyH.cons rfl (fun K hK => ?_) AllReadyH.nil)
      go_simp
      have ua := (Below.refl w6.heap.size w6).alloc (Nat.le_refl _) (.cells #[.slice none 0 0, .slice none 0 0, .int .i64 0, .int .i64 0, .int .i64 0, .slice none 0 0, .slice none 0 0, .string ⟨#[]⟩, .slice none 0 0, .slice none 0 0] 42)
      have HIac := hidOfV (HI6.out.up ua)
      have KQac := hidOfV (KQ6.out.trans (Kq.ofBelow ua))
      have HJac := hidOfV (And.intro (show (w.heap.size + 2) ≤ w6.heap.size from HI6.out.size) (And.intro (heap_alloc_new w6 (.cells #[.slice none 0 0, .slice none 0 0, .int .i64 0, .int .i64 0, .int .i64 0, .slice none 0 0, .slice none 0 0, .string ⟨#[]⟩, .slice none 0 0, .slice none 0 0] 42)) (show W4.heap.size ≤ w6.heap.size from KQ6.out.1)))
      have NEac := hidOfV (fun q hq => ne8 (World.ownsRow.lt HN6.out q hq).2)
      have HNac := hidOfV (row_kq HN6.out (Kq.ofBelow ua) (Nat.le_refl (w.heap.size + 2)))
      have MEac := hidOfV (fun q hq => ne8 (World.ownsRow.lt HM6.out q hq).2)
      have HMac := hidOfV (row_kq HM6.out (Kq.ofBelow ua) (Nat.le_refl (w.heap.size + 2)))
      clear ua
      try dsimp only
      refine hK.out _ _ (SK.out _ KQac.out) (fun _ => ?_)
      clear hK K HSS
      have HSS := hidOfV (SK.out _ KQac.out)
      try show wpAnyH _ _ _ _ _ _ _ (Act.put _ (some 9) _) _
      (try simp only [Act.put]); (try simp only [List.setIfInBounds_toArray]); (try simp only [List.set_cons_succ, List.set_cons_zero])
      generalize w6.alloc (.cells #[.slice none 0 0, .slice none 0 0, .int .i64 0, .int .i64 0, .int .i64 0, .slice none 0 0, .slice none 0 0, .string ⟨#[]⟩, .slice none 0 0, .slice none 0 0] 42) = Wac at *
      generalize w6.heap.size = gj at *
      refine wpAnyH_ready (rs := [8]) (by kernel_rfl) (by simp) ?_
      refine (AllReadyH.cons rfl (fun K hK => ?_) AllReadyH.nil)
      have zc0 := (blk_cell HJac.out.2.1 0).trans rfl
      have zf0 := blk_free HJac.out.2.1 0
      have zh0 := blk_set HJac.out.2.1 0 (.slice ta ts.length tc)
      have zc1 := (blk_cell zh0 1).trans rfl
      have zf1 := blk_free zh0 1
      have zh1 := blk_set zh0 1 (.slice la xs.length lc)
      have zc2 := (blk_cell zh1 2).trans rfl
      have zf2 := blk_free zh1 2
      have zh2 := blk_set zh1 2 (.int .i64 0)
      have zc3 := (blk_cell zh2 3).trans rfl
      have zf3 := blk_free zh2 3
      have zh3 := blk_set zh2 3 (.int .i64 (l : Int))
      have zc4 := (blk_cell zh3 4).trans rfl
      have zf4 := blk_free zh3 4
      have zh4 := blk_set zh3 4 (.int .i64 (u : Int))
      have zc5 := (blk_cell zh4 5).trans rfl
      have zf5 := blk_free zh4 5
      have zh5 := blk_set zh4 5 (.slice va P.length vc)
      have zc6 := (blk_cell zh5 6).trans rfl
      have zf6 := blk_free zh5 6
      have zh6 := blk_set zh5 6 (.slice ra R.length rc)
      have zc7 := (blk_cell zh6 7).trans rfl
      have zf7 := blk_free zh6 7
      have zh7 := blk_set zh6 7 (.string O)
      have zc8 := (blk_cell zh7 8).trans rfl
      have zf8 := blk_free zh7 8
      have zh8 := blk_set zh7 8 (.slice na ns.length nc)
      have zc9 := (blk_cell zh8 9).trans rfl
      have zf9 := blk_free zh8 9
      have zh9 := blk_set zh8 9 (.slice ma ls.length mc)
      have KQv := hidOfV (KQac.out.setN10 HJac.out.2.2 (.slice ta ts.length tc) (.slice la xs.length lc) (.int .i64 0) (.int .i64 (l : Int)) (.int .i64 (u : Int)) (.slice va P.length vc) (.slice ra R.length rc) (.string O) (.slice na ns.length nc) (.slice ma ls.length mc))
      have HIv := hidOfV (HIac.out.setN10 HJac.out.1 (.slice ta ts.length tc) (.slice la xs.length lc) (.int .i64 0) (.int .i64 (l : Int)) (.int .i64 (u : Int)) (.slice va P.length vc) (.slice ra R.length rc) (.string O) (.slice na ns.length nc) (.slice ma ls.length mc))
      have HJv := hidOfV (And.intro HJac.out.1 (blkSet10 HJac.out.2.1 (.slice ta ts.length tc) (.slice la xs.length lc) (.int .i64 0) (.int .i64 (l : Int)) (.int .i64 (u : Int)) (.slice va P.length vc) (.slice ra R.length rc) (.string O) (.slice na ns.length nc) (.slice ma ls.length mc)))
      have HRv : Hid (RjRows (w.heap.size + 2) _ (.slice ta ts.length tc) (.slice la xs.length lc) (.slice va P.length vc) (.slice ra R.length rc) (.slice na ns.length nc) (.slice ma ls.length mc) ts ns ls xs P R) := ⟨row_kq T4.out.1 KQv.out (Nat.le_refl _), row_kq T4.out.2 KQv.out (Nat.le_refl _), row_kq V4.out.1 KQv.out (Nat.le_refl _), row_kq V4.out.2 KQv.out (Nat.le_refl _), row_set10 HNac.out NEac.out (.slice ta ts.length tc) (.slice la xs.length lc) (.int .i64 0) (.int .i64 (l : Int)) (.int .i64 (u : Int)) (.slice va P.length vc) (.slice ra R.length rc) (.string O) (.slice na ns.length nc) (.slice ma ls.length mc), row_set10 HMac.out MEac.out (.slice ta ts.length tc) (.slice la xs.length lc) (.int .i64 0) (.int .i64 (l : Int)) (.int .i64 (u : Int)) (.slice va P.length vc) (.slice ra R.length rc) (.string O) (.slice na ns.length nc) (.slice ma ls.length mc)⟩
      clear zh9
      clear zh0 zh1 zh2 zh3 zh4 zh5 zh6 zh7 zh8
      go_simp
      try dsimp only
      refine hK.out _ _ (SK.out _ KQv.out) (fun _ => ?_)
      clear hK K HSS
      have HSS := hidOfV (SK.out _ KQv.out)
      (try simp only [Act.put]); (try simp only [List.setIfInBounds_toArray]); (try simp only [List.set_cons_succ, List.set_cons_zero])
      refine wpAnyH_done (by kernel_rfl) ?_ _
      refine NoPanic.normal ?_
      exact END.out _ _ _ _ _ _ _ _ _ _ _ _ _ _ _ _ _ _ _ _ _ _ _ _ _ _ gj na ma nc mc ns ls n1 n2 a3 a4 b3 b4 _ HIv HJv HRv (And.intro T5.out.1 (And.intro T6.out.1 (And.intro T5.out.2.1 (And.intro T6.out.2.1 (And.intro T6.out.2.2.1 (And.intro T5.out.2.2.2 T6.out.2.2.2)))))) OM6
    · go_simp
      have ua := (Below.refl w5.heap.size w5).alloc (Nat.le_refl _) (.cells #[.slice none 0 0, .slice none 0 0, .int .i64 0, .int .i64 0, .int .i64 0, .slice none 0 0, .slice none 0 0, .string ⟨#[]⟩, .slice none 0 0, .slice none 0 0] 42)
      have HIab := hidOfV (HI5.out.up ua)
      have KQab := hidOfV (KQ5.out.trans (Kq.ofBelow ua))
      have HJab := hidOfV (And.intro (show (w.heap.size + 2) ≤ w5.heap.size from HI5.out.size) (And.intro (heap_alloc_new w5 (.cells #[.slice none 0 0, .slice none 0 0, .int .i64 0, .int .i64 0, .int .i64 0, .slice none 0 0, .slice none 0 0, .string ⟨#[]⟩, .slice none 0 0, .slice none 0 0] 42)) (show W4.heap.size ≤ w5.heap.size from KQ5.out.1)))
      have NEab := hidOfV (fun q hq => ne8 (World.ownsRow.lt HN5.out q hq).2)
      have HNab := hidOfV (row_kq HN5.out (Kq.ofBelow ua) (Nat.le_refl (w.heap.size + 2)))
      have S5b := hidOfV ua.size
      clear ua
      try dsimp only
      refine hK.out _ _ (SK.out _ KQab.out) (fun _ => ?_)
      clear hK K HSS
      have HSS := hidOfV (SK.out _ KQab.out)
      try show wpAnyH _ _ _ _ _ _ _ (Act.put _ (some 9) _) _
      (try simp only [Act.put]); (try simp only [List.setIfInBounds_toArray]); (try simp only [List.set_cons_succ, List.set_cons_zero])
      generalize w5.alloc (.cells #[.slice none 0 0, .slice none 0 0, .int .i64 0, .int .i64 0, .int .i64 0, .slice none 0 0, .slice none 0 0, .string ⟨#[]⟩, .slice none 0 0, .slice none 0 0] 42) = Wab at *
      generalize w5.heap.size = gj at *
      refine wpAnyH_ready (rs := [5]) (by kernel_rfl) (by simp) ?_
      refine (AllReadyH.cons rfl (fun K hK => ?_) AllReadyH.nil)
      go_simp
      go_at_call 37
      refine (C6.out _ ns n1 a3 b3 T5.out.1 T5.out.2.2.1 HIab.out.rd).mono ?_
      rintro e w6 ⟨mv, ls, n2, a4, b4, rfl, hg6, hr6, hm6, ha4, hn2, htl2, hcp2⟩
      obtain ⟨ma, mc, rfl⟩ := row_form hm6
      have HI6 := hidOfV (HIab.out.call hg6 hr6)
      have KQ6 := hidOfV (KQab.out.trans (Kq.ofGrown hg6 (show (w.heap.size + 1) < (w.heap.size + 2) by omega)))
      have HN6 : Hid (TR (w.heap.size + 2) w6 (.slice na ns.length nc) ns) := row_kq HNab.out (Kq.ofGrown hg6 (show (w.heap.size + 1) < (w.heap.size + 2) by omega)) (Nat.le_refl _)
      have HM6 : Hid (TR (w.heap.size + 2) w6 (.slice ma ls.length mc) ls) := row_mono hm6 HIab.out.size
      have OM6 : Hid (∃ c5 c6, gs ≤ c5 ∧ OB (.slice na ns.length nc) gs c5 ∧ OB (.slice ma ls.length mc) c5 c6) := ⟨_, _, ON5.out.2, ON5.out.1, (OB.row hm6).wide S5b.out (Nat.le_refl _)⟩
      have T6 := hidOfV (And.intro htl2 (And.intro hcp2 (And.intro ha4 hn2)))
      have HJ6 := hidOfV (And.intro HJab.out.1 (And.intro (((Kq.ofGrown hg6 (show (w.heap.size + 1) < (w.heap.size + 2) by omega)).2 gj HJab.out.1 (blk_lt HJab.out.2.1)).trans HJab.out.2.1) HJab.out.2.2))
      have ME6 := hidOfV (fun q hq => ne9 (World.ownsRow.lt hm6 q hq).1 (blk_lt HJab.out.2.1))
      clear hg6 hr6 hm6 ha4 hn2 htl2 hcp2
      try dsimp only
      refine hK.out _ _ (SK.out _ KQ6.out) (fun _ => ?_)
      clear hK K HSS
      have HSS := hidOfV (SK.out _ KQ6.out)
      try show wpAnyH _ _ _ _ _ _ _ (Act.put _ (some 30) _) _
      (try simp only [Act.put]); (try simp only [List.setIfInBounds_toArray]); (try simp only [List.set_cons_succ, List.set_cons_zero])
      refine wpAnyH_take (i := 6) (v := ?_) rfl (by kernel_rfl) (by kernel_rfl) (by kernel_rfl) (fun _ _ _ h => h) (Or.inl ⟨by kernel_rfl, ?_⟩) HSS.out ?_
      rotate_left
      · (intro u9 hSw; (try dsimp only at hSw); go_simp; try with_reducible rfl)
      try show wpAnyH _ _ _ _ _ _ _ (Act.put _ (some 31) _) _
      (try simp only [Act.put]); (try simp only [List.setIfInBounds_toArray]); (try simp only [List.set_cons_succ, List.set_cons_zero])
      refine wpAnyH_ready (rs := [8]) (by kernel_rfl) (by simp) ?_
      refine (AllReadyH.cons rfl (fun K hK => ?_) AllReadyH.nil)
      have zc0 := (blk_cell HJ6.out.2.1 0).trans rfl
      have zf0 := blk_free HJ6.out.2.1 0
      have zh0 := blk_set HJ6.out.2.1 0 (.slice ta ts.length tc)
      have zc1 := (blk_cell zh0 1).trans rfl
      have zf1 := blk_free zh0 1
      have zh1 := blk_set zh0 1 (.slice la xs.length lc)
      have zc2 := (blk_cell zh1 2).trans rfl
      have zf2 := blk_free zh1 2
      have zh2 := blk_set zh1 2 (.int .i64 0)
      have zc3 := (blk_cell zh2 3).trans rfl
      have zf3 := blk_free zh2 3
      have zh3 := blk_set zh2 3 (.int .i64 (l : Int))
      have zc4 := (blk_cell zh3 4).trans rfl
      have zf4 := blk_free zh3 4
      have zh4 := blk_set zh3 4 (.int .i64 (u : Int))
      have zc5 := (blk_cell zh4 5).trans rfl
      have zf5 := blk_free zh4 5
      have zh5 := blk_set zh4 5 (.slice va P.length vc)
      have zc6 := (blk_cell zh5 6).trans rfl
      have zf6 := blk_free zh5 6
      have zh6 := blk_set zh5 6 (.slice ra R.length rc)
      have zc7 := (blk_cell zh6 7).trans rfl
      have zf7 := blk_free zh6 7
      have zh7 := blk_set zh6 7 (.string O)
      have zc8 := (blk_cell zh7 8).trans rfl
      have zf8 := blk_free zh7 8
      have zh8 := blk_set zh7 8 (.slice na ns.length nc)
      have zc9 := (blk_cell zh8 9).trans rfl
      have zf9 := blk_free zh8 9
      have zh9 := blk_set zh8 9 (.slice ma ls.length mc)
      have KQv := hidOfV (KQ6.out.setN10 HJ6.out.2.2 (.slice ta ts.length tc) (.slice la xs.length lc) (.int .i64 0) (.int .i64 (l : Int)) (.int .i64 (u : Int)) (.slice va P.length vc) (.slice ra R.length rc) (.string O) (.slice na ns.length nc) (.slice ma ls.length mc))
      have HIv := hidOfV (HI6.out.setN10 HJ6.out.1 (.slice ta ts.length tc) (.slice la xs.length lc) (.int .i64 0) (.int .i64 (l : Int)) (.int .i64 (u : Int)) (.slice va P.length vc) (.slice ra R.length rc) (.string O) (.slice na ns.length nc) (.slice ma ls.length mc))
      have HJv := hidOfV (And.intro HJ6.out.1 (blkSet10 HJ6.out.2.1 (.slice ta ts.length tc) (.slice la xs.length lc) (.int .i64 0) (.int .i64 (l : Int)) (.int .i64 (u : Int)) (.slice va P.length vc) (.slice ra R.length rc) (.string O) (.slice na ns.length nc) (.slice ma ls.length mc)))
      have HRv : Hid (RjRows (w.heap.size + 2) _ (.slice ta ts.length tc) (.slice la xs.length lc) (.slice va P.length vc) (.slice ra R.length rc) (.slice na ns.length nc) (.slice ma ls.length mc) ts ns ls xs P R) := ⟨row_kq T4.out.1 KQv.out (Nat.le_refl _), row_kq T4.out.2 KQv.out (Nat.le_refl _), row_kq V4.out.1 KQv.out (Nat.le_refl _), row_kq V4.out.2 KQv.out (Nat.le_refl _), row_set10 HN6.out NEab.out (.slice ta ts.length tc) (.slice la xs.length lc) (.int .i64 0) (.int .i64 (l : Int)) (.int .i64 (u : Int)) (.slice va P.length vc) (.slice ra R.length rc) (.string O) (.slice na ns.length nc) (.slice ma ls.length mc), row_set10 HM6.out ME6.out (.slice ta ts.length tc) (.slice la xs.length lc) (.int .i64 0) (.int .i64 (l : Int)) (.int .i64 (u : Int)) (.slice va P.length vc) (.slice ra R.length rc) (.string O) (.slice na ns.length nc) (.slice ma ls.length mc)⟩
      clear zh9
      clear zh0 zh1 zh2 zh3 zh4 zh5 zh6 zh7 zh8
      go_simp
      try dsimp only
      refine hK.out _ _ (SK.out _ KQv.out) (fun _ => ?_)
      clear hK K HSS
      have HSS := hidOfV (SK.out _ KQv.out)
      (try simp only [Act.put]); (try simp only [List.setIfInBounds_toArray]); (try simp only [List.set_cons_succ, List.set_cons_zero])
      refine wpAnyH_done (by kernel_rfl) ?_ _
      refine NoPanic.normal ?_
      exact END.out _ _ _ _ _ _ _ _ _ _ _ _ _ _ _ _ _ _ _ _ _ _ _ _ _ _ gj na ma nc mc ns ls n1 n2 a3 a4 b3 b4 _ HIv HJv HRv (And.intro T5.out.1 (And.intro T6.out.1 (And.intro T5.out.2.1 (And.intro T6.out.2.1 (And.intro T6.out.2.2.1 (And.intro T5.out.2.2.2 T6.out.2.2.2)))))) OM6
  · go_simp
    have ua := (Below.refl Wd.heap.size Wd).alloc (Nat.le_refl _) (.cells #[.slice none 0 0, .slice none 0 0, .int .i64 0, .int .i64 0, .int .i64 0, .slice none 0 0, .slice none 0 0, .string ⟨#[]⟩, .slice none 0 0, .slice none 0 0] 42)
    have HIaa := hidOfV (HI0.out.up ua)
    have KQaa := hidOfV (KD.out.trans (Kq.ofBelow ua))
    have HJaa := hidOfV (And.intro (show (w.heap.size + 2) ≤ Wd.heap.size from HI0.out.size) (And.intro (heap_alloc_new Wd (.cells #[.slice none 0 0, .slice none 0 0, .int .i64 0, .int .i64 0, .int .i64 0, .slice none 0 0, .slice none 0 0, .string ⟨#[]⟩, .slice none 0 0, .slice none 0 0] 42)) (show W4.heap.size ≤ Wd.heap.size from KD.out.1)))
    clear ua
    try dsimp only
    refine hK.out _ _ (SK.out _ KQaa.out) (fun _ => ?_)
    clear hK K HSS
    have HSS := hidOfV (SK.out _ KQaa.out)
    try show wpAnyH _ _ _ _ _ _ _ (Act.put _ (some 9) _) _
    (try simp only [Act.put]); (try simp only [List.setIfInBounds_toArray]); (try simp only [List.set_cons_succ, List.set_cons_zero])
    generalize Wd.alloc (.cells #[.slice none 0 0, .slice none 0 0, .int .i64 0, .int .i64 0, .int .i64 0, .slice none 0 0, .slice none 0 0, .string ⟨#[]⟩, .slice none 0 0, .slice none 0 0] 42) = Waa at *
    generalize Wd.heap.size = gj at *
    refine wpAnyH_ready (rs := [3]) (by kernel_rfl) (by simp) ?_
    refine (AllReadyH.cons rfl (fun K hK => ?_) AllReadyH.nil)
    go_simp
    go_at_call 37
    refine (C5.out _ HIaa.out.rd).mono ?_
    rintro e w5 ⟨nv, ns, n1, a3, b3, rfl, hg5, hr5, hn5, ha3, hn1, htl, hcp⟩
    obtain ⟨na, nc, rfl⟩ := row_form hn5
    have HI5 := hidOfV (HIaa.out.call hg5 hr5)
    have KQ5 := hidOfV (KQaa.out.trans (Kq.ofGrown hg5 (show (w.heap.size + 1) < (w.heap.size + 2) by omega)))
    have HN5 : Hid (TR (w.heap.size + 2) w5 (.slice na ns.length nc) ns) := row_mono hn5 HIaa.out.size
    have ON5 : Hid (OB (.slice na ns.length nc) gs w5.heap.size ∧ gs ≤ w5.heap.size) := ⟨(OB.row hn5).wide (Nat.le_trans (Nat.le_of_lt (blk_lt q4.out)) KQaa.out.1) (Nat.le_refl _), Nat.le_trans (Nat.le_of_lt (blk_lt q4.out)) KQ5.out.1⟩
    have T5 := hidOfV (And.intro htl (And.intro hcp (And.intro ha3 hn1)))
    have HJ5 := hidOfV (And.intro HJaa.out.1 (And.intro (((Kq.ofGrown hg5 (show (w.heap.size + 1) < (w.heap.size + 2) by omega)).2 gj HJaa.out.1 (blk_lt HJaa.out.2.1)).trans HJaa.out.2.1) HJaa.out.2.2))
    have NE5 := hidOfV (fun q hq => ne9 (World.ownsRow.lt hn5 q hq).1 (blk_lt HJaa.out.2.1))
    clear hg5 hr5 hn5 ha3 hn1 htl hcp
    try dsimp only
    refine hK.out _ _ (SK.out _ KQ5.out) (fun _ => ?_)
    clear hK K HSS
    have HSS := hidOfV (SK.out _ KQ5.out)
    try show wpAnyH _ _ _ _ _ _ _ (Act.put _ (some 28) _) _
    (try simp only [Act.put]); (try simp only [List.setIfInBounds_toArray]); (try simp only [List.set_cons_succ, List.set_cons_zero])
    refine wpAnyH_ready (rs := [5]) (by kernel_rfl) (by simp) ?_
    refine (AllReadyH.cons rfl (fun K hK => ?_) AllReadyH.nil)
    go_simp
    go_at_call 37
    refine (C6.out _ ns n1 a3 b3 T5.out.1 T5.out.2.2.1 HI5.out.rd).mono ?_
    rintro e w6 ⟨mv, ls, n2, a4, b4, rfl, hg6, hr6, hm6, ha4, hn2, htl2, hcp2⟩
    obtain ⟨ma, mc, rfl⟩ := row_form hm6
    have HI6 := hidOfV (HI5.out.call hg6 hr6)
    have KQ6 := hidOfV (KQ5.out.trans (Kq.ofGrown hg6 (show (w.heap.size + 1) < (w.heap.size + 2) by omega)))
    have HN6 : Hid (TR (w.heap.size + 2) w6 (.slice na ns.length nc) ns) := row_kq HN5.out (Kq.ofGrown hg6 (show (w.heap.size + 1) < (w.heap.size + 2) by omega)) (Nat.le_refl _)
    have HM6 : Hid (TR (w.heap.size + 2) w6 (.slice ma ls.length mc) ls) := row_mono hm6 HI5.out.size
    have OM6 : Hid (∃ c5 c6, gs ≤ c5 ∧ OB (.slice na ns.length nc) gs c5 ∧ OB (.slice ma ls.length mc) c5 c6) := ⟨_, _, ON5.out.2, ON5.out.1, (OB.row hm6).wide (Nat.le_refl _) (Nat.le_refl _)⟩
    have T6 := hidOfV (And.intro htl2 (And.intro hcp2 (And.intro ha4 hn2)))
    have HJ6 := hidOfV (And.intro HJ5.out.1 (And.intro (((Kq.ofGrown hg6 (show (w.heap.size + 1) < (w.heap.size + 2) by omega)).2 gj HJ5.out.1 (blk_lt HJ5.out.2.1)).trans HJ5.out.2.1) HJ5.out.2.2))
    have ME6 := hidOfV (fun q hq => ne9 (World.ownsRow.lt hm6 q hq).1 (blk_lt HJ5.out.2.1))
    clear hg6 hr6 hm6 ha4 hn2 htl2 hcp2
    try dsimp only
    refine hK.out _ _ (SK.out _ KQ6.out) (fun _ => ?_)
    clear hK K HSS
    have HSS := hidOfV (SK.out _ KQ6.out)
    try show wpAnyH _ _ _ _ _ _ _ (Act.put _ (some 30) _) _
    (try simp only [Act.put]); (try simp only [List.setIfInBounds_toArray]); (try simp only [List.set_cons_succ, List.set_cons_zero])
    refine wpAnyH_take (i := 6) (v := ?_) rfl (by kernel_rfl) (by kernel_rfl) (by kernel_rfl) (fun _ _ _ h => h) (Or.inl ⟨by kernel_rfl, ?_⟩) HSS.out ?_
    rotate_left
    · (intro u9 hSw; (try dsimp only at hSw); go_simp; try with_reducible rfl)
    try show wpAnyH _ _ _ _ _ _ _ (Act.put _ (some 31) _) _
    (try simp only [Act.put]); (try simp only [List.setIfInBounds_toArray]); (try simp only [List.set_cons_succ, List.set_cons_zero])
    refine wpAnyH_ready (rs := [8]) (by kernel_rfl) (by simp) ?_
    refine (AllReadyH.cons rfl (fun K hK => ?_) AllReadyH.nil)
    have zc0 := (blk_cell HJ6.out.2.1 0).trans rfl
    have zf0 := blk_free HJ6.out.2.1 0
    have zh0 := blk_set HJ6.out.2.1 0 (.slice ta ts.length tc)
    have zc1 := (blk_cell zh0 1).trans rfl
    have zf1 := blk_free zh0 1
    have zh1 := blk_set zh0 1 (.slice la xs.length lc)
    have zc2 := (blk_cell zh1 2).trans rfl
    have zf2 := blk_free zh1 2
    have zh2 := blk_set zh1 2 (.int .i64 0)
    have zc3 := (blk_cell zh2 3).trans rfl
    have zf3 := blk_free zh2 3
    have zh3 := blk_set zh2 3 (.int .i64 (l : Int))
    have zc4 := (blk_cell zh3 4).trans rfl
    have zf4 := blk_free zh3 4
    have zh4 := blk_set zh3 4 (.int .i64 (u : Int))
    have zc5 := (blk_cell zh4 5).trans rfl
    have zf5 := blk_free zh4 5
    have zh5 := blk_set zh4 5 (.slice va P.length vc)
    have zc6 := (blk_cell zh5 6).trans rfl
    have zf6 := blk_free zh5 6
    have zh6 := blk_set zh5 6 (.slice ra R.length rc)
    have zc7 := (blk_cell zh6 7).trans rfl
    have zf7 := blk_free zh6 7
    have zh7 := blk_set zh6 7 (.string O)
    have zc8 := (blk_cell zh7 8).trans rfl
    have zf8 := blk_free zh7 8
    have zh8 := blk_set zh7 8 (.slice na ns.length nc)
    have zc9 := (blk_cell zh8 9).trans rfl
    have zf9 := blk_free zh8 9
    have zh9 := blk_set zh8 9 (.slice ma ls.length mc)
    have KQv := hidOfV (KQ6.out.setN10 HJ6.out.2.2 (.slice ta ts.length tc) (.slice la xs.length lc) (.int .i64 0) (.int .i64 (l : Int)) (.int .i64 (u : Int)) (.slice va P.length vc) (.slice ra R.length rc) (.string O) (.slice na ns.length nc) (.slice ma ls.length mc))
    have HIv := hidOfV (HI6.out.setN10 HJ6.out.1 (.slice ta ts.length tc) (.slice la xs.length lc) (.int .i64 0) (.int .i64 (l : Int)) (.int .i64 (u : Int)) (.slice va P.length vc) (.slice ra R.length rc) (.string O) (.slice na ns.length nc) (.slice ma ls.length mc))
    have HJv := hidOfV (And.intro HJ6.out.1 (blkSet10 HJ6.out.2.1 (.slice ta ts.length tc) (.slice la xs.length lc) (.int .i64 0) (.int .i64 (l : Int)) (.int .i64 (u : Int)) (.slice va P.length vc) (.slice ra R.length rc) (.string O) (.slice na ns.length nc) (.slice ma ls.length mc)))
    have HRv : Hid (RjRows (w.heap.size + 2) _ (.slice ta ts.length tc) (.slice la xs.length lc) (.slice va P.length vc) (.slice ra R.length rc) (.slice na ns.length nc) (.slice ma ls.length mc) ts ns ls xs P R) := ⟨row_kq T4.out.1 KQv.out (Nat.le_refl _), row_kq T4.out.2 KQv.out (Nat.le_refl _), row_kq V4.out.1 KQv.out (Nat.le_refl _), row_kq V4.out.2 KQv.out (Nat.le_refl _), row_set10 HN6.out NE5.out (.slice ta ts.length tc) (.slice la xs.length lc) (.int .i64 0) (.int .i64 (l : Int)) (.int .i64 (u : Int)) (.slice va P.length vc) (.slice ra R.length rc) (.string O) (.slice na ns.length nc) (.slice ma ls.length mc), row_set10 HM6.out ME6.out (.slice ta ts.length tc) (.slice la xs.length lc) (.int .i64 0) (.int .i64 (l : Int)) (.int .i64 (u : Int)) (.slice va P.length vc) (.slice ra R.length rc) (.string O) (.slice na ns.length nc) (.slice ma ls.length mc)⟩
    clear zh9
    clear zh0 zh1 zh2 zh3 zh4 zh5 zh6 zh7 zh8
    go_simp
    try dsimp only
    refine hK.out _ _ (SK.out _ KQv.out) (fun _ => ?_)
    clear hK K HSS
    have HSS := hidOfV (SK.out _ KQv.out)
    (try simp only [Act.put]); (try simp only [List.setIfInBounds_toArray]); (try simp only [List.set_cons_succ, List.set_cons_zero])
    refine wpAnyH_done (by kernel_rfl) ?_ _
    refine NoPanic.normal ?_
    exact END.out _ _ _ _ _ _ _ _ _ _ _ _ _ _ _ _ _ _ _ _ _ _ _ _ _ _ gj na ma nc mc ns ls n1 n2 a3 a4 b3 b4 _ HIv HJv HRv (And.intro T5.out.1 (And.intro T6.out.1 (And.intro T5.out.2.1 (And.intro T6.out.2.1 (And.intro T6.out.2.2.1 (And.intro T5.out.2.2.2 T6.out.2.2.2)))))) OM6
end Go.Proofs.YtehagonaacbmiaaGreat
