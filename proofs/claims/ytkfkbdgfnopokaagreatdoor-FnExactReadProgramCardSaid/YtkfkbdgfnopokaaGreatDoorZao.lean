/- Trees: texts of a row of trees, with a text between. The program's writer of nodes: what a tree adds. -/
import Derived.Test.YtkfkbdgfnopokaaGreatDoorZaj
import Derived.Test.YtkfkbdgfnopokaaGreatDoorKS
import Derived.Test.YtkfkbdgfnopokaaGreatDoorShelfJ
import Derived.Laws.MakeOwn
import Derived.Test.YtkfkbdgfnopokaaGreatDoorZan
namespace Go.Proofs.YtkfkbdgfnopokaaGreatDoor
section PartTrC
open Go.RowKit
def tv (k : TypeId × Value) : Value := .iface k.1 k.2
def tno : TypeId × Value := (0, .nilIface)
def TreesAt (X : Nat) (w : World) (v : Value) (ks : List (TypeId × Value)) : Prop := ∃ (a : Option Addr) (c : Nat), v = .slice a ks.length c ∧
 (0 < ks.length → ∃ b o, a = some ⟨b, o, none⟩ ∧ b ≠ X ∧ b < w.heap.size ∧ ∀ i, i < ks.length → w.cell? ⟨b, o + i, none⟩ = some (tv (ks.getD i tno)))
theorem TreesAt.keep {X : Nat} {w w' : World} {v : Value} {ks : List (TypeId × Value)} (h : TreesAt X w v ks) (hb : But X w w') : TreesAt X w' v ks := by
 obtain ⟨ka, kc, rfl, f⟩ := h
 refine ⟨ka, kc, rfl, fun h0 => ?_⟩
 obtain ⟨b, o, rfl, hX, hl, hc⟩ := f h0
 exact ⟨b, o, rfl, hX, Nat.lt_of_lt_of_le hl hb.1, fun i hi => hb.cell hX (hc i hi)⟩
end PartTrC
section PartRrG
open Go.RowKit
def Fl.all : List (Nat → List Pi) → Nat → List Pi
 | [], _ => []
 | G :: r, n => G n ++ Fl.all r (n + (G n).length)
def Fl.ids : List (Nat → List Pi) → Nat → List Int
 | [], _ => []
 | G :: r, n => (((n + (G n).length : Nat) : Int) - 1) :: Fl.ids r (n + (G n).length)
def Fl.node (op : Nat) (t : List UInt8) (Gs : List (Nat → List Pi)) : Nat → List Pi := fun n => Fl.all Gs n ++ [Pr.nd (op : Int) t (Fl.ids Gs n)]
def Fl.no : Nat → List Pi := fun _ => []
theorem Fl.all_take (Gs : List (Nat → List Pi)) (n i : Nat) (h : i < Gs.length) : Fl.all (Gs.take (i + 1)) n = Fl.all (Gs.take i) n ++ (Gs.getD i Fl.no) (n + (Fl.all (Gs.take i) n).length) := by
 induction Gs generalizing n i with
 | nil => simp at h
 | cons G r ih =>
  cases i with
  | zero => simp [Fl.all]
  | succ i =>
   simp only [List.length_cons] at h
   rw [List.take_succ_cons, List.take_succ_cons, Fl.all, Fl.all, ih _ _ (by omega), List.append_assoc, List.getD_cons_succ, List.length_append, Nat.add_assoc]
theorem Fl.ids_take (Gs : List (Nat → List Pi)) (n i : Nat) (h : i < Gs.length) : Fl.ids (Gs.take (i + 1)) n = Fl.ids (Gs.take i) n ++ [((n + (Fl.all (Gs.take (i + 1)) n).length : Nat) : Int) - 1] := by
 induction Gs generalizing n i with
 | nil => simp at h
 | cons G r ih =>
  cases i with
  | zero => simp [Fl.all, Fl.ids]
  | succ i =>
   simp only [List.length_cons] at h
   rw [List.take_succ_cons, List.take_succ_cons, Fl.ids, Fl.ids, ih _ _ (Nat.lt_of_succ_lt_succ h), Fl.all, List.length_append, Nat.add_assoc]
   rfl
theorem Fl.all_le (Gs : List (Nat → List Pi)) (n i : Nat) : (Fl.all (Gs.take i) n).length ≤ (Fl.all Gs n).length := by
 induction Gs generalizing n i with
 | nil => simp [Fl.all]
 | cons G r ih =>
  cases i with
  | zero => simp [Fl.all]
  | succ i =>
   rw [List.take_succ_cons, Fl.all, Fl.all, List.length_append, List.length_append]
   have := ih (n + (G n).length) i
   omega
theorem Fl.ids_len (Gs : List (Nat → List Pi)) (n : Nat) : (Fl.ids Gs n).length = Gs.length := by
 induction Gs generalizing n with
 | nil => rfl
 | cons G r ih => rw [Fl.ids, List.length_cons, List.length_cons, ih]
def AddC (B h : Nat) (w : World) (k : TypeId × Value) (G : Nat → List Pi) : Prop :=
 ∀ Xs W nv qs, (∀ b, b < h → W.heap[b]? = w.heap[b]?) → Wr B h Xs W nv qs → qs.length + (G qs.length).length ≤ 1000 →
  Calls Tryz.prog 58 #[.pointer (some ⟨h, 0, none⟩), .iface k.1 k.2] W fun e W' => ∃ nv', e = .returned (.int .i64 (((qs.length + (G qs.length).length : Nat) : Int) - 1)) ∧ Wr B h Xs W' nv' (qs ++ G qs.length) ∧ KB h nv W W' nv'
theorem NR.push {ops : Array Oper} {rest : List Oper} {o : Oper} {a : Act} {Q : Exit → Act → World → Prop} {B : Nat} {w : World} {v : Value} {n : Nat} {cs : List Value}
  (hown : NR B w v n cs) (hgd : o.guard = none) (s x : Operand)
  (ho : o.op = .call { callee := .builtin .append, args := #[s, x], argTypes := #[22, 22] })
  (hs : a.eval s = v) (c1 c2 c3 : Value) (k1 : c1.oneCell' = true) (k2 : c2.oneCell' = true) (k3 : c3.oneCell' = true) (H : Nat) (hH : w.heap.size = H) (hx : a.eval x = .slice (some ⟨H, 0, none⟩) 1 1)
  (hlen : n ≤ 1000) (hB : B ≤ w.heap.size)
  (h : ∀ q cap w', NR B w' (.slice (some ⟨q, 0, none⟩) (n + 1) cap) (n + 1) (cs ++ [c1, c2, c3]) → (v.ownBlock = some q ∨ w.heap.size ≤ q) → q < w'.heap.size → w.heap.size ≤ w'.heap.size → Env w w' → (∀ k, k < w.heap.size → v.ownBlock ≠ some k → w'.heap[k]? = w.heap[k]?) →
   wpList Tryz.prog ops Q rest (a.put o.dst (.slice (some ⟨q, 0, none⟩) (n + 1) cap)) w') :
  wpList Tryz.prog ops Q (o :: rest) a (w.alloc (.cells #[c1, c2, c3] 87)) := by
 subst hH
 obtain ⟨i0, hi, hy0, hy1, hy2⟩ := info_parts infoNd
 refine wpList_append_lies _ hgd s x 22 ho B 87 i0 (.agg #[.int .i64 0, .string ByteArray.empty, .slice none 0 0]) 3 48 Tryz.underlying22 hi hy0 hy1 hy2 rfl (by decide) v n cs hs (World.ownsRow.alloc hown _) ⟨w.heap.size, 0, none⟩ 1 1 [c1, c2, c3] hx rfl
  (World.news_of_block (cs := #[c1, c2, c3]) (t := 87) (fr := (0, 0)) (heap_alloc_new w _)) ?_ (by omega) ?_ ?_ ?_ (w.heap.size + 1) (by simp) ?_
 ·intro u hu
  simp at hu
  rcases hu with rfl | rfl | rfl <;> assumption
 ·unfold maxLen; omega
 ·omega
 ·simp; omega
 ·intro g cap w' h2 h3 h4 h5
  have hb0 : Below w.heap.size w (w.alloc (.cells #[c1, c2, c3] 87)) := (Below.refl _ w).alloc (Nat.le_refl _) _
  have hs3 := h3.size
  simp at hs3
  have hb3 : Below B w w' := (hb0.mono hB).grown h3 (by simp; omega) (fun k hk => (World.ownsRow.lt hown k hk).1)
  refine h g cap w' h2 (h4.imp id (fun e => by omega)) h5 (by omega) ⟨hb3.os, hb3.tape, hb3.output⟩ ?_
  intro k hk hne
  rw [h3.block k (by simp; omega) (fun e => hne e.symm)]
  exact hb0.block k hk
theorem KB.poke {g : Nat} {v nv u : Value} {w w1 w2 : World} (k : KB g v w w1 nv) (hu : ∀ q, u.ownBlock = some q → w.heap.size ≤ q) (hs : w1.heap.size ≤ w2.heap.size) (he : Env w1 w2) (hk : ∀ j, j < w1.heap.size → u.ownBlock ≠ some j → w2.heap[j]? = w1.heap[j]?) : KB g v w w2 nv :=
 ⟨k.1.trans he, Nat.le_trans k.2.1 hs, fun j hj hg hv => (hk j (Nat.lt_of_lt_of_le hj k.2.1) (fun e => by have := hu j e; omega)).trans (k.2.2.1 j hj hg hv), k.2.2.2⟩
theorem set0w {w : World} {g : Nat} {a : Value} {t : TypeId} (h : w.heap[g]? = some (.cells #[a] t (0, 0))) (u : Value) : (w.setCell ⟨g, 0, none⟩ u).heap[g]? = some (.cells #[u] t (0, 0)) := by
 simp [World.setCell, Array.getElem?_modify, h]
theorem wcell {w : World} {g : Nat} {a : Value} {t : TypeId} (h : w.heap[g]? = some (.cells #[a] t (0, 0))) : w.cell? ⟨g, 0, none⟩ = some a ∧ w.frozen? ⟨g, 0, none⟩ = false := by
 refine ⟨?_, ?_⟩ <;> simp [World.cell?, World.frozen?, h]
set_option maxHeartbeats 1000000 in
set_option maxRecDepth 100000 in
theorem addC_node (B h op : Nat) (T : TypeId) (x : Value) (F : FuncId) (t : List UInt8) (kt : List (TypeId × Value)) (Gs : List (Nat → List Pi)) (w0 w : World) (Xs : Nat → Prop) (v : Value) (ps : List Pi)
  (hm : ∀ n w, (method (n + 1) T x "loop.example/g00237/impl.asNode").run Tryz.prog w = .ok (F, x) w)
  (hF : ∀ w, (callFunc F #[x]).run Tryz.prog w = .ok (.enter F #[x]) w)
  (hlo : ∀ b, b < h → w.heap[b]? = w0.heap[b]?) (hw : Wr B h Xs w v ps) (hgl : Gs.length = kt.length) (hkl : kt.length ≤ 1000) (hlen : ps.length + (Fl.all Gs ps.length).length < 1000)
  (hk : ∀ i, i < kt.length → AddC B h w0 (kt.getD i tno) (Gs.getD i Fl.no))
  (ha : Calls Tryz.prog F #[x] w fun e w' => ∃ pa pc, e = .returned (.tuple #[.int .i64 (op : Int), .string ⟨t.toArray⟩, .slice pa kt.length pc]) ∧ Below w.heap.size w w' ∧
   (0 < kt.length → ∃ pb po, pa = some ⟨pb, po, none⟩ ∧ (pb < h ∨ w.heap.size ≤ pb) ∧ pb < w'.heap.size ∧ ∀ i, i < kt.length → w'.cell? ⟨pb, po + i, none⟩ = some (.iface (kt.getD i tno).1 (kt.getD i tno).2))) :
  Calls Tryz.prog 58 #[.pointer (some ⟨h, 0, none⟩), .iface T x] w fun e w' => ∃ nv', e = .returned (.int .i64 (((ps.length + (Fl.node op t Gs ps.length).length : Nat) : Int) - 1)) ∧ Wr B h Xs w' nv' (ps ++ Fl.node op t Gs ps.length) ∧ KB h v w w' nv' := by
 have HW : Hid (Wr B h Xs w v ps) := hw
 have HK : Hid (∀ i, i < kt.length → AddC B h w0 (kt.getD i tno) (Gs.getD i Fl.no)) := hk
 have HLO : Hid (∀ b, b < h → w.heap[b]? = w0.heap[b]?) := hlo
 have HA := hidOf2 ha
 have hm2 := hm 329
 simp only [Nat.reduceAdd] at hm2
 clear hw hk hlo ha hm
 go_enter Tryz.func58, Tryz.ntmps58
 go_wp2_with fail
 refine HA.out.mono ?_
 rintro e w1 ⟨pa, pc, rfl, hb1, hpa⟩
 have HB1 : Hid (Below w.heap.size w w1) := hb1
 have HPA := hidOf2 hpa
 clear HA hb1 hpa hm2 hF
 obtain ⟨n, hn⟩ : ∃ n, n = kt.length := ⟨_, rfl⟩
 rw [← hn] at hgl hkl HK HPA
 rw [← hn]
 clear hn
 have HV : Hid (∀ q, v.ownBlock = some q → B ≤ q ∧ q < w.heap.size) := fun q e => HW.out.np.own q e
 have HHB : Hid (h < B ∧ B ≤ w.heap.size) := ⟨HW.out.low, HW.out.sz⟩
 have HW1 : Hid (Wr B h Xs w1 v ps) := HW.out.below HB1.out
 clear HW
 go_wp2_with fail
 go_loopw [8, 19] (fun uv iv wr => ∃ (i : Nat) (nv u : Value), u = uv ∧ iv = .int .i64 (i : Int) ∧ i ≤ n ∧ Hid (Wr B h (and Xs u) wr nv (ps ++ Fl.all (Gs.take i) ps.length) ∧ IRow B wr u (Fl.ids (Gs.take i) ps.length) ∧ (∀ q, u.ownBlock = some q → w1.heap.size ≤ q) ∧ KB h v w1 wr nv)) (fun _ iv _ => n - (intOf iv).toNat)
 case atStart =>
  refine ⟨0, v, _, rfl, rfl, by omega, ?_, ⟨rfl, .inl ⟨rfl, rfl⟩⟩, fun q e => by simp [Value.ownBlock] at e, KB.refl _ _ _⟩
  rw [List.take_zero, Fl.all, List.append_nil]
  exact HW1.out.sub (fun x hx => hx.elim id (fun e => by simp [Value.ownBlock] at e))
 case round =>
  obtain ⟨i, nv, u, rfl, rfl, hi, HI⟩ := hrel
  by_cases hlt : i < n
  ·have d1 : decide ((i : Int) < (n : Int)) = true := decide_eq_true (by omega)
   obtain ⟨pb, po, rfl, hpb, hpl, hpc⟩ := HPA.out (by omega)
   have c1 : wr.cell? ⟨pb, po + i, none⟩ = some (.iface (kt.getD i tno).1 (kt.getD i tno).2) := by
    have hh : pb ≠ h := fun e => by have := HHB.out; omega
    have hv : v.ownBlock ≠ some pb := fun e => by have := HV.out pb e; have := HHB.out; omega
    rw [cell_blk (HI.out.2.2.2.2.2.1 pb hpl hh hv)]
    exact hpc i hlt
   have HL : Hid (∀ b, b < h → wr.heap[b]? = w0.heap[b]?) := fun b hb => by
    have hw := HHB.out
    have hv : v.ownBlock ≠ some b := fun e => by have := HV.out b e; omega
    have hs := HB1.out.size
    rw [HI.out.2.2.2.2.2.1 b (by omega) (by omega) hv, HB1.out.block b (by omega)]
    exact HLO.out b hb
   have hall := Fl.all_take Gs ps.length i (by omega)
   have hids := Fl.ids_take Gs ps.length i (by omega)
   have hle := Fl.all_le Gs ps.length (i + 1)
   have HC := HK.out i hlt (and Xs u) wr nv _ HL.out HI.out.1
   have hq0 : (ps ++ Fl.all (Gs.take i) ps.length).length = ps.length + (Fl.all (Gs.take i) ps.length).length := List.length_append
   rw [hq0] at HC
   rw [hall, List.length_append] at hle
   have HC2 := hidOf2 (HC (by omega))
   rw [List.append_assoc, ← hall] at HC2
   have hlen2 : ps.length + (Fl.all (Gs.take i) ps.length).length + ((Gs.getD i Fl.no) (ps.length + (Fl.all (Gs.take i) ps.length).length)).length = ps.length + (Fl.all (Gs.take (i + 1)) ps.length).length := by rw [hall, List.length_append]; omega
   rw [hlen2] at HC2
   obtain ⟨Ti, xi, hTi⟩ : ∃ a b, kt.getD i tno = (a, b) := ⟨_, _, rfl⟩
   rw [hTi] at HC2 c1
   simp only at HC2 c1
   have hil : (Fl.ids (Gs.take i) ps.length).length = i := by rw [Fl.ids_len, List.length_take]; omega
   obtain ⟨zs, hzs⟩ : ∃ zs, zs = Fl.ids (Gs.take i) ps.length := ⟨_, rfl⟩
   obtain ⟨k5, hk5⟩ : ∃ k5, k5 = ((ps.length + (Fl.all (Gs.take (i + 1)) ps.length).length : Nat) : Int) - 1 := ⟨_, rfl⟩
   rw [← hzs] at hil
   have HID : Hid (Fl.ids (Gs.take (i + 1)) ps.length = zs ++ [k5]) := by rw [hzs, hk5]; exact hids
   rw [← hk5] at HC2
   have HZ : Hid (IRow B wr u zs) := by rw [hzs]; exact HI.out.2.1
   have HWr : Hid (Wr B h (and Xs u) wr nv (ps ++ Fl.all (Gs.take i) ps.length)) := HI.out.1
   have HU : Hid ((∀ q, u.ownBlock = some q → w1.heap.size ≤ q) ∧ KB h v w1 wr nv) := HI.out.2.2
   clear HI HC hTi hpc hall hids hle hlen2 hq0 hzs hk5 HL
   go_wp2_with fail
   refine HC2.out.mono ?_
   rintro e w5 ⟨nv5, rfl, hw5, hkb5⟩
   have HW5 : Hid (Wr B h (and Xs u) w5 nv5 (ps ++ Fl.all (Gs.take (i + 1)) ps.length)) := hw5
   have HK5 : Hid (IRow B w5 u zs) := HZ.out.keep (fun q e => hkb5.2.2.1 q (HWr.out.xb q (.inr e)).2.1 (fun e2 => by have := (HWr.out.xb q (.inr e)).1; have := HWr.out.low; omega) (HWr.out.xb q (.inr e)).2.2)
   have HU5 : Hid ((∀ q, u.ownBlock = some q → w1.heap.size ≤ q) ∧ KB h v w1 w5 nv5) := ⟨HU.out.1, HU.out.2.trans hkb5⟩
   clear hw5 hkb5 HC2 HZ HWr HU
   have hs5 := HW5.out.sz
   go_wp2_with (at_builtin; go_must (refine HK5.out.push rfl _ _ rfl rfl k5 w5.heap.size rfl rfl ?hl ?hb ?_))
   case hl => omega
   case hb => exact hs5
   intro q6 cap6 w6 hrow hq hq2 hsz2 hen hblk
   have HF6 : Hid (Wr B h (and Xs (.slice (some ⟨q6, 0, none⟩) (i + 1) cap6)) w6 nv5 (ps ++ Fl.all (Gs.take (i + 1)) ps.length) ∧ IRow B w6 (.slice (some ⟨q6, 0, none⟩) (i + 1) cap6) (Fl.ids (Gs.take (i + 1)) ps.length) ∧ (∀ q, (Value.slice (some ⟨q6, 0, none⟩) (i + 1) cap6).ownBlock = some q → w1.heap.size ≤ q) ∧ KB h v w1 w6 nv5) := by
    refine ⟨HW5.out.poke hsz2 hblk (fun q e => ?_), by rw [HID.out]; exact hrow, fun q e => ?_, HU5.out.2.poke HU5.out.1 hsz2 hen hblk⟩
    ·obtain rfl : q6 = q := by simpa [Value.ownBlock] using e
     exact ⟨hq, hq2⟩
    ·obtain rfl : q6 = q := by simpa [Value.ownBlock] using e
     rcases hq with e2 | e2
     ·exact HU5.out.1 _ e2
     ·have := HU5.out.2.2.1; omega
   clear hrow hq hq2 hsz2 hen hblk HW5 HK5 HU5 HID hs5
   go_wp2
   go_roundw
   case rel => exact ⟨i + 1, nv5, _, rfl, by go_num, by omega, HF6.out⟩
   case measure => simp [intOf]; omega
  ·obtain rfl : i = n := by omega
   have dq : ¬ ((i : Int) < (i : Int)) := by omega
   have hta : Gs.take i = Gs := by rw [← hgl]; exact List.take_length
   rw [hta] at HI
   have kk : Wr B h Xs wr nv (ps ++ Fl.all Gs ps.length) := HI.out.1.sub (fun x hx => .inl hx)
   have HKF : Hid (KF h Xs wr nv u (Fl.ids Gs ps.length)) := IRow.wkf HI.out.2.1 HI.out.1 (fun q e hx => by have := HI.out.2.2.1 q e; have := (HW1.out.xb q hx).2.1; omega)
   have HKB : Hid (KB h v w1 wr nv) := HI.out.2.2.2
   have huf : ∃ ua uc, u = .slice ua (Fl.ids Gs ps.length).length uc := by
    obtain ⟨ka, kc, e, -⟩ := HKF.out
    exact ⟨ka, kc, e⟩
   obtain ⟨ua, uc, rfl⟩ := huf
   obtain ⟨cs, hnr, hcl, hfu, hap⟩ := HI.out.1.nq
   have hf : ∀ i, i < (ps ++ Fl.all Gs ps.length).length → cs[i * 3]? = some (.int .i64 ((ps ++ Fl.all Gs ps.length).getD i Pi.no).op) ∧ cs[i * 3 + 1]? = some (.string ((ps ++ Fl.all Gs ps.length).getD i Pi.no).text) ∧ ∃ u1, cs[i * 3 + 2]? = some u1 ∧ KF h Xs wr nv u1 ((ps ++ Fl.all Gs ps.length).getD i Pi.no).kids := fun i hi => by
    obtain ⟨a, b, u1, c, d⟩ := hfu i hi
    exact ⟨a, b, u1, c, d.sub (fun x hx => .inl hx)⟩
   have hap2 := IRow.apart HI.out.2.1 hcl hfu
   have HAP := hidOf2 (And.intro hap hap2)
   clear hfu hap hap2
   obtain ⟨ad, nc, rfl⟩ := kk.np.form
   have hql : (ps ++ Fl.all Gs ps.length).length ≤ 999 := by rw [List.length_append]; omega
   have HRES : Hid (((ps.length + (Fl.node op t Gs ps.length).length : Nat) : Int) - 1 = ((ps ++ Fl.all Gs ps.length).length : Int)) := by
    show _ = _
    unfold Fl.node
    simp only [List.length_append, List.length_cons, List.length_nil]
    omega
   have HPS : Hid (ps ++ Fl.node op t Gs ps.length = (ps ++ Fl.all Gs ps.length) ++ [Pr.nd (op : Int) t (Fl.ids Gs ps.length)]) := by
    show _ = _
    unfold Fl.node
    rw [List.append_assoc]
   obtain ⟨c0, f0⟩ := wcell kk.wr
   have hsz := kk.sz
   have hlow := kk.low
   have HKK := hidOf2 kk
   have HNR := hidOf2 hnr
   have HCF := hidOf2 (And.intro hcl hf)
   generalize (Fl.ids Gs ps.length) = zs at *
   generalize (ps ++ Fl.all Gs ps.length) = qs at *
   obtain ⟨N, hN⟩ : ∃ N, N = qs.length := ⟨_, rfl⟩
   rw [← hN] at c0 hql HNR HRES HKK HCF HKF HKB
   have HN := hidOf2 hN
   obtain ⟨Z, hZ⟩ : ∃ Z, Z = zs.length := ⟨_, rfl⟩
   rw [← hZ] at HKF HAP
   rw [← hZ]
   clear kk hnr hcl hf hta HI HPA HK hN hZ HLO hlen
   go_wp2_with (at_builtin; go_must (refine HNR.out.push rfl _ _ rfl rfl _ _ _ rfl rfl rfl wr.heap.size rfl rfl ?hl ?hb ?_))
   case hl => omega
   intro q7 cap7 w7 hrow hq hq2 hsz2 hen hblk
   have hhlt : h < wr.heap.size := by omega
   have hne : (Value.slice ad N nc).ownBlock ≠ some h := fun e => by have := (HKK.out.np.own h e).1; omega
   have hw7 := (hblk h hhlt hne).trans HKK.out.wr
   obtain ⟨c7, f7⟩ := wcell hw7
   have HW7 := hidOf2 hw7
   have HWF : Hid (Wr B h Xs (w7.setCell ⟨h, 0, none⟩ (.slice (some ⟨q7, 0, none⟩) (N + 1) cap7)) (.slice (some ⟨q7, 0, none⟩) (N + 1) cap7) (qs ++ [Pr.nd (op : Int) t zs]) ∧ KB h v w1 (w7.setCell ⟨h, 0, none⟩ (.slice (some ⟨q7, 0, none⟩) (N + 1) cap7)) (.slice (some ⟨q7, 0, none⟩) (N + 1) cap7)) := by
    have kb7 : KB h (.slice ad N nc) wr (w7.setCell ⟨h, 0, none⟩ (.slice (some ⟨q7, 0, none⟩) (N + 1) cap7)) (.slice (some ⟨q7, 0, none⟩) (N + 1) cap7) := by
     refine ⟨⟨hen.1, hen.2.1, hen.2.2⟩, by simpa [World.setCell] using hsz2, fun k hk hg hv => ?_, fun q e => ?_⟩
     ·rw [Below.heap_setCell _ _ _ _ (by show k ≠ h; exact hg)]
      exact hblk k hk hv
     ·obtain rfl : q7 = q := by simpa [Value.ownBlock] using e
      exact hq
    refine ⟨?_, HKB.out.trans kb7⟩
    have hN := HN.out
    subst hN
    exact Wr.put HKK.out HCF.out.1 HCF.out.2 (set0w HW7.out _) (NR.set hrow hlow 0 _) kb7 HKF.out HAP.out.1 HAP.out.2
   obtain ⟨c8, f8⟩ := wcell (set0w HW7.out (.slice (some ⟨q7, 0, none⟩) (N + 1) cap7))
   clear hrow hq hq2 hsz2 hen hblk hw7 HW7 HKK HNR HCF HKF HKB HAP c0 f0
   go_wp2
   go_ret
   refine ⟨_, ?_, by rw [HPS.out]; exact HWF.out.1, (KB.below h v HB1.out).trans HWF.out.2⟩
   rw [HRES.out]
   go_num
end PartRrG
end Go.Proofs.YtkfkbdgfnopokaaGreatDoor
