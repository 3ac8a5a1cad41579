/- The program: linked pieces and their ends. -/
import Derived.Test.YtibmagmdeacenacIpC
namespace Go.Proofs.Ytibmagmdeacenac
section PartIpD
open Go.RowKit Go.Maps

/-- The linked pieces and what is known of them lie in the blocks from M0 up to M1. -/
structure Im where
  M0 : Nat
  M1 : Nat
  K : Nat
  s : ByteArray
  ps : List Pi
  P : Nat → Nat
  B : Nat → Nat
def Im.pc (c : Im) (k : Nat) : Pi := c.ps.getD k Pi.no
def Im.f1 (c : Im) (k : Nat) : Option Addr := if 0 < (c.pc k).kids.length then some ⟨c.P (En.kid (c.pc k) 0), 0, none⟩ else none
def Im.f2 (c : Im) (k : Nat) : Option Addr := if 1 < (c.pc k).kids.length then some ⟨c.P (En.kid (c.pc k) 1), 0, none⟩ else none
def Im.kb (c : Im) (k : Nat) : Option Nat := if 0 < (c.pc k).kids.length then some (c.B k) else none

/-- How a set among what is known reads: by its block. -/
def knownElem : Value → Option (DataW (Option Nat) × List MemPlace)
  | .map ob => some (.held ob, [])
  | _ => none
theorem knownElem_mk (ob : Option Nat) : knownElem (.map ob) = some (.held ob, []) := rfl
theorem knownElem_inv {v : Value} {z : DataW (Option Nat) × List MemPlace} (h : knownElem v = some z) : ∃ ob, v = .map ob ∧ z = (.held ob, []) := by
  cases v <;> simp [knownElem] at h
  exact ⟨_, rfl, h.symm⟩

def IKn (c : Im) (X : Nat → Prop) (w : World) (k : Nat) : Prop := ∃ D : DataW (Option Nat), w.ownsMap Try.prog 3 knownElem (c.B k) (Maps.size D) D ∧
  ∀ x : Int, Maps.has D (.int .i64 x) = true → ∃ i b : Nat, x = (i : Int) ∧ i < c.s.size + 1 ∧ (∀ z, D.atKey (.int .i64 x) z = .held (some b)) ∧ c.M1 ≤ b ∧ ¬ X b ∧ ES w b (En.Ends c.ps c.s k i)
structure IMemo (c : Im) (X : Nat → Prop) (w : World) : Prop where
  lp : ∀ k, k < c.K → LpAt w (c.P k) (c.pc k).op (c.pc k).text (c.f1 k) (c.f2 k) (c.kb k)
  kn : ∀ k, k < c.K → 0 < (c.pc k).kids.length → IKn c X w k
  hi : c.M1 ≤ w.heap.size
structure ILie (c : Im) : Prop where
  hP : ∀ k, k < c.K → c.M0 ≤ c.P k ∧ c.P k < c.M1
  hB : ∀ k, k < c.K → 0 < (c.pc k).kids.length → c.M0 ≤ c.B k ∧ c.B k < c.M1
  hBB : ∀ k j, k < c.K → j < c.K → 0 < (c.pc k).kids.length → 0 < (c.pc j).kids.length → k ≠ j → c.B k ≠ c.B j
  pk : ∀ k, k < c.K → Pk.piece k (c.pc k) = true
  hs : c.s.size ≤ 1048576

theorem IMemo.frame {c : Im} {X : Nat → Prop} {w w' : World} (L : ILie c) (h : IMemo c X w) (hX : ∀ b, X b → c.M1 ≤ b) (hsz : w.heap.size ≤ w'.heap.size) (hb : ∀ b, b < w.heap.size → ¬ X b → w'.heap[b]? = w.heap[b]?) : IMemo c X w' := by
  have hM := h.hi
  have lo : ∀ b, b < c.M1 → w'.heap[b]? = w.heap[b]? := fun b hbl => hb b (by omega) (fun hx => by have := hX b hx; omega)
  refine ⟨fun k hk => ?_, fun k hk hk0 => ?_, by omega⟩
  · exact (lo _ (L.hP k hk).2).trans (h.lp k hk)
  · obtain ⟨D, h1, h2⟩ := h.kn k hk hk0
    refine ⟨D, own_keepM h1 (lo _ (L.hB k hk hk0).2), fun x hx => ?_⟩
    obtain ⟨i, b, e, hi, h3, h4, h5, h6⟩ := h2 x hx
    exact ⟨i, b, e, hi, h3, h4, h5, h6.keep (hb b h6.lt h5)⟩
theorem IMemo.up {c : Im} {X : Nat → Prop} {w w' : World} (L : ILie c) (h : IMemo c X w) (hX : ∀ b, X b → c.M1 ≤ b) (hb : Below w.heap.size w w') : IMemo c X w' :=
  h.frame L hX hb.size (fun b hbl _ => hb.block b hbl)
theorem IMemo.more {c : Im} {X Y : Nat → Prop} {w : World} (h : IMemo c X w) (hY : ∀ b, Y b → X b ∨ w.heap.size ≤ b) : IMemo c Y w := by
  refine ⟨h.lp, fun k hk hk0 => ?_, h.hi⟩
  obtain ⟨D, h1, h2⟩ := h.kn k hk hk0
  refine ⟨D, h1, fun x hx => ?_⟩
  obtain ⟨i, b, e, hi, h3, h4, h5, h6⟩ := h2 x hx
  refine ⟨i, b, e, hi, h3, h4, fun hy => ?_, h6⟩
  rcases hY b hy with h | h
  · exact h5 h
  · have := h6.lt; omega
/-- What is written into blocks of X, by one who grows. -/
theorem IMemo.grown {c : Im} {X : Nat → Prop} {w w' : World} {q : Nat} (L : ILie c) (h : IMemo c X w) (hX : ∀ b, X b → c.M1 ≤ b) (hg : w.grownBy w' (some q)) (hq : X q) : IMemo c X w' :=
  h.frame L hX hg.size (fun b hbl hn => hg.block b hbl (fun e => hn (by rw [Option.some.inj e]; exact hq)))
theorem FM.grown {B C : Nat} {w w' w2 : World} {q : Nat} (h : FM B C w w') (hg : w'.grownBy w2 (some q)) (hq : w.heap.size ≤ q) : FM B C w w2 :=
  ⟨h.1.trans ⟨hg.os, hg.tape, hg.output⟩, Nat.le_trans h.2.1 hg.size, fun k hk hkk => (hg.block k (Nat.lt_of_lt_of_le hk h.2.1) (fun e => by have := Option.some.inj e; omega)).trans (h.2.2 k hk hkk)⟩
open Classical in
/-- No more keys than there are places. -/
theorem size_any {H : Type} {w : World} {b n : Nat} {R : Value → Option (DataW H × List MemPlace)} {D : DataW H} (h1 : w.ownsMap Try.prog 3 R b n D) (N : Nat) (h2 : ∀ x : Int, Maps.has D (.int .i64 x) = true → ∃ k : Nat, x = (k : Int) ∧ k < N) : Maps.size D ≤ N := by
  obtain ⟨es, rfl, hpw, -⟩ := h1.entries keyI
  obtain ⟨es', hD', hko⟩ := h1.keysOf
  obtain rfl : es = es' := by simpa using hD'
  have hp : (((List.range N).filter fun k : Nat => Maps.has (DataW.map es) (.int .i64 (k : Int))).map fun k : Nat => (k : Int)).Perm (intKeys (.map es)) := by
    refine perm_intKeys hpw (fun p hp => by obtain ⟨v, hv⟩ := hko p hp; obtain ⟨x, _, hx, _⟩ := Maps.keyOf_i64 Try.underlying3 hv; exact ⟨x, hx⟩) ?_ (fun x => ?_)
    · refine List.pairwise_map.2 ?_
      refine List.Pairwise.imp (R := fun a b : Nat => a < b) (fun {a b} hab => by omega) ?_
      exact List.Pairwise.filter _ List.pairwise_lt_range
    · rw [List.mem_map]
      constructor
      · rintro ⟨k, hk, rfl⟩
        rw [List.mem_filter] at hk
        exact hk.2
      · intro hx
        obtain ⟨k, rfl, hk⟩ := h2 x hx
        exact ⟨k, by rw [List.mem_filter, List.mem_range]; exact ⟨hk, hx⟩, rfl⟩
  have h := hp.length_eq
  rw [List.length_map] at h
  have e : (intKeys (DataW.map es)).length = Maps.size (DataW.map es) := by simp [intKeys, Maps.size]
  rw [← e, ← h]
  refine Nat.le_trans (List.length_filter_le _ _) (by simp)
/-- One thing more is known. -/
theorem IMemo.learn {c : Im} {X : Nat → Prop} {w w' : World} (L : ILie c) (h : IMemo c X w) (k i b n : Nat) (hk : k < c.K) (hk0 : 0 < (c.pc k).kids.length) (hi : i < c.s.size + 1) (hb : c.M1 ≤ b) (hx : ¬ X b) (hE : ES w b (En.Ends c.ps c.s k i)) {D : DataW (Option Nat)}
    (hD : w.ownsMap Try.prog 3 knownElem (c.B k) n D) (h2 : ∀ x : Int, Maps.has D (.int .i64 x) = true → ∃ i b : Nat, x = (i : Int) ∧ i < c.s.size + 1 ∧ (∀ z, D.atKey (.int .i64 x) z = .held (some b)) ∧ c.M1 ≤ b ∧ ¬ X b ∧ ES w b (En.Ends c.ps c.s k i))
    (hown : w'.ownsMap Try.prog 3 knownElem (c.B k) (n + 1) (D.put (.int .i64 (i : Int)) (.held (some b)))) (hg : w.grownBy w' (some (c.B k))) : IMemo c X w' ∧ FM c.M0 c.M1 w w' ∧ ∀ q, q ≠ c.B k → q < w.heap.size → w'.heap[q]? = w.heap[q]? := by
  have hBk := L.hB k hk hk0
  have hM := h.hi
  have other : ∀ q, q ≠ c.B k → q < w.heap.size → w'.heap[q]? = w.heap[q]? := fun q hq hl => hg.block q hl (fun e => hq (Option.some.inj e))
  have hnc : ∀ j, j < c.K → c.P j ≠ c.B k := fun j hj e => by
    have h3 := h.lp j hj
    obtain ⟨es, clock, h4, _⟩ := hD
    unfold LpAt at h3
    rw [e, h4] at h3
    cases h3
  have esk : ∀ {q : Nat} {S : Nat → Prop}, ES w q S → c.M1 ≤ q → ES w' q S := fun hq hm => hq.keep (other _ (by omega) hq.lt)
  refine ⟨⟨fun j hj => (other _ (hnc j hj) (by have := (L.hP j hj).2; omega)).trans (h.lp j hj), fun j hj hj0 => ?_, by have := hg.size; omega⟩, ⟨⟨hg.os, hg.tape, hg.output⟩, hg.size, fun q hq hqq => other q (by omega) hq⟩, other⟩
  by_cases hjk : j = k
  · subst hjk
    refine ⟨_, own_tight hown, fun x hx2 => ?_⟩
    by_cases hxi : x = (i : Int)
    · subst hxi
      exact ⟨i, b, rfl, hi, fun z => atKey_put_same hD.isMap (isKey_int _) _ z, hb, hx, esk hE hb⟩
    · have hne : (Lit.int .i64 x) ≠ .int .i64 (i : Int) := fun e => hxi (by simpa using e)
      rw [has_put_other hne] at hx2
      obtain ⟨i', b', e, hi', h3, h4, h5, h6⟩ := h2 x hx2
      exact ⟨i', b', e, hi', fun z => (atKey_put_other hne _ z).trans (h3 z), h4, h5, esk h6 h4⟩
  · obtain ⟨Dj, g1, g2⟩ := h.kn j hj hj0
    have hBj := L.hB j hj hj0
    refine ⟨Dj, own_keepM g1 (other _ (L.hBB j k hj hk hj0 hk0 hjk) (by omega)), fun x hx2 => ?_⟩
    obtain ⟨i', b', e, hi', h3, h4, h5, h6⟩ := g2 x hx2
    exact ⟨i', b', e, hi', h3, h4, h5, esk h6 h4⟩

/-- What 'ends' leaves. -/
def IPost (c : Im) (X : Nat → Prop) (S : Nat → Prop) (w : World) (e : Ending) (w' : World) : Prop :=
  ∃ ob, e = .returned (.map ob) ∧ OS w' c.M1 ob S ∧ (∀ b, ob = some b → ¬ X b) ∧ IMemo c X w' ∧ FM c.M0 c.M1 w w'
def EndC (c : Im) (k : Nat) : Prop := ∀ (X : Nat → Prop) (w : World) (i : Nat), (∀ b, X b → c.M1 ≤ b ∧ b < w.heap.size) → IMemo c X w → i < c.s.size + 1 →
  Calls Try.prog 24 #[.pointer (some ⟨c.P k, 0, none⟩), .string c.s, .int .i64 (i : Int)] w (IPost c X (En.Ends c.ps c.s k i) w)
/-- What 'endsOfKids' and 'againFrom' leave: a set of their own. -/
def KPost (c : Im) (X : Nat → Prop) (S : Nat → Prop) (w : World) (e : Ending) (w' : World) : Prop :=
  ∃ b, e = .returned (.map (some b)) ∧ w.heap.size ≤ b ∧ ES w' b S ∧ IMemo c X w' ∧ FM c.M0 c.M1 w w'
def KidC (c : Im) (k : Nat) : Prop := ∀ (X : Nat → Prop) (w : World) (i : Nat), (∀ b, X b → c.M1 ≤ b ∧ b < w.heap.size) → IMemo c X w → i < c.s.size + 1 →
  Calls Try.prog 40 #[.pointer (some ⟨c.P k, 0, none⟩), .string c.s, .int .i64 (i : Int)] w (KPost c X (En.Ends c.ps c.s k i) w)
end PartIpD
section PartIpE
open Go.RowKit Go.Maps

theorem under_known : Try.prog.underlying 80 = some (.map 3 51) := Try.underlying80
theorem zero_eset (w : World) : (zeroValue 51).run Try.prog w = .ok (.map none) w := by kernel_rfl
theorem zero_unit (w : World) : (zeroValue 60).run Try.prog w = .ok (.agg #[]) w := by kernel_rfl
/-- 'found, ok := known[at]'. -/
theorem wpList_known {w : World} {ops : Array Oper} {rest : List Oper} {o : Oper} {a : Act} {Q : Exit → Act → World → Prop} (hg : o.guard = none) (m x : Operand) (hop : o.op = Op.lookup 80 m x true) (b n : Nat) (D : DataW (Option Nat))
    (hm : a.eval m = .map (some b)) (hown : w.ownsMap Try.prog 3 knownElem b n D) (key : Value) (kl : Lit) (hx : a.eval x = key) (hkey : keyOf Try.prog 3 key = some kl)
    (hK : ∀ ob : Option Nat, D.atKey kl (.held none) = .held ob → wpList Try.prog ops Q rest (a.put o.dst (.tuple #[.map ob, .bool (Maps.has D kl)])) w) :
    wpList Try.prog ops Q (o :: rest) a w :=
  wpList_lookup_own_ok w hg m x 80 hop 3 51 keyI under_known knownElem (zero_eset w) (.held none) [] (knownElem_mk none) b n D hm hown key kl hx hkey (fun v ps hv => by
    obtain ⟨ob, rfl, hz⟩ := knownElem_inv hv
    exact hK ob (congrArg Prod.fst hz))

theorem OS.low {w : World} {B C : Nat} {ob : Option Nat} {S : Nat → Prop} (h : OS w B ob S) (hc : C ≤ B) : OS w C ob S := by
  rcases h with h | ⟨b, h1, h2, h3⟩
  · exact .inl h
  · exact .inr ⟨b, h1, Nat.le_trans hc h2, h3⟩
theorem OS.iff {w : World} {B : Nat} {ob : Option Nat} {S T : Nat → Prop} (h : OS w B ob S) (e : ∀ k, S k ↔ T k) : OS w B ob T := by
  rcases h with ⟨h1, h2⟩ | ⟨b, h1, h2, h3⟩
  · exact .inl ⟨h1, fun k hk => h2 k ((e k).2 hk)⟩
  · exact .inr ⟨b, h1, h2, h3.iff e⟩

set_option maxHeartbeats 4000000 in
set_option maxRecDepth 100000 in
theorem ends_plain (c : Im) (L : ILie c) (k : Nat) (hk : k < c.K) (hk0 : (c.pc k).kids.length = 0) : EndC c k := by
  intro X w i hX h hi
  have hlp := h.lp k hk
  have e1 : c.f1 k = none := by unfold Im.f1; rw [if_neg (by omega)]
  obtain ⟨pk1, -, pk3, pk4, -⟩ := Pk.piece_kids (L.pk k hk)
  have hop : (c.pc k).op = 1 ∨ (c.pc k).op = 2 ∨ (c.pc k).op = 3 ∨ (c.pc k).op = 4 ∨ (c.pc k).op = 10 ∨ (c.pc k).op = 11 ∨ (c.pc k).op = 12 := by
    rw [hk0] at pk1
    unfold Pk.kw at pk1
    split at pk1
    · omega
    · split at pk1
      · omega
      · omega
  have HO : Hid (∀ W : World, LpAt W (c.P k) (c.pc k).op (c.pc k).text (c.f1 k) (c.f2 k) (c.kb k) → Calls Try.prog 39 #[.pointer (some ⟨c.P k, 0, none⟩), .string c.s, .int .i64 (i : Int)] W fun e w' => ∃ ob, e = .returned (.map ob) ∧ OS w' W.heap.size ob (EndsOne (c.pc k) c.s i) ∧ Below W.heap.size W w') := fun W hW => endOfOne_any (c.P k) (c.pc k) _ _ _ c.s i W hW hop L.hs (by omega)
  have HE : Hid (∀ j, EndsOne (c.pc k) c.s i j ↔ En.Ends c.ps c.s k i j) := fun j => (ends_one c.ps c.s k i j (by show (c.pc k).op ≠ 5 ∧ (c.pc k).op ≠ 6 ∧ (c.pc k).op ≠ 7 ∧ (c.pc k).op ≠ 8 ∧ (c.pc k).op ≠ 9; omega)).symm
  have HM : Hid (IMemo c X w) := h
  have HX : Hid (∀ b, X b → c.M1 ≤ b ∧ b < w.heap.size) := hX
  have HL : Hid (ILie c) := L
  have HP : Hid (LpAt w (c.P k) (c.pc k).op (c.pc k).text (c.f1 k) (c.f2 k) (c.kb k)) := hlp
  obtain ⟨-, -, c2, -, -⟩ := hlp.cells
  rw [e1] at c2
  clear hlp L h hX hop pk1 pk3 pk4 e1
  go_enter Try.func24, Try.ntmps24
  go_wp2_with fail
  refine (HO.out _ HP.out).mono ?_
  rintro e w1 ⟨ob, rfl, o1, o2⟩
  have HF : Hid (IPost c X (En.Ends c.ps c.s k i) w (.returned (.map ob)) w1) := ⟨ob, rfl, (o1.low HM.out.hi).iff HE.out, fun b e hx => by
    subst e
    have := (HX.out b hx).2
    rcases o1 with ⟨e, _⟩ | ⟨b', e, h2, _⟩
    · cases e
    · have := Option.some.inj e; omega, HM.out.up HL.out (fun b hb => (HX.out b hb).1) o2, (FM.refl _ _ w).up o2⟩
  clear o1 o2
  go_wp2_with fail
  go_ret
  exact HF.out

set_option maxHeartbeats 4000000 in
set_option maxRecDepth 100000 in
theorem ends_kids (c : Im) (L : ILie c) (k : Nat) (hk : k < c.K) (hk0 : 0 < (c.pc k).kids.length) (hC : KidC c k) : EndC c k := by
  intro X w i hX h hi
  have hlp := h.lp k hk
  have e1 : c.f1 k = some ⟨c.P (En.kid (c.pc k) 0), 0, none⟩ := by unfold Im.f1; rw [if_pos hk0]
  have e2 : c.kb k = some (c.B k) := by unfold Im.kb; rw [if_pos hk0]
  obtain ⟨D, hD1, hD2⟩ := h.kn k hk hk0
  have hs := L.hs
  have HC : Hid (KidC c k) := hC
  have HM : Hid (IMemo c X w) := h
  have HX : Hid (∀ b, X b → c.M1 ≤ b ∧ b < w.heap.size) := hX
  have HL : Hid (ILie c) := L
  obtain ⟨-, -, c2, -, c4⟩ := hlp.cells
  rw [e1] at c2
  rw [e2] at c4
  have HD2 : Hid (∀ x : Int, Maps.has D (.int .i64 x) = true → ∃ i b : Nat, x = (i : Int) ∧ i < c.s.size + 1 ∧ (∀ z, D.atKey (.int .i64 x) z = .held (some b)) ∧ c.M1 ≤ b ∧ ¬ X b ∧ ES w b (En.Ends c.ps c.s k i)) := hD2
  clear hlp L h hX hC hD2 e1
  by_cases hh : Maps.has D (.int .i64 (i : Int)) = true
  · obtain ⟨i', b, ei, -, hat, hb1, hb2, hb3⟩ := HD2.out _ hh
    obtain rfl : i = i' := by omega
    have HF : Hid (IPost c X (En.Ends c.ps c.s k i) w (.returned (.map (some b))) w) := ⟨_, rfl, .inr ⟨b, rfl, hb1, hb3⟩, fun b' e => by cases e; exact hb2, HM.out, FM.refl _ _ _⟩
    clear hb1 hb2 hb3 ei
    go_enter Try.func24, Try.ntmps24
    go_wp2_with (first | (at_lookup; refine wpList_known rfl _ _ rfl (c.B k) _ D rfl hD1 _ _ rfl (keyOf_int_mk Try.underlying3 (small_wf (by omega))) ?_; intro ob hob; obtain rfl : some b = ob := by (rw [hat] at hob; simpa using hob)) | fail)
    go_ret
    exact HF.out
  · rw [Bool.not_eq_true] at hh
    go_enter Try.func24, Try.ntmps24
    go_wp2_with (first | (at_lookup; refine wpList_known rfl _ _ rfl (c.B k) _ D rfl hD1 _ _ rfl (keyOf_int_mk Try.underlying3 (small_wf (by omega))) ?_; intro ob hob) | fail)
    refine (HC.out X w i HX.out HM.out hi).mono ?_
    rintro e w1 ⟨b, rfl, q1, q2, q3, q4⟩
    obtain ⟨D1, hE1, hE2⟩ := q3.kn k hk hk0
    obtain ⟨-, -, -, -, c4'⟩ := (q3.lp k hk).cells
    rw [e2] at c4'
    have hn1 : Maps.size D1 < maxLen := by
      have := size_any hE1 (c.s.size + 1) (fun x hx => by obtain ⟨i, _, e, h, _⟩ := hE2 x hx; exact ⟨i, e, h⟩)
      unfold maxLen
      omega
    have hbM : c.M1 ≤ b := Nat.le_trans HM.out.hi q1
    have hbX : ¬ X b := fun hx => by have := (HX.out b hx).2; omega
    have HLN : Hid (∀ w2 : World, w2.ownsMap Try.prog 3 knownElem (c.B k) (Maps.size D1 + 1) (D1.put (.int .i64 (i : Int)) (.held (some b))) → w1.grownBy w2 (some (c.B k)) → IPost c X (En.Ends c.ps c.s k i) w (.returned (.map (some b))) w2) := by
      intro w2 ho hg
      obtain ⟨m1, m2, m3⟩ := q3.learn HL.out k i b _ hk hk0 hi hbM hbX q2 hE1 hE2 ho hg
      exact ⟨_, rfl, .inr ⟨b, rfl, hbM, q2.keep (m3 b (by have := (HL.out.hB k hk hk0).2; omega) q2.lt)⟩, fun b' e => by cases e; exact hbX, m1, q4.trans m2⟩
    clear q1 q2 q3 q4 hE2 hbM hbX c2 c4 HM HC HD2 hob
    go_wp2_with (first | (at_mapUpdate; refine wpList_mapUpdate_own _ rfl _ _ _ 80 rfl 3 51 keyI under_known knownElem (c.B k) _ D1 rfl hE1 hn1 _ _ _ rfl rfl (keyOf_int_mk Try.underlying3 (small_wf (by omega))) (.held (some b)) [] (knownElem_mk _) ?_; intro w2 hown2 hg2) | fail)
    go_ret
    exact HLN.out w2 hown2 hg2
end PartIpE
section PartIpF
open Go.RowKit Go.Maps

/-- The set that is being made, in block b0. -/
structure Fd (c : Im) (X : Nat → Prop) (w : World) (b0 : Nat) (wr : World) (S : Nat → Prop) : Prop where
  es : ES wr b0 S
  bd : ∀ j, S j → j < c.s.size + 1
  mem : IMemo c (fun b => X b ∨ b = b0) wr
  fm : FM c.M0 c.M1 w wr
  hb : w.heap.size ≤ b0
section
variable {c : Im} {X : Nat → Prop} {w wr w2 : World} {b0 : Nat} {S T : Nat → Prop}
theorem Fd.begin (L : ILie c) (hX : ∀ b, X b → c.M1 ≤ b ∧ b < w.heap.size) (h : IMemo c X w) : Fd c X w w.heap.size (w.alloc (.map #[] 0)) (fun _ => False) := by
  have hM := h.hi
  refine ⟨ES.made w, fun _ h => h.elim, ?_, (FM.refl _ _ w).up ((Below.refl _ _).alloc (Nat.le_refl _) _), Nat.le_refl _⟩
  refine IMemo.up L (h.more fun b hb => ?_) (fun b hb => ?_) ((Below.refl _ _).alloc (Nat.le_refl _) _)
  · rcases hb with hb | rfl
    · exact .inl hb
    · exact .inr (Nat.le_refl _)
  · rcases hb with hb | rfl
    · exact (hX b hb).1
    · exact hM
theorem Fd.low (h : Fd c X w b0 wr S) (hM : c.M1 ≤ w.heap.size) (hX : ∀ b, X b → c.M1 ≤ b ∧ b < w.heap.size) (b : Nat) (hb : X b ∨ b = b0) : c.M1 ≤ b ∧ b < wr.heap.size := by
  have h1 := h.es.lt
  have h2 := h.hb
  rcases hb with hb | rfl
  · exact ⟨(hX b hb).1, by have := (hX b hb).2; omega⟩
  · exact ⟨by omega, h1⟩
theorem Fd.called (h : Fd c X w b0 wr S) (hM : c.M1 ≤ w.heap.size) (hm : IMemo c (fun b => X b ∨ b = b0) w2) (hf : FM c.M0 c.M1 wr w2) : Fd c X w b0 w2 S :=
  ⟨h.es.keep (hf.2.2 _ h.es.lt (.inr (Nat.le_trans hM h.hb))), h.bd, hm, h.fm.trans hf, h.hb⟩
theorem Fd.low1 (h : Fd c X w b0 wr S) (hM : c.M1 ≤ w.heap.size) (hX : ∀ b, X b → c.M1 ≤ b) (b : Nat) (hb : X b ∨ b = b0) : c.M1 ≤ b := by
  have h2 := h.hb
  rcases hb with hb | rfl
  · exact hX b hb
  · omega
theorem Fd.up (h : Fd c X w b0 wr S) (L : ILie c) (hM : c.M1 ≤ w.heap.size) (hX : ∀ b, X b → c.M1 ≤ b) (hb : Below wr.heap.size wr w2) : Fd c X w b0 w2 S :=
  ⟨h.es.keep (hb.block _ h.es.lt), h.bd, h.mem.up L (h.low1 hM hX) hb, h.fm.up hb, h.hb⟩
theorem Fd.iff (h : Fd c X w b0 wr S) (e : ∀ j, S j ↔ T j) : Fd c X w b0 wr T := ⟨h.es.iff e, fun j hj => h.bd j ((e j).2 hj), h.mem, h.fm, h.hb⟩
theorem Fd.grown (h : Fd c X w b0 wr S) (L : ILie c) (hM : c.M1 ≤ w.heap.size) (hX : ∀ b, X b → c.M1 ≤ b) (hg : wr.grownBy w2 (some b0)) (hE : ES w2 b0 T) (hT : ∀ j, T j → j < c.s.size + 1) : Fd c X w b0 w2 T :=
  ⟨hE, hT, h.mem.grown L (h.low1 hM hX) hg (.inr rfl), h.fm.grown hg h.hb, h.hb⟩
/-- What is left at last. -/
theorem Fd.post (h : Fd c X w b0 wr S) (e : ∀ j, S j ↔ T j) : KPost c X T w (.returned (.map (some b0))) wr :=
  ⟨b0, rfl, h.hb, h.es.iff e, h.mem.more (fun _ hb => .inl (.inl hb)), h.fm⟩
/-- A set taken up into it. -/
theorem Fd.add (h : Fd c X w b0 wr S) (L : ILie c) (hM : c.M1 ≤ w.heap.size) (hX : ∀ b, X b → c.M1 ≤ b) {B : Nat} {ob : Option Nat} (ho : OS wr B ob T) (hn : ob ≠ some b0) (hT : ∀ j, T j → j < c.s.size + 1) :
    Calls Try.prog 57 #[.map (some b0), .map ob] wr fun e w' => e = .returned (.tuple #[]) ∧ Fd c X w b0 w' (fun j => S j ∨ T j) ∧ wr.grownBy w' (some b0) := by
  have hs := L.hs
  rcases ho with ⟨rfl, hno⟩ | ⟨b, rfl, _, hE⟩
  · refine (add_nil b0 wr).mono ?_
    rintro e w' ⟨rfl, hb⟩
    exact ⟨rfl, (h.up L hM hX hb).iff (fun j => ⟨.inl, fun hj => hj.resolve_right (hno j)⟩), ⟨hb.os, hb.tape, hb.output, hb.size, fun q hq _ => hb.block q hq⟩⟩
  · refine (add_any b0 b (c.s.size + 1) S T wr h.es hE (fun e => hn (by rw [e])) h.bd hT (by omega)).mono ?_
    rintro e w' ⟨rfl, h1, h2⟩
    exact ⟨rfl, h.grown L hM hX h2 h1 (fun j hj => hj.elim (h.bd j) (hT j)), h2⟩
end

theorem kid_ptr {c : Im} {w : World} {X : Nat → Prop} (h : IMemo c X w) (k : Nat) (hk : k < c.K) (hk0 : 0 < (c.pc k).kids.length) : w.cell? ⟨c.P k, 0, none⟩ = some (.int .i64 (c.pc k).op) ∧ w.cell? ⟨c.P k, 2, none⟩ = some (.pointer (some ⟨c.P (En.kid (c.pc k) 0), 0, none⟩)) := by
  obtain ⟨c0, -, c2, -, -⟩ := (h.lp k hk).cells
  unfold Im.f1 at c2
  rw [if_pos hk0] at c2
  exact ⟨c0, c2⟩
theorem kid_ptr2 {c : Im} {w : World} {X : Nat → Prop} (h : IMemo c X w) (k : Nat) (hk : k < c.K) (hk1 : 1 < (c.pc k).kids.length) : w.cell? ⟨c.P k, 3, none⟩ = some (.pointer (some ⟨c.P (En.kid (c.pc k) 1), 0, none⟩)) := by
  obtain ⟨-, -, -, c3, -⟩ := (h.lp k hk).cells
  unfold Im.f2 at c3
  rw [if_pos hk1] at c3
  exact c3

set_option maxHeartbeats 4000000 in
set_option maxRecDepth 100000 in
theorem kids_alt (c : Im) (L : ILie c) (k : Nat) (hk : k < c.K) (hop : (c.pc k).op = 6) (hk1 : 1 < (c.pc k).kids.length) (hC0 : EndC c (En.kid (c.pc k) 0)) (hC1 : EndC c (En.kid (c.pc k) 1)) : KidC c k := by
  intro X w i hX h hi
  obtain ⟨p0, p2⟩ := kid_ptr h k hk (by omega)
  rw [hop] at p0
  have hM : c.M1 ≤ w.heap.size := h.hi
  have HX : Hid (∀ b, X b → c.M1 ≤ b ∧ b < w.heap.size) := hX
  have HL : Hid (ILie c) := L
  have HC0 : Hid (EndC c (En.kid (c.pc k) 0)) := hC0
  have HC1 : Hid (EndC c (En.kid (c.pc k) 1)) := hC1
  have HF : Hid (Fd c X w w.heap.size (w.alloc (.map #[] 0)) (fun _ => False)) := Fd.begin L hX h
  obtain ⟨p0', p2'⟩ := kid_ptr HF.out.mem k hk (by omega)
  rw [hop] at p0'
  have HE : Hid (∀ j, En.Ends c.ps c.s k i j ↔ (En.Ends c.ps c.s (En.kid (c.pc k) 0) i j ∨ En.Ends c.ps c.s (En.kid (c.pc k) 1) i j)) := fun j => En.alt2 hop
  have hmm := @run_makeMap Try.prog
  clear L hX h hC0 hC1 hop
  go_enter Try.func40, Try.ntmps40
  go_wp2_with fail
  refine (HC0.out _ _ i (HF.out.low hM HX.out) HF.out.mem hi).mono ?_
  rintro e w1 ⟨ob, rfl, o1, o2, o3, o4⟩
  have HA : Hid (Calls Try.prog 57 #[.map (some w.heap.size), .map ob] w1 fun e w' => e = .returned (.tuple #[]) ∧ Fd c X w w.heap.size w' (fun j => False ∨ En.Ends c.ps c.s (En.kid (c.pc k) 0) i j) ∧ w1.grownBy w' (some w.heap.size)) :=
    (HF.out.called hM o3 o4).add HL.out hM (fun b hb => (HX.out b hb).1) o1 (fun e => o2 _ e (.inr rfl)) (fun j hj => by have := hj.le; omega)
  clear o1 o2 o3 o4 p0 p2 p0' p2' hmm HF
  go_wp2_with fail
  refine HA.out.mono ?_
  rintro e w2 ⟨rfl, hf2, -⟩
  have HF2 : Hid (Fd c X w w.heap.size w2 (fun j => False ∨ En.Ends c.ps c.s (En.kid (c.pc k) 0) i j)) := hf2
  have p3 := kid_ptr2 hf2.mem k hk hk1
  clear hf2 HA
  obtain ⟨wo, hwo⟩ : ∃ wo : World, wo = w2 := ⟨_, rfl⟩
  go_wp2_with fail
  refine (HC1.out _ _ i (HF2.out.low hM HX.out) HF2.out.mem hi).mono ?_
  rintro e w3 ⟨ob2, rfl, o1, o2, o3, o4⟩
  have HA : Hid (Calls Try.prog 57 #[.map (some w.heap.size), .map ob2] w3 fun e w' => e = .returned (.tuple #[]) ∧ Fd c X w w.heap.size w' (fun j => (False ∨ En.Ends c.ps c.s (En.kid (c.pc k) 0) i j) ∨ En.Ends c.ps c.s (En.kid (c.pc k) 1) i j) ∧ w3.grownBy w' (some w.heap.size)) :=
    (HF2.out.called hM o3 o4).add HL.out hM (fun b hb => (HX.out b hb).1) o1 (fun e => o2 _ e (.inr rfl)) (fun j hj => by have := hj.le; omega)
  clear o1 o2 o3 o4 p3 hwo HF2
  go_wp2_with fail
  refine HA.out.mono ?_
  rintro e w4 ⟨rfl, hf4, -⟩
  have HP : Hid (KPost c X (En.Ends c.ps c.s k i) w (.returned (.map (some w.heap.size))) w4) := hf4.post (fun j => by rw [HE.out j]; simp)
  clear hf4 HA
  go_wp2_with fail
  go_ret
  exact HP.out

set_option maxHeartbeats 4000000 in
set_option maxRecDepth 100000 in
theorem kids_opt (c : Im) (L : ILie c) (k : Nat) (hk : k < c.K) (hop : (c.pc k).op = 9) (hk0 : 0 < (c.pc k).kids.length) (hC0 : EndC c (En.kid (c.pc k) 0)) : KidC c k := by
  intro X w i hX h hi
  have hs := L.hs
  obtain ⟨p0, p2⟩ := kid_ptr h k hk hk0
  rw [hop] at p0
  have hM : c.M1 ≤ w.heap.size := h.hi
  have HX : Hid (∀ b, X b → c.M1 ≤ b ∧ b < w.heap.size) := hX
  have HL : Hid (ILie c) := L
  have HC0 : Hid (EndC c (En.kid (c.pc k) 0)) := hC0
  have HF : Hid (Fd c X w w.heap.size (w.alloc (.map #[] 0)) (fun _ => False)) := Fd.begin L hX h
  obtain ⟨p0', p2'⟩ := kid_ptr HF.out.mem k hk hk0
  rw [hop] at p0'
  have HE : Hid (∀ j, En.Ends c.ps c.s k i j ↔ (j = i ∨ En.Ends c.ps c.s (En.kid (c.pc k) 0) i j)) := fun j => En.opt2 hop
  have hmm := @run_makeMap Try.prog
  obtain ⟨w1, hup, u1, u2⟩ := single_map (w.alloc (.map #[] 0)) i (by omega)
  have hsz : (w.alloc (.map #[] 0)).heap.size = w.heap.size + 1 := by simp
  rw [hsz] at hup
  have HA : Hid (Calls Try.prog 57 #[.map (some w.heap.size), .map (some (w.heap.size + 1))] w1 fun e w' => e = .returned (.tuple #[]) ∧ Fd c X w w.heap.size w' (fun j => False ∨ j = i) ∧ w1.grownBy w' (some w.heap.size)) :=
    (HF.out.up L hM (fun b hb => (hX b hb).1) u2).add L hM (fun b hb => (hX b hb).1) (B := 0) (.inr ⟨_, rfl, Nat.zero_le _, by rw [hsz] at u1; exact u1⟩) (fun e => by have := Option.some.inj e; omega) (fun j hj => by omega)
  clear L hX h hC0 hop u1 u2 hsz
  go_enter Try.func40, Try.ntmps40
  go_wp2_with fail
  refine HA.out.mono ?_
  rintro e w2 ⟨rfl, hf2, -⟩
  have HF2 : Hid (Fd c X w w.heap.size w2 (fun j => False ∨ j = i)) := hf2
  obtain ⟨-, q2⟩ := kid_ptr hf2.mem k hk hk0
  clear hf2 HA p0 p2 p0' p2' hmm HF hup
  obtain ⟨wo, hwo⟩ : ∃ wo : World, wo = w2 := ⟨_, rfl⟩
  go_wp2_with fail
  refine (HC0.out _ _ i (HF2.out.low hM HX.out) HF2.out.mem hi).mono ?_
  rintro e w3 ⟨ob2, rfl, o1, o2, o3, o4⟩
  have HA : Hid (Calls Try.prog 57 #[.map (some w.heap.size), .map ob2] w3 fun e w' => e = .returned (.tuple #[]) ∧ Fd c X w w.heap.size w' (fun j => (False ∨ j = i) ∨ En.Ends c.ps c.s (En.kid (c.pc k) 0) i j) ∧ w3.grownBy w' (some w.heap.size)) :=
    (HF2.out.called hM o3 o4).add HL.out hM (fun b hb => (HX.out b hb).1) o1 (fun e => o2 _ e (.inr rfl)) (fun j hj => by have := hj.le; omega)
  clear o1 o2 o3 o4 q2 hwo HF2
  go_wp2_with fail
  refine HA.out.mono ?_
  rintro e w4 ⟨rfl, hf4, -⟩
  have HP : Hid (KPost c X (En.Ends c.ps c.s k i) w (.returned (.map (some w.heap.size))) w4) := hf4.post (fun j => by rw [HE.out j]; simp)
  clear hf4 HA
  go_wp2_with fail
  go_ret
  exact HP.out
end PartIpF
section PartIpG
open Go.RowKit Go.Maps
section
variable {c : Im} {X : Nat → Prop} {w wr w2 : World} {b0 : Nat} {S T : Nat → Prop}
/-- A range begins: its place is one's own too. -/
theorem Fd.range (h : Fd c X w b0 wr S) (L : ILie c) (hM : c.M1 ≤ w.heap.size) (hX : ∀ b, X b → c.M1 ≤ b) (hg : wr.grownBy w2 none) : Fd c (fun b => X b ∨ b = wr.heap.size) w b0 w2 S := by
  have hb : Below wr.heap.size wr w2 := ⟨hg.os, hg.tape, hg.output, hg.size, fun k hk => hg.block k hk (by simp)⟩
  have h1 := h.fm.2.1
  refine ⟨h.es.keep (hb.block _ h.es.lt), h.bd, ?_, h.fm.up hb, h.hb⟩
  refine IMemo.up L (h.mem.more fun b hb => ?_) (fun b hb => ?_) hb
  · rcases hb with (hb | rfl) | hb
    · exact .inl (.inl hb)
    · exact .inr (Nat.le_refl _)
    · exact .inl (.inr hb)
  · rcases hb with (hb | rfl) | hb
    · exact hX b hb
    · omega
    · exact h.low1 hM hX b (.inr hb)
theorem Fd.iter {r : Nat} (h : Fd c X w b0 wr S) (L : ILie c) (hM : c.M1 ≤ w.heap.size) (hX : ∀ b, X b → c.M1 ≤ b) (hg : wr.grownBy w2 (some r)) (hr : X r) (hr2 : w.heap.size ≤ r) (hne : b0 ≠ r) : Fd c X w b0 w2 S :=
  ⟨h.es.keep (hg.block _ h.es.lt (fun e => hne (Option.some.inj e))), h.bd, h.mem.grown L (h.low1 hM hX) hg (.inl hr), h.fm.grown hg hr2, h.hb⟩
theorem Fd.post2 {Y : Nat → Prop} (h : Fd c Y w b0 wr S) (hXY : ∀ b, X b → Y b) (e : ∀ j, S j ↔ T j) : KPost c X T w (.returned (.map (some b0))) wr :=
  ⟨b0, rfl, h.hb, h.es.iff e, h.mem.more (fun b hb => .inl (.inl (hXY b hb))), h.fm⟩
end

set_option maxHeartbeats 4000000 in
set_option maxRecDepth 100000 in
theorem kids_cat (c : Im) (L : ILie c) (k : Nat) (hk : k < c.K) (hop : (c.pc k).op = 5) (hk1 : 1 < (c.pc k).kids.length) (hC0 : EndC c (En.kid (c.pc k) 0)) (hC1 : EndC c (En.kid (c.pc k) 1)) : KidC c k := by
  intro X w i hX h hi
  have hs := L.hs
  obtain ⟨p0, p2⟩ := kid_ptr h k hk (by omega)
  rw [hop] at p0
  have hM : c.M1 ≤ w.heap.size := h.hi
  have HX : Hid (∀ b, X b → c.M1 ≤ b ∧ b < w.heap.size) := hX
  have HL : Hid (ILie c) := L
  have HC0 : Hid (EndC c (En.kid (c.pc k) 0)) := hC0
  have HC1 : Hid (EndC c (En.kid (c.pc k) 1)) := hC1
  have HF : Hid (Fd c X w w.heap.size (w.alloc (.map #[] 0)) (fun _ => False)) := Fd.begin L hX h
  obtain ⟨p0', p2'⟩ := kid_ptr HF.out.mem k hk (by omega)
  rw [hop] at p0'
  have HE : Hid (∀ j, En.Ends c.ps c.s k i j ↔ ∃ u, En.Ends c.ps c.s (En.kid (c.pc k) 0) i u ∧ En.Ends c.ps c.s (En.kid (c.pc k) 1) u j) := fun j => En.cat2 hop
  have hmm := @run_makeMap Try.prog
  clear L hX h hC0 hC1 hop
  go_enter Try.func40, Try.ntmps40
  go_wp2_with fail
  refine (HC0.out _ _ i (HF.out.low hM HX.out) HF.out.mem hi).mono ?_
  rintro e w1 ⟨ob, rfl, o1, o2, o3, o4⟩
  have HF1 : Hid (Fd c X w w.heap.size w1 (fun _ => False)) := HF.out.called hM o3 o4
  have HNE : Hid (ob ≠ some w.heap.size) := fun e => o2 _ e (.inr rfl)
  clear o2 o3 o4 p0 p2 p0' p2' hmm HF
  rcases o1 with ⟨rfl, hno⟩ | ⟨bf, rfl, hbf, hE⟩
  · have HP : Hid (∀ o : Obj, KPost c X (En.Ends c.ps c.s k i) w (.returned (.map (some w.heap.size))) (w1.alloc o)) := by
      intro o
      refine (HF1.out.up HL.out hM (fun b hb => (HX.out b hb).1) ((Below.refl _ _).alloc (Nat.le_refl _) o)).post (fun j => ⟨fun h => h.elim, fun h => ?_⟩)
      obtain ⟨u, hu, _⟩ := (HE.out j).1 h
      exact hno u hu
    have hrg := run_range_nilMap (P := Try.prog) w1 51 3 60 under_eset
    have hnx : ∀ ty, (Instr.next (.pointer (some ⟨w1.heap.size, 0, none⟩)) false ty).run Try.prog (w1.alloc (.mapIter none 0 #[] 0)) = _ := fun ty => run_next_nilMap _ ty 0 0 #[]
    clear hno
    go_wp2_with fail
    refine wp_loop_rounds 1 ?_
    rw [rounds_succ]
    go_wp2_with fail
    go_ret
    exact HP.out _
  · obtain ⟨D, hD1, hD2⟩ := hE
    go_wp2_with (first | (at_range; refine wpList_range_own _ rfl _ 51 rfl 3 60 keyI under_eset _ bf _ D rfl hD1 ?_; intro w0 hrg0 hg0 hs0) | fail)
    go_frame
    obtain ⟨r, hr⟩ : ∃ r, r = w1.heap.size := ⟨_, rfl⟩
    rw [← hr] at hrg0 ⊢
    have HR0 : Hid (w0.ranges Try.prog 3 unitElem bf r (Maps.size D) D (Maps.has D) (Maps.size D)) := hrg0
    have HD2 : Hid (∀ x : Int, Maps.has D (.int .i64 x) = true ↔ ∃ u : Nat, x = (u : Int) ∧ En.Ends c.ps c.s (En.kid (c.pc k) 0) i u) := hD2
    have HF0 : Hid (Fd c (fun b => X b ∨ b = r) w w.heap.size w0 (fun j => ∃ u, (En.Ends c.ps c.s (En.kid (c.pc k) 0) i u ∧ Maps.has D (.int .i64 (u : Int)) = false) ∧ En.Ends c.ps c.s (En.kid (c.pc k) 1) u j)) := by
      rw [hr]
      refine (HF1.out.range HL.out hM (fun b hb => (HX.out b hb).1) hg0).iff (fun j => ⟨fun h => h.elim, ?_⟩)
      rintro ⟨u, ⟨h1, h2⟩, _⟩
      rw [(hD2 (u : Int)).2 ⟨u, rfl, h1⟩] at h2
      cases h2
    have HRR : Hid (w.heap.size < r ∧ c.M1 ≤ r ∧ w.heap.size ≠ bf ∧ c.M1 ≤ bf) := by
      have h1 := HF1.out.es.lt
      exact ⟨by omega, by omega, fun e => HNE.out (by rw [e]), hbf⟩
    have HXR : Hid (∀ b, (X b ∨ b = r) → c.M1 ≤ b) := by
      rintro b (hb | rfl)
      · exact (HX.out b hb).1
      · exact HRR.out.2.1
    clear hrg0 hg0 hs0 hD1 hD2 HF1 HNE hbf hr HC0
    go_loopw [8] (fun _ wr => ∃ (left : Lit → Bool) (cnt : Nat), Hid (wr.ranges Try.prog 3 unitElem bf r (Maps.size D) D left cnt) ∧ Hid (Fd c (fun b => X b ∨ b = r) w w.heap.size wr (fun j => ∃ u, (En.Ends c.ps c.s (En.kid (c.pc k) 0) i u ∧ left (.int .i64 (u : Int)) = false) ∧ En.Ends c.ps c.s (En.kid (c.pc k) 1) u j)))
      (fun _ wr => wr.rangeLeft bf r)
    case atStart => exact ⟨_, _, HR0.out, HF0.out⟩
    case round =>
      obtain ⟨left, cnt, HR, HF⟩ := hrel
      clear HR0 HF0
      go_wp2_with (first
        | (at_next; refine wpList_next_ranges _ rfl _ rfl 3 keyI unitElem encZ (fun _ : Unit => Value.agg #[]) (fun key kl hk => by obtain ⟨x, hx, _⟩ := Maps.keyOf_i64 Try.underlying3 hk; exact ⟨x, hx⟩) (fun v y hv => ⟨(), (unitElem_inv hv).1⟩) bf r _ _ _ _ rfl HR.out ?_ ?_)
        | fail)
      · intro hc0 hl0
        have HP : Hid (KPost c X (En.Ends c.ps c.s k i) w (.returned (.map (some w.heap.size))) wr) := HF.out.post2 (fun b hb => .inl hb) (fun j => by
          rw [HE.out j]
          constructor
          · rintro ⟨u, ⟨h1, _⟩, h2⟩; exact ⟨u, h1, h2⟩
          · rintro ⟨u, h1, h2⟩; exact ⟨u, ⟨h1, hl0 _⟩, h2⟩)
        clear hl0 hc0
        go_wp2_with fail
        go_ret
        exact HP.out
      · intro x kl yd yp w2 cnt2 hkey hlk hv hat hrg2 hlt hg2 hs2 hen
        obtain ⟨x', ex, rfl, _⟩ := Maps.keyOf_i64 Try.underlying3 hkey
        obtain rfl : x = x' := encZ_inj ex
        obtain ⟨u, rfl, hu⟩ := (HD2.out x).1 (has_true_of_atKey hat)
        have hul : u < c.s.size + 1 := by have := hu.le; omega
        have HR2 : Hid (w2.ranges Try.prog 3 unitElem bf r (Maps.size D) D (fun z => left z && !z.sameKey (.int .i64 (u : Int))) cnt2) := hrg2
        have HF2 : Hid (Fd c (fun b => X b ∨ b = r) w w.heap.size w2 (fun j => ∃ u, (En.Ends c.ps c.s (En.kid (c.pc k) 0) i u ∧ left (.int .i64 (u : Int)) = false) ∧ En.Ends c.ps c.s (En.kid (c.pc k) 1) u j)) := HF.out.iter HL.out hM HXR.out hg2 (.inr rfl) (by have := HRR.out.1; omega) (by have := HRR.out.1; omega)
        have HK : Hid (En.Ends c.ps c.s (En.kid (c.pc k) 0) i u ∧ cnt2 < cnt) := ⟨hu, hlt⟩
        have HLW : Hid (∀ b, ((X b ∨ b = r) ∨ b = w.heap.size) → c.M1 ≤ b ∧ b < w2.heap.size) := by
          intro b hb
          refine ⟨HF2.out.low1 hM HXR.out b hb, ?_⟩
          have h1 := HF2.out.es.lt
          have h2 := hrg2.lt
          rcases hb with (hb | rfl) | rfl
          · have := (HX.out b hb).2; omega
          · exact h2
          · exact h1
        have p3 := kid_ptr2 HF2.out.mem k hk hk1
        clear hg2 hs2 hat hlk hv hkey hrg2 hlt hu ex
        go_wp2_with fail
        refine (HC1.out _ _ u HLW.out HF2.out.mem hul).mono ?_
        rintro e w3 ⟨ob, rfl, o1, o2, o3, o4⟩
        have HR3 : Hid (w3.ranges Try.prog 3 unitElem bf r (Maps.size D) D (fun z => left z && !z.sameKey (.int .i64 (u : Int))) cnt2) := ranges_keep HR2.out (o4.2.2 _ HR2.out.owns.lt (.inr HRR.out.2.2.2)) (o4.2.2 _ HR2.out.lt (.inr HRR.out.2.1))
        have HA : Hid (Calls Try.prog 57 #[.map (some w.heap.size), .map ob] w3 fun e w' => e = .returned (.tuple #[]) ∧ Fd c (fun b => X b ∨ b = r) w w.heap.size w' (fun j => (∃ u, (En.Ends c.ps c.s (En.kid (c.pc k) 0) i u ∧ left (.int .i64 (u : Int)) = false) ∧ En.Ends c.ps c.s (En.kid (c.pc k) 1) u j) ∨ En.Ends c.ps c.s (En.kid (c.pc k) 1) u j) ∧ w3.grownBy w' (some w.heap.size)) :=
          (HF2.out.called hM o3 o4).add HL.out hM HXR.out o1 (fun e => o2 _ e (.inr rfl)) (fun j hj => by have := hj.le; omega)
        clear o1 o2 o3 o4 p3 HF2 HR2 HLW hen
        go_wp2_with fail
        refine HA.out.mono ?_
        rintro e w4 ⟨rfl, hf4, hg4⟩
        have HF4 : Hid (Fd c (fun b => X b ∨ b = r) w w.heap.size w4 (fun j => ∃ u', (En.Ends c.ps c.s (En.kid (c.pc k) 0) i u' ∧ (left (.int .i64 (u' : Int)) && !(Lit.int .i64 (u' : Int)).sameKey (.int .i64 (u : Int))) = false) ∧ En.Ends c.ps c.s (En.kid (c.pc k) 1) u' j)) := hf4.iff (fun j => by
          constructor
          · rintro (⟨u', ⟨h1, h2⟩, h3⟩ | h3)
            · exact ⟨u', ⟨h1, by rw [h2]; rfl⟩, h3⟩
            · exact ⟨u, ⟨HK.out.1, by simp [Lit.sameKey]⟩, h3⟩
          · rintro ⟨u', ⟨h1, h2⟩, h3⟩
            by_cases huu : u' = u
            · subst huu; exact .inr h3
            · refine .inl ⟨u', ⟨h1, ?_⟩, h3⟩
              have e : (Lit.int .i64 (u' : Int)).sameKey (.int .i64 (u : Int)) = false := sameKey_ne (fun e => huu (by simp at e; omega))
              simpa [e] using h2)
        have HR4 : Hid (w4.ranges Try.prog 3 unitElem bf r (Maps.size D) D (fun z => left z && !z.sameKey (.int .i64 (u : Int))) cnt2) := HR3.out.kept hg4 (fun e => HRR.out.2.2.1 (Option.some.inj e).symm) (fun e => by have := Option.some.inj e; have := HRR.out.1; omega)
        clear hf4 hg4 HA HR3
        go_wp2_with fail
        go_roundw
        case rel => exact ⟨_, _, HR4.out, HF4.out⟩
        case measure =>
          rw [HR4.out.left_eq, HR.out.left_eq]
          exact HK.out.2
end PartIpG
end Go.Proofs.Ytibmagmdeacenac
