/- Where a piece may end, by the program: what is known of the linked pieces. -/
import Derived.Test.YtlnmbahakdmkgaaIpC
namespace Go.Proofs.Ytlnmbahakdmkgaa
open Go.RowKit Go.Maps

/-- The linked pieces and what is known of them lie in the blocks from M0 up to M1. -/
structure Im where
  M0 : Nat
  M1 : Nat
  K : Nat
  s : ByteArray
  ps : List Pi
  P : Nat → Nat
  B : Nat → Nat
def Im.pc (c : Im) (k : Nat) : Pi := c.ps.getD k Pi.no
def Im.f1 (c : Im) (k : Nat) : Option Addr := if 0 < (c.pc k).kids.length then some ⟨c.P (En.kid (c.pc k) 0), 0, none⟩ else none
def Im.f2 (c : Im) (k : Nat) : Option Addr := if 1 < (c.pc k).kids.length then some ⟨c.P (En.kid (c.pc k) 1), 0, none⟩ else none
def Im.kb (c : Im) (k : Nat) : Option Nat := if 0 < (c.pc k).kids.length then some (c.B k) else none

/-- How a set among what is known reads: by its block. -/
def knownElem : Value → Option (DataW (Option Nat) × List MemPlace)
  | .map ob => some (.held ob, [])
  | _ => none
theorem knownElem_mk (ob : Option Nat) : knownElem (.map ob) = some (.held ob, []) := rfl
theorem knownElem_inv {v : Value} {z : DataW (Option Nat) × List MemPlace} (h : knownElem v = some z) : ∃ ob, v = .map ob ∧ z = (.held ob, []) := by
  cases v <;> simp [knownElem] at h
  exact ⟨_, rfl, h.symm⟩

def IKn (c : Im) (X : Nat → Prop) (w : World) (k : Nat) : Prop := ∃ D : DataW (Option Nat), w.ownsMap Try.prog 3 knownElem (c.B k) (Maps.size D) D ∧
  ∀ x : Int, Maps.has D (.int .i64 x) = true → ∃ i b : Nat, x = (i : Int) ∧ i < c.s.size + 1 ∧ (∀ z, D.atKey (.int .i64 x) z = .held (some b)) ∧ c.M1 ≤ b ∧ ¬ X b ∧ ES w b (En.Ends c.ps c.s k i)
structure IMemo (c : Im) (X : Nat → Prop) (w : World) : Prop where
  lp : ∀ k, k < c.K → LpAt w (c.P k) (c.pc k).op (c.pc k).text (c.f1 k) (c.f2 k) (c.kb k)
  kn : ∀ k, k < c.K → 0 < (c.pc k).kids.length → IKn c X w k
  hi : c.M1 ≤ w.heap.size
structure ILie (c : Im) : Prop where
  hP : ∀ k, k < c.K → c.M0 ≤ c.P k ∧ c.P k < c.M1
  hB : ∀ k, k < c.K → 0 < (c.pc k).kids.length → c.M0 ≤ c.B k ∧ c.B k < c.M1
  hBB : ∀ k j, k < c.K → j < c.K → 0 < (c.pc k).kids.length → 0 < (c.pc j).kids.length → k ≠ j → c.B k ≠ c.B j
  pk : ∀ k, k < c.K → Pk.piece k (c.pc k) = true
  hs : c.s.size ≤ 1048576

theorem IMemo.frame {c : Im} {X : Nat → Prop} {w w' : World} (L : ILie c) (h : IMemo c X w) (hX : ∀ b, X b → c.M1 ≤ b) (hsz : w.heap.size ≤ w'.heap.size) (hb : ∀ b, b < w.heap.size → ¬ X b → w'.heap[b]? = w.heap[b]?) : IMemo c X w' := by
  have hM := h.hi
  have lo : ∀ b, b < c.M1 → w'.heap[b]? = w.heap[b]? := fun b hbl => hb b (by omega) (fun hx => by have := hX b hx; omega)
  refine ⟨fun k hk => ?_, fun k hk hk0 => ?_, by omega⟩
  · exact (lo _ (L.hP k hk).2).trans (h.lp k hk)
  · obtain ⟨D, h1, h2⟩ := h.kn k hk hk0
    refine ⟨D, own_keepM h1 (lo _ (L.hB k hk hk0).2), fun x hx => ?_⟩
    obtain ⟨i, b, e, hi, h3, h4, h5, h6⟩ := h2 x hx
    exact ⟨i, b, e, hi, h3, h4, h5, h6.keep (hb b h6.lt h5)⟩
theorem IMemo.up {c : Im} {X : Nat → Prop} {w w' : World} (L : ILie c) (h : IMemo c X w) (hX : ∀ b, X b → c.M1 ≤ b) (hb : Below w.heap.size w w') : IMemo c X w' :=
  h.frame L hX hb.size (fun b hbl _ => hb.block b hbl)
theorem IMemo.more {c : Im} {X Y : Nat → Prop} {w : World} (h : IMemo c X w) (hY : ∀ b, Y b → X b ∨ w.heap.size ≤ b) : IMemo c Y w := by
  refine ⟨h.lp, fun k hk hk0 => ?_, h.hi⟩
  obtain ⟨D, h1, h2⟩ := h.kn k hk hk0
  refine ⟨D, h1, fun x hx => ?_⟩
  obtain ⟨i, b, e, hi, h3, h4, h5, h6⟩ := h2 x hx
  refine ⟨i, b, e, hi, h3, h4, fun hy => ?_, h6⟩
  rcases hY b hy with h | h
  · exact h5 h
  · have := h6.lt; omega
/-- What is written into blocks of X, by one who grows. -/
theorem IMemo.grown {c : Im} {X : Nat → Prop} {w w' : World} {q : Nat} (L : ILie c) (h : IMemo c X w) (hX : ∀ b, X b → c.M1 ≤ b) (hg : w.grownBy w' (some q)) (hq : X q) : IMemo c X w' :=
  h.frame L hX hg.size (fun b hbl hn => hg.block b hbl (fun e => hn (by rw [Option.some.inj e]; exact hq)))
theorem FM.grown {B C : Nat} {w w' w2 : World} {q : Nat} (h : FM B C w w') (hg : w'.grownBy w2 (some q)) (hq : w.heap.size ≤ q) : FM B C w w2 :=
  ⟨h.1.trans ⟨hg.os, hg.tape, hg.output⟩, Nat.le_trans h.2.1 hg.size, fun k hk hkk => (hg.block k (Nat.lt_of_lt_of_le hk h.2.1) (fun e => by have := Option.some.inj e; omega)).trans (h.2.2 k hk hkk)⟩
open Classical in
/-- No more keys than there are places. -/
theorem size_any {H : Type} {w : World} {b n : Nat} {R : Value → Option (DataW H × List MemPlace)} {D : DataW H} (h1 : w.ownsMap Try.prog 3 R b n D) (N : Nat) (h2 : ∀ x : Int, Maps.has D (.int .i64 x) = true → ∃ k : Nat, x = (k : Int) ∧ k < N) : Maps.size D ≤ N := by
  obtain ⟨es, rfl, hpw, -⟩ := h1.entries keyI
  obtain ⟨es', hD', hko⟩ := h1.keysOf
  obtain rfl : es = es' := by simpa using hD'
  have hp : (((List.range N).filter fun k : Nat => Maps.has (DataW.map es) (.int .i64 (k : Int))).map fun k : Nat => (k : Int)).Perm (intKeys (.map es)) := by
    refine perm_intKeys hpw (fun p hp => by obtain ⟨v, hv⟩ := hko p hp; obtain ⟨x, _, hx, _⟩ := Maps.keyOf_i64 Try.underlying3 hv; exact ⟨x, hx⟩) ?_ (fun x => ?_)
    · refine List.pairwise_map.2 ?_
      refine List.Pairwise.imp (R := fun a b : Nat => a < b) (fun {a b} hab => by omega) ?_
      exact List.Pairwise.filter _ List.pairwise_lt_range
    · rw [List.mem_map]
      constructor
      · rintro ⟨k, hk, rfl⟩
        rw [List.mem_filter] at hk
        exact hk.2
      · intro hx
        obtain ⟨k, rfl, hk⟩ := h2 x hx
        exact ⟨k, by rw [List.mem_filter, List.mem_range]; exact ⟨hk, hx⟩, rfl⟩
  have h := hp.length_eq
  rw [List.length_map] at h
  have e : (intKeys (DataW.map es)).length = Maps.size (DataW.map es) := by simp [intKeys, Maps.size]
  rw [← e, ← h]
  refine Nat.le_trans (List.length_filter_le _ _) (by simp)
/-- One thing more is known. -/
theorem IMemo.learn {c : Im} {X : Nat → Prop} {w w' : World} (L : ILie c) (h : IMemo c X w) (k i b n : Nat) (hk : k < c.K) (hk0 : 0 < (c.pc k).kids.length) (hi : i < c.s.size + 1) (hb : c.M1 ≤ b) (hx : ¬ X b) (hE : ES w b (En.Ends c.ps c.s k i)) {D : DataW (Option Nat)}
    (hD : w.ownsMap Try.prog 3 knownElem (c.B k) n D) (h2 : ∀ x : Int, Maps.has D (.int .i64 x) = true → ∃ i b : Nat, x = (i : Int) ∧ i < c.s.size + 1 ∧ (∀ z, D.atKey (.int .i64 x) z = .held (some b)) ∧ c.M1 ≤ b ∧ ¬ X b ∧ ES w b (En.Ends c.ps c.s k i))
    (hown : w'.ownsMap Try.prog 3 knownElem (c.B k) (n + 1) (D.put (.int .i64 (i : Int)) (.held (some b)))) (hg : w.grownBy w' (some (c.B k))) : IMemo c X w' ∧ FM c.M0 c.M1 w w' ∧ ∀ q, q ≠ c.B k → q < w.heap.size → w'.heap[q]? = w.heap[q]? := by
  have hBk := L.hB k hk hk0
  have hM := h.hi
  have other : ∀ q, q ≠ c.B k → q < w.heap.size → w'.heap[q]? = w.heap[q]? := fun q hq hl => hg.block q hl (fun e => hq (Option.some.inj e))
  have hnc : ∀ j, j < c.K → c.P j ≠ c.B k := fun j hj e => by
    have h3 := h.lp j hj
    obtain ⟨es, clock, h4, _⟩ := hD
    unfold LpAt at h3
    rw [e, h4] at h3
    cases h3
  have esk : ∀ {q : Nat} {S : Nat → Prop}, ES w q S → c.M1 ≤ q → ES w' q S := fun hq hm => hq.keep (other _ (by omega) hq.lt)
  refine ⟨⟨fun j hj => (other _ (hnc j hj) (by have := (L.hP j hj).2; omega)).trans (h.lp j hj), fun j hj hj0 => ?_, by have := hg.size; omega⟩, ⟨⟨hg.os, hg.tape, hg.output⟩, hg.size, fun q hq hqq => other q (by omega) hq⟩, other⟩
  by_cases hjk : j = k
  · subst hjk
    refine ⟨_, own_tight hown, fun x hx2 => ?_⟩
    by_cases hxi : x = (i : Int)
    · subst hxi
      exact ⟨i, b, rfl, hi, fun z => atKey_put_same hD.isMap (isKey_int _) _ z, hb, hx, esk hE hb⟩
    · have hne : (Lit.int .i64 x) ≠ .int .i64 (i : Int) := fun e => hxi (by simpa using e)
      rw [has_put_other hne] at hx2
      obtain ⟨i', b', e, hi', h3, h4, h5, h6⟩ := h2 x hx2
      exact ⟨i', b', e, hi', fun z => (atKey_put_other hne _ z).trans (h3 z), h4, h5, esk h6 h4⟩
  · obtain ⟨Dj, g1, g2⟩ := h.kn j hj hj0
    have hBj := L.hB j hj hj0
    refine ⟨Dj, own_keepM g1 (other _ (L.hBB j k hj hk hj0 hk0 hjk) (by omega)), fun x hx2 => ?_⟩
    obtain ⟨i', b', e, hi', h3, h4, h5, h6⟩ := g2 x hx2
    exact ⟨i', b', e, hi', h3, h4, h5, esk h6 h4⟩

/-- What 'ends' leaves. -/
def IPost (c : Im) (X : Nat → Prop) (S : Nat → Prop) (w : World) (e : Ending) (w' : World) : Prop :=
  ∃ ob, e = .returned (.map ob) ∧ OS w' c.M1 ob S ∧ (∀ b, ob = some b → ¬ X b) ∧ IMemo c X w' ∧ FM c.M0 c.M1 w w'
def EndC (c : Im) (k : Nat) : Prop := ∀ (X : Nat → Prop) (w : World) (i : Nat), (∀ b, X b → c.M1 ≤ b ∧ b < w.heap.size) → IMemo c X w → i < c.s.size + 1 →
  Calls Try.prog 26 #[.pointer (some ⟨c.P k, 0, none⟩), .string c.s, .int .i64 (i : Int)] w (IPost c X (En.Ends c.ps c.s k i) w)
/-- What 'endsOfKids' and 'againFrom' leave: a set of their own. -/
def KPost (c : Im) (X : Nat → Prop) (S : Nat → Prop) (w : World) (e : Ending) (w' : World) : Prop :=
  ∃ b, e = .returned (.map (some b)) ∧ w.heap.size ≤ b ∧ ES w' b S ∧ IMemo c X w' ∧ FM c.M0 c.M1 w w'
def KidC (c : Im) (k : Nat) : Prop := ∀ (X : Nat → Prop) (w : World) (i : Nat), (∀ b, X b → c.M1 ≤ b ∧ b < w.heap.size) → IMemo c X w → i < c.s.size + 1 →
  Calls Try.prog 48 #[.pointer (some ⟨c.P k, 0, none⟩), .string c.s, .int .i64 (i : Int)] w (KPost c X (En.Ends c.ps c.s k i) w)
#print axioms IMemo.learn
#print axioms size_any
end Go.Proofs.Ytlnmbahakdmkgaa
