/- Where a piece may end, by the program: a piece of one byte, or of none. Where a piece may end, by the program: what is known of the linked pieces. -/
import Derived.Test.YtlnmbahakdmkgaaZat
import Derived.Test.YtlnmbahakdmkgaaZau
namespace Go.Proofs.Ytlnmbahakdmkgaa
section PartIpC
open Go.RowKit Go.Maps

/-- A set of places, or nil where there are none; it lies from block B on. -/
def OS (w : World) (B : Nat) (ob : Option Nat) (S : Nat → Prop) : Prop := (ob = none ∧ ∀ k, ¬ S k) ∨ ∃ b, ob = some b ∧ B ≤ b ∧ ES w b S
/-- A linked piece. -/
def LpAt (w : World) (g : Nat) (op : Int) (t : ByteArray) (f1 f2 : Option Addr) (kb : Option Nat) : Prop := w.heap[g]? = some (.cells #[.int .i64 op, .string t, .pointer f1, .pointer f2, .map kb] 93 (0, 0))
theorem LpAt.cells {w : World} {g : Nat} {op : Int} {t : ByteArray} {f1 f2 : Option Addr} {kb : Option Nat} (h : LpAt w g op t f1 f2 kb) : w.cell? ⟨g, 0, none⟩ = some (.int .i64 op) ∧ w.cell? ⟨g, 1, none⟩ = some (.string t) ∧ w.cell? ⟨g, 2, none⟩ = some (.pointer f1) ∧ w.cell? ⟨g, 3, none⟩ = some (.pointer f2) ∧ w.cell? ⟨g, 4, none⟩ = some (.map kb) :=
  ⟨by rw [blk_cell h]; rfl, by rw [blk_cell h]; rfl, by rw [blk_cell h]; rfl, by rw [blk_cell h]; rfl, by rw [blk_cell h]; rfl⟩

theorem index_mem (l : List UInt8) (c : UInt8) : (0 ≤ Lib.indexByte l c) ↔ c ∈ l := by
  constructor
  · intro h
    obtain ⟨o, ho⟩ : ∃ o : Nat, Lib.indexByte l c = (o : Int) := ⟨_, (Int.toNat_of_nonneg h).symm⟩
    exact List.mem_of_getElem? (Lib.indexByte_some ho).1
  · intro h
    obtain ⟨i, hi⟩ := List.getElem?_of_mem h
    rcases Int.lt_or_le (Lib.indexByte l c) 0 with hl | hl
    · exfalso
      have e : Lib.indexByte l c = -1 := by have := Lib.indexByte_ge l c; omega
      exact Lib.indexByte_none e i hi
    · exact hl

set_option maxHeartbeats 2000000 in
set_option maxRecDepth 100000 in
theorem takesByte_any (g : Nat) (p : Pi) (f1 f2 : Option Addr) (kb : Option Nat) (b : UInt8) (w : World) (h : LpAt w g p.op p.text f1 f2 kb) :
    Calls Try.prog 66 #[.pointer (some ⟨g, 0, none⟩), .int .u8 (b.toNat : Int)] w fun e w' => e = .returned (.bool (En.takes p b)) ∧ Below w.heap.size w w' := by
  obtain ⟨c0, c1, -⟩ := h.cells
  obtain ⟨op, t, ks⟩ := p
  simp only at c0 c1
  by_cases h2 : op = 2
  · subst h2
    go_enter Try.func66, Try.ntmps66
    go_wp2_with fail
    go_ret
    exact ⟨rfl, Below.refl _ _⟩
  · have d2 : (op == 2) = false := by simpa using h2
    have C : Hid (∀ w, Calls Try.prog 72 #[.string t, .int .u8 (b.toNat : Int)] w fun e w' => e = .returned (.int .i64 (Lib.indexByte t.data.toList b)) ∧ w' = w) := fun w => indexByte_any t b w
    go_enter Try.func66, Try.ntmps66
    go_wp2_with fail
    go_region_held3 (fun w' => w'.cell? ⟨g, 0, none⟩ = some (.int .i64 op) ∧ w'.cell? ⟨g, 1, none⟩ = some (.string t)) (go_keep) ((go_at_call 72; refine (C.out _).mono ?_; rintro e w3 ⟨rfl, rfl⟩))
    go_wp2_with fail
    go_ret
    refine ⟨?_, (Below.refl _ _).drew⟩
    show Ending.returned (.bool (decide (0 ≤ Lib.indexByte t.data.toList b) == (op != 4))) = _
    unfold En.takes
    rw [if_neg h2]
    have e1 : decide (0 ≤ Lib.indexByte t.data.toList b) = decide (b ∈ t.data.toList) := by rw [decide_eq_decide]; exact index_mem _ _
    have e2 : (op != 4) = decide (op ≠ 4) := by by_cases h4 : op = 4 <;> simp [h4]
    rw [e1, e2]

/-- endSet{k: {}}. -/
theorem single_map (W : World) (k : Nat) (hk : k ≤ 2000000) : ∃ w2, (Instr.mapUpdate 57 (.map (some W.heap.size)) (.int .i64 (k : Int)) (.agg #[])).run Try.prog (W.alloc (.map #[] 0)) = .ok () w2 ∧ ES w2 W.heap.size (fun j => j = k) ∧ Below W.heap.size W w2 := by
  have h0 : (W.alloc (.map #[] 0)).ownsMap (H := Unit) Try.prog 3 unitElem W.heap.size 0 (.map []) := World.ownsMap_made W Try.prog 3 unitElem
  obtain ⟨w2, h1, h2, h3⟩ := h0.update keyI under_eset (by unfold maxLen; omega) (keyOf_int_mk Try.underlying3 (small_wf hk)) unitElem_mk
  refine ⟨w2, h1, ES.iff (ES.put h2 isMap_empty (S := fun _ => False) (fun x => by simp [Maps.has])) (fun j => by simp), ?_⟩
  exact ((Below.refl W.heap.size W).alloc (Nat.le_refl _) _).grown h3 (by simp) (fun q hq => by cases hq; exact Nat.le_refl _)

set_option maxHeartbeats 4000000 in
set_option maxRecDepth 100000 in
theorem endOfOne_any (g : Nat) (p : Pi) (f1 f2 : Option Addr) (kb : Option Nat) (s : ByteArray) (i : Nat) (w : World) (h : LpAt w g p.op p.text f1 f2 kb) (hop : p.op = 1 ∨ p.op = 2 ∨ p.op = 3 ∨ p.op = 4 ∨ p.op = 10 ∨ p.op = 11 ∨ p.op = 12) (hs : s.size ≤ 1048576) (hi : i ≤ s.size) :
    Calls Try.prog 47 #[.pointer (some ⟨g, 0, none⟩), .string s, .int .i64 (i : Int)] w fun e w' => ∃ ob, e = .returned (.map ob) ∧ OS w' w.heap.size ob (EndsOne p s i) ∧ Below w.heap.size w w' := by
  obtain ⟨c0, c1, -⟩ := h.cells
  have HL : Hid (LpAt w g p.op p.text f1 f2 kb) := h
  have hmm := @run_makeMap Try.prog
  obtain ⟨op, t, ks⟩ := p
  simp only at c0 c1 hop HL ⊢
  by_cases h12 : op = 12
  · subst h12
    obtain ⟨w2, hup, u1, u2⟩ := single_map w i (by omega)
    have HF : Hid (OS w2 w.heap.size (some w.heap.size) (EndsOne ⟨12, t, ks⟩ s i)) := .inr ⟨_, rfl, Nat.le_refl _, u1.iff (fun j => by simp [EndsOne])⟩
    go_enter Try.func47, Try.ntmps47
    go_wp2_with fail
    go_ret
    exact ⟨_, rfl, HF.out, u2⟩
  by_cases h10 : op = 10
  · subst h10
    by_cases hi0 : i = 0
    · have di : ((i : Int) == 0) = true := by simp [hi0]
      obtain ⟨w2, hup, u1, u2⟩ := single_map w i (by omega)
      have HF : Hid (OS w2 w.heap.size (some w.heap.size) (EndsOne ⟨10, t, ks⟩ s i)) := .inr ⟨_, rfl, Nat.le_refl _, u1.iff (fun j => by simp [EndsOne, hi0])⟩
      clear hi0
      go_enter Try.func47, Try.ntmps47
      go_wp2_with fail
      go_ret
      exact ⟨_, rfl, HF.out, u2⟩
    · have di : ((i : Int) == 0) = false := by simp; omega
      have HF : Hid (OS w w.heap.size none (EndsOne ⟨10, t, ks⟩ s i)) := .inl ⟨rfl, fun j => by simp [EndsOne, hi0]⟩
      go_enter Try.func47, Try.ntmps47
      go_wp2_with fail
      go_ret
      exact ⟨_, rfl, HF.out, Below.refl _ _⟩
  by_cases h11 : op = 11
  · subst h11
    by_cases hi0 : i = s.size
    · have di : ((i : Int) == (s.size : Int)) = true := by simp [hi0]
      obtain ⟨w2, hup, u1, u2⟩ := single_map w i (by omega)
      have HF : Hid (OS w2 w.heap.size (some w.heap.size) (EndsOne ⟨11, t, ks⟩ s i)) := .inr ⟨_, rfl, Nat.le_refl _, u1.iff (fun j => by simp [EndsOne, hi0])⟩
      clear hi0
      go_enter Try.func47, Try.ntmps47
      go_wp2_with fail
      go_ret
      exact ⟨_, rfl, HF.out, u2⟩
    · have di : ((i : Int) == (s.size : Int)) = false := by simp; omega
      have HF : Hid (OS w w.heap.size none (EndsOne ⟨11, t, ks⟩ s i)) := .inl ⟨rfl, fun j => by simp [EndsOne, hi0]⟩
      clear hi0
      go_enter Try.func47, Try.ntmps47
      go_wp2_with fail
      go_ret
      exact ⟨_, rfl, HF.out, Below.refl _ _⟩
  have hop4 : op = 1 ∨ op = 2 ∨ op = 3 ∨ op = 4 := by omega
  have HE : Hid (∀ j, EndsOne ⟨op, t, ks⟩ s i j ↔ ∃ h : i < s.size, En.takes ⟨op, t, ks⟩ s[i] = true ∧ j = i + 1) := by
    intro j
    unfold EndsOne
    constructor
    · rintro (⟨_, ⟨h, h2⟩, h3⟩ | ⟨h, _⟩ | ⟨h, _⟩ | ⟨h, _⟩)
      · exact ⟨h, h2, h3⟩
      · exact absurd h h10
      · exact absurd h h11
      · exact absurd h h12
    · rintro ⟨h, h1, h2⟩
      exact .inl ⟨hop4, ⟨h, h1⟩, h2⟩
  have CB : Hid (∀ b : UInt8, Calls Try.prog 66 #[.pointer (some ⟨g, 0, none⟩), .int .u8 (b.toNat : Int)] w fun e w' => e = .returned (.bool (En.takes ⟨op, t, ks⟩ b)) ∧ Below w.heap.size w w') := fun b => takesByte_any g ⟨op, t, ks⟩ f1 f2 kb b w h
  obtain ⟨F, hF⟩ : ∃ F, F = En.takes ⟨op, t, ks⟩ := ⟨_, rfl⟩
  obtain ⟨E, hE⟩ : ∃ E, E = EndsOne ⟨op, t, ks⟩ s i := ⟨_, rfl⟩
  rw [← hF] at HE CB
  rw [← hE] at HE ⊢
  clear h h10 h11 h12 hop HL hF hE
  rcases hop4 with rfl | rfl | rfl | rfl
  all_goals
    by_cases hlt : i < s.size
    · have dlt : decide ((i : Int) < (s.size : Int)) = true := decide_eq_true (by omega)
      have dltN : decide (i < s.size) = true := decide_eq_true hlt
      have h256 : s[i].toNat < 256 := s[i].toNat_lt
      have CB1 := CB.out s[i]
      obtain ⟨tk, htk⟩ : ∃ tk, tk = F s[i] := ⟨_, rfl⟩
      rw [← htk] at CB1
      have HCB : Hid (Calls Try.prog 66 #[.pointer (some ⟨g, 0, none⟩), .int .u8 (s[i].toNat : Int)] w fun e w' => e = .returned (.bool tk) ∧ Below w.heap.size w w') := CB1
      have HTK : Hid (tk = F s[i]) := htk
      clear htk CB1
      go_enter Try.func47, Try.ntmps47
      go_wp2_with fail
      refine HCB.out.mono ?_
      rintro e w3 ⟨rfl, hb3⟩
      have hb3' : Hid (Below w.heap.size w w3) := hb3
      cases tk with
      | true =>
        obtain ⟨w2, hup, u1, u2⟩ := single_map w3 (i + 1) (by omega)
        have HF : Hid (OS w2 w.heap.size (some w3.heap.size) E) := .inr ⟨_, rfl, hb3.size, u1.iff (fun j => by
          rw [HE.out j]
          exact ⟨fun h => ⟨hlt, HTK.out.symm, h⟩, fun ⟨_, _, h⟩ => h⟩)⟩
        have HU : Hid (Below w.heap.size w w2) := hb3.trans (u2.mono hb3.size)
        have e1 : ((i + 1 : Nat) : Int) = (i : Int) + 1 := by omega
        rw [e1] at hup
        clear u1 u2 hb3 e1
        go_wp2_with fail
        go_ret
        exact ⟨_, rfl, HF.out, HU.out⟩
      | false =>
        have HF : Hid (OS w3 w.heap.size none E) := .inl ⟨rfl, fun j hj => by
          obtain ⟨_, h1, _⟩ := (HE.out j).1 hj
          rw [← HTK.out] at h1
          cases h1⟩
        go_wp2_with fail
        go_ret
        exact ⟨_, rfl, HF.out, hb3'.out⟩
    · have dlt : decide ((i : Int) < (s.size : Int)) = false := decide_eq_false (by omega)
      have dltN : decide (i < s.size) = false := decide_eq_false hlt
      have HF : Hid (OS w w.heap.size none E) := .inl ⟨rfl, fun j hj => by
        obtain ⟨h1, _⟩ := (HE.out j).1 hj
        exact hlt h1⟩
      go_enter Try.func47, Try.ntmps47
      go_wp2_with fail
      go_ret
      exact ⟨_, rfl, HF.out, Below.refl _ _⟩
end PartIpC
section PartIpD
open Go.RowKit Go.Maps

/-- The linked pieces and what is known of them lie in the blocks from M0 up to M1. -/
structure Im where
  M0 : Nat
  M1 : Nat
  K : Nat
  s : ByteArray
  ps : List Pi
  P : Nat → Nat
  B : Nat → Nat
def Im.pc (c : Im) (k : Nat) : Pi := c.ps.getD k Pi.no
def Im.f1 (c : Im) (k : Nat) : Option Addr := if 0 < (c.pc k).kids.length then some ⟨c.P (En.kid (c.pc k) 0), 0, none⟩ else none
def Im.f2 (c : Im) (k : Nat) : Option Addr := if 1 < (c.pc k).kids.length then some ⟨c.P (En.kid (c.pc k) 1), 0, none⟩ else none
def Im.kb (c : Im) (k : Nat) : Option Nat := if 0 < (c.pc k).kids.length then some (c.B k) else none

/-- How a set among what is known reads: by its block. -/
def knownElem : Value → Option (DataW (Option Nat) × List MemPlace)
  | .map ob => some (.held ob, [])
  | _ => none
theorem knownElem_mk (ob : Option Nat) : knownElem (.map ob) = some (.held ob, []) := rfl
theorem knownElem_inv {v : Value} {z : DataW (Option Nat) × List MemPlace} (h : knownElem v = some z) : ∃ ob, v = .map ob ∧ z = (.held ob, []) := by
  cases v <;> simp [knownElem] at h
  exact ⟨_, rfl, h.symm⟩

def IKn (c : Im) (X : Nat → Prop) (w : World) (k : Nat) : Prop := ∃ D : DataW (Option Nat), w.ownsMap Try.prog 3 knownElem (c.B k) (Maps.size D) D ∧
  ∀ x : Int, Maps.has D (.int .i64 x) = true → ∃ i b : Nat, x = (i : Int) ∧ i < c.s.size + 1 ∧ (∀ z, D.atKey (.int .i64 x) z = .held (some b)) ∧ c.M1 ≤ b ∧ ¬ X b ∧ ES w b (En.Ends c.ps c.s k i)
structure IMemo (c : Im) (X : Nat → Prop) (w : World) : Prop where
  lp : ∀ k, k < c.K → LpAt w (c.P k) (c.pc k).op (c.pc k).text (c.f1 k) (c.f2 k) (c.kb k)
  kn : ∀ k, k < c.K → 0 < (c.pc k).kids.length → IKn c X w k
  hi : c.M1 ≤ w.heap.size
structure ILie (c : Im) : Prop where
  hP : ∀ k, k < c.K → c.M0 ≤ c.P k ∧ c.P k < c.M1
  hB : ∀ k, k < c.K → 0 < (c.pc k).kids.length → c.M0 ≤ c.B k ∧ c.B k < c.M1
  hBB : ∀ k j, k < c.K → j < c.K → 0 < (c.pc k).kids.length → 0 < (c.pc j).kids.length → k ≠ j → c.B k ≠ c.B j
  pk : ∀ k, k < c.K → Pk.piece k (c.pc k) = true
  hs : c.s.size ≤ 1048576

theorem IMemo.frame {c : Im} {X : Nat → Prop} {w w' : World} (L : ILie c) (h : IMemo c X w) (hX : ∀ b, X b → c.M1 ≤ b) (hsz : w.heap.size ≤ w'.heap.size) (hb : ∀ b, b < w.heap.size → ¬ X b → w'.heap[b]? = w.heap[b]?) : IMemo c X w' := by
  have hM := h.hi
  have lo : ∀ b, b < c.M1 → w'.heap[b]? = w.heap[b]? := fun b hbl => hb b (by omega) (fun hx => by have := hX b hx; omega)
  refine ⟨fun k hk => ?_, fun k hk hk0 => ?_, by omega⟩
  · exact (lo _ (L.hP k hk).2).trans (h.lp k hk)
  · obtain ⟨D, h1, h2⟩ := h.kn k hk hk0
    refine ⟨D, own_keepM h1 (lo _ (L.hB k hk hk0).2), fun x hx => ?_⟩
    obtain ⟨i, b, e, hi, h3, h4, h5, h6⟩ := h2 x hx
    exact ⟨i, b, e, hi, h3, h4, h5, h6.keep (hb b h6.lt h5)⟩
theorem IMemo.up {c : Im} {X : Nat → Prop} {w w' : World} (L : ILie c) (h : IMemo c X w) (hX : ∀ b, X b → c.M1 ≤ b) (hb : Below w.heap.size w w') : IMemo c X w' :=
  h.frame L hX hb.size (fun b hbl _ => hb.block b hbl)
theorem IMemo.more {c : Im} {X Y : Nat → Prop} {w : World} (h : IMemo c X w) (hY : ∀ b, Y b → X b ∨ w.heap.size ≤ b) : IMemo c Y w := by
  refine ⟨h.lp, fun k hk hk0 => ?_, h.hi⟩
  obtain ⟨D, h1, h2⟩ := h.kn k hk hk0
  refine ⟨D, h1, fun x hx => ?_⟩
  obtain ⟨i, b, e, hi, h3, h4, h5, h6⟩ := h2 x hx
  refine ⟨i, b, e, hi, h3, h4, fun hy => ?_, h6⟩
  rcases hY b hy with h | h
  · exact h5 h
  · have := h6.lt; omega
/-- What is written into blocks of X, by one who grows. -/
theorem IMemo.grown {c : Im} {X : Nat → Prop} {w w' : World} {q : Nat} (L : ILie c) (h : IMemo c X w) (hX : ∀ b, X b → c.M1 ≤ b) (hg : w.grownBy w' (some q)) (hq : X q) : IMemo c X w' :=
  h.frame L hX hg.size (fun b hbl hn => hg.block b hbl (fun e => hn (by rw [Option.some.inj e]; exact hq)))
theorem FM.grown {B C : Nat} {w w' w2 : World} {q : Nat} (h : FM B C w w') (hg : w'.grownBy w2 (some q)) (hq : w.heap.size ≤ q) : FM B C w w2 :=
  ⟨h.1.trans ⟨hg.os, hg.tape, hg.output⟩, Nat.le_trans h.2.1 hg.size, fun k hk hkk => (hg.block k (Nat.lt_of_lt_of_le hk h.2.1) (fun e => by have := Option.some.inj e; omega)).trans (h.2.2 k hk hkk)⟩
open Classical in
/-- No more keys than there are places. -/
theorem size_any {H : Type} {w : World} {b n : Nat} {R : Value → Option (DataW H × List MemPlace)} {D : DataW H} (h1 : w.ownsMap Try.prog 3 R b n D) (N : Nat) (h2 : ∀ x : Int, Maps.has D (.int .i64 x) = true → ∃ k : Nat, x = (k : Int) ∧ k < N) : Maps.size D ≤ N := by
  obtain ⟨es, rfl, hpw, -⟩ := h1.entries keyI
  obtain ⟨es', hD', hko⟩ := h1.keysOf
  obtain rfl : es = es' := by simpa using hD'
  have hp : (((List.range N).filter fun k : Nat => Maps.has (DataW.map es) (.int .i64 (k : Int))).map fun k : Nat => (k : Int)).Perm (intKeys (.map es)) := by
    refine perm_intKeys hpw (fun p hp => by obtain ⟨v, hv⟩ := hko p hp; obtain ⟨x, _, hx, _⟩ := Maps.keyOf_i64 Try.underlying3 hv; exact ⟨x, hx⟩) ?_ (fun x => ?_)
    · refine List.pairwise_map.2 ?_
      refine List.Pairwise.imp (R := fun a b : Nat => a < b) (fun {a b} hab => by omega) ?_
      exact List.Pairwise.filter _ List.pairwise_lt_range
    · rw [List.mem_map]
      constructor
      · rintro ⟨k, hk, rfl⟩
        rw [List.mem_filter] at hk
        exact hk.2
      · intro hx
        obtain ⟨k, rfl, hk⟩ := h2 x hx
        exact ⟨k, by rw [List.mem_filter, List.mem_range]; exact ⟨hk, hx⟩, rfl⟩
  have h := hp.length_eq
  rw [List.length_map] at h
  have e : (intKeys (DataW.map es)).length = Maps.size (DataW.map es) := by simp [intKeys, Maps.size]
  rw [← e, ← h]
  refine Nat.le_trans (List.length_filter_le _ _) (by simp)
/-- One thing more is known. -/
theorem IMemo.learn {c : Im} {X : Nat → Prop} {w w' : World} (L : ILie c) (h : IMemo c X w) (k i b n : Nat) (hk : k < c.K) (hk0 : 0 < (c.pc k).kids.length) (hi : i < c.s.size + 1) (hb : c.M1 ≤ b) (hx : ¬ X b) (hE : ES w b (En.Ends c.ps c.s k i)) {D : DataW (Option Nat)}
    (hD : w.ownsMap Try.prog 3 knownElem (c.B k) n D) (h2 : ∀ x : Int, Maps.has D (.int .i64 x) = true → ∃ i b : Nat, x = (i : Int) ∧ i < c.s.size + 1 ∧ (∀ z, D.atKey (.int .i64 x) z = .held (some b)) ∧ c.M1 ≤ b ∧ ¬ X b ∧ ES w b (En.Ends c.ps c.s k i))
    (hown : w'.ownsMap Try.prog 3 knownElem (c.B k) (n + 1) (D.put (.int .i64 (i : Int)) (.held (some b)))) (hg : w.grownBy w' (some (c.B k))) : IMemo c X w' ∧ FM c.M0 c.M1 w w' ∧ ∀ q, q ≠ c.B k → q < w.heap.size → w'.heap[q]? = w.heap[q]? := by
  have hBk := L.hB k hk hk0
  have hM := h.hi
  have other : ∀ q, q ≠ c.B k → q < w.heap.size → w'.heap[q]? = w.heap[q]? := fun q hq hl => hg.block q hl (fun e => hq (Option.some.inj e))
  have hnc : ∀ j, j < c.K → c.P j ≠ c.B k := fun j hj e => by
    have h3 := h.lp j hj
    obtain ⟨es, clock, h4, _⟩ := hD
    unfold LpAt at h3
    rw [e, h4] at h3
    cases h3
  have esk : ∀ {q : Nat} {S : Nat → Prop}, ES w q S → c.M1 ≤ q → ES w' q S := fun hq hm => hq.keep (other _ (by omega) hq.lt)
  refine ⟨⟨fun j hj => (other _ (hnc j hj) (by have := (L.hP j hj).2; omega)).trans (h.lp j hj), fun j hj hj0 => ?_, by have := hg.size; omega⟩, ⟨⟨hg.os, hg.tape, hg.output⟩, hg.size, fun q hq hqq => other q (by omega) hq⟩, other⟩
  by_cases hjk : j = k
  · subst hjk
    refine ⟨_, own_tight hown, fun x hx2 => ?_⟩
    by_cases hxi : x = (i : Int)
    · subst hxi
      exact ⟨i, b, rfl, hi, fun z => atKey_put_same hD.isMap (isKey_int _) _ z, hb, hx, esk hE hb⟩
    · have hne : (Lit.int .i64 x) ≠ .int .i64 (i : Int) := fun e => hxi (by simpa using e)
      rw [has_put_other hne] at hx2
      obtain ⟨i', b', e, hi', h3, h4, h5, h6⟩ := h2 x hx2
      exact ⟨i', b', e, hi', fun z => (atKey_put_other hne _ z).trans (h3 z), h4, h5, esk h6 h4⟩
  · obtain ⟨Dj, g1, g2⟩ := h.kn j hj hj0
    have hBj := L.hB j hj hj0
    refine ⟨Dj, own_keepM g1 (other _ (L.hBB j k hj hk hj0 hk0 hjk) (by omega)), fun x hx2 => ?_⟩
    obtain ⟨i', b', e, hi', h3, h4, h5, h6⟩ := g2 x hx2
    exact ⟨i', b', e, hi', h3, h4, h5, esk h6 h4⟩

/-- What 'ends' leaves. -/
def IPost (c : Im) (X : Nat → Prop) (S : Nat → Prop) (w : World) (e : Ending) (w' : World) : Prop :=
  ∃ ob, e = .returned (.map ob) ∧ OS w' c.M1 ob S ∧ (∀ b, ob = some b → ¬ X b) ∧ IMemo c X w' ∧ FM c.M0 c.M1 w w'
def EndC (c : Im) (k : Nat) : Prop := ∀ (X : Nat → Prop) (w : World) (i : Nat), (∀ b, X b → c.M1 ≤ b ∧ b < w.heap.size) → IMemo c X w → i < c.s.size + 1 →
  Calls Try.prog 26 #[.pointer (some ⟨c.P k, 0, none⟩), .string c.s, .int .i64 (i : Int)] w (IPost c X (En.Ends c.ps c.s k i) w)
/-- What 'endsOfKids' and 'againFrom' leave: a set of their own. -/
def KPost (c : Im) (X : Nat → Prop) (S : Nat → Prop) (w : World) (e : Ending) (w' : World) : Prop :=
  ∃ b, e = .returned (.map (some b)) ∧ w.heap.size ≤ b ∧ ES w' b S ∧ IMemo c X w' ∧ FM c.M0 c.M1 w w'
def KidC (c : Im) (k : Nat) : Prop := ∀ (X : Nat → Prop) (w : World) (i : Nat), (∀ b, X b → c.M1 ≤ b ∧ b < w.heap.size) → IMemo c X w → i < c.s.size + 1 →
  Calls Try.prog 48 #[.pointer (some ⟨c.P k, 0, none⟩), .string c.s, .int .i64 (i : Int)] w (KPost c X (En.Ends c.ps c.s k i) w)
end PartIpD
end Go.Proofs.Ytlnmbahakdmkgaa
