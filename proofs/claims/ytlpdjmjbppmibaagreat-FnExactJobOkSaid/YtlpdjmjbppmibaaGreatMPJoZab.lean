/- Rows of texts in memory: how great a row of them is, the law's own copy of it, two of the same. Plain facts, without the program: pieces of a pattern, when they are right, and how a pattern is read from its text. The specification's reader of a pattern: what it holds, and its two tests. -/
import Derived.Test.YtlpdjmjbppmibaaGreatMPJoZaa
import Derived.Deep.SlicePairs
import Derived.Deep.Strs
import Derived.Deep.Fields
import Derived.ProofKit
import Derived.OpenShut
import Derived.ChangeOld
import Derived.Test.YtlpdjmjbppmibaaGreatProg
import Derived.WalkKit
import Derived.WalkSpells
import Derived.WalkLawsBesides
import Derived.Handy
import Derived.Lib.Strings
import Derived.BigQuiet
import Derived.Deep.QuietTactic
namespace Go.Proofs.YtlpdjmjbppmibaaGreat
section PartCoS
open Go.RowKit

/-- The slice v leads to the texts ts. -/
def TsAt (w : World) (v : Value) (ts : List ByteArray) : Prop := ∃ (ka : Option Addr) (kc : Nat), v = .slice ka ts.length kc ∧
  (0 < ts.length → ∃ b o, ka = some ⟨b, o, none⟩ ∧ b < w.heap.size ∧ ∀ i, i < ts.length → w.cell? ⟨b, o + i, none⟩ = some (.string (ts.getD i ByteArray.empty)))
theorem TsAt.keep {w w' : World} {v : Value} {ts : List ByteArray} (h : TsAt w v ts) (hb : Below w.heap.size w w') : TsAt w' v ts := by
  obtain ⟨ka, kc, rfl, f⟩ := h
  refine ⟨ka, kc, rfl, fun h0 => ?_⟩
  obtain ⟨b, o, rfl, hl, hc⟩ := f h0
  exact ⟨b, o, rfl, Nat.lt_of_lt_of_le hl hb.size, fun i hi => (hb.cell hl).trans (hc i hi)⟩
/-- No text is too great. -/
def TsSmall (ts : List ByteArray) (n : Nat) : Prop := ∀ i, i < n → (ts.getD i ByteArray.empty).size ≤ 1048576

set_option maxHeartbeats 800000 in
theorem szTs_any (v : Value) (ts : List ByteArray) (l : Int) (w : World) (h : TsAt w v ts) (hl0 : 0 ≤ l) (hl : l ≤ 1048576) (hk : ts.length ≤ maxLen) (hs : ∀ i, i < ts.length → (ts.getD i ByteArray.empty).size ≤ maxLen) :
    Calls Tryz.prog 16 #[v, .int .i64 l] w fun e w' => Below w.heap.size w w' ∧ ∃ r : Int, e = .returned (.int .i64 r) ∧ (r = -1 ∨ 0 ≤ r ∧ r ≤ l ∧ ts.length ≤ 1048576 ∧ TsSmall ts ts.length) := by
  unfold maxLen at hk hs
  obtain ⟨ad, c, rfl, f⟩ := h
  obtain ⟨n, hn⟩ : ∃ n, n = ts.length := ⟨_, rfl⟩
  rw [← hn] at f hk hs ⊢
  have HS : Hid (∀ i, i < n → (ts.getD i ByteArray.empty).size ≤ 9223372036854775807) := fun i hi => Nat.le_trans (hs i hi) (by decide)
  clear hs
  by_cases hq : l - (n : Int) < 0
  · have d : decide (l - (n : Int) < 0) = true := by simpa using hq
    clear f hn
    go_enter Tryz.func16, Tryz.ntmps16
    go_wp2
    go_ret
    exact ⟨Below.refl _ _, -1, rfl, .inl rfl⟩
  · have d : decide (l - (n : Int) < 0) = false := by simpa using hq
    have hn2 : n ≤ 1048576 := by omega
    by_cases h0 : n = 0
    · subst h0
      clear f hn HS
      have d : decide (l - ((0 : Nat) : Int) < 0) = false := by simpa using hq
      go_enter Tryz.func16, Tryz.ntmps16
      go_wp2
      refine wp_loop_rounds 1 ?_
      rw [rounds_succ]
      go_wp2
      go_ret
      exact ⟨Below.refl _ _, _, rfl, .inr ⟨by omega, by omega, by omega, fun i hi => by omega⟩⟩
    · obtain ⟨b, o, rfl, hb, hc⟩ := f (by omega)
      have HC : Hid (∀ i, i < n → w.cell? ⟨b, o + i, none⟩ = some (.string (ts.getD i ByteArray.empty))) := hc
      clear hc f hn
      go_enter Tryz.func16, Tryz.ntmps16
      go_wp2
      go_loopw [1, 5] (fun q i wr => ∃ (k : Nat) (r : Int), i = .int .i64 (k : Int) ∧ q = .int .i64 r ∧ 0 ≤ r ∧ r ≤ l ∧ k ≤ n ∧ Below w.heap.size w wr ∧ Hid (TsSmall ts k)) (fun _ i _ => n - (intOf i).toNat)
      case atStart => exact ⟨0, _, rfl, rfl, by omega, by omega, by omega, Below.refl _ _, fun i hi => by omega⟩
      case round =>
        obtain ⟨k, r, rfl, rfl, hr0, hr1, hk, hbel, HM⟩ := hrel
        by_cases hlt : k < n
        · have c0 := (hbel.cell hb).trans (HC.out k hlt)
          have hz := HS.out k hlt
          have HSM : Hid ((ts.getD k ByteArray.empty).size ≤ 1048576 → TsSmall ts (k + 1)) := by
            intro h i hi
            by_cases hik : i = k
            · subst hik; exact h
            · exact HM.out i (by omega)
          generalize ts.getD k ByteArray.empty = t at *
          have i1 : (k : Int) < (n : Int) := by omega
          by_cases h3 : r - (t.size : Int) < 0
          · have d3 : decide (r - (t.size : Int) < 0) = true := by simpa using h3
            go_wp2
            go_ret
            exact ⟨hbel, -1, rfl, .inl rfl⟩
          · have d3 : decide (r - (t.size : Int) < 0) = false := by simpa using h3
            go_wp2
            go_roundw
            case rel => exact ⟨k + 1, r - (t.size : Int), by go_num, rfl, by omega, by omega, by omega, hbel, HSM.out (by omega)⟩
            case measure => simp [intOf]; omega
        · obtain rfl : k = n := by omega
          go_wp2
          go_ret
          exact ⟨hbel, _, rfl, .inr ⟨hr0, hr1, by omega, HM.out⟩⟩

def tsv (t : ByteArray) : Value := .string t
/-- Block q holds the texts ts, and no more. -/
def TsBlk (w : World) (q : Nat) (ts : List ByteArray) : Prop := w.heap[q]? = some (.cells (ts.map tsv).toArray 9 (0, 0))
theorem TsBlk.at {w : World} {q : Nat} {ts : List ByteArray} (h : TsBlk w q ts) (c : Nat) : TsAt w (.slice (some ⟨q, 0, none⟩) ts.length c) ts := by
  refine ⟨_, _, rfl, fun _ => ⟨q, 0, rfl, blk_lt h, fun i hi => ?_⟩⟩
  rw [blk_cell h, Nat.zero_add]
  simp [hi, tsv]
theorem TsBlk.keep {w w' : World} {q : Nat} {ts : List ByteArray} (h : TsBlk w q ts) (hb : Below w.heap.size w w') : TsBlk w' q ts := (hb.block q (blk_lt h)).trans h
theorem TsBlk.setFar {w : World} {q : Nat} {ts : List ByteArray} (h : TsBlk w q ts) (p : Addr) (u : Value) (hp : p.block < q) : TsBlk (w.setCell p u) q ts := (Below.heap_setCell _ _ _ _ (by omega)).trans h
theorem Tryz.infoTs : (Tryz.prog.info? 9).map (fun i => (i.zero, i.size, i.bytes)) = some (some (.string ByteArray.empty), 1, 16) := by kernel_rfl
theorem makeTs_run (n : Nat) (h : n ≤ 1000000000) : ∃ M : Array Value, M = ((List.replicate n ByteArray.empty).map tsv).toArray ∧ ∀ W : World, (Instr.makeSlice 22 (.int .i64 (n : Int)) (.int .i64 (n : Int))).run Tryz.prog W = .ok (.slice (some ⟨W.heap.size, 0, none⟩) n n) (W.alloc (.cells M 9)) := by
  obtain ⟨i0, hi, hz0, hz1, hz2⟩ := info_parts Tryz.infoTs
  refine ⟨madeCells (Value.string ByteArray.empty).cells (((n : Nat) : Int).toNat * i0.size), ?_, fun W => ?_⟩
  · rw [hz1]
    have := toList_madeCells_one (.string ByteArray.empty) n
    simp only [Int.toNat_natCast, Nat.mul_one, List.map_replicate]
    apply Array.ext'
    exact this.trans (by simp [tsv])
  · have h := run_make (P := Tryz.prog) W 22 9 i0 (.string ByteArray.empty) Tryz.underlying22 hi hz0 .i64 .i64 (n : Int) (n : Int) (by omega) (by omega) (by rw [hz2]; omega) (by omega)
    simpa using h
/-- The first k texts, and empty ones. -/
def halfT (ks : List ByteArray) (k : Nat) : List ByteArray := ks.take k ++ List.replicate (ks.length - k) ByteArray.empty
theorem halfT_set (ks : List ByteArray) (k : Nat) (h : k < ks.length) : (halfT ks k).set k (ks.getD k ByteArray.empty) = halfT ks (k + 1) := by
  unfold halfT
  rw [List.set_append_right _ _ (by simp; omega)]
  have e1 : k - (ks.take k).length = 0 := by simp; omega
  rw [e1, show ks.length - k = (ks.length - (k + 1)) + 1 by omega, List.replicate_succ, List.set_cons_zero, List.take_succ_eq_append_getElem h, List.append_assoc]
  simp [h]

set_option maxHeartbeats 800000 in
theorem toTs_any (v : Value) (ks : List ByteArray) (w : World) (h : TsAt w v ks) (hk : ks.length ≤ 1048576) :
    Calls Tryz.prog 22 #[v] w fun e w' => e = .returned (.slice (some ⟨w.heap.size, 0, none⟩) ks.length ks.length) ∧ Below w.heap.size w w' ∧ TsBlk w' w.heap.size ks := by
  obtain ⟨ka, kc, rfl, f⟩ := h
  obtain ⟨n, hn⟩ : ∃ n, n = ks.length := ⟨_, rfl⟩
  have HN : Hid (n = ks.length) := hn
  rw [← hn] at f hk ⊢
  obtain ⟨M, hM, hmk⟩ := makeTs_run n (by omega)
  have hM2 : M = ((halfT ks 0).map tsv).toArray := by rw [hM, hn]; simp [halfT]
  have hnew : (w.alloc (.cells M 9)).heap[w.heap.size]? = some (.cells ((halfT ks 0).map tsv).toArray 9 (0, 0)) := by
    have := heap_alloc_new w (.cells M 9)
    rw [this, hM2]
  by_cases h0 : n = 0
  · subst h0
    have HK : Hid (TsBlk (w.alloc (.cells M 9)) w.heap.size ks) := by
      show _ = _
      rw [hnew, List.eq_nil_of_length_eq_zero hn.symm]
      rfl
    have hmk0 : ∀ W : World, (Instr.makeSlice 22 (.int .i64 0) (.int .i64 0)).run Tryz.prog W = .ok (.slice (some ⟨W.heap.size, 0, none⟩) 0 0) (W.alloc (.cells M 9)) := hmk
    clear f hn hM hnew hM2 hmk
    go_enter Tryz.func22, Tryz.ntmps22
    go_wp2
    refine wp_loop_rounds 1 ?_
    rw [rounds_succ]
    go_wp2
    go_ret
    exact ⟨rfl, (Below.refl _ _).alloc (Nat.le_refl _) _, HK.out⟩
  · obtain ⟨b, o, rfl, hb, hc⟩ := f (by omega)
    have HC : Hid (∀ i, i < n → w.cell? ⟨b, o + i, none⟩ = some (.string (ks.getD i ByteArray.empty))) := hc
    have HW : Hid ((w.alloc (.cells M 9)).heap[w.heap.size]? = some (.cells ((halfT ks 0).map tsv).toArray 9 (0, 0))) := hnew
    clear f hn hM hnew hM2 hc
    go_enter Tryz.func22, Tryz.ntmps22
    go_wp2
    clear hmk
    go_loopw [4] (fun i wr => ∃ k : Nat, i = .int .i64 (k : Int) ∧ k ≤ n ∧ Below w.heap.size w wr ∧ Hid (wr.heap[w.heap.size]? = some (.cells ((halfT ks k).map tsv).toArray 9 (0, 0)))) (fun i _ => n - (intOf i).toNat)
    case atStart => exact ⟨0, rfl, by omega, (Below.refl _ _).alloc (Nat.le_refl _) _, HW.out⟩
    case round =>
      obtain ⟨k, rfl, hk2, hbel, HH⟩ := hrel
      by_cases hlt : k < n
      · have hlen : (halfT ks k).length = n := by have := HN.out; simp [halfT]; omega
        have c1 := (hbel.cell hb).trans (HC.out k hlt)
        have c2 : wr.cell? ⟨w.heap.size, k, none⟩ = some (tsv ((halfT ks k).getD k ByteArray.empty)) := by rw [blk_cell HH.out]; simp [hlen, hlt]
        have f2 := blk_free HH.out k
        have HS := blk_set HH.out k (tsv (ks.getD k ByteArray.empty))
        have HS2 : Hid ((wr.setCell ⟨w.heap.size, k, none⟩ (.string (ks.getD k ByteArray.empty))).heap[w.heap.size]? = some (.cells ((halfT ks (k + 1)).map tsv).toArray 9 (0, 0))) := by
          show _ = _
          rw [← halfT_set ks k (by rw [← HN.out]; exact hlt)]
          rw [show (Value.string (ks.getD k ByteArray.empty)) = tsv (ks.getD k ByteArray.empty) from rfl, HS]
          simp
        clear HS hlen
        have i1 : (k : Int) < (n : Int) := by omega
        unfold tsv at c2
        go_wp2
        go_roundw
        case rel => exact ⟨k + 1, by go_num, by omega, hbel.setCell (Nat.le_refl _) _, HS2.out⟩
        case measure => simp [intOf]; omega
      · obtain rfl : k = n := by omega
        have HK : Hid (TsBlk wr w.heap.size ks) := by
          show _ = _
          rw [HH.out, HN.out]
          simp [halfT]
        go_wp2
        go_ret
        exact ⟨rfl, hbel, HK.out⟩

set_option maxHeartbeats 800000 in
theorem eqTs_any (v1 v2 : Value) (ks : List ByteArray) (w : World) (h1 : TsAt w v1 ks) (h2 : TsAt w v2 ks) (hl : ks.length ≤ 1048576) :
    Calls Tryz.prog 28 #[v1, v2] w fun e w' => e = .returned (.bool true) ∧ Below w.heap.size w w' := by
  obtain ⟨a1, c1, rfl, f1⟩ := h1
  obtain ⟨a2, c2, rfl, f2⟩ := h2
  obtain ⟨n, hn⟩ : ∃ n, n = ks.length := ⟨_, rfl⟩
  rw [← hn] at f1 f2 hl ⊢
  have hq : ((n : Int) != (n : Int)) = false := by simp
  by_cases h0 : n = 0
  · subst h0
    clear f1 f2 hn
    go_enter Tryz.func28, Tryz.ntmps28
    go_wp2
    refine wp_loop_rounds 1 ?_
    rw [rounds_succ]
    go_wp2
    go_ret
    exact ⟨rfl, Below.refl _ _⟩
  · obtain ⟨g1, o1, rfl, l1, k1⟩ := f1 (by omega)
    obtain ⟨g2, o2, rfl, l2, k2⟩ := f2 (by omega)
    have K1 : Hid (∀ j, j < n → w.cell? ⟨g1, o1 + j, none⟩ = some (.string (ks.getD j ByteArray.empty))) := k1
    have K2 : Hid (∀ j, j < n → w.cell? ⟨g2, o2 + j, none⟩ = some (.string (ks.getD j ByteArray.empty))) := k2
    clear k1 k2 f1 f2 hn
    go_enter Tryz.func28, Tryz.ntmps28
    go_wp2
    go_loopw [5] (fun i wr => ∃ k : Nat, i = .int .i64 (k : Int) ∧ k ≤ n ∧ Below w.heap.size w wr) (fun i _ => n - (intOf i).toNat)
    case atStart => exact ⟨0, rfl, by omega, Below.refl _ _⟩
    case round =>
      obtain ⟨k, rfl, hk, hbel⟩ := hrel
      by_cases hlt : k < n
      · have c1 := (hbel.cell l1).trans (K1.out k hlt)
        have c2 := (hbel.cell l2).trans (K2.out k hlt)
        obtain ⟨x, hx⟩ : ∃ x, x = ks.getD k ByteArray.empty := ⟨_, rfl⟩
        rw [← hx] at c1 c2
        have i1 : (k : Int) < (n : Int) := by omega
        clear hx
        go_wp2_with fail
        go_quiet (fail)
        go_wp2
        go_roundw
        case rel => exact ⟨k + 1, by go_num, by omega, below_drewN hbel _⟩
        case measure => simp [intOf]; omega
      · go_wp2
        go_ret
        exact ⟨rfl, hbel⟩

open Go.ChangeShapes Go.WideShapes Go.ChangeAt Go.Deep in
set_option maxRecDepth 100000 in
theorem TsOpen {H : Type} {enc : TypeId × Value → H} {W : World} {n : Nat} {s : Value} {x : DataW H × List MemPlace} (h : DataW.trod enc Tryz.prog W 0 (fun _ => true) true n 22 [s] = some x) :
    ∃ ts : List ByteArray, TsAt W s ts ∧ ts.length ≤ maxLen ∧ ∀ i, i < ts.length → (ts.getD i ByteArray.empty).size ≤ maxLen := by
  have hP : Tryz.prog.cellsOf 9 = 1 := by kernel_rfl
  rcases open_slice Tryz.underlying22 h with ⟨hcs, _⟩ | ⟨a, len, cap, m, n', D, Pl, hcs, hb, hl, hm, hmm, hx, hel⟩
  · simp at hcs
    subst hcs
    exact ⟨[], ⟨none, 0, rfl, fun h => by simp at h⟩, by simp, fun i hi => by simp at hi⟩
  · simp at hcs
    subst hcs
    simp at hmm
    subst hmm
    have each : ∀ i, i < len → ∃ q : ByteArray, W.cell? (a.add i) = some (.string q) ∧ q.size ≤ maxLen := by
      intro i hi
      obtain ⟨cs', h1, h2⟩ := hel i (by omega)
      rw [hP] at h1
      obtain ⟨_, hlen, hcell⟩ := World.cells?_some h1
      match cs', hlen with
      | [v0], _ =>
        have e0 := hcell 0 (by omega)
        rw [add_add] at e0
        obtain ⟨o0, u0, _, t0⟩ := DataW.trod_string Tryz.underlying9 h2
        simp at u0
        subst u0
        exact ⟨o0, by simpa using e0, t0⟩
    obtain ⟨q, hq⟩ := choose_lt each
    have hlen : ((List.range len).map q).length = len := by simp
    have hget : ∀ i, i < len → ((List.range len).map q).getD i ByteArray.empty = q i := by intro i hi; simp [hi]
    refine ⟨(List.range len).map q, ⟨some a, m, by rw [hlen], fun h0 => ?_⟩, by rw [hlen]; omega, fun i hi => by rw [hlen] at hi; rw [hget i hi]; exact (hq i hi).2⟩
    rw [hlen] at h0 ⊢
    obtain ⟨b, off, spot⟩ := a
    have hc0 := (hq 0 h0).1
    have hspot : spot = none := by simpa [Addr.add] using World.cell?_spot hc0
    subst hspot
    have hadd : ∀ j, (⟨b, off, none⟩ : Addr).add j = ⟨b, off + j, none⟩ := fun j => by unfold Addr.add; split <;> simp_all
    refine ⟨b, off, rfl, ?_, fun i hi => ?_⟩
    · rw [hadd] at hc0
      exact World.block_lt_of_cell? W _ hc0
    · have h1 := (hq i hi).1
      rw [hadd] at h1
      rw [hget i hi]
      exact h1
end PartCoS
section PartPPat
namespace Pp

/-- A piece of a pattern. -/
structure Pc where
  op : Nat
  text : List UInt8
  kids : List Nat
deriving DecidableEq

/-- How many kids a piece of this kind has, and how long its text may be; nothing of other kinds. -/
def form (op : Nat) : Option (Nat × Nat) :=
  if op = 5 ∨ op = 6 then some (2, 0)
  else if op = 7 ∨ op = 8 ∨ op = 9 then some (1, 0)
  else if op = 1 then some (0, 1)
  else if op = 3 ∨ op = 4 then some (0, 24)
  else if op = 2 ∨ op = 10 ∨ op = 11 ∨ op = 12 then some (0, 0)
  else none

/-- Is it a sign that stands for something else? -/
def special (b : UInt8) : Bool := [42, 43, 63, 124, 40, 41, 91, 93, 46, 94, 36, 92].contains b

/-- One piece more, and its place; none where there are too many. -/
def put (out : List Pc) (x : Pc) : Option (List Pc × Nat) := if 60 < out.length + 1 then none else some (out ++ [x], out.length)

/-- The place of the next sign that closes a set, from a place on. -/
def close : List UInt8 → Nat → Nat
  | [], a => a
  | b :: r, a => if b = 93 then a else close r (a + 1)

/-- A set, behind its opening sign. -/
def set (l : List UInt8) (a : Nat) (out : List Pc) : Option (Nat × List Pc × Nat) :=
  let neg := l[a]? == some 94
  let b := if neg then a + 1 else a
  let e := close (l.drop b) b
  if e = l.length ∨ e = b then none
  else (put out ⟨if neg then 4 else 3, (l.drop b).take (e - b), []⟩).map fun (o, k) => (e + 1, o, k)

mutual
/-- A thing; f: how deep it may go. -/
def thing (l : List UInt8) : Nat → Nat → List Pc → Option (Nat × List Pc × Nat)
  | 0, _, _ => none
  | f + 1, a, out =>
    match l[a]? with
    | none => none
    | some b =>
      if b = 94 then (put out ⟨10, [], []⟩).map fun (o, k) => (a + 1, o, k)
      else if b = 36 then (put out ⟨11, [], []⟩).map fun (o, k) => (a + 1, o, k)
      else if b = 46 then (put out ⟨2, [], []⟩).map fun (o, k) => (a + 1, o, k)
      else if b = 91 then set l (a + 1) out
      else if b = 40 then
        match alt l f (a + 1) out with
        | none => none
        | some (e, o, k) => if l[e]? = some 41 then some (e + 1, o, k) else none
      else if b = 92 then
        match l[a + 1]? with
        | none => none
        | some c => if special c then (put out ⟨1, [c], []⟩).map fun (o, k) => (a + 2, o, k) else none
      else if special b then none
      else (put out ⟨1, [b], []⟩).map fun (o, k) => (a + 1, o, k)
/-- Behind a thing: as many of the three signs as there are. -/
def more (l : List UInt8) : Nat → Nat → List Pc → Nat → Option (Nat × List Pc × Nat)
  | 0, _, _, _ => none
  | f + 1, a, out, k =>
    match l[a]? with
    | none => some (a, out, k)
    | some b =>
      if b = 42 ∨ b = 43 ∨ b = 63 then
        match put out ⟨if b = 43 then 8 else if b = 63 then 9 else 7, [], [k]⟩ with
        | none => none
        | some (o, j) => more l f (a + 1) o j
      else some (a, out, k)
def many (l : List UInt8) : Nat → Nat → List Pc → Option (Nat × List Pc × Nat)
  | 0, _, _ => none
  | f + 1, a, out =>
    match thing l f a out with
    | none => none
    | some (e, o, k) => more l f e o k
/-- What follows the first thing of a row. -/
def rest (l : List UInt8) : Nat → Nat → List Pc → Nat → Option (Nat × List Pc × Nat)
  | 0, _, _, _ => none
  | f + 1, a, out, k =>
    match l[a]? with
    | none => some (a, out, k)
    | some b =>
      if b = 124 ∨ b = 41 then some (a, out, k)
      else
        match many l f a out with
        | none => none
        | some (e, o, j) =>
          match put o ⟨5, [], [k, j]⟩ with
          | none => none
          | some (o2, k2) => rest l f e o2 k2
def row (l : List UInt8) : Nat → Nat → List Pc → Option (Nat × List Pc × Nat)
  | 0, _, _ => none
  | f + 1, a, out =>
    if l[a]? = none ∨ l[a]? = some 124 ∨ l[a]? = some 41 then (put out ⟨12, [], []⟩).map fun (o, k) => (a, o, k)
    else
      match many l f a out with
      | none => none
      | some (e, o, k) => rest l f e o k
/-- What follows the first alternative. -/
def alts (l : List UInt8) : Nat → Nat → List Pc → Nat → Option (Nat × List Pc × Nat)
  | 0, _, _, _ => none
  | f + 1, a, out, k =>
    if l[a]? = some 124 then
      match row l f (a + 1) out with
      | none => none
      | some (e, o, j) =>
        match put o ⟨6, [], [k, j]⟩ with
        | none => none
        | some (o2, k2) => alts l f e o2 k2
    else some (a, out, k)
def alt (l : List UInt8) : Nat → Nat → List Pc → Option (Nat × List Pc × Nat)
  | 0, _, _ => none
  | f + 1, a, out =>
    match row l f a out with
    | none => none
    | some (e, o, k) => alts l f e o k
end

/-- What ReadPattern answers. -/
def read (l : List UInt8) : Option (List Pc) :=
  if 1 ≤ l.length ∧ l.length ≤ 24 then
    match alt l 200 0 [] with
    | none => none
    | some (e, o, _) => if e < l.length then none else some o
  else none

end Pp
end PartPPat
section PartRdA
open Go.RowKit

/-- What the reader holds, in block g: its text, its place, whether it is bad, its pieces. -/
def Rd (w : World) (g : Nat) (s : ByteArray) (a : Nat) (bad : Bool) (v : Value) : Prop :=
  w.heap[g]? = some (.cells #[.string s, .int .i64 (a : Int), .bool bad, v] 154 (0, 0))
theorem cells4 {w : World} {g : Nat} {a b c d : Value} {t : TypeId} (h : w.heap[g]? = some (.cells #[a, b, c, d] t (0, 0))) :
    w.cell? ⟨g, 0, none⟩ = some a ∧ w.cell? ⟨g, 1, none⟩ = some b ∧ w.cell? ⟨g, 2, none⟩ = some c ∧ w.cell? ⟨g, 3, none⟩ = some d ∧
      w.frozen? ⟨g, 0, none⟩ = false ∧ w.frozen? ⟨g, 1, none⟩ = false ∧ w.frozen? ⟨g, 2, none⟩ = false ∧ w.frozen? ⟨g, 3, none⟩ = false := by
  refine ⟨?_, ?_, ?_, ?_, ?_, ?_, ?_, ?_⟩ <;> simp [World.cell?, World.frozen?, h]

set_option maxHeartbeats 1000000 in
set_option maxRecDepth 100000 in
/-- Is it the sign c that comes next? -/
theorem rdIs_any (g a c : Nat) (s : ByteArray) (bad : Bool) (v : Value) (w : World) (h : Rd w g s a bad v) (ha : a ≤ s.size) (hc : c < 256) :
    Calls Tryz.prog 117 #[.pointer (some ⟨g, 0, none⟩), .int .u8 (c : Int)] w fun e w' =>
      e = .returned (.bool (!bad && decide (s.data.toList[a]? = some (UInt8.ofNat c)))) ∧ ∃ k, w' = w.drewN k := by
  obtain ⟨c0, c1, c2, c3, f0, f1, f2, f3⟩ := cells4 h
  clear h f0 f1 f2 f3 c3
  cases bad with
  | true =>
    go_enter Tryz.func117, Tryz.ntmps117
    go_wp2_with fail
    go_quiet (fail)
    go_wp2
    go_ret
    exact ⟨rfl, _, rfl⟩
  | false =>
    by_cases hlt : a < s.size
    · have d1 : decide ((a : Int) < (s.size : Int)) = true := by simp; omega
      have hi : (a : Int) < (s.size : Int) := by omega
      have h256 : s[a].toNat < 256 := s[a].toNat_lt
      have HE : Hid (decide (s.data.toList[a]? = some (UInt8.ofNat c)) = ((s[a].toNat : Int) == (c : Int))) := by
        show _ = _
        have e : s.data.toList[a]? = some s[a] := by
          rw [List.getElem?_eq_getElem (by simpa using hlt)]; rfl
        rw [e]
        by_cases h : s[a].toNat = c
        · have : s[a] = UInt8.ofNat c := by apply UInt8.toNat_inj.1; rw [UInt8.toNat_ofNat']; omega
          simp [this]
          omega
        · have h2 : ¬ s[a] = UInt8.ofNat c := by
            intro e2
            apply h
            rw [e2, UInt8.toNat_ofNat']
            omega
          simp [h2]
          omega
      go_enter Tryz.func117, Tryz.ntmps117
      go_wp2_with fail
      go_quiet (fail)
      go_wp2
      go_ret
      refine ⟨?_, _, rfl⟩
      rw [HE.out]
      rfl
    · have d1 : decide ((a : Int) < (s.size : Int)) = false := by simp; omega
      have HE : Hid (decide (s.data.toList[a]? = some (UInt8.ofNat c)) = false) := by
        show _ = _
        rw [List.getElem?_eq_none (by simp; omega)]
        simp
      go_enter Tryz.func117, Tryz.ntmps117
      go_wp2_with fail
      go_quiet (fail)
      go_wp2
      go_ret
      refine ⟨?_, _, rfl⟩
      rw [HE.out]
      rfl
end PartRdA
end Go.Proofs.YtlpdjmjbppmibaaGreat
