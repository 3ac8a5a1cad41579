/- Plain facts, without the program: pieces of a pattern, when they are right, and how a pattern is read from its text. The specification's reader of a pattern: what it holds, and its two tests. Frames: what of a world is as it was. The specification's reader of a pattern: one piece more. -/
import Derived.Test.YtehagonaacbmiaaGreatProg
import Derived.WalkKit
import Derived.WalkSpells
import Derived.WalkLawsBesides
import Derived.Handy
import Derived.Lib.Strings
import Derived.BigQuiet
import Derived.Deep.QuietTactic
import Derived.Below
import Derived.Test.YtehagonaacbmiaaGreatMPRjZaa
import Derived.Deep.RegionLaw
import Derived.Deep.AppendLies
namespace Go.Proofs.YtehagonaacbmiaaGreat
section PartPPat
namespace Pp

/-- A piece of a pattern. -/
structure Pc where
  op : Nat
  text : List UInt8
  kids : List Nat
deriving DecidableEq

/-- How many kids a piece of this kind has, and how long its text may be; nothing of other kinds. -/
def form (op : Nat) : Option (Nat × Nat) :=
  if op = 5 ∨ op = 6 then some (2, 0)
  else if op = 7 ∨ op = 8 ∨ op = 9 then some (1, 0)
  else if op = 1 then some (0, 1)
  else if op = 3 ∨ op = 4 then some (0, 24)
  else if op = 2 ∨ op = 10 ∨ op = 11 ∨ op = 12 then some (0, 0)
  else none

/-- Is it a sign that stands for something else? -/
def special (b : UInt8) : Bool := [42, 43, 63, 124, 40, 41, 91, 93, 46, 94, 36, 92].contains b

/-- One piece more, and its place; none where there are too many. -/
def put (out : List Pc) (x : Pc) : Option (List Pc × Nat) := if 60 < out.length + 1 then none else some (out ++ [x], out.length)

/-- The place of the next sign that closes a set, from a place on. -/
def close : List UInt8 → Nat → Nat
  | [], a => a
  | b :: r, a => if b = 93 then a else close r (a + 1)

/-- A set, behind its opening sign. -/
def set (l : List UInt8) (a : Nat) (out : List Pc) : Option (Nat × List Pc × Nat) :=
  let neg := l[a]? == some 94
  let b := if neg then a + 1 else a
  let e := close (l.drop b) b
  if e = l.length ∨ e = b then none
  else (put out ⟨if neg then 4 else 3, (l.drop b).take (e - b), []⟩).map fun (o, k) => (e + 1, o, k)

mutual
/-- A thing; f: how deep it may go. -/
def thing (l : List UInt8) : Nat → Nat → List Pc → Option (Nat × List Pc × Nat)
  | 0, _, _ => none
  | f + 1, a, out =>
    match l[a]? with
    | none => none
    | some b =>
      if b = 94 then (put out ⟨10, [], []⟩).map fun (o, k) => (a + 1, o, k)
      else if b = 36 then (put out ⟨11, [], []⟩).map fun (o, k) => (a + 1, o, k)
      else if b = 46 then (put out ⟨2, [], []⟩).map fun (o, k) => (a + 1, o, k)
      else if b = 91 then set l (a + 1) out
      else if b = 40 then
        match alt l f (a + 1) out with
        | none => none
        | some (e, o, k) => if l[e]? = some 41 then some (e + 1, o, k) else none
      else if b = 92 then
        match l[a + 1]? with
        | none => none
        | some c => if special c then (put out ⟨1, [c], []⟩).map fun (o, k) => (a + 2, o, k) else none
      else if special b then none
      else (put out ⟨1, [b], []⟩).map fun (o, k) => (a + 1, o, k)
/-- Behind a thing: as many of the three signs as there are. -/
def more (l : List UInt8) : Nat → Nat → List Pc → Nat → Option (Nat × List Pc × Nat)
  | 0, _, _, _ => none
  | f + 1, a, out, k =>
    match l[a]? with
    | none => some (a, out, k)
    | some b =>
      if b = 42 ∨ b = 43 ∨ b = 63 then
        match put out ⟨if b = 43 then 8 else if b = 63 then 9 else 7, [], [k]⟩ with
        | none => none
        | some (o, j) => more l f (a + 1) o j
      else some (a, out, k)
def many (l : List UInt8) : Nat → Nat → List Pc → Option (Nat × List Pc × Nat)
  | 0, _, _ => none
  | f + 1, a, out =>
    match thing l f a out with
    | none => none
    | some (e, o, k) => more l f e o k
/-- What follows the first thing of a row. -/
def rest (l : List UInt8) : Nat → Nat → List Pc → Nat → Option (Nat × List Pc × Nat)
  | 0, _, _, _ => none
  | f + 1, a, out, k =>
    match l[a]? with
    | none => some (a, out, k)
    | some b =>
      if b = 124 ∨ b = 41 then some (a, out, k)
      else
        match many l f a out with
        | none => none
        | some (e, o, j) =>
          match put o ⟨5, [], [k, j]⟩ with
          | none => none
          | some (o2, k2) => rest l f e o2 k2
def row (l : List UInt8) : Nat → Nat → List Pc → Option (Nat × List Pc × Nat)
  | 0, _, _ => none
  | f + 1, a, out =>
    if l[a]? = none ∨ l[a]? = some 124 ∨ l[a]? = some 41 then (put out ⟨12, [], []⟩).map fun (o, k) => (a, o, k)
    else
      match many l f a out with
      | none => none
      | some (e, o, k) => rest l f e o k
/-- What follows the first alternative. -/
def alts (l : List UInt8) : Nat → Nat → List Pc → Nat → Option (Nat × List Pc × Nat)
  | 0, _, _, _ => none
  | f + 1, a, out, k =>
    if l[a]? = some 124 then
      match row l f (a + 1) out with
      | none => none
      | some (e, o, j) =>
        match put o ⟨6, [], [k, j]⟩ with
        | none => none
        | some (o2, k2) => alts l f e o2 k2
    else some (a, out, k)
def alt (l : List UInt8) : Nat → Nat → List Pc → Option (Nat × List Pc × Nat)
  | 0, _, _ => none
  | f + 1, a, out =>
    match row l f a out with
    | none => none
    | some (e, o, k) => alts l f e o k
end

/-- What ReadPattern answers. -/
def read (l : List UInt8) : Option (List Pc) :=
  if 1 ≤ l.length ∧ l.length ≤ 24 then
    match alt l 200 0 [] with
    | none => none
    | some (e, o, _) => if e < l.length then none else some o
  else none

end Pp
end PartPPat
section PartRdA
open Go.RowKit

/-- What the reader holds, in block g: its text, its place, whether it is bad, its pieces. -/
def Rd (w : World) (g : Nat) (s : ByteArray) (a : Nat) (bad : Bool) (v : Value) : Prop :=
  w.heap[g]? = some (.cells #[.string s, .int .i64 (a : Int), .bool bad, v] 154 (0, 0))
theorem cells4 {w : World} {g : Nat} {a b c d : Value} {t : TypeId} (h : w.heap[g]? = some (.cells #[a, b, c, d] t (0, 0))) :
    w.cell? ⟨g, 0, none⟩ = some a ∧ w.cell? ⟨g, 1, none⟩ = some b ∧ w.cell? ⟨g, 2, none⟩ = some c ∧ w.cell? ⟨g, 3, none⟩ = some d ∧
      w.frozen? ⟨g, 0, none⟩ = false ∧ w.frozen? ⟨g, 1, none⟩ = false ∧ w.frozen? ⟨g, 2, none⟩ = false ∧ w.frozen? ⟨g, 3, none⟩ = false := by
  refine ⟨?_, ?_, ?_, ?_, ?_, ?_, ?_, ?_⟩ <;> simp [World.cell?, World.frozen?, h]

set_option maxHeartbeats 1000000 in
set_option maxRecDepth 100000 in
/-- Is it the sign c that comes next? -/
theorem rdIs_any (g a c : Nat) (s : ByteArray) (bad : Bool) (v : Value) (w : World) (h : Rd w g s a bad v) (ha : a ≤ s.size) (hc : c < 256) :
    Calls Tryz.prog 117 #[.pointer (some ⟨g, 0, none⟩), .int .u8 (c : Int)] w fun e w' =>
      e = .returned (.bool (!bad && decide (s.data.toList[a]? = some (UInt8.ofNat c)))) ∧ ∃ k, w' = w.drewN k := by
  obtain ⟨c0, c1, c2, c3, f0, f1, f2, f3⟩ := cells4 h
  clear h f0 f1 f2 f3 c3
  cases bad with
  | true =>
    go_enter Tryz.func117, Tryz.ntmps117
    go_wp2_with fail
    go_quiet (fail)
    go_wp2
    go_ret
    exact ⟨rfl, _, rfl⟩
  | false =>
    by_cases hlt : a < s.size
    · have d1 : decide ((a : Int) < (s.size : Int)) = true := by simp; omega
      have hi : (a : Int) < (s.size : Int) := by omega
      have h256 : s[a].toNat < 256 := s[a].toNat_lt
      have HE : Hid (decide (s.data.toList[a]? = some (UInt8.ofNat c)) = ((s[a].toNat : Int) == (c : Int))) := by
        show _ = _
        have e : s.data.toList[a]? = some s[a] := by
          rw [List.getElem?_eq_getElem (by simpa using hlt)]; rfl
        rw [e]
        by_cases h : s[a].toNat = c
        · have : s[a] = UInt8.ofNat c := by apply UInt8.toNat_inj.1; rw [UInt8.toNat_ofNat']; omega
          simp [this]
          omega
        · have h2 : ¬ s[a] = UInt8.ofNat c := by
            intro e2
            apply h
            rw [e2, UInt8.toNat_ofNat']
            omega
          simp [h2]
          omega
      go_enter Tryz.func117, Tryz.ntmps117
      go_wp2_with fail
      go_quiet (fail)
      go_wp2
      go_ret
      refine ⟨?_, _, rfl⟩
      rw [HE.out]
      rfl
    · have d1 : decide ((a : Int) < (s.size : Int)) = false := by simp; omega
      have HE : Hid (decide (s.data.toList[a]? = some (UInt8.ofNat c)) = false) := by
        show _ = _
        rw [List.getElem?_eq_none (by simp; omega)]
        simp
      go_enter Tryz.func117, Tryz.ntmps117
      go_wp2_with fail
      go_quiet (fail)
      go_wp2
      go_ret
      refine ⟨?_, _, rfl⟩
      rw [HE.out]
      rfl
end PartRdA
section PartFrm
open Go.RowKit

/-- All but the memory is as it was. -/
def Env (w w' : World) : Prop := w'.os = w.os ∧ w'.tape = w.tape ∧ w'.output = w.output
theorem Env.refl (w : World) : Env w w := ⟨rfl, rfl, rfl⟩
theorem Env.trans {w w1 w2 : World} (h : Env w w1) (k : Env w1 w2) : Env w w2 := ⟨k.1.trans h.1, k.2.1.trans h.2.1, k.2.2.trans h.2.2⟩
/-- A frame: what lies below B, and from C on, is as it was. -/
def FM (B C : Nat) (w w' : World) : Prop := Env w w' ∧ w.heap.size ≤ w'.heap.size ∧ ∀ k, k < w.heap.size → (k < B ∨ C ≤ k) → w'.heap[k]? = w.heap[k]?
theorem FM.refl (B C : Nat) (w : World) : FM B C w w := ⟨Env.refl w, Nat.le_refl _, fun _ _ _ => rfl⟩
theorem FM.set {B C : Nat} {w w' : World} (h : FM B C w w') (r o : Nat) (u : Value) (h1 : B ≤ r) (h2 : r < C) : FM B C w (w'.setCell ⟨r, o, none⟩ u) :=
  ⟨h.1, by simpa [World.setCell] using h.2.1, fun k hk hkk => by rw [Below.heap_setCell _ _ _ _ (by show k ≠ r; omega)]; exact h.2.2 k hk hkk⟩
theorem FM.up {B C : Nat} {w w' w2 : World} (h : FM B C w w') (hb : Below w'.heap.size w' w2) : FM B C w w2 :=
  ⟨h.1.trans ⟨hb.os, hb.tape, hb.output⟩, Nat.le_trans h.2.1 hb.size, fun k hk hkk => (hb.block k (Nat.lt_of_lt_of_le hk h.2.1)).trans (h.2.2 k hk hkk)⟩
theorem FM.below {B C : Nat} {w w' : World} (h : FM B C w w') (hB : B ≤ w.heap.size) : Below B w w' := ⟨h.1.1, h.1.2.1, h.1.2.2, h.2.1, fun k hk => h.2.2 k (by omega) (.inl hk)⟩
end PartFrm
section PartRdB
open Go.RowKit

/-- The row of n pieces, their cells cs, in the reader's own memory from block B on. -/
def PR (B : Nat) (w : World) (v : Value) (n : Nat) (cs : List Value) : Prop := w.ownsRow B 163 3 v n cs

theorem set3 {w : World} {g : Nat} {a b c d : Value} {t : TypeId} (h : w.heap[g]? = some (.cells #[a, b, c, d] t (0, 0))) (u : Value) : (w.setCell ⟨g, 3, none⟩ u).heap[g]? = some (.cells #[a, b, c, u] t (0, 0)) := by
  simp [World.setCell, Array.getElem?_modify, h]
theorem set2' {w : World} {g : Nat} {a b c d : Value} {t : TypeId} (h : w.heap[g]? = some (.cells #[a, b, c, d] t (0, 0))) (u : Value) : (w.setCell ⟨g, 2, none⟩ u).heap[g]? = some (.cells #[a, b, u, d] t (0, 0)) := by
  simp [World.setCell, Array.getElem?_modify, h]

theorem PR.far {B g : Nat} {w : World} {v : Value} {n : Nat} {cs : List Value} (h : PR B w v n cs) (hg : g < B) : v.ownBlock ≠ some g := by
  intro e
  have := (World.ownsRow.lt h g e).1
  omega

/-- A store into the reader itself leaves the row as it was. -/
theorem PR.set {B g : Nat} {w : World} {v : Value} {n : Nat} {cs : List Value} (h : PR B w v n cs) (hg : g < B) (o : Nat) (u : Value) : PR B (w.setCell ⟨g, o, none⟩ u) v n cs := by
  refine ⟨h.1, ?_⟩
  rcases h.2 with hn | ⟨g2, cap2, cur, hv2, hb2, hc2, rest⟩
  · exact .inl hn
  · refine .inr ⟨g2, cap2, cur, hv2, hb2, ?_, rest⟩
    rw [Below.heap_setCell _ _ _ _ (by show g2 ≠ g; omega)]
    exact hc2

/-- One piece more, at a step of a sentence that draws its order. -/
theorem PR.step {ops : Array Oper} {o : Oper} {a : Act} {K : Act → World → Prop} {Q : Exit → Act → World → Prop} {E : Prop} {B : Nat} {w : World} {v : Value} {n : Nat} {cs : List Value}
    (hown : PR B w v n cs) (hgd : o.guard = none) (s x : Operand)
    (ho : o.op = .call { callee := .builtin .append, args := #[s, x], argTypes := #[140, 140] })
    (hs : a.eval s = v) (c1 c2 c3 : Value) (k1 : c1.oneCell' = true) (k2 : c2.oneCell' = true) (k3 : c3.oneCell' = true) (o1 : Obj) (hx : a.eval x = .slice (some ⟨w.heap.size + 1, 0, none⟩) 1 1)
    (hlen : n ≤ 1000) (hB : B ≤ w.heap.size)
    (h : ∀ q cap w', PR B w' (.slice (some ⟨q, 0, none⟩) (n + 1) cap) (n + 1) (cs ++ [c1, c2, c3]) → w.heap.size ≤ w'.heap.size → (v.ownBlock = some q ∨ w.heap.size ≤ q) → q < w'.heap.size → Below B w w' →
      (∀ ad u, w.cell? ad = some u → v.ownBlock ≠ some ad.block → w'.cell? ad = some u) → (∀ k, k < w.heap.size → v.ownBlock ≠ some k → w'.heap[k]? = w.heap[k]?) → K (a.put o.dst (.slice (some ⟨q, 0, none⟩) (n + 1) cap)) w') :
    if Region.wanted o (yielded ops a.tmps) = true then Oper.wp Tryz.prog o a ((w.alloc o1).alloc (.cells #[c1, c2, c3] 163)).drew K Q else E := by
  obtain ⟨i0, hi, hy0, hy1, hy2⟩ := info_parts Tryz.infoP
  have hsz : ((w.alloc o1).alloc (.cells #[c1, c2, c3] 163)).drew.heap.size = w.heap.size + 2 := by simp
  refine step_append_lies _ hgd s x 140 ho B 163 i0 (.agg #[.int .i64 0, .string ByteArray.empty, .slice none 0 0]) 3 48 Tryz.underlying140 hi hy0 hy1 hy2 rfl (by decide) v n cs hs (World.ownsRow.drew (World.ownsRow.alloc (World.ownsRow.alloc hown _) _)) ⟨w.heap.size + 1, 0, none⟩ 1 1 [c1, c2, c3] hx rfl
    (World.news_of_block (cs := #[c1, c2, c3]) (t := 163) (fr := (0, 0)) ?_) ?_ (by omega) ?_ ?_ ?_ (w.heap.size + 2) hsz ?_
  · have := heap_alloc_new (w.alloc o1) (.cells #[c1, c2, c3] 163)
    have e : (w.alloc o1).heap.size = w.heap.size + 1 := by simp
    rw [e] at this
    exact this
  · intro u hu
    simp at hu
    rcases hu with rfl | rfl | rfl <;> assumption
  · unfold maxLen; omega
  · omega
  · omega
  · intro q cap w' h2 h3 h4 h5
    have hb0 : Below w.heap.size w ((w.alloc o1).alloc (.cells #[c1, c2, c3] 163)).drew := ((((Below.refl _ w).alloc (Nat.le_refl _) _).alloc (by simp) _).drew)
    have hs3 := h3.size
    refine h q cap w' h2 (by omega) (h4.imp id (fun e => by omega)) h5 ?_ ?_ ?_
    · exact (hb0.mono hB).grown h3 (by omega) (fun k hk => (World.ownsRow.lt hown k hk).1)
    · intro ad u hu hne
      have hlt := World.block_lt_of_cell? w _ hu
      refine h3.cell ((hb0.cell hlt).trans hu) ?_
      intro e; exact hne e.symm
    · intro k hk hne
      rw [h3.block k (by omega) (fun e => hne e.symm)]
      exact hb0.block k hk

set_option maxHeartbeats 2000000 in
set_option maxRecDepth 100000 in
theorem rdPut_any (B g a n op : Nat) (s t : ByteArray) (v : Value) (cs : List Value) (ka : Option Addr) (kl kc : Nat) (bad : Bool) (w : World) (h : Rd w g s a bad v) (hp : PR B w v n cs) (hn : n ≤ 1000) (hg : g < B) (hB : B ≤ w.heap.size) :
    Calls Tryz.prog 118 #[.pointer (some ⟨g, 0, none⟩), .agg #[.int .i64 (op : Int), .string t, .slice ka kl kc]] w fun e w' => ∃ v' : Value, e = .returned (.int .i64 (n : Int)) ∧ Rd w' g s a (bad || decide (60 < n + 1)) v' ∧ PR B w' v' (n + 1) (cs ++ [.int .i64 (op : Int), .string t, .slice ka kl kc]) ∧
      w.heap.size ≤ w'.heap.size ∧ (∀ k, k < w.heap.size → k ≠ g → v.ownBlock ≠ some k → w'.heap[k]? = w.heap[k]?) ∧ (∀ q, v'.ownBlock = some q → v.ownBlock = some q ∨ w.heap.size ≤ q) ∧ Env w w' := by
  obtain ⟨c0, c1, c2, c3, f0, f1, f2, f3⟩ := cells4 h
  have hgl : g < w.heap.size := by omega
  have hfar := hp.far hg
  go_enter Tryz.func118, Tryz.ntmps118
  go_wp2_with fail
  go_region_law ((refine PR.step hp (by rfl) _ _ (by rfl) (by rfl) _ _ _ (by rfl) (by rfl) (by rfl) _ (by rfl) (by omega) hB ?_; intro q cap w1 hp1 hs1 hq1 hq2 hb1 hk1 hh1; have hR1 := (hh1 g hgl hfar).trans h; obtain ⟨d0, d1, d2, d3, e0, e1, e2, e3⟩ := cells4 hR1))
  all_goals
    have hR2 := set3 hR1 (.slice (some ⟨q, 0, none⟩) (n + 1) cap)
    have hp2 := PR.set hp1 hg 3 (.slice (some ⟨q, 0, none⟩) (n + 1) cap)
    have hh2 : ∀ k, k < w.heap.size → k ≠ g → v.ownBlock ≠ some k → (w1.setCell ⟨g, 3, none⟩ (.slice (some ⟨q, 0, none⟩) (n + 1) cap)).heap[k]? = w.heap[k]? := by
      intro k hk hkg hkv
      rw [Below.heap_setCell _ _ _ _ (by show k ≠ g; exact hkg)]
      exact hh1 k hk hkv
    have hs2 : w.heap.size ≤ (w1.setCell ⟨g, 3, none⟩ (.slice (some ⟨q, 0, none⟩) (n + 1) cap)).heap.size := by simp [World.setCell]; omega
    have hen : Env w (w1.setCell ⟨g, 3, none⟩ (.slice (some ⟨q, 0, none⟩) (n + 1) cap)) := ⟨hb1.os, hb1.tape, hb1.output⟩
    obtain ⟨w2, hw2⟩ : ∃ w2, w2 = w1.setCell ⟨g, 3, none⟩ (.slice (some ⟨q, 0, none⟩) (n + 1) cap) := ⟨_, rfl⟩
    rw [← hw2] at hR2 hp2 hh2 hs2 hen ⊢
    have HEN : Hid (Env w w2) := hen
    have HP2 : Hid (PR B w2 (.slice (some ⟨q, 0, none⟩) (n + 1) cap) (n + 1) (cs ++ [.int .i64 (op : Int), .string t, .slice ka kl kc])) := hp2
    have HH2 : Hid (∀ k, k < w.heap.size → k ≠ g → v.ownBlock ≠ some k → w2.heap[k]? = w.heap[k]?) := hh2
    have HQ : Hid (∀ q', (Value.slice (some ⟨q, 0, none⟩) (n + 1) cap).ownBlock = some q' → v.ownBlock = some q' ∨ w.heap.size ≤ q') := by
      intro q' e
      have e2 : q = q' := by simpa [Value.ownBlock] using e
      rw [← e2]
      exact hq1
    clear hen hw2 hp2 hh2 hp1 hh1 hk1 hb1 hq1 hq2 d0 d1 d2 d3 e0 e1 e2 e3 c0 c1 c2 c3 f0 f1 f2 f3 hR1 h hp
    obtain ⟨d0, d1, d2, d3, e0, e1, e2, e3⟩ := cells4 hR2
    by_cases h60 : 60 < n + 1
    · have HB : Hid ((bad || decide (60 < n + 1)) = true) := by show _ = _; simp [h60]
      have dd : decide ((60 : Int) < (n : Int) + 1) = true := by simp; omega
      have HR3 : Hid (Rd (w2.setCell ⟨g, 2, none⟩ (.bool true)) g s a true (.slice (some ⟨q, 0, none⟩) (n + 1) cap)) := set2' hR2 (.bool true)
      go_wp2
      go_ret
      rw [HB.out]
      refine ⟨_, rfl, HR3.out, HP2.out.set hg 2 _, by simpa [World.setCell] using hs2, fun k hk hkg hkv => ?_, HQ.out, HEN.out⟩
      rw [Below.heap_setCell _ _ _ _ (by show k ≠ g; exact hkg)]
      exact HH2.out k hk hkg hkv
    · have HB : Hid ((bad || decide (60 < n + 1)) = bad) := by show _ = _; simp [h60]
      have dd : decide ((60 : Int) < (n : Int) + 1) = false := by simp; omega
      go_wp2
      go_ret
      rw [HB.out]
      exact ⟨_, rfl, hR2, HP2.out, hs2, HH2.out, HQ.out, HEN.out⟩
end PartRdB
end Go.Proofs.YtehagonaacbmiaaGreat
