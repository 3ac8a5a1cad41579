/- The specification of ReadPattern: the reader and its pieces. -/
import Derived.Test.YtibmagmdeacenacProg
import Derived.Test.YtibmagmdeacenacPPat
import Derived.WalkKit
import Derived.WalkSpells
import Derived.WalkLawsBesides
import Derived.Handy
import Derived.Lib.Strings
import Derived.BigQuiet
import Derived.Deep.QuietTactic
import Derived.Test.YtibmagmdeacenacPtB
import Derived.Test.YtibmagmdeacenacFrm
import Derived.Deep.RegionLaw
import Derived.Deep.AppendLies
namespace Go.Proofs.Ytibmagmdeacenac
section PartRdA
open Go.RowKit

/-- What the reader holds, in block g: its text, its place, whether it is bad, its pieces. -/
def Rd (w : World) (g : Nat) (s : ByteArray) (a : Nat) (bad : Bool) (v : Value) : Prop :=
  w.heap[g]? = some (.cells #[.string s, .int .i64 (a : Int), .bool bad, v] 65 (0, 0))
theorem cells4 {w : World} {g : Nat} {a b c d : Value} {t : TypeId} (h : w.heap[g]? = some (.cells #[a, b, c, d] t (0, 0))) :
    w.cell? ⟨g, 0, none⟩ = some a ∧ w.cell? ⟨g, 1, none⟩ = some b ∧ w.cell? ⟨g, 2, none⟩ = some c ∧ w.cell? ⟨g, 3, none⟩ = some d ∧
      w.frozen? ⟨g, 0, none⟩ = false ∧ w.frozen? ⟨g, 1, none⟩ = false ∧ w.frozen? ⟨g, 2, none⟩ = false ∧ w.frozen? ⟨g, 3, none⟩ = false := by
  refine ⟨?_, ?_, ?_, ?_, ?_, ?_, ?_, ?_⟩ <;> simp [World.cell?, World.frozen?, h]

set_option maxHeartbeats 1000000 in
set_option maxRecDepth 100000 in
/-- Is it the sign c that comes next? -/
theorem rdIs_any (g a c : Nat) (s : ByteArray) (bad : Bool) (v : Value) (w : World) (h : Rd w g s a bad v) (ha : a ≤ s.size) (hc : c < 256) :
    Calls Try.prog 46 #[.pointer (some ⟨g, 0, none⟩), .int .u8 (c : Int)] w fun e w' =>
      e = .returned (.bool (!bad && decide (s.data.toList[a]? = some (UInt8.ofNat c)))) ∧ ∃ k, w' = w.drewN k := by
  obtain ⟨c0, c1, c2, c3, f0, f1, f2, f3⟩ := cells4 h
  clear h f0 f1 f2 f3 c3
  cases bad with
  | true =>
    go_enter Try.func46, Try.ntmps46
    go_wp2_with fail
    go_quiet (fail)
    go_wp2
    go_ret
    exact ⟨rfl, _, rfl⟩
  | false =>
    by_cases hlt : a < s.size
    · have d1 : decide ((a : Int) < (s.size : Int)) = true := by simp; omega
      have hi : (a : Int) < (s.size : Int) := by omega
      have h256 : s[a].toNat < 256 := s[a].toNat_lt
      have HE : Hid (decide (s.data.toList[a]? = some (UInt8.ofNat c)) = ((s[a].toNat : Int) == (c : Int))) := by
        show _ = _
        have e : s.data.toList[a]? = some s[a] := by
          rw [List.getElem?_eq_getElem (by simpa using hlt)]; rfl
        rw [e]
        by_cases h : s[a].toNat = c
        · have : s[a] = UInt8.ofNat c := by apply UInt8.toNat_inj.1; rw [UInt8.toNat_ofNat']; omega
          simp [this]
          omega
        · have h2 : ¬ s[a] = UInt8.ofNat c := by
            intro e2
            apply h
            rw [e2, UInt8.toNat_ofNat']
            omega
          simp [h2]
          omega
      go_enter Try.func46, Try.ntmps46
      go_wp2_with fail
      go_quiet (fail)
      go_wp2
      go_ret
      refine ⟨?_, _, rfl⟩
      rw [HE.out]
      rfl
    · have d1 : decide ((a : Int) < (s.size : Int)) = false := by simp; omega
      have HE : Hid (decide (s.data.toList[a]? = some (UInt8.ofNat c)) = false) := by
        show _ = _
        rw [List.getElem?_eq_none (by simp; omega)]
        simp
      go_enter Try.func46, Try.ntmps46
      go_wp2_with fail
      go_quiet (fail)
      go_wp2
      go_ret
      refine ⟨?_, _, rfl⟩
      rw [HE.out]
      rfl
end PartRdA
section PartRdB
open Go.RowKit

/-- The row of n pieces, their cells cs, in the reader's own memory from block B on. -/
def PR (B : Nat) (w : World) (v : Value) (n : Nat) (cs : List Value) : Prop := w.ownsRow B 69 3 v n cs

theorem set3 {w : World} {g : Nat} {a b c d : Value} {t : TypeId} (h : w.heap[g]? = some (.cells #[a, b, c, d] t (0, 0))) (u : Value) : (w.setCell ⟨g, 3, none⟩ u).heap[g]? = some (.cells #[a, b, c, u] t (0, 0)) := by
  simp [World.setCell, Array.getElem?_modify, h]
theorem set2' {w : World} {g : Nat} {a b c d : Value} {t : TypeId} (h : w.heap[g]? = some (.cells #[a, b, c, d] t (0, 0))) (u : Value) : (w.setCell ⟨g, 2, none⟩ u).heap[g]? = some (.cells #[a, b, u, d] t (0, 0)) := by
  simp [World.setCell, Array.getElem?_modify, h]

theorem PR.far {B g : Nat} {w : World} {v : Value} {n : Nat} {cs : List Value} (h : PR B w v n cs) (hg : g < B) : v.ownBlock ≠ some g := by
  intro e
  have := (World.ownsRow.lt h g e).1
  omega

/-- A store into the reader itself leaves the row as it was. -/
theorem PR.set {B g : Nat} {w : World} {v : Value} {n : Nat} {cs : List Value} (h : PR B w v n cs) (hg : g < B) (o : Nat) (u : Value) : PR B (w.setCell ⟨g, o, none⟩ u) v n cs := by
  refine ⟨h.1, ?_⟩
  rcases h.2 with hn | ⟨g2, cap2, cur, hv2, hb2, hc2, rest⟩
  · exact .inl hn
  · refine .inr ⟨g2, cap2, cur, hv2, hb2, ?_, rest⟩
    rw [Below.heap_setCell _ _ _ _ (by show g2 ≠ g; omega)]
    exact hc2

/-- One piece more, at a step of a sentence that draws its order. -/
theorem PR.step {ops : Array Oper} {o : Oper} {a : Act} {K : Act → World → Prop} {Q : Exit → Act → World → Prop} {E : Prop} {B : Nat} {w : World} {v : Value} {n : Nat} {cs : List Value}
    (hown : PR B w v n cs) (hgd : o.guard = none) (s x : Operand)
    (ho : o.op = .call { callee := .builtin .append, args := #[s, x], argTypes := #[28, 28] })
    (hs : a.eval s = v) (c1 c2 c3 : Value) (k1 : c1.oneCell' = true) (k2 : c2.oneCell' = true) (k3 : c3.oneCell' = true) (o1 : Obj) (hx : a.eval x = .slice (some ⟨w.heap.size + 1, 0, none⟩) 1 1)
    (hlen : n ≤ 1000) (hB : B ≤ w.heap.size)
    (h : ∀ q cap w', PR B w' (.slice (some ⟨q, 0, none⟩) (n + 1) cap) (n + 1) (cs ++ [c1, c2, c3]) → w.heap.size ≤ w'.heap.size → (v.ownBlock = some q ∨ w.heap.size ≤ q) → q < w'.heap.size → Below B w w' →
      (∀ ad u, w.cell? ad = some u → v.ownBlock ≠ some ad.block → w'.cell? ad = some u) → (∀ k, k < w.heap.size → v.ownBlock ≠ some k → w'.heap[k]? = w.heap[k]?) → K (a.put o.dst (.slice (some ⟨q, 0, none⟩) (n + 1) cap)) w') :
    if Region.wanted o (yielded ops a.tmps) = true then Oper.wp Try.prog o a ((w.alloc o1).alloc (.cells #[c1, c2, c3] 69)).drew K Q else E := by
  obtain ⟨i0, hi, hy0, hy1, hy2⟩ := info_parts Try.infoP
  have hsz : ((w.alloc o1).alloc (.cells #[c1, c2, c3] 69)).drew.heap.size = w.heap.size + 2 := by simp
  refine step_append_lies _ hgd s x 28 ho B 69 i0 (.agg #[.int .i64 0, .string ByteArray.empty, .slice none 0 0]) 3 48 Try.underlying28 hi hy0 hy1 hy2 rfl (by decide) v n cs hs (World.ownsRow.drew (World.ownsRow.alloc (World.ownsRow.alloc hown _) _)) ⟨w.heap.size + 1, 0, none⟩ 1 1 [c1, c2, c3] hx rfl
    (World.news_of_block (cs := #[c1, c2, c3]) (t := 69) (fr := (0, 0)) ?_) ?_ (by omega) ?_ ?_ ?_ (w.heap.size + 2) hsz ?_
  · have := heap_alloc_new (w.alloc o1) (.cells #[c1, c2, c3] 69)
    have e : (w.alloc o1).heap.size = w.heap.size + 1 := by simp
    rw [e] at this
    exact this
  · intro u hu
    simp at hu
    rcases hu with rfl | rfl | rfl <;> assumption
  · unfold maxLen; omega
  · omega
  · omega
  · intro q cap w' h2 h3 h4 h5
    have hb0 : Below w.heap.size w ((w.alloc o1).alloc (.cells #[c1, c2, c3] 69)).drew := ((((Below.refl _ w).alloc (Nat.le_refl _) _).alloc (by simp) _).drew)
    have hs3 := h3.size
    refine h q cap w' h2 (by omega) (h4.imp id (fun e => by omega)) h5 ?_ ?_ ?_
    · exact (hb0.mono hB).grown h3 (by omega) (fun k hk => (World.ownsRow.lt hown k hk).1)
    · intro ad u hu hne
      have hlt := World.block_lt_of_cell? w _ hu
      refine h3.cell ((hb0.cell hlt).trans hu) ?_
      intro e; exact hne e.symm
    · intro k hk hne
      rw [h3.block k (by omega) (fun e => hne e.symm)]
      exact hb0.block k hk

set_option maxHeartbeats 2000000 in
set_option maxRecDepth 100000 in
theorem rdPut_any (B g a n op : Nat) (s t : ByteArray) (v : Value) (cs : List Value) (ka : Option Addr) (kl kc : Nat) (bad : Bool) (w : World) (h : Rd w g s a bad v) (hp : PR B w v n cs) (hn : n ≤ 1000) (hg : g < B) (hB : B ≤ w.heap.size) :
    Calls Try.prog 47 #[.pointer (some ⟨g, 0, none⟩), .agg #[.int .i64 (op : Int), .string t, .slice ka kl kc]] w fun e w' => ∃ v' : Value, e = .returned (.int .i64 (n : Int)) ∧ Rd w' g s a (bad || decide (60 < n + 1)) v' ∧ PR B w' v' (n + 1) (cs ++ [.int .i64 (op : Int), .string t, .slice ka kl kc]) ∧
      w.heap.size ≤ w'.heap.size ∧ (∀ k, k < w.heap.size → k ≠ g → v.ownBlock ≠ some k → w'.heap[k]? = w.heap[k]?) ∧ (∀ q, v'.ownBlock = some q → v.ownBlock = some q ∨ w.heap.size ≤ q) ∧ Env w w' := by
  obtain ⟨c0, c1, c2, c3, f0, f1, f2, f3⟩ := cells4 h
  have hgl : g < w.heap.size := by omega
  have hfar := hp.far hg
  go_enter Try.func47, Try.ntmps47
  go_wp2_with fail
  go_region_law ((refine PR.step hp (by rfl) _ _ (by rfl) (by rfl) _ _ _ (by rfl) (by rfl) (by rfl) _ (by rfl) (by omega) hB ?_; intro q cap w1 hp1 hs1 hq1 hq2 hb1 hk1 hh1; have hR1 := (hh1 g hgl hfar).trans h; obtain ⟨d0, d1, d2, d3, e0, e1, e2, e3⟩ := cells4 hR1))
  all_goals
    have hR2 := set3 hR1 (.slice (some ⟨q, 0, none⟩) (n + 1) cap)
    have hp2 := PR.set hp1 hg 3 (.slice (some ⟨q, 0, none⟩) (n + 1) cap)
    have hh2 : ∀ k, k < w.heap.size → k ≠ g → v.ownBlock ≠ some k → (w1.setCell ⟨g, 3, none⟩ (.slice (some ⟨q, 0, none⟩) (n + 1) cap)).heap[k]? = w.heap[k]? := by
      intro k hk hkg hkv
      rw [Below.heap_setCell _ _ _ _ (by show k ≠ g; exact hkg)]
      exact hh1 k hk hkv
    have hs2 : w.heap.size ≤ (w1.setCell ⟨g, 3, none⟩ (.slice (some ⟨q, 0, none⟩) (n + 1) cap)).heap.size := by simp [World.setCell]; omega
    have hen : Env w (w1.setCell ⟨g, 3, none⟩ (.slice (some ⟨q, 0, none⟩) (n + 1) cap)) := ⟨hb1.os, hb1.tape, hb1.output⟩
    obtain ⟨w2, hw2⟩ : ∃ w2, w2 = w1.setCell ⟨g, 3, none⟩ (.slice (some ⟨q, 0, none⟩) (n + 1) cap) := ⟨_, rfl⟩
    rw [← hw2] at hR2 hp2 hh2 hs2 hen ⊢
    have HEN : Hid (Env w w2) := hen
    have HP2 : Hid (PR B w2 (.slice (some ⟨q, 0, none⟩) (n + 1) cap) (n + 1) (cs ++ [.int .i64 (op : Int), .string t, .slice ka kl kc])) := hp2
    have HH2 : Hid (∀ k, k < w.heap.size → k ≠ g → v.ownBlock ≠ some k → w2.heap[k]? = w.heap[k]?) := hh2
    have HQ : Hid (∀ q', (Value.slice (some ⟨q, 0, none⟩) (n + 1) cap).ownBlock = some q' → v.ownBlock = some q' ∨ w.heap.size ≤ q') := by
      intro q' e
      have e2 : q = q' := by simpa [Value.ownBlock] using e
      rw [← e2]
      exact hq1
    clear hen hw2 hp2 hh2 hp1 hh1 hk1 hb1 hq1 hq2 d0 d1 d2 d3 e0 e1 e2 e3 c0 c1 c2 c3 f0 f1 f2 f3 hR1 h hp
    obtain ⟨d0, d1, d2, d3, e0, e1, e2, e3⟩ := cells4 hR2
    by_cases h60 : 60 < n + 1
    · have HB : Hid ((bad || decide (60 < n + 1)) = true) := by show _ = _; simp [h60]
      have dd : decide ((60 : Int) < (n : Int) + 1) = true := by simp; omega
      have HR3 : Hid (Rd (w2.setCell ⟨g, 2, none⟩ (.bool true)) g s a true (.slice (some ⟨q, 0, none⟩) (n + 1) cap)) := set2' hR2 (.bool true)
      go_wp2
      go_ret
      rw [HB.out]
      refine ⟨_, rfl, HR3.out, HP2.out.set hg 2 _, by simpa [World.setCell] using hs2, fun k hk hkg hkv => ?_, HQ.out, HEN.out⟩
      rw [Below.heap_setCell _ _ _ _ (by show k ≠ g; exact hkg)]
      exact HH2.out k hk hkg hkv
    · have HB : Hid ((bad || decide (60 < n + 1)) = bad) := by show _ = _; simp [h60]
      have dd : decide ((60 : Int) < (n : Int) + 1) = false := by simp; omega
      go_wp2
      go_ret
      rw [HB.out]
      exact ⟨_, rfl, hR2, HP2.out, hs2, HH2.out, HQ.out, HEN.out⟩
end PartRdB
section PartRdC
open Go.RowKit

def signs : List UInt8 := [42, 43, 63, 124, 40, 41, 91, 93, 46, 94, 36, 92]
theorem special_yes (c : UInt8) (j : Nat) (h : j < 12) (e : (signs.getD j 0).toNat = c.toNat) : Pp.special c = true := by
  have e2 : signs.getD j 0 = c := UInt8.toNat_inj.1 e
  show signs.contains c = true
  rw [← e2, List.getD_eq_getElem?_getD, List.getElem?_eq_getElem (by exact h)]
  simp only [List.contains_iff_mem, Option.getD_some]
  exact List.getElem_mem _
theorem special_no (c : UInt8) (h : ∀ j, j < 12 → (signs.getD j 0).toNat ≠ c.toNat) : Pp.special c = false := by
  show signs.contains c = false
  rw [Bool.eq_false_iff]
  intro hc
  rw [List.contains_iff_mem] at hc
  obtain ⟨j, hj, e⟩ := List.mem_iff_getElem.1 hc
  refine h j hj ?_
  rw [List.getD_eq_getElem?_getD, List.getElem?_eq_getElem hj, ← e]
  rfl

set_option maxHeartbeats 1000000 in
set_option maxRecDepth 100000 in
theorem special_any (c : UInt8) (w : World) :
    Calls Try.prog 83 #[.int .u8 (c.toNat : Int)] w fun e w' => e = .returned (.bool (Pp.special c)) ∧ w' = w := by
  obtain ⟨x, hx⟩ : ∃ x : ByteArray, x = ⟨signs.toArray⟩ := ⟨_, rfl⟩
  have hxs : x.size = 12 := by rw [hx]; rfl
  have HX : Hid (∀ j (hj : j < x.size), x[j].toNat = (signs.getD j 0).toNat) := by
    intro j hj
    subst hx
    have h12 : j < signs.length := by exact hj
    rw [List.getD_eq_getElem?_getD, List.getElem?_eq_getElem h12]
    rfl
  have hc256 : c.toNat < 256 := c.toNat_lt
  go_enter Try.func83, Try.ntmps83
  go_wp2
  rw [show (⟨#[42, 43, 63, 124, 40, 41, 91, 93, 46, 94, 36, 92]⟩ : ByteArray) = x from hx.symm]
  clear hx
  go_loop [4] (fun i => ∃ k : Nat, i = .int .i64 (k : Int) ∧ k ≤ x.size ∧ Hid (∀ j, j < k → (signs.getD j 0).toNat ≠ c.toNat)) (fun i => x.size - (intOf i).toNat)
  case atStart => exact ⟨0, rfl, by omega, fun j hj => by omega⟩
  case round =>
    obtain ⟨k, rfl, hk, HP⟩ := hrel
    by_cases hlt : k < x.size
    · have h256 : x[k].toNat < 256 := x[k].toNat_lt
      have hxk := HX.out k hlt
      by_cases he : x[k].toNat = c.toNat
      · have HY : Hid (Pp.special c = true) := special_yes c k (by omega) (by omega)
        have d : ((x[k].toNat : Int) == (c.toNat : Int)) = true := by simp; omega
        clear hxk
        go_wp2
        go_ret
        exact ⟨by rw [HY.out]; rfl, rfl⟩
      · have d : ((x[k].toNat : Int) == (c.toNat : Int)) = false := by simp; omega
        have HN : Hid (∀ j, j < k + 1 → (signs.getD j 0).toNat ≠ c.toNat) := by
          intro j hj
          by_cases e : j = k
          · subst e; omega
          · exact HP.out j (by omega)
        clear hxk he
        go_wp2
        go_round
        case rel => exact ⟨k + 1, by go_num, by omega, HN.out⟩
        case measure => simp [intOf]; omega
    · have HY : Hid (Pp.special c = false) := special_no c (fun j hj => HP.out j (by omega))
      go_wp2
      go_ret
      exact ⟨by rw [HY.out]; rfl, rfl⟩
end PartRdC
section PartRdD
open Go.RowKit

/-- What may have changed: the reader itself, the row's own block, what is new. -/
def Fr (g : Nat) (v : Value) (w w' : World) : Prop := w.heap.size ≤ w'.heap.size ∧ (∀ k, k < w.heap.size → k ≠ g → v.ownBlock ≠ some k → w'.heap[k]? = w.heap[k]?) ∧ Env w w'
theorem Fr.refl (g : Nat) (v : Value) (w : World) : Fr g v w w := ⟨Nat.le_refl _, fun _ _ _ _ => rfl, rfl, rfl, rfl⟩
theorem Fr.draw {g : Nat} {v : Value} {w w' : World} (h : Fr g v w w') (k : Nat) : Fr g v w (w'.drewN k) := h
theorem Fr.store {g : Nat} {v : Value} {w w' : World} (h : Fr g v w w') (o : Nat) (u : Value) : Fr g v w (w'.setCell ⟨g, o, none⟩ u) := by
  refine ⟨by simpa [World.setCell] using h.1, fun k hk hkg hkv => ?_, h.2.2⟩
  rw [Below.heap_setCell _ _ _ _ (by show k ≠ g; exact hkg)]
  exact h.2.1 k hk hkg hkv
theorem Fr.next {g : Nat} {v : Value} {w w1 w2 : World} (h1 : Fr g v w w1) (h2 : Fr g v w1 w2) : Fr g v w w2 :=
  ⟨Nat.le_trans h1.1 h2.1, fun k hk hkg hkv => (h2.2.1 k (Nat.lt_of_lt_of_le hk h1.1) hkg hkv).trans (h1.2.1 k hk hkg hkv), h2.2.2.1.trans h1.2.2.1, h2.2.2.2.1.trans h1.2.2.2.1, h2.2.2.2.2.trans h1.2.2.2.2⟩
theorem Rd.at {w : World} {g : Nat} {s : ByteArray} {a : Nat} {bad : Bool} {v : Value} (h : Rd w g s a bad v) (z : Int) (b : Nat) (e : z = (b : Int)) : Rd (w.setCell ⟨g, 1, none⟩ (.int .i64 z)) g s b bad v := by
  subst e
  unfold Rd at h ⊢
  simp [World.setCell, Array.getElem?_modify, h]
theorem Rd.bad {w : World} {g : Nat} {s : ByteArray} {a : Nat} {bad : Bool} {v : Value} (h : Rd w g s a bad v) : Rd (w.setCell ⟨g, 2, none⟩ (.bool true)) g s a true v := set2' h (.bool true)
theorem Rd.draw {w : World} {g : Nat} {s : ByteArray} {a : Nat} {bad : Bool} {v : Value} (h : Rd w g s a bad v) (k : Nat) : Rd (w.drewN k) g s a bad v := h
/-- The reader's place, as the world holds it. -/
def placeOf (g : Nat) (w : World) : Nat := match w.cell? ⟨g, 1, none⟩ with
  | some (.int _ z) => z.toNat
  | _ => 0
theorem Rd.place {w : World} {g : Nat} {s : ByteArray} {a : Nat} {bad : Bool} {v : Value} (h : Rd w g s a bad v) : placeOf g w = a := by
  obtain ⟨_, c1, _⟩ := cells4 h
  unfold placeOf
  rw [c1]
  simp

theorem drop_at4 (s : ByteArray) (k : Nat) (h : k < s.size) : s.data.toList.drop k = s[k] :: s.data.toList.drop (k + 1) := by
  rw [List.drop_eq_getElem_cons (by simpa using h)]; rfl
theorem close_stop (s : ByteArray) (k : Nat) (h : k < s.size) (e : s[k].toNat = 93) : Pp.close (s.data.toList.drop k) k = k := by
  have : s[k] = 93 := UInt8.toNat_inj.1 (by rw [e]; rfl)
  rw [drop_at4 s k h, Pp.close, if_pos this]
theorem close_go (s : ByteArray) (k : Nat) (h : k < s.size) (e : s[k].toNat ≠ 93) : Pp.close (s.data.toList.drop k) k = Pp.close (s.data.toList.drop (k + 1)) (k + 1) := by
  have : ¬ s[k] = 93 := by intro e2; apply e; rw [e2]; rfl
  rw [drop_at4 s k h, Pp.close, if_neg this]
theorem close_end (s : ByteArray) (k : Nat) (h : k = s.size) : Pp.close (s.data.toList.drop k) k = k := by
  rw [List.drop_of_length_le (by simp; omega), Pp.close]

/-- What comes of a set whose signs begin at b. -/
def SetPost (B g b n op : Nat) (s : ByteArray) (v : Value) (cs : List Value) (w : World) (r : Ending) (w' : World) : Prop :=
  ((Pp.close (s.data.toList.drop b) b = s.size ∨ Pp.close (s.data.toList.drop b) b = b) ∧ r = .returned (.int .i64 0) ∧ (∃ a', a' ≤ s.size ∧ Rd w' g s a' true v) ∧ PR B w' v n cs ∧ Fr g v w w') ∨
  (b < Pp.close (s.data.toList.drop b) b ∧ Pp.close (s.data.toList.drop b) b < s.size ∧ r = .returned (.int .i64 (n : Int)) ∧ ∃ v', Rd w' g s (Pp.close (s.data.toList.drop b) b + 1) (decide (60 < n + 1)) v' ∧
    PR B w' v' (n + 1) (cs ++ [.int .i64 (op : Int), .string (s.extract b (Pp.close (s.data.toList.drop b) b)), .slice none 0 0]) ∧ Fr g v w w' ∧ ∀ q, v'.ownBlock = some q → v.ownBlock = some q ∨ w.heap.size ≤ q)

set_option maxHeartbeats 4000000 in
set_option maxRecDepth 100000 in
/-- A set, from its opening sign on. -/
theorem rdSet_any (B g a n : Nat) (s : ByteArray) (v : Value) (cs : List Value) (w : World) (h : Rd w g s a false v) (hp : PR B w v n cs) (hn : n ≤ 60) (hg : g < B) (hB : B ≤ w.heap.size) (ha : a < s.size) (hs : s.size ≤ 24) :
    Calls Try.prog 82 #[.pointer (some ⟨g, 0, none⟩)] w fun e w' =>
      if s.data.toList[a + 1]? = some 94 then SetPost B g (a + 2) n 4 s v cs w e w' else SetPost B g (a + 1) n 3 s v cs w e w' := by
  obtain ⟨c0, c1, c2, c3, f0, f1, f2, f3⟩ := cells4 h
  have R1 := h.at ((a : Int) + 1) (a + 1) (by omega)
  have P1 := hp.set hg 1 (.int .i64 ((a : Int) + 1))
  have HF1 : Hid (Fr g v w (w.setCell ⟨g, 1, none⟩ (.int .i64 ((a : Int) + 1)))) := (Fr.refl g v w).store 1 _
  have hB1 : B ≤ (w.setCell ⟨g, 1, none⟩ (.int .i64 ((a : Int) + 1))).heap.size := by simpa [World.setCell] using hB
  have HP1 : Hid (PR B (w.setCell ⟨g, 1, none⟩ (.int .i64 ((a : Int) + 1))) v n cs) := P1
  have CI : Hid (Calls Try.prog 46 #[.pointer (some ⟨g, 0, none⟩), .int .u8 94] (w.setCell ⟨g, 1, none⟩ (.int .i64 ((a : Int) + 1))) fun e w' =>
      e = .returned (.bool (decide (s.data.toList[a + 1]? = some 94))) ∧ ∃ k, w' = (w.setCell ⟨g, 1, none⟩ (.int .i64 ((a : Int) + 1))).drewN k) := rdIs_any g (a + 1) 94 s false v _ R1 (by omega) (by decide)
  have HR1 : Hid (Rd (w.setCell ⟨g, 1, none⟩ (.int .i64 ((a : Int) + 1))) g s (a + 1) false v) := R1
  clear R1 P1 h hp
  by_cases hneg : s.data.toList[a + 1]? = some 94
  · simp only [if_pos hneg]
    have hlt2 : a + 1 < s.size := by
      have := (List.getElem?_eq_some_iff.1 hneg).1
      simpa using this
    rw [decide_eq_true hneg] at CI
    clear hneg
    go_enter Try.func82, Try.ntmps82
    go_wp2_with fail
    refine CI.out.mono ?_
    rintro e w1 ⟨rfl, kd, rfl⟩
    clear CI
    obtain ⟨w1, hw1⟩ : ∃ w1, w1 = (w.setCell ⟨g, 1, none⟩ (.int .i64 ((a : Int) + 1))).drewN kd := ⟨_, rfl⟩
    have R1 : Rd w1 g s (a + 1) false v := by rw [hw1]; exact HR1.out.draw kd
    have P1 : PR B w1 v n cs := by rw [hw1]; exact HP1.out
    have F1 : Fr g v w w1 := by rw [hw1]; exact HF1.out.draw kd
    have hB2 : B ≤ w1.heap.size := by rw [hw1]; exact hB1
    rw [← hw1]
    clear hw1 HR1 HP1 HF1 hB1 c0 c1 c2 c3 f0 f1 f2 f3
    obtain ⟨c0, c1, c2, c3, f0, f1, f2, f3⟩ := cells4 R1
    have R2 := R1.at ((a : Int) + 1 + 1) (a + 2) (by omega)
    have P2 := P1.set hg 1 (.int .i64 ((a : Int) + 1 + 1))
    have F2 := F1.store 1 (.int .i64 ((a : Int) + 1 + 1))
    obtain ⟨wb, hwb⟩ : ∃ wb, wb = w1.setCell ⟨g, 1, none⟩ (.int .i64 ((a : Int) + 1 + 1)) := ⟨_, rfl⟩
    rw [← hwb] at R2 P2 F2
    have hB3 : B ≤ wb.heap.size := by have := F2.1; omega
    have HF2 : Hid (Fr g v w wb) := F2
    go_wp2_with fail
    try rw [← hwb]
    clear hwb F2
    go_loopw [] (fun wr => ∃ k : Nat, Rd wr g s k false v ∧ PR B wr v n cs ∧ a + 2 ≤ k ∧ k ≤ s.size ∧ Hid (Fr g v w wr) ∧ Hid (Pp.close (s.data.toList.drop k) k = Pp.close (s.data.toList.drop (a + 2)) (a + 2))) (fun wr => s.size - placeOf g wr)
    case atStart => exact ⟨a + 2, R2, P2, Nat.le_refl _, by omega, HF2.out, rfl⟩
    case round =>
      clear R2 P2 HF2 hB3 R1 P1 F1 hB2 c0 c1 c2 c3 f0 f1 f2 f3
      obtain ⟨k, RR, PP, hbk, hks, HF, HC⟩ := hrel
      have hBr : B ≤ wr.heap.size := by have := HF.out.1; omega
      have hpl := RR.place
      obtain ⟨c0, c1, c2, c3, f0, f1, f2, f3⟩ := cells4 RR
      by_cases hgo : ∃ hk : k < s.size, s[k].toNat ≠ 93
      · obtain ⟨hk, hne⟩ := hgo
        have d1 : decide ((k : Int) < (s.size : Int)) = true := by simp; omega
        have hi : (k : Int) < (s.size : Int) := by omega
        have h256 : s[k].toNat < 256 := s[k].toNat_lt
        have d2 : ((s[k].toNat : Int) != 93) = true := by simp; omega
        have HC2 : Hid (Pp.close (s.data.toList.drop (k + 1)) (k + 1) = Pp.close (s.data.toList.drop (a + 2)) (a + 2)) := by
          have := HC.out
          rw [close_go s k hk hne] at this
          exact this
        clear hne
        go_wp2_with fail
        go_quiet (fail)
        go_wp2
        go_roundw
        case rel => exact ⟨k + 1, (RR.draw _).at _ (k + 1) (by omega), PR.set (B := B) (w := wr.drewN _) PP hg 1 _, by omega, by omega, (HF.out.draw _).store 1 _, HC2.out⟩
        case measure => rw [((RR.draw _).at _ (k + 1) (by omega)).place]; omega
      · have hE : Pp.close (s.data.toList.drop (a + 2)) (a + 2) = k := by
          rw [← HC.out]
          by_cases hk : k < s.size
          · refine close_stop s k hk ?_
            by_cases e : s[k].toNat = 93
            · exact e
            · exact absurd ⟨hk, e⟩ hgo
          · exact close_end s k (by omega)
        have HE : Hid (Pp.close (s.data.toList.drop (a + 2)) (a + 2) = k) := hE
        clear HC hE
        by_cases hk : k < s.size
        · have h93 : s[k].toNat = 93 := by
            by_cases e : s[k].toNat = 93
            · exact e
            · exact absurd ⟨hk, e⟩ hgo
          have d1 : decide ((k : Int) < (s.size : Int)) = true := by simp; omega
          have hi : (k : Int) < (s.size : Int) := by omega
          have d2 : ((s[k].toNat : Int) != 93) = false := by simp; omega
          have d3 : ((k : Int) == (s.size : Int)) = false := by simp; omega
          clear hgo h93
          by_cases hkb : k = a + 2
          · have d4 : ((k : Int) == ((a : Int) + 1 + 1)) = true := by simp; omega
            have HKB : Hid (k = a + 2) := hkb
            clear hkb
            go_wp2_with fail
            go_quiet (fail)
            go_wp2_with fail
            go_quiet (fail)
            go_wp2
            go_ret
            exact .inl ⟨.inr (by rw [HE.out]; exact HKB.out), rfl, ⟨k, by omega, Rd.bad (Rd.draw RR _)⟩, PR.set (B := B) (w := wr.drewN _) PP hg 2 _, Fr.store (Fr.draw HF.out _) 2 _⟩
          · have d4 : ((k : Int) == ((a : Int) + 1 + 1)) = false := by simp; omega
            have hbi : ((a : Int) + 1 + 1) ≤ (k : Int) := by omega
            go_wp2_with fail
            go_quiet (fail)
            go_wp2_with fail
            go_quiet (fail)
            go_wp2_with fail
            go_quiet (fail)
            go_wp2_with fail
            refine (rdPut_any B g (k + 1) n 4 s (s.extract (a + 2) k) v cs none 0 0 false _ (Rd.at (Rd.draw RR _) _ (k + 1) (by omega)) (PR.set (B := B) (w := wr.drewN _) PP hg 1 _) (by omega) hg (by simpa [World.setCell] using hBr)).mono ?_
            rintro e w5 ⟨v5, rfl, r5, p5, s5, h5, q5, n5⟩
            have F5 : Fr g v w w5 := (Fr.store (Fr.draw HF.out _) 1 _).next ⟨s5, h5, n5⟩
            go_wp2
            go_ret
            refine .inr ⟨by rw [HE.out]; omega, by rw [HE.out]; omega, rfl, v5, ?_, ?_, F5, fun q e => (q5 q e).imp id (fun hh => Nat.le_trans HF.out.1 (by simpa [World.setCell] using hh))⟩
            · rw [HE.out]; simpa using r5
            · rw [HE.out]; exact p5
        · have d1 : decide ((k : Int) < (s.size : Int)) = false := by simp; omega
          have d3 : ((k : Int) == (s.size : Int)) = true := by simp; omega
          clear hgo
          go_wp2_with fail
          go_quiet (fail)
          go_wp2_with fail
          go_quiet (fail)
          go_wp2
          go_ret
          exact .inl ⟨.inl (by rw [HE.out]; omega), rfl, ⟨k, by omega, Rd.bad (Rd.draw RR _)⟩, PR.set (B := B) (w := wr.drewN _) PP hg 2 _, Fr.store (Fr.draw HF.out _) 2 _⟩
  · simp only [if_neg hneg]
    rw [decide_eq_false hneg] at CI
    clear hneg
    go_enter Try.func82, Try.ntmps82
    go_wp2_with fail
    refine CI.out.mono ?_
    rintro e w1 ⟨rfl, kd, rfl⟩
    clear CI
    obtain ⟨w1, hw1⟩ : ∃ w1, w1 = (w.setCell ⟨g, 1, none⟩ (.int .i64 ((a : Int) + 1))).drewN kd := ⟨_, rfl⟩
    have R1 : Rd w1 g s (a + 1) false v := by rw [hw1]; exact HR1.out.draw kd
    have P1 : PR B w1 v n cs := by rw [hw1]; exact HP1.out
    have F1 : Fr g v w w1 := by rw [hw1]; exact HF1.out.draw kd
    have hB2 : B ≤ w1.heap.size := by rw [hw1]; exact hB1
    rw [← hw1]
    clear hw1 HR1 HP1 HF1 hB1 c0 c1 c2 c3 f0 f1 f2 f3
    obtain ⟨c0, c1, c2, c3, f0, f1, f2, f3⟩ := cells4 R1
    have R2 := R1
    have P2 := P1
    have F2 := F1
    obtain ⟨wb, hwb⟩ : ∃ wb, wb = w1 := ⟨_, rfl⟩
    rw [← hwb] at R2 P2 F2
    have hB3 : B ≤ wb.heap.size := by have := F2.1; omega
    have HF2 : Hid (Fr g v w wb) := F2
    go_wp2_with fail
    try rw [← hwb]
    clear hwb F2
    go_loopw [] (fun wr => ∃ k : Nat, Rd wr g s k false v ∧ PR B wr v n cs ∧ a + 1 ≤ k ∧ k ≤ s.size ∧ Hid (Fr g v w wr) ∧ Hid (Pp.close (s.data.toList.drop k) k = Pp.close (s.data.toList.drop (a + 1)) (a + 1))) (fun wr => s.size - placeOf g wr)
    case atStart => exact ⟨a + 1, R2, P2, Nat.le_refl _, by omega, HF2.out, rfl⟩
    case round =>
      clear R2 P2 HF2 hB3 R1 P1 F1 hB2 c0 c1 c2 c3 f0 f1 f2 f3
      obtain ⟨k, RR, PP, hbk, hks, HF, HC⟩ := hrel
      have hBr : B ≤ wr.heap.size := by have := HF.out.1; omega
      have hpl := RR.place
      obtain ⟨c0, c1, c2, c3, f0, f1, f2, f3⟩ := cells4 RR
      by_cases hgo : ∃ hk : k < s.size, s[k].toNat ≠ 93
      · obtain ⟨hk, hne⟩ := hgo
        have d1 : decide ((k : Int) < (s.size : Int)) = true := by simp; omega
        have hi : (k : Int) < (s.size : Int) := by omega
        have h256 : s[k].toNat < 256 := s[k].toNat_lt
        have d2 : ((s[k].toNat : Int) != 93) = true := by simp; omega
        have HC2 : Hid (Pp.close (s.data.toList.drop (k + 1)) (k + 1) = Pp.close (s.data.toList.drop (a + 1)) (a + 1)) := by
          have := HC.out
          rw [close_go s k hk hne] at this
          exact this
        clear hne
        go_wp2_with fail
        go_quiet (fail)
        go_wp2
        go_roundw
        case rel => exact ⟨k + 1, (RR.draw _).at _ (k + 1) (by omega), PR.set (B := B) (w := wr.drewN _) PP hg 1 _, by omega, by omega, (HF.out.draw _).store 1 _, HC2.out⟩
        case measure => rw [((RR.draw _).at _ (k + 1) (by omega)).place]; omega
      · have hE : Pp.close (s.data.toList.drop (a + 1)) (a + 1) = k := by
          rw [← HC.out]
          by_cases hk : k < s.size
          · refine close_stop s k hk ?_
            by_cases e : s[k].toNat = 93
            · exact e
            · exact absurd ⟨hk, e⟩ hgo
          · exact close_end s k (by omega)
        have HE : Hid (Pp.close (s.data.toList.drop (a + 1)) (a + 1) = k) := hE
        clear HC hE
        by_cases hk : k < s.size
        · have h93 : s[k].toNat = 93 := by
            by_cases e : s[k].toNat = 93
            · exact e
            · exact absurd ⟨hk, e⟩ hgo
          have d1 : decide ((k : Int) < (s.size : Int)) = true := by simp; omega
          have hi : (k : Int) < (s.size : Int) := by omega
          have d2 : ((s[k].toNat : Int) != 93) = false := by simp; omega
          have d3 : ((k : Int) == (s.size : Int)) = false := by simp; omega
          clear hgo h93
          by_cases hkb : k = a + 1
          · have d4 : ((k : Int) == ((a : Int) + 1)) = true := by simp; omega
            have HKB : Hid (k = a + 1) := hkb
            clear hkb
            go_wp2_with fail
            go_quiet (fail)
            go_wp2_with fail
            go_quiet (fail)
            go_wp2
            go_ret
            exact .inl ⟨.inr (by rw [HE.out]; exact HKB.out), rfl, ⟨k, by omega, Rd.bad (Rd.draw RR _)⟩, PR.set (B := B) (w := wr.drewN _) PP hg 2 _, Fr.store (Fr.draw HF.out _) 2 _⟩
          · have d4 : ((k : Int) == ((a : Int) + 1)) = false := by simp; omega
            have hbi : ((a : Int) + 1) ≤ (k : Int) := by omega
            go_wp2_with fail
            go_quiet (fail)
            go_wp2_with fail
            go_quiet (fail)
            go_wp2_with fail
            go_quiet (fail)
            go_wp2_with fail
            refine (rdPut_any B g (k + 1) n 3 s (s.extract (a + 1) k) v cs none 0 0 false _ (Rd.at (Rd.draw RR _) _ (k + 1) (by omega)) (PR.set (B := B) (w := wr.drewN _) PP hg 1 _) (by omega) hg (by simpa [World.setCell] using hBr)).mono ?_
            rintro e w5 ⟨v5, rfl, r5, p5, s5, h5, q5, n5⟩
            have F5 : Fr g v w w5 := (Fr.store (Fr.draw HF.out _) 1 _).next ⟨s5, h5, n5⟩
            go_wp2
            go_ret
            refine .inr ⟨by rw [HE.out]; omega, by rw [HE.out]; omega, rfl, v5, ?_, ?_, F5, fun q e => (q5 q e).imp id (fun hh => Nat.le_trans HF.out.1 (by simpa [World.setCell] using hh))⟩
            · rw [HE.out]; simpa using r5
            · rw [HE.out]; exact p5
        · have d1 : decide ((k : Int) < (s.size : Int)) = false := by simp; omega
          have d3 : ((k : Int) == (s.size : Int)) = true := by simp; omega
          clear hgo
          go_wp2_with fail
          go_quiet (fail)
          go_wp2_with fail
          go_quiet (fail)
          go_wp2
          go_ret
          exact .inl ⟨.inl (by rw [HE.out]; omega), rfl, ⟨k, by omega, Rd.bad (Rd.draw RR _)⟩, PR.set (B := B) (w := wr.drewN _) PP hg 2 _, Fr.store (Fr.draw HF.out _) 2 _⟩
end PartRdD
section PartRdE
open Go.RowKit

def Pp.no : Pp.Pc := ⟨0, [], []⟩
/-- A piece's kids: nothing, or the slice of a block of their own. -/
def kvOf (q : Nat) (ks : List Nat) : Value := if ks = [] then .slice none 0 0 else .slice (some ⟨q, 0, none⟩) ks.length ks.length
/-- The row v, in memory from block B on, holds the pieces ps; each piece's kids lie in a block of their own. -/
def RP (B : Nat) (w : World) (v : Value) (ps : List Pp.Pc) : Prop := ∃ (Q : Nat → Nat) (cs : List Value), PR B w v ps.length cs ∧
  (∀ i, i < ps.length → cs[i * 3]? = some (.int .i64 ((ps.getD i Pp.no).op : Int)) ∧ cs[i * 3 + 1]? = some (.string ⟨(ps.getD i Pp.no).text.toArray⟩) ∧ cs[i * 3 + 2]? = some (kvOf (Q i) (ps.getD i Pp.no).kids) ∧
    ((ps.getD i Pp.no).kids ≠ [] → B ≤ Q i ∧ v.ownBlock ≠ some (Q i) ∧ KidsBlk w (Q i) ((ps.getD i Pp.no).kids.map Int.ofNat))) ∧
  ∀ i j, i < j → j < ps.length → (ps.getD i Pp.no).kids ≠ [] → (ps.getD j Pp.no).kids ≠ [] → Q i < Q j

theorem PR.keep {B : Nat} {w w' : World} {v : Value} {n : Nat} {cs : List Value} (h : PR B w v n cs) (hb : ∀ q, v.ownBlock = some q → w'.heap[q]? = w.heap[q]?) : PR B w' v n cs := by
  refine ⟨h.1, ?_⟩
  rcases h.2 with hn | ⟨g, cap, cur, rfl, h1, hg, rest⟩
  · exact .inl hn
  · refine .inr ⟨g, cap, cur, rfl, h1, ?_, rest⟩
    rw [hb g rfl]
    exact hg
theorem PR.len {B : Nat} {w : World} {v : Value} {n : Nat} {cs : List Value} (h : PR B w v n cs) : cs.length = n * 3 := h.1

/-- What is done elsewhere leaves the pieces as they were. -/
theorem RP.keep {B : Nat} {w w' : World} {v : Value} {ps : List Pp.Pc} (h : RP B w v ps) (hb : ∀ q, B ≤ q → q < w.heap.size → w'.heap[q]? = w.heap[q]?) : RP B w' v ps := by
  obtain ⟨Q, cs, hp, hc, hm⟩ := h
  refine ⟨Q, cs, hp.keep fun q e => ?_, fun i hi => ?_, hm⟩
  · have := World.ownsRow.lt hp q e
    exact hb q this.1 this.2
  · obtain ⟨h1, h2, h3, h4⟩ := hc i hi
    refine ⟨h1, h2, h3, fun hne => ?_⟩
    obtain ⟨k1, k2, k3⟩ := h4 hne
    exact ⟨k1, k2, (hb _ k1 (blk_lt k3)).trans k3⟩
theorem RP.up {B : Nat} {w w' : World} {v : Value} {ps : List Pp.Pc} (h : RP B w v ps) (hb : Below w.heap.size w w') : RP B w' v ps := h.keep fun q _ hq => hb.block q hq
theorem RP.pr {B : Nat} {w : World} {v : Value} {ps : List Pp.Pc} (h : RP B w v ps) : ∃ cs, PR B w v ps.length cs := by obtain ⟨_, cs, hp, _⟩ := h; exact ⟨cs, hp⟩

theorem getD_push (ps : List Pp.Pc) (p : Pp.Pc) (i : Nat) : (ps ++ [p]).getD i Pp.no = if i < ps.length then ps.getD i Pp.no else if i = ps.length then p else Pp.no := by
  by_cases h : i < ps.length
  · simp [List.getElem?_append_left, h]
  · rw [if_neg h]
    by_cases h2 : i = ps.length
    · subst h2; simp
    · rw [if_neg h2]
      simp only [List.getD_eq_getElem?_getD]
      rw [List.getElem?_eq_none (by simp; omega)]
      rfl

/-- One piece more; q: the block of its kids, newer than all that was there. -/
theorem RP.put {B g q : Nat} {w0 w w' : World} {v v' : Value} {ps : List Pp.Pc} {p : Pp.Pc} {cs cs' : List Value} (h : RP B w0 v ps) (hb : Below w0.heap.size w0 w) (hq : p.kids ≠ [] → w0.heap.size ≤ q ∧ q < w.heap.size ∧ KidsBlk w q (p.kids.map Int.ofNat))
    (hg : g < B) (hB : B ≤ w0.heap.size) (hcs : PR B w v ps.length cs) (hp : PR B w' v' (ps.length + 1) cs') (he : cs' = cs ++ [.int .i64 (p.op : Int), .string ⟨p.text.toArray⟩, kvOf q p.kids]) (hcs0 : ∀ cs0, PR B w0 v ps.length cs0 → cs0 = cs)
    (hf : ∀ k, k < w.heap.size → k ≠ g → v.ownBlock ≠ some k → w'.heap[k]? = w.heap[k]?) (ho : ∀ q, v'.ownBlock = some q → v.ownBlock = some q ∨ w.heap.size ≤ q) : RP B w' v' (ps ++ [p]) := by
  obtain ⟨Q, cs1, hp1, hc, hm⟩ := h
  obtain rfl := hcs0 cs1 hp1
  have hlen := hcs.len
  subst he
  have hw0 := hb.size
  have hlt : ∀ i, i < ps.length → (ps.getD i Pp.no).kids ≠ [] → Q i < w0.heap.size := fun i hi hne => blk_lt ((hc i hi).2.2.2 hne).2.2
  refine ⟨fun i => if i = ps.length then q else Q i, _, by simpa using hp, fun i hi => ?_, fun i j hij hj hi1 hj1 => ?_⟩
  · rw [getD_push]
    by_cases h : i < ps.length
    · rw [if_pos h]
      simp only [if_neg (show ¬ i = ps.length by omega)]
      obtain ⟨h1, h2, h3, h4⟩ := hc i h
      refine ⟨by rw [List.getElem?_append_left (by omega)]; exact h1, by rw [List.getElem?_append_left (by omega)]; exact h2, by rw [List.getElem?_append_left (by omega)]; exact h3, fun hne => ?_⟩
      obtain ⟨k1, k2, k3⟩ := h4 hne
      have hl := hlt i h hne
      refine ⟨k1, fun e => ?_, ?_⟩
      · rcases ho _ e with e2 | e2
        · exact k2 e2
        · omega
      · exact (hf (Q i) (by omega) (by omega) k2).trans ((hb.block _ hl).trans k3)
    · have hi2 : i = ps.length := by simp at hi; omega
      subst hi2
      simp only [if_neg h, ↓reduceIte]
      refine ⟨?_, ?_, ?_, fun hne => ?_⟩
      · rw [List.getElem?_append_right (by omega), hlen, Nat.sub_self]; rfl
      · rw [List.getElem?_append_right (by omega), hlen, Nat.add_sub_cancel_left]; rfl
      · rw [List.getElem?_append_right (by omega), hlen, Nat.add_sub_cancel_left]; rfl
      · obtain ⟨k1, k2, k3⟩ := hq hne
        have hvq : v.ownBlock ≠ some q := by
          intro e
          have := (World.ownsRow.lt hp1 q e).2
          omega
        refine ⟨by omega, fun e => ?_, ?_⟩
        · rcases ho _ e with e2 | e2
          · exact hvq e2
          · omega
        · exact (hf q k2 (by omega) hvq).trans k3
  · rw [getD_push] at hi1 hj1
    simp at hj
    have hi : i < ps.length := by omega
    rw [if_pos hi] at hi1
    simp only [if_neg (show ¬ i = ps.length by omega)]
    by_cases hj2 : j < ps.length
    · rw [if_pos hj2] at hj1
      simp only [if_neg (show ¬ j = ps.length by omega)]
      exact hm i j hij hj2 hi1 hj1
    · have hj3 : j = ps.length := by omega
      subst hj3
      simp only [if_neg hj2, ↓reduceIte] at hj1 ⊢
      have := hlt i hi hi1
      have := (hq hj1).1
      omega

/-- What may have changed: the reader itself, and what lies from block B on. -/
def FB (g B : Nat) (w w' : World) : Prop := w.heap.size ≤ w'.heap.size ∧ (∀ k, k < B → k ≠ g → w'.heap[k]? = w.heap[k]?) ∧ Env w w'
theorem FB.refl (g B : Nat) (w : World) : FB g B w w := ⟨Nat.le_refl _, fun _ _ _ => rfl, rfl, rfl, rfl⟩
theorem FB.trans {g B : Nat} {w w1 w2 : World} (h1 : FB g B w w1) (h2 : FB g B w1 w2) : FB g B w w2 := ⟨Nat.le_trans h1.1 h2.1, fun k hk hg => (h2.2.1 k hk hg).trans (h1.2.1 k hk hg), h2.2.2.1.trans h1.2.2.1, h2.2.2.2.1.trans h1.2.2.2.1, h2.2.2.2.2.trans h1.2.2.2.2⟩
theorem FB.of {g B : Nat} {w w' : World} (h : Below B w w') : FB g B w w' := ⟨h.size, fun k hk _ => h.block k hk, h.os, h.tape, h.output⟩
theorem FB.fr {g B : Nat} {v : Value} {n : Nat} {cs : List Value} {w w' : World} (h : Fr g v w w') (hp : PR B w v n cs) (hB : B ≤ w.heap.size) : FB g B w w' :=
  ⟨h.1, fun k hk hg => h.2.1 k (by omega) hg (fun e => by have := (World.ownsRow.lt hp k e).1; omega), h.2.2⟩

/-- What a part of the reader leaves, where R is what it should tell. -/
def RdPost (B g : Nat) (s : ByteArray) (w : World) (N : Nat) (R : Option (Nat × List Pp.Pc × Nat)) (e : Ending) (w' : World) : Prop :=
  FB g B w w' ∧ match R with
  | none => ∃ (k : Int) (a' : Nat) (v' : Value) (n' : Nat) (cs' : List Value), e = .returned (.int .i64 k) ∧ a' ≤ s.size ∧ Rd w' g s a' true v' ∧ PR B w' v' n' cs' ∧ n' ≤ N
  | some (a', o, k) => e = .returned (.int .i64 (k : Int)) ∧ a' ≤ s.size ∧ o.length ≤ 60 ∧ ∃ v', Rd w' g s a' false v' ∧ RP B w' v' o

theorem PR.unique {B : Nat} {w w' : World} {v : Value} {n : Nat} {cs cs' : List Value} (h : PR B w v n cs) (h' : PR B w' v n cs') (hb : ∀ q, v.ownBlock = some q → w'.heap[q]? = w.heap[q]?) : cs = cs' := by
  rcases h.2 with ⟨hv, hn⟩ | ⟨g, cap, cur, hv, h1, hg, rest⟩
  · have e1 : cs.length = n * 3 := h.len
    have e2 : cs'.length = n * 3 := h'.len
    subst hn
    rw [List.eq_nil_of_length_eq_zero (l := cs) (by omega), List.eq_nil_of_length_eq_zero (l := cs') (by omega)]
  · subst hv
    have e1 : cs.length = n * 3 := h.len
    have e2 : cs'.length = n * 3 := h'.len
    have hk := hb g rfl
    apply List.ext_getElem? 
    intro i
    by_cases hi : i < n * 3
    · rw [← World.ownsRow.cellAt h i hi, ← World.ownsRow.cellAt h' i hi]
      simp [World.cell?, hk]
    · rw [List.getElem?_eq_none (by omega), List.getElem?_eq_none (by omega)]

/-- One piece more. w0: the world ahead of its kids. -/
theorem rdPutP (B g a q : Nat) (s : ByteArray) (v : Value) (ps : List Pp.Pc) (p : Pp.Pc) (w0 w : World) (h : Rd w g s a false v) (hr : RP B w0 v ps) (hb : Below w0.heap.size w0 w) (hg : g < B) (hB : B ≤ w0.heap.size) (ha : a ≤ s.size) (hn : ps.length ≤ 60)
    (hq : p.kids ≠ [] → w0.heap.size ≤ q ∧ q < w.heap.size ∧ KidsBlk w q (p.kids.map Int.ofNat)) :
    Calls Try.prog 47 #[.pointer (some ⟨g, 0, none⟩), .agg #[.int .i64 (p.op : Int), .string ⟨p.text.toArray⟩, kvOf q p.kids]] w (RdPost B g s w 61 ((Pp.put ps p).map fun (o, k) => (a, o, k))) := by
  obtain ⟨cs, hp⟩ := (hr.up hb).pr
  have hsz := hb.size
  obtain ⟨ka, kl, kc, hkv⟩ : ∃ ka kl kc, kvOf q p.kids = .slice ka kl kc := by
    unfold kvOf
    split
    · exact ⟨_, _, _, rfl⟩
    · exact ⟨_, _, _, rfl⟩
  rw [hkv]
  refine (rdPut_any B g a ps.length p.op s ⟨p.text.toArray⟩ v cs ka kl kc false w h hp (by omega) hg (by omega)).mono ?_
  rintro e w' ⟨v', rfl, hR, hP, hs, hf, ho, hen⟩
  refine ⟨FB.fr ⟨hs, hf, hen⟩ hp (by omega), ?_⟩
  by_cases h60 : 60 < ps.length + 1
  · simp only [Pp.put, if_pos h60, Option.map_none]
    simp only [h60, decide_true, Bool.or_true] at hR
    exact ⟨_, a, v', _, _, rfl, ha, hR, hP, by omega⟩
  · simp only [Pp.put, if_neg h60, Option.map_some]
    simp only [h60, decide_false, Bool.or_false] at hR
    refine ⟨trivial, ha, by simp; omega, v', hR, hr.put hb hq hg hB hp hP (by rw [hkv]) (fun cs0 h0 => ?_) hf ho⟩
    exact h0.unique hp fun q' e => hb.block q' (World.ownsRow.lt h0 q' e).2
end PartRdE
end Go.Proofs.Ytibmagmdeacenac
