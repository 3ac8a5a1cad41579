/- What is read of the bytes of a store, in two cases. What is read of the bytes of a store: the program's reader goes on where something is wrong; rows that grow within a region that draws its order. The contract of the library's IndexByte, laid at this program; Index and Cut at one byte. The library's IndexRune and ContainsRune, where what is searched has bytes below 128 alone. -/
import Derived.Test.YtmofljfffcnlbaaMPSxRvH
import Derived.Shelf.Strings.Search1
import Derived.Test.YtmofljfffcnlbaaProg
import Derived.WalkKit
import Derived.WalkSpells
import Derived.WalkLawsBesides
import Derived.Handy
import Derived.Lib.Strings
import Derived.Lib.IndexLaws
import Derived.BigQuiet
import Derived.Deep.QuietTactic
import Derived.OwnWalk
import Derived.Laws.Runes
import Derived.Laws.RangeAny
import Derived.LoopTactic
namespace Go.Proofs.Ytmofljfffcnlbaa
section PartRvF
open Go.RowKit

theorem Rs.isOf_one9 {L : List UInt8} {vs us : List Vr} {cs ds : List Cl} {o p : ByteArray} (h1 : Rs.isOf L vs cs o) (h2 : Rs.isOf L us ds p) : us = vs ∧ ds = cs ∧ p = o := by
  have sm : ∀ {vs : List Vr} {cs : List Cl} {o : ByteArray}, Rs.isOf L vs cs o → StSmall vs cs o := fun {vs cs o} h => by
    obtain ⟨s1, s2, s3, s4, s5⟩ := St.ok_sizes h.1
    refine ⟨by omega, fun i hi => ?_, by omega, fun i hi => ?_, by omega⟩
    · have := s4 i hi; omega
    · have := s5 i hi; omega
  obtain ⟨e1, e2, e3⟩ := St.bytes_free (sm h2) (sm h1) (h2.2.trans h1.2.symm)
  exact ⟨e1, e2, e3⟩
theorem Rs.isOf_small {L : List UInt8} {vs : List Vr} {cs : List Cl} {o : ByteArray} (h : Rs.isOf L vs cs o) : StSmall vs cs o := by
  obtain ⟨s1, s2, s3, s4, s5⟩ := St.ok_sizes h.1
  refine ⟨by omega, fun i hi => ?_, by omega, fun i hi => ?_, by omega⟩
  · have := s4 i hi; omega
  · have := s5 i hi; omega
/-- These bytes are those of a store: whoever reads them gets it. -/
theorem rd_yes {L : List UInt8} {vs : List Vr} {cs : List Cl} {o : ByteArray} (hi : Rs.isOf L vs cs o) {w w' : World} {e : Ending} (h : RdO w w' L e) :
    ∃ va vc ra rc, e = .returned (.tuple #[.agg #[.slice va vs.length vc, .slice ra cs.length rc, .string o], .bool true]) ∧ VrAt w' (.slice va vs.length vc) vs ∧ ClAt w' (.slice ra cs.length rc) cs ∧ Below w.heap.size w w' := by
  obtain ⟨hb, hr⟩ := h.rdS
  rcases hr with ⟨u, x, us, ds, p, h1, rfl, h3, h4⟩ | ⟨h1, -⟩
  · obtain ⟨rfl, rfl, rfl⟩ := Rs.isOf_one9 hi h1
    obtain ⟨va, vc, rfl, -⟩ := id h3
    obtain ⟨ra, rc, rfl, -⟩ := id h4
    exact ⟨va, vc, ra, rc, rfl, h3, h4, hb⟩
  · exact absurd hi (h1 _ _ _)
theorem rd_no {L : List UInt8} (hi : ∀ vs cs o, ¬ Rs.isOf L vs cs o) {w w' : World} {e : Ending} (h : RdO w w' L e) :
    e = .returned (.tuple #[.agg #[.slice none 0 0, .slice none 0 0, .string ⟨#[]⟩], .bool false]) ∧ Below w.heap.size w w' := by
  obtain ⟨hb, hr⟩ := h.rdS
  rcases hr with ⟨u, x, us, ds, p, h1, -⟩ | ⟨-, h2⟩
  · exact absurd h1 (hi _ _ _)
  · exact ⟨h2, hb⟩
end PartRvF
section PartRvJ
open Go.RowKit

namespace Rs
theorem V1.startI {L : List UInt8} {n a : Nat} {bad : Bool} (ha : a ≤ L.length) (h1 : bad = false → Rc.rv L 0 = some (n, a)) (h2 : bad = true → Rc.rv L 0 = none ∨ ∃ m k, Rc.rv L 0 = some (m, k) ∧ 60 < m) : V1 L n 0 a [] bad := by
  refine ⟨rfl, (fun y hy => by cases hy), ha, fun vs0 cs0 o0 h => ?_⟩
  cases bad with
  | false => exact (V1.start ha h1 (fun e => by cases e)).good vs0 cs0 o0 h
  | true =>
    obtain ⟨s1, s2, s3, s4, s5⟩ := St.ok_sizes h.1
    have hd : L.drop 0 = Pl.vb 8 vs0.length ++ (vs0.flatMap St.vbytes ++ (Pl.vb 8 cs0.length ++ (cs0.flatMap St.cbytes ++ Cd.short o0))) := by
      rw [← h.2]; unfold St.bytes; simp only [List.drop_zero, List.append_assoc]
    obtain ⟨e1, e2⟩ := Rc.rv_at hd (by omega)
    rcases h2 rfl with hh | ⟨m, k, hh, hm⟩
    · rw [hh] at e1; cases e1
    · rw [hh] at e1
      simp only [Option.some.injEq, Prod.mk.injEq] at e1
      omega
theorem V1.nextI {L : List UInt8} {n k a a1 a2 : Nat} {vs : List Vr} {b0 b1 b2 : Bool} {t1 t2 : List UInt8} (h : V1 L n k a vs b0) (hk : k < n) (ha : a2 ≤ L.length) (l1 : t1.length ≤ 20000) (l2 : t2.length ≤ 20000)
    (h1 : b1 = false → b0 = false ∧ Rc.rs L a = some (t1, a1)) (h2 : b1 = true → b0 = true ∨ Rc.rs L a = none)
    (h3 : b2 = false → b1 = false ∧ Rc.rs L a1 = some (t2, a2)) (h4 : b2 = true → b1 = true ∨ Rc.rs L a1 = none) :
    V1 L n (k + 1) a2 (vs ++ [⟨⟨t1.toArray⟩, ⟨t2.toArray⟩⟩]) b2 := by
  cases b0 with
  | false => exact h.next hk ha l1 l2 (fun e => (h1 e).2) (fun e => (h2 e).resolve_left (by simp)) h3 h4
  | true =>
    have z : ∀ l : List UInt8, (⟨l.toArray⟩ : ByteArray).size = l.length := fun l => by show l.toArray.size = _; simp
    refine ⟨by rw [List.length_append, h.len]; rfl, fun y hy => ?_, ha, fun vs0 cs0 o0 hi => ?_⟩
    · rcases List.mem_append.1 hy with hy | hy
      · exact h.small y hy
      · simp only [List.mem_singleton] at hy
        subst hy
        exact ⟨by rw [z]; exact l1, by rw [z]; exact l2⟩
    · have := (h.good vs0 cs0 o0 hi).1
      cases this
theorem V1.turnI {L : List UInt8} {n k a n2 a2 : Nat} {vs : List Vr} {bad b2 : Bool} (h : V1 L n k a vs bad) (hx : bad = false → n ≤ 60 → n ≤ k) (ha : a2 ≤ L.length)
    (h1 : b2 = false → bad = false ∧ Rc.rv L a = some (n2, a2)) (h2 : b2 = true → bad = true ∨ Rc.rv L a = none ∨ ∃ m k, Rc.rv L a = some (m, k) ∧ 2000 < m) : V2 L vs n2 0 a2 [] b2 := by
  refine ⟨rfl, (fun y hy => by cases hy), ha, fun vs0 cs0 o0 hi => ?_⟩
  cases b2 with
  | false => exact (h.turn hx ha h1 (fun e => by cases e)).good vs0 cs0 o0 hi
  | true =>
    obtain ⟨hb, hn, hk, hv, hd⟩ := h.good vs0 cs0 o0 hi
    obtain ⟨s1, s2, s3, s4, s5⟩ := St.ok_sizes hi.1
    have hkn : k = vs0.length := by have := hx hb (by omega); omega
    rw [hkn, List.drop_length, List.flatMap_nil, List.nil_append] at hd
    obtain ⟨e1, e2⟩ := Rc.rv_at hd (by omega)
    rcases h2 rfl with hh | hh | ⟨m, k', hh, hm⟩
    · rw [hb] at hh; cases hh
    · rw [hh] at e1; cases e1
    · rw [hh] at e1
      simp only [Option.some.injEq, Prod.mk.injEq] at e1
      omega
theorem V2.nextI {L : List UInt8} {vs : List Vr} {n k a a1 a2 a3 : Nat} {cs : List Cl} {b0 b1 b2 b3 : Bool} {t1 t2 t3 : List UInt8} (h : V2 L vs n k a cs b0) (hk : k < n) (ha : a3 ≤ L.length) (l1 : t1.length ≤ 20000) (l2 : t2.length ≤ 20000) (l3 : t3.length ≤ 20000)
    (h1 : b1 = false → b0 = false ∧ Rc.rs L a = some (t1, a1)) (h2 : b1 = true → b0 = true ∨ Rc.rs L a = none)
    (h3 : b2 = false → b1 = false ∧ Rc.rs L a1 = some (t2, a2)) (h4 : b2 = true → b1 = true ∨ Rc.rs L a1 = none)
    (h5 : b3 = false → b2 = false ∧ Rc.rs L a2 = some (t3, a3)) (h6 : b3 = true → b2 = true ∨ Rc.rs L a2 = none) :
    V2 L vs n (k + 1) a3 (cs ++ [⟨⟨t1.toArray⟩, ⟨t2.toArray⟩, ⟨t3.toArray⟩⟩]) b3 := by
  cases b0 with
  | false => exact h.next hk ha l1 l2 l3 (fun e => (h1 e).2) (fun e => (h2 e).resolve_left (by simp)) h3 h4 h5 h6
  | true =>
    have z : ∀ l : List UInt8, (⟨l.toArray⟩ : ByteArray).size = l.length := fun l => by show l.toArray.size = _; simp
    refine ⟨by rw [List.length_append, h.len]; rfl, fun y hy => ?_, ha, fun vs0 cs0 o0 hi => ?_⟩
    · rcases List.mem_append.1 hy with hy | hy
      · exact h.small y hy
      · simp only [List.mem_singleton] at hy
        subst hy
        exact ⟨by rw [z]; exact l1, by rw [z]; exact l2, by rw [z]; exact l3⟩
    · have := (h.good vs0 cs0 o0 hi).1
      cases this
theorem V2.lastI {L : List UInt8} {vs : List Vr} {n k a a2 : Nat} {cs : List Cl} {bad b2 : Bool} {t : List UInt8} (h : V2 L vs n k a cs bad) (hx : bad = false → n ≤ 2000 → n ≤ k)
    (h1 : b2 = false → bad = false ∧ Rc.rs L a = some (t, a2)) (h2 : b2 = true → bad = true ∨ Rc.rs L a = none) :
    ∀ vs0 cs0 o0, isOf L vs0 cs0 o0 → b2 = false ∧ a2 = L.length := by
  intro vs0 cs0 o0 hi
  obtain ⟨hb, hvs, hn, hk, hv, hd⟩ := h.good vs0 cs0 o0 hi
  obtain ⟨s1, s2, s3, s4, s5⟩ := St.ok_sizes hi.1
  have hkn : k = cs0.length := by have := hx hb (by omega); omega
  rw [hkn, List.drop_length, List.flatMap_nil, List.nil_append] at hd
  have hd' : L.drop a = Cd.short o0 ++ [] := by rw [hd, List.append_nil]
  obtain ⟨e1, e2, e3⟩ := Rc.rs_at hd' (by omega) h.le
  cases b2 with
  | true =>
    rcases h2 rfl with h | h
    · rw [hb] at h; cases h
    · rw [h] at e1; cases e1
  | false =>
    rw [(h1 rfl).2] at e1
    simp only [Option.some.injEq, Prod.mk.injEq] at e1
    obtain ⟨rfl, rfl⟩ := e1
    have := List.drop_eq_nil_iff.1 e2
    exact ⟨rfl, by omega⟩
/-- What is read of Vars is what stands ahead of the place. -/
def P1 (L : List UInt8) (n a : Nat) (vs : List Vr) (bad : Bool) : Prop := bad = false → L.take a = Pl.vb 8 n ++ vs.flatMap St.vbytes
def P2 (L : List UInt8) (vs : List Vr) (n a : Nat) (cs : List Cl) (bad : Bool) : Prop := bad = false → L.take a = Pl.vb 8 vs.length ++ vs.flatMap St.vbytes ++ Pl.vb 8 n ++ cs.flatMap St.cbytes
theorem short_mk (t : List UInt8) : Cd.short ⟨t.toArray⟩ = Pl.vb 8 t.length ++ t := by
  have z : (⟨t.toArray⟩ : ByteArray).size = t.length := by show t.toArray.size = _; simp
  unfold Cd.short
  rw [z]
theorem P1.start {L : List UInt8} {n a : Nat} {bad : Bool} (h1 : bad = false → Rc.rv L 0 = some (n, a)) : P1 L n a [] bad := by
  intro e
  obtain ⟨-, -, h, -⟩ := Rc.rv_bytes (Nat.zero_le _) (h1 e)
  rw [h]
  simp
theorem P1.next {L : List UInt8} {n a a1 a2 : Nat} {vs : List Vr} {b0 b1 b2 : Bool} {t1 t2 : List UInt8} (h : P1 L n a vs b0) (ha : a ≤ L.length)
    (h1 : b1 = false → b0 = false ∧ Rc.rs L a = some (t1, a1)) (h3 : b2 = false → b1 = false ∧ Rc.rs L a1 = some (t2, a2)) : P1 L n a2 (vs ++ [⟨⟨t1.toArray⟩, ⟨t2.toArray⟩⟩]) b2 := by
  intro e
  obtain ⟨e1, r2⟩ := h3 e
  obtain ⟨e0, r1⟩ := h1 e1
  obtain ⟨-, k1, -, g1⟩ := Rc.rs_bytes ha r1
  obtain ⟨-, -, -, g2⟩ := Rc.rs_bytes k1 r2
  rw [g2, g1, h e0, List.flatMap_append]
  simp [St.vbytes, short_mk]
theorem P1.turn {L : List UInt8} {n k a n2 a2 : Nat} {vs : List Vr} {b0 b2 : Bool} (h : P1 L n a vs b0) (ha : a ≤ L.length) (hl : vs.length = k) (hk : k = n) (h1 : b2 = false → b0 = false ∧ Rc.rv L a = some (n2, a2)) : P2 L vs n2 a2 [] b2 := by
  intro e
  obtain ⟨e0, r1⟩ := h1 e
  obtain ⟨-, -, g1, -⟩ := Rc.rv_bytes ha r1
  rw [g1, h e0, hl, hk]
  simp
theorem P2.next {L : List UInt8} {vs : List Vr} {n a a1 a2 a3 : Nat} {cs : List Cl} {b0 b1 b2 b3 : Bool} {t1 t2 t3 : List UInt8} (h : P2 L vs n a cs b0) (ha : a ≤ L.length)
    (h1 : b1 = false → b0 = false ∧ Rc.rs L a = some (t1, a1)) (h3 : b2 = false → b1 = false ∧ Rc.rs L a1 = some (t2, a2)) (h5 : b3 = false → b2 = false ∧ Rc.rs L a2 = some (t3, a3)) :
    P2 L vs n a3 (cs ++ [⟨⟨t1.toArray⟩, ⟨t2.toArray⟩, ⟨t3.toArray⟩⟩]) b3 := by
  intro e
  obtain ⟨e2, r3⟩ := h5 e
  obtain ⟨e1, r2⟩ := h3 e2
  obtain ⟨e0, r1⟩ := h1 e1
  obtain ⟨-, k1, -, g1⟩ := Rc.rs_bytes ha r1
  obtain ⟨-, k2, -, g2⟩ := Rc.rs_bytes k1 r2
  obtain ⟨-, -, -, g3⟩ := Rc.rs_bytes k2 r3
  rw [g3, g2, g1, h e0, List.flatMap_append]
  simp [St.cbytes, short_mk]
/-- All is read, and nothing is left: these are the bytes of what was read. -/
theorem P2.whole {L : List UInt8} {vs : List Vr} {n k a a2 : Nat} {cs : List Cl} {b0 b2 : Bool} {t : List UInt8} (h : P2 L vs n a cs b0) (ha : a ≤ L.length) (hl : cs.length = k) (hk : k = n)
    (h1 : b2 = false → b0 = false ∧ Rc.rs L a = some (t, a2)) (hb : b2 = false) (hw : a2 = L.length) : St.bytes vs cs ⟨t.toArray⟩ = L := by
  obtain ⟨e0, r1⟩ := h1 hb
  obtain ⟨-, -, -, g1⟩ := Rc.rs_bytes ha r1
  rw [hw, List.take_length, h e0] at g1
  rw [g1]
  unfold St.bytes
  rw [short_mk, hl, hk]
end Rs

theorem VrRow.step9 {ops : Array Oper} {o : Oper} {a : Act} {K : Act → World → Prop} {Q : Exit → Act → World → Prop} {E : Prop} {B : Nat} {W : World} {v : Value} {xs : List Vr}
    (hown : VrRow B W v xs) (hgd : o.guard = none) (s x : Operand)
    (ho : o.op = .call { callee := .builtin .append, args := #[s, x], argTypes := #[24, 24] })
    (hs : a.eval s = v) (y : Vr) (q0 : Nat) (hq : W.heap[q0]? = some (.cells #[.string y.name, .string y.val] 47 (0, 0))) (hx : a.eval x = .slice (some ⟨q0, 0, none⟩) 1 1)
    (hlen : xs.length < 2000000) (hB : B ≤ W.heap.size)
    (h : ∀ q cap w', VrRow B w' (.slice (some ⟨q, 0, none⟩) (xs.length + 1) cap) (xs ++ [y]) → W.grownBy w' v.ownBlock → K (a.put o.dst (.slice (some ⟨q, 0, none⟩) (xs.length + 1) cap)) w') :
    if Region.wanted o (yielded ops a.tmps) = true then Oper.wp Try.prog o a W K Q else E := by
  obtain ⟨i0, hi, hy0, hy1, hy2⟩ := info_parts Try.infoVr
  refine step_append_lies _ hgd s x 24 ho B 47 i0 (.agg #[.string ByteArray.empty, .string ByteArray.empty]) 2 32 Try.underlying24 hi hy0 hy1 hy2 rfl (by decide) v xs.length (cellsVr xs) hs hown ⟨q0, 0, none⟩ 1 1 [.string y.name, .string y.val] hx rfl
    (World.news_of_block (cs := #[.string y.name, .string y.val]) hq) ?_ (by omega) ?_ ?_ hB W.heap.size rfl ?_
  · intro u hu
    simp at hu
    rcases hu with rfl | rfl <;> rfl
  · unfold maxLen; omega
  · omega
  · intro q cap w' h2 h3 _ _
    refine h q cap w' ?_ h3
    unfold VrRow cellsVr
    rw [List.flatMap_append, List.length_append]
    exact h2
/-- One Cell more, likewise. -/
theorem ClRow.step9 {ops : Array Oper} {o : Oper} {a : Act} {K : Act → World → Prop} {Q : Exit → Act → World → Prop} {E : Prop} {B : Nat} {W : World} {v : Value} {xs : List Cl}
    (hown : ClRow B W v xs) (hgd : o.guard = none) (s x : Operand)
    (ho : o.op = .call { callee := .builtin .append, args := #[s, x], argTypes := #[25, 25] })
    (hs : a.eval s = v) (y : Cl) (q0 : Nat) (hq : W.heap[q0]? = some (.cells #[.string y.name, .string y.key, .string y.val] 50 (0, 0))) (hx : a.eval x = .slice (some ⟨q0, 0, none⟩) 1 1)
    (hlen : xs.length < 2000000) (hB : B ≤ W.heap.size)
    (h : ∀ q cap w', ClRow B w' (.slice (some ⟨q, 0, none⟩) (xs.length + 1) cap) (xs ++ [y]) → W.grownBy w' v.ownBlock → K (a.put o.dst (.slice (some ⟨q, 0, none⟩) (xs.length + 1) cap)) w') :
    if Region.wanted o (yielded ops a.tmps) = true then Oper.wp Try.prog o a W K Q else E := by
  obtain ⟨i0, hi, hy0, hy1, hy2⟩ := info_parts Try.infoCl
  refine step_append_lies _ hgd s x 25 ho B 50 i0 (.agg #[.string ByteArray.empty, .string ByteArray.empty, .string ByteArray.empty]) 3 48 Try.underlying25 hi hy0 hy1 hy2 rfl (by decide) v xs.length (cellsCl xs) hs hown ⟨q0, 0, none⟩ 1 1 [.string y.name, .string y.key, .string y.val] hx rfl
    (World.news_of_block (cs := #[.string y.name, .string y.key, .string y.val]) hq) ?_ (by omega) ?_ ?_ hB W.heap.size rfl ?_
  · intro u hu
    simp at hu
    rcases hu with rfl | rfl | rfl <;> rfl
  · unfold maxLen; omega
  · omega
  · intro q cap w' h2 h3 _ _
    refine h q cap w' ?_ h3
    unfold ClRow cellsCl
    rw [List.flatMap_append, List.length_append]
    exact h2

set_option maxHeartbeats 800000 in
theorem imWhole9 (g : Nat) (s : ByteArray) (a : Nat) (bad : Bool) (w : World) (h : Br7 w g s a bad) :
    Calls Try.prog 21 #[.pointer (some ⟨g, 0, none⟩)] w fun e w' => e = .returned (.bool (!bad && decide (a = s.size))) ∧ Below w.heap.size w w' := by
  have c0 : w.cell? ⟨g, 0, none⟩ = some (.string s) := (blk_cell h 0).trans rfl
  have c1 : w.cell? ⟨g, 1, none⟩ = some (.int .i64 (a : Int)) := (blk_cell h 1).trans rfl
  have c2 : w.cell? ⟨g, 2, none⟩ = some (.bool bad) := (blk_cell h 2).trans rfl
  clear h
  have hd : ((a : Int) == (s.size : Int)) = decide (a = s.size) := by
    by_cases e : a = s.size
    · subst e; simp
    · rw [decide_eq_false e]; simp; omega
  cases bad with
  | true =>
    go_enter Try.func21, Try.ntmps21
    go_wp2_with fail
    go_quiet (fail)
    go_wp2
    go_ret
    exact ⟨rfl, below_drewN (Below.refl _ _) _⟩
  | false =>
    go_enter Try.func21, Try.ntmps21
    go_wp2_with fail
    go_quiet (fail)
    go_wp2
    go_ret
    exact ⟨rfl, below_drewN (Below.refl _ _) _⟩
end PartRvJ
section PartShelfP
open Go.Shelf
def Try.lays217_ren : Go.Shelf.Ren := ⟨fun | 217 => 73 | 266 => 74 | n => n, fun | 9 => 9 | 5 => 5 | 3 => 3 | n => n, fun | n => n⟩
set_option maxRecDepth 100000 in
theorem Try.lays217 : Go.Proofs.Lays.n217 Try.prog Try.lays217_ren := {
  mixed := by kernel_rfl
  f217 := Try.func73.trans (congrArg some (by kernel_rfl))
  f266 := Try.func74.trans (congrArg some (by kernel_rfl))
  t3 := Try.underlying3
  a3 := Try.isAgg3
  z3 := Try.sizeOf3
  v3 := Try.zeroValue3
  t5 := Try.underlying5
  a5 := Try.isAgg5
  z5 := Try.sizeOf5
  v5 := Try.zeroValue5
  t9 := Try.underlying9
  a9 := Try.isAgg9
  z9 := Try.sizeOf9
  v9 := Try.zeroValue9 }
set_option maxRecDepth 100000 in
open Go.RowKit Go.Lib in
theorem Try.stringslite_IndexByte (s : ByteArray) (c : Int) (w : World) :
    Calls Try.prog 73 #[.string s, .int .u8 c] w fun e w' => e = .returned (.int .i64 (Lib.indexByte s.data.toList c.toNat.toUInt8)) ∧ w' = w := Any.stringslite_IndexByte Try.lays217 s c w
open Go.RowKit

theorem toU8 (c : UInt8) : ((c.toNat : Int)).toNat.toUInt8 = c := by simp

end PartShelfP
section PartItA
open Go.RowKit

set_option maxRecDepth 100000 in
set_option maxHeartbeats 400000 in
theorem indexByteI_any (s : ByteArray) (c : Int) (w : World) :
    Calls Try.prog 69 #[.string s, .int .u8 c] w fun e w' => e = .returned (.int .i64 (Lib.indexByte s.data.toList c.toNat.toUInt8)) ∧ w' = w := by
  have C : Hid (∀ w, Calls Try.prog 73 #[.string s, .int .u8 c] w fun e w' => e = .returned (.int .i64 (Lib.indexByte s.data.toList c.toNat.toUInt8)) ∧ w' = w) := fun w => Try.stringslite_IndexByte s c w
  go_enter Try.func69, Try.ntmps69
  go_wp2_with (go_at_call 73; refine (C.out _).mono ?_; rintro e w' ⟨rfl, rfl⟩)
  go_ret
  exact ⟨rfl, rfl⟩

set_option maxRecDepth 100000 in
set_option maxHeartbeats 1000000 in
theorem indexRune_low (s : ByteArray) (r : Int) (w : World) (h0 : 0 ≤ r) (h1 : r < 128) :
    Calls Try.prog 67 #[.string s, .int .i32 r] w fun e w' => e = .returned (.int .i64 (Lib.indexByte s.data.toList r.toNat.toUInt8)) ∧ w' = w := by
  have C : Hid (∀ w, Calls Try.prog 69 #[.string s, .int .u8 r] w fun e w' => e = .returned (.int .i64 (Lib.indexByte s.data.toList r.toNat.toUInt8)) ∧ w' = w) := fun w => indexByteI_any s r w
  go_enter Try.func67, Try.ntmps67
  go_wp2_with (go_at_call 69; refine (C.out _).mono ?_; rintro e w' ⟨rfl, rfl⟩)
  go_ret
  exact ⟨rfl, rfl⟩
end PartItA
end Go.Proofs.Ytmofljfffcnlbaa
