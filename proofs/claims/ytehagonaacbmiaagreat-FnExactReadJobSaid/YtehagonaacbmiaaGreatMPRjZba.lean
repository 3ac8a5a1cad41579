/- What is read of the bytes of a store: the program's reader goes on where something is wrong; rows that grow within a region that draws its order. A counted row of texts, read by the program. A job that is read: plain. The bytes of right code are read as that code. -/
import Derived.Test.YtehagonaacbmiaaGreatMPRjRvH
import Derived.Test.YtehagonaacbmiaaGreatMPRjZar
import Derived.Test.YtehagonaacbmiaaGreatMPRjZaq
namespace Go.Proofs.YtehagonaacbmiaaGreat
section PartRvJ
open Go.RowKit

namespace Rs
theorem V1.startI {L : List UInt8} {n a : Nat} {bad : Bool} (ha : a ≤ L.length) (h1 : bad = false → Rc.rv L 0 = some (n, a)) (h2 : bad = true → Rc.rv L 0 = none ∨ ∃ m k, Rc.rv L 0 = some (m, k) ∧ 60 < m) : V1 L n 0 a [] bad := by
  refine ⟨rfl, (fun y hy => by cases hy), ha, fun vs0 cs0 o0 h => ?_⟩
  cases bad with
  | false => exact (V1.start ha h1 (fun e => by cases e)).good vs0 cs0 o0 h
  | true =>
    obtain ⟨s1, s2, s3, s4, s5⟩ := St.ok_sizes h.1
    have hd : L.drop 0 = Pl.vb 8 vs0.length ++ (vs0.flatMap St.vbytes ++ (Pl.vb 8 cs0.length ++ (cs0.flatMap St.cbytes ++ Cd.short o0))) := by
      rw [← h.2]; unfold St.bytes; simp only [List.drop_zero, List.append_assoc]
    obtain ⟨e1, e2⟩ := Rc.rv_at hd (by omega)
    rcases h2 rfl with hh | ⟨m, k, hh, hm⟩
    · rw [hh] at e1; cases e1
    · rw [hh] at e1
      simp only [Option.some.injEq, Prod.mk.injEq] at e1
      omega
theorem V1.nextI {L : List UInt8} {n k a a1 a2 : Nat} {vs : List Vr} {b0 b1 b2 : Bool} {t1 t2 : List UInt8} (h : V1 L n k a vs b0) (hk : k < n) (ha : a2 ≤ L.length) (l1 : t1.length ≤ 20000) (l2 : t2.length ≤ 20000)
    (h1 : b1 = false → b0 = false ∧ Rc.rs L a = some (t1, a1)) (h2 : b1 = true → b0 = true ∨ Rc.rs L a = none)
    (h3 : b2 = false → b1 = false ∧ Rc.rs L a1 = some (t2, a2)) (h4 : b2 = true → b1 = true ∨ Rc.rs L a1 = none) :
    V1 L n (k + 1) a2 (vs ++ [⟨⟨t1.toArray⟩, ⟨t2.toArray⟩⟩]) b2 := by
  cases b0 with
  | false => exact h.next hk ha l1 l2 (fun e => (h1 e).2) (fun e => (h2 e).resolve_left (by simp)) h3 h4
  | true =>
    have z : ∀ l : List UInt8, (⟨l.toArray⟩ : ByteArray).size = l.length := fun l => by show l.toArray.size = _; simp
    refine ⟨by rw [List.length_append, h.len]; rfl, fun y hy => ?_, ha, fun vs0 cs0 o0 hi => ?_⟩
    · rcases List.mem_append.1 hy with hy | hy
      · exact h.small y hy
      · simp only [List.mem_singleton] at hy
        subst hy
        exact ⟨by rw [z]; exact l1, by rw [z]; exact l2⟩
    · have := (h.good vs0 cs0 o0 hi).1
      cases this
theorem V1.turnI {L : List UInt8} {n k a n2 a2 : Nat} {vs : List Vr} {bad b2 : Bool} (h : V1 L n k a vs bad) (hx : bad = false → n ≤ 60 → n ≤ k) (ha : a2 ≤ L.length)
    (h1 : b2 = false → bad = false ∧ Rc.rv L a = some (n2, a2)) (h2 : b2 = true → bad = true ∨ Rc.rv L a = none ∨ ∃ m k, Rc.rv L a = some (m, k) ∧ 2000 < m) : V2 L vs n2 0 a2 [] b2 := by
  refine ⟨rfl, (fun y hy => by cases hy), ha, fun vs0 cs0 o0 hi => ?_⟩
  cases b2 with
  | false => exact (h.turn hx ha h1 (fun e => by cases e)).good vs0 cs0 o0 hi
  | true =>
    obtain ⟨hb, hn, hk, hv, hd⟩ := h.good vs0 cs0 o0 hi
    obtain ⟨s1, s2, s3, s4, s5⟩ := St.ok_sizes hi.1
    have hkn : k = vs0.length := by have := hx hb (by omega); omega
    rw [hkn, List.drop_length, List.flatMap_nil, List.nil_append] at hd
    obtain ⟨e1, e2⟩ := Rc.rv_at hd (by omega)
    rcases h2 rfl with hh | hh | ⟨m, k', hh, hm⟩
    · rw [hb] at hh; cases hh
    · rw [hh] at e1; cases e1
    · rw [hh] at e1
      simp only [Option.some.injEq, Prod.mk.injEq] at e1
      omega
theorem V2.nextI {L : List UInt8} {vs : List Vr} {n k a a1 a2 a3 : Nat} {cs : List Cl} {b0 b1 b2 b3 : Bool} {t1 t2 t3 : List UInt8} (h : V2 L vs n k a cs b0) (hk : k < n) (ha : a3 ≤ L.length) (l1 : t1.length ≤ 20000) (l2 : t2.length ≤ 20000) (l3 : t3.length ≤ 20000)
    (h1 : b1 = false → b0 = false ∧ Rc.rs L a = some (t1, a1)) (h2 : b1 = true → b0 = true ∨ Rc.rs L a = none)
    (h3 : b2 = false → b1 = false ∧ Rc.rs L a1 = some (t2, a2)) (h4 : b2 = true → b1 = true ∨ Rc.rs L a1 = none)
    (h5 : b3 = false → b2 = false ∧ Rc.rs L a2 = some (t3, a3)) (h6 : b3 = true → b2 = true ∨ Rc.rs L a2 = none) :
    V2 L vs n (k + 1) a3 (cs ++ [⟨⟨t1.toArray⟩, ⟨t2.toArray⟩, ⟨t3.toArray⟩⟩]) b3 := by
  cases b0 with
  | false => exact h.next hk ha l1 l2 l3 (fun e => (h1 e).2) (fun e => (h2 e).resolve_left (by simp)) h3 h4 h5 h6
  | true =>
    have z : ∀ l : List UInt8, (⟨l.toArray⟩ : ByteArray).size = l.length := fun l => by show l.toArray.size = _; simp
    refine ⟨by rw [List.length_append, h.len]; rfl, fun y hy => ?_, ha, fun vs0 cs0 o0 hi => ?_⟩
    · rcases List.mem_append.1 hy with hy | hy
      · exact h.small y hy
      · simp only [List.mem_singleton] at hy
        subst hy
        exact ⟨by rw [z]; exact l1, by rw [z]; exact l2, by rw [z]; exact l3⟩
    · have := (h.good vs0 cs0 o0 hi).1
      cases this
theorem V2.lastI {L : List UInt8} {vs : List Vr} {n k a a2 : Nat} {cs : List Cl} {bad b2 : Bool} {t : List UInt8} (h : V2 L vs n k a cs bad) (hx : bad = false → n ≤ 2000 → n ≤ k)
    (h1 : b2 = false → bad = false ∧ Rc.rs L a = some (t, a2)) (h2 : b2 = true → bad = true ∨ Rc.rs L a = none) :
    ∀ vs0 cs0 o0, isOf L vs0 cs0 o0 → b2 = false ∧ a2 = L.length := by
  intro vs0 cs0 o0 hi
  obtain ⟨hb, hvs, hn, hk, hv, hd⟩ := h.good vs0 cs0 o0 hi
  obtain ⟨s1, s2, s3, s4, s5⟩ := St.ok_sizes hi.1
  have hkn : k = cs0.length := by have := hx hb (by omega); omega
  rw [hkn, List.drop_length, List.flatMap_nil, List.nil_append] at hd
  have hd' : L.drop a = Cd.short o0 ++ [] := by rw [hd, List.append_nil]
  obtain ⟨e1, e2, e3⟩ := Rc.rs_at hd' (by omega) h.le
  cases b2 with
  | true =>
    rcases h2 rfl with h | h
    · rw [hb] at h; cases h
    · rw [h] at e1; cases e1
  | false =>
    rw [(h1 rfl).2] at e1
    simp only [Option.some.injEq, Prod.mk.injEq] at e1
    obtain ⟨rfl, rfl⟩ := e1
    have := List.drop_eq_nil_iff.1 e2
    exact ⟨rfl, by omega⟩
/-- What is read of Vars is what stands ahead of the place. -/
def P1 (L : List UInt8) (n a : Nat) (vs : List Vr) (bad : Bool) : Prop := bad = false → L.take a = Pl.vb 8 n ++ vs.flatMap St.vbytes
def P2 (L : List UInt8) (vs : List Vr) (n a : Nat) (cs : List Cl) (bad : Bool) : Prop := bad = false → L.take a = Pl.vb 8 vs.length ++ vs.flatMap St.vbytes ++ Pl.vb 8 n ++ cs.flatMap St.cbytes
theorem short_mk (t : List UInt8) : Cd.short ⟨t.toArray⟩ = Pl.vb 8 t.length ++ t := by
  have z : (⟨t.toArray⟩ : ByteArray).size = t.length := by show t.toArray.size = _; simp
  unfold Cd.short
  rw [z]
theorem P1.start {L : List UInt8} {n a : Nat} {bad : Bool} (h1 : bad = false → Rc.rv L 0 = some (n, a)) : P1 L n a [] bad := by
  intro e
  obtain ⟨-, -, h, -⟩ := Rc.rv_bytes (Nat.zero_le _) (h1 e)
  rw [h]
  simp
theorem P1.next {L : List UInt8} {n a a1 a2 : Nat} {vs : List Vr} {b0 b1 b2 : Bool} {t1 t2 : List UInt8} (h : P1 L n a vs b0) (ha : a ≤ L.length)
    (h1 : b1 = false → b0 = false ∧ Rc.rs L a = some (t1, a1)) (h3 : b2 = false → b1 = false ∧ Rc.rs L a1 = some (t2, a2)) : P1 L n a2 (vs ++ [⟨⟨t1.toArray⟩, ⟨t2.toArray⟩⟩]) b2 := by
  intro e
  obtain ⟨e1, r2⟩ := h3 e
  obtain ⟨e0, r1⟩ := h1 e1
  obtain ⟨-, k1, -, g1⟩ := Rc.rs_bytes ha r1
  obtain ⟨-, -, -, g2⟩ := Rc.rs_bytes k1 r2
  rw [g2, g1, h e0, List.flatMap_append]
  simp [St.vbytes, short_mk]
theorem P1.turn {L : List UInt8} {n k a n2 a2 : Nat} {vs : List Vr} {b0 b2 : Bool} (h : P1 L n a vs b0) (ha : a ≤ L.length) (hl : vs.length = k) (hk : k = n) (h1 : b2 = false → b0 = false ∧ Rc.rv L a = some (n2, a2)) : P2 L vs n2 a2 [] b2 := by
  intro e
  obtain ⟨e0, r1⟩ := h1 e
  obtain ⟨-, -, g1, -⟩ := Rc.rv_bytes ha r1
  rw [g1, h e0, hl, hk]
  simp
theorem P2.next {L : List UInt8} {vs : List Vr} {n a a1 a2 a3 : Nat} {cs : List Cl} {b0 b1 b2 b3 : Bool} {t1 t2 t3 : List UInt8} (h : P2 L vs n a cs b0) (ha : a ≤ L.length)
    (h1 : b1 = false → b0 = false ∧ Rc.rs L a = some (t1, a1)) (h3 : b2 = false → b1 = false ∧ Rc.rs L a1 = some (t2, a2)) (h5 : b3 = false → b2 = false ∧ Rc.rs L a2 = some (t3, a3)) :
    P2 L vs n a3 (cs ++ [⟨⟨t1.toArray⟩, ⟨t2.toArray⟩, ⟨t3.toArray⟩⟩]) b3 := by
  intro e
  obtain ⟨e2, r3⟩ := h5 e
  obtain ⟨e1, r2⟩ := h3 e2
  obtain ⟨e0, r1⟩ := h1 e1
  obtain ⟨-, k1, -, g1⟩ := Rc.rs_bytes ha r1
  obtain ⟨-, k2, -, g2⟩ := Rc.rs_bytes k1 r2
  obtain ⟨-, -, -, g3⟩ := Rc.rs_bytes k2 r3
  rw [g3, g2, g1, h e0, List.flatMap_append]
  simp [St.cbytes, short_mk]
/-- All is read, and nothing is left: these are the bytes of what was read. -/
theorem P2.whole {L : List UInt8} {vs : List Vr} {n k a a2 : Nat} {cs : List Cl} {b0 b2 : Bool} {t : List UInt8} (h : P2 L vs n a cs b0) (ha : a ≤ L.length) (hl : cs.length = k) (hk : k = n)
    (h1 : b2 = false → b0 = false ∧ Rc.rs L a = some (t, a2)) (hb : b2 = false) (hw : a2 = L.length) : St.bytes vs cs ⟨t.toArray⟩ = L := by
  obtain ⟨e0, r1⟩ := h1 hb
  obtain ⟨-, -, -, g1⟩ := Rc.rs_bytes ha r1
  rw [hw, List.take_length, h e0] at g1
  rw [g1]
  unfold St.bytes
  rw [short_mk, hl, hk]
end Rs

theorem VrRow.step9 {ops : Array Oper} {o : Oper} {a : Act} {K : Act → World → Prop} {Q : Exit → Act → World → Prop} {E : Prop} {B : Nat} {W : World} {v : Value} {xs : List Vr}
    (hown : VrRow B W v xs) (hgd : o.guard = none) (s x : Operand)
    (ho : o.op = .call { callee := .builtin .append, args := #[s, x], argTypes := #[37, 37] })
    (hs : a.eval s = v) (y : Vr) (q0 : Nat) (hq : W.heap[q0]? = some (.cells #[.string y.name, .string y.val] 87 (0, 0))) (hx : a.eval x = .slice (some ⟨q0, 0, none⟩) 1 1)
    (hlen : xs.length < 2000000) (hB : B ≤ W.heap.size)
    (h : ∀ q cap w', VrRow B w' (.slice (some ⟨q, 0, none⟩) (xs.length + 1) cap) (xs ++ [y]) → W.grownBy w' v.ownBlock → K (a.put o.dst (.slice (some ⟨q, 0, none⟩) (xs.length + 1) cap)) w') :
    if Region.wanted o (yielded ops a.tmps) = true then Oper.wp Tryz.prog o a W K Q else E := by
  obtain ⟨i0, hi, hy0, hy1, hy2⟩ := info_parts Tryz.infoVr
  refine step_append_lies _ hgd s x 37 ho B 87 i0 (.agg #[.string ByteArray.empty, .string ByteArray.empty]) 2 32 Tryz.underlying37 hi hy0 hy1 hy2 rfl (by decide) v xs.length (cellsVr xs) hs hown ⟨q0, 0, none⟩ 1 1 [.string y.name, .string y.val] hx rfl
    (World.news_of_block (cs := #[.string y.name, .string y.val]) hq) ?_ (by omega) ?_ ?_ hB W.heap.size rfl ?_
  · intro u hu
    simp at hu
    rcases hu with rfl | rfl <;> rfl
  · unfold maxLen; omega
  · omega
  · intro q cap w' h2 h3 _ _
    refine h q cap w' ?_ h3
    unfold VrRow cellsVr
    rw [List.flatMap_append, List.length_append]
    exact h2
/-- One Cell more, likewise. -/
theorem ClRow.step9 {ops : Array Oper} {o : Oper} {a : Act} {K : Act → World → Prop} {Q : Exit → Act → World → Prop} {E : Prop} {B : Nat} {W : World} {v : Value} {xs : List Cl}
    (hown : ClRow B W v xs) (hgd : o.guard = none) (s x : Operand)
    (ho : o.op = .call { callee := .builtin .append, args := #[s, x], argTypes := #[38, 38] })
    (hs : a.eval s = v) (y : Cl) (q0 : Nat) (hq : W.heap[q0]? = some (.cells #[.string y.name, .string y.key, .string y.val] 89 (0, 0))) (hx : a.eval x = .slice (some ⟨q0, 0, none⟩) 1 1)
    (hlen : xs.length < 2000000) (hB : B ≤ W.heap.size)
    (h : ∀ q cap w', ClRow B w' (.slice (some ⟨q, 0, none⟩) (xs.length + 1) cap) (xs ++ [y]) → W.grownBy w' v.ownBlock → K (a.put o.dst (.slice (some ⟨q, 0, none⟩) (xs.length + 1) cap)) w') :
    if Region.wanted o (yielded ops a.tmps) = true then Oper.wp Tryz.prog o a W K Q else E := by
  obtain ⟨i0, hi, hy0, hy1, hy2⟩ := info_parts Tryz.infoCl
  refine step_append_lies _ hgd s x 38 ho B 89 i0 (.agg #[.string ByteArray.empty, .string ByteArray.empty, .string ByteArray.empty]) 3 48 Tryz.underlying38 hi hy0 hy1 hy2 rfl (by decide) v xs.length (cellsCl xs) hs hown ⟨q0, 0, none⟩ 1 1 [.string y.name, .string y.key, .string y.val] hx rfl
    (World.news_of_block (cs := #[.string y.name, .string y.key, .string y.val]) hq) ?_ (by omega) ?_ ?_ hB W.heap.size rfl ?_
  · intro u hu
    simp at hu
    rcases hu with rfl | rfl | rfl <;> rfl
  · unfold maxLen; omega
  · omega
  · intro q cap w' h2 h3 _ _
    refine h q cap w' ?_ h3
    unfold ClRow cellsCl
    rw [List.flatMap_append, List.length_append]
    exact h2

set_option maxHeartbeats 800000 in
theorem imWhole9 (g : Nat) (s : ByteArray) (a : Nat) (bad : Bool) (w : World) (h : Br7 w g s a bad) :
    Calls Tryz.prog 38 #[.pointer (some ⟨g, 0, none⟩)] w fun e w' => e = .returned (.bool (!bad && decide (a = s.size))) ∧ Below w.heap.size w w' := by
  have c0 : w.cell? ⟨g, 0, none⟩ = some (.string s) := (blk_cell h 0).trans rfl
  have c1 : w.cell? ⟨g, 1, none⟩ = some (.int .i64 (a : Int)) := (blk_cell h 1).trans rfl
  have c2 : w.cell? ⟨g, 2, none⟩ = some (.bool bad) := (blk_cell h 2).trans rfl
  clear h
  have hd : ((a : Int) == (s.size : Int)) = decide (a = s.size) := by
    by_cases e : a = s.size
    · subst e; simp
    · rw [decide_eq_false e]; simp; omega
  cases bad with
  | true =>
    go_enter Tryz.func38, Tryz.ntmps38
    go_wp2_with fail
    go_quiet (fail)
    go_wp2
    go_ret
    exact ⟨rfl, below_drewN (Below.refl _ _) _⟩
  | false =>
    go_enter Tryz.func38, Tryz.ntmps38
    go_wp2_with fail
    go_quiet (fail)
    go_wp2
    go_ret
    exact ⟨rfl, below_drewN (Below.refl _ _) _⟩
end PartRvJ
section PartRjI
open Go.RowKit

theorem Rc.TL.startI {L : List UInt8} {H : List ByteArray → List UInt8 → Prop} {n a a2 most : Nat} {bad b2 : Bool} (ha : a2 ≤ L.length)
    (hH : ∀ ts0 r, H ts0 r → bad = false ∧ L.drop a = Pl.vb 8 ts0.length ++ (ts0.flatMap Cd.short ++ r) ∧ ts0.length ≤ most ∧ ts0.length ≤ 1000000000 ∧ ∀ i, i < ts0.length → (ts0.getD i ByteArray.empty).size ≤ 20000)
    (h1 : b2 = false → bad = false ∧ Rc.rv L a = some (n, a2)) (h2 : b2 = true → bad = true ∨ Rc.rv L a = none ∨ ∃ m k, Rc.rv L a = some (m, k) ∧ most < m) : Rc.TL L H n 0 a2 [] b2 := by
  refine ⟨rfl, (fun y hy => by cases hy), ha, fun ts0 r h => ?_⟩
  obtain ⟨hb, hd, hm, hl, hs⟩ := hH ts0 r h
  obtain ⟨e1, e2⟩ := Rc.rv_at hd hl
  cases b2 with
  | true =>
    rcases h2 rfl with h | h | ⟨m, k, h, hmm⟩
    · rw [hb] at h; cases h
    · rw [h] at e1; cases e1
    · rw [h] at e1
      simp only [Option.some.injEq, Prod.mk.injEq] at e1
      omega
  | false =>
    rw [(h1 rfl).2] at e1
    simp only [Option.some.injEq, Prod.mk.injEq] at e1
    obtain ⟨rfl, rfl⟩ := e1
    exact ⟨rfl, rfl, Nat.zero_le _, rfl, e2, hs⟩
theorem Rc.TL.nextI {L : List UInt8} {H : List ByteArray → List UInt8 → Prop} {n k a a1 : Nat} {ts : List ByteArray} {b0 b1 : Bool} {t : List UInt8} (h : Rc.TL L H n k a ts b0) (hk : k < n) (ha : a1 ≤ L.length) (hl : t.length ≤ 20000)
    (h1 : b1 = false → b0 = false ∧ Rc.rs L a = some (t, a1)) (h2 : b1 = true → b0 = true ∨ Rc.rs L a = none) : Rc.TL L H n (k + 1) a1 (ts ++ [⟨t.toArray⟩]) b1 := by
  cases b0 with
  | false => exact h.next hk ha hl (fun e => (h1 e).2) (fun e => (h2 e).resolve_left (by simp))
  | true =>
    have z : ∀ l : List UInt8, (⟨l.toArray⟩ : ByteArray).size = l.length := fun l => by show l.toArray.size = _; simp
    refine ⟨by rw [List.length_append, h.len]; rfl, fun y hy => ?_, ha, fun ts0 r hH => ?_⟩
    · rcases List.mem_append.1 hy with hy | hy
      · exact h.small y hy
      · simp only [List.mem_singleton] at hy
        subst hy
        rw [z]
        exact hl
    · exact absurd (h.good ts0 r hH).1 (by simp)
/-- What is read stands in the text. -/
def Rc.CP (L : List UInt8) (a0 n a : Nat) (ts : List ByteArray) (bad0 bad : Bool) : Prop := bad = false → bad0 = false ∧ L.take a = L.take a0 ++ Pl.vb 8 n ++ ts.flatMap Cd.short
theorem Rc.CP.start {L : List UInt8} {a0 n a : Nat} {bad0 bad : Bool} (ha : a0 ≤ L.length) (h1 : bad = false → bad0 = false ∧ Rc.rv L a0 = some (n, a)) : Rc.CP L a0 n a [] bad0 bad := by
  intro e
  obtain ⟨e0, r⟩ := h1 e
  obtain ⟨-, -, h, -⟩ := Rc.rv_bytes ha r
  exact ⟨e0, by rw [h]; simp⟩
theorem Rc.CP.next {L : List UInt8} {a0 n a a1 : Nat} {ts : List ByteArray} {bad0 bad b1 : Bool} {t : List UInt8} (h : Rc.CP L a0 n a ts bad0 bad) (ha : a ≤ L.length) (h1 : b1 = false → bad = false ∧ Rc.rs L a = some (t, a1)) : Rc.CP L a0 n a1 (ts ++ [⟨t.toArray⟩]) bad0 b1 := by
  intro e
  obtain ⟨e0, r⟩ := h1 e
  obtain ⟨-, -, -, g⟩ := Rc.rs_bytes ha r
  obtain ⟨e1, e2⟩ := h e0
  have z : (⟨t.toArray⟩ : ByteArray).size = t.length := by show t.toArray.size = _; simp
  refine ⟨e1, ?_⟩
  rw [g, e2, List.flatMap_append]
  simp [Cd.short, z]
theorem TR.pushL {ops : Array Oper} {rest : List Oper} {o : Oper} {a : Act} {Q : Exit → Act → World → Prop} {B : Nat} {w : World} {v : Value} {ts : List ByteArray}
    (hown : TR B w v ts) (hgd : o.guard = none) (s x : Operand)
    (ho : o.op = .call { callee := .builtin .append, args := #[s, x], argTypes := #[22, 22] })
    (hs : a.eval s = v) (t : ByteArray) (hx : a.eval x = .slice (some ⟨w.heap.size, 0, none⟩) 1 1)
    (hlen : ts.length ≤ 1000000) (hB : B ≤ w.heap.size)
    (h : ∀ v' w', TR B w' v' (ts ++ [t]) → Below B w w' → wpList Tryz.prog ops Q rest (a.put o.dst v') w') :
    wpList Tryz.prog ops Q (o :: rest) a (w.alloc (.cells #[.string t] 9)) := by
  obtain ⟨i0, hi, hz0, hz1, hz2⟩ := info_parts Tryz.infoT7
  refine wpList_append_own _ hgd s x 22 ho B 9 i0 (.string ByteArray.empty) 1 16 Tryz.underlying22 hi hz0 hz1 hz2 rfl (by decide) v ts.length (ts.map .string) hs (World.ownsRow.alloc hown _) ⟨w.heap.size, 0, none⟩ 1 1 [.string t] hx rfl (cell_one_new _ _ _) ?_ ?_ ?_ ?_ ?_
  · intro u hu; simp at hu; subst hu; rfl
  · unfold maxLen; omega
  · omega
  · simp; omega
  · intro v' w' h2 h3 _
    refine h v' w' ?_ ?_
    · unfold TR; simpa using h2
    · exact ((Below.refl B w).alloc hB _).grown h3 (by simp; omega) (fun k hk => (World.ownsRow.lt hown k hk).1)

set_option maxHeartbeats 2000000 in
set_option maxRecDepth 100000 in
/-- The program's reader of a counted row. -/
theorem imCounted (g : Nat) (s : ByteArray) (a most : Nat) (bad : Bool) (H : List ByteArray → List UInt8 → Prop) (w : World) (h : Br7 w g s a bad) (ha : a ≤ s.size) (hs : s.size ≤ 1048576) (hm : most ≤ 1000)
    (hH : ∀ ts0 r, H ts0 r → bad = false ∧ s.data.toList.drop a = Pl.vb 8 ts0.length ++ (ts0.flatMap Cd.short ++ r) ∧ ts0.length ≤ most ∧ ts0.length ≤ 1000000000 ∧ ∀ i, i < ts0.length → (ts0.getD i ByteArray.empty).size ≤ 20000) :
    Calls Tryz.prog 37 #[.pointer (some ⟨g, 0, none⟩), .int .i64 (most : Int)] w fun e w' => ∃ (tv : Value) (ts : List ByteArray) (n a' : Nat) (bad' : Bool), e = .returned tv ∧ w.grownBy w' (some g) ∧ Br7 w' g s a' bad' ∧ TR w.heap.size w' tv ts ∧ a' ≤ s.size ∧ n ≤ most ∧ Rc.TL s.data.toList H n n a' ts bad' ∧ Rc.CP s.data.toList a n a' ts bad bad' := by
  have hsl : s.data.toList.length = s.size := by simp
  have HSL : Hid (s.data.toList.length = s.size) := hsl
  have HGL : Hid (g < w.heap.size) := blk_lt h
  have CN := imNumber1 g s a most bad w h ha hs
  have CS : Hid (∀ (W : World) (a : Nat) (bad : Bool), Br7 W g s a bad → a ≤ s.size → Calls Tryz.prog 35 #[.pointer (some ⟨g, 0, none⟩)] W fun e w' => ∃ (t : List UInt8) (a' : Nat) (bad' : Bool), e = .returned (.string ⟨t.toArray⟩) ∧ W.grownBy w' (some g) ∧ Br7 w' g s a' bad' ∧ t.length ≤ 20000 ∧ a' ≤ s.size ∧
      (bad' = false → bad = false ∧ Rc.rs s.data.toList a = some (t, a')) ∧ (bad' = true → bad = true ∨ Rc.rs s.data.toList a = none)) := fun W a bad h ha => imShort1 g s a bad W h ha hs
  have HHH : Hid _ := hH
  clear hH h hsl
  go_enter Tryz.func37, Tryz.ntmps37
  go_wp2_with fail
  refine CN.mono ?_
  rintro e w1 ⟨n, a1, b1, rfl, hg1, hr1, hn, ha1, hgood, hbad⟩
  have G1 : Hid (w.grownBy w1 (some g)) := hg1
  have R1 : Hid (Br7 w1 g s a1 b1) := hr1
  have T1 : Hid _ := Rc.TL.startI (L := s.data.toList) (by rw [HSL.out]; exact ha1) HHH.out hgood hbad
  have P1 : Hid _ := Rc.CP.start (L := s.data.toList) (by rw [HSL.out]; exact ha) hgood
  have A1 : Hid (a1 ≤ s.size) := ha1
  clear CN hg1 hr1 hgood hbad HHH ha1
  go_wp2_with fail
  go_loopw [5, 9] (fun v i wr => ∃ (k a' : Nat) (bad' : Bool) (ts : List ByteArray), i = .int .i64 (k : Int) ∧ k ≤ n ∧ w.heap.size ≤ wr.heap.size ∧ Hid (a' ≤ s.size) ∧ Hid (w.grownBy wr (some g)) ∧ Hid (Br7 wr g s a' bad') ∧ Hid (TR w.heap.size wr v ts) ∧ Hid (Rc.TL s.data.toList H n k a' ts bad') ∧ Hid (Rc.CP s.data.toList a n a' ts bad bad')) (fun _ i _ => n - (intOf i).toNat)
  case atStart => exact ⟨0, a1, b1, [], rfl, Nat.zero_le _, G1.out.size, A1, G1, R1, TR.nil _ _, T1, P1⟩
  case round =>
    clear G1 R1 T1 P1 A1
    obtain ⟨k, a', bad', ts, rfl, hk, hz, HA, HG, HR, HT, HL, HP⟩ := hrel
    by_cases hlt : k < n
    · have i1 : (k : Int) < (n : Int) := by omega
      go_wp2_with fail
      refine (CS.out _ _ _ HR.out HA.out).mono ?_
      rintro e w2 ⟨t, a2, b2, rfl, hg2, hr2, ht, ha2, hgood, hbad⟩
      have HT2 : Hid (TR w.heap.size w2 _ ts) := own_call HT.out hg2 HGL.out
      have HG2 : Hid (w.grownBy w2 (some g)) := gr_trans HG.out hg2
      have HR2 : Hid (Br7 w2 g s a2 b2) := hr2
      have HL2 : Hid _ := HL.out.nextI hlt (by rw [HSL.out]; exact ha2) ht hgood hbad
      have HP2 : Hid _ := HP.out.next (by rw [HSL.out]; exact HA.out) hgood
      have HA2 : Hid (a2 ≤ s.size) := ha2
      have hz2 : w.heap.size ≤ w2.heap.size := HG2.out.size
      have hlen : ts.length ≤ 1000000 := by have := HL.out.len; omega
      clear hg2 hr2 hgood hbad ha2 HA HG HR HT HL HP
      go_wp2_with (at_builtin; go_must (refine HT2.out.pushL rfl (.tmp 11) (.tmp 14) rfl rfl ⟨t.toArray⟩ rfl hlen hz2 ?_))
      intro v' w3 ht3 hb3
      have HT3 : Hid _ := ht3
      have hb3' : Below w.heap.size w2 w3 := hb3
      have HG3 : Hid (w.grownBy w3 (some g)) := ⟨hb3'.os.trans HG2.out.os, hb3'.tape.trans HG2.out.tape, hb3'.output.trans HG2.out.output, Nat.le_trans HG2.out.size hb3'.size, fun b hb hne => (hb3'.block b hb).trans (HG2.out.block b hb hne)⟩
      have HR3 : Hid (Br7 w3 g s a2 b2) := (hb3'.block _ HGL.out).trans HR2.out
      have hz3 : w.heap.size ≤ w3.heap.size := HG3.out.size
      clear ht3 hb3 hb3' HT2 HG2 HR2
      go_wp2
      go_roundw
      case rel => exact ⟨k + 1, a2, b2, _, by go_num, by omega, hz3, HA2, HG3, HR3, HT3, HL2, HP2⟩
      case measure => simp [intOf]; omega
    · obtain rfl : k = n := by omega
      go_wp2
      go_ret
      exact ⟨_, ts, k, a', bad', rfl, HG.out, HR.out, HT.out, HA.out, hn, HL.out, HP.out⟩
end PartRjI
section PartRjP
open Go.RowKit

/-- What is read as code is the code of these bytes. -/
theorem Rc.ans_bytes {L : List UInt8} {ts : List ByteArray} {xs : List Ins} {l u : Nat} (h : Rc.ans L = some (ts, xs, l, u)) : Cd.ok ts xs 0 (l : Int) (u : Int) = true ∧ Cd.bytes ts xs (l : Int) (u : Int) = L := by
  unfold Rc.ans at h
  split at h
  · cases h
  · rename_i n a1 h1
    split at h
    · cases h
    · split at h
      · cases h
      · rename_i us a2 h2
        split at h
        · cases h
        · rename_i m a3 h3
          split at h
          · cases h
          · split at h
            · cases h
            · rename_i ys a4 h4
              split at h
              · cases h
              · rename_i l' a5 h5
                split at h
                · cases h
                · rename_i u' a6 h6
                  split at h
                  · rename_i hc
                    simp only [Option.some.injEq, Prod.mk.injEq] at h
                    obtain ⟨rfl, rfl, rfl, rfl⟩ := h
                    obtain ⟨-, e⟩ := Rc.run_bytes h1 h2 h3 h4 h5 h6
                    rw [hc.1, List.take_length] at e
                    exact ⟨hc.2, e.symm⟩
                  · cases h
namespace Jb
/-- What the reader of names may think of the names. -/
theorem names_hyp {L : List UInt8} {a1 a2 : Nat} {b1 b2 : Bool} {t1 t2 : List UInt8}
    (h1 : b1 = false → Rc.rs L 0 = some (t1, a1)) (h2 : b1 = true → Rc.rs L 0 = none)
    (h3 : b2 = false → b1 = false ∧ Rc.rs L a1 = some (t2, a2)) (h4 : b2 = true → b1 = true ∨ Rc.rs L a1 = none) :
    ∀ ts0 r, HN L ts0 r → b2 = false ∧ L.drop a2 = Pl.vb 8 ts0.length ++ (ts0.flatMap Cd.short ++ r) ∧ ts0.length ≤ 20 ∧ ts0.length ≤ 1000000000 ∧ ∀ i, i < ts0.length → (ts0.getD i ByteArray.empty).size ≤ 20000 := by
  intro ts0 r h
  obtain ⟨j, hj, rfl, rfl⟩ := h
  obtain ⟨e1, -, -, e4⟩ := isOf_two hj h1 h2 h3 h4
  obtain ⟨-, -, s3, -, s5, -⟩ := ok_sizes hj.1
  exact ⟨e1, e4, s3, by omega, fun i hi => by have := s5 i hi; omega⟩
theorem lines_hyp {L : List UInt8} {n a : Nat} {ns : List ByteArray} {bad : Bool} (h : Rc.TL L (HN L) n n a ns bad) :
    ∀ ts0 r, HL L ns ts0 r → bad = false ∧ L.drop a = Pl.vb 8 ts0.length ++ (ts0.flatMap Cd.short ++ r) ∧ ts0.length ≤ 20 ∧ ts0.length ≤ 1000000000 ∧ ∀ i, i < ts0.length → (ts0.getD i ByteArray.empty).size ≤ 20000 := by
  intro ts0 r hl
  obtain ⟨j, hj, hn, rfl, rfl⟩ := hl
  obtain ⟨-, -, s3, s4, -, s6⟩ := ok_sizes hj.1
  obtain ⟨e1, e2, e3⟩ := h.done (m := 20) (fun _ _ => Nat.le_refl _) (fun ts0 r hh => by obtain ⟨j', hj', rfl, -⟩ := hh; exact (ok_sizes hj'.1).2.2.1) j.ns _ ⟨j, hj, rfl, rfl⟩
  exact ⟨e1, e3, s4, by omega, fun i hi => by have := s6 i hi; omega⟩
/-- All is read, and what is read is right: these are the bytes of it. -/
theorem read_yes {L : List UInt8} {a1 a2 a3 a4 n n2 : Nat} {b1 b2 b3 : Bool} {t1 t2 : List UInt8} {j : Jb}
    (h1 : b1 = false → Rc.rs L 0 = some (t1, a1)) (h3 : b2 = false → b1 = false ∧ Rc.rs L a1 = some (t2, a2)) (hl2 : t2.length ≤ 20000)
    (h5 : Rc.CP L a2 n a3 j.ns b2 b3) (h6 : Rc.CP L a3 n2 a4 j.ls b3 false) (e5 : j.ns.length = n) (e6 : j.ls.length = n2) (e7 : a4 = L.length)
    (c1 : Cd.bytes j.ts j.xs j.ln j.en = t1) (c2 : St.bytes j.vs j.cs j.o = t2) (hj : j.ok = true) : isOf L j := by
  obtain ⟨f3, g4⟩ := h6 rfl
  obtain ⟨f2, g3⟩ := h5 f3
  obtain ⟨f1, r2⟩ := h3 f2
  have r1 := h1 f1
  obtain ⟨-, k1, -, g1⟩ := Rc.rs_bytes (Nat.zero_le _) r1
  obtain ⟨-, -, -, g2⟩ := Rc.rs_bytes k1 r2
  have z : ∀ t : List UInt8, Cd.short ⟨t.toArray⟩ = Pl.vb 8 t.length ++ t := fun t => by
    have z : (⟨t.toArray⟩ : ByteArray).size = t.length := by show t.toArray.size = _; simp
    unfold Cd.short
    rw [z]
  refine ⟨hj, ?_, by rw [c2]; exact hl2⟩
  rw [e7, List.take_length, g3, g2, g1] at g4
  rw [g4]
  unfold bytes
  rw [c1, c2, z, z, e5, e6]
  simp
end Jb
end PartRjP
section PartRcT
open Go.RowKit

namespace Rc
theorem txts_at {L r : List UInt8} {a : Nat} {ts : List ByteArray} (h : L.drop a = ts.flatMap Cd.short ++ r) (hs : ∀ i, i < ts.length → (ts.getD i ByteArray.empty).size ≤ 20000) (ha : a ≤ L.length) :
    ∀ k, k ≤ ts.length → ∃ b, txts L a k = some ((ts.take k).map (fun t => t.data.toList), b) ∧ L.drop b = (ts.drop k).flatMap Cd.short ++ r ∧ b ≤ L.length := by
  intro k
  induction k with
  | zero => exact fun _ => ⟨a, rfl, by simpa using h, ha⟩
  | succ k ih =>
    intro hk
    obtain ⟨b, e1, e2, e3⟩ := ih (by omega)
    rw [Rs.drop_flat Cd.short ts ByteArray.empty k (by omega), List.append_assoc] at e2
    obtain ⟨f1, f2, f3⟩ := rs_at e2 (hs k (by omega)) e3
    refine ⟨_, ?_, f2, f3⟩
    rw [txts_S e1, f1, Rs.take_get ts ByteArray.empty k (by omega), List.map_append]
    rfl
theorem inss_at {L r : List UInt8} {a : Nat} {xs : List Ins} (h : L.drop a = xs.flatMap Cd.two ++ r) (hs : ∀ i, i < xs.length → (0 ≤ (xs.getD i Ins.no).op ∧ (xs.getD i Ins.no).op ≤ 255) ∧ 0 ≤ (xs.getD i Ins.no).arg ∧ (xs.getD i Ins.no).arg ≤ 255) (ha : a ≤ L.length) :
    ∀ k, k ≤ xs.length → ∃ b, inss L a k = some (xs.take k, b) ∧ L.drop b = (xs.drop k).flatMap Cd.two ++ r ∧ b ≤ L.length := by
  intro k
  induction k with
  | zero => exact fun _ => ⟨a, rfl, by simpa using h, ha⟩
  | succ k ih =>
    intro hk
    obtain ⟨b, e1, e2, e3⟩ := ih (by omega)
    rw [Rs.drop_flat Cd.two xs Ins.no k (by omega), List.append_assoc] at e2
    obtain ⟨⟨o1, o2⟩, o3, o4⟩ := hs k (by omega)
    have hl := congrArg List.length e2
    simp only [List.length_drop, List.length_append, Cd.two, List.length_cons, List.length_nil] at hl
    have hb : b + 2 ≤ L.length := by omega
    have g0 : L.getD b 0 = UInt8.ofNat (xs.getD k Ins.no).op.toNat := by
      have := congrArg (fun l => l.getD 0 0) e2
      simpa [List.getD_eq_getElem?_getD, Cd.two] using this
    have g1 : L.getD (b + 1) 0 = UInt8.ofNat (xs.getD k Ins.no).arg.toNat := by
      have := congrArg (fun l => l.getD 1 0) e2
      simpa [List.getD_eq_getElem?_getD, Cd.two] using this
    refine ⟨b + 2, ?_, ?_, hb⟩
    · rw [inss_S e1, if_pos hb, Rs.take_get xs Ins.no k (by omega), g0, g1]
      have n1 : ((UInt8.ofNat (xs.getD k Ins.no).op.toNat).toNat : Int) = (xs.getD k Ins.no).op := by
        rw [UInt8.toNat_ofNat']
        omega
      have n2 : ((UInt8.ofNat (xs.getD k Ins.no).arg.toNat).toNat : Int) = (xs.getD k Ins.no).arg := by
        rw [UInt8.toNat_ofNat']
        omega
      rw [n1, n2]
    · rw [← List.drop_drop, e2]
      simp [Cd.two]
/-- The bytes of right code are read as it. -/
theorem ans_of {ts : List ByteArray} {xs : List Ins} {bg ln en : Int} (h : Cd.ok ts xs bg ln en = true) : ∃ l u : Nat, ans (Cd.bytes ts xs ln en) = some (ts, xs, l, u) ∧ bg = 0 ∧ ln = (l : Int) ∧ en = (u : Int) := by
  have ho := h
  unfold Cd.ok at h
  simp only [Bool.and_eq_true, decide_eq_true_eq, List.all_eq_true] at h
  obtain ⟨t1, t2, t3, t4, ⟨t5, t6⟩, ⟨t7, t8⟩, -⟩ := h
  have hs : ∀ i, i < ts.length → (ts.getD i ByteArray.empty).size ≤ 20000 := fun i hi => by
    have := t1 (ts.getD i ByteArray.empty) (by rw [List.getD_eq_getElem?_getD, List.getElem?_eq_getElem hi]; exact List.getElem_mem _)
    omega
  obtain ⟨L, hL⟩ : ∃ L, L = Cd.bytes ts xs ln en := ⟨_, rfl⟩
  have h0 : L.drop 0 = Pl.vb 8 ts.length ++ (ts.flatMap Cd.short ++ (Pl.vb 8 xs.length ++ (xs.flatMap Cd.two ++ (Pl.vb 8 ln.toNat ++ (Pl.vb 8 en.toNat ++ []))))) := by
    rw [hL]
    unfold Cd.bytes
    simp
  rw [← hL]
  obtain ⟨a1, a2⟩ := rv_at h0 (by omega)
  have l1 := (rv_bytes (Nat.zero_le _) a1).2.1
  obtain ⟨b2, c1, c2, c3⟩ := txts_at a2 hs l1 ts.length (Nat.le_refl _)
  rw [List.take_length] at c1
  rw [List.drop_length, List.flatMap_nil, List.nil_append] at c2
  obtain ⟨d1, d2⟩ := rv_at c2 (by omega)
  have l2 := (rv_bytes c3 d1).2.1
  obtain ⟨b4, f1, f2, f3⟩ := inss_at d2 (fun i hi => Cd.ok_ins ho i hi) l2 xs.length (Nat.le_refl _)
  rw [List.take_length] at f1
  rw [List.drop_length, List.flatMap_nil, List.nil_append] at f2
  obtain ⟨g1, g2⟩ := rv_at f2 (by omega)
  have l3 := (rv_bytes f3 g1).2.1
  obtain ⟨k1, k2⟩ := rv_at g2 (by omega)
  have l4 := (rv_bytes l3 k1).2.1
  have ke := congrArg List.length k2
  rw [List.length_drop, List.length_nil] at ke
  have hm : (ts.map fun t => t.data.toList).map (fun t => (⟨t.toArray⟩ : ByteArray)) = ts := by
    rw [List.map_map]
    conv => rhs; rw [← List.map_id ts]
    apply List.map_congr_left
    intro t _
    cases t
    simp
  have x1 : ((ln.toNat : Nat) : Int) = ln := by omega
  have x2 : ((en.toNat : Nat) : Int) = en := by omega
  refine ⟨ln.toNat, en.toNat, ?_, t4, x1.symm, x2.symm⟩
  unfold ans
  simp only [a1, c1, d1, f1, g1, k1]
  rw [if_neg (by omega), if_neg (by omega), hm, x1, x2, if_pos ⟨by omega, by rw [← t4]; exact ho⟩]
end Rc
end PartRcT
end Go.Proofs.YtehagonaacbmiaaGreat
