/- Plain facts: what is read of the bytes of a store. -/
import Derived.Test.YtbaoadfnmicijaaMPMsOZam
import Derived.Test.YtbaoadfnmicijaaMPMsOZap
import Derived.Test.YtbaoadfnmicijaaMPMsOStX
namespace Go.Proofs.Ytbaoadfnmicijaa
namespace Rc
theorem rv_at {L r : List UInt8} {a m : Nat} (h : L.drop a = Pl.vb 8 m ++ r) (hm : m ≤ 1000000000) : rv L a = some (m, a + (Pl.vb 8 m).length) ∧ L.drop (a + (Pl.vb 8 m).length) = r := by
  refine ⟨?_, ?_⟩
  · unfold rv
    rw [h, Pl.rv_back m r hm]
    rfl
  · rw [← List.drop_drop, h, List.drop_left]
theorem rs_at {L r : List UInt8} {t : ByteArray} {a : Nat} (h : L.drop a = Cd.short t ++ r) (ht : t.size ≤ 20000) (ha : a ≤ L.length) : rs L a = some (t.data.toList, a + (Cd.short t).length) ∧ L.drop (a + (Cd.short t).length) = r ∧ a + (Cd.short t).length ≤ L.length := by
  have hl : t.data.toList.length = t.size := by simp
  have h1 : L.drop a = Pl.vb 8 t.size ++ (t.data.toList ++ r) := by rw [h]; unfold Cd.short; rw [List.append_assoc]
  obtain ⟨e1, e2⟩ := rv_at h1 (by omega)
  have hs : (Cd.short t).length = (Pl.vb 8 t.size).length + t.size := by unfold Cd.short; rw [List.length_append, hl]
  have hd : L.drop (a + (Cd.short t).length) = r := by rw [← List.drop_drop, h, List.drop_left]
  have hlen : a + (Cd.short t).length ≤ L.length := by
    have := congrArg List.length h
    rw [List.length_drop, List.length_append] at this
    omega
  refine ⟨?_, hd, hlen⟩
  unfold rs
  rw [e1]
  simp only
  rw [if_pos ⟨ht, by omega⟩]
  have ht2 : (L.drop (a + (Pl.vb 8 t.size).length)).take t.size = t.data.toList := by rw [e2, ← hl, List.take_left]
  rw [ht2, hs, Nat.add_assoc]
end Rc
namespace Rs
/-- These are the bytes of this right store. -/
def isOf (L : List UInt8) (vs : List Vr) (cs : List Cl) (o : ByteArray) : Prop := St.ok vs cs o = true ∧ St.bytes vs cs o = L
/-- What a loop over Vars knows: n are to be read, k are read, the place is a. -/
structure V1 (L : List UInt8) (n k a : Nat) (vs : List Vr) (bad : Bool) : Prop where
  len : vs.length = k
  small : ∀ y ∈ vs, y.name.size ≤ 20000 ∧ y.val.size ≤ 20000
  le : a ≤ L.length
  good : ∀ vs0 cs0 o0, isOf L vs0 cs0 o0 → bad = false ∧ n = vs0.length ∧ k ≤ n ∧ vs = vs0.take k ∧ L.drop a = (vs0.drop k).flatMap St.vbytes ++ (Pl.vb 8 cs0.length ++ (cs0.flatMap St.cbytes ++ Cd.short o0))
theorem drop_flat {α : Type} (f : α → List UInt8) (l : List α) (d : α) (k : Nat) (h : k < l.length) : (l.drop k).flatMap f = f (l.getD k d) ++ (l.drop (k + 1)).flatMap f := by
  rw [List.drop_eq_getElem_cons h, List.flatMap_cons]
  simp [h]
theorem take_get {α : Type} (l : List α) (d : α) (k : Nat) (h : k < l.length) : l.take (k + 1) = l.take k ++ [l.getD k d] := by
  rw [List.take_add_one, List.getElem?_eq_getElem h]
  simp [h]
/-- The first number. -/
theorem V1.start {L : List UInt8} {n a : Nat} {bad : Bool} (ha : a ≤ L.length) (h1 : bad = false → Rc.rv L 0 = some (n, a)) (h2 : bad = true → Rc.rv L 0 = none) : V1 L n 0 a [] bad := by
  refine ⟨rfl, (fun y hy => by cases hy), ha, fun vs0 cs0 o0 h => ?_⟩
  obtain ⟨s1, s2, s3, s4, s5⟩ := St.ok_sizes h.1
  have hd : L.drop 0 = Pl.vb 8 vs0.length ++ (vs0.flatMap St.vbytes ++ (Pl.vb 8 cs0.length ++ (cs0.flatMap St.cbytes ++ Cd.short o0))) := by
    rw [← h.2]; unfold St.bytes; simp only [List.drop_zero, List.append_assoc]
  obtain ⟨e1, e2⟩ := Rc.rv_at hd (by omega)
  cases bad with
  | true => rw [h2 rfl] at e1; cases e1
  | false =>
    rw [h1 rfl] at e1
    simp only [Option.some.injEq, Prod.mk.injEq] at e1
    obtain ⟨rfl, rfl⟩ := e1
    exact ⟨rfl, rfl, Nat.zero_le _, rfl, e2⟩
/-- One more. -/
theorem V1.next {L : List UInt8} {n k a a1 a2 : Nat} {vs : List Vr} {b1 b2 : Bool} {t1 t2 : List UInt8} (h : V1 L n k a vs false) (hk : k < n) (ha : a2 ≤ L.length) (l1 : t1.length ≤ 20000) (l2 : t2.length ≤ 20000)
    (h1 : b1 = false → Rc.rs L a = some (t1, a1)) (h2 : b1 = true → Rc.rs L a = none)
    (h3 : b2 = false → b1 = false ∧ Rc.rs L a1 = some (t2, a2)) (h4 : b2 = true → b1 = true ∨ Rc.rs L a1 = none) :
    V1 L n (k + 1) a2 (vs ++ [⟨⟨t1.toArray⟩, ⟨t2.toArray⟩⟩]) b2 := by
  have z : ∀ l : List UInt8, (⟨l.toArray⟩ : ByteArray).size = l.length := fun l => by show l.toArray.size = _; simp
  refine ⟨by rw [List.length_append, h.len]; rfl, fun y hy => ?_, ha, fun vs0 cs0 o0 hi => ?_⟩
  · rcases List.mem_append.1 hy with hy | hy
    · exact h.small y hy
    · simp only [List.mem_singleton] at hy
      subst hy
      exact ⟨by rw [z]; exact l1, by rw [z]; exact l2⟩
  · obtain ⟨-, hn, -, hv, hd⟩ := h.good vs0 cs0 o0 hi
    obtain ⟨s1, s2, s3, s4, s5⟩ := St.ok_sizes hi.1
    have hk0 : k < vs0.length := by omega
    obtain ⟨q1, q2⟩ := s4 k hk0
    rw [drop_flat St.vbytes vs0 Vr.no k hk0] at hd
    have hd1 : L.drop a = Cd.short (vs0.getD k Vr.no).name ++ (Cd.short (vs0.getD k Vr.no).val ++ ((vs0.drop (k + 1)).flatMap St.vbytes ++ (Pl.vb 8 cs0.length ++ (cs0.flatMap St.cbytes ++ Cd.short o0)))) := by
      rw [hd]; unfold St.vbytes; simp only [List.append_assoc]
    obtain ⟨e1, e2, e3⟩ := Rc.rs_at hd1 (by omega) h.le
    cases b1 with
    | true => rw [h2 rfl] at e1; cases e1
    | false =>
      rw [h1 rfl] at e1
      simp only [Option.some.injEq, Prod.mk.injEq] at e1
      obtain ⟨rfl, rfl⟩ := e1
      obtain ⟨f1, f2, -⟩ := Rc.rs_at e2 (by omega) e3
      cases b2 with
      | true => rcases h4 rfl with h | h; cases h; rw [h] at f1; cases f1
      | false =>
        rw [(h3 rfl).2] at f1
        simp only [Option.some.injEq, Prod.mk.injEq] at f1
        obtain ⟨rfl, rfl⟩ := f1
        refine ⟨rfl, hn, by omega, ?_, f2⟩
        rw [take_get vs0 Vr.no k hk0, ← hv]
/-- What a loop over Cells knows. -/
structure V2 (L : List UInt8) (vs : List Vr) (n k a : Nat) (cs : List Cl) (bad : Bool) : Prop where
  len : cs.length = k
  small : ∀ y ∈ cs, y.name.size ≤ 20000 ∧ y.key.size ≤ 20000 ∧ y.val.size ≤ 20000
  le : a ≤ L.length
  good : ∀ vs0 cs0 o0, isOf L vs0 cs0 o0 → bad = false ∧ vs = vs0 ∧ n = cs0.length ∧ k ≤ n ∧ cs = cs0.take k ∧ L.drop a = (cs0.drop k).flatMap St.cbytes ++ Cd.short o0
/-- One more. -/
theorem V2.next {L : List UInt8} {vs : List Vr} {n k a a1 a2 a3 : Nat} {cs : List Cl} {b1 b2 b3 : Bool} {t1 t2 t3 : List UInt8} (h : V2 L vs n k a cs false) (hk : k < n) (ha : a3 ≤ L.length) (l1 : t1.length ≤ 20000) (l2 : t2.length ≤ 20000) (l3 : t3.length ≤ 20000)
    (h1 : b1 = false → Rc.rs L a = some (t1, a1)) (h2 : b1 = true → Rc.rs L a = none)
    (h3 : b2 = false → b1 = false ∧ Rc.rs L a1 = some (t2, a2)) (h4 : b2 = true → b1 = true ∨ Rc.rs L a1 = none)
    (h5 : b3 = false → b2 = false ∧ Rc.rs L a2 = some (t3, a3)) (h6 : b3 = true → b2 = true ∨ Rc.rs L a2 = none) :
    V2 L vs n (k + 1) a3 (cs ++ [⟨⟨t1.toArray⟩, ⟨t2.toArray⟩, ⟨t3.toArray⟩⟩]) b3 := by
  have z : ∀ l : List UInt8, (⟨l.toArray⟩ : ByteArray).size = l.length := fun l => by show l.toArray.size = _; simp
  refine ⟨by rw [List.length_append, h.len]; rfl, fun y hy => ?_, ha, fun vs0 cs0 o0 hi => ?_⟩
  · rcases List.mem_append.1 hy with hy | hy
    · exact h.small y hy
    · simp only [List.mem_singleton] at hy
      subst hy
      exact ⟨by rw [z]; exact l1, by rw [z]; exact l2, by rw [z]; exact l3⟩
  · obtain ⟨-, hvs, hn, -, hv, hd⟩ := h.good vs0 cs0 o0 hi
    obtain ⟨s1, s2, s3, s4, s5⟩ := St.ok_sizes hi.1
    have hk0 : k < cs0.length := by omega
    obtain ⟨q1, q2, q3⟩ := s5 k hk0
    rw [drop_flat St.cbytes cs0 Cl.no k hk0] at hd
    have hd1 : L.drop a = Cd.short (cs0.getD k Cl.no).name ++ (Cd.short (cs0.getD k Cl.no).key ++ (Cd.short (cs0.getD k Cl.no).val ++ ((cs0.drop (k + 1)).flatMap St.cbytes ++ Cd.short o0))) := by
      rw [hd]; unfold St.cbytes; simp only [List.append_assoc]
    obtain ⟨e1, e2, e3⟩ := Rc.rs_at hd1 (by omega) h.le
    cases b1 with
    | true => rw [h2 rfl] at e1; cases e1
    | false =>
      rw [h1 rfl] at e1
      simp only [Option.some.injEq, Prod.mk.injEq] at e1
      obtain ⟨rfl, rfl⟩ := e1
      obtain ⟨f1, f2, f3⟩ := Rc.rs_at e2 (by omega) e3
      cases b2 with
      | true => rcases h4 rfl with h | h; cases h; rw [h] at f1; cases f1
      | false =>
        rw [(h3 rfl).2] at f1
        simp only [Option.some.injEq, Prod.mk.injEq] at f1
        obtain ⟨rfl, rfl⟩ := f1
        obtain ⟨g1, g2, -⟩ := Rc.rs_at f2 (by omega) f3
        cases b3 with
        | true => rcases h6 rfl with h | h; cases h; rw [h] at g1; cases g1
        | false =>
          rw [(h5 rfl).2] at g1
          simp only [Option.some.injEq, Prod.mk.injEq] at g1
          obtain ⟨rfl, rfl⟩ := g1
          refine ⟨rfl, hvs, hn, by omega, ?_, g2⟩
          rw [take_get cs0 Cl.no k hk0, ← hv]
end Rs
end Go.Proofs.Ytbaoadfnmicijaa
