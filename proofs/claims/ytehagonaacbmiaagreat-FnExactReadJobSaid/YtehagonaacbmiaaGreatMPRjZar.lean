/- Plain facts: what is read of the bytes of a store. Plain facts: what is read of the bytes of a job. What is read of the bytes of a job: what the walk holds. For the walks of ReadJob, both of them: rows that stay though another block is written, ten cells stored, what is answered. -/
import Derived.Test.YtehagonaacbmiaaGreatMPRjZap
import Derived.Test.YtehagonaacbmiaaGreatMPRjZan
import Derived.Test.YtehagonaacbmiaaGreatMPRjZaq
namespace Go.Proofs.YtehagonaacbmiaaGreat
section PartRvP
namespace Rc
theorem rv_at {L r : List UInt8} {a m : Nat} (h : L.drop a = Pl.vb 8 m ++ r) (hm : m ≤ 1000000000) : rv L a = some (m, a + (Pl.vb 8 m).length) ∧ L.drop (a + (Pl.vb 8 m).length) = r := by
  refine ⟨?_, ?_⟩
  · unfold rv
    rw [h, Pl.rv_back m r hm]
    rfl
  · rw [← List.drop_drop, h, List.drop_left]
theorem rs_at {L r : List UInt8} {t : ByteArray} {a : Nat} (h : L.drop a = Cd.short t ++ r) (ht : t.size ≤ 20000) (ha : a ≤ L.length) : rs L a = some (t.data.toList, a + (Cd.short t).length) ∧ L.drop (a + (Cd.short t).length) = r ∧ a + (Cd.short t).length ≤ L.length := by
  have hl : t.data.toList.length = t.size := by simp
  have h1 : L.drop a = Pl.vb 8 t.size ++ (t.data.toList ++ r) := by rw [h]; unfold Cd.short; rw [List.append_assoc]
  obtain ⟨e1, e2⟩ := rv_at h1 (by omega)
  have hs : (Cd.short t).length = (Pl.vb 8 t.size).length + t.size := by unfold Cd.short; rw [List.length_append, hl]
  have hd : L.drop (a + (Cd.short t).length) = r := by rw [← List.drop_drop, h, List.drop_left]
  have hlen : a + (Cd.short t).length ≤ L.length := by
    have := congrArg List.length h
    rw [List.length_drop, List.length_append] at this
    omega
  refine ⟨?_, hd, hlen⟩
  unfold rs
  rw [e1]
  simp only
  rw [if_pos ⟨ht, by omega⟩]
  have ht2 : (L.drop (a + (Pl.vb 8 t.size).length)).take t.size = t.data.toList := by rw [e2, ← hl, List.take_left]
  rw [ht2, hs, Nat.add_assoc]
end Rc
namespace Rs
/-- These are the bytes of this right store. -/
def isOf (L : List UInt8) (vs : List Vr) (cs : List Cl) (o : ByteArray) : Prop := St.ok vs cs o = true ∧ St.bytes vs cs o = L
/-- What a loop over Vars knows: n are to be read, k are read, the place is a. -/
structure V1 (L : List UInt8) (n k a : Nat) (vs : List Vr) (bad : Bool) : Prop where
  len : vs.length = k
  small : ∀ y ∈ vs, y.name.size ≤ 20000 ∧ y.val.size ≤ 20000
  le : a ≤ L.length
  good : ∀ vs0 cs0 o0, isOf L vs0 cs0 o0 → bad = false ∧ n = vs0.length ∧ k ≤ n ∧ vs = vs0.take k ∧ L.drop a = (vs0.drop k).flatMap St.vbytes ++ (Pl.vb 8 cs0.length ++ (cs0.flatMap St.cbytes ++ Cd.short o0))
theorem drop_flat {α : Type} (f : α → List UInt8) (l : List α) (d : α) (k : Nat) (h : k < l.length) : (l.drop k).flatMap f = f (l.getD k d) ++ (l.drop (k + 1)).flatMap f := by
  rw [List.drop_eq_getElem_cons h, List.flatMap_cons]
  simp [h]
theorem take_get {α : Type} (l : List α) (d : α) (k : Nat) (h : k < l.length) : l.take (k + 1) = l.take k ++ [l.getD k d] := by
  rw [List.take_add_one, List.getElem?_eq_getElem h]
  simp [h]
/-- The first number. -/
theorem V1.start {L : List UInt8} {n a : Nat} {bad : Bool} (ha : a ≤ L.length) (h1 : bad = false → Rc.rv L 0 = some (n, a)) (h2 : bad = true → Rc.rv L 0 = none) : V1 L n 0 a [] bad := by
  refine ⟨rfl, (fun y hy => by cases hy), ha, fun vs0 cs0 o0 h => ?_⟩
  obtain ⟨s1, s2, s3, s4, s5⟩ := St.ok_sizes h.1
  have hd : L.drop 0 = Pl.vb 8 vs0.length ++ (vs0.flatMap St.vbytes ++ (Pl.vb 8 cs0.length ++ (cs0.flatMap St.cbytes ++ Cd.short o0))) := by
    rw [← h.2]; unfold St.bytes; simp only [List.drop_zero, List.append_assoc]
  obtain ⟨e1, e2⟩ := Rc.rv_at hd (by omega)
  cases bad with
  | true => rw [h2 rfl] at e1; cases e1
  | false =>
    rw [h1 rfl] at e1
    simp only [Option.some.injEq, Prod.mk.injEq] at e1
    obtain ⟨rfl, rfl⟩ := e1
    exact ⟨rfl, rfl, Nat.zero_le _, rfl, e2⟩
/-- One more. -/
theorem V1.next {L : List UInt8} {n k a a1 a2 : Nat} {vs : List Vr} {b1 b2 : Bool} {t1 t2 : List UInt8} (h : V1 L n k a vs false) (hk : k < n) (ha : a2 ≤ L.length) (l1 : t1.length ≤ 20000) (l2 : t2.length ≤ 20000)
    (h1 : b1 = false → Rc.rs L a = some (t1, a1)) (h2 : b1 = true → Rc.rs L a = none)
    (h3 : b2 = false → b1 = false ∧ Rc.rs L a1 = some (t2, a2)) (h4 : b2 = true → b1 = true ∨ Rc.rs L a1 = none) :
    V1 L n (k + 1) a2 (vs ++ [⟨⟨t1.toArray⟩, ⟨t2.toArray⟩⟩]) b2 := by
  have z : ∀ l : List UInt8, (⟨l.toArray⟩ : ByteArray).size = l.length := fun l => by show l.toArray.size = _; simp
  refine ⟨by rw [List.length_append, h.len]; rfl, fun y hy => ?_, ha, fun vs0 cs0 o0 hi => ?_⟩
  · rcases List.mem_append.1 hy with hy | hy
    · exact h.small y hy
    · simp only [List.mem_singleton] at hy
      subst hy
      exact ⟨by rw [z]; exact l1, by rw [z]; exact l2⟩
  · obtain ⟨-, hn, -, hv, hd⟩ := h.good vs0 cs0 o0 hi
    obtain ⟨s1, s2, s3, s4, s5⟩ := St.ok_sizes hi.1
    have hk0 : k < vs0.length := by omega
    obtain ⟨q1, q2⟩ := s4 k hk0
    rw [drop_flat St.vbytes vs0 Vr.no k hk0] at hd
    have hd1 : L.drop a = Cd.short (vs0.getD k Vr.no).name ++ (Cd.short (vs0.getD k Vr.no).val ++ ((vs0.drop (k + 1)).flatMap St.vbytes ++ (Pl.vb 8 cs0.length ++ (cs0.flatMap St.cbytes ++ Cd.short o0)))) := by
      rw [hd]; unfold St.vbytes; simp only [List.append_assoc]
    obtain ⟨e1, e2, e3⟩ := Rc.rs_at hd1 (by omega) h.le
    cases b1 with
    | true => rw [h2 rfl] at e1; cases e1
    | false =>
      rw [h1 rfl] at e1
      simp only [Option.some.injEq, Prod.mk.injEq] at e1
      obtain ⟨rfl, rfl⟩ := e1
      obtain ⟨f1, f2, -⟩ := Rc.rs_at e2 (by omega) e3
      cases b2 with
      | true => rcases h4 rfl with h | h; cases h; rw [h] at f1; cases f1
      | false =>
        rw [(h3 rfl).2] at f1
        simp only [Option.some.injEq, Prod.mk.injEq] at f1
        obtain ⟨rfl, rfl⟩ := f1
        refine ⟨rfl, hn, by omega, ?_, f2⟩
        rw [take_get vs0 Vr.no k hk0, ← hv]
/-- What a loop over Cells knows. -/
structure V2 (L : List UInt8) (vs : List Vr) (n k a : Nat) (cs : List Cl) (bad : Bool) : Prop where
  len : cs.length = k
  small : ∀ y ∈ cs, y.name.size ≤ 20000 ∧ y.key.size ≤ 20000 ∧ y.val.size ≤ 20000
  le : a ≤ L.length
  good : ∀ vs0 cs0 o0, isOf L vs0 cs0 o0 → bad = false ∧ vs = vs0 ∧ n = cs0.length ∧ k ≤ n ∧ cs = cs0.take k ∧ L.drop a = (cs0.drop k).flatMap St.cbytes ++ Cd.short o0
/-- The second number: the Vars are through, where some right store is read. -/
theorem V1.turn {L : List UInt8} {n k a n2 a2 : Nat} {vs : List Vr} {bad b2 : Bool} (h : V1 L n k a vs bad) (hx : bad = false → n ≤ 60 → n ≤ k) (ha : a2 ≤ L.length)
    (h1 : b2 = false → bad = false ∧ Rc.rv L a = some (n2, a2)) (h2 : b2 = true → bad = true ∨ Rc.rv L a = none) : V2 L vs n2 0 a2 [] b2 := by
  refine ⟨rfl, (fun y hy => by cases hy), ha, fun vs0 cs0 o0 hi => ?_⟩
  obtain ⟨hb, hn, hk, hv, hd⟩ := h.good vs0 cs0 o0 hi
  obtain ⟨s1, s2, s3, s4, s5⟩ := St.ok_sizes hi.1
  have hkn : k = vs0.length := by have := hx hb (by omega); omega
  rw [hkn, List.take_length] at hv
  rw [hkn, List.drop_length, List.flatMap_nil, List.nil_append] at hd
  obtain ⟨e1, e2⟩ := Rc.rv_at hd (by omega)
  cases b2 with
  | true =>
    rcases h2 rfl with h | h
    · rw [hb] at h; cases h
    · rw [h] at e1; cases e1
  | false =>
    rw [(h1 rfl).2] at e1
    simp only [Option.some.injEq, Prod.mk.injEq] at e1
    obtain ⟨rfl, rfl⟩ := e1
    exact ⟨rfl, hv, rfl, Nat.zero_le _, rfl, e2⟩
/-- One more. -/
theorem V2.next {L : List UInt8} {vs : List Vr} {n k a a1 a2 a3 : Nat} {cs : List Cl} {b1 b2 b3 : Bool} {t1 t2 t3 : List UInt8} (h : V2 L vs n k a cs false) (hk : k < n) (ha : a3 ≤ L.length) (l1 : t1.length ≤ 20000) (l2 : t2.length ≤ 20000) (l3 : t3.length ≤ 20000)
    (h1 : b1 = false → Rc.rs L a = some (t1, a1)) (h2 : b1 = true → Rc.rs L a = none)
    (h3 : b2 = false → b1 = false ∧ Rc.rs L a1 = some (t2, a2)) (h4 : b2 = true → b1 = true ∨ Rc.rs L a1 = none)
    (h5 : b3 = false → b2 = false ∧ Rc.rs L a2 = some (t3, a3)) (h6 : b3 = true → b2 = true ∨ Rc.rs L a2 = none) :
    V2 L vs n (k + 1) a3 (cs ++ [⟨⟨t1.toArray⟩, ⟨t2.toArray⟩, ⟨t3.toArray⟩⟩]) b3 := by
  have z : ∀ l : List UInt8, (⟨l.toArray⟩ : ByteArray).size = l.length := fun l => by show l.toArray.size = _; simp
  refine ⟨by rw [List.length_append, h.len]; rfl, fun y hy => ?_, ha, fun vs0 cs0 o0 hi => ?_⟩
  · rcases List.mem_append.1 hy with hy | hy
    · exact h.small y hy
    · simp only [List.mem_singleton] at hy
      subst hy
      exact ⟨by rw [z]; exact l1, by rw [z]; exact l2, by rw [z]; exact l3⟩
  · obtain ⟨-, hvs, hn, -, hv, hd⟩ := h.good vs0 cs0 o0 hi
    obtain ⟨s1, s2, s3, s4, s5⟩ := St.ok_sizes hi.1
    have hk0 : k < cs0.length := by omega
    obtain ⟨q1, q2, q3⟩ := s5 k hk0
    rw [drop_flat St.cbytes cs0 Cl.no k hk0] at hd
    have hd1 : L.drop a = Cd.short (cs0.getD k Cl.no).name ++ (Cd.short (cs0.getD k Cl.no).key ++ (Cd.short (cs0.getD k Cl.no).val ++ ((cs0.drop (k + 1)).flatMap St.cbytes ++ Cd.short o0))) := by
      rw [hd]; unfold St.cbytes; simp only [List.append_assoc]
    obtain ⟨e1, e2, e3⟩ := Rc.rs_at hd1 (by omega) h.le
    cases b1 with
    | true => rw [h2 rfl] at e1; cases e1
    | false =>
      rw [h1 rfl] at e1
      simp only [Option.some.injEq, Prod.mk.injEq] at e1
      obtain ⟨rfl, rfl⟩ := e1
      obtain ⟨f1, f2, f3⟩ := Rc.rs_at e2 (by omega) e3
      cases b2 with
      | true => rcases h4 rfl with h | h; cases h; rw [h] at f1; cases f1
      | false =>
        rw [(h3 rfl).2] at f1
        simp only [Option.some.injEq, Prod.mk.injEq] at f1
        obtain ⟨rfl, rfl⟩ := f1
        obtain ⟨g1, g2, -⟩ := Rc.rs_at f2 (by omega) f3
        cases b3 with
        | true => rcases h6 rfl with h | h; cases h; rw [h] at g1; cases g1
        | false =>
          rw [(h5 rfl).2] at g1
          simp only [Option.some.injEq, Prod.mk.injEq] at g1
          obtain ⟨rfl, rfl⟩ := g1
          refine ⟨rfl, hvs, hn, by omega, ?_, g2⟩
          rw [take_get cs0 Cl.no k hk0, ← hv]
/-- The last text. -/
theorem V2.last {L : List UInt8} {vs : List Vr} {n k a a2 : Nat} {cs : List Cl} {bad b2 : Bool} {t : List UInt8} (h : V2 L vs n k a cs bad) (hx : bad = false → n ≤ 2000 → n ≤ k)
    (h1 : b2 = false → bad = false ∧ Rc.rs L a = some (t, a2)) (h2 : b2 = true → bad = true ∨ Rc.rs L a = none) :
    ∀ vs0 cs0 o0, isOf L vs0 cs0 o0 → b2 = false ∧ vs = vs0 ∧ cs = cs0 ∧ ⟨t.toArray⟩ = o0 := by
  intro vs0 cs0 o0 hi
  obtain ⟨hb, hvs, hn, hk, hv, hd⟩ := h.good vs0 cs0 o0 hi
  obtain ⟨s1, s2, s3, s4, s5⟩ := St.ok_sizes hi.1
  have hkn : k = cs0.length := by have := hx hb (by omega); omega
  rw [hkn, List.take_length] at hv
  rw [hkn, List.drop_length, List.flatMap_nil, List.nil_append] at hd
  have hd' : L.drop a = Cd.short o0 ++ [] := by rw [hd, List.append_nil]
  obtain ⟨e1, e2, -⟩ := Rc.rs_at hd' (by omega) h.le
  cases b2 with
  | true =>
    rcases h2 rfl with h | h
    · rw [hb] at h; cases h
    · rw [h] at e1; cases e1
  | false =>
    rw [(h1 rfl).2] at e1
    simp only [Option.some.injEq, Prod.mk.injEq] at e1
    obtain ⟨rfl, -⟩ := e1
    exact ⟨rfl, hvs, hv, rfl⟩
theorem small_of {vs : List Vr} {cs : List Cl} {o : ByteArray} (hv : vs.length ≤ 1048576) (hc : cs.length ≤ 1048576) (h1 : ∀ y ∈ vs, y.name.size ≤ 20000 ∧ y.val.size ≤ 20000) (h2 : ∀ y ∈ cs, y.name.size ≤ 20000 ∧ y.key.size ≤ 20000 ∧ y.val.size ≤ 20000) (ho : o.size ≤ 20000) : StSmall vs cs o := by
  refine ⟨hv, fun i hi => ?_, hc, fun i hi => ?_, by omega⟩
  · rw [show vs.getD i Vr.no = vs[i] by simp [hi]]
    have := h1 vs[i] (List.getElem_mem hi)
    omega
  · rw [show cs.getD i Cl.no = cs[i] by simp [hi]]
    have := h2 cs[i] (List.getElem_mem hi)
    omega
end Rs
end PartRvP
section PartJbD
namespace Rc
/-- What a loop over texts knows: H tells which texts, and what behind them, would be those of something right. -/
structure TL (L : List UInt8) (H : List ByteArray → List UInt8 → Prop) (n k a : Nat) (ts : List ByteArray) (bad : Bool) : Prop where
  len : ts.length = k
  small : ∀ y ∈ ts, y.size ≤ 20000
  le : a ≤ L.length
  good : ∀ ts0 r, H ts0 r → bad = false ∧ n = ts0.length ∧ k ≤ n ∧ ts = ts0.take k ∧ L.drop a = (ts0.drop k).flatMap Cd.short ++ r ∧ ∀ i, i < ts0.length → (ts0.getD i ByteArray.empty).size ≤ 20000
/-- The number of texts is read at place a. -/
theorem TL.start {L : List UInt8} {H : List ByteArray → List UInt8 → Prop} {n a a2 : Nat} {bad b2 : Bool} (ha : a2 ≤ L.length)
    (hH : ∀ ts0 r, H ts0 r → bad = false ∧ L.drop a = Pl.vb 8 ts0.length ++ (ts0.flatMap Cd.short ++ r) ∧ ts0.length ≤ 1000000000 ∧ ∀ i, i < ts0.length → (ts0.getD i ByteArray.empty).size ≤ 20000)
    (h1 : b2 = false → bad = false ∧ rv L a = some (n, a2)) (h2 : b2 = true → bad = true ∨ rv L a = none) : TL L H n 0 a2 [] b2 := by
  refine ⟨rfl, (fun y hy => by cases hy), ha, fun ts0 r h => ?_⟩
  obtain ⟨hb, hd, hl, hs⟩ := hH ts0 r h
  obtain ⟨e1, e2⟩ := rv_at hd hl
  cases b2 with
  | true =>
    rcases h2 rfl with h | h
    · rw [hb] at h; cases h
    · rw [h] at e1; cases e1
  | false =>
    rw [(h1 rfl).2] at e1
    simp only [Option.some.injEq, Prod.mk.injEq] at e1
    obtain ⟨rfl, rfl⟩ := e1
    exact ⟨rfl, rfl, Nat.zero_le _, rfl, e2, hs⟩
/-- One more. -/
theorem TL.next {L : List UInt8} {H : List ByteArray → List UInt8 → Prop} {n k a a1 : Nat} {ts : List ByteArray} {b1 : Bool} {t : List UInt8} (h : TL L H n k a ts false) (hk : k < n) (ha : a1 ≤ L.length) (hl : t.length ≤ 20000)
    (h1 : b1 = false → rs L a = some (t, a1)) (h2 : b1 = true → rs L a = none) : TL L H n (k + 1) a1 (ts ++ [⟨t.toArray⟩]) b1 := by
  have z : ∀ l : List UInt8, (⟨l.toArray⟩ : ByteArray).size = l.length := fun l => by show l.toArray.size = _; simp
  refine ⟨by rw [List.length_append, h.len]; rfl, fun y hy => ?_, ha, fun ts0 r hH => ?_⟩
  · rcases List.mem_append.1 hy with hy | hy
    · exact h.small y hy
    · simp only [List.mem_singleton] at hy
      subst hy
      rw [z]
      exact hl
  · obtain ⟨-, hn, -, hv, hd, hs⟩ := h.good ts0 r hH
    have hk0 : k < ts0.length := by omega
    rw [Rs.drop_flat Cd.short ts0 ByteArray.empty k hk0, List.append_assoc] at hd
    obtain ⟨e1, e2, -⟩ := rs_at hd (hs k hk0) h.le
    cases b1 with
    | true => rw [h2 rfl] at e1; cases e1
    | false =>
      rw [h1 rfl] at e1
      simp only [Option.some.injEq, Prod.mk.injEq] at e1
      obtain ⟨rfl, rfl⟩ := e1
      refine ⟨rfl, hn, by omega, ?_, e2, hs⟩
      rw [Rs.take_get ts0 ByteArray.empty k hk0, ← hv]
/-- Behind the loop: all are read, where there are few. -/
theorem TL.done {L : List UInt8} {H : List ByteArray → List UInt8 → Prop} {n k a m : Nat} {ts : List ByteArray} {bad : Bool} (h : TL L H n k a ts bad) (hx : bad = false → n ≤ m → n ≤ k) (hm : ∀ ts0 r, H ts0 r → ts0.length ≤ m) :
    ∀ ts0 r, H ts0 r → bad = false ∧ ts = ts0 ∧ L.drop a = r := by
  intro ts0 r hH
  obtain ⟨hb, hn, hk, hv, hd, -⟩ := h.good ts0 r hH
  have hkn : k = ts0.length := by have := hm ts0 r hH; have := hx hb (by omega); omega
  rw [hkn, List.take_length] at hv
  rw [hkn, List.drop_length, List.flatMap_nil, List.nil_append] at hd
  exact ⟨hb, hv, hd⟩
end Rc
namespace Jb
/-- These are the bytes of this right job, whose store's text is short enough to be read. -/
def isOf (L : List UInt8) (j : Jb) : Prop := j.ok = true ∧ j.bytes = L ∧ (St.bytes j.vs j.cs j.o).length ≤ 20000
theorem sz (l : List UInt8) : (⟨l.toArray⟩ : ByteArray).size = l.length := by show l.toArray.size = _; simp
/-- Behind the first two texts. -/
theorem isOf_two {L : List UInt8} {j : Jb} (h : isOf L j) {a1 a2 : Nat} {b1 b2 : Bool} {t1 t2 : List UInt8}
    (h1 : b1 = false → Rc.rs L 0 = some (t1, a1)) (h2 : b1 = true → Rc.rs L 0 = none)
    (h3 : b2 = false → b1 = false ∧ Rc.rs L a1 = some (t2, a2)) (h4 : b2 = true → b1 = true ∨ Rc.rs L a1 = none) :
    b2 = false ∧ t1 = Cd.bytes j.ts j.xs j.ln j.en ∧ t2 = St.bytes j.vs j.cs j.o ∧ L.drop a2 = Pl.vb 8 j.ns.length ++ (j.ns.flatMap Cd.short ++ (Pl.vb 8 j.ls.length ++ (j.ls.flatMap Cd.short ++ []))) := by
  obtain ⟨ho, hb, hs⟩ := h
  obtain ⟨c1, c2, -⟩ := ok_sizes ho
  have hl := code_len c1
  have hd : L.drop 0 = Cd.short ⟨(Cd.bytes j.ts j.xs j.ln j.en).toArray⟩ ++ (Cd.short ⟨(St.bytes j.vs j.cs j.o).toArray⟩ ++ (Pl.vb 8 j.ns.length ++ (j.ns.flatMap Cd.short ++ (Pl.vb 8 j.ls.length ++ (j.ls.flatMap Cd.short ++ []))))) := by
    rw [← hb]
    unfold bytes
    simp only [List.drop_zero, List.append_assoc, List.append_nil]
  obtain ⟨e1, e2, e3⟩ := Rc.rs_at hd (by rw [sz]; omega) (Nat.zero_le _)
  cases b1 with
  | true => rw [h2 rfl] at e1; cases e1
  | false =>
    rw [h1 rfl] at e1
    simp only [Option.some.injEq, Prod.mk.injEq] at e1
    obtain ⟨rfl, rfl⟩ := e1
    obtain ⟨f1, f2, -⟩ := Rc.rs_at e2 (by rw [sz]; exact hs) e3
    cases b2 with
    | true => rcases h4 rfl with h | h; cases h; rw [h] at f1; cases f1
    | false =>
      rw [(h3 rfl).2] at f1
      simp only [Option.some.injEq, Prod.mk.injEq] at f1
      obtain ⟨rfl, rfl⟩ := f1
      exact ⟨rfl, rfl, rfl, f2⟩
/-- The names of such a job, and what is behind them. -/
def HN (L : List UInt8) (ts0 : List ByteArray) (r : List UInt8) : Prop := ∃ j, isOf L j ∧ ts0 = j.ns ∧ r = Pl.vb 8 j.ls.length ++ (j.ls.flatMap Cd.short ++ [])
/-- Its lines, where these are its names. -/
def HL (L : List UInt8) (ns : List ByteArray) (ts0 : List ByteArray) (r : List UInt8) : Prop := ∃ j, isOf L j ∧ j.ns = ns ∧ ts0 = j.ls ∧ r = []
theorem names_start {L : List UInt8} {n a0 a1 a2 a3 : Nat} {b1 b2 b3 : Bool} {t1 t2 : List UInt8} (_ : a0 = 0) (ha : a3 ≤ L.length)
    (h1 : b1 = false → Rc.rs L 0 = some (t1, a1)) (h2 : b1 = true → Rc.rs L 0 = none)
    (h3 : b2 = false → b1 = false ∧ Rc.rs L a1 = some (t2, a2)) (h4 : b2 = true → b1 = true ∨ Rc.rs L a1 = none)
    (h5 : b3 = false → b2 = false ∧ Rc.rv L a2 = some (n, a3)) (h6 : b3 = true → b2 = true ∨ Rc.rv L a2 = none) : Rc.TL L (HN L) n 0 a3 [] b3 := by
  refine Rc.TL.start (bad := b2) (a := a2) ha (fun ts0 r h => ?_) h5 h6
  obtain ⟨j, hj, rfl, rfl⟩ := h
  obtain ⟨e1, -, -, e4⟩ := isOf_two hj h1 h2 h3 h4
  obtain ⟨-, -, s3, -, s5, -⟩ := ok_sizes hj.1
  exact ⟨e1, e4, by omega, fun i hi => by have := s5 i hi; omega⟩
theorem lines_start {L : List UInt8} {n k a n2 a2 : Nat} {ns : List ByteArray} {bad b2 : Bool} (h : Rc.TL L (HN L) n k a ns bad) (hx : bad = false → n ≤ 20 → n ≤ k) (ha : a2 ≤ L.length)
    (h1 : b2 = false → bad = false ∧ Rc.rv L a = some (n2, a2)) (h2 : b2 = true → bad = true ∨ Rc.rv L a = none) : Rc.TL L (HL L ns) n2 0 a2 [] b2 := by
  refine Rc.TL.start (bad := bad) (a := a) ha (fun ts0 r hl => ?_) h1 h2
  obtain ⟨j, hj, hn, rfl, rfl⟩ := hl
  obtain ⟨-, -, s3, s4, -, s6⟩ := ok_sizes hj.1
  obtain ⟨e1, e2, e3⟩ := h.done (m := 20) hx (fun ts0 r hh => by obtain ⟨j', hj', rfl, -⟩ := hh; exact (ok_sizes hj'.1).2.2.1) j.ns _ ⟨j, hj, rfl, rfl⟩
  exact ⟨e1, e3, by omega, fun i hi => by have := s6 i hi; omega⟩
/-- At the end: what was read is the job. -/
theorem read_all {L : List UInt8} {n k a n2 k2 a4 : Nat} {ns ls : List ByteArray} {bad b4 : Bool} (h : Rc.TL L (HN L) n k a ns bad) (hx : bad = false → n ≤ 20 → n ≤ k) (g : Rc.TL L (HL L ns) n2 k2 a4 ls b4) (gx : b4 = false → n2 ≤ 20 → n2 ≤ k2) :
    ∀ j, isOf L j → b4 = false ∧ j.ns = ns ∧ j.ls = ls := by
  intro j hj
  obtain ⟨-, e2, -⟩ := h.done (m := 20) hx (fun ts0 r hh => by obtain ⟨j', hj', rfl, -⟩ := hh; exact (ok_sizes hj'.1).2.2.1) j.ns _ ⟨j, hj, rfl, rfl⟩
  obtain ⟨f1, f2, -⟩ := g.done (m := 20) gx (fun ts0 r hh => by obtain ⟨j', hj', -, rfl, -⟩ := hh; exact (ok_sizes hj'.1).2.2.2.1) j.ls [] ⟨j, hj, e2.symm, rfl, rfl⟩
  exact ⟨f1, e2.symm, f2.symm⟩
end Jb
end PartJbD
section PartRjA
open Go.RowKit

/-- What a walk of ReadJob holds, w where it began: the answer's cell, the reader, the job's cells. -/
structure JW (T : TypeId) (w W : World) (s : ByteArray) (a : Nat) (bad : Bool) (C : Array Value) : Prop where
  res : W.heap[w.heap.size]? = some (.cells #[.slice none 0 0, .slice none 0 0, .int .i64 0, .int .i64 0, .int .i64 0, .slice none 0 0, .slice none 0 0, .string ⟨#[]⟩, .slice none 0 0, .slice none 0 0] 42 (0, 0))
  rd : W.heap[w.heap.size + 1]? = some (.cells #[.string s, .int .i64 (a : Int), .bool bad] T (0, 0))
  co : W.heap[w.heap.size + 2]? = some (.cells C 42 (0, 0))
  env : Below w.heap.size w W
section
variable {T : TypeId} {w W W' : World} {s : ByteArray} {a a' : Nat} {bad bad' : Bool} {C C' : Array Value}
theorem JW.size (h : JW T w W s a bad C) : w.heap.size + 3 ≤ W.heap.size := by
  have := blk_lt h.co
  omega
theorem JW.start (T : TypeId) (w : World) (s : ByteArray) (C : Array Value) : JW T w (((w.alloc (.cells #[.slice none 0 0, .slice none 0 0, .int .i64 0, .int .i64 0, .int .i64 0, .slice none 0 0, .slice none 0 0, .string ⟨#[]⟩, .slice none 0 0, .slice none 0 0] 42)).alloc (.cells #[.string s, .int .i64 0, .bool false] T)).alloc (.cells C 42)) s 0 false C :=
  ⟨r3_0 _ _ _ _, alloc3_1 _ _ _ _, r3_2 _ _ _ _, (((Below.refl _ _).alloc (Nat.le_refl _) _).alloc (by simp) _).alloc (by simp; omega) _⟩
theorem JW.call (h : JW T w W s a bad C) (hg : W.grownBy W' (some (w.heap.size + 1)))
    (h2 : W'.heap[w.heap.size + 1]? = some (.cells #[.string s, .int .i64 (a' : Int), .bool bad'] T (0, 0))) : JW T w W' s a' bad' C := by
  have hs := h.size
  refine ⟨(hg.block _ (by omega) (by simp)).trans h.res, h2, (hg.block _ (by omega) (by simp)).trans h.co, h.env.grown hg (by omega) (fun k hk => by simp at hk; omega)⟩
theorem JW.grow {r : Option Nat} (h : JW T w W s a bad C) (hg : W.grownBy W' r) (hr : ∀ k, r = some k → w.heap.size + 3 ≤ k) : JW T w W' s a bad C := by
  have hs := h.size
  have hb : ∀ k, k < w.heap.size + 3 → W'.heap[k]? = W.heap[k]? := fun k hk => hg.block k (by omega) (fun e => by have := hr k e.symm; omega)
  exact ⟨(hb _ (by omega)).trans h.res, (hb _ (by omega)).trans h.rd, (hb _ (by omega)).trans h.co, h.env.grown hg (by omega) (fun k hk => by have := hr k hk; omega)⟩
theorem JW.alloc (h : JW T w W s a bad C) (ob : Obj) : JW T w (W.alloc ob) s a bad C :=
  h.grow (World.grownBy_alloc W ob none) (fun k hk => by cases hk)
theorem JW.up (h : JW T w W s a bad C) (hb : Below W.heap.size W W') : JW T w W' s a bad C := h.grow (gr_below (r := none) hb) (fun k hk => by cases hk)
theorem JW.drew (h : JW T w W s a bad C) : JW T w W.drew s a bad C := ⟨h.res, h.rd, h.co, h.env.drew⟩
theorem JW.setC (h : JW T w W s a bad C) (j : Nat) (v : Value) (hu : C.setIfInBounds j v = C') : JW T w (W.setCell ⟨w.heap.size + 2, j, none⟩ v) s a bad C' := by
  have hs := h.size
  refine ⟨(Below.heap_setCell _ _ _ _ (by show w.heap.size ≠ w.heap.size + 2; omega)).trans h.res, (Below.heap_setCell _ _ _ _ (by show w.heap.size + 1 ≠ w.heap.size + 2; omega)).trans h.rd, ?_, h.env.setCell (by show w.heap.size ≤ w.heap.size + 2; omega) _⟩
  have := blk_set h.co j v
  rw [hu] at this
  exact this
end
/-- What ReadCode answers, for those who only hold it against something right. -/
def RjC (W w' : World) (s : ByteArray) (e : Ending) : Prop := Below W.heap.size W w' ∧ ∃ (tv lv : Value) (ts : List ByteArray) (xs : List Ins) (l u : Nat) (ok1 : Bool), e = .returned (.tuple #[.agg #[tv, lv, .int .i64 0, .int .i64 (l : Int), .int .i64 (u : Int)], .bool ok1]) ∧ (∀ V : World, (∀ b, W.heap.size ≤ b → b < w'.heap.size → V.heap[b]? = w'.heap[b]?) → TsAt V tv ts ∧ InsAt V lv xs) ∧ TsSmall ts ts.length ∧ ts.length ≤ 1048576 ∧ xs.length ≤ 1048576 ∧
  (∀ ts0 xs0 bg0 ln0 en0, Cd.ok ts0 xs0 bg0 ln0 en0 = true → Cd.bytes ts0 xs0 ln0 en0 = s.data.toList → ok1 = true ∧ ts = ts0 ∧ xs = xs0 ∧ bg0 = 0 ∧ ln0 = (l : Int) ∧ en0 = (u : Int))
/-- What ReadStore answers, likewise. -/
def RjT (W w' : World) (s : ByteArray) (e : Ending) : Prop := Below W.heap.size W w' ∧ ∃ (u x : Value) (vs : List Vr) (cs : List Cl) (o : ByteArray) (ok2 : Bool), e = .returned (.tuple #[.agg #[u, x, .string o], .bool ok2]) ∧ (∀ V : World, (∀ b, W.heap.size ≤ b → b < w'.heap.size → V.heap[b]? = w'.heap[b]?) → VrAt V u vs ∧ ClAt V x cs) ∧ StSmall vs cs o ∧
  (ok2 = true → St.bytes vs cs o = s.data.toList) ∧ (∀ vs0 cs0 o0, Rs.isOf s.data.toList vs0 cs0 o0 → ok2 = true ∧ vs = vs0 ∧ cs = cs0 ∧ o = o0)
/-- What ReadJob answers. -/
def RdJ (w w' : World) (L : List UInt8) (e : Ending) : Prop := Below w.heap.size w w' ∧ ((∃ tv lv u x nv mv j, Jb.isOf L j ∧ e = .returned (.tuple #[.agg (Jb.cells tv lv u x nv mv j), .bool true]) ∧ Jb.At w' tv lv u x nv mv j) ∨
  ((∀ j, ¬ Jb.isOf L j) ∧ e = .returned (.tuple #[.agg #[.slice none 0 0, .slice none 0 0, .int .i64 0, .int .i64 0, .int .i64 0, .slice none 0 0, .slice none 0 0, .string ⟨#[]⟩, .slice none 0 0, .slice none 0 0], .bool false])))
end PartRjA
section PartRjU
open Go.RowKit

/-- All blocks from B on are as they were. -/
def Kq (B : Nat) (W W' : World) : Prop := W.heap.size ≤ W'.heap.size ∧ ∀ k, B ≤ k → k < W.heap.size → W'.heap[k]? = W.heap[k]?
theorem Kq.refl (B : Nat) (W : World) : Kq B W W := ⟨Nat.le_refl _, fun _ _ _ => rfl⟩
theorem Kq.ofBelow {B : Nat} {W W' : World} (h : Below W.heap.size W W') : Kq B W W' := ⟨h.size, fun k _ hk => h.block k hk⟩
theorem Kq.ofGrown {B r : Nat} {W W' : World} (h : W.grownBy W' (some r)) (hr : r < B) : Kq B W W' := ⟨h.size, fun k hk hl => h.block k hl (by simp; omega)⟩
theorem Kq.trans {B : Nat} {W W1 W2 : World} (h : Kq B W W1) (k : Kq B W1 W2) : Kq B W W2 :=
  ⟨Nat.le_trans h.1 k.1, fun q hq hl => (k.2 q hq (Nat.lt_of_lt_of_le hl h.1)).trans (h.2 q hq hl)⟩
theorem Kq.set {B : Nat} {W W' : World} (h : Kq B W W') (p : Addr) (u : Value) (hp : p.block < B) : Kq B W (W'.setCell p u) :=
  ⟨by simpa [World.setCell] using h.1, fun q hq hl => (Below.heap_setCell _ _ _ _ (by omega)).trans (h.2 q hq hl)⟩
theorem row_kq {B B' : Nat} {W W' : World} {t : TypeId} {c n : Nat} {v : Value} {xs : List Value} (h : W.ownsRow B' t c v n xs) (hk : Kq B W W') (hB : B ≤ B') : W'.ownsRow B' t c v n xs := by
  refine ⟨h.1, h.2.imp id ?_⟩
  rintro ⟨g, cap, cur, e, h1, h2, h3⟩
  exact ⟨g, cap, cur, e, h1, (hk.2 g (by omega) (blk_lt h2)).trans h2, h3⟩
theorem row_mono {B B' : Nat} {W : World} {t : TypeId} {c n : Nat} {v : Value} {xs : List Value} (h : W.ownsRow B t c v n xs) (hB : B' ≤ B) : W.ownsRow B' t c v n xs := by
  refine ⟨h.1, h.2.imp id ?_⟩
  rintro ⟨g, cap, cur, e, h1, h2, h3⟩
  exact ⟨g, cap, cur, e, Nat.le_trans hB h1, h2, h3⟩
theorem row_form {B : Nat} {W : World} {t : TypeId} {c n : Nat} {v : Value} {xs : List Value} (h : W.ownsRow B t c v n xs) : ∃ a k, v = .slice a n k := by
  rcases h.2 with ⟨rfl, rfl⟩ | ⟨g, cap, cur, e, -⟩
  · exact ⟨_, _, rfl⟩
  · exact ⟨_, _, e⟩
theorem Kq.set10 {B g : Nat} {W : World} (hg : g < B) (v0 v1 v2 v3 v4 v5 v6 v7 v8 v9 : Value) : Kq B W ((((((((((W.setCell ⟨g, 0, none⟩ v0).setCell ⟨g, 1, none⟩ v1).setCell ⟨g, 2, none⟩ v2).setCell ⟨g, 3, none⟩ v3).setCell ⟨g, 4, none⟩ v4).setCell ⟨g, 5, none⟩ v5).setCell ⟨g, 6, none⟩ v6).setCell ⟨g, 7, none⟩ v7).setCell ⟨g, 8, none⟩ v8).setCell ⟨g, 9, none⟩ v9) := (((((((((((Kq.refl B W).set ⟨g, 0, none⟩ v0 hg).set ⟨g, 1, none⟩ v1 hg).set ⟨g, 2, none⟩ v2 hg).set ⟨g, 3, none⟩ v3 hg).set ⟨g, 4, none⟩ v4 hg).set ⟨g, 5, none⟩ v5 hg).set ⟨g, 6, none⟩ v6 hg).set ⟨g, 7, none⟩ v7 hg).set ⟨g, 8, none⟩ v8 hg).set ⟨g, 9, none⟩ v9 hg)
theorem blkSet10 {g : Nat} {W : World} {t : TypeId} {u0 u1 u2 u3 u4 u5 u6 u7 u8 u9 : Value} (h : W.heap[g]? = some (.cells #[u0, u1, u2, u3, u4, u5, u6, u7, u8, u9] t (0, 0))) (v0 v1 v2 v3 v4 v5 v6 v7 v8 v9 : Value) : ((((((((((W.setCell ⟨g, 0, none⟩ v0).setCell ⟨g, 1, none⟩ v1).setCell ⟨g, 2, none⟩ v2).setCell ⟨g, 3, none⟩ v3).setCell ⟨g, 4, none⟩ v4).setCell ⟨g, 5, none⟩ v5).setCell ⟨g, 6, none⟩ v6).setCell ⟨g, 7, none⟩ v7).setCell ⟨g, 8, none⟩ v8).setCell ⟨g, 9, none⟩ v9).heap[g]? = some (.cells #[v0, v1, v2, v3, v4, v5, v6, v7, v8, v9] t (0, 0)) := by
  have h0 : (W.setCell ⟨g, 0, none⟩ v0).heap[g]? = some (.cells #[v0, u1, u2, u3, u4, u5, u6, u7, u8, u9] t (0, 0)) := blk_set h 0 v0
  have h1 : ((W.setCell ⟨g, 0, none⟩ v0).setCell ⟨g, 1, none⟩ v1).heap[g]? = some (.cells #[v0, v1, u2, u3, u4, u5, u6, u7, u8, u9] t (0, 0)) := blk_set h0 1 v1
  have h2 : (((W.setCell ⟨g, 0, none⟩ v0).setCell ⟨g, 1, none⟩ v1).setCell ⟨g, 2, none⟩ v2).heap[g]? = some (.cells #[v0, v1, v2, u3, u4, u5, u6, u7, u8, u9] t (0, 0)) := blk_set h1 2 v2
  have h3 : ((((W.setCell ⟨g, 0, none⟩ v0).setCell ⟨g, 1, none⟩ v1).setCell ⟨g, 2, none⟩ v2).setCell ⟨g, 3, none⟩ v3).heap[g]? = some (.cells #[v0, v1, v2, v3, u4, u5, u6, u7, u8, u9] t (0, 0)) := blk_set h2 3 v3
  have h4 : (((((W.setCell ⟨g, 0, none⟩ v0).setCell ⟨g, 1, none⟩ v1).setCell ⟨g, 2, none⟩ v2).setCell ⟨g, 3, none⟩ v3).setCell ⟨g, 4, none⟩ v4).heap[g]? = some (.cells #[v0, v1, v2, v3, v4, u5, u6, u7, u8, u9] t (0, 0)) := blk_set h3 4 v4
  have h5 : ((((((W.setCell ⟨g, 0, none⟩ v0).setCell ⟨g, 1, none⟩ v1).setCell ⟨g, 2, none⟩ v2).setCell ⟨g, 3, none⟩ v3).setCell ⟨g, 4, none⟩ v4).setCell ⟨g, 5, none⟩ v5).heap[g]? = some (.cells #[v0, v1, v2, v3, v4, v5, u6, u7, u8, u9] t (0, 0)) := blk_set h4 5 v5
  have h6 : (((((((W.setCell ⟨g, 0, none⟩ v0).setCell ⟨g, 1, none⟩ v1).setCell ⟨g, 2, none⟩ v2).setCell ⟨g, 3, none⟩ v3).setCell ⟨g, 4, none⟩ v4).setCell ⟨g, 5, none⟩ v5).setCell ⟨g, 6, none⟩ v6).heap[g]? = some (.cells #[v0, v1, v2, v3, v4, v5, v6, u7, u8, u9] t (0, 0)) := blk_set h5 6 v6
  have h7 : ((((((((W.setCell ⟨g, 0, none⟩ v0).setCell ⟨g, 1, none⟩ v1).setCell ⟨g, 2, none⟩ v2).setCell ⟨g, 3, none⟩ v3).setCell ⟨g, 4, none⟩ v4).setCell ⟨g, 5, none⟩ v5).setCell ⟨g, 6, none⟩ v6).setCell ⟨g, 7, none⟩ v7).heap[g]? = some (.cells #[v0, v1, v2, v3, v4, v5, v6, v7, u8, u9] t (0, 0)) := blk_set h6 7 v7
  have h8 : (((((((((W.setCell ⟨g, 0, none⟩ v0).setCell ⟨g, 1, none⟩ v1).setCell ⟨g, 2, none⟩ v2).setCell ⟨g, 3, none⟩ v3).setCell ⟨g, 4, none⟩ v4).setCell ⟨g, 5, none⟩ v5).setCell ⟨g, 6, none⟩ v6).setCell ⟨g, 7, none⟩ v7).setCell ⟨g, 8, none⟩ v8).heap[g]? = some (.cells #[v0, v1, v2, v3, v4, v5, v6, v7, v8, u9] t (0, 0)) := blk_set h7 8 v8
  have h9 : ((((((((((W.setCell ⟨g, 0, none⟩ v0).setCell ⟨g, 1, none⟩ v1).setCell ⟨g, 2, none⟩ v2).setCell ⟨g, 3, none⟩ v3).setCell ⟨g, 4, none⟩ v4).setCell ⟨g, 5, none⟩ v5).setCell ⟨g, 6, none⟩ v6).setCell ⟨g, 7, none⟩ v7).setCell ⟨g, 8, none⟩ v8).setCell ⟨g, 9, none⟩ v9).heap[g]? = some (.cells #[v0, v1, v2, v3, v4, v5, v6, v7, v8, v9] t (0, 0)) := blk_set h8 9 v9
  exact h9
theorem row_set {B : Nat} {W : World} {t : TypeId} {c n : Nat} {v : Value} {xs : List Value} (h : W.ownsRow B t c v n xs) (p : Addr) (u : Value) (hp : ∀ q, v.ownBlock = some q → q ≠ p.block) : (W.setCell p u).ownsRow B t c v n xs := by
  refine ⟨h.1, h.2.imp id ?_⟩
  rintro ⟨g, cap, cur, e, h1, h2, h3⟩
  exact ⟨g, cap, cur, e, h1, (Below.heap_setCell _ _ _ _ (hp g (by rw [e]; rfl))).trans h2, h3⟩
theorem row_set10 {B g : Nat} {W : World} {t : TypeId} {c n : Nat} {v : Value} {xs : List Value} (h : W.ownsRow B t c v n xs) (hp : ∀ q, v.ownBlock = some q → q ≠ g) (v0 v1 v2 v3 v4 v5 v6 v7 v8 v9 : Value) : ((((((((((W.setCell ⟨g, 0, none⟩ v0).setCell ⟨g, 1, none⟩ v1).setCell ⟨g, 2, none⟩ v2).setCell ⟨g, 3, none⟩ v3).setCell ⟨g, 4, none⟩ v4).setCell ⟨g, 5, none⟩ v5).setCell ⟨g, 6, none⟩ v6).setCell ⟨g, 7, none⟩ v7).setCell ⟨g, 8, none⟩ v8).setCell ⟨g, 9, none⟩ v9).ownsRow B t c v n xs := by
  have h := row_set h ⟨g, 0, none⟩ v0 hp
  have h := row_set h ⟨g, 1, none⟩ v1 hp
  have h := row_set h ⟨g, 2, none⟩ v2 hp
  have h := row_set h ⟨g, 3, none⟩ v3 hp
  have h := row_set h ⟨g, 4, none⟩ v4 hp
  have h := row_set h ⟨g, 5, none⟩ v5 hp
  have h := row_set h ⟨g, 6, none⟩ v6 hp
  have h := row_set h ⟨g, 7, none⟩ v7 hp
  have h := row_set h ⟨g, 8, none⟩ v8 hp
  have h := row_set h ⟨g, 9, none⟩ v9 hp
  exact h
theorem Kq.setN {B : Nat} {W W' : World} (h : Kq B W W') (p : Addr) (u : Value) (hp : W.heap.size ≤ p.block) : Kq B W (W'.setCell p u) :=
  ⟨by simpa [World.setCell] using h.1, fun q hq hl => (Below.heap_setCell _ _ _ _ (by omega)).trans (h.2 q hq hl)⟩
theorem Kq.setN10 {B g : Nat} {W0 W : World} (h : Kq B W0 W) (hp : W0.heap.size ≤ g) (v0 v1 v2 v3 v4 v5 v6 v7 v8 v9 : Value) : Kq B W0 ((((((((((W.setCell ⟨g, 0, none⟩ v0).setCell ⟨g, 1, none⟩ v1).setCell ⟨g, 2, none⟩ v2).setCell ⟨g, 3, none⟩ v3).setCell ⟨g, 4, none⟩ v4).setCell ⟨g, 5, none⟩ v5).setCell ⟨g, 6, none⟩ v6).setCell ⟨g, 7, none⟩ v7).setCell ⟨g, 8, none⟩ v8).setCell ⟨g, 9, none⟩ v9) := by
  have h := h.setN ⟨g, 0, none⟩ v0 hp
  have h := h.setN ⟨g, 1, none⟩ v1 hp
  have h := h.setN ⟨g, 2, none⟩ v2 hp
  have h := h.setN ⟨g, 3, none⟩ v3 hp
  have h := h.setN ⟨g, 4, none⟩ v4 hp
  have h := h.setN ⟨g, 5, none⟩ v5 hp
  have h := h.setN ⟨g, 6, none⟩ v6 hp
  have h := h.setN ⟨g, 7, none⟩ v7 hp
  have h := h.setN ⟨g, 8, none⟩ v8 hp
  have h := h.setN ⟨g, 9, none⟩ v9 hp
  exact h
theorem ne9 {a q g : Nat} (h : a ≤ q) (hg : g < a) : q ≠ g := by omega
theorem ne8 {q g : Nat} (h : q < g) : q ≠ g := by omega
/-- A fact that the walk does not see. -/
def Shut9 (p : Prop) : Prop := p
theorem Shut9.mk {p : Prop} (h : p) : Shut9 p := h
theorem Shut9.out {p : Prop} (h : Shut9 p) : p := h
set_option maxRecDepth 100000 in
theorem res_job {fn : Func} {p u : Tmp} (h : fn.results = #[.cell p 42, .tmp u]) (tmps : Array Value) (w : World) (g : Nat) (v0 v1 v2 v3 v4 v5 v6 v7 v8 v9 : Value) (hp : tmps.getD p undef = .pointer (some ⟨g, 0, none⟩)) (hg : w.heap[g]? = some (.cells #[v0, v1, v2, v3, v4, v5, v6, v7, v8, v9] 42 (0, 0))) :
    (results fn tmps).run Tryz.prog w = .ok (.tuple #[.agg #[v0, v1, v2, v3, v4, v5, v6, v7, v8, v9], tmps.getD u undef]) w := by
  rw [results_cell_tmp h, hp]
  simp only [asAddr, Sem.run_pure, Result.andThen_ok, run_loadVar_row w g 42 42 #[v0, v1, v2, v3, v4, v5, v6, v7, v8, v9] (0, 0) _ hg Tryz.underlying42 rfl (by kernel_rfl)]
/-- The block that v lies in, if in any, is one from lo on, below hi. -/
def OB (v : Value) (lo hi : Nat) : Prop := ∀ q, v.ownBlock = some q → lo ≤ q ∧ q < hi
theorem OB.none (a lo hi : Nat) : OB (.slice Option.none 0 a) lo hi := fun q h => by cases h
theorem OB.wide {v : Value} {lo hi lo' hi' : Nat} (h : OB v lo hi) (h1 : lo' ≤ lo) (h2 : hi ≤ hi') : OB v lo' hi' := fun q hq => by have := h q hq; omega
theorem OB.row {B : Nat} {W : World} {t : TypeId} {c n : Nat} {v : Value} {xs : List Value} (h : W.ownsRow B t c v n xs) : OB v B W.heap.size := fun q hq => World.ownsRow.lt h q hq
/-- Six rows, each in a block of its own. -/
def Apart6 (lo : Nat) (tv lv u x nv mv : Value) : Prop := ∃ c1 c2 c3 c4 c5 c6, OB tv lo c1 ∧ OB lv c1 c2 ∧ OB u c2 c3 ∧ OB x c3 c4 ∧ OB nv c4 c5 ∧ OB mv c5 c6 ∧ lo ≤ c1 ∧ c1 ≤ c2 ∧ c2 ≤ c3 ∧ c3 ≤ c4 ∧ c4 ≤ c5
end PartRjU
end Go.Proofs.YtehagonaacbmiaaGreat
