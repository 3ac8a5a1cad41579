/- A program that is handed to a law: the nodes and the rules that its memory holds. -/
import Derived.Test.YtknojhmnadmilaaGreatDoorZaa
import Derived.Test.YtknojhmnadmilaaGreatDoorZab
import Derived.Deep.SlicePairs
import Derived.Deep.Strs
import Derived.Deep.Fields
import Derived.ProofKit
import Derived.OpenShut
import Derived.ChangeOld
namespace Go.Proofs.YtknojhmnadmilaaGreatDoor
open Go.RowKit Go.ChangeShapes Go.WideShapes Go.ChangeAt Go.Deep

instance : Inhabited Pi := ⟨Pi.no⟩
instance : Inhabited Pg.Rl := ⟨Pg.Rl.no⟩
set_option maxRecDepth 100000 in
theorem kidsOpen {H : Type} {enc : TypeId × Value → H} {W : World} {n : Nat} {v : Value} {x : DataW H × List MemPlace} (h : DataW.trod enc Tryz.prog W 0 (fun _ => true) true n 62 [v] = some x) :
    ∃ ks : List Int, KidsAt W v ks ∧ ks.length ≤ maxLen := by
  rcases open_ints Tryz.underlying62 Tryz.underlying3 (by kernel_rfl) h with ⟨hcs, _⟩ | ⟨a, l, c, zs, hcs, _, hl, hm, hz, _, hcell, hwz⟩
  · simp at hcs
    subst hcs
    exact ⟨[], ⟨none, 0, rfl, fun h => by simp at h⟩, by simp⟩
  · simp at hcs
    subst hcs
    have hzl : zs.length = c := by simpa using hz
    have hlen : (zs.take l).length = l := by simp; omega
    refine ⟨zs.take l, ⟨some a, c, by rw [hlen], fun h0 => ?_⟩, by omega⟩
    obtain ⟨b, off, spot⟩ := a
    have hc0 := hcell 0 (by omega)
    have hspot : spot = none := by simpa [Addr.add] using World.cell?_spot hc0
    subst hspot
    have hcs : ∀ j, j < l → W.cell? ⟨b, off + j, none⟩ = some (.int .i64 (zs.getD j 0)) := by
      intro j hj
      have := hcell j (by omega)
      rwa [show (⟨b, off, none⟩ : Addr).add j = ⟨b, off + j, none⟩ by unfold Addr.add; split <;> simp_all] at this
    refine ⟨b, off, rfl, World.block_lt_of_cell? W _ (hcs 0 (by omega)), fun i hi => ?_⟩
    rw [hcs i (by omega)]
    simp [show i < l by omega]

set_option maxRecDepth 100000 in
theorem nodesOpen {H : Type} {enc : TypeId × Value → H} {W : World} {n : Nat} {s : Value} {x : DataW H × List MemPlace} (h : DataW.trod enc Tryz.prog W 0 (fun _ => true) true n 22 [s] = some x) :
    ∃ ps, PcsAt W s ps ∧ Fit ps := by
  have hP : Tryz.prog.cellsOf 64 = 3 := by kernel_rfl
  rcases open_slice Tryz.underlying22 h with ⟨hcs, _⟩ | ⟨a, len, cap, m, n', D, Pl, hcs, hb, hl, hm, hmm, hx, hel⟩
  · simp at hcs
    subst hcs
    exact ⟨[], ⟨none, 0, rfl, fun h => by simp at h⟩, ⟨by simp, fun i hi => by simp at hi⟩⟩
  · simp at hcs
    subst hcs
    simp at hmm
    subst hmm
    have each : ∀ i, i < len → ∃ q : Pi, (∃ kv, W.cell? (a.add (i * 3)) = some (.int .i64 q.op) ∧ W.cell? (a.add (i * 3 + 1)) = some (.string q.text) ∧ W.cell? (a.add (i * 3 + 2)) = some kv ∧ KidsAt W kv q.kids) ∧ q.kids.length ≤ maxLen ∧ q.text.size ≤ maxLen := by
      intro i hi
      obtain ⟨cs', h1, h2⟩ := hel i (by omega)
      rw [hP] at h1
      obtain ⟨_, hlen, hcell⟩ := World.cells?_some h1
      obtain ⟨z0, z1, z2, n2, _, _, k0, k1, k2⟩ := trod_struct3 Tryz.underlying64 h2
      match cs', hlen with
      | [v0, v1, v2], _ =>
        have e0 := hcell 0 (by omega)
        have e1 := hcell 1 (by omega)
        have e2 := hcell 2 (by omega)
        rw [add_add] at e0 e1 e2
        have q3 : Tryz.prog.cellsOf 3 = 1 := by kernel_rfl
        have q9 : Tryz.prog.cellsOf 9 = 1 := by kernel_rfl
        have qs : Tryz.prog.cellsOf 62 = 1 := by kernel_rfl
        simp [q3, q9, qs] at k0 k1 k2
        obtain ⟨op, ho, _, _⟩ := DataW.trod_int Tryz.underlying3 k0
        obtain ⟨t, ht, _, hts⟩ := DataW.trod_string Tryz.underlying9 k1
        obtain ⟨ks, hk, hkl⟩ := kidsOpen k2
        simp at ho ht
        subst ho ht
        exact ⟨⟨op, t, ks⟩, ⟨v2, by simpa using e0, by simpa using e1, by simpa using e2, hk⟩, hkl, hts⟩
    obtain ⟨q, hq⟩ := choose_lt each
    have hlen : ((List.range len).map q).length = len := by simp
    have hget : ∀ i, i < len → ((List.range len).map q).getD i Pi.no = q i := by intro i hi; simp [hi]
    refine ⟨(List.range len).map q, ⟨some a, m, by rw [hlen], fun h0 => ?_⟩, ⟨by rw [hlen]; omega, fun i hi => ?_⟩⟩
    · rw [hlen] at h0 ⊢
      obtain ⟨b, off, spot⟩ := a
      have hc0 : ∃ kv, W.cell? (Addr.add ⟨b, off, spot⟩ (0 * 3)) = some kv := by obtain ⟨⟨kv, h1, _⟩, _⟩ := hq 0 h0; exact ⟨_, h1⟩
      obtain ⟨kv0, hc0⟩ := hc0
      have hspot : spot = none := by simpa [Addr.add] using World.cell?_spot hc0
      subst hspot
      have hadd : ∀ j, (⟨b, off, none⟩ : Addr).add j = ⟨b, off + j, none⟩ := fun j => by unfold Addr.add; split <;> simp_all
      refine ⟨b, off, rfl, ?_, fun i hi => ?_⟩
      · rw [hadd] at hc0
        exact World.block_lt_of_cell? W _ hc0
      · obtain ⟨⟨kv, h1, h2, h3, h4⟩, _⟩ := hq i hi
        rw [hadd] at h1 h2 h3
        rw [hget i hi]
        exact ⟨kv, h1, by rw [Nat.add_assoc]; exact h2, by rw [Nat.add_assoc]; exact h3, h4⟩
    · rw [hlen] at hi
      rw [hget i hi]
      exact (hq i hi).2

set_option maxRecDepth 100000 in
theorem rulesOpen {H : Type} {enc : TypeId × Value → H} {W : World} {n : Nat} {s : Value} {x : DataW H × List MemPlace} (h : DataW.trod enc Tryz.prog W 0 (fun _ => true) true n 23 [s] = some x) :
    ∃ rs, RlsAt W s rs ∧ rs.length ≤ maxLen := by
  have hP : Tryz.prog.cellsOf 72 = 3 := by kernel_rfl
  rcases open_slice Tryz.underlying23 h with ⟨hcs, _⟩ | ⟨a, len, cap, m, n', D, Pl, hcs, hb, hl, hm, hmm, hx, hel⟩
  · simp at hcs
    subst hcs
    exact ⟨[], ⟨none, 0, rfl, fun h => by simp at h⟩, by simp⟩
  · simp at hcs
    subst hcs
    simp at hmm
    subst hmm
    have each : ∀ i, i < len → ∃ q : Pg.Rl, W.cell? (a.add (i * 3)) = some (.int .i64 q.when) ∧ W.cell? (a.add (i * 3 + 1)) = some (.int .i64 q.cond) ∧ W.cell? (a.add (i * 3 + 2)) = some (.int .i64 q.act) := by
      intro i hi
      obtain ⟨cs', h1, h2⟩ := hel i (by omega)
      rw [hP] at h1
      obtain ⟨_, hlen, hcell⟩ := World.cells?_some h1
      obtain ⟨z0, z1, z2, n2, _, _, k0, k1, k2⟩ := trod_struct3 Tryz.underlying72 h2
      match cs', hlen with
      | [v0, v1, v2], _ =>
        have e0 := hcell 0 (by omega)
        have e1 := hcell 1 (by omega)
        have e2 := hcell 2 (by omega)
        rw [add_add] at e0 e1 e2
        have q3 : Tryz.prog.cellsOf 3 = 1 := by kernel_rfl
        simp [q3] at k0 k1 k2
        obtain ⟨x0, o0, _, _⟩ := DataW.trod_int Tryz.underlying3 k0
        obtain ⟨x1, o1, _, _⟩ := DataW.trod_int Tryz.underlying3 k1
        obtain ⟨x2, o2, _, _⟩ := DataW.trod_int Tryz.underlying3 k2
        simp at o0 o1 o2
        subst o0 o1 o2
        exact ⟨⟨x0, x1, x2⟩, by simpa using e0, by simpa using e1, by simpa using e2⟩
    obtain ⟨q, hq⟩ := choose_lt each
    have hlen : ((List.range len).map q).length = len := by simp
    have hget : ∀ i, i < len → ((List.range len).map q).getD i Pg.Rl.no = q i := by intro i hi; simp [hi]
    refine ⟨(List.range len).map q, ⟨some a, m, by rw [hlen], fun h0 => ?_⟩, by rw [hlen]; omega⟩
    rw [hlen] at h0 ⊢
    obtain ⟨b, off, spot⟩ := a
    have hc0 := (hq 0 h0).1
    have hspot : spot = none := by simpa [Addr.add] using World.cell?_spot hc0
    subst hspot
    have hadd : ∀ j, (⟨b, off, none⟩ : Addr).add j = ⟨b, off + j, none⟩ := fun j => by unfold Addr.add; split <;> simp_all
    refine ⟨b, off, rfl, ?_, fun i hi => ?_⟩
    · rw [hadd] at hc0
      exact World.block_lt_of_cell? W _ hc0
    · obtain ⟨h1, h2, h3⟩ := hq i hi
      rw [hadd] at h1 h2 h3
      rw [hget i hi]
      exact ⟨h1, by rw [Nat.add_assoc]; exact h2, by rw [Nat.add_assoc]; exact h3⟩

set_option maxRecDepth 100000 in
theorem progOpen {H : Type} {enc : TypeId × Value → H} {W : World} {base : Nat} {v : Value} {d : DataW H} {p : List MemPlace} (hval : Value.okWide Tryz.prog W .any base 25 v)
    (h : DataW.Trod enc Tryz.prog W 0 (fun _ => true) true 25 v d p) : ∃ s r ps rs, v = .agg #[s, r] ∧ PcsAt W s ps ∧ Fit ps ∧ RlsAt W r rs ∧ rs.length ≤ maxLen := by
  obtain ⟨cs, rfl, hsz⟩ := okWide_struct Tryz.underlying25 hval
  have hC : Tryz.prog.cellsOf 25 = 2 := by kernel_rfl
  rw [hC] at hsz
  obtain ⟨l⟩ := cs
  match l, hsz with
  | [s, r], _ =>
    obtain ⟨fuel, hf⟩ := h
    obtain ⟨xs, n, _, _, _, hxl, hff⟩ := DataW.trod_struct Tryz.underlying25 hf
    have g0 := hff 0 _ rfl
    have g1 := hff 1 _ rfl
    have c1 : Tryz.prog.cellsOf 22 = 1 := by kernel_rfl
    have c2 : Tryz.prog.cellsOf 23 = 1 := by kernel_rfl
    simp [Value.cells, c1, c2] at g0 g1
    match xs, hxl with
    | [y0, y1], _ =>
      simp at g0 g1
      obtain ⟨ps, h1, h2⟩ := nodesOpen g0
      obtain ⟨rs, h3, h4⟩ := rulesOpen g1
      exact ⟨s, r, ps, rs, rfl, h1, h2, h3, h4⟩
#print axioms progOpen
end Go.Proofs.YtknojhmnadmilaaGreatDoor
