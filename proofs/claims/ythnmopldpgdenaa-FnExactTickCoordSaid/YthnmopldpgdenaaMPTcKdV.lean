/- Who gives and gathers as it is handed to a law: what its memory holds. -/
import Derived.Test.YthnmopldpgdenaaMPTcZaz
import Derived.Deep.SlicePairs
import Derived.Deep.Slices
import Derived.Deep.Strs
import Derived.Deep.Fields
import Derived.ProofKit
import Derived.OpenShut
import Derived.ChangeOld
namespace Go.Proofs.Ythnmopldpgdenaa
open Go.RowKit Go.ChangeShapes Go.WideShapes Go.ChangeAt Go.Deep

set_option maxRecDepth 100000 in
theorem storeParts {H : Type} {enc : TypeId × Value → H} {W : World} {n : Nat} {u x o : Value} {y : DataW H × List MemPlace} (h : DataW.trod enc Try.prog W 0 (fun _ => true) true n 29 [u, x, o] = some y) :
    ∃ vs cs s, o = .string s ∧ VrAt W u vs ∧ ClAt W x cs ∧ StFit vs cs s := by
  obtain ⟨ss, n1, _, _, _, hsl, hss⟩ := DataW.trod_struct Try.underlying29 h
  match ss, hsl with
  | [s0, s1, s2], _ =>
    have b0 := hss 0 _ rfl
    have b1 := hss 1 _ rfl
    have b2 := hss 2 _ rfl
    have d4 : Try.prog.cellsOf 26 = 1 := by kernel_rfl
    have d5 : Try.prog.cellsOf 27 = 1 := by kernel_rfl
    have d6 : Try.prog.cellsOf 9 = 1 := by kernel_rfl
    simp [d4, d5, d6] at b0 b1 b2
    obtain ⟨vs, v1, v2, v3, v3b⟩ := VrOpen b0
    obtain ⟨cs, k4, k5, k6, k6b, k6c⟩ := ClOpen b1
    obtain ⟨o7, e7, _, t7⟩ := DataW.trod_string Try.underlying9 b2
    simp at e7
    exact ⟨vs, cs, o7, e7, v1, k4, ⟨⟨v2, fun i hi => ⟨v3 i hi, v3b i hi⟩⟩, ⟨k5, fun i hi => ⟨k6 i hi, k6b i hi, k6c i hi⟩⟩, t7⟩⟩

set_option maxRecDepth 100000 in
theorem tasksOpen {H : Type} {enc : TypeId × Value → H} {W : World} {n : Nat} {s : Value} {x : DataW H × List MemPlace} (h : DataW.trod enc Try.prog W 0 (fun _ => true) true n 30 [s] = some x) :
    ∃ ks, KsAt W s ks ∧ KsFit ks := by
  have hP : Try.prog.cellsOf 73 = 7 := by kernel_rfl
  rcases open_slice Try.underlying30 h with ⟨hcs, _⟩ | ⟨a, len, cap, m, n', D, Pl, hcs, hb, hl, hm, hmm, hx, hel⟩
  · simp at hcs
    subst hcs
    exact ⟨[], ⟨none, 0, rfl, fun h => by simp at h⟩, ⟨by simp, fun i hi => by simp at hi⟩⟩
  · simp at hcs
    subst hcs
    simp at hmm
    subst hmm
    have each : ∀ i, i < len → ∃ q : Tk, (∃ l u z, W.cell? (a.add (i * 7)) = some l ∧ W.cell? (a.add (i * 7 + 1)) = some (.int .i64 q.try_) ∧ W.cell? (a.add (i * 7 + 2)) = some (.int .i64 q.till) ∧ W.cell? (a.add (i * 7 + 3)) = some (.bool q.done) ∧ W.cell? (a.add (i * 7 + 4)) = some u ∧ W.cell? (a.add (i * 7 + 5)) = some z ∧ W.cell? (a.add (i * 7 + 6)) = some (.string q.o) ∧ Tk.Rows W l u z q) ∧ q.Fit := by
      intro i hi
      obtain ⟨cs', h1, h2⟩ := hel i (by omega)
      rw [hP] at h1
      obtain ⟨_, hlen, hcell⟩ := World.cells?_some h1
      obtain ⟨zs, n2, _, _, _, hzl, hzz⟩ := DataW.trod_struct Try.underlying73 h2
      match cs', hlen, zs, hzl with
      | [v0, v1, v2, v3, v4, v5, v6], _, [z0, z1, z2, z3, z4], _ =>
        have e0 := hcell 0 (by omega)
        have e1 := hcell 1 (by omega)
        have e2 := hcell 2 (by omega)
        have e3 := hcell 3 (by omega)
        have e4 := hcell 4 (by omega)
        have e5 := hcell 5 (by omega)
        have e6 := hcell 6 (by omega)
        have k0 := hzz 0 _ rfl
        have k1 := hzz 1 _ rfl
        have k2 := hzz 2 _ rfl
        have k3 := hzz 3 _ rfl
        have k4 := hzz 4 _ rfl
        have q3 : Try.prog.cellsOf 3 = 1 := by kernel_rfl
        have q4 : Try.prog.cellsOf 4 = 1 := by kernel_rfl
        have qs : Try.prog.cellsOf 22 = 1 := by kernel_rfl
        have qt : Try.prog.cellsOf 29 = 3 := by kernel_rfl
        simp [q3, q4, qs, qt] at k0 k1 k2 k3 k4
        obtain ⟨ls, l1, l2, l3⟩ := TsOpen k0
        obtain ⟨o1, w1, _, _⟩ := DataW.trod_int Try.underlying3 k1
        obtain ⟨o2, w2, _, _⟩ := DataW.trod_int Try.underlying3 k2
        obtain ⟨o3, w3, _⟩ := DataW.trod_bool Try.underlying4 k3
        obtain ⟨vs, cs, o6, rfl, s1, s2, s3⟩ := storeParts k4
        simp at w1 w2 w3
        subst w1 w2 w3
        rw [add_add] at e0 e1 e2 e3 e4 e5 e6
        exact ⟨⟨ls, o1, o2, o3, vs, cs, o6⟩, ⟨v0, v4, v5, by simpa using e0, by simpa using e1, by simpa using e2, by simpa using e3, by simpa using e4, by simpa using e5, by simpa using e6, ⟨l1, s1, s2⟩⟩, ⟨⟨l2, l3⟩, s3⟩⟩
    obtain ⟨q, hq⟩ := choose_lt each
    have hlen : ((List.range len).map q).length = len := by simp
    have hget : ∀ i, i < len → ((List.range len).map q).getD i Tk.no = q i := by intro i hi; simp [hi]
    refine ⟨(List.range len).map q, ⟨some a, m, by rw [hlen], fun h0 => ?_⟩, ⟨by rw [hlen]; omega, fun i hi => ?_⟩⟩
    · rw [hlen] at h0 ⊢
      obtain ⟨b, off, spot⟩ := a
      have hc0 : ∃ kv, W.cell? (Addr.add ⟨b, off, spot⟩ (0 * 7)) = some kv := by obtain ⟨⟨l, u, z, h1, _⟩, _⟩ := hq 0 h0; exact ⟨_, h1⟩
      obtain ⟨kv0, hc0⟩ := hc0
      have hspot : spot = none := by simpa [Addr.add] using World.cell?_spot hc0
      subst hspot
      have hadd : ∀ j, (⟨b, off, none⟩ : Addr).add j = ⟨b, off + j, none⟩ := fun j => by unfold Addr.add; split <;> simp_all
      refine ⟨b, off, rfl, ?_, fun i hi => ?_⟩
      · rw [hadd] at hc0
        exact World.block_lt_of_cell? W _ hc0
      · obtain ⟨⟨l, u, z, h0, h1, h2, h3, h4, h5, h6, h7⟩, _⟩ := hq i hi
        rw [hadd] at h0 h1 h2 h3 h4 h5 h6
        rw [hget i hi]
        exact ⟨l, u, z, ⟨h0, by rw [Nat.add_assoc]; exact h1, by rw [Nat.add_assoc]; exact h2, by rw [Nat.add_assoc]; exact h3, by rw [Nat.add_assoc]; exact h4, by rw [Nat.add_assoc]; exact h5, by rw [Nat.add_assoc]; exact h6⟩, h7⟩
    · rw [hlen] at hi
      rw [hget i hi]
      exact (hq i hi).2

set_option maxRecDepth 100000 in
theorem coordOpen {H : Type} {enc : TypeId × Value → H} {W : World} {base : Nat} {v : Value} {d : DataW H} {p : List MemPlace} (hval : Value.okWide Try.prog W .any base 32 v)
    (h : DataW.Trod enc Try.prog W 0 (fun _ => true) true 32 v d p) : ∃ (tv lv nv bu bx kv fu fx : Value) (c : Co), v = .agg (Co.cells tv lv nv bu bx kv fu fx c) ∧ Co.At W tv lv nv bu bx kv fu fx c ∧ c.Fit := by
  obtain ⟨cs, rfl, hsz⟩ := okWide_struct Try.underlying32 hval
  have hC : Try.prog.cellsOf 32 = 17 := by kernel_rfl
  rw [hC] at hsz
  obtain ⟨l⟩ := cs
  match l, hsz with
  | [u0, u1, u2, u3, u4, u5, u6, u7, u8, u9, u10, u11, u12, u13, u14, u15, u16], _ =>
    obtain ⟨fuel, hf⟩ := h
    obtain ⟨ys, n, _, _, _, hxl, hff⟩ := DataW.trod_struct Try.underlying32 hf
    match ys, hxl with
    | [y0, y1, y2, y3, y4, y5, y6, y7, y8], _ =>
      have g0 := hff 0 _ rfl
      have g1 := hff 1 _ rfl
      have g2 := hff 2 _ rfl
      have g3 := hff 3 _ rfl
      have g4 := hff 4 _ rfl
      have g5 := hff 5 _ rfl
      have g6 := hff 6 _ rfl
      have g7 := hff 7 _ rfl
      have g8 := hff 8 _ rfl
      have c1 : Try.prog.cellsOf 25 = 5 := by kernel_rfl
      have c2 : Try.prog.cellsOf 29 = 3 := by kernel_rfl
      have c3 : Try.prog.cellsOf 22 = 1 := by kernel_rfl
      have c4 : Try.prog.cellsOf 3 = 1 := by kernel_rfl
      have c5 : Try.prog.cellsOf 4 = 1 := by kernel_rfl
      have c6 : Try.prog.cellsOf 30 = 1 := by kernel_rfl
      simp [Value.cells, c1, c2, c3, c4, c5, c6] at g0 g1 g2 g3 g4 g5 g6 g7 g8
      obtain ⟨zs, n0, _, _, _, hzl, hzz⟩ := DataW.trod_struct Try.underlying25 g0
      match zs, hzl with
      | [z0, z1, z2, z3, z4], _ =>
        have a0 := hzz 0 _ rfl
        have a1 := hzz 1 _ rfl
        have a2 := hzz 2 _ rfl
        have a3 := hzz 3 _ rfl
        have a4 := hzz 4 _ rfl
        have d2 : Try.prog.cellsOf 23 = 1 := by kernel_rfl
        simp [c3, d2, c4] at a0 a1 a2 a3 a4
        obtain ⟨ts, t1, t2, t3⟩ := TsOpen a0
        obtain ⟨xs, x1, x2⟩ := InsOpen a1
        obtain ⟨o2, e2, _, _⟩ := DataW.trod_int Try.underlying3 a2
        obtain ⟨o3, e3, _, _⟩ := DataW.trod_int Try.underlying3 a3
        obtain ⟨o4, e4, _, _⟩ := DataW.trod_int Try.underlying3 a4
        obtain ⟨ns, n1, n2, n3⟩ := TsOpen g1
        obtain ⟨bv, bc, bo, rfl, b1, b2, b3⟩ := storeParts g2
        obtain ⟨o9, e9, _, _⟩ := DataW.trod_int Try.underlying3 g3
        obtain ⟨ks, k1, k2⟩ := tasksOpen g4
        obtain ⟨o11, e11, _, _⟩ := DataW.trod_int Try.underlying3 g5
        obtain ⟨o12, e12, _, _⟩ := DataW.trod_int Try.underlying3 g6
        obtain ⟨o13, e13, _⟩ := DataW.trod_bool Try.underlying4 g7
        obtain ⟨fv, fc, fo, rfl, f1, f2, f3⟩ := storeParts g8
        simp at e2 e3 e4 e9 e11 e12 e13
        subst e2 e3 e4 e9 e11 e12 e13
        exact ⟨u0, u1, u5, u6, u7, u10, u14, u15, ⟨ts, xs, o2, o3, o4, ns, bv, bc, bo, o9, ks, o11, o12, o13, fv, fc, fo⟩, rfl, ⟨t1, x1, n1, b1, b2, k1, f1, f2⟩, ⟨⟨t2, t3⟩, x2, ⟨n2, n3⟩, b3, k2, f3⟩⟩
theorem lawTickCoord (tv lv nv bu bx kv fu fx : Value) (c : Co) (n : Int) (w : World) {p q : Prop} (_ : p) (_ : q) (h : Co.At w tv lv nv bu bx kv fu fx c) (hf : c.Fit) :
    Calls Try.prog 3 #[.agg (Co.cells tv lv nv bu bx kv fu fx c), .int .i64 n] w fun e w' => e = .returned (.bool true) ∧ Below w.heap.size w w' := lwTick_any tv lv nv bu bx kv fu fx c n w h hf
end Go.Proofs.Ythnmopldpgdenaa
