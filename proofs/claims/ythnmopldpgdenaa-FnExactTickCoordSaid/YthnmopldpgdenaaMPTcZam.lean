/- The contract of the library's Clone, laid at this program: the same bytes, in memory of its own. Rows of Vars and of Cells that grow; the program's copies of them. -/
import Derived.Shelf.LaysM
import Derived.Shelf.Strconv.Clone
import Derived.Test.YthnmopldpgdenaaProg
import Derived.WalkKit
import Derived.Test.YthnmopldpgdenaaMPTcZal
import Derived.Deep.AppendLies
namespace Go.Proofs.Ythnmopldpgdenaa
section PartShelfC
open Go.Shelf
def Try.laysM316_ren : Go.Shelf.Ren := ⟨fun | 316 => 69 | n => n, fun | 9 => 9 | 3 => 3 | 4 => 4 | 37 => 112 | 0 => 0 | 127 => 115 | 5 => 5 | n => n, fun | n => n⟩
theorem Try.laysM316 : Go.Proofs.LaysM.n316 Try.prog Try.laysM316_ren := {
  mixed := by kernel_rfl
  f316 := Try.func69.trans (congrArg some (by kernel_rfl))
  t0 := Try.underlying0
  a0 := Try.isAgg0
  z0 := Try.sizeOf0
  v0 := Try.zeroValue0
  t3 := Try.underlying3
  a3 := Try.isAgg3
  z3 := Try.sizeOf3
  v3 := Try.zeroValue3
  t4 := Try.underlying4
  a4 := Try.isAgg4
  z4 := Try.sizeOf4
  v4 := Try.zeroValue4
  t9 := Try.underlying9
  a9 := Try.isAgg9
  z9 := Try.sizeOf9
  v9 := Try.zeroValue9
  t37 := Try.underlying112
  a37 := Try.isAgg112
  z37 := Try.sizeOf112
  v37 := Try.zeroValue112
  t127 := Try.underlying115
  a127 := Try.isAgg115
  z127 := Try.sizeOf115
  v127 := Try.zeroValue115
  t5 := Try.underlying5
  a5 := Try.isAgg5
  z5 := Try.sizeOf5
  v5 := Try.zeroValue5
  i0 := by kernel_rfl
  i3 := by kernel_rfl
  i4 := by kernel_rfl
  i5 := by kernel_rfl
  i9 := by kernel_rfl
  i37 := by kernel_rfl
  i127 := by kernel_rfl }
open Go.RowKit in
theorem Try.stringslite_Clone (s : ByteArray) (w : World) (hlim : s.size ≤ 281474976710656) :
    Calls Try.prog 69 #[.string s] w fun e w' => e = .returned (.string s) ∧ Below w.heap.size w w' := Any.stringslite_Clone Try.laysM316 s w hlim
open Go.RowKit in
set_option maxHeartbeats 400000 in
theorem clone_any (s : ByteArray) (w : World) (hs : s.size ≤ 281474976710656) :
    Calls Try.prog 63 #[.string s] w fun e w' => e = .returned (.string s) ∧ Below w.heap.size w w' := by
  go_enter Try.func63, Try.ntmps63
  go_wp2_with (go_at_call 69; refine (Try.stringslite_Clone s _ hs).mono ?_; rintro e w' ⟨rfl, hb⟩)
  go_ret
  exact ⟨rfl, hb⟩
end PartShelfC
section PartRwC
open Go.RowKit

theorem rowKeep {B : Nat} {w w' : World} {e : TypeId} {sz : Nat} {v : Value} {n : Nat} {cs : List Value} (h : w.ownsRow B e sz v n cs) (hk : ∀ q, v.ownBlock = some q → w'.heap[q]? = w.heap[q]?) : w'.ownsRow B e sz v n cs := by
  refine ⟨h.1, ?_⟩
  rcases h.2 with hn | ⟨g, cap, cur, rfl, h1, hg, rest⟩
  · exact .inl hn
  · exact .inr ⟨g, cap, cur, rfl, h1, (hk g rfl).trans hg, rest⟩

theorem keepC2 {W W' : World} {p0 p1 : Addr} {u0 u1 : Value} (hb : Below W.heap.size W W') (h : W.cell? p0 = some u0 ∧ W.cell? p1 = some u1) : W'.cell? p0 = some u0 ∧ W'.cell? p1 = some u1 :=
  ⟨cell_up hb h.1, cell_up hb h.2⟩

def cellsVr (xs : List Vr) : List Value := xs.flatMap fun x => [.string x.name, .string x.val]
/-- The row of the records xs, in memory of its own from block B on. -/
def VrRow (B : Nat) (w : World) (v : Value) (xs : List Vr) : Prop := w.ownsRow B 102 2 v xs.length (cellsVr xs)
theorem cellsVr_get (xs : List Vr) (i : Nat) (hi : i < xs.length) : (cellsVr xs)[i * 2]? = some (.string (xs.getD i Vr.no).name) ∧ (cellsVr xs)[i * 2 + 1]? = some (.string (xs.getD i Vr.no).val) := by
  induction xs generalizing i with
  | nil => simp at hi
  | cons x xs ih =>
    cases i with
    | zero => exact ⟨rfl, rfl⟩
    | succ i =>
      have := ih i (by simpa using hi)
      rw [show (i + 1) * 2 = i * 2 + 1 + 1 by omega]
      exact this
theorem VrRow.in {B : Nat} {w : World} {v : Value} {xs : List Vr} (h : VrRow B w v xs) : VrIn B w.heap.size w v xs := by
  have h' := h
  rcases h'.2 with ⟨rfl, hn⟩ | ⟨g, cap, cur, rfl, h1, hg, hc1, hc2, hc3, hc4⟩
  · exact ⟨none, 0, by rw [hn], fun h0 => by omega⟩
  · refine ⟨_, cap, rfl, fun _ => ⟨g, cur, rfl, h1, blk_lt hg, hg, fun i hi => ?_⟩⟩
    have e : ∀ j, j < xs.length * 2 → cur[j]? = (cellsVr xs)[j]? := by
      intro j hj
      rw [← hc4, List.getElem?_take, if_pos hj, Array.getElem?_toList]
    rw [e (i * 2) (by omega), e (i * 2 + 1) (by omega)]
    exact cellsVr_get xs i hi
theorem make0Vr_run (n : Nat) (h : n ≤ 100000000) : ∃ M : Array Value, M.size = n * 2 ∧ ∀ W : World, (Instr.makeSlice 37 (.int .i64 0) (.int .i64 (n : Int))).run Try.prog W = .ok (.slice (some ⟨W.heap.size, 0, none⟩) 0 n) (W.alloc (.cells M 102)) := by
  obtain ⟨i0, hi, hz0, hz1, hz2⟩ := info_parts Try.infoVr
  refine ⟨madeCells (Value.agg #[.string ByteArray.empty, .string ByteArray.empty]).cells (((n : Nat) : Int).toNat * i0.size), ?_, fun W => ?_⟩
  · rw [size_madeCells, hz1]; simp
  · have h := run_make (P := Try.prog) W 37 102 i0 _ Try.underlying37 hi hz0 .i64 .i64 (0 : Int) (n : Int) (by omega) (by omega) (by rw [hz2]; omega) (by omega)
    simpa using h
theorem VrRow.push {ops : Array Oper} {rest : List Oper} {o : Oper} {a : Act} {Q : Exit → Act → World → Prop} {B : Nat} {w : World} {v : Value} {xs : List Vr}
    (hown : VrRow B w v xs) (hgd : o.guard = none) (s x : Operand)
    (ho : o.op = .call { callee := .builtin .append, args := #[s, x], argTypes := #[37, 37] })
    (hs : a.eval s = v) (y : Vr) (H : Nat) (hH : w.heap.size = H) (hx : a.eval x = .slice (some ⟨H, 0, none⟩) 1 1)
    (hlen : xs.length < 2000000) (hB : B ≤ w.heap.size)
    (h : ∀ q cap w', VrRow B w' (.slice (some ⟨q, 0, none⟩) (xs.length + 1) cap) (xs ++ [y]) → w.heap.size ≤ w'.heap.size → Below B w w' →
      wpList Try.prog ops Q rest (a.put o.dst (.slice (some ⟨q, 0, none⟩) (xs.length + 1) cap)) w') :
    wpList Try.prog ops Q (o :: rest) a (w.alloc (.cells #[.string y.name, .string y.val] 102)) := by
  subst hH
  obtain ⟨i0, hi, hz0, hz1, hz2⟩ := info_parts Try.infoVr
  refine wpList_append_lies _ hgd s x 37 ho B 102 i0 (.agg #[.string ByteArray.empty, .string ByteArray.empty]) 2 32 Try.underlying37 hi hz0 hz1 hz2 rfl (by decide) v xs.length (cellsVr xs) hs (World.ownsRow.alloc hown _) ⟨w.heap.size, 0, none⟩ 1 1 [.string y.name, .string y.val] hx rfl
    (World.news_of_block (cs := #[.string y.name, .string y.val]) (t := 102) (fr := (0, 0)) (heap_alloc_new w _)) ?_ (by omega) ?_ ?_ ?_ (w.heap.size + 1) (by simp) ?_
  · intro u hu
    simp at hu
    rcases hu with rfl | rfl <;> rfl
  · unfold maxLen; omega
  · omega
  · simp; omega
  · intro g cap w' h2 h3 h4 h5
    have hb0 : Below w.heap.size w (w.alloc (.cells #[.string y.name, .string y.val] 102)) := (Below.refl _ w).alloc (Nat.le_refl _) _
    have hs3 := h3.size
    simp at hs3
    have hb3 : Below B w w' := (hb0.mono hB).grown h3 (by simp; omega) (fun k hk => (World.ownsRow.lt hown k hk).1)
    refine h g cap w' ?_ (by omega) hb3
    unfold VrRow cellsVr
    rw [List.flatMap_append, List.length_append]
    exact h2

set_option maxRecDepth 100000 in
set_option maxHeartbeats 1600000 in
theorem cloneVar_any (x0 x1 : ByteArray) (w : World) (h0 : x0.size ≤ 1048576) (h1 : x1.size ≤ 1048576) :
    Calls Try.prog 85 #[.agg #[.string x0, .string x1]] w fun e w' => e = .returned (.agg #[.string x0, .string x1]) ∧ Below w.heap.size w w' := by
  have C0 : Hid (∀ W, Calls Try.prog 63 #[.string x0] W fun e w' => e = .returned (.string x0) ∧ Below W.heap.size W w') := fun W => clone_any x0 W (by omega)
  have C1 : Hid (∀ W, Calls Try.prog 63 #[.string x1] W fun e w' => e = .returned (.string x1) ∧ Below W.heap.size W w') := fun W => clone_any x1 W (by omega)
  have HB : Hid (Below w.heap.size w ((w.alloc (.cells #[.string x0, .string x1] 102)).alloc (.cells #[.string ByteArray.empty, .string ByteArray.empty] 102))) := ((Below.refl _ _).alloc (Nat.le_refl _) _).alloc (by simp) _
  have q0 := s2_0 w (.cells #[.string x0, .string x1] 102) (.cells #[.string ByteArray.empty, .string ByteArray.empty] 102)
  have q1 := s2_1 w (.cells #[.string x0, .string x1] 102) (.cells #[.string ByteArray.empty, .string ByteArray.empty] 102)
  have hz : w.heap.size + 1 < ((w.alloc (.cells #[.string x0, .string x1] 102)).alloc (.cells #[.string ByteArray.empty, .string ByteArray.empty] 102)).heap.size := by simp
  have HZ : Hid _ := And.intro q1 hz
  have z0 := blk_cell q0 0
  have z1 := blk_cell q0 1
  simp only [List.getElem?_toArray, List.getElem?_cons_zero, List.getElem?_cons_succ] at z0 z1
  clear q0 q1 hz h0 h1
  go_enter Try.func85, Try.ntmps85
  go_wp2_with fail
  change Code.wp _ _ _ _ ((w.alloc (.cells #[.string x0, .string x1] 102)).alloc (.cells #[.string ByteArray.empty, .string ByteArray.empty] 102))
  generalize (w.alloc (.cells #[.string x0, .string x1] 102)).alloc (.cells #[.string ByteArray.empty, .string ByteArray.empty] 102) = W0 at *
  have HST : Hid (∀ W, Below W0.heap.size W0 W → (W.cell? ⟨w.heap.size + 1, 0, none⟩ = some (.string ByteArray.empty) ∧ W.cell? ⟨w.heap.size + 1, 1, none⟩ = some (.string ByteArray.empty)) ∧ W.frozen? ⟨w.heap.size + 1, 0, none⟩ = false ∧ W.frozen? ⟨w.heap.size + 1, 1, none⟩ = false) := fun W hb => by
    have r := (hb.block _ HZ.out.2).trans HZ.out.1
    exact ⟨⟨(blk_cell r 0).trans rfl, (blk_cell r 1).trans rfl⟩, blk_free r 0, blk_free r 1⟩
  go_region_held3 (fun W => W.cell? ⟨w.heap.size, 0, none⟩ = some (.string x0) ∧ W.cell? ⟨w.heap.size, 1, none⟩ = some (.string x1)) (first | exact keepC2 hb2 (by assumption) | exact keepC2 hb1 (by assumption) | go_keep | exact ⟨z0, z1⟩ | assumption) ((first | (go_at_call_of 63 (Value.string x0); refine (C0.out _).mono ?_; rintro e w1 ⟨rfl, hb1⟩) | (go_at_call_of 63 (Value.string x1); refine (C1.out _).mono ?_; rintro e w2 ⟨rfl, hb2⟩; have HBL : Hid (Below W0.heap.size W0 w2) := (((Below.refl W0.heap.size W0).drew).trans (hb1.mono ((Below.refl W0.heap.size W0).drew).size)).trans (hb2.mono (((Below.refl W0.heap.size W0).drew).trans (hb1.mono ((Below.refl W0.heap.size W0).drew).size)).size); obtain ⟨⟨y0, y1⟩, f0, f1⟩ := HST.out w2 HBL.out)))
  all_goals
    have HRR : Hid _ := (HBL.out.block _ HZ.out.2).trans HZ.out.1
    go_wp2_with fail
    refine bodyPost_ret (results_cell_row (p := 2) (ty := 102) rfl _ _ (w.heap.size + 1) 102 _ (0, 0) _ rfl (blk_set (blk_set (HRR.out) 0 (.string x0)) 1 (.string x1)) Try.underlying102 rfl (by kernel_rfl)) rfl ?_
    exact ⟨rfl, (((HB.out.trans (HBL.out.mono HB.out.size)).setCell (by show _ ≤ w.heap.size + 1; omega) _).setCell (by show _ ≤ w.heap.size + 1; omega) _)⟩

set_option maxRecDepth 100000 in
set_option maxHeartbeats 2000000 in
theorem copyOfVar_any (v : Value) (xs : List Vr) (w : World) (h : VrAt w v xs) (hl : xs.length ≤ 1048576) (hsm : VrSmall xs xs.length) :
    Calls Try.prog 64 #[v] w fun e w' => ∃ u, e = .returned u ∧ VrIn w.heap.size w'.heap.size w' u xs ∧ Below w.heap.size w w' := by
  have HH : Hid (∀ W, Below w.heap.size w W → VrAt W v xs) := fun W hb => h.keep hb
  obtain ⟨ad, c, rfl, -⟩ := h
  obtain ⟨N, hN⟩ : ∃ N, N = xs.length := ⟨_, rfl⟩
  have HN : Hid (xs.length = N) := hN.symm
  rw [← hN] at hl HH ⊢
  have HS : Hid (VrSmall xs N) := by rw [hN]; exact hsm
  clear hN hsm
  obtain ⟨M, hM, hmk⟩ := make0Vr_run N (by omega)
  have HR0 : Hid (VrRow w.heap.size (w.alloc (.cells M 102)) (.slice (some ⟨w.heap.size, 0, none⟩) 0 N) []) := World.ownsRow_made w M N (Nat.le_refl _) (by unfold maxLen; omega) hM
  go_enter Try.func64, Try.ntmps64
  go_wp2
  go_loopw [3, 11] (fun u i wr => ∃ j : Nat, i = .int .i64 (j : Int) ∧ j ≤ N ∧ w.heap.size ≤ wr.heap.size ∧ Hid (Below w.heap.size w wr) ∧ Hid (VrRow w.heap.size wr u (xs.take j))) (fun _ i _ => N - (intOf i).toNat)
  case atStart => exact ⟨0, rfl, by omega, by simp, (Below.refl _ _).alloc (Nat.le_refl _) _, HR0⟩
  case round =>
    clear HR0 hM hmk
    obtain ⟨j, rfl, hj, hszr, HW, HR⟩ := hrel
    by_cases hlt : j < N
    · obtain ⟨a', c', e', f⟩ := HH.out _ HW.out
      obtain ⟨rfl, -, rfl⟩ : ad = a' ∧ N = xs.length ∧ c = c' := by simpa using e'
      obtain ⟨b, of, rfl, hb, hc⟩ := f (by rw [HN.out]; omega)
      have t1 := hc j (by rw [HN.out]; exact hlt)
      have hs1 := HS.out j hlt
      obtain ⟨p, hp⟩ : ∃ p, p = xs.getD j Vr.no := ⟨_, rfl⟩
      rw [← hp] at t1 hs1
      have HTK : Hid (xs.take (j + 1) = xs.take j ++ [p]) := by
        show _ = _
        have hj2 : j < xs.length := by rw [HN.out]; exact hlt
        rw [List.take_succ_eq_append_getElem hj2, hp]
        simp [hj2]
      have HLT : Hid ((xs.take j).length = j) := by show _ = _; rw [List.length_take, HN.out]; omega
      clear hp hc f e'
      obtain ⟨p0, p1⟩ := p
      simp only at t1 hs1
      obtain ⟨x0, x1⟩ := t1
      have i1 : (j : Int) < (N : Int) := by omega
      have i0 : (0 : Int) ≤ (j : Int) := by omega
      have CC : Hid (∀ W, Calls Try.prog 85 #[.agg #[.string p0, .string p1]] W fun e w' => e = .returned (.agg #[.string p0, .string p1]) ∧ Below W.heap.size W w') := fun W => cloneVar_any _ _ W hs1.1 hs1.2
      have HAL : Hid (Below wr.heap.size wr (wr.alloc (.cells #[.string p0, .string p1] 102))) := (Below.refl _ _).alloc (Nat.le_refl _) _
      go_wp2_with fail
      refine (CC.out _).mono ?_
      rintro e w1 ⟨rfl, hb1⟩
      have HB1 : Hid (Below wr.heap.size wr w1) := HAL.out.trans (hb1.mono HAL.out.size)
      have HR1 : Hid (VrRow w.heap.size w1 u3 (xs.take j)) := rowKeep HR.out (fun q hq => HB1.out.block q (World.ownsRow.lt HR.out q hq).2)
      have hs9 : w.heap.size ≤ w1.heap.size := Nat.le_trans hszr HB1.out.size
      clear hb1 CC
      go_wp2_with (at_builtin; go_must (refine VrRow.push HR1.out rfl (.tmp 15) (.tmp 19) rfl rfl ⟨p0, p1⟩ _ rfl rfl (by have := HLT.out; omega) hs9 ?_))
      rw [← HTK.out]
      intro q cap w2 hr2 hs2 hb2
      have HR2 : Hid _ := hr2
      have HW2 : Hid (Below w.heap.size w w2) := (HW.out.trans (HB1.out.mono hszr)).trans hb2
      have hs10 : w.heap.size ≤ w2.heap.size := by omega
      clear hr2 hb2 HR1 HR HB1
      go_wp2
      go_roundw
      case rel => exact ⟨j + 1, by go_num, by omega, hs10, HW2, HR2⟩
      case measure => simp [intOf]; omega
    · obtain rfl : j = N := by omega
      have HRF : Hid (VrRow w.heap.size wr u3 xs) := by have := HR.out; rwa [List.take_of_length_le (by rw [HN.out]; exact Nat.le_refl _)] at this
      go_wp2
      go_ret
      exact ⟨_, rfl, HRF.out.in, HW.out⟩

theorem keepC3 {W W' : World} {p0 p1 p2 : Addr} {u0 u1 u2 : Value} (hb : Below W.heap.size W W') (h : W.cell? p0 = some u0 ∧ W.cell? p1 = some u1 ∧ W.cell? p2 = some u2) : W'.cell? p0 = some u0 ∧ W'.cell? p1 = some u1 ∧ W'.cell? p2 = some u2 :=
  ⟨cell_up hb h.1, cell_up hb h.2.1, cell_up hb h.2.2⟩

def cellsCl (xs : List Cl) : List Value := xs.flatMap fun x => [.string x.name, .string x.key, .string x.val]
/-- The row of the records xs, in memory of its own from block B on. -/
def ClRow (B : Nat) (w : World) (v : Value) (xs : List Cl) : Prop := w.ownsRow B 104 3 v xs.length (cellsCl xs)
theorem cellsCl_get (xs : List Cl) (i : Nat) (hi : i < xs.length) : (cellsCl xs)[i * 3]? = some (.string (xs.getD i Cl.no).name) ∧ (cellsCl xs)[i * 3 + 1]? = some (.string (xs.getD i Cl.no).key) ∧ (cellsCl xs)[i * 3 + 2]? = some (.string (xs.getD i Cl.no).val) := by
  induction xs generalizing i with
  | nil => simp at hi
  | cons x xs ih =>
    cases i with
    | zero => exact ⟨rfl, rfl, rfl⟩
    | succ i =>
      have := ih i (by simpa using hi)
      rw [show (i + 1) * 3 = i * 3 + 1 + 1 + 1 by omega]
      exact this
theorem ClRow.in {B : Nat} {w : World} {v : Value} {xs : List Cl} (h : ClRow B w v xs) : ClIn B w.heap.size w v xs := by
  have h' := h
  rcases h'.2 with ⟨rfl, hn⟩ | ⟨g, cap, cur, rfl, h1, hg, hc1, hc2, hc3, hc4⟩
  · exact ⟨none, 0, by rw [hn], fun h0 => by omega⟩
  · refine ⟨_, cap, rfl, fun _ => ⟨g, cur, rfl, h1, blk_lt hg, hg, fun i hi => ?_⟩⟩
    have e : ∀ j, j < xs.length * 3 → cur[j]? = (cellsCl xs)[j]? := by
      intro j hj
      rw [← hc4, List.getElem?_take, if_pos hj, Array.getElem?_toList]
    rw [e (i * 3) (by omega), e (i * 3 + 1) (by omega), e (i * 3 + 2) (by omega)]
    exact cellsCl_get xs i hi
theorem make0Cl_run (n : Nat) (h : n ≤ 100000000) : ∃ M : Array Value, M.size = n * 3 ∧ ∀ W : World, (Instr.makeSlice 38 (.int .i64 0) (.int .i64 (n : Int))).run Try.prog W = .ok (.slice (some ⟨W.heap.size, 0, none⟩) 0 n) (W.alloc (.cells M 104)) := by
  obtain ⟨i0, hi, hz0, hz1, hz2⟩ := info_parts Try.infoCl
  refine ⟨madeCells (Value.agg #[.string ByteArray.empty, .string ByteArray.empty, .string ByteArray.empty]).cells (((n : Nat) : Int).toNat * i0.size), ?_, fun W => ?_⟩
  · rw [size_madeCells, hz1]; simp
  · have h := run_make (P := Try.prog) W 38 104 i0 _ Try.underlying38 hi hz0 .i64 .i64 (0 : Int) (n : Int) (by omega) (by omega) (by rw [hz2]; omega) (by omega)
    simpa using h
theorem ClRow.push {ops : Array Oper} {rest : List Oper} {o : Oper} {a : Act} {Q : Exit → Act → World → Prop} {B : Nat} {w : World} {v : Value} {xs : List Cl}
    (hown : ClRow B w v xs) (hgd : o.guard = none) (s x : Operand)
    (ho : o.op = .call { callee := .builtin .append, args := #[s, x], argTypes := #[38, 38] })
    (hs : a.eval s = v) (y : Cl) (H : Nat) (hH : w.heap.size = H) (hx : a.eval x = .slice (some ⟨H, 0, none⟩) 1 1)
    (hlen : xs.length < 2000000) (hB : B ≤ w.heap.size)
    (h : ∀ q cap w', ClRow B w' (.slice (some ⟨q, 0, none⟩) (xs.length + 1) cap) (xs ++ [y]) → w.heap.size ≤ w'.heap.size → Below B w w' →
      wpList Try.prog ops Q rest (a.put o.dst (.slice (some ⟨q, 0, none⟩) (xs.length + 1) cap)) w') :
    wpList Try.prog ops Q (o :: rest) a (w.alloc (.cells #[.string y.name, .string y.key, .string y.val] 104)) := by
  subst hH
  obtain ⟨i0, hi, hz0, hz1, hz2⟩ := info_parts Try.infoCl
  refine wpList_append_lies _ hgd s x 38 ho B 104 i0 (.agg #[.string ByteArray.empty, .string ByteArray.empty, .string ByteArray.empty]) 3 48 Try.underlying38 hi hz0 hz1 hz2 rfl (by decide) v xs.length (cellsCl xs) hs (World.ownsRow.alloc hown _) ⟨w.heap.size, 0, none⟩ 1 1 [.string y.name, .string y.key, .string y.val] hx rfl
    (World.news_of_block (cs := #[.string y.name, .string y.key, .string y.val]) (t := 104) (fr := (0, 0)) (heap_alloc_new w _)) ?_ (by omega) ?_ ?_ ?_ (w.heap.size + 1) (by simp) ?_
  · intro u hu
    simp at hu
    rcases hu with rfl | rfl | rfl <;> rfl
  · unfold maxLen; omega
  · omega
  · simp; omega
  · intro g cap w' h2 h3 h4 h5
    have hb0 : Below w.heap.size w (w.alloc (.cells #[.string y.name, .string y.key, .string y.val] 104)) := (Below.refl _ w).alloc (Nat.le_refl _) _
    have hs3 := h3.size
    simp at hs3
    have hb3 : Below B w w' := (hb0.mono hB).grown h3 (by simp; omega) (fun k hk => (World.ownsRow.lt hown k hk).1)
    refine h g cap w' ?_ (by omega) hb3
    unfold ClRow cellsCl
    rw [List.flatMap_append, List.length_append]
    exact h2

set_option maxRecDepth 100000 in
set_option maxHeartbeats 1600000 in
theorem cloneCell_any (x0 x1 x2 : ByteArray) (w : World) (h0 : x0.size ≤ 1048576) (h1 : x1.size ≤ 1048576) (h2 : x2.size ≤ 1048576) :
    Calls Try.prog 86 #[.agg #[.string x0, .string x1, .string x2]] w fun e w' => e = .returned (.agg #[.string x0, .string x1, .string x2]) ∧ Below w.heap.size w w' := by
  have C0 : Hid (∀ W, Calls Try.prog 63 #[.string x0] W fun e w' => e = .returned (.string x0) ∧ Below W.heap.size W w') := fun W => clone_any x0 W (by omega)
  have C1 : Hid (∀ W, Calls Try.prog 63 #[.string x1] W fun e w' => e = .returned (.string x1) ∧ Below W.heap.size W w') := fun W => clone_any x1 W (by omega)
  have C2 : Hid (∀ W, Calls Try.prog 63 #[.string x2] W fun e w' => e = .returned (.string x2) ∧ Below W.heap.size W w') := fun W => clone_any x2 W (by omega)
  have HB : Hid (Below w.heap.size w ((w.alloc (.cells #[.string x0, .string x1, .string x2] 104)).alloc (.cells #[.string ByteArray.empty, .string ByteArray.empty, .string ByteArray.empty] 104))) := ((Below.refl _ _).alloc (Nat.le_refl _) _).alloc (by simp) _
  have q0 := s2_0 w (.cells #[.string x0, .string x1, .string x2] 104) (.cells #[.string ByteArray.empty, .string ByteArray.empty, .string ByteArray.empty] 104)
  have q1 := s2_1 w (.cells #[.string x0, .string x1, .string x2] 104) (.cells #[.string ByteArray.empty, .string ByteArray.empty, .string ByteArray.empty] 104)
  have hz : w.heap.size + 1 < ((w.alloc (.cells #[.string x0, .string x1, .string x2] 104)).alloc (.cells #[.string ByteArray.empty, .string ByteArray.empty, .string ByteArray.empty] 104)).heap.size := by simp
  have HZ : Hid _ := And.intro q1 hz
  have z0 := blk_cell q0 0
  have z1 := blk_cell q0 1
  have z2 := blk_cell q0 2
  simp only [List.getElem?_toArray, List.getElem?_cons_zero, List.getElem?_cons_succ] at z0 z1 z2
  clear q0 q1 hz h0 h1 h2
  go_enter Try.func86, Try.ntmps86
  go_wp2_with fail
  change Code.wp _ _ _ _ ((w.alloc (.cells #[.string x0, .string x1, .string x2] 104)).alloc (.cells #[.string ByteArray.empty, .string ByteArray.empty, .string ByteArray.empty] 104))
  generalize (w.alloc (.cells #[.string x0, .string x1, .string x2] 104)).alloc (.cells #[.string ByteArray.empty, .string ByteArray.empty, .string ByteArray.empty] 104) = W0 at *
  have HST : Hid (∀ W, Below W0.heap.size W0 W → (W.cell? ⟨w.heap.size + 1, 0, none⟩ = some (.string ByteArray.empty) ∧ W.cell? ⟨w.heap.size + 1, 1, none⟩ = some (.string ByteArray.empty) ∧ W.cell? ⟨w.heap.size + 1, 2, none⟩ = some (.string ByteArray.empty)) ∧ W.frozen? ⟨w.heap.size + 1, 0, none⟩ = false ∧ W.frozen? ⟨w.heap.size + 1, 1, none⟩ = false ∧ W.frozen? ⟨w.heap.size + 1, 2, none⟩ = false) := fun W hb => by
    have r := (hb.block _ HZ.out.2).trans HZ.out.1
    exact ⟨⟨(blk_cell r 0).trans rfl, (blk_cell r 1).trans rfl, (blk_cell r 2).trans rfl⟩, blk_free r 0, blk_free r 1, blk_free r 2⟩
  go_region_held3 (fun W => W.cell? ⟨w.heap.size, 0, none⟩ = some (.string x0) ∧ W.cell? ⟨w.heap.size, 1, none⟩ = some (.string x1) ∧ W.cell? ⟨w.heap.size, 2, none⟩ = some (.string x2)) (first | exact keepC3 hb3 (by assumption) | exact keepC3 hb2 (by assumption) | exact keepC3 hb1 (by assumption) | go_keep | exact ⟨z0, z1, z2⟩ | assumption) ((first | (go_at_call_of 63 (Value.string x0); refine (C0.out _).mono ?_; rintro e w1 ⟨rfl, hb1⟩) | (go_at_call_of 63 (Value.string x1); refine (C1.out _).mono ?_; rintro e w2 ⟨rfl, hb2⟩) | (go_at_call_of 63 (Value.string x2); refine (C2.out _).mono ?_; rintro e w3 ⟨rfl, hb3⟩; have HBL : Hid (Below W0.heap.size W0 w3) := ((((Below.refl W0.heap.size W0).drew).trans (hb1.mono ((Below.refl W0.heap.size W0).drew).size)).trans (hb2.mono (((Below.refl W0.heap.size W0).drew).trans (hb1.mono ((Below.refl W0.heap.size W0).drew).size)).size)).trans (hb3.mono ((((Below.refl W0.heap.size W0).drew).trans (hb1.mono ((Below.refl W0.heap.size W0).drew).size)).trans (hb2.mono (((Below.refl W0.heap.size W0).drew).trans (hb1.mono ((Below.refl W0.heap.size W0).drew).size)).size)).size); obtain ⟨⟨y0, y1, y2⟩, f0, f1, f2⟩ := HST.out w3 HBL.out)))
  all_goals
    have HRR : Hid _ := (HBL.out.block _ HZ.out.2).trans HZ.out.1
    go_wp2_with fail
    refine bodyPost_ret (results_cell_row (p := 2) (ty := 104) rfl _ _ (w.heap.size + 1) 104 _ (0, 0) _ rfl (blk_set (blk_set (blk_set (HRR.out) 0 (.string x0)) 1 (.string x1)) 2 (.string x2)) Try.underlying104 rfl (by kernel_rfl)) rfl ?_
    exact ⟨rfl, ((((HB.out.trans (HBL.out.mono HB.out.size)).setCell (by show _ ≤ w.heap.size + 1; omega) _).setCell (by show _ ≤ w.heap.size + 1; omega) _).setCell (by show _ ≤ w.heap.size + 1; omega) _)⟩

set_option maxRecDepth 100000 in
set_option maxHeartbeats 2000000 in
theorem copyOfCell_any (v : Value) (xs : List Cl) (w : World) (h : ClAt w v xs) (hl : xs.length ≤ 1048576) (hsm : ClSmall xs xs.length) :
    Calls Try.prog 65 #[v] w fun e w' => ∃ u, e = .returned u ∧ ClIn w.heap.size w'.heap.size w' u xs ∧ Below w.heap.size w w' := by
  have HH : Hid (∀ W, Below w.heap.size w W → ClAt W v xs) := fun W hb => h.keep hb
  obtain ⟨ad, c, rfl, -⟩ := h
  obtain ⟨N, hN⟩ : ∃ N, N = xs.length := ⟨_, rfl⟩
  have HN : Hid (xs.length = N) := hN.symm
  rw [← hN] at hl HH ⊢
  have HS : Hid (ClSmall xs N) := by rw [hN]; exact hsm
  clear hN hsm
  obtain ⟨M, hM, hmk⟩ := make0Cl_run N (by omega)
  have HR0 : Hid (ClRow w.heap.size (w.alloc (.cells M 104)) (.slice (some ⟨w.heap.size, 0, none⟩) 0 N) []) := World.ownsRow_made w M N (Nat.le_refl _) (by unfold maxLen; omega) hM
  go_enter Try.func65, Try.ntmps65
  go_wp2
  go_loopw [3, 11] (fun u i wr => ∃ j : Nat, i = .int .i64 (j : Int) ∧ j ≤ N ∧ w.heap.size ≤ wr.heap.size ∧ Hid (Below w.heap.size w wr) ∧ Hid (ClRow w.heap.size wr u (xs.take j))) (fun _ i _ => N - (intOf i).toNat)
  case atStart => exact ⟨0, rfl, by omega, by simp, (Below.refl _ _).alloc (Nat.le_refl _) _, HR0⟩
  case round =>
    clear HR0 hM hmk
    obtain ⟨j, rfl, hj, hszr, HW, HR⟩ := hrel
    by_cases hlt : j < N
    · obtain ⟨a', c', e', f⟩ := HH.out _ HW.out
      obtain ⟨rfl, -, rfl⟩ : ad = a' ∧ N = xs.length ∧ c = c' := by simpa using e'
      obtain ⟨b, of, rfl, hb, hc⟩ := f (by rw [HN.out]; omega)
      have t1 := hc j (by rw [HN.out]; exact hlt)
      have hs1 := HS.out j hlt
      obtain ⟨p, hp⟩ : ∃ p, p = xs.getD j Cl.no := ⟨_, rfl⟩
      rw [← hp] at t1 hs1
      have HTK : Hid (xs.take (j + 1) = xs.take j ++ [p]) := by
        show _ = _
        have hj2 : j < xs.length := by rw [HN.out]; exact hlt
        rw [List.take_succ_eq_append_getElem hj2, hp]
        simp [hj2]
      have HLT : Hid ((xs.take j).length = j) := by show _ = _; rw [List.length_take, HN.out]; omega
      clear hp hc f e'
      obtain ⟨p0, p1, p2⟩ := p
      simp only at t1 hs1
      obtain ⟨x0, x1, x2⟩ := t1
      have i1 : (j : Int) < (N : Int) := by omega
      have i0 : (0 : Int) ≤ (j : Int) := by omega
      have CC : Hid (∀ W, Calls Try.prog 86 #[.agg #[.string p0, .string p1, .string p2]] W fun e w' => e = .returned (.agg #[.string p0, .string p1, .string p2]) ∧ Below W.heap.size W w') := fun W => cloneCell_any _ _ _ W hs1.1 hs1.2.1 hs1.2.2
      have HAL : Hid (Below wr.heap.size wr (wr.alloc (.cells #[.string p0, .string p1, .string p2] 104))) := (Below.refl _ _).alloc (Nat.le_refl _) _
      go_wp2_with fail
      refine (CC.out _).mono ?_
      rintro e w1 ⟨rfl, hb1⟩
      have HB1 : Hid (Below wr.heap.size wr w1) := HAL.out.trans (hb1.mono HAL.out.size)
      have HR1 : Hid (ClRow w.heap.size w1 u3 (xs.take j)) := rowKeep HR.out (fun q hq => HB1.out.block q (World.ownsRow.lt HR.out q hq).2)
      have hs9 : w.heap.size ≤ w1.heap.size := Nat.le_trans hszr HB1.out.size
      clear hb1 CC
      go_wp2_with (at_builtin; go_must (refine ClRow.push HR1.out rfl (.tmp 15) (.tmp 19) rfl rfl ⟨p0, p1, p2⟩ _ rfl rfl (by have := HLT.out; omega) hs9 ?_))
      rw [← HTK.out]
      intro q cap w2 hr2 hs2 hb2
      have HR2 : Hid _ := hr2
      have HW2 : Hid (Below w.heap.size w w2) := (HW.out.trans (HB1.out.mono hszr)).trans hb2
      have hs10 : w.heap.size ≤ w2.heap.size := by omega
      clear hr2 hb2 HR1 HR HB1
      go_wp2
      go_roundw
      case rel => exact ⟨j + 1, by go_num, by omega, hs10, HW2, HR2⟩
      case measure => simp [intOf]; omega
    · obtain rfl : j = N := by omega
      have HRF : Hid (ClRow w.heap.size wr u3 xs) := by have := HR.out; rwa [List.take_of_length_le (by rw [HN.out]; exact Nat.le_refl _)] at this
      go_wp2
      go_ret
      exact ⟨_, rfl, HRF.out.in, HW.out⟩
end PartRwC
end Go.Proofs.Ythnmopldpgdenaa
