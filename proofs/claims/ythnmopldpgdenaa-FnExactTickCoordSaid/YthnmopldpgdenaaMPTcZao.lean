/- The specification's copy of a store: rows of its own that may grow. Rows of texts in memory of a call's own, that grow; the program's copy of a row of texts. -/
import Derived.Test.YthnmopldpgdenaaMPTcZan
import Derived.Test.YthnmopldpgdenaaMPTcZab
import Derived.Test.YthnmopldpgdenaaMPTcZam
import Derived.Deep.AppendLies
namespace Go.Proofs.Ythnmopldpgdenaa
section PartRwG
open Go.RowKit

end PartRwG
section PartTxA
open Go.RowKit

/-- The row of the texts ts, in memory of its own from block B on. -/
def TxRow (B : Nat) (w : World) (v : Value) (ts : List ByteArray) : Prop := w.ownsRow B 9 1 v ts.length (ts.map tsv)
theorem TxRow.nil (B : Nat) (w : World) : TxRow B w (.slice none 0 0) [] := World.ownsRow_nil _ _ _ _
theorem ownKeep {B : Nat} {w w' : World} {e : TypeId} {sz : Nat} {v : Value} {n : Nat} {cs : List Value} (h : w.ownsRow B e sz v n cs) (hk : ∀ q, v.ownBlock = some q → w'.heap[q]? = w.heap[q]?) : w'.ownsRow B e sz v n cs := by
  refine ⟨h.1, ?_⟩
  rcases h.2 with hn | ⟨g, cap, cur, rfl, h1, hg, rest⟩
  · exact .inl hn
  · exact .inr ⟨g, cap, cur, rfl, h1, (hk g rfl).trans hg, rest⟩
theorem TxRow.keep {B : Nat} {w w' : World} {v : Value} {ts : List ByteArray} (h : TxRow B w v ts) (hb : Below w.heap.size w w') : TxRow B w' v ts :=
  ownKeep h (fun q hq => hb.block q (World.ownsRow.lt h q hq).2)
theorem TxRow.at {B : Nat} {w : World} {v : Value} {ts : List ByteArray} (h : TxRow B w v ts) : TsAt w v ts := by
  have h' := h
  rcases h'.2 with ⟨rfl, hn⟩ | ⟨g, cap, cur, rfl, h1, hg, _⟩
  · exact ⟨none, 0, by rw [hn], fun h0 => by omega⟩
  · refine ⟨_, cap, rfl, fun _ => ⟨g, 0, rfl, blk_lt hg, fun i hi => ?_⟩⟩
    rw [Nat.zero_add, World.ownsRow.cellAt h i (by omega)]
    simp [hi, tsv]
theorem TxRow.form {B : Nat} {w : World} {v : Value} {ts : List ByteArray} (h : TxRow B w v ts) : ∃ ad c, v = .slice ad ts.length c ∧ (∀ q, v.ownBlock = some q → B ≤ q ∧ q < w.heap.size) := by
  obtain ⟨ad, c, hv, -⟩ := h.at
  exact ⟨ad, c, hv, fun q hq => World.ownsRow.lt h q hq⟩

theorem make0Ts_run (n : Nat) (h : n ≤ 100000000) : ∃ M : Array Value, M.size = n ∧ ∀ W : World, (Instr.makeSlice 22 (.int .i64 0) (.int .i64 (n : Int))).run Try.prog W = .ok (.slice (some ⟨W.heap.size, 0, none⟩) 0 n) (W.alloc (.cells M 9)) := by
  obtain ⟨i0, hi, hz0, hz1, hz2⟩ := info_parts Try.infoTs
  refine ⟨madeCells (Value.string ByteArray.empty).cells (((n : Nat) : Int).toNat * i0.size), ?_, fun W => ?_⟩
  · rw [size_madeCells, hz1]; simp
  · have h := run_make (P := Try.prog) W 22 9 i0 _ Try.underlying22 hi hz0 .i64 .i64 (0 : Int) (n : Int) (by omega) (by omega) (by rw [hz2]; omega) (by omega)
    simpa using h

/-- One text more. -/
theorem TxRow.push {ops : Array Oper} {rest : List Oper} {o : Oper} {a : Act} {Q : Exit → Act → World → Prop} {B : Nat} {w : World} {v : Value} {xs : List ByteArray}
    (hown : TxRow B w v xs) (hgd : o.guard = none) (s x : Operand)
    (ho : o.op = .call { callee := .builtin .append, args := #[s, x], argTypes := #[22, 22] })
    (hs : a.eval s = v) (y : ByteArray) (H : Nat) (hH : w.heap.size = H) (hx : a.eval x = .slice (some ⟨H, 0, none⟩) 1 1)
    (hlen : xs.length < 2000000) (hB : B ≤ w.heap.size)
    (h : ∀ q cap w', TxRow B w' (.slice (some ⟨q, 0, none⟩) (xs.length + 1) cap) (xs ++ [y]) → w.heap.size ≤ w'.heap.size → Below B w w' →
      wpList Try.prog ops Q rest (a.put o.dst (.slice (some ⟨q, 0, none⟩) (xs.length + 1) cap)) w') :
    wpList Try.prog ops Q (o :: rest) a (w.alloc (.cells #[.string y] 9)) := by
  subst hH
  obtain ⟨i0, hi, hz0, hz1, hz2⟩ := info_parts Try.infoTs
  refine wpList_append_lies _ hgd s x 22 ho B 9 i0 (.string ByteArray.empty) 1 16 Try.underlying22 hi hz0 hz1 hz2 rfl (by decide) v xs.length (xs.map tsv) hs (World.ownsRow.alloc hown _) ⟨w.heap.size, 0, none⟩ 1 1 [.string y] hx rfl
    (World.news_of_block (cs := #[.string y]) (t := 9) (fr := (0, 0)) (heap_alloc_new w _)) ?_ (by omega) ?_ ?_ ?_ (w.heap.size + 1) (by simp) ?_
  · intro u hu
    simp at hu
    subst hu
    rfl
  · unfold maxLen; omega
  · omega
  · simp; omega
  · intro g cap w' h2 h3 h4 h5
    have hb0 : Below w.heap.size w (w.alloc (.cells #[.string y] 9)) := (Below.refl _ w).alloc (Nat.le_refl _) _
    have hs3 := h3.size
    simp at hs3
    have hb3 : Below B w w' := (hb0.mono hB).grown h3 (by simp; omega) (fun k hk => (World.ownsRow.lt hown k hk).1)
    refine h g cap w' ?_ (by omega) hb3
    unfold TxRow
    rw [List.map_append, List.length_append]
    exact h2

set_option maxRecDepth 100000 in
set_option maxHeartbeats 1600000 in
theorem copyOfTexts_any (v : Value) (xs : List ByteArray) (w : World) (h : TsAt w v xs) (hl : xs.length ≤ 1048576) (hsm : TsSmall xs xs.length) :
    Calls Try.prog 43 #[v] w fun e w' => ∃ u, e = .returned u ∧ TxRow w.heap.size w' u xs ∧ Below w.heap.size w w' := by
  have HH : Hid (∀ w', Below w.heap.size w w' → TsAt w' v xs) := fun w' hb => h.keep hb
  obtain ⟨ad, c, rfl, -⟩ := h
  have HS : Hid (∀ i, i < xs.length → (xs.getD i ByteArray.empty).size ≤ 1048576) := hsm
  obtain ⟨N, hN⟩ : ∃ N, N = xs.length := ⟨_, rfl⟩
  have HN : Hid (xs.length = N) := hN.symm
  rw [← hN] at HH HS hl ⊢
  obtain ⟨M, hM, hmk⟩ := make0Ts_run N (by omega)
  have HR0 : Hid (TxRow w.heap.size (w.alloc (.cells M 9)) (.slice (some ⟨w.heap.size, 0, none⟩) 0 N) (xs.take 0)) := World.ownsRow_made w M N (Nat.le_refl _) (by unfold maxLen; omega) (by omega)
  clear hN hsm
  go_enter Try.func43, Try.ntmps43
  go_wp2
  go_loopw [3, 5, 11] (fun u _ i wr => ∃ j : Nat, i = .int .i64 (j : Int) ∧ j ≤ N ∧ w.heap.size ≤ wr.heap.size ∧ Hid (Below w.heap.size w wr) ∧ Hid (TxRow w.heap.size wr u (xs.take j))) (fun _ _ i _ => N - (intOf i).toNat)
  case atStart => exact ⟨0, rfl, by omega, by simp, (Below.refl _ _).alloc (Nat.le_refl _) _, HR0⟩
  case round =>
    clear HR0 hM hmk
    obtain ⟨j, rfl, hj, hszr, HW, HR⟩ := hrel
    by_cases hlt : j < N
    · obtain ⟨a', c', e', f⟩ := HH.out _ HW.out
      obtain ⟨rfl, -, rfl⟩ : ad = a' ∧ N = xs.length ∧ c = c' := by simpa using e'
      obtain ⟨b, of, rfl, hb, hc⟩ := f (by rw [HN.out]; omega)
      have t1 := hc j (by rw [HN.out]; exact hlt)
      have hs1 := HS.out j hlt
      obtain ⟨p, hp⟩ : ∃ p, p = xs.getD j ByteArray.empty := ⟨_, rfl⟩
      rw [← hp] at t1 hs1
      have HTK : Hid (xs.take (j + 1) = xs.take j ++ [p]) := by
        show _ = _
        have hj2 : j < xs.length := by rw [HN.out]; exact hlt
        rw [List.take_succ_eq_append_getElem hj2, hp]
        simp [hj2]
      have HLT : Hid ((xs.take j).length = j) := by show _ = _; rw [List.length_take, HN.out]; omega
      clear hp hc f e'
      have i1 : (j : Int) < (N : Int) := by omega
      have i0 : (0 : Int) ≤ (j : Int) := by omega
      have CC : Hid (∀ W, Calls Try.prog 63 #[.string p] W fun e w' => e = .returned (.string p) ∧ Below W.heap.size W w') := fun W => clone_any _ W (by omega)
      go_wp2_with fail
      refine (CC.out _).mono ?_
      rintro e w1 ⟨rfl, hb1⟩
      have HB1 : Hid (Below wr.heap.size wr w1) := hb1
      have HR1 : Hid (TxRow w.heap.size w1 u3 (xs.take j)) := ownKeep HR.out (fun q hq => HB1.out.block q (World.ownsRow.lt HR.out q hq).2)
      have hs9 : w.heap.size ≤ w1.heap.size := Nat.le_trans hszr HB1.out.size
      clear hb1 CC
      go_wp2_with (at_builtin; go_must (refine TxRow.push HR1.out rfl (.tmp 15) (.tmp 18) rfl rfl p _ rfl rfl (by have := HLT.out; omega) hs9 ?_))
      rw [← HTK.out]
      intro q cap w2 hr2 hs2 hb2
      have HR2 : Hid _ := hr2
      have HW2 : Hid (Below w.heap.size w w2) := (HW.out.trans (HB1.out.mono hszr)).trans hb2
      have hs10 : w.heap.size ≤ w2.heap.size := by omega
      clear hr2 hb2 HR1 HR HB1
      go_wp2
      go_roundw
      case rel => exact ⟨j + 1, by go_num, by omega, hs10, HW2, HR2⟩
      case measure => simp [intOf]; omega
    · obtain rfl : j = N := by omega
      have HRF : Hid (TxRow w.heap.size wr u3 xs) := by have := HR.out; rwa [List.take_of_length_le (by rw [HN.out]; exact Nat.le_refl _)] at this
      go_wp2
      go_ret
      exact ⟨_, rfl, HRF.out, HW.out⟩
end PartTxA
end Go.Proofs.Ythnmopldpgdenaa
