/- The program's plainToken, markedToken and signToken. -/
import Derived.Test.YtbiknfhfpmomfapItD
import Derived.Test.YtbiknfhfpmomfapTkC
import Derived.Test.YtbiknfhfpmomfapShelfC
namespace Go.Proofs.Ytbiknfhfpmomfap
open Go.RowKit

theorem alloc1_0 (w : World) (o : Obj) : (w.alloc o).heap[w.heap.size]? = some o := by
  show (w.heap.push o)[w.heap.size]? = _
  simp
theorem below1 (w : World) (o : Obj) : Below w.heap.size w (w.alloc o) := (Below.refl _ _).alloc (Nat.le_refl _) _
theorem size1 (w : World) (o : Obj) : w.heap.size < (w.alloc o).heap.size := by
  show _ < (w.heap.push o).size
  simp

set_option maxRecDepth 100000 in
set_option maxHeartbeats 1000000 in
theorem plainToken_any (kind most : Nat) (l : List UInt8) (w : World) (hl : l.length ≤ 1048576) :
    Calls Try.prog 23 #[.int .i64 (kind : Int), .string (tx l), .int .i64 (most : Int)] w fun e w' => e = .returned (onev (if most < l.length then none else some (⟨kind, l⟩, l.length))) ∧ Below w.heap.size w w' := by
  have CC : Hid (∀ w, Calls Try.prog 32 #[.string (tx l)] w fun e w' => e = .returned (.string (tx l)) ∧ Below w.heap.size w w') := fun w => clone_any (tx l) w (by rw [tx_size]; omega)
  have z1 : (tx l).size = l.length := tx_size l
  by_cases h : most < l.length
  · rw [if_pos h]
    have d1 : decide ((most : Int) < (l.length : Int)) = true := decide_eq_true (by omega)
    go_enter Try.func23, Try.ntmps23
    go_wp2
    exact bodyPost_ret (res_tok rfl _ _ w.heap.size _ _ rfl (alloc1_0 _ _)) rfl ⟨rfl, below1 _ _⟩
  · rw [if_neg h]
    have d1 : decide ((most : Int) < (l.length : Int)) = false := decide_eq_false (by omega)
    go_enter Try.func23, Try.ntmps23
    go_wp2_with fail
    refine (CC.out _).mono ?_
    rintro e w1 ⟨rfl, b1⟩
    have r1 := (b1.block w.heap.size (size1 _ _)).trans (alloc1_0 _ _)
    have HB : Hid (Below w.heap.size w w1) := (below1 _ _).trans (b1.mono (Nat.le_of_lt (size1 _ _)))
    have HR1 : Hid _ := r1
    obtain ⟨c0, c1, f0, f1⟩ := tok_cells r1
    clear b1 r1 CC
    go_wp2
    exact bodyPost_ret (res_tok rfl _ _ w.heap.size _ _ rfl (tok_stored HR1.out _ _)) rfl ⟨rfl, tok_below HB.out (Nat.le_refl _) _ _⟩

theorem prefix_marks (m : UInt8) (r : List UInt8) (j : Nat) (hj : j ≤ r.length) : Lib.hasPrefix (m :: r) (m :: (r.take j ++ [m])) = decide (r[j]? = some m) := by
  rw [Bool.eq_iff_iff]
  simp only [Lib.hasPrefix, List.isPrefixOf_iff_prefix, decide_eq_true_eq, List.cons_prefix_cons, true_and]
  constructor
  · rintro ⟨t, ht⟩
    rw [← ht]
    have e : (r.take j).length = j := by rw [List.length_take]; omega
    rw [List.append_assoc, List.getElem?_append_right (by omega), e]
    simp
  · intro h
    obtain ⟨h1, h2⟩ := List.getElem?_eq_some_iff.1 h
    refine ⟨r.drop (j + 1), ?_⟩
    rw [List.append_assoc]
    conv => rhs; rw [← List.take_append_drop j r, List.drop_eq_getElem_cons h1, h2]
    rfl

set_option maxRecDepth 100000 in
set_option maxHeartbeats 1000000 in
theorem markedToken_any (kind most : Nat) (m : UInt8) (r : List UInt8) (w : World) (hm : m.toNat < 128) (hr : r.length ≤ 1048576) :
    Calls Try.prog 24 #[.int .i64 (kind : Int), .string (tx (m :: r)), .int .i64 (most : Int)] w fun e w' => e = .returned (onev (if Tk.textEnd (m :: r) 0 m most = 0 then none else some (⟨kind, Tk.cut (m :: r) 1 (Tk.textEnd (m :: r) 0 m most)⟩, Tk.textEnd (m :: r) 0 m most + 1))) ∧ Below w.heap.size w w' := by
  obtain ⟨j, hj⟩ : ∃ j, j = Tk.run (fun b => b != m && b != 10) r 0 := ⟨_, rfl⟩
  have hjl : j ≤ r.length := by rw [hj]; exact Tk.run_le _ (Nat.zero_le _)
  have HE : Hid (Tk.textEnd (m :: r) 0 m most = if r[j]? = some m ∧ j ≤ most then j + 1 else 0) := by
    show _ = _
    unfold Tk.textEnd
    have e : Tk.run (fun b => b != m && b != 10) (m :: r) (0 + 1) = 1 + j := by
      rw [Nat.add_comm, Tk.run_drop]
      simp [hj]
    rw [e]
    have e2 : (m :: r)[1 + j]? = r[j]? := by rw [Nat.add_comm]; simp
    have e3 : 1 + j - 0 - 1 = j := by omega
    rw [e2, e3, Nat.add_comm]
  have C1 : Hid (∀ w, Calls Try.prog 21 #[.string (tx r), .string (setMark m)] w fun e w' => e = .returned (.string (tx (r.take j))) ∧ Below w.heap.size w w') := fun w => by
    rw [hj]
    exact upTo_any (tx r) (setMark m) (fun b => b != m && b != 10) w (asc_mark m hm) (mark_is m)
  have C2 : Hid (∀ w, Calls Try.prog 20 #[.string (tx (m :: r)), .string (tx (m :: (r.take j ++ [m])))] w fun e w' => e = .returned (.bool (decide (r[j]? = some m))) ∧ w' = w) := fun w => by
    have := hasPrefix_any (tx (m :: r)) (tx (m :: (r.take j ++ [m]))) w
    rw [tx_list, tx_list, prefix_marks m r j hjl] at this
    exact this
  have CC : Hid (∀ w, Calls Try.prog 32 #[.string (tx (r.take j))] w fun e w' => e = .returned (.string (tx (r.take j))) ∧ Below w.heap.size w w') := fun w => clone_any _ w (by rw [tx_size, List.length_take]; omega)
  have z1 : (tx (m :: r)).size = r.length + 1 := tx_size _
  have z2 : (tx (r.take j)).size = j := by rw [tx_size, List.length_take]; omega
  have e1 : (tx (m :: r)).extract 0 1 = tx [m] := tx_one m r
  have e2 : (tx (m :: r)).extract 1 (r.length + 1) = tx r := tx_rest m r _ rfl
  have e3 : tx [m] ++ { data := #[10] } = setMark m := by simp [tx, setMark, ByteArray.ext_iff]
  have e4 : tx [m] ++ tx (r.take j) = tx (m :: r.take j) := by simp [tx, ByteArray.ext_iff]
  have e5 : tx (m :: r.take j) ++ tx [m] = tx (m :: (r.take j ++ [m])) := by simp [tx, ByteArray.ext_iff]
  have z3 : (tx (m :: (r.take j ++ [m]))).size = j + 2 := by rw [tx_size]; simp; omega
  obtain ⟨V, hV⟩ : ∃ V, V = onev (if Tk.textEnd (m :: r) 0 m most = 0 then none else some (⟨kind, Tk.cut (m :: r) 1 (Tk.textEnd (m :: r) 0 m most)⟩, Tk.textEnd (m :: r) 0 m most + 1)) := ⟨_, rfl⟩
  rw [← hV]
  have HV : Hid (V = onev (if Tk.textEnd (m :: r) 0 m most = 0 then none else some (⟨kind, Tk.cut (m :: r) 1 (Tk.textEnd (m :: r) 0 m most)⟩, Tk.textEnd (m :: r) 0 m most + 1))) := hV
  clear hj hV
  by_cases h1 : most < j
  · have HE1 := HE.out.trans (if_neg (by omega))
    have HV2 : Hid (V = onev none) := by show _ = _; rw [HV.out, HE1, if_pos rfl]
    clear HE1
    have d1 : decide ((most : Int) < (j : Int)) = true := decide_eq_true (by omega)
    clear HV HE
    go_enter Try.func24, Try.ntmps24
    go_wp2_with fail
    refine (C1.out _).mono ?_
    rintro e w1 ⟨rfl, b1⟩
    have r1 := (b1.block w.heap.size (size1 _ _)).trans (alloc1_0 _ _)
    have HB : Hid (Below w.heap.size w w1) := (below1 _ _).trans (b1.mono (Nat.le_of_lt (size1 _ _)))
    have HR1 : Hid _ := r1
    obtain ⟨c0, c1, f0, f1⟩ := tok_cells r1
    clear b1 r1
    go_wp2
    exact bodyPost_ret (res_tok rfl _ _ w.heap.size _ _ rfl (tok_stored HR1.out _ _)) rfl ⟨by rw [HV2.out]; rfl, tok_below HB.out (Nat.le_refl _) _ _⟩
  have d1 : decide ((most : Int) < (j : Int)) = false := decide_eq_false (by omega)
  by_cases h2 : r[j]? = some m
  · have HV2 : Hid (V = .tuple #[.agg #[.int .i64 (kind : Int), .string (tx (r.take j))], .int .i64 ((j + 2 : Nat) : Int)]) := by
      show _ = _
      have e : Tk.cut (m :: r) 1 (j + 1) = r.take j := by simp [Tk.cut]
      rw [HV.out, HE.out.trans (if_pos ⟨h2, by omega⟩), if_neg (by omega), e]
      rfl
    rw [decide_eq_true h2] at C2
    clear HV HE h2
    go_enter Try.func24, Try.ntmps24
    go_wp2_with fail
    refine (C1.out _).mono ?_
    rintro e w1 ⟨rfl, b1⟩
    have r1 := (b1.block w.heap.size (size1 _ _)).trans (alloc1_0 _ _)
    have HB : Hid (Below w.heap.size w w1) := (below1 _ _).trans (b1.mono (Nat.le_of_lt (size1 _ _)))
    have HR1 : Hid _ := r1
    obtain ⟨c0, c1, f0, f1⟩ := tok_cells r1
    clear b1 r1
    go_wp2_with fail
    refine (C2.out _).mono ?_
    rintro e w2 ⟨rfl, rfl⟩
    go_wp2_with fail
    refine (CC.out _).mono ?_
    rintro e w2 ⟨rfl, b2⟩
    clear c0 c1 f0 f1
    have r2 := (b2.block w.heap.size (blk_lt HR1.out)).trans HR1.out
    have HB2 : Hid (Below w.heap.size w w2) := HB.out.trans (b2.mono HB.out.size)
    have HR2 : Hid _ := r2
    obtain ⟨c0, c1, f0, f1⟩ := tok_cells r2
    clear b2 r2 HR1 HB
    go_wp2
    exact bodyPost_ret (res_tok rfl _ _ w.heap.size _ _ rfl (tok_stored HR2.out _ _)) rfl ⟨by rw [HV2.out]; rfl, tok_below HB2.out (Nat.le_refl _) _ _⟩
  · have HE1 := HE.out.trans (if_neg (fun h => h2 h.1))
    have HV2 : Hid (V = onev none) := by show _ = _; rw [HV.out, HE1, if_pos rfl]
    clear HE1
    rw [decide_eq_false h2] at C2
    clear HV HE h2
    go_enter Try.func24, Try.ntmps24
    go_wp2_with fail
    refine (C1.out _).mono ?_
    rintro e w1 ⟨rfl, b1⟩
    have r1 := (b1.block w.heap.size (size1 _ _)).trans (alloc1_0 _ _)
    have HB : Hid (Below w.heap.size w w1) := (below1 _ _).trans (b1.mono (Nat.le_of_lt (size1 _ _)))
    have HR1 : Hid _ := r1
    obtain ⟨c0, c1, f0, f1⟩ := tok_cells r1
    clear b1 r1
    go_wp2_with fail
    refine (C2.out _).mono ?_
    rintro e w2 ⟨rfl, rfl⟩
    go_wp2
    exact bodyPost_ret (res_tok rfl _ _ w.heap.size _ _ rfl (tok_stored HR1.out _ _)) rfl ⟨by rw [HV2.out]; rfl, tok_below HB.out (Nat.le_refl _) _ _⟩
#print axioms markedToken_any
end Go.Proofs.Ytbiknfhfpmomfap
