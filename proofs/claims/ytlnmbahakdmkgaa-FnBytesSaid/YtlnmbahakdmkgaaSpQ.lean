/- Where a piece may end, by the specification: the places that are so. -/
import Derived.Test.YtlnmbahakdmkgaaZar
namespace Go.Proofs.Ytlnmbahakdmkgaa
open Go.RowKit

theorem Ws.push {ops : Array Oper} {rest : List Oper} {o : Oper} {a : Act} {Q : Exit → Act → World → Prop} {B : Nat} {wr : World} {y : Value} {ws : List Nat} (h : Ws B wr y ws) (hgd : o.guard = none) (s x : Operand)
    (ho : o.op = .call { callee := .builtin .append, args := #[s, x], argTypes := #[40, 40] })
    (hs : a.eval s = y) (j n0 : Nat) (hx : a.eval x = .slice (some ⟨n0, 0, none⟩) 1 1) (hn0 : n0 = wr.heap.size) (hB : B ≤ wr.heap.size) (hlen : ws.length ≤ 1048577)
    (k : ∀ y' w2, Ws B w2 y' (ws ++ [j]) → Below B wr w2 → wpList Try.prog ops Q rest (a.put o.dst y') w2) :
    wpList Try.prog ops Q (o :: rest) a (wr.alloc (.cells #[.int .i64 (j : Int)] 3)) := by
  subst hn0
  obtain ⟨i0, hi, hz0, hz1, hz2⟩ := info_parts Try.infoI
  refine wpList_append_own_at _ hgd s x 40 ho B 3 i0 (.int .i64 0) 1 8 Try.underlying40 hi hz0 hz1 hz2 rfl (by decide) y ws.length (ws.map fun (n : Nat) => iv n) hs (World.ownsRow.alloc h _) ⟨wr.heap.size, 0, none⟩ 1 1 [iv j] hx rfl (cell_one_new _ _ _) ?_ ?_ ?_ ?_ ?_
  · intro u hu; simp at hu; subst hu; rfl
  · unfold maxLen; omega
  · omega
  · simp; omega
  · intro y' w2 h2 h3 _ h5
    refine k y' w2 (by unfold Ws; simpa using h2) ?_
    exact (((Below.refl wr.heap.size wr).alloc (Nat.le_refl _) _).mono hB).grown h3 (by simp; omega) (fun q hq => (World.ownsRow.lt h q hq).1)

set_option maxHeartbeats 4000000 in
set_option maxRecDepth 100000 in
theorem spList (q n cc : Nat) (f : Nat → Bool) (w : World) (hq : q < w.heap.size) (hf : ∀ j, j < n → w.cell? ⟨q, j, none⟩ = some (.bool (f j))) (hn : n ≤ 1048577) :
    Calls Try.prog 21 #[.slice (some ⟨q, 0, none⟩) n cc] w (fun e w' => ∃ y, e = .returned y ∧ y ≠ .slice none 0 0 ∧ Ws w.heap.size w' y ((List.range n).filter f) ∧ Below w.heap.size w w') := by
  have HF : Hid (∀ j, j < n → w.cell? ⟨q, j, none⟩ = some (.bool (f j))) := hf
  have HW0 : Hid (Ws w.heap.size (w.alloc (.cells #[] 3)) (.slice (some ⟨w.heap.size, 0, none⟩) 0 0) ((List.range 0).filter f)) := ⟨rfl, .inr ⟨w.heap.size, 0, #[], rfl, Nat.le_refl _, heap_alloc_new w _, Nat.le_refl _, by decide, rfl, rfl⟩⟩
  clear hf
  go_enter Try.func21, Try.ntmps21
  go_wp2_with fail
  go_loopw [3, 4] (fun y j wr => ∃ (t : Nat) (v : Value), v = y ∧ j = .int .i64 (t : Int) ∧ t ≤ n ∧ Hid (v ≠ .slice none 0 0) ∧ Hid (Ws w.heap.size wr v ((List.range t).filter f)) ∧ Hid (Below w.heap.size w wr)) (fun _ j _ => n - (intOf j).toNat)
  case atStart => exact ⟨0, _, rfl, rfl, by omega, (show Value.slice (some ⟨w.heap.size, 0, none⟩) 0 0 ≠ Value.slice none 0 0 from fun e => by cases e), HW0.out, (Below.refl _ _).alloc (Nat.le_refl _) _⟩
  case round =>
    obtain ⟨t, y, rfl, rfl, ht, HY, HW, HB⟩ := hrel
    clear HW0
    by_cases hlt : t < n
    · have ct : wr.cell? ⟨q, t, none⟩ = some (.bool (f t)) := (HB.out.cell (p := ⟨q, t, none⟩) hq).trans (HF.out t hlt)
      have t1 : (t : Int) < (n : Int) := by omega
      have HRS : Hid ((List.range (t + 1)).filter f = (List.range t).filter f ++ (if f t = true then [t] else [])) := by
        show _ = _
        rw [List.range_succ, List.filter_append]
        by_cases hft : f t = true <;> simp [hft]
      obtain ⟨b, hb⟩ : ∃ b, b = f t := ⟨_, rfl⟩
      rw [← hb] at ct HRS
      clear hb
      cases b with
      | false =>
        have HW1 : Hid (Ws w.heap.size wr y ((List.range (t + 1)).filter f)) := by
          show Ws _ _ _ _
          rw [HRS.out]
          simpa using HW.out
        clear HW HRS
        go_wp2_with fail
        go_roundw
        case rel => exact ⟨t + 1, _, rfl, by go_num, by omega, HY.out, HW1.out, HB.out⟩
        case measure => simp [intOf]; omega
      | true =>
        have hll : ((List.range t).filter f).length ≤ 1048577 := by
          have := List.length_filter_le f (List.range t)
          simp at this
          omega
        have hwl : w.heap.size ≤ wr.heap.size := HB.out.size
        go_wp2_with (at_builtin; go_must (refine HW.out.push rfl (.tmp 16) (.tmp 18) rfl rfl t _ rfl ?hx hwl hll ?_))
        case hx => rfl
        intro y2 w2 h2 hb2
        have HW1 : Hid (Ws w.heap.size w2 y2 ((List.range (t + 1)).filter f)) := by
          show Ws _ _ _ _
          rw [HRS.out]
          simpa using h2
        have HB1 : Hid (Below w.heap.size w w2) := HB.out.trans hb2
        have HY1 : Hid (y2 ≠ .slice none 0 0) := by
          intro e
          have := h2.2
          rcases this with ⟨_, hn0⟩ | ⟨g, cap, cur, e2, _⟩
          · simp at hn0
          · rw [e2] at e; cases e
        clear HW HRS h2 hb2 HB hll hwl
        go_wp2_with fail
        go_roundw
        case rel => exact ⟨t + 1, _, rfl, by go_num, by omega, HY1.out, HW1.out, HB1.out⟩
        case measure => simp [intOf]; omega
    · obtain rfl : t = n := by omega
      go_wp2_with fail
      go_ret
      exact ⟨y, rfl, HY.out, HW.out, HB.out⟩
#print axioms spList
end Go.Proofs.Ytlnmbahakdmkgaa
