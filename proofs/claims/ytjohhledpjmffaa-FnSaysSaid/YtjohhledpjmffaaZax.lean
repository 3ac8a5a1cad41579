/- A strings.Builder of the program: what it has written. A strings.Builder that has written nothing: its text. -/
import Derived.Test.YtjohhledpjmffaaZaa
import Derived.Lib.Builder
import Derived.Lib.AppendStr
import Derived.Lib.AppendIntMem
import Derived.Shelf.Strings.Builder1
namespace Go.Proofs.Ytjohhledpjmffaa
section PartBdA
open Go.RowKit

/-- The writer in block b has written l. -/
def Bd (b : Nat) (w : World) (l : List UInt8) : Prop := Lib.IsBuilder 95 5 b b (Lib.byteCells l) w
theorem Bd.new (w : World) : Bd w.heap.size (w.alloc (.cells #[.pointer none, .slice none 0 0] 95)) [] := Lib.fresh_isBuilder 95 5 w
theorem Bd.keep {b : Nat} {w w' : World} {l : List UInt8} (h : Bd b w l) (hb : Below w.heap.size w w') : Bd b w' l := by
  have key : ∀ p, Lib.BuilderAt 95 5 b b p (Lib.byteCells l) w → Lib.BuilderAt 95 5 b b p (Lib.byteCells l) w' := by
    rintro p ⟨hB, v, hbk, hown, hne⟩
    refine ⟨hB, v, (hb.block b (blk_lt hbk)).trans hbk, ⟨hown.1, ?_⟩, hne⟩
    rcases hown.2 with hn | ⟨g, cap, cur, rfl, h1, hg, rest⟩
    · exact .inl hn
    · exact .inr ⟨g, cap, cur, rfl, h1, (hb.block g (blk_lt hg)).trans hg, rest⟩
  exact h.elim (fun x => .inl (key _ x)) (fun x => .inr (key _ x))
/-- What lies in rows of another kind than bytes, but for block b, is as it was. -/
def Od5 (b : Nat) (w w' : World) : Prop := ∀ (j : Nat) (arr : Array Value) (t : TypeId) (fr : Nat × Nat), w.heap[j]? = some (.cells arr t fr) → t ≠ 5 → j ≠ b → w'.heap[j]? = some (.cells arr t fr)
theorem Od5.refl (b : Nat) (w : World) : Od5 b w w := fun _ _ _ _ h _ _ => h
theorem Od5.set {b : Nat} {w w' : World} (h : Od5 b w w') (k : Nat) (u : Value) : Od5 b w (w'.setCell ⟨b, k, none⟩ u) := fun j arr t fr h1 h2 h3 => by
  rw [Below.heap_setCell _ _ _ _ (by exact h3)]
  exact h j arr t fr h1 h2 h3
theorem bdInfo : (Try.prog.info? 95).map (·.size) = some 2 := by kernel_rfl
theorem bdLies : liesAt Try.prog Try.prog.depth 95 (2 / Try.prog.cellsOf 95) 0 95 1 = true := by kernel_rfl

set_option maxHeartbeats 1000000 in
set_option maxRecDepth 100000 in
theorem bdCheck (b : Nat) (l : List UInt8) (w : World) (h : Bd b w l) :
    Calls Try.prog 91 #[.pointer (some ⟨b, 0, none⟩)] w fun e w' => e = .returned (.tuple #[]) ∧ Lib.BuilderAt 95 5 b b (.pointer (some ⟨b, 0, none⟩)) (Lib.byteCells l) w' ∧ Below b w w' ∧ Od5 b w w' := by
  obtain ⟨j, hj, hjs⟩ := Option.map_eq_some_iff.1 bdInfo
  rcases h with h | h
  · have c0 := h.cell0
    have hf := h.frozen0
    have HU : Hid (Lib.BuilderAt 95 5 b b (.pointer (some ⟨b, 0, none⟩)) (Lib.byteCells l) (w.setCell ⟨b, 0, none⟩ (.pointer (some ⟨b, 0, none⟩)))) := h.used _
    have r1 := Lib.run_to_unsafe (P := Try.prog) (w := w) ⟨b, 0, none⟩ Try.underlying93 Try.underlying133 hj (by rw [hjs]; decide) h.shape (Nat.zero_lt_succ 1)
    have r2 := Lib.run_from_unsafe (P := Try.prog) (w := w) ⟨b, 0, none⟩ Try.underlying133 Try.underlying93 hj h.shape bdLies
    clear h
    go_enter Try.func91, Try.ntmps91
    go_wp2
    rw [run_callFunc_extern Try.func104 (by kernel_rfl) (by kernel_rfl) (by kernel_rfl) (e := Extern.AbiNoEscape.same) (by kernel_rfl), Lib.run_noEscape]
    simp only [Result.andThen]
    rw [Oper.upon_value]
    go_wp2
    go_end0
    exact ⟨rfl, HU.out, (Below.refl b w).setCell (p := ⟨b, 0, none⟩) (Nat.le_refl _) _, (Od5.refl b w).set 0 _⟩
  · have c0 := h.cell0
    have HU : Hid _ := h
    have r3 := Lib.run_neq_ptr_same (P := Try.prog) w ⟨b, 0, none⟩ Try.underlying93 hj
    clear h
    go_enter Try.func91, Try.ntmps91
    go_wp2
    go_end0
    exact ⟨rfl, HU.out, Below.refl _ _, Od5.refl _ _⟩

theorem bdByteInfo : (Try.prog.info? 5).map (fun i => (i.zero, i.size, i.bytes)) = some (some (.int .u8 0), 1, 1) := by kernel_rfl
theorem bdNe : (95 : TypeId) ≠ 5 := by decide

set_option maxHeartbeats 2000000 in
set_option maxRecDepth 100000 in
theorem bdString (b : Nat) (l s : List UInt8) (w : World) (h : Bd b w l) (hl : l.length ≤ 10000000000000) (hs : s.length ≤ 10000000000000) :
    Calls Try.prog 75 #[.pointer (some ⟨b, 0, none⟩), .string ⟨s.toArray⟩] w fun e w' => e = .returned (.tuple #[.int .i64 (s.length : Int), .nilIface]) ∧ Bd b w' (l ++ s) ∧ Below b w w' := by
  have hbw : b < w.heap.size := by
    rcases h with h | h
    · exact h.lt
    · exact h.lt
  have C : Hid (Calls Try.prog 91 #[.pointer (some ⟨b, 0, none⟩)] w fun e w' => e = .returned (.tuple #[]) ∧ Lib.BuilderAt 95 5 b b (.pointer (some ⟨b, 0, none⟩)) (Lib.byteCells l) w' ∧ Below b w w' ∧ Od5 b w w') := bdCheck b l w h
  obtain ⟨i0, hi, hz0, hz1, hz2⟩ := info_parts bdByteInfo
  have hss : (⟨s.toArray⟩ : ByteArray).size = s.length := by simp [ByteArray.size]
  clear h
  go_enter Try.func75, Try.ntmps75
  go_wp2_with fail
  refine C.out.mono ?_
  rintro e w1 ⟨rfl, ⟨hB, v, hbk, hown, hne⟩, hb1, hok1⟩
  have hs1 := hb1.size
  have c1 : w1.cell? ⟨b, 1, none⟩ = some v := by rw [Lib.cell_of_heap hbk]; rfl
  have hc : (Lib.byteCells l).length = l.length := Lib.byteCells_length l
  clear C
  go_wp2_with (at_builtin; refine Lib.wpList_append_own_string _ rfl _ _ 22 9 rfl b 5 i0 Try.underlying22 Try.underlying9 hi hz0 hz1 hz2 _ _ _ rfl hown ⟨s.toArray⟩ rfl ?c3 ?c4 ?c5 ?_)
  case c3 => unfold maxLen; omega
  case c4 => omega
  case c5 => omega
  intro v2 w2 hown2 hgrow _
  have hb2 : w2.heap[b]? = some (.cells #[.pointer (some ⟨b, 0, none⟩), v] 95 (0, 0)) := by
    rw [hgrow.block b (by omega) (fun e => hne e.symm)]
    exact hbk
  have d1 : w2.cell? ⟨b, 1, none⟩ = some v := by rw [Lib.cell_of_heap hb2]; rfl
  have f1 : w2.frozen? ⟨b, 1, none⟩ = false := Lib.frozen_of_heap hb2 1
  have HX : Hid (Bd b (w2.setCell ⟨b, 1, none⟩ v2) (l ++ s)) := Or.inr (by
    refine Lib.BuilderAt.put (T := 95) (e := 5) hB hb2 (bs' := Lib.byteCells (l ++ s)) ?_ bdNe
    rw [Lib.strCells_toArray] at hown2
    simpa [Lib.byteCells] using hown2)
  have HY : Hid (Below b w (w2.setCell ⟨b, 1, none⟩ v2)) := (hb1.grown hgrow (by omega) (fun k hk => (hown.lt k hk).1)).setCell (p := ⟨b, 1, none⟩) hB _
  obtain ⟨ao, n2, cap, rfl⟩ : ∃ ao n2 cap, v2 = .slice ao n2 cap := by
    rcases hown2.2 with ⟨hv, _⟩ | ⟨g, cap, cur, hv, _⟩
    · exact ⟨_, _, _, hv⟩
    · exact ⟨_, _, _, hv⟩
  clear hown hown2 hgrow hb1 hbk hb2 hne c1 hok1
  go_wp2
  go_ret2
  exact ⟨rfl, HX.out, HY.out⟩

set_option maxHeartbeats 1000000 in
set_option maxRecDepth 100000 in
theorem bdText (b : Nat) (l : List UInt8) (w : World) (h : Bd b w l) (h0 : l ≠ []) (hlen : l.length ≤ 10000000000000) :
    Calls Try.prog 76 #[.pointer (some ⟨b, 0, none⟩)] w fun e w' => e = .returned (.string ⟨l.toArray⟩) ∧ Below b w w' := by
  obtain ⟨p, -, v, hbk, hown, -⟩ : ∃ p, Lib.BuilderAt 95 5 b b p (Lib.byteCells l) w := h.elim (fun x => ⟨_, x⟩) (fun x => ⟨_, x⟩)
  rw [Lib.byteCells_length] at hown
  have hl0 : 0 < l.length := List.length_pos_iff.2 h0
  obtain ⟨g, cap, cur, rfl, hbg, hg, hnc, hcm, hcs, -⟩ : ∃ g cap cur, v = .slice (some ⟨g, 0, none⟩) l.length cap ∧ b ≤ g ∧ w.heap[g]? = some (.cells cur 5 (0, 0)) ∧ l.length ≤ cap ∧ cap ≤ maxLen ∧ cur.size = cap * 1 ∧ cur.toList.take (l.length * 1) = Lib.byteCells l := by
    rcases hown.2 with ⟨_, hz⟩ | ⟨g, cap, cur, hv, r⟩
    · omega
    · exact ⟨g, cap, cur, hv, r⟩
  have c1 : w.drew.cell? ⟨b, 1, none⟩ = some (.slice (some ⟨g, 0, none⟩) l.length cap) := by
    have : w.drew.heap[b]? = some (.cells #[p, .slice (some ⟨g, 0, none⟩) l.length cap] 95 (0, 0)) := hbk
    rw [Lib.cell_of_heap this]; rfl
  have hSD : (Builtin.unsafeSliceData_ #[22] 115 #[.slice (some ⟨g, 0, none⟩) l.length cap]).run Try.prog w.drew = .ok (.pointer (some ⟨g, 0, none⟩)) w.drew := Lib.run_unsafeSliceData_row _ _ _ _ _ _ (by omega)
  have hUS : (Builtin.unsafeString_ #[115, 3] 9 #[.pointer (some ⟨g, 0, none⟩), .int .i64 l.length]).run Try.prog w.drew = .ok (.string ⟨l.toArray⟩) (w.drew.freeze ⟨g, 0, none⟩ l.length) := by
    refine Lib.run_unsafeString_row w.drew 115 3 9 5 Try.underlying115 (by kernel_rfl) g cur.size (by have hg2 : w.drew.heap[g]? = some (.cells cur 5 (0, 0)) := hg; simp [World.shape?, hg2]) l h0 (by omega) (by omega) ?_
    intro j x hx
    exact hown.cells (g := g) rfl j (.int .u8 x.toNat) (by simp [Lib.byteCells, hx])
  have HE : Hid (Below b w (w.drew.freeze ⟨g, 0, none⟩ l.length)) := Lib.below_freeze (Below.drew (Below.refl b w)) (p := ⟨g, 0, none⟩) hbg _
  have mixed : Try.prog.follows Departure.mixedOrders = true := by kernel_rfl
  clear h hown hbk hcs hg
  go_enter Try.func76, Try.ntmps76
  go_wp2
  go_region_o
  all_goals
    go_wp2
    go_ret
    exact ⟨rfl, HE.out⟩

set_option maxHeartbeats 1000000 in
set_option maxRecDepth 100000 in
theorem bdLen (b : Nat) (l : List UInt8) (w : World) (h : Bd b w l) :
    Calls Try.prog 74 #[.pointer (some ⟨b, 0, none⟩)] w fun e w' => e = .returned (.int .i64 (l.length : Int)) ∧ w' = w := by
  obtain ⟨p, -, v, hbk, hown, -⟩ : ∃ p, Lib.BuilderAt 95 5 b b p (Lib.byteCells l) w := h.elim (fun x => ⟨_, x⟩) (fun x => ⟨_, x⟩)
  rw [Lib.byteCells_length] at hown
  obtain ⟨ao, cap, rfl⟩ : ∃ ao cap, v = .slice ao l.length cap := by
    rcases hown.2 with ⟨hv, hz⟩ | ⟨g, cap, cur, hv, _⟩
    · exact ⟨none, 0, by rw [hv, hz]⟩
    · exact ⟨_, _, hv⟩
  have c1 : w.cell? ⟨b, 1, none⟩ = some (.slice ao l.length cap) := by rw [Lib.cell_of_heap hbk]; rfl
  clear h hown hbk
  go_enter Try.func74, Try.ntmps74
  go_wp2
  go_ret
  exact ⟨rfl, rfl⟩
end PartBdA
section PartBdB
open Go.RowKit

set_option maxHeartbeats 1000000 in
set_option maxRecDepth 100000 in
theorem bdText0 (b : Nat) (w : World) (h : Bd b w []) :
    Calls Try.prog 76 #[.pointer (some ⟨b, 0, none⟩)] w fun e w' => e = .returned (.string ByteArray.empty) ∧ Below b w w' := by
  obtain ⟨p, -, v, hbk, hown, -⟩ : ∃ p, Lib.BuilderAt 95 5 b b p (Lib.byteCells []) w := h.elim (fun x => ⟨_, x⟩) (fun x => ⟨_, x⟩)
  have c1 : w.drew.cell? ⟨b, 1, none⟩ = some v := by
    have : w.drew.heap[b]? = some (.cells #[p, v] 95 (0, 0)) := hbk
    rw [Lib.cell_of_heap this]; rfl
  have mixed : Try.prog.follows Departure.mixedOrders = true := by kernel_rfl
  have hbl : b < w.heap.size := blk_lt hbk
  have e0 : (Lib.byteCells []).length = 0 := rfl
  rw [e0] at hown
  clear h hbk
  rcases hown.2 with ⟨rfl, -⟩ | ⟨g, cap, cur, rfl, -, hg, -⟩
  · have hSD : (Builtin.unsafeSliceData_ #[22] 115 #[.slice none 0 0]).run Try.prog w.drew = .ok (.pointer none) w.drew := Lib.run_unsafeSliceData_nil _ _ _ _ _
    have hUS : (Builtin.unsafeString_ #[115, 3] 9 #[.pointer none, .int .i64 0]).run Try.prog w.drew = .ok (.string .empty) w.drew := Lib.run_unsafeString_none _ _ _ _ _
    have HE : Hid (Below b w w.drew) := Below.drew (Below.refl b w)
    clear hown
    go_enter Try.func76, Try.ntmps76
    go_wp2
    go_region_o
    all_goals
      go_wp2
      go_ret
      exact ⟨rfl, HE.out⟩
  · rcases Nat.eq_zero_or_pos cap with rfl | hcap
    · have hsh : w.drew.shape? g = some (5, cur.size) := by
        have hg2 : w.drew.heap[g]? = some (.cells cur 5 (0, 0)) := hg
        simp [World.shape?, hg2]
      have hSD : (Builtin.unsafeSliceData_ #[22] 115 #[.slice (some ⟨g, 0, none⟩) 0 0]).run Try.prog w.drew = .ok (.pointer (some ⟨w.heap.size, 0, none⟩)) ((w.alloc (.view ⟨g, 0, none⟩ 5)).drew) := Lib.run_unsafeSliceData_zero w.drew _ _ 5 Try.underlying115 ⟨g, 0, none⟩ 0 _ hsh
      have hUS : (Builtin.unsafeString_ #[115, 3] 9 #[.pointer (some ⟨w.heap.size, 0, none⟩), .int .i64 0]).run Try.prog (w.alloc (.view ⟨g, 0, none⟩ 5)).drew = .ok (.string .empty) (w.alloc (.view ⟨g, 0, none⟩ 5)).drew := Lib.run_unsafeString_none _ _ _ _ _
      have c2 : w.cell? ⟨b, 1, none⟩ = some (.slice (some ⟨g, 0, none⟩) 0 0) := c1
      have HE : Hid (Below b w (w.alloc (.view ⟨g, 0, none⟩ 5)).drew) := ((Below.refl b w).alloc (by omega) _).drew
      clear hown hg hsh
      go_enter Try.func76, Try.ntmps76
      go_wp2
      go_region_o
      all_goals
        go_wp2
        go_ret
        exact ⟨rfl, HE.out⟩
    · have hSD : (Builtin.unsafeSliceData_ #[22] 115 #[.slice (some ⟨g, 0, none⟩) 0 cap]).run Try.prog w.drew = .ok (.pointer (some ⟨g, 0, none⟩)) w.drew := Lib.run_unsafeSliceData_row _ _ _ _ _ _ (by omega)
      have hUS : (Builtin.unsafeString_ #[115, 3] 9 #[.pointer (some ⟨g, 0, none⟩), .int .i64 0]).run Try.prog w.drew = .ok (.string .empty) w.drew := Lib.run_unsafeString_none _ _ _ _ _
      have HE : Hid (Below b w w.drew) := Below.drew (Below.refl b w)
      clear hown hg
      go_enter Try.func76, Try.ntmps76
      go_wp2
      go_region_o
      all_goals
        go_wp2
        go_ret
        exact ⟨rfl, HE.out⟩
end PartBdB
end Go.Proofs.Ytjohhledpjmffaa
