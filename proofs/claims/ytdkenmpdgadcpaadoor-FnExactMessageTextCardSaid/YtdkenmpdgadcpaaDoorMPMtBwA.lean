/- The program's writer of bytes: a strings.Builder that lies within a struct of the program's own. -/
import Derived.Test.YtdkenmpdgadcpaaDoorMPMtVrD
import Derived.Test.YtdkenmpdgadcpaaDoorMPMtZab
import Derived.Lib.Builder
import Derived.Lib.AppendStr
import Derived.Lib.AppendIntMem
import Derived.Shelf.Strings.Builder1
namespace Go.Proofs.YtdkenmpdgadcpaaDoor
open Go.RowKit

/-- The writer in block b has written l. -/
def Bw (b : Nat) (w : World) (l : List UInt8) : Prop := Lib.IsBuilder 43 5 b b (Lib.byteCells l) w
theorem Bw.new (w : World) : Bw w.heap.size (w.alloc (.cells #[.pointer none, .slice none 0 0] 43)) [] := Lib.fresh_isBuilder 43 5 w
theorem Bw.keep {b : Nat} {w w' : World} {l : List UInt8} (h : Bw b w l) (hb : Below w.heap.size w w') : Bw b w' l := by
  have key : ∀ p, Lib.BuilderAt 43 5 b b p (Lib.byteCells l) w → Lib.BuilderAt 43 5 b b p (Lib.byteCells l) w' := by
    rintro p ⟨hB, v, hbk, hown, hne⟩
    refine ⟨hB, v, (hb.block b (blk_lt hbk)).trans hbk, ⟨hown.1, ?_⟩, hne⟩
    rcases hown.2 with hn | ⟨g, cap, cur, rfl, h1, hg, rest⟩
    · exact .inl hn
    · exact .inr ⟨g, cap, cur, rfl, h1, (hb.block g (blk_lt hg)).trans hg, rest⟩
  exact h.elim (fun x => .inl (key _ x)) (fun x => .inr (key _ x))
/-- What lies in rows of another kind than bytes, but for block b, is as it was. -/
def Ok5 (b : Nat) (w w' : World) : Prop := ∀ (j : Nat) (arr : Array Value) (t : TypeId) (fr : Nat × Nat), w.heap[j]? = some (.cells arr t fr) → t ≠ 5 → j ≠ b → w'.heap[j]? = some (.cells arr t fr)
theorem Ok5.refl (b : Nat) (w : World) : Ok5 b w w := fun _ _ _ _ h _ _ => h
theorem Ok5.set {b : Nat} {w w' : World} (h : Ok5 b w w') (k : Nat) (u : Value) : Ok5 b w (w'.setCell ⟨b, k, none⟩ u) := fun j arr t fr h1 h2 h3 => by
  rw [Below.heap_setCell _ _ _ _ (by exact h3)]
  exact h j arr t fr h1 h2 h3
theorem bwInfo : (Tryd.prog.info? 41).map (·.size) = some 2 := by kernel_rfl
theorem bwLies : liesAt Tryd.prog Tryd.prog.depth 43 (2 / Tryd.prog.cellsOf 43) 0 41 1 = true := by kernel_rfl

set_option maxHeartbeats 1000000 in
set_option maxRecDepth 100000 in
theorem bwCheck (b : Nat) (l : List UInt8) (w : World) (h : Bw b w l) :
    Calls Tryd.prog 40 #[.pointer (some ⟨b, 0, none⟩)] w fun e w' => e = .returned (.tuple #[]) ∧ Lib.BuilderAt 43 5 b b (.pointer (some ⟨b, 0, none⟩)) (Lib.byteCells l) w' ∧ Below b w w' ∧ Ok5 b w w' := by
  obtain ⟨j, hj, hjs⟩ := Option.map_eq_some_iff.1 bwInfo
  rcases h with h | h
  · have c0 := h.cell0
    have hf := h.frozen0
    have HU : Hid (Lib.BuilderAt 43 5 b b (.pointer (some ⟨b, 0, none⟩)) (Lib.byteCells l) (w.setCell ⟨b, 0, none⟩ (.pointer (some ⟨b, 0, none⟩)))) := h.used _
    have r1 := Lib.run_to_unsafe (P := Tryd.prog) (w := w) ⟨b, 0, none⟩ Tryd.underlying39 Tryd.underlying77 hj (by rw [hjs]; decide) h.shape (Nat.zero_lt_succ 1)
    have r2 := Lib.run_from_unsafe (P := Tryd.prog) (w := w) ⟨b, 0, none⟩ Tryd.underlying77 Tryd.underlying39 hj h.shape bwLies
    clear h
    go_enter Tryd.func40, Tryd.ntmps40
    go_wp2
    rw [run_callFunc_extern Tryd.func43 (by kernel_rfl) (by kernel_rfl) (by kernel_rfl) (e := Extern.AbiNoEscape.same) (by kernel_rfl), Lib.run_noEscape]
    simp only [Result.andThen]
    rw [Oper.upon_value]
    go_wp2
    go_end0
    exact ⟨rfl, HU.out, (Below.refl b w).setCell (p := ⟨b, 0, none⟩) (Nat.le_refl _) _, (Ok5.refl b w).set 0 _⟩
  · have c0 := h.cell0
    have HU : Hid _ := h
    have r3 := Lib.run_neq_ptr_same (P := Tryd.prog) w ⟨b, 0, none⟩ Tryd.underlying39 hj
    clear h
    go_enter Tryd.func40, Tryd.ntmps40
    go_wp2
    go_end0
    exact ⟨rfl, HU.out, Below.refl _ _, Ok5.refl _ _⟩

theorem bwByteInfo : (Tryd.prog.info? 5).map (fun i => (i.zero, i.size, i.bytes)) = some (some (.int .u8 0), 1, 1) := by kernel_rfl
theorem bwNe : (43 : TypeId) ≠ 5 := by decide

set_option maxHeartbeats 2000000 in
set_option maxRecDepth 100000 in
theorem bwByte (b : Nat) (l : List UInt8) (c : UInt8) (z : Int) (hz : z = (c.toNat : Int)) (w : World) (h : Bw b w l) (hl : l.length ≤ 1000000) :
    Calls Tryd.prog 31 #[.pointer (some ⟨b, 0, none⟩), .int .u8 z] w fun e w' => e = .returned .nilIface ∧ Bw b w' (l ++ [c]) ∧ Below b w w' ∧ Ok5 b w w' := by
  subst hz
  have hbw : b < w.heap.size := by
    rcases h with h | h
    · exact h.lt
    · exact h.lt
  have C : Hid (Calls Tryd.prog 40 #[.pointer (some ⟨b, 0, none⟩)] w fun e w' => e = .returned (.tuple #[]) ∧ Lib.BuilderAt 43 5 b b (.pointer (some ⟨b, 0, none⟩)) (Lib.byteCells l) w' ∧ Below b w w' ∧ Ok5 b w w') := bwCheck b l w h
  obtain ⟨i0, hi, hz0, hz1, hz2⟩ := info_parts bwByteInfo
  clear h
  go_enter Tryd.func31, Tryd.ntmps31
  go_wp2_with fail
  refine C.out.mono ?_
  rintro e w1 ⟨rfl, ⟨hB, v, hbk, hown, hne⟩, hb1, hok1⟩
  have hs1 := hb1.size
  have c1 : w1.cell? ⟨b, 1, none⟩ = some v := by rw [Lib.cell_of_heap hbk]; rfl
  have hc : (Lib.byteCells l).length = l.length := Lib.byteCells_length l
  clear C
  go_wp2_with (at_builtin; go_must (refine wpList_append_own _ rfl _ _ 36 rfl b 5 i0 (.int .u8 0) 1 1 Tryd.underlying36 hi hz0 hz1 hz2 rfl (by decide) _ _ _ rfl (hown.alloc _) ⟨w1.heap.size, 0, none⟩ 1 1 [.int .u8 (c.toNat : Int)] rfl rfl ?c1 ?c2 ?c3 ?c4 ?c5 ?_))
  case c1 => exact cell_one_new _ _ _
  case c2 => intro u hu; simp at hu; subst hu; rfl
  case c3 => unfold maxLen; omega
  case c4 => omega
  case c5 => simp; omega
  intro v2 w2 hown2 hgrow _
  have hb2 : w2.heap[b]? = some (.cells #[.pointer (some ⟨b, 0, none⟩), v] 43 (0, 0)) := by
    rw [hgrow.block b (by simp; omega) (fun e => hne e.symm), Lib.alloc_old w1 _ b (by omega)]
    exact hbk
  have d1 : w2.cell? ⟨b, 1, none⟩ = some v := by rw [Lib.cell_of_heap hb2]; rfl
  have f1 : w2.frozen? ⟨b, 1, none⟩ = false := Lib.frozen_of_heap hb2 1
  have HX : Hid (Bw b (w2.setCell ⟨b, 1, none⟩ v2) (l ++ [c])) := Or.inr (by
    refine Lib.BuilderAt.put (T := 43) (e := 5) hB hb2 (bs' := Lib.byteCells (l ++ [c])) ?_ bwNe
    simpa [Lib.byteCells] using hown2)
  have HY : Hid (Below b w (w2.setCell ⟨b, 1, none⟩ v2)) := ((hb1.alloc (by omega) _).grown hgrow (by simp; omega) (fun k hk => (hown.lt k hk).1)).setCell (p := ⟨b, 1, none⟩) hB _
  have HO : Hid (Ok5 b w (w2.setCell ⟨b, 1, none⟩ v2)) := Ok5.set (fun j arr t fr h1 h2 h3 => by
    have e1 := hok1 j arr t fr h1 h2 h3
    have hlt := blk_lt e1
    rw [hgrow.block j (by simp; omega) (fun e => by
      rcases hown.2 with ⟨hv, _⟩ | ⟨g, cap, cur, hv, _, hg, _⟩
      · rw [hv] at e; simp [Value.ownBlock] at e
      · rw [hv] at e
        simp [Value.ownBlock] at e
        subst e
        rw [e1] at hg
        simp at hg
        exact h2 hg.2.1), Lib.alloc_old w1 _ j hlt]
    exact e1) 1 v2
  obtain ⟨ao, n2, cap, rfl⟩ : ∃ ao n2 cap, v2 = .slice ao n2 cap := by
    rcases hown2.2 with ⟨hv, _⟩ | ⟨g, cap, cur, hv, _⟩
    · exact ⟨_, _, _, hv⟩
    · exact ⟨_, _, _, hv⟩
  clear hown hown2 hgrow hb1 hbk hb2 hne c1 hok1
  go_wp2
  go_ret
  exact ⟨rfl, HX.out, HY.out, HO.out⟩

set_option maxHeartbeats 2000000 in
set_option maxRecDepth 100000 in
theorem bwString5 (b : Nat) (l s : List UInt8) (w : World) (h : Bw b w l) (hl : l.length ≤ 1000000) (hs : s.length ≤ 1000000) :
    Calls Tryd.prog 33 #[.pointer (some ⟨b, 0, none⟩), .string ⟨s.toArray⟩] w fun e w' => e = .returned (.tuple #[.int .i64 (s.length : Int), .nilIface]) ∧ Bw b w' (l ++ s) ∧ Below b w w' ∧ Ok5 b w w' := by
  have hbw : b < w.heap.size := by
    rcases h with h | h
    · exact h.lt
    · exact h.lt
  have C : Hid (Calls Tryd.prog 40 #[.pointer (some ⟨b, 0, none⟩)] w fun e w' => e = .returned (.tuple #[]) ∧ Lib.BuilderAt 43 5 b b (.pointer (some ⟨b, 0, none⟩)) (Lib.byteCells l) w' ∧ Below b w w' ∧ Ok5 b w w') := bwCheck b l w h
  obtain ⟨i0, hi, hz0, hz1, hz2⟩ := info_parts bwByteInfo
  have hss : (⟨s.toArray⟩ : ByteArray).size = s.length := by simp [ByteArray.size]
  clear h
  go_enter Tryd.func33, Tryd.ntmps33
  go_wp2_with fail
  refine C.out.mono ?_
  rintro e w1 ⟨rfl, ⟨hB, v, hbk, hown, hne⟩, hb1, hok1⟩
  have hs1 := hb1.size
  have c1 : w1.cell? ⟨b, 1, none⟩ = some v := by rw [Lib.cell_of_heap hbk]; rfl
  have hc : (Lib.byteCells l).length = l.length := Lib.byteCells_length l
  clear C
  go_wp2_with (at_builtin; refine Lib.wpList_append_own_string _ rfl _ _ 36 9 rfl b 5 i0 Tryd.underlying36 Tryd.underlying9 hi hz0 hz1 hz2 _ _ _ rfl hown ⟨s.toArray⟩ rfl ?c3 ?c4 ?c5 ?_)
  case c3 => unfold maxLen; omega
  case c4 => omega
  case c5 => omega
  intro v2 w2 hown2 hgrow _
  have hb2 : w2.heap[b]? = some (.cells #[.pointer (some ⟨b, 0, none⟩), v] 43 (0, 0)) := by
    rw [hgrow.block b (by omega) (fun e => hne e.symm)]
    exact hbk
  have d1 : w2.cell? ⟨b, 1, none⟩ = some v := by rw [Lib.cell_of_heap hb2]; rfl
  have f1 : w2.frozen? ⟨b, 1, none⟩ = false := Lib.frozen_of_heap hb2 1
  have HX : Hid (Bw b (w2.setCell ⟨b, 1, none⟩ v2) (l ++ s)) := Or.inr (by
    refine Lib.BuilderAt.put (T := 43) (e := 5) hB hb2 (bs' := Lib.byteCells (l ++ s)) ?_ bwNe
    rw [Lib.strCells_toArray] at hown2
    simpa [Lib.byteCells] using hown2)
  have HY : Hid (Below b w (w2.setCell ⟨b, 1, none⟩ v2)) := (hb1.grown hgrow (by omega) (fun k hk => (hown.lt k hk).1)).setCell (p := ⟨b, 1, none⟩) hB _
  have HO : Hid (Ok5 b w (w2.setCell ⟨b, 1, none⟩ v2)) := Ok5.set (fun j arr t fr h1 h2 h3 => by
    have e1 := hok1 j arr t fr h1 h2 h3
    have hlt := blk_lt e1
    rw [hgrow.block j (by omega) (fun e => by
      rcases hown.2 with ⟨hv, _⟩ | ⟨g, cap, cur, hv, _, hg, _⟩
      · rw [hv] at e; simp [Value.ownBlock] at e
      · rw [hv] at e
        simp [Value.ownBlock] at e
        subst e
        rw [e1] at hg
        simp at hg
        exact h2 hg.2.1)]
    exact e1) 1 v2
  obtain ⟨ao, n2, cap, rfl⟩ : ∃ ao n2 cap, v2 = .slice ao n2 cap := by
    rcases hown2.2 with ⟨hv, _⟩ | ⟨g, cap, cur, hv, _⟩
    · exact ⟨_, _, _, hv⟩
    · exact ⟨_, _, _, hv⟩
  clear hown hown2 hgrow hb1 hbk hb2 hne c1 hok1
  go_wp2
  go_ret2
  exact ⟨rfl, HX.out, HY.out, HO.out⟩

theorem Ok5.trans {b : Nat} {w w1 w2 : World} (h : Ok5 b w w1) (h' : Ok5 b w1 w2) : Ok5 b w w2 := fun j arr t fr h1 h2 h3 => h' j arr t fr (h j arr t fr h1 h2 h3) h2 h3
theorem Ok5.below {b : Nat} {w w1 : World} (h : Below w.heap.size w w1) : Ok5 b w w1 := fun j _ _ _ h1 _ _ => (h.block j (blk_lt h1)).trans h1

theorem l01_bytes (n : Nat) : (Pl.vb 8 n).length ≤ 9 := by
  suffices h : ∀ f n, (Pl.vb f n).length ≤ f + 1 from h 8 n
  intro f
  induction f with
  | zero => intro n; simp [Pl.vb]
  | succ f ih =>
    intro n
    by_cases h : 127 < n
    · rw [Pl.vb_more f n h]
      have := ih (n / 128)
      simp
      omega
    · rw [Pl.vb_last (f + 1) n h]
      simp

set_option maxHeartbeats 1000000 in
set_option maxRecDepth 100000 in
theorem bwNumber5 (b : Nat) (l : List UInt8) (n : Nat) (w : World) (h : Bw b w l) (hl : l.length ≤ 900000) (hn : n ≤ 1000000000) :
    Calls Tryd.prog 17 #[.pointer (some ⟨b, 0, none⟩), .int .i64 (n : Int)] w fun e w' => e = .returned (.tuple #[]) ∧ Bw b w' (l ++ Pl.vb 8 n) ∧ Below b w w' ∧ Ok5 b w w' := by
  have hbw : b < w.heap.size := by
    rcases h with h | h
    · exact h.lt
    · exact h.lt
  have C1 : Hid (Calls Tryd.prog 32 #[.int .i64 (n : Int)] w fun e w' => e = .returned (.tuple #[.string ⟨(Pl.vb 8 n).toArray⟩, .bool true]) ∧ Below w.heap.size w w') := implVar_nat n w hn
  have C2 : Hid (∀ W, Below w.heap.size w W → Calls Tryd.prog 33 #[.pointer (some ⟨b, 0, none⟩), .string ⟨(Pl.vb 8 n).toArray⟩] W fun e w' => e = .returned (.tuple #[.int .i64 ((Pl.vb 8 n).length : Int), .nilIface]) ∧ Bw b w' (l ++ Pl.vb 8 n) ∧ Below b W w' ∧ Ok5 b W w') := fun W hb => bwString5 b l _ W (Bw.keep h hb) (by omega) (by have := l01_bytes n; omega)
  clear h
  generalize Pl.vb 8 n = V at *
  go_enter Tryd.func17, Tryd.ntmps17
  go_wp2_with fail
  refine C1.out.mono ?_
  rintro e w1 ⟨rfl, hb1⟩
  have H1 : Hid (Below w.heap.size w w1) := hb1
  clear hb1 C1
  go_wp2_with fail
  refine (C2.out _ H1.out).mono ?_
  rintro e w2 ⟨rfl, h2, hb2, ho2⟩
  have H4 : Hid (Ok5 b w w2) := (Ok5.below H1.out).trans ho2
  have H2 : Hid (Bw b w2 (l ++ V)) := h2
  have H3 : Hid (Below b w w2) := (H1.out.mono (by omega)).trans hb2
  clear h2 hb2 ho2 C2
  go_wp2
  go_end0
  exact ⟨rfl, H2.out, H3.out, H4.out⟩

theorem bwNumber (b : Nat) (l : List UInt8) (n : Nat) (w : World) (h : Bw b w l) (hl : l.length ≤ 900000) (hn : n ≤ 1000000000) :
    Calls Tryd.prog 17 #[.pointer (some ⟨b, 0, none⟩), .int .i64 (n : Int)] w fun e w' => e = .returned (.tuple #[]) ∧ Bw b w' (l ++ Pl.vb 8 n) ∧ Below b w w' := by
  refine (bwNumber5 b l n w h hl hn).mono ?_
  rintro e w' ⟨h1, h2, h3, -⟩
  exact ⟨h1, h2, h3⟩

set_option maxHeartbeats 1000000 in
set_option maxRecDepth 100000 in
theorem bwOne (b : Nat) (l : List UInt8) (n : Nat) (w : World) (h : Bw b w l) (hl : l.length ≤ 900000) (hn : n ≤ 255) :
    Calls Tryd.prog 16 #[.pointer (some ⟨b, 0, none⟩), .int .i64 (n : Int)] w fun e w' => e = .returned (.tuple #[]) ∧ Bw b w' (l ++ [UInt8.ofNat n]) ∧ Below b w w' ∧ Ok5 b w w' := by
  have hz : (n : Int) = ((UInt8.ofNat n).toNat : Int) := by simp; omega
  have C2 : Hid (Calls Tryd.prog 31 #[.pointer (some ⟨b, 0, none⟩), .int .u8 (n : Int)] w fun e w' => e = .returned .nilIface ∧ Bw b w' (l ++ [UInt8.ofNat n]) ∧ Below b w w' ∧ Ok5 b w w') := bwByte b l (UInt8.ofNat n) n hz w h (by omega)
  have u1 : IntKind.u8.wrap (n : Int) = (n : Int) := by unfold IntKind.wrap; simp [IntKind.bits, IntKind.signed]; omega
  clear h hz
  generalize UInt8.ofNat n = V at *
  go_enter Tryd.func16, Tryd.ntmps16
  go_wp2_with fail
  refine C2.out.mono ?_
  rintro e w2 ⟨rfl, h2, hb2, ho2⟩
  have H2 : Hid (Bw b w2 (l ++ [V])) := h2
  have H3 : Hid (Below b w w2 ∧ Ok5 b w w2) := ⟨hb2, ho2⟩
  clear h2 hb2 ho2 C2
  go_wp2
  go_end0
  exact ⟨rfl, H2.out, H3.out.1, H3.out.2⟩
end Go.Proofs.YtdkenmpdgadcpaaDoor
