/- The program's writer of bytes: a strings.Builder that lies within a struct of the program's own. -/
import Derived.Test.YthbblocllicmiaqVrD
import Derived.Test.YthbblocllicmiaqZaa
import Derived.Lib.Builder
import Derived.Lib.AppendStr
import Derived.Lib.AppendIntMem
import Derived.Shelf.Strings.Builder1
namespace Go.Proofs.Ythbblocllicmiaq
open Go.RowKit

/-- The writer in block b has written l. -/
def Bw (b : Nat) (w : World) (l : List UInt8) : Prop := Lib.IsBuilder 62 5 b b (Lib.byteCells l) w
theorem Bw.new (w : World) : Bw w.heap.size (w.alloc (.cells #[.pointer none, .slice none 0 0] 62)) [] := Lib.fresh_isBuilder 62 5 w
theorem Bw.keep {b : Nat} {w w' : World} {l : List UInt8} (h : Bw b w l) (hb : Below w.heap.size w w') : Bw b w' l := by
  have key : ∀ p, Lib.BuilderAt 62 5 b b p (Lib.byteCells l) w → Lib.BuilderAt 62 5 b b p (Lib.byteCells l) w' := by
    rintro p ⟨hB, v, hbk, hown, hne⟩
    refine ⟨hB, v, (hb.block b (blk_lt hbk)).trans hbk, ⟨hown.1, ?_⟩, hne⟩
    rcases hown.2 with hn | ⟨g, cap, cur, rfl, h1, hg, rest⟩
    · exact .inl hn
    · exact .inr ⟨g, cap, cur, rfl, h1, (hb.block g (blk_lt hg)).trans hg, rest⟩
  exact h.elim (fun x => .inl (key _ x)) (fun x => .inr (key _ x))
/-- What lies in rows of another kind than bytes, but for block b, is as it was. -/
def Ok5 (b : Nat) (w w' : World) : Prop := ∀ (j : Nat) (arr : Array Value) (t : TypeId) (fr : Nat × Nat), w.heap[j]? = some (.cells arr t fr) → t ≠ 5 → j ≠ b → w'.heap[j]? = some (.cells arr t fr)
theorem Ok5.refl (b : Nat) (w : World) : Ok5 b w w := fun _ _ _ _ h _ _ => h
theorem Ok5.set {b : Nat} {w w' : World} (h : Ok5 b w w') (k : Nat) (u : Value) : Ok5 b w (w'.setCell ⟨b, k, none⟩ u) := fun j arr t fr h1 h2 h3 => by
  rw [Below.heap_setCell _ _ _ _ (by exact h3)]
  exact h j arr t fr h1 h2 h3
theorem bwInfo : (Try.prog.info? 60).map (·.size) = some 2 := by kernel_rfl
theorem bwLies : liesAt Try.prog Try.prog.depth 62 (2 / Try.prog.cellsOf 62) 0 60 1 = true := by kernel_rfl

set_option maxHeartbeats 1000000 in
set_option maxRecDepth 100000 in
theorem bwCheck (b : Nat) (l : List UInt8) (w : World) (h : Bw b w l) :
    Calls Try.prog 68 #[.pointer (some ⟨b, 0, none⟩)] w fun e w' => e = .returned (.tuple #[]) ∧ Lib.BuilderAt 62 5 b b (.pointer (some ⟨b, 0, none⟩)) (Lib.byteCells l) w' ∧ Below b w w' ∧ Ok5 b w w' := by
  obtain ⟨j, hj, hjs⟩ := Option.map_eq_some_iff.1 bwInfo
  rcases h with h | h
  · have c0 := h.cell0
    have hf := h.frozen0
    have HU : Hid (Lib.BuilderAt 62 5 b b (.pointer (some ⟨b, 0, none⟩)) (Lib.byteCells l) (w.setCell ⟨b, 0, none⟩ (.pointer (some ⟨b, 0, none⟩)))) := h.used _
    have r1 := Lib.run_to_unsafe (P := Try.prog) (w := w) ⟨b, 0, none⟩ Try.underlying58 Try.underlying114 hj (by rw [hjs]; decide) h.shape (Nat.zero_lt_succ 1)
    have r2 := Lib.run_from_unsafe (P := Try.prog) (w := w) ⟨b, 0, none⟩ Try.underlying114 Try.underlying58 hj h.shape bwLies
    clear h
    go_enter Try.func68, Try.ntmps68
    go_wp2
    rw [run_callFunc_extern Try.func75 (by kernel_rfl) (by kernel_rfl) (by kernel_rfl) (e := Extern.AbiNoEscape.same) (by kernel_rfl), Lib.run_noEscape]
    simp only [Result.andThen]
    rw [Oper.upon_value]
    go_wp2
    go_end0
    exact ⟨rfl, HU.out, (Below.refl b w).setCell (p := ⟨b, 0, none⟩) (Nat.le_refl _) _, (Ok5.refl b w).set 0 _⟩
  · have c0 := h.cell0
    have HU : Hid _ := h
    have r3 := Lib.run_neq_ptr_same (P := Try.prog) w ⟨b, 0, none⟩ Try.underlying58 hj
    clear h
    go_enter Try.func68, Try.ntmps68
    go_wp2
    go_end0
    exact ⟨rfl, HU.out, Below.refl _ _, Ok5.refl _ _⟩

theorem bwByteInfo : (Try.prog.info? 5).map (fun i => (i.zero, i.size, i.bytes)) = some (some (.int .u8 0), 1, 1) := by kernel_rfl
theorem bwNe : (62 : TypeId) ≠ 5 := by decide

set_option maxHeartbeats 2000000 in
set_option maxRecDepth 100000 in
theorem bwByte (b : Nat) (l : List UInt8) (c : UInt8) (z : Int) (hz : z = (c.toNat : Int)) (w : World) (h : Bw b w l) (hl : l.length ≤ 1000000) :
    Calls Try.prog 54 #[.pointer (some ⟨b, 0, none⟩), .int .u8 z] w fun e w' => e = .returned .nilIface ∧ Bw b w' (l ++ [c]) ∧ Below b w w' ∧ Ok5 b w w' := by
  subst hz
  have hbw : b < w.heap.size := by
    rcases h with h | h
    · exact h.lt
    · exact h.lt
  have C : Hid (Calls Try.prog 68 #[.pointer (some ⟨b, 0, none⟩)] w fun e w' => e = .returned (.tuple #[]) ∧ Lib.BuilderAt 62 5 b b (.pointer (some ⟨b, 0, none⟩)) (Lib.byteCells l) w' ∧ Below b w w' ∧ Ok5 b w w') := bwCheck b l w h
  obtain ⟨i0, hi, hz0, hz1, hz2⟩ := info_parts bwByteInfo
  clear h
  go_enter Try.func54, Try.ntmps54
  go_wp2_with fail
  refine C.out.mono ?_
  rintro e w1 ⟨rfl, ⟨hB, v, hbk, hown, hne⟩, hb1, hok1⟩
  have hs1 := hb1.size
  have c1 : w1.cell? ⟨b, 1, none⟩ = some v := by rw [Lib.cell_of_heap hbk]; rfl
  have hc : (Lib.byteCells l).length = l.length := Lib.byteCells_length l
  clear C
  go_wp2_with (at_builtin; go_must (refine wpList_append_own _ rfl _ _ 56 rfl b 5 i0 (.int .u8 0) 1 1 Try.underlying56 hi hz0 hz1 hz2 rfl (by decide) _ _ _ rfl (hown.alloc _) ⟨w1.heap.size, 0, none⟩ 1 1 [.int .u8 (c.toNat : Int)] rfl rfl ?c1 ?c2 ?c3 ?c4 ?c5 ?_))
  case c1 => exact cell_one_new _ _ _
  case c2 => intro u hu; simp at hu; subst hu; rfl
  case c3 => unfold maxLen; omega
  case c4 => omega
  case c5 => simp; omega
  intro v2 w2 hown2 hgrow _
  have hb2 : w2.heap[b]? = some (.cells #[.pointer (some ⟨b, 0, none⟩), v] 62 (0, 0)) := by
    rw [hgrow.block b (by simp; omega) (fun e => hne e.symm), Lib.alloc_old w1 _ b (by omega)]
    exact hbk
  have d1 : w2.cell? ⟨b, 1, none⟩ = some v := by rw [Lib.cell_of_heap hb2]; rfl
  have f1 : w2.frozen? ⟨b, 1, none⟩ = false := Lib.frozen_of_heap hb2 1
  have HX : Hid (Bw b (w2.setCell ⟨b, 1, none⟩ v2) (l ++ [c])) := Or.inr (by
    refine Lib.BuilderAt.put (T := 62) (e := 5) hB hb2 (bs' := Lib.byteCells (l ++ [c])) ?_ bwNe
    simpa [Lib.byteCells] using hown2)
  have HY : Hid (Below b w (w2.setCell ⟨b, 1, none⟩ v2)) := ((hb1.alloc (by omega) _).grown hgrow (by simp; omega) (fun k hk => (hown.lt k hk).1)).setCell (p := ⟨b, 1, none⟩) hB _
  have HO : Hid (Ok5 b w (w2.setCell ⟨b, 1, none⟩ v2)) := Ok5.set (fun j arr t fr h1 h2 h3 => by
    have e1 := hok1 j arr t fr h1 h2 h3
    have hlt := blk_lt e1
    rw [hgrow.block j (by simp; omega) (fun e => by
      rcases hown.2 with ⟨hv, _⟩ | ⟨g, cap, cur, hv, _, hg, _⟩
      · rw [hv] at e; simp [Value.ownBlock] at e
      · rw [hv] at e
        simp [Value.ownBlock] at e
        subst e
        rw [e1] at hg
        simp at hg
        exact h2 hg.2.1), Lib.alloc_old w1 _ j hlt]
    exact e1) 1 v2
  obtain ⟨ao, n2, cap, rfl⟩ : ∃ ao n2 cap, v2 = .slice ao n2 cap := by
    rcases hown2.2 with ⟨hv, _⟩ | ⟨g, cap, cur, hv, _⟩
    · exact ⟨_, _, _, hv⟩
    · exact ⟨_, _, _, hv⟩
  clear hown hown2 hgrow hb1 hbk hb2 hne c1 hok1
  go_wp2
  go_ret
  exact ⟨rfl, HX.out, HY.out, HO.out⟩

set_option maxHeartbeats 2000000 in
set_option maxRecDepth 100000 in
theorem bwString (b : Nat) (l s : List UInt8) (w : World) (h : Bw b w l) (hl : l.length ≤ 1000000) (hs : s.length ≤ 1000000) :
    Calls Try.prog 52 #[.pointer (some ⟨b, 0, none⟩), .string ⟨s.toArray⟩] w fun e w' => e = .returned (.tuple #[.int .i64 (s.length : Int), .nilIface]) ∧ Bw b w' (l ++ s) ∧ Below b w w' := by
  have hbw : b < w.heap.size := by
    rcases h with h | h
    · exact h.lt
    · exact h.lt
  have C : Hid (Calls Try.prog 68 #[.pointer (some ⟨b, 0, none⟩)] w fun e w' => e = .returned (.tuple #[]) ∧ Lib.BuilderAt 62 5 b b (.pointer (some ⟨b, 0, none⟩)) (Lib.byteCells l) w' ∧ Below b w w' ∧ Ok5 b w w') := bwCheck b l w h
  obtain ⟨i0, hi, hz0, hz1, hz2⟩ := info_parts bwByteInfo
  have hss : (⟨s.toArray⟩ : ByteArray).size = s.length := by simp [ByteArray.size]
  clear h
  go_enter Try.func52, Try.ntmps52
  go_wp2_with fail
  refine C.out.mono ?_
  rintro e w1 ⟨rfl, ⟨hB, v, hbk, hown, hne⟩, hb1, hok1⟩
  have hs1 := hb1.size
  have c1 : w1.cell? ⟨b, 1, none⟩ = some v := by rw [Lib.cell_of_heap hbk]; rfl
  have hc : (Lib.byteCells l).length = l.length := Lib.byteCells_length l
  clear C
  go_wp2_with (at_builtin; refine Lib.wpList_append_own_string _ rfl _ _ 56 9 rfl b 5 i0 Try.underlying56 Try.underlying9 hi hz0 hz1 hz2 _ _ _ rfl hown ⟨s.toArray⟩ rfl ?c3 ?c4 ?c5 ?_)
  case c3 => unfold maxLen; omega
  case c4 => omega
  case c5 => omega
  intro v2 w2 hown2 hgrow _
  have hb2 : w2.heap[b]? = some (.cells #[.pointer (some ⟨b, 0, none⟩), v] 62 (0, 0)) := by
    rw [hgrow.block b (by omega) (fun e => hne e.symm)]
    exact hbk
  have d1 : w2.cell? ⟨b, 1, none⟩ = some v := by rw [Lib.cell_of_heap hb2]; rfl
  have f1 : w2.frozen? ⟨b, 1, none⟩ = false := Lib.frozen_of_heap hb2 1
  have HX : Hid (Bw b (w2.setCell ⟨b, 1, none⟩ v2) (l ++ s)) := Or.inr (by
    refine Lib.BuilderAt.put (T := 62) (e := 5) hB hb2 (bs' := Lib.byteCells (l ++ s)) ?_ bwNe
    rw [Lib.strCells_toArray] at hown2
    simpa [Lib.byteCells] using hown2)
  have HY : Hid (Below b w (w2.setCell ⟨b, 1, none⟩ v2)) := (hb1.grown hgrow (by omega) (fun k hk => (hown.lt k hk).1)).setCell (p := ⟨b, 1, none⟩) hB _
  obtain ⟨ao, n2, cap, rfl⟩ : ∃ ao n2 cap, v2 = .slice ao n2 cap := by
    rcases hown2.2 with ⟨hv, _⟩ | ⟨g, cap, cur, hv, _⟩
    · exact ⟨_, _, _, hv⟩
    · exact ⟨_, _, _, hv⟩
  clear hown hown2 hgrow hb1 hbk hb2 hne c1 hok1
  go_wp2
  go_ret2
  exact ⟨rfl, HX.out, HY.out⟩

theorem cat_list (a : List UInt8) (s : ByteArray) : (⟨a.toArray⟩ ++ s : ByteArray) = ⟨(a ++ s.data.toList).toArray⟩ := by
  apply ByteArray.ext
  simp
theorem l01_bytes (n : Nat) : (Pl.vb 8 n).length ≤ 9 := by
  suffices h : ∀ f n, (Pl.vb f n).length ≤ f + 1 from h 8 n
  intro f
  induction f with
  | zero => intro n; simp [Pl.vb]
  | succ f ih =>
    intro n
    by_cases h : 127 < n
    · rw [Pl.vb_more f n h]
      have := ih (n / 128)
      simp
      omega
    · rw [Pl.vb_last (f + 1) n h]
      simp

set_option maxHeartbeats 1000000 in
set_option maxRecDepth 100000 in
theorem bwNumber (b : Nat) (l : List UInt8) (n : Nat) (w : World) (h : Bw b w l) (hl : l.length ≤ 900000) (hn : n ≤ 20000) :
    Calls Try.prog 30 #[.pointer (some ⟨b, 0, none⟩), .int .i64 (n : Int)] w fun e w' => e = .returned (.tuple #[]) ∧ Bw b w' (l ++ Pl.vb 8 n) ∧ Below b w w' := by
  have hbw : b < w.heap.size := by
    rcases h with h | h
    · exact h.lt
    · exact h.lt
  have C1 : Hid (Calls Try.prog 51 #[.int .i64 (n : Int)] w fun e w' => e = .returned (.tuple #[.string ⟨(Pl.vb 8 n).toArray⟩, .bool true]) ∧ Below w.heap.size w w') := implVar_nat n w hn
  have C2 : Hid (∀ W, Below w.heap.size w W → Calls Try.prog 52 #[.pointer (some ⟨b, 0, none⟩), .string ⟨(Pl.vb 8 n).toArray⟩] W fun e w' => e = .returned (.tuple #[.int .i64 ((Pl.vb 8 n).length : Int), .nilIface]) ∧ Bw b w' (l ++ Pl.vb 8 n) ∧ Below b W w') := fun W hb => bwString b l _ W (Bw.keep h hb) (by omega) (by have := l01_bytes n; omega)
  clear h
  generalize Pl.vb 8 n = V at *
  go_enter Try.func30, Try.ntmps30
  go_wp2_with fail
  refine C1.out.mono ?_
  rintro e w1 ⟨rfl, hb1⟩
  have H1 : Hid (Below w.heap.size w w1) := hb1
  clear hb1 C1
  go_wp2_with fail
  refine (C2.out _ H1.out).mono ?_
  rintro e w2 ⟨rfl, h2, hb2⟩
  have H2 : Hid (Bw b w2 (l ++ V)) := h2
  have H3 : Hid (Below b w w2) := (H1.out.mono (by omega)).trans hb2
  clear h2 hb2 C2
  go_wp2
  go_end0
  exact ⟨rfl, H2.out, H3.out⟩

set_option maxHeartbeats 1000000 in
set_option maxRecDepth 100000 in
theorem bwShort (b : Nat) (l : List UInt8) (s : ByteArray) (w : World) (h : Bw b w l) (hl : l.length ≤ 900000) (hn : s.size ≤ 20000) :
    Calls Try.prog 31 #[.pointer (some ⟨b, 0, none⟩), .string s] w fun e w' => e = .returned (.tuple #[]) ∧ Bw b w' (l ++ (Pl.vb 8 s.size ++ s.data.toList)) ∧ Below b w w' := by
  have hbw : b < w.heap.size := by
    rcases h with h | h
    · exact h.lt
    · exact h.lt
  obtain ⟨V, hV⟩ : ∃ V, V = Pl.vb 8 s.size ++ s.data.toList := ⟨_, rfl⟩
  have hVl : V.length ≤ 1000000 := by
    rw [hV]
    have := l01_bytes s.size
    have : s.data.toList.length = s.size := by simp
    simp only [List.length_append]
    omega
  have C1 : Hid (Calls Try.prog 53 #[.string s] w fun e w' => e = .returned (.tuple #[.string ⟨V.toArray⟩, .bool true]) ∧ Below w.heap.size w w') := by
    have := implShort_any s w (by omega)
    unfold shortRes at this
    rw [if_pos hn, cat_list] at this
    rw [hV]
    exact this
  rw [← hV]
  have C2 : Hid (∀ W, Below w.heap.size w W → Calls Try.prog 52 #[.pointer (some ⟨b, 0, none⟩), .string ⟨V.toArray⟩] W fun e w' => e = .returned (.tuple #[.int .i64 (V.length : Int), .nilIface]) ∧ Bw b w' (l ++ V) ∧ Below b W w') := fun W hb => bwString b l _ W (Bw.keep h hb) (by omega) (by omega)
  clear h hV
  go_enter Try.func31, Try.ntmps31
  go_wp2_with fail
  refine C1.out.mono ?_
  rintro e w1 ⟨rfl, hb1⟩
  have H1 : Hid (Below w.heap.size w w1) := hb1
  clear hb1 C1
  go_wp2_with fail
  refine (C2.out _ H1.out).mono ?_
  rintro e w2 ⟨rfl, h2, hb2⟩
  have H2 : Hid (Bw b w2 (l ++ V)) := h2
  have H3 : Hid (Below b w w2) := (H1.out.mono (by omega)).trans hb2
  clear h2 hb2 C2
  go_wp2
  go_end0
  exact ⟨rfl, H2.out, H3.out⟩

set_option maxHeartbeats 1000000 in
set_option maxRecDepth 100000 in
theorem bwOne (b : Nat) (l : List UInt8) (n : Nat) (w : World) (h : Bw b w l) (hl : l.length ≤ 900000) (hn : n ≤ 255) :
    Calls Try.prog 32 #[.pointer (some ⟨b, 0, none⟩), .int .i64 (n : Int)] w fun e w' => e = .returned (.tuple #[]) ∧ Bw b w' (l ++ [UInt8.ofNat n]) ∧ Below b w w' ∧ Ok5 b w w' := by
  have hz : (n : Int) = ((UInt8.ofNat n).toNat : Int) := by simp; omega
  have C2 : Hid (Calls Try.prog 54 #[.pointer (some ⟨b, 0, none⟩), .int .u8 (n : Int)] w fun e w' => e = .returned .nilIface ∧ Bw b w' (l ++ [UInt8.ofNat n]) ∧ Below b w w' ∧ Ok5 b w w') := bwByte b l (UInt8.ofNat n) n hz w h (by omega)
  have u1 : IntKind.u8.wrap (n : Int) = (n : Int) := by unfold IntKind.wrap; simp [IntKind.bits, IntKind.signed]; omega
  clear h hz
  generalize UInt8.ofNat n = V at *
  go_enter Try.func32, Try.ntmps32
  go_wp2_with fail
  refine C2.out.mono ?_
  rintro e w2 ⟨rfl, h2, hb2, ho2⟩
  have H2 : Hid (Bw b w2 (l ++ [V])) := h2
  have H3 : Hid (Below b w w2 ∧ Ok5 b w w2) := ⟨hb2, ho2⟩
  clear h2 hb2 ho2 C2
  go_wp2
  go_end0
  exact ⟨rfl, H2.out, H3.out.1, H3.out.2⟩
#print axioms bwByte
#print axioms bwNumber
#print axioms bwShort
#print axioms bwOne
#print axioms bwString
end Go.Proofs.Ythbblocllicmiaq
