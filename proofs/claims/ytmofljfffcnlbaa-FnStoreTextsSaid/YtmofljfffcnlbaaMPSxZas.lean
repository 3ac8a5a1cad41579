/- What the specification's ReadVar answers, at every text and place. What ShortText and ReadShort answer, the program's and the specification's, and that the laws on ReadVar, ShortText and ReadShort answer true. The program's writer of bytes: a strings.Builder that lies within a struct of the program's own. Code in bytes: the specification of CodeText. -/
import Derived.Test.YtmofljfffcnlbaaMPSxVrB
import Derived.Deep.RegionHeld3
import Derived.Test.YtmofljfffcnlbaaMPSxZab
import Derived.Test.YtmofljfffcnlbaaMPSxZaa
import Derived.Lib.Builder
import Derived.Lib.AppendStr
import Derived.Lib.AppendIntMem
import Derived.Shelf.Strings.Builder1
import Derived.Test.YtmofljfffcnlbaaMPSxZar
namespace Go.Proofs.Ytmofljfffcnlbaa
section PartVrC
open Go.RowKit

set_option maxHeartbeats 800000 in
set_option maxRecDepth 100000 in
theorem specRv_any (s : ByteArray) (at_ : Int) (w : World) (hs : s.size ≤ 1048576) :
    Calls Try.prog 45 #[.string s, .int .i64 at_] w fun e w' => e = .returned (rvRes s at_) ∧ Below w.heap.size w w' := by
  by_cases h0 : at_ < 0 ∨ (s.size : Int) < at_
  · have hres : rvRes s at_ = .tuple #[.int .i64 0, .int .i64 0, .bool false] := by unfold rvRes; rw [if_neg (by omega)]; rfl
    rw [hres]
    clear hres
    go_enter Try.func45, Try.ntmps45
    go_wp2_with (go_at_call 48; refine (l01In_no _ _ _ _ (by omega)).mono ?_; rintro e w' ⟨rfl, rfl⟩)
    go_ret3
    exact ⟨rfl, Below.refl _ _⟩
  obtain ⟨a, rfl⟩ := Int.eq_ofNat_of_zero_le (by omega : 0 ≤ at_)
  have ha : a ≤ s.size := by omega
  have hres : rvRes s a = rvVal a (Pl.rvF 5 [] (s.data.toList.drop a)) := by unfold rvRes; rw [if_pos (by omega)]; rfl
  rw [hres]
  clear hres h0
  go_enter Try.func45, Try.ntmps45
  go_wp2_with (go_at_call 48; refine (l01In_yes _ _ _ _ (by omega) (by omega)).mono ?_; rintro e w' ⟨rfl, rfl⟩)
  go_loop [7, 8, 9] (fun nn sc i => ∃ (k m c : Nat) (pre : List UInt8), i = .int .i64 k ∧ nn = .int .i64 m ∧ sc = .int .i64 c ∧ a ≤ k ∧ k ≤ s.size ∧ k ≤ a + 5 ∧ Hid (RvAt s a k m c pre)) (fun _ _ i => s.size - (intOf i).toNat)
  case atStart => exact ⟨a, 0, 1, [], rfl, rfl, rfl, by omega, by omega, by omega, RvAt.start s a⟩
  case round =>
    obtain ⟨k, m, c, pre, rfl, rfl, rfl, hak, hks, hk5, H⟩ := hrel
    by_cases hlt : k < s.size
    · by_cases h5 : k < a + 5
      · obtain ⟨hm, hc⟩ := H.out.small h5
        have hmul := Pl.mul_bound (s[k].toNat % 128) c (by omega) hc
        have hq1 : ((s[k].toNat : Int) % 128) * (c : Int) ≤ 34359738368 := by rw [← Pl.mul_int]; omega
        have hq0 : 0 ≤ ((s[k].toNat : Int) % 128) * (c : Int) := by rw [← Pl.mul_int]; omega
        have h256 : s[k].toNat < 256 := s[k].toNat_lt
        clear hmul
        have hd5 : decide ((k : Int) < (a : Int) + 5) = true := by simp; omega
        by_cases hb : 128 ≤ s[k].toNat
        · have HN : Hid (RvAt s a (k + 1) (m + s[k].toNat % 128 * c) (c * 128) (pre ++ [s[k]])) := H.out.on hlt h5 hb
          go_wp2
          go_round
          case rel => exact ⟨k + 1, m + s[k].toNat % 128 * c, c * 128, _, by go_num, by rw [Int.natCast_add, Pl.mul_int], by go_num, by omega, by omega, by omega, HN.out⟩
          case measure => simp [intOf]; omega
        · by_cases hbig : 1000000000 < (m : Int) + (s[k].toNat : Int) % 128 * (c : Int)
          · go_wp2_with fail
            go_quiet (fail)
            go_wp2
            go_ret3
            exact ⟨by rw [H.out.no hlt h5 (by omega) (.inr hbig)]; rfl, below_drewN (Below.refl _ _) _⟩
          · have hbd : decide (1000000000 < (m : Int) + (s[k].toNat : Int) % 128 * (c : Int)) = false := by simp; omega
            go_wp2_with fail
            have hi1 : (a : Int) ≤ (k : Int) + 1 := by omega
            have hi2 : (k : Int) + 1 ≤ (s.size : Int) := by omega
            have hi3 : (0 : Int) ≤ (k : Int) + 1 := by omega
            have hwr : IntKind.i64.wrap ((k : Int) + 1) = (k : Int) + 1 := IntWalk.i64_in _ (by omega)
            have hsl : ∀ wx, (Instr.slice 9 (.string s) (some (.int .i64 (a : Int))) (some (.int .i64 ((k : Int) + 1))) none).run Try.prog wx = .ok (.string (s.extract a (k + 1))) wx := by
              intro wx
              rw [run_slice_string wx 9 s .i64 .i64 (a : Int) ((k : Int) + 1) Try.underlying9 (by omega) (by omega) (by omega)]
              rfl
            go_region_held3 (fun _ => True) (go_keep) ((go_at_call 42; refine (l01Var_int _ _ (by omega) (by omega)).mono ?_; rintro e w1 ⟨rfl, hb1⟩))
            go_wp2
            · have hne : (!Pl.vb 8 ((m : Int) + (s[k].toNat : Int) % 128 * (c : Int)).toNat == (s.extract a (k + 1)).toList) = true := by assumption
              have hz : s[k].toNat = 0 ∧ a < k := by
                refine Classical.byContradiction fun hn => ?_
                rw [(H.out.cmp hlt h5 (by omega)).2 hn] at hne
                cases hne
              go_ret3
              exact ⟨by rw [H.out.no hlt h5 (by omega) (.inl hz)]; rfl, (Below.refl _ _).drew.trans hb1⟩
            · have hne : (!Pl.vb 8 ((m : Int) + (s[k].toNat : Int) % 128 * (c : Int)).toNat == (s.extract a (k + 1)).toList) = false := by assumption
              have hz := (H.out.cmp hlt h5 (by omega)).1 (by simpa using hne)
              go_ret3
              exact ⟨by rw [H.out.yes hlt h5 (by omega) hz _ rfl (by omega)]; rfl, (Below.refl _ _).drew.trans hb1⟩
      · have hd5 : decide ((k : Int) < (a : Int) + 5) = false := by simp; omega
        go_wp2
        go_ret3
        exact ⟨by rw [H.out.out (by omega)]; rfl, Below.refl _ _⟩
    · go_wp2
      go_ret3
      exact ⟨by rw [H.out.out (by omega)]; rfl, Below.refl _ _⟩

end PartVrC
section PartVrD
open Go.RowKit

set_option maxHeartbeats 400000 in
theorem vclone_any (s : ByteArray) (w : World) (h : s.size ≤ 1048576) :
    Calls Try.prog 58 #[.string s] w fun e w' => e = .returned (.string s) ∧ Below w.heap.size w w' := by
  go_enter Try.func58, Try.ntmps58
  go_wp2_with (go_at_call 65; refine (Try.stringslite_Clone s _ (by omega)).mono ?_; rintro e w' ⟨rfl, hb⟩)
  go_ret
  exact ⟨rfl, hb⟩

/-- What ShortText answers. -/
def shortRes (s : ByteArray) : Value := if s.size ≤ 20000 then .tuple #[.string (⟨(Pl.vb 8 s.size).toArray⟩ ++ s), .bool true] else .tuple #[.string ⟨#[]⟩, .bool false]

theorem implVar_nat (n : Nat) (w : World) (h : n ≤ 1000000000) :
    Calls Try.prog 37 #[.int .i64 n] w fun e w' => e = .returned (.tuple #[.string ⟨(Pl.vb 8 n).toArray⟩, .bool true]) ∧ Below w.heap.size w w' := by
  have := implVarText_any n w
  rwa [varRes_yes n (by omega)] at this

set_option maxHeartbeats 400000 in
theorem implShort_any (s : ByteArray) (w : World) (hs : s.size ≤ 1048576) :
    Calls Try.prog 39 #[.string s] w fun e w' => e = .returned (shortRes s) ∧ Below w.heap.size w w' := by
  unfold shortRes
  by_cases h : s.size ≤ 20000
  · rw [if_pos h]
    have hvl := Pl.vb_len 8 s.size
    go_enter Try.func39, Try.ntmps39
    go_wp2_with (go_at_call 37; refine (implVar_nat s.size _ (by omega)).mono ?_; rintro e w' ⟨rfl, hb⟩)
    go_ret2
    exact ⟨rfl, hb⟩
  · rw [if_neg h]
    go_enter Try.func39, Try.ntmps39
    go_wp2
    go_ret2
    exact ⟨rfl, Below.refl _ _⟩

set_option maxHeartbeats 800000 in
set_option maxRecDepth 100000 in
theorem specReadShort_no (s : ByteArray) (n : Int) (w : World) (hs : s.size ≤ 1048576) (hr : rvRes s n = .tuple #[.int .i64 0, .int .i64 0, .bool false]) :
    Calls Try.prog 46 #[.string s, .int .i64 n] w fun e w' => e = .returned (.tuple #[.string ⟨#[]⟩, .int .i64 0, .bool false]) ∧ Below w.heap.size w w' := by
  have c1 := fun w => specRv_any s n w hs
  rw [hr] at c1
  have C1 : Hid (∀ w, Calls Try.prog 45 #[.string s, .int .i64 n] w fun e w' => e = .returned (.tuple #[.int .i64 0, .int .i64 0, .bool false]) ∧ Below w.heap.size w w') := c1
  clear c1 hr
  go_enter Try.func46, Try.ntmps46
  go_wp2_with (go_at_call 45; refine (C1.out _).mono ?_; rintro e w1 ⟨rfl, hb1⟩)
  go_ret3
  exact ⟨rfl, hb1⟩

set_option maxHeartbeats 800000 in
set_option maxRecDepth 100000 in
theorem specReadShort_much (s : ByteArray) (n : Int) (w : World) (hs : s.size ≤ 1048576) (m k : Nat) (hm : m ≤ 1000000000) (_hk : k ≤ s.size) (hr : rvRes s n = .tuple #[.int .i64 m, .int .i64 k, .bool true]) (h : 20000 < m) :
    Calls Try.prog 46 #[.string s, .int .i64 n] w fun e w' => e = .returned (.tuple #[.string ⟨#[]⟩, .int .i64 0, .bool false]) ∧ Below w.heap.size w w' := by
  have c1 := fun w => specRv_any s n w hs
  rw [hr] at c1
  have C1 : Hid (∀ w, Calls Try.prog 45 #[.string s, .int .i64 n] w fun e w' => e = .returned (.tuple #[.int .i64 m, .int .i64 k, .bool true]) ∧ Below w.heap.size w w') := c1
  clear c1 hr
  have hd : decide ((20000 : Int) < (m : Int)) = true := by simp; omega
  go_enter Try.func46, Try.ntmps46
  go_wp2_with (go_at_call 45; refine (C1.out _).mono ?_; rintro e w1 ⟨rfl, hb1⟩)
  go_ret3
  exact ⟨rfl, hb1⟩

set_option maxHeartbeats 800000 in
set_option maxRecDepth 100000 in
theorem specReadShort_short (s : ByteArray) (n : Int) (w : World) (hs : s.size ≤ 1048576) (m k : Nat) (hm : m ≤ 20000) (hk : k ≤ s.size) (hr : rvRes s n = .tuple #[.int .i64 m, .int .i64 k, .bool true]) (h : s.size < k + m) :
    Calls Try.prog 46 #[.string s, .int .i64 n] w fun e w' => e = .returned (.tuple #[.string ⟨#[]⟩, .int .i64 0, .bool false]) ∧ Below w.heap.size w w' := by
  have c1 := fun w => specRv_any s n w hs
  rw [hr] at c1
  have C1 : Hid (∀ w, Calls Try.prog 45 #[.string s, .int .i64 n] w fun e w' => e = .returned (.tuple #[.int .i64 m, .int .i64 k, .bool true]) ∧ Below w.heap.size w w') := c1
  clear c1 hr
  have hd : decide ((20000 : Int) < (m : Int)) = false := by simp; omega
  have hd2 : decide ((s.size : Int) - (k : Int) < (m : Int)) = true := by simp; omega
  go_enter Try.func46, Try.ntmps46
  go_wp2_with (go_at_call 45; refine (C1.out _).mono ?_; rintro e w1 ⟨rfl, hb1⟩)
  go_ret3
  exact ⟨rfl, hb1⟩

set_option maxHeartbeats 800000 in
set_option maxRecDepth 100000 in
theorem specReadShort_yes (s : ByteArray) (n : Int) (w : World) (hs : s.size ≤ 1048576) (m k : Nat) (hm : m ≤ 20000) (hk : k + m ≤ s.size) (hr : rvRes s n = .tuple #[.int .i64 m, .int .i64 k, .bool true]) :
    Calls Try.prog 46 #[.string s, .int .i64 n] w fun e w' => e = .returned (.tuple #[.string (s.extract k (k + m)), .int .i64 ((k : Int) + (m : Int)), .bool true]) ∧ Below w.heap.size w w' := by
  have c1 := fun w => specRv_any s n w hs
  rw [hr] at c1
  have C1 : Hid (∀ w, Calls Try.prog 45 #[.string s, .int .i64 n] w fun e w' => e = .returned (.tuple #[.int .i64 m, .int .i64 k, .bool true]) ∧ Below w.heap.size w w') := c1
  clear c1 hr
  have hd : decide ((20000 : Int) < (m : Int)) = false := by simp; omega
  have hd2 : decide ((s.size : Int) - (k : Int) < (m : Int)) = false := by simp; omega
  have hto : ((k : Int) + (m : Int)).toNat = k + m := by omega
  go_enter Try.func46, Try.ntmps46
  go_wp2_with (go_at_call 45; refine (C1.out _).mono ?_; rintro e w1 ⟨rfl, hb1⟩)
  go_ret3
  exact ⟨rfl, hb1⟩

set_option maxHeartbeats 800000 in
set_option maxRecDepth 100000 in
theorem implReadShort_no (s : ByteArray) (n : Int) (w : World) (hs : s.size ≤ 1048576) (hr : rvRes s n = .tuple #[.int .i64 0, .int .i64 0, .bool false]) :
    Calls Try.prog 41 #[.string s, .int .i64 n] w fun e w' => e = .returned (.tuple #[.string ⟨#[]⟩, .int .i64 0, .bool false]) ∧ Below w.heap.size w w' := by
  have c1 := fun w => implRv_any s n w hs
  rw [hr] at c1
  have C1 : Hid (∀ w, Calls Try.prog 40 #[.string s, .int .i64 n] w fun e w' => e = .returned (.tuple #[.int .i64 0, .int .i64 0, .bool false]) ∧ w' = w) := c1
  clear c1 hr
  go_enter Try.func41, Try.ntmps41
  go_wp2_with (go_at_call 40; refine (C1.out _).mono ?_; rintro e w1 ⟨rfl, rfl⟩)
  go_ret3
  exact ⟨rfl, Below.refl _ _⟩

set_option maxHeartbeats 800000 in
set_option maxRecDepth 100000 in
theorem implReadShort_much (s : ByteArray) (n : Int) (w : World) (hs : s.size ≤ 1048576) (m k : Nat) (hm : m ≤ 1000000000) (_hk : k ≤ s.size) (hr : rvRes s n = .tuple #[.int .i64 m, .int .i64 k, .bool true]) (h : 20000 < m) :
    Calls Try.prog 41 #[.string s, .int .i64 n] w fun e w' => e = .returned (.tuple #[.string ⟨#[]⟩, .int .i64 0, .bool false]) ∧ Below w.heap.size w w' := by
  have c1 := fun w => implRv_any s n w hs
  rw [hr] at c1
  have C1 : Hid (∀ w, Calls Try.prog 40 #[.string s, .int .i64 n] w fun e w' => e = .returned (.tuple #[.int .i64 m, .int .i64 k, .bool true]) ∧ w' = w) := c1
  clear c1 hr
  have hd : decide ((20000 : Int) < (m : Int)) = true := by simp; omega
  go_enter Try.func41, Try.ntmps41
  go_wp2_with (go_at_call 40; refine (C1.out _).mono ?_; rintro e w1 ⟨rfl, rfl⟩)
  go_ret3
  exact ⟨rfl, Below.refl _ _⟩

set_option maxHeartbeats 800000 in
set_option maxRecDepth 100000 in
theorem implReadShort_short (s : ByteArray) (n : Int) (w : World) (hs : s.size ≤ 1048576) (m k : Nat) (hm : m ≤ 20000) (hk : k ≤ s.size) (hr : rvRes s n = .tuple #[.int .i64 m, .int .i64 k, .bool true]) (h : s.size < k + m) :
    Calls Try.prog 41 #[.string s, .int .i64 n] w fun e w' => e = .returned (.tuple #[.string ⟨#[]⟩, .int .i64 0, .bool false]) ∧ Below w.heap.size w w' := by
  have c1 := fun w => implRv_any s n w hs
  rw [hr] at c1
  have C1 : Hid (∀ w, Calls Try.prog 40 #[.string s, .int .i64 n] w fun e w' => e = .returned (.tuple #[.int .i64 m, .int .i64 k, .bool true]) ∧ w' = w) := c1
  clear c1 hr
  have hd : decide ((20000 : Int) < (m : Int)) = false := by simp; omega
  have hd2 : decide ((s.size : Int) - (k : Int) < (m : Int)) = true := by simp; omega
  go_enter Try.func41, Try.ntmps41
  go_wp2_with (go_at_call 40; refine (C1.out _).mono ?_; rintro e w1 ⟨rfl, rfl⟩)
  go_ret3
  exact ⟨rfl, Below.refl _ _⟩

set_option maxHeartbeats 800000 in
set_option maxRecDepth 100000 in
theorem implReadShort_yes (s : ByteArray) (n : Int) (w : World) (hs : s.size ≤ 1048576) (m k : Nat) (hm : m ≤ 20000) (hk : k + m ≤ s.size) (hr : rvRes s n = .tuple #[.int .i64 m, .int .i64 k, .bool true]) :
    Calls Try.prog 41 #[.string s, .int .i64 n] w fun e w' => e = .returned (.tuple #[.string (s.extract k (k + m)), .int .i64 ((k : Int) + (m : Int)), .bool true]) ∧ Below w.heap.size w w' := by
  have c1 := fun w => implRv_any s n w hs
  rw [hr] at c1
  have C1 : Hid (∀ w, Calls Try.prog 40 #[.string s, .int .i64 n] w fun e w' => e = .returned (.tuple #[.int .i64 m, .int .i64 k, .bool true]) ∧ w' = w) := c1
  clear c1 hr
  have hd : decide ((20000 : Int) < (m : Int)) = false := by simp; omega
  have hd2 : decide ((s.size : Int) - (k : Int) < (m : Int)) = false := by simp; omega
  have hto : ((k : Int) + (m : Int)).toNat = k + m := by omega
  go_enter Try.func41, Try.ntmps41
  go_wp2_with (first | (go_at_call 40; refine (C1.out _).mono ?_; rintro e w1 ⟨rfl, rfl⟩) | (go_at_call 58; refine (vclone_any _ _ (by simp; omega)).mono ?_; rintro e w2 ⟨rfl, hb2⟩))
  go_ret3
  exact ⟨rfl, hb2⟩

end PartVrD
section PartBwA
open Go.RowKit

/-- The writer in block b has written l. -/
def Bw (b : Nat) (w : World) (l : List UInt8) : Prop := Lib.IsBuilder 44 5 b b (Lib.byteCells l) w
theorem Bw.new (w : World) : Bw w.heap.size (w.alloc (.cells #[.pointer none, .slice none 0 0] 44)) [] := Lib.fresh_isBuilder 44 5 w
theorem Bw.keep {b : Nat} {w w' : World} {l : List UInt8} (h : Bw b w l) (hb : Below w.heap.size w w') : Bw b w' l := by
  have key : ∀ p, Lib.BuilderAt 44 5 b b p (Lib.byteCells l) w → Lib.BuilderAt 44 5 b b p (Lib.byteCells l) w' := by
    rintro p ⟨hB, v, hbk, hown, hne⟩
    refine ⟨hB, v, (hb.block b (blk_lt hbk)).trans hbk, ⟨hown.1, ?_⟩, hne⟩
    rcases hown.2 with hn | ⟨g, cap, cur, rfl, h1, hg, rest⟩
    · exact .inl hn
    · exact .inr ⟨g, cap, cur, rfl, h1, (hb.block g (blk_lt hg)).trans hg, rest⟩
  exact h.elim (fun x => .inl (key _ x)) (fun x => .inr (key _ x))
/-- What lies in rows of another kind than bytes, but for block b, is as it was. -/
def Ok5 (b : Nat) (w w' : World) : Prop := ∀ (j : Nat) (arr : Array Value) (t : TypeId) (fr : Nat × Nat), w.heap[j]? = some (.cells arr t fr) → t ≠ 5 → j ≠ b → w'.heap[j]? = some (.cells arr t fr)
theorem Ok5.refl (b : Nat) (w : World) : Ok5 b w w := fun _ _ _ _ h _ _ => h
theorem Ok5.set {b : Nat} {w w' : World} (h : Ok5 b w w') (k : Nat) (u : Value) : Ok5 b w (w'.setCell ⟨b, k, none⟩ u) := fun j arr t fr h1 h2 h3 => by
  rw [Below.heap_setCell _ _ _ _ (by exact h3)]
  exact h j arr t fr h1 h2 h3
theorem bwInfo : (Try.prog.info? 42).map (·.size) = some 2 := by kernel_rfl
theorem bwLies : liesAt Try.prog Try.prog.depth 44 (2 / Try.prog.cellsOf 44) 0 42 1 = true := by kernel_rfl

set_option maxHeartbeats 1000000 in
set_option maxRecDepth 100000 in
theorem bwCheck (b : Nat) (l : List UInt8) (w : World) (h : Bw b w l) :
    Calls Try.prog 57 #[.pointer (some ⟨b, 0, none⟩)] w fun e w' => e = .returned (.tuple #[]) ∧ Lib.BuilderAt 44 5 b b (.pointer (some ⟨b, 0, none⟩)) (Lib.byteCells l) w' ∧ Below b w w' ∧ Ok5 b w w' := by
  obtain ⟨j, hj, hjs⟩ := Option.map_eq_some_iff.1 bwInfo
  rcases h with h | h
  · have c0 := h.cell0
    have hf := h.frozen0
    have HU : Hid (Lib.BuilderAt 44 5 b b (.pointer (some ⟨b, 0, none⟩)) (Lib.byteCells l) (w.setCell ⟨b, 0, none⟩ (.pointer (some ⟨b, 0, none⟩)))) := h.used _
    have r1 := Lib.run_to_unsafe (P := Try.prog) (w := w) ⟨b, 0, none⟩ Try.underlying40 Try.underlying106 hj (by rw [hjs]; decide) h.shape (Nat.zero_lt_succ 1)
    have r2 := Lib.run_from_unsafe (P := Try.prog) (w := w) ⟨b, 0, none⟩ Try.underlying106 Try.underlying40 hj h.shape bwLies
    clear h
    go_enter Try.func57, Try.ntmps57
    go_wp2
    rw [run_callFunc_extern Try.func64 (by kernel_rfl) (by kernel_rfl) (by kernel_rfl) (e := Extern.AbiNoEscape.same) (by kernel_rfl), Lib.run_noEscape]
    simp only [Result.andThen]
    rw [Oper.upon_value]
    go_wp2
    go_end0
    exact ⟨rfl, HU.out, (Below.refl b w).setCell (p := ⟨b, 0, none⟩) (Nat.le_refl _) _, (Ok5.refl b w).set 0 _⟩
  · have c0 := h.cell0
    have HU : Hid _ := h
    have r3 := Lib.run_neq_ptr_same (P := Try.prog) w ⟨b, 0, none⟩ Try.underlying40 hj
    clear h
    go_enter Try.func57, Try.ntmps57
    go_wp2
    go_end0
    exact ⟨rfl, HU.out, Below.refl _ _, Ok5.refl _ _⟩

theorem bwByteInfo : (Try.prog.info? 5).map (fun i => (i.zero, i.size, i.bytes)) = some (some (.int .u8 0), 1, 1) := by kernel_rfl
theorem bwNe : (44 : TypeId) ≠ 5 := by decide

set_option maxHeartbeats 2000000 in
set_option maxRecDepth 100000 in
theorem bwString5 (b : Nat) (l s : List UInt8) (w : World) (h : Bw b w l) (hl : l.length ≤ 1000000) (hs : s.length ≤ 1000000) :
    Calls Try.prog 38 #[.pointer (some ⟨b, 0, none⟩), .string ⟨s.toArray⟩] w fun e w' => e = .returned (.tuple #[.int .i64 (s.length : Int), .nilIface]) ∧ Bw b w' (l ++ s) ∧ Below b w w' ∧ Ok5 b w w' := by
  have hbw : b < w.heap.size := by
    rcases h with h | h
    · exact h.lt
    · exact h.lt
  have C : Hid (Calls Try.prog 57 #[.pointer (some ⟨b, 0, none⟩)] w fun e w' => e = .returned (.tuple #[]) ∧ Lib.BuilderAt 44 5 b b (.pointer (some ⟨b, 0, none⟩)) (Lib.byteCells l) w' ∧ Below b w w' ∧ Ok5 b w w') := bwCheck b l w h
  obtain ⟨i0, hi, hz0, hz1, hz2⟩ := info_parts bwByteInfo
  have hss : (⟨s.toArray⟩ : ByteArray).size = s.length := by simp [ByteArray.size]
  clear h
  go_enter Try.func38, Try.ntmps38
  go_wp2_with fail
  refine C.out.mono ?_
  rintro e w1 ⟨rfl, ⟨hB, v, hbk, hown, hne⟩, hb1, hok1⟩
  have hs1 := hb1.size
  have c1 : w1.cell? ⟨b, 1, none⟩ = some v := by rw [Lib.cell_of_heap hbk]; rfl
  have hc : (Lib.byteCells l).length = l.length := Lib.byteCells_length l
  clear C
  go_wp2_with (at_builtin; refine Lib.wpList_append_own_string _ rfl _ _ 22 9 rfl b 5 i0 Try.underlying22 Try.underlying9 hi hz0 hz1 hz2 _ _ _ rfl hown ⟨s.toArray⟩ rfl ?c3 ?c4 ?c5 ?_)
  case c3 => unfold maxLen; omega
  case c4 => omega
  case c5 => omega
  intro v2 w2 hown2 hgrow _
  have hb2 : w2.heap[b]? = some (.cells #[.pointer (some ⟨b, 0, none⟩), v] 44 (0, 0)) := by
    rw [hgrow.block b (by omega) (fun e => hne e.symm)]
    exact hbk
  have d1 : w2.cell? ⟨b, 1, none⟩ = some v := by rw [Lib.cell_of_heap hb2]; rfl
  have f1 : w2.frozen? ⟨b, 1, none⟩ = false := Lib.frozen_of_heap hb2 1
  have HX : Hid (Bw b (w2.setCell ⟨b, 1, none⟩ v2) (l ++ s)) := Or.inr (by
    refine Lib.BuilderAt.put (T := 44) (e := 5) hB hb2 (bs' := Lib.byteCells (l ++ s)) ?_ bwNe
    rw [Lib.strCells_toArray] at hown2
    simpa [Lib.byteCells] using hown2)
  have HY : Hid (Below b w (w2.setCell ⟨b, 1, none⟩ v2)) := (hb1.grown hgrow (by omega) (fun k hk => (hown.lt k hk).1)).setCell (p := ⟨b, 1, none⟩) hB _
  have HO : Hid (Ok5 b w (w2.setCell ⟨b, 1, none⟩ v2)) := Ok5.set (fun j arr t fr h1 h2 h3 => by
    have e1 := hok1 j arr t fr h1 h2 h3
    have hlt := blk_lt e1
    rw [hgrow.block j (by omega) (fun e => by
      rcases hown.2 with ⟨hv, _⟩ | ⟨g, cap, cur, hv, _, hg, _⟩
      · rw [hv] at e; simp [Value.ownBlock] at e
      · rw [hv] at e
        simp [Value.ownBlock] at e
        subst e
        rw [e1] at hg
        simp at hg
        exact h2 hg.2.1)]
    exact e1) 1 v2
  obtain ⟨ao, n2, cap, rfl⟩ : ∃ ao n2 cap, v2 = .slice ao n2 cap := by
    rcases hown2.2 with ⟨hv, _⟩ | ⟨g, cap, cur, hv, _⟩
    · exact ⟨_, _, _, hv⟩
    · exact ⟨_, _, _, hv⟩
  clear hown hown2 hgrow hb1 hbk hb2 hne c1 hok1
  go_wp2
  go_ret2
  exact ⟨rfl, HX.out, HY.out, HO.out⟩

theorem Ok5.trans {b : Nat} {w w1 w2 : World} (h : Ok5 b w w1) (h' : Ok5 b w1 w2) : Ok5 b w w2 := fun j arr t fr h1 h2 h3 => h' j arr t fr (h j arr t fr h1 h2 h3) h2 h3
theorem Ok5.below {b : Nat} {w w1 : World} (h : Below w.heap.size w w1) : Ok5 b w w1 := fun j _ _ _ h1 _ _ => (h.block j (blk_lt h1)).trans h1

theorem cat_list (a : List UInt8) (s : ByteArray) : (⟨a.toArray⟩ ++ s : ByteArray) = ⟨(a ++ s.data.toList).toArray⟩ := by
  apply ByteArray.ext
  simp
theorem l01_bytes (n : Nat) : (Pl.vb 8 n).length ≤ 9 := by
  suffices h : ∀ f n, (Pl.vb f n).length ≤ f + 1 from h 8 n
  intro f
  induction f with
  | zero => intro n; simp [Pl.vb]
  | succ f ih =>
    intro n
    by_cases h : 127 < n
    · rw [Pl.vb_more f n h]
      have := ih (n / 128)
      simp
      omega
    · rw [Pl.vb_last (f + 1) n h]
      simp

set_option maxHeartbeats 1000000 in
set_option maxRecDepth 100000 in
theorem bwNumber5 (b : Nat) (l : List UInt8) (n : Nat) (w : World) (h : Bw b w l) (hl : l.length ≤ 900000) (hn : n ≤ 1000000000) :
    Calls Try.prog 15 #[.pointer (some ⟨b, 0, none⟩), .int .i64 (n : Int)] w fun e w' => e = .returned (.tuple #[]) ∧ Bw b w' (l ++ Pl.vb 8 n) ∧ Below b w w' ∧ Ok5 b w w' := by
  have hbw : b < w.heap.size := by
    rcases h with h | h
    · exact h.lt
    · exact h.lt
  have C1 : Hid (Calls Try.prog 37 #[.int .i64 (n : Int)] w fun e w' => e = .returned (.tuple #[.string ⟨(Pl.vb 8 n).toArray⟩, .bool true]) ∧ Below w.heap.size w w') := implVar_nat n w hn
  have C2 : Hid (∀ W, Below w.heap.size w W → Calls Try.prog 38 #[.pointer (some ⟨b, 0, none⟩), .string ⟨(Pl.vb 8 n).toArray⟩] W fun e w' => e = .returned (.tuple #[.int .i64 ((Pl.vb 8 n).length : Int), .nilIface]) ∧ Bw b w' (l ++ Pl.vb 8 n) ∧ Below b W w' ∧ Ok5 b W w') := fun W hb => bwString5 b l _ W (Bw.keep h hb) (by omega) (by have := l01_bytes n; omega)
  clear h
  generalize Pl.vb 8 n = V at *
  go_enter Try.func15, Try.ntmps15
  go_wp2_with fail
  refine C1.out.mono ?_
  rintro e w1 ⟨rfl, hb1⟩
  have H1 : Hid (Below w.heap.size w w1) := hb1
  clear hb1 C1
  go_wp2_with fail
  refine (C2.out _ H1.out).mono ?_
  rintro e w2 ⟨rfl, h2, hb2, ho2⟩
  have H4 : Hid (Ok5 b w w2) := (Ok5.below H1.out).trans ho2
  have H2 : Hid (Bw b w2 (l ++ V)) := h2
  have H3 : Hid (Below b w w2) := (H1.out.mono (by omega)).trans hb2
  clear h2 hb2 ho2 C2
  go_wp2
  go_end0
  exact ⟨rfl, H2.out, H3.out, H4.out⟩

theorem bwNumber (b : Nat) (l : List UInt8) (n : Nat) (w : World) (h : Bw b w l) (hl : l.length ≤ 900000) (hn : n ≤ 1000000000) :
    Calls Try.prog 15 #[.pointer (some ⟨b, 0, none⟩), .int .i64 (n : Int)] w fun e w' => e = .returned (.tuple #[]) ∧ Bw b w' (l ++ Pl.vb 8 n) ∧ Below b w w' := by
  refine (bwNumber5 b l n w h hl hn).mono ?_
  rintro e w' ⟨h1, h2, h3, -⟩
  exact ⟨h1, h2, h3⟩

set_option maxHeartbeats 1000000 in
set_option maxRecDepth 100000 in
theorem bwShort5 (b : Nat) (l : List UInt8) (s : ByteArray) (w : World) (h : Bw b w l) (hl : l.length ≤ 900000) (hn : s.size ≤ 20000) :
    Calls Try.prog 17 #[.pointer (some ⟨b, 0, none⟩), .string s] w fun e w' => e = .returned (.tuple #[]) ∧ Bw b w' (l ++ (Pl.vb 8 s.size ++ s.data.toList)) ∧ Below b w w' ∧ Ok5 b w w' := by
  have hbw : b < w.heap.size := by
    rcases h with h | h
    · exact h.lt
    · exact h.lt
  obtain ⟨V, hV⟩ : ∃ V, V = Pl.vb 8 s.size ++ s.data.toList := ⟨_, rfl⟩
  have hVl : V.length ≤ 1000000 := by
    rw [hV]
    have := l01_bytes s.size
    have : s.data.toList.length = s.size := by simp
    simp only [List.length_append]
    omega
  have C1 : Hid (Calls Try.prog 39 #[.string s] w fun e w' => e = .returned (.tuple #[.string ⟨V.toArray⟩, .bool true]) ∧ Below w.heap.size w w') := by
    have := implShort_any s w (by omega)
    unfold shortRes at this
    rw [if_pos hn, cat_list] at this
    rw [hV]
    exact this
  rw [← hV]
  have C2 : Hid (∀ W, Below w.heap.size w W → Calls Try.prog 38 #[.pointer (some ⟨b, 0, none⟩), .string ⟨V.toArray⟩] W fun e w' => e = .returned (.tuple #[.int .i64 (V.length : Int), .nilIface]) ∧ Bw b w' (l ++ V) ∧ Below b W w' ∧ Ok5 b W w') := fun W hb => bwString5 b l _ W (Bw.keep h hb) (by omega) (by omega)
  clear h hV
  go_enter Try.func17, Try.ntmps17
  go_wp2_with fail
  refine C1.out.mono ?_
  rintro e w1 ⟨rfl, hb1⟩
  have H1 : Hid (Below w.heap.size w w1) := hb1
  clear hb1 C1
  go_wp2_with fail
  refine (C2.out _ H1.out).mono ?_
  rintro e w2 ⟨rfl, h2, hb2, ho2⟩
  have H4 : Hid (Ok5 b w w2) := (Ok5.below H1.out).trans ho2
  have H2 : Hid (Bw b w2 (l ++ V)) := h2
  have H3 : Hid (Below b w w2) := (H1.out.mono (by omega)).trans hb2
  clear h2 hb2 ho2 C2
  go_wp2
  go_end0
  exact ⟨rfl, H2.out, H3.out, H4.out⟩

theorem bwShort (b : Nat) (l : List UInt8) (s : ByteArray) (w : World) (h : Bw b w l) (hl : l.length ≤ 900000) (hn : s.size ≤ 20000) :
    Calls Try.prog 17 #[.pointer (some ⟨b, 0, none⟩), .string s] w fun e w' => e = .returned (.tuple #[]) ∧ Bw b w' (l ++ (Pl.vb 8 s.size ++ s.data.toList)) ∧ Below b w w' := by
  refine (bwShort5 b l s w h hl hn).mono ?_
  rintro e w' ⟨h1, h2, h3, -⟩
  exact ⟨h1, h2, h3⟩

end PartBwA
section PartCtA
open Go.RowKit

namespace Cd
def short (t : ByteArray) : List UInt8 := Pl.vb 8 t.size ++ t.data.toList
def two (x : Ins) : List UInt8 := [UInt8.ofNat x.op.toNat, UInt8.ofNat x.arg.toNat]
/-- The bytes of right code. -/
def bytes (ts : List ByteArray) (xs : List Ins) (ln en : Int) : List UInt8 :=
  Pl.vb 8 ts.length ++ ts.flatMap short ++ Pl.vb 8 xs.length ++ xs.flatMap two ++ Pl.vb 8 ln.toNat ++ Pl.vb 8 en.toNat
/-- What CodeText answers. -/
def text? (ts : List ByteArray) (xs : List Ins) (bg ln en : Int) : Value :=
  if ok ts xs bg ln en = true then .tuple #[.string ⟨(bytes ts xs ln en).toArray⟩, .bool true] else .tuple #[.string ⟨#[]⟩, .bool false]
theorem take_flat {α : Type} (f : α → List UInt8) (l : List α) (d : α) (k : Nat) (h : k < l.length) : (l.take (k + 1)).flatMap f = (l.take k).flatMap f ++ f (l.getD k d) := by
  rw [List.take_add_one, List.getElem?_eq_getElem h, List.flatMap_append]
  congr 1
  simp [h]
theorem flat_le {α : Type} (f : α → List UInt8) (m : Nat) : ∀ (l : List α), (∀ x ∈ l, (f x).length ≤ m) → (l.flatMap f).length ≤ m * l.length
  | [], _ => by simp
  | x :: l, h => by
    have h1 := h x (by simp)
    have h2 := flat_le f m l (fun y hy => h y (by simp [hy]))
    simp only [List.flatMap_cons, List.length_append, List.length_cons]
    rw [Nat.mul_add]
    omega
end Cd

set_option maxHeartbeats 1000000 in
set_option maxRecDepth 100000 in
theorem spShort7 (s : ByteArray) (w : World) (hs : s.size ≤ 20000) :
    Calls Try.prog 43 #[.string s] w fun e w' => e = .returned (.string ⟨(Cd.short s).toArray⟩) ∧ Below w.heap.size w w' := by
  have C : Hid (∀ W, Calls Try.prog 42 #[.int .i64 (s.size : Int)] W fun e w' => e = .returned (.string ⟨(Pl.vb 8 s.size).toArray⟩) ∧ Below W.heap.size W w') := fun W => l01Var_any s.size W (by omega)
  have hv := l01_bytes s.size
  have HS : Hid ((⟨(Pl.vb 8 s.size).toArray⟩ ++ s : ByteArray) = ⟨(Cd.short s).toArray⟩) := cat_list _ _
  generalize Pl.vb 8 s.size = V at *
  go_enter Try.func43, Try.ntmps43
  go_wp2_with (go_at_call 42; refine (C.out _).mono ?_; rintro e w2 ⟨rfl, hb2⟩)
  go_ret
  exact ⟨by rw [← HS.out]; rfl, hb2⟩
end PartCtA
end Go.Proofs.Ytmofljfffcnlbaa
