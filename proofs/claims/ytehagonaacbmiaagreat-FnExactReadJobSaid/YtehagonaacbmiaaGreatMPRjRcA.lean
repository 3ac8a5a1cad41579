/- What is read of the bytes of code: the specification's reader of numbers and short texts. -/
import Derived.Test.YtehagonaacbmiaaGreatMPRjZap
import Derived.Test.YtehagonaacbmiaaGreatMPRjZak
import Derived.Test.YtehagonaacbmiaaGreatMPRjZaa
import Derived.Test.YtehagonaacbmiaaGreatMPRjZae
import Derived.Deep.RegionWith
namespace Go.Proofs.YtehagonaacbmiaaGreat
open Go.RowKit

theorem gr_trans {w w1 w2 : World} {r : Option Nat} (h1 : w.grownBy w1 r) (h2 : w1.grownBy w2 r) : w.grownBy w2 r :=
  ⟨h2.os.trans h1.os, h2.tape.trans h1.tape, h2.output.trans h1.output, Nat.le_trans h1.size h2.size, fun k hk hr => (h2.block k (Nat.lt_of_lt_of_le hk h1.size) hr).trans (h1.block k hk hr)⟩
theorem gr_below {w w1 : World} {r : Option Nat} (h : Below w.heap.size w w1) : w.grownBy w1 r := ⟨h.os, h.tape, h.output, h.size, fun k hk _ => h.block k hk⟩
theorem gr_set (w : World) (g o : Nat) (u : Value) : w.grownBy (w.setCell ⟨g, o, none⟩ u) (some g) :=
  ⟨rfl, rfl, rfl, by simp [World.setCell], fun k _ hr => Below.heap_setCell _ _ _ _ (by show k ≠ g; intro e; exact hr (by rw [e]))⟩

theorem rvRes_is (s : ByteArray) (a : Nat) (ha : a ≤ s.size) : rvRes s (a : Int) = match Rc.rv s.data.toList a with
    | none => .tuple #[.int .i64 0, .int .i64 0, .bool false]
    | some (n, k) => .tuple #[.int .i64 (n : Int), .int .i64 (k : Int), .bool true] := by
  unfold rvRes Rc.rv
  rw [if_pos ⟨by omega, by omega⟩, Int.toNat_natCast]
  cases Pl.rvF 5 [] (s.data.toList.drop a) with
  | none => rfl
  | some r => rfl

/-- The number that is told. -/
def Rc.num : Bool → Option (Nat × Nat) → Nat
  | false, some (n, _) => n
  | _, _ => 0
/-- The reader's block. -/
def Cu7 (w : World) (g : Nat) (s : ByteArray) (a : Nat) (bad : Bool) : Prop := w.heap[g]? = some (.cells #[.string s, .int .i64 (a : Int), .bool bad] 63 (0, 0))
/-- What it is behind a number or a text. -/
def Cu7.aft (w : World) (g : Nat) (s : ByteArray) (a : Nat) (bad : Bool) (k : Option Nat) : Prop :=
  match bad, k with
  | false, some k => Cu7 w g s k false
  | _, _ => Cu7 w g s a true

set_option maxHeartbeats 2000000 in
set_option maxRecDepth 100000 in
theorem spVar7 (g : Nat) (s : ByteArray) (a : Nat) (bad : Bool) (w : World) (h : Cu7 w g s a bad) (ha : a ≤ s.size) (hs : s.size ≤ 1048576) :
    Calls Tryz.prog 32 #[.pointer (some ⟨g, 0, none⟩)] w fun e w' => e = .returned (.int .i64 (Rc.num bad (Rc.rv s.data.toList a) : Int)) ∧ Cu7.aft w' g s a bad ((Rc.rv s.data.toList a).map (·.2)) ∧ w.grownBy w' (some g) := by
  have C := fun W => specRv_any s (a : Int) W hs
  rw [rvRes_is s a ha] at C
  have HH : Hid (Cu7 w g s a bad) := h
  have hgl := blk_lt h
  have c0 := blk_cell h 0
  have c1 := blk_cell h 1
  have c2 := blk_cell h 2
  simp only [List.getElem?_toArray, List.getElem?_cons_zero, List.getElem?_cons_succ] at c0 c1 c2
  clear h
  cases hr : Rc.rv s.data.toList a with
  | none =>
    rw [hr] at C
    have CC : Hid (∀ W, Calls Tryz.prog 67 #[.string s, .int .i64 (a : Int)] W fun e w' => e = .returned (.tuple #[.int .i64 0, .int .i64 0, .bool false]) ∧ Below W.heap.size W w') := C
    clear C hr
    go_enter Tryz.func32, Tryz.ntmps32
    go_wp2_with fail
    go_region_with ((go_at_call 67; refine (CC.out _).mono ?_; rintro e w1 ⟨rfl, hb1⟩))
    all_goals
      have R := (hb1.block g hgl).trans HH.out
      have HB : Hid (Below w.heap.size w w1) := (Below.refl _ _).drew.trans hb1
      have HR : Hid (w1.heap[g]? = some (.cells #[.string s, .int .i64 (a : Int), .bool bad] 63 (0, 0))) := R
      have d2 := blk_cell R 2
      have f2 := blk_free R 2
      simp only [List.getElem?_toArray, List.getElem?_cons_zero, List.getElem?_cons_succ] at d2
      clear R hb1 CC
      cases bad
      all_goals
        go_wp2
        go_ret
        exact ⟨rfl, blk_set HR.out 2 (.bool true), gr_trans (gr_below HB.out) (gr_set _ _ _ _)⟩
  | some r =>
    obtain ⟨n, k⟩ := r
    rw [hr] at C
    have CC : Hid (∀ W, Calls Tryz.prog 67 #[.string s, .int .i64 (a : Int)] W fun e w' => e = .returned (.tuple #[.int .i64 (n : Int), .int .i64 (k : Int), .bool true]) ∧ Below W.heap.size W w') := C
    clear C hr
    go_enter Tryz.func32, Tryz.ntmps32
    go_wp2_with fail
    go_region_with ((go_at_call 67; refine (CC.out _).mono ?_; rintro e w1 ⟨rfl, hb1⟩))
    all_goals
      have R := (hb1.block g hgl).trans HH.out
      have HB : Hid (Below w.heap.size w w1) := (Below.refl _ _).drew.trans hb1
      have HR : Hid (w1.heap[g]? = some (.cells #[.string s, .int .i64 (a : Int), .bool bad] 63 (0, 0))) := R
      have d1 := blk_cell R 1
      have d2 := blk_cell R 2
      have f1 := blk_free R 1
      have f2 := blk_free R 2
      simp only [List.getElem?_toArray, List.getElem?_cons_zero, List.getElem?_cons_succ] at d1 d2
      clear R hb1 CC
      cases bad
      · go_wp2
        go_ret
        exact ⟨rfl, blk_set HR.out 1 (.int .i64 (k : Int)), gr_trans (gr_below HB.out) (gr_set _ _ _ _)⟩
      · go_wp2
        go_ret
        exact ⟨rfl, blk_set HR.out 2 (.bool true), gr_trans (gr_below HB.out) (gr_set _ _ _ _)⟩
end Go.Proofs.YtehagonaacbmiaaGreat
