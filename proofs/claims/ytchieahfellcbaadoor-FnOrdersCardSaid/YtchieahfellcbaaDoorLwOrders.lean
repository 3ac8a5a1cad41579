/- At every draw: of two texts one is less, or they are the same, not both; what is less of two numbers is the less number. -/
import Derived.Test.YtchieahfellcbaaDoorVLs
import Derived.Test.YtchieahfellcbaaDoorVSm
import Derived.Test.YtchieahfellcbaaDoorPW
import Derived.Test.YtchieahfellcbaaDoorWDec3
import Derived.Test.YtchieahfellcbaaDoorDP
import Derived.Test.YtchieahfellcbaaDoorDLess
import Derived.Test.YtchieahfellcbaaDoorBig
import Derived.BigQuiet
import Derived.Deep.RegionHeld3
namespace Go.Proofs.YtchieahfellcbaaDoor
open Go.RowKit

/-- Of two texts one is less, or they are the same: never two of these three. -/
theorem three (a b : ByteArray) : (lsB a b = true ∧ lsB b a = false ∧ smB a b = false) ∨ (lsB a b = false ∧ lsB b a = true ∧ smB a b = false) ∨ (lsB a b = false ∧ lsB b a = false ∧ smB a b = true) := by
  unfold lsB smB
  by_cases h : (Pv.isn a.data.toList && Pv.isn b.data.toList) = true
  · have h2 : (Pv.isn b.data.toList && Pv.isn a.data.toList) = true := by rw [Bool.and_comm]; exact h
    rw [if_pos h, if_pos h, if_pos h2]
    rcases Nat.lt_trichotomy (Pv.nof a.data.toList) (Pv.nof b.data.toList) with e | e | e
    · left; refine ⟨by simpa using e, by simp; omega, by simp; omega⟩
    · right; right; refine ⟨by simp; omega, by simp; omega, by simpa using e⟩
    · right; left; refine ⟨by simp; omega, by simpa using e, by simp; omega⟩
  · have h2 : ¬ (Pv.isn b.data.toList && Pv.isn a.data.toList) = true := by rw [Bool.and_comm]; exact h
    rw [if_neg h, if_neg h, if_neg h2]
    exact Pv.less_three a.toList b.toList
theorem smB_self (a : ByteArray) : smB a a = true := by
  unfold smB
  split <;> simp
/-- Of two numerals the less number is less. -/
theorem lsB_dec (x y : ByteArray) (p q : Nat) (hp : p < 1000000) (hq : q < 1000000) (hx : x.data.toList = Pl.decL (p : Int)) (hy : y.data.toList = Pl.decL (q : Int)) : lsB x y = decide (p < q) := by
  unfold lsB
  rw [hx, hy, Pv.isn_decL p hp, Pv.isn_decL q hq, Pv.nof_dec p hp, Pv.nof_dec q hq]
  rfl

/-- What is held of the world while the last sentence is reckoned. -/
theorem keepS {w0 w w' : World} {gp : Nat} {x y : Value} (hb : Below w.heap.size w w') (h : w.cell? ⟨gp, 0, none⟩ = some x ∧ w.cell? ⟨gp, 1, none⟩ = some y ∧ Hid (Below w0.heap.size w0 w)) :
    w'.cell? ⟨gp, 0, none⟩ = some x ∧ w'.cell? ⟨gp, 1, none⟩ = some y ∧ Hid (Below w0.heap.size w0 w') :=
  ⟨(hb.cell (World.block_lt_of_cell? w _ h.1)).trans h.1, (hb.cell (World.block_lt_of_cell? w _ h.2.1)).trans h.2.1, h.2.2.out.trans (hb.mono h.2.2.out.size)⟩

theorem less_at (a b : ByteArray) (r : Bool) (w : World) (h : lsB a b = r) (ha : a.size ≤ 2097152) (hb : b.size ≤ 2097152) :
    Calls Tryd.prog 37 #[.string a, .string b] w fun e w' => e = .returned (.bool r) ∧ Below w.heap.size w w' := by
  subst h
  exact implLess_any a b w ha hb
theorem same_at (a b : ByteArray) (r : Bool) (w : World) (h : smB a b = r) (ha : a.size ≤ 2097152) (hb : b.size ≤ 2097152) :
    Calls Tryd.prog 38 #[.string a, .string b] w fun e w' => e = .returned (.bool r) ∧ Below w.heap.size w w' := by
  subst h
  exact implSame_any a b w ha hb
theorem sless_at (a b : ByteArray) (r : Bool) (w : World) (h : lsB a b = r) (ha : a.size ≤ 2097152) (hb : b.size ≤ 2097152) :
    Calls Tryd.prog 39 #[.string a, .string b] w fun e w' => e = .returned (.bool r) ∧ w' = w := by
  subst h
  exact specLess_any a b w ha hb
theorem ssame_at (a b : ByteArray) (r : Bool) (w : World) (h : smB a b = r) (ha : a.size ≤ 2097152) (hb : b.size ≤ 2097152) :
    Calls Tryd.prog 40 #[.string a, .string b] w fun e w' => e = .returned (.bool r) ∧ w' = w := by
  subst h
  exact specSame_any a b w ha hb

set_option maxHeartbeats 20000000 in
set_option maxRecDepth 100000 in
theorem lawOrders (ad : Option Addr) (n cap : Nat) (w : World) (hc : n ≤ 1048576 → Code w ad n) :
    Calls Tryd.prog 7 #[.slice ad n cap] w fun e w' => e = .returned (.bool true) ∧ Below w.heap.size w w' := by
  by_cases hbig : 1048576 < n
  · have CB : Hid _ := big_yes ad n cap hbig
    clear hc
    go_enter Tryd.func7, Tryd.ntmps7
    go_wp2_with fail
    refine Calls.mono (CB.out _) ?_
    rintro e w' ⟨rfl, rfl⟩
    go_wp2
    go_ret
    exact ⟨rfl, Below.refl _ _⟩
  have CB : Hid (∀ w, Calls Tryd.prog 8 #[.slice ad n cap] w fun e w' => e = .returned (.bool false) ∧ w' = w) := big_no ad n cap hbig
  have HC : Hid (Code w ad n) := hc (by omega)
  have hn : n ≤ 1048576 := by omega
  clear hc hbig
  go_enter Tryd.func7, Tryd.ntmps7
  go_wp2_with fail
  refine (CB.out _).mono ?_
  rintro e w0 ⟨rfl, rfl⟩
  go_wp2_with fail
  refine (dLess_any ad n cap w0 hn HC.out).mono ?_
  rintro e w1 ⟨l1, l2, hl1, hl2, rfl, b1⟩
  have B1 : Hid (Below w0.heap.size w0 w1) := b1
  clear b1
  obtain ⟨a, hea⟩ : ∃ s : ByteArray, s = ⟨l1.toArray⟩ := ⟨_, rfl⟩
  have ha : a.size ≤ 2097152 := by rw [hea]; show l1.toArray.size ≤ _; simp; omega
  obtain ⟨b, heb⟩ : ∃ s : ByteArray, s = ⟨l2.toArray⟩ := ⟨_, rfl⟩
  have hb : b.size ≤ 2097152 := by rw [heb]; show l2.toArray.size ≤ _; simp; omega
  rw [← hea, ← heb]
  clear hea heb hl1 hl2
  go_wp2_with fail
  refine (drawPlaces_any ad n cap w1 hn (HC.out.keep B1.out)).mono ?_
  rintro e w2 ⟨gp, cp, zs, hzl, hz, rfl, hgp, hgp2, hzc, b2⟩
  have B2 : Hid (Below w0.heap.size w0 w2) := B1.out.trans (b2.mono B1.out.size)
  have z0 := hzc 0 (by decide)
  have z1 := hzc 1 (by decide)
  have hz0 := hz 0
  have hz1 := hz 1
  generalize zs.getD 0 0 = p0 at z0 hz0
  generalize zs.getD 1 0 = p1 at z1 hz1
  have HZ : Hid (w2.cell? ⟨gp, 0, none⟩ = some (.int .i64 (p0 : Int)) ∧ w2.cell? ⟨gp, 1, none⟩ = some (.int .i64 (p1 : Int))) := ⟨z0, z1⟩
  clear b2 hzc hz hzl B1 z0 z1
  have haa := smB_self a
  have h7 : smB ⟨#[48, 48, 55]⟩ ⟨#[55]⟩ = true := by decide
  have hab : smB ⟨#[97]⟩ ⟨#[98]⟩ = false := by
    unfold smB
    rw [if_neg (by decide), Lib.toList_data, Lib.toList_data]
    decide
  rcases three a b with ⟨h1, h2, h3⟩ | ⟨h1, h2, h3⟩ | ⟨h1, h2, h3⟩
  all_goals
    go_wp2_with fail
    refine (less_at a b _ w2 h1 ha hb).mono ?_
    rintro e w3 ⟨rfl, b3⟩
    have B3 : Hid (Below w0.heap.size w0 w3) := B2.out.trans (b3.mono B2.out.size)
    have HZ3 : Hid (w3.cell? ⟨gp, 0, none⟩ = some (.int .i64 (p0 : Int)) ∧ w3.cell? ⟨gp, 1, none⟩ = some (.int .i64 (p1 : Int))) := keep2 b3 hgp2 HZ.out
    have g3 : gp < w3.heap.size := by have := b3.size; omega
    clear b3 HZ
    go_wp2_with fail
    refine (less_at b a _ w3 h2 hb ha).mono ?_
    rintro e w4 ⟨rfl, b4⟩
    have B4 : Hid (Below w0.heap.size w0 w4) := B3.out.trans (b4.mono B3.out.size)
    have HZ4 : Hid (w4.cell? ⟨gp, 0, none⟩ = some (.int .i64 (p0 : Int)) ∧ w4.cell? ⟨gp, 1, none⟩ = some (.int .i64 (p1 : Int))) := keep2 b4 g3 HZ3.out
    have g4 : gp < w4.heap.size := by have := b4.size; omega
    clear b4 HZ3 B3
    go_wp2_with fail
    refine (same_at a b _ w4 h3 ha hb).mono ?_
    rintro e w5 ⟨rfl, b5⟩
    have B5 : Hid (Below w0.heap.size w0 w5) := B4.out.trans (b5.mono B4.out.size)
    have HZ5 : Hid (w5.cell? ⟨gp, 0, none⟩ = some (.int .i64 (p0 : Int)) ∧ w5.cell? ⟨gp, 1, none⟩ = some (.int .i64 (p1 : Int))) := keep2 b5 g4 HZ4.out
    have g5 : gp < w5.heap.size := by have := b5.size; omega
    have z0 := HZ5.out.1
    clear b5 HZ4 B4
    go_wp2_with fail
    refine (specDecimal_any (p0 : Int) w5 (by omega) (by omega)).mono ?_
    rintro e w6 ⟨rfl, b6⟩
    have B6 : Hid (Below w0.heap.size w0 w6) := B5.out.trans (b6.mono B5.out.size)
    have HZ6 : Hid (w6.cell? ⟨gp, 0, none⟩ = some (.int .i64 (p0 : Int)) ∧ w6.cell? ⟨gp, 1, none⟩ = some (.int .i64 (p1 : Int))) := keep2 b6 g5 HZ5.out
    have g6 : gp < w6.heap.size := by have := b6.size; omega
    have z1 := HZ6.out.2
    clear b6 HZ5 B5 z0
    go_wp2_with fail
    refine (specDecimal_any (p1 : Int) w6 (by omega) (by omega)).mono ?_
    rintro e w7 ⟨rfl, b7⟩
    have B7 : Hid (Below w0.heap.size w0 w7) := B6.out.trans (b7.mono B6.out.size)
    have HZ7 : w7.cell? ⟨gp, 0, none⟩ = some (.int .i64 (p0 : Int)) ∧ w7.cell? ⟨gp, 1, none⟩ = some (.int .i64 (p1 : Int)) := keep2 b7 g6 HZ6.out
    have g7 : gp < w7.heap.size := by have := b7.size; omega
    obtain ⟨z0, z1'⟩ := HZ7
    clear b7 HZ6 B6 z1
    obtain ⟨x, hex⟩ : ∃ s : ByteArray, s = ⟨(Pl.decL (p0 : Int)).toArray⟩ := ⟨_, rfl⟩
    obtain ⟨y, hey⟩ : ∃ s : ByteArray, s = ⟨(Pl.decL (p1 : Int)).toArray⟩ := ⟨_, rfl⟩
    have hxl : x.data.toList = Pl.decL (p0 : Int) := by rw [hex]
    have hyl : y.data.toList = Pl.decL (p1 : Int) := by rw [hey]
    have hx : x.size ≤ 2097152 := by have := Pv.decL_len p0 6 (by omega) (by omega); rw [← hxl, len_size] at this; omega
    have hy : y.size ≤ 2097152 := by have := Pv.decL_len p1 6 (by omega) (by omega); rw [← hyl, len_size] at this; omega
    have hxy := lsB_dec x y p0 p1 (by omega) (by omega) hxl hyl
    rw [← hex, ← hey]
    clear hex hey hxl hyl
    go_wp2_with fail
  all_goals
    by_cases hlt : p0 < p1
    · have dlt : decide ((p0 : Int) < (p1 : Int)) = true := by simp; omega
      rw [decide_eq_true hlt] at hxy
      go_region_held3 (fun w' => w'.cell? ⟨gp, 0, none⟩ = some (.int .i64 (p0 : Int)) ∧ w'.cell? ⟨gp, 1, none⟩ = some (.int .i64 (p1 : Int)) ∧ Hid (Below w0.heap.size w0 w')) (first | exact keepS hb1 (by assumption) | exact ⟨z0, z1', B7.out.drew⟩ | assumption) (first | (go_at_call 37; refine (less_at _ _ _ _ (by assumption) (by first | assumption | decide) (by first | assumption | decide)).mono ?_; rintro e w1 ⟨rfl, hb1⟩) | (go_at_call 38; refine (same_at _ _ _ _ (by assumption) (by first | assumption | decide) (by first | assumption | decide)).mono ?_; rintro e w1 ⟨rfl, hb1⟩) | (go_at_call 39; refine (sless_at _ _ _ _ (by assumption) (by first | assumption | decide) (by first | assumption | decide)).mono ?_; rintro e w1 ⟨rfl, rfl⟩) | (go_at_call 40; refine (ssame_at _ _ _ _ (by assumption) (by first | assumption | decide) (by first | assumption | decide)).mono ?_; rintro e w1 ⟨rfl, rfl⟩))
      go_wp2
      go_ret
      rename_i hS
      exact ⟨rfl, hS.2.2.out⟩
    · have dlt : decide ((p0 : Int) < (p1 : Int)) = false := by simp; omega
      rw [decide_eq_false hlt] at hxy
      go_region_held3 (fun w' => w'.cell? ⟨gp, 0, none⟩ = some (.int .i64 (p0 : Int)) ∧ w'.cell? ⟨gp, 1, none⟩ = some (.int .i64 (p1 : Int)) ∧ Hid (Below w0.heap.size w0 w')) (first | exact keepS hb1 (by assumption) | exact ⟨z0, z1', B7.out.drew⟩ | assumption) (first | (go_at_call 37; refine (less_at _ _ _ _ (by assumption) (by first | assumption | decide) (by first | assumption | decide)).mono ?_; rintro e w1 ⟨rfl, hb1⟩) | (go_at_call 38; refine (same_at _ _ _ _ (by assumption) (by first | assumption | decide) (by first | assumption | decide)).mono ?_; rintro e w1 ⟨rfl, hb1⟩) | (go_at_call 39; refine (sless_at _ _ _ _ (by assumption) (by first | assumption | decide) (by first | assumption | decide)).mono ?_; rintro e w1 ⟨rfl, rfl⟩) | (go_at_call 40; refine (ssame_at _ _ _ _ (by assumption) (by first | assumption | decide) (by first | assumption | decide)).mono ?_; rintro e w1 ⟨rfl, rfl⟩))
      go_wp2
      go_ret
      rename_i hS
      exact ⟨rfl, hS.2.2.out⟩
#print axioms lawOrders
end Go.Proofs.YtchieahfellcbaaDoor
