/- The contract of the library's IndexByte, laid at this program; Index and Cut at one byte. -/
import Derived.Shelf.Strings.Search1
import Derived.Test.YtknojhmnadmilaaGreatDoorProg
import Derived.WalkKit
import Derived.WalkSpells
import Derived.WalkLawsBesides
import Derived.Handy
import Derived.Lib.Strings
import Derived.Lib.IndexLaws
import Derived.BigQuiet
import Derived.Deep.QuietTactic
import Derived.OwnWalk
namespace Go.Proofs.YtknojhmnadmilaaGreatDoor
open Go.Shelf
def Tryz.lays217_ren : Go.Shelf.Ren := ⟨fun | 217 => 94 | 266 => 100 | n => n, fun | 9 => 9 | 5 => 5 | 3 => 3 | n => n, fun | n => n⟩
set_option maxRecDepth 100000 in
theorem Tryz.lays217 : Go.Proofs.Lays.n217 Tryz.prog Tryz.lays217_ren := {
  mixed := by kernel_rfl
  f217 := Tryz.func94.trans (congrArg some (by kernel_rfl))
  f266 := Tryz.func100.trans (congrArg some (by kernel_rfl))
  t3 := Tryz.underlying3
  a3 := Tryz.isAgg3
  z3 := Tryz.sizeOf3
  v3 := Tryz.zeroValue3
  t5 := Tryz.underlying5
  a5 := Tryz.isAgg5
  z5 := Tryz.sizeOf5
  v5 := Tryz.zeroValue5
  t9 := Tryz.underlying9
  a9 := Tryz.isAgg9
  z9 := Tryz.sizeOf9
  v9 := Tryz.zeroValue9 }
set_option maxRecDepth 100000 in
open Go.RowKit Go.Lib in
theorem Tryz.stringslite_IndexByte (s : ByteArray) (c : Int) (w : World) :
    Calls Tryz.prog 94 #[.string s, .int .u8 c] w fun e w' => e = .returned (.int .i64 (Lib.indexByte s.data.toList c.toNat.toUInt8)) ∧ w' = w := Any.stringslite_IndexByte Tryz.lays217 s c w
open Go.RowKit

theorem toU8 (c : UInt8) : ((c.toNat : Int)).toNat.toUInt8 = c := by simp

set_option maxRecDepth 100000 in
set_option maxHeartbeats 400000 in
theorem indexByte_any (s : ByteArray) (c : UInt8) (w : World) :
    Calls Tryz.prog 84 #[.string s, .int .u8 (c.toNat : Int)] w fun e w' => e = .returned (.int .i64 (Lib.indexByte s.data.toList c)) ∧ w' = w := by
  have C : Hid (∀ w, Calls Tryz.prog 94 #[.string s, .int .u8 (c.toNat : Int)] w fun e w' => e = .returned (.int .i64 (Lib.indexByte s.data.toList c)) ∧ w' = w) := by
    intro w
    have := Tryz.stringslite_IndexByte s (c.toNat : Int) w
    rwa [toU8] at this
  go_enter Tryz.func84, Tryz.ntmps84
  go_wp2_with (go_at_call 94; refine (C.out _).mono ?_; rintro e w' ⟨rfl, rfl⟩)
  go_ret
  exact ⟨rfl, rfl⟩

set_option maxRecDepth 100000 in
set_option maxHeartbeats 400000 in
theorem index93_any (s : ByteArray) (w : World) :
    Calls Tryz.prog 105 #[.string s, .string ⟨#[93]⟩] w fun e w' => e = .returned (.int .i64 (Lib.indexByte s.data.toList 93)) ∧ w' = w := by
  have C : Hid (∀ w, Calls Tryz.prog 94 #[.string s, .int .u8 93] w fun e w' => e = .returned (.int .i64 (Lib.indexByte s.data.toList 93)) ∧ w' = w) := fun w => Tryz.stringslite_IndexByte s 93 w
  go_enter Tryz.func105, Tryz.ntmps105
  go_wp2_with (go_at_call 94; refine (C.out _).mono ?_; rintro e w' ⟨rfl, rfl⟩)
  · have h : ([93] == s.toList) = true := by assumption
    go_ret
    refine ⟨?_, rfl⟩
    have e : s.data.toList = [93] := by rw [← Lib.toList_data]; exact (beq_iff_eq.1 h).symm
    rw [e]
    simp [Lib.indexByte]
  · go_ret
    exact ⟨rfl, rfl⟩

set_option maxRecDepth 100000 in
set_option maxHeartbeats 400000 in
/-- Cut at the sign that closes a set. -/
theorem cut93_any (s : ByteArray) (w : World) (hs : s.size ≤ 1000000) :
    Calls Tryz.prog 103 #[.string s, .string ⟨#[93]⟩] w fun e w' => (∃ k, w' = w.drewN k) ∧
      ((Lib.indexByte s.data.toList 93 = -1 ∧ e = .returned (.tuple #[.string s, .string ⟨#[]⟩, .bool false])) ∨
       ∃ i : Nat, Lib.indexByte s.data.toList 93 = (i : Int) ∧ i < s.size ∧ e = .returned (.tuple #[.string (s.extract 0 i), .string (s.extract (i + 1) s.size), .bool true])) := by
  obtain ⟨z, hz⟩ : ∃ z, z = Lib.indexByte s.data.toList 93 := ⟨_, rfl⟩
  have C : Hid (∀ w, Calls Tryz.prog 105 #[.string s, .string ⟨#[93]⟩] w fun e w' => e = .returned (.int .i64 z) ∧ w' = w) := fun w => by rw [hz]; exact index93_any s w
  have HZ : Hid (z = Lib.indexByte s.data.toList 93) := hz
  have hge := Lib.indexByte_ge s.data.toList 93
  rw [← hz] at hge
  by_cases hm : z = -1
  · have HM : Hid (Lib.indexByte s.data.toList 93 = -1) := by show _ = _; rw [← hz]; exact hm
    clear hz
    subst hm
    have D : Hid (∀ w, Calls Tryz.prog 104 #[.string s, .string ⟨#[93]⟩] w fun e w' => e = .returned (.tuple #[.string s, .string ⟨#[]⟩, .bool false]) ∧ ∃ k, w' = w.drewN k) := by
      intro w
      go_enter Tryz.func104, Tryz.ntmps104
      go_wp2_with fail
      refine (C.out _).mono ?_
      rintro e w1 ⟨rfl, rfl⟩
      go_wp2
      (try simp only [Exit.inBlock, Exit.then])
      refine bodyPost_ret (results_tmp3 rfl _ _ _) rfl ?_
      exact ⟨rfl, 0, rfl⟩
    go_enter Tryz.func103, Tryz.ntmps103
    go_wp2_with fail
    refine (D.out _).mono ?_
    rintro e w1 ⟨rfl, k, rfl⟩
    go_wp2
    (try simp only [Exit.inBlock, Exit.then])
    refine bodyPost_ret (results_tmp3 rfl _ _ _) rfl ?_
    exact ⟨⟨k, rfl⟩, .inl ⟨HM.out, rfl⟩⟩
  · obtain ⟨i, hi⟩ : ∃ i : Nat, z = (i : Int) := ⟨z.toNat, by omega⟩
    have hlt : i < s.size := by
      have := (Lib.indexByte_some (hz.symm.trans hi)).1
      have := (List.getElem?_eq_some_iff.1 this).1
      simpa using this
    have HI : Hid (Lib.indexByte s.data.toList 93 = (i : Int)) := hz.symm.trans hi
    clear hz hm HZ hge
    subst hi
    have i1 : (i : Int) ≤ (s.size : Int) := by omega
    have i2 : (i : Int) + 1 ≤ (s.size : Int) := by omega
    have D : Hid (∀ w, Calls Tryz.prog 104 #[.string s, .string ⟨#[93]⟩] w fun e w' => e = .returned (.tuple #[.string (s.extract 0 i), .string (s.extract (i + 1) s.size), .bool true]) ∧ ∃ k, w' = w.drewN k) := by
      intro w
      go_enter Tryz.func104, Tryz.ntmps104
      go_wp2_with fail
      refine (C.out _).mono ?_
      rintro e w1 ⟨rfl, rfl⟩
      go_wp2_with fail
      go_quiet (fail)
      go_wp2
      (try simp only [Exit.inBlock, Exit.then])
      refine bodyPost_ret (results_tmp3 rfl _ _ _) rfl ?_
      exact ⟨rfl, _, rfl⟩
    go_enter Tryz.func103, Tryz.ntmps103
    go_wp2_with fail
    refine (D.out _).mono ?_
    rintro e w1 ⟨rfl, k, rfl⟩
    go_wp2
    (try simp only [Exit.inBlock, Exit.then])
    refine bodyPost_ret (results_tmp3 rfl _ _ _) rfl ?_
    exact ⟨⟨k, rfl⟩, .inr ⟨i, HI.out, hlt, rfl⟩⟩
#print axioms cut93_any
end Go.Proofs.YtknojhmnadmilaaGreatDoor
