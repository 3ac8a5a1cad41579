/- The contract of the library's IndexByte, laid at this program; Index and Cut at one byte. The search of a byte, by the library. -/
import Derived.Shelf.Strings.Search1
import Derived.Test.YtlnmbahakdmkgaaProg
import Derived.WalkKit
import Derived.WalkSpells
import Derived.WalkLawsBesides
import Derived.Handy
import Derived.Lib.Strings
import Derived.Lib.IndexLaws
import Derived.BigQuiet
import Derived.Deep.QuietTactic
import Derived.OwnWalk
namespace Go.Proofs.Ytlnmbahakdmkgaa
section PartShelfP
open Go.Shelf
def Try.lays217_ren : Go.Shelf.Ren := ⟨fun | 217 => 80 | 266 => 87 | n => n, fun | 9 => 9 | 5 => 5 | 3 => 3 | n => n, fun | n => n⟩
set_option maxRecDepth 100000 in
theorem Try.lays217 : Go.Proofs.Lays.n217 Try.prog Try.lays217_ren := {
  mixed := by kernel_rfl
  f217 := Try.func80.trans (congrArg some (by kernel_rfl))
  f266 := Try.func87.trans (congrArg some (by kernel_rfl))
  t3 := Try.underlying3
  a3 := Try.isAgg3
  z3 := Try.sizeOf3
  v3 := Try.zeroValue3
  t5 := Try.underlying5
  a5 := Try.isAgg5
  z5 := Try.sizeOf5
  v5 := Try.zeroValue5
  t9 := Try.underlying9
  a9 := Try.isAgg9
  z9 := Try.sizeOf9
  v9 := Try.zeroValue9 }
set_option maxRecDepth 100000 in
open Go.RowKit Go.Lib in
theorem Try.stringslite_IndexByte (s : ByteArray) (c : Int) (w : World) :
    Calls Try.prog 80 #[.string s, .int .u8 c] w fun e w' => e = .returned (.int .i64 (Lib.indexByte s.data.toList c.toNat.toUInt8)) ∧ w' = w := Any.stringslite_IndexByte Try.lays217 s c w
open Go.RowKit

theorem toU8 (c : UInt8) : ((c.toNat : Int)).toNat.toUInt8 = c := by simp

set_option maxRecDepth 100000 in
set_option maxHeartbeats 400000 in
theorem indexByte_any (s : ByteArray) (c : UInt8) (w : World) :
    Calls Try.prog 72 #[.string s, .int .u8 (c.toNat : Int)] w fun e w' => e = .returned (.int .i64 (Lib.indexByte s.data.toList c)) ∧ w' = w := by
  have C : Hid (∀ w, Calls Try.prog 80 #[.string s, .int .u8 (c.toNat : Int)] w fun e w' => e = .returned (.int .i64 (Lib.indexByte s.data.toList c)) ∧ w' = w) := by
    intro w
    have := Try.stringslite_IndexByte s (c.toNat : Int) w
    rwa [toU8] at this
  go_enter Try.func72, Try.ntmps72
  go_wp2_with (go_at_call 80; refine (C.out _).mono ?_; rintro e w' ⟨rfl, rfl⟩)
  go_ret
  exact ⟨rfl, rfl⟩

set_option maxRecDepth 100000 in
set_option maxHeartbeats 400000 in
theorem index93_any (s : ByteArray) (w : World) :
    Calls Try.prog 111 #[.string s, .string ⟨#[93]⟩] w fun e w' => e = .returned (.int .i64 (Lib.indexByte s.data.toList 93)) ∧ w' = w := by
  have C : Hid (∀ w, Calls Try.prog 80 #[.string s, .int .u8 93] w fun e w' => e = .returned (.int .i64 (Lib.indexByte s.data.toList 93)) ∧ w' = w) := fun w => Try.stringslite_IndexByte s 93 w
  go_enter Try.func111, Try.ntmps111
  go_wp2_with (go_at_call 80; refine (C.out _).mono ?_; rintro e w' ⟨rfl, rfl⟩)
  · have h : ([93] == s.toList) = true := by assumption
    go_ret
    refine ⟨?_, rfl⟩
    have e : s.data.toList = [93] := by rw [← Lib.toList_data]; exact (beq_iff_eq.1 h).symm
    rw [e]
    simp [Lib.indexByte]
  · go_ret
    exact ⟨rfl, rfl⟩

set_option maxRecDepth 100000 in
set_option maxHeartbeats 400000 in
/-- Cut at the sign that closes a set. -/
theorem cut93_any (s : ByteArray) (w : World) (hs : s.size ≤ 1000000) :
    Calls Try.prog 100 #[.string s, .string ⟨#[93]⟩] w fun e w' => (∃ k, w' = w.drewN k) ∧
      ((Lib.indexByte s.data.toList 93 = -1 ∧ e = .returned (.tuple #[.string s, .string ⟨#[]⟩, .bool false])) ∨
       ∃ i : Nat, Lib.indexByte s.data.toList 93 = (i : Int) ∧ i < s.size ∧ e = .returned (.tuple #[.string (s.extract 0 i), .string (s.extract (i + 1) s.size), .bool true])) := by
  obtain ⟨z, hz⟩ : ∃ z, z = Lib.indexByte s.data.toList 93 := ⟨_, rfl⟩
  have C : Hid (∀ w, Calls Try.prog 111 #[.string s, .string ⟨#[93]⟩] w fun e w' => e = .returned (.int .i64 z) ∧ w' = w) := fun w => by rw [hz]; exact index93_any s w
  have HZ : Hid (z = Lib.indexByte s.data.toList 93) := hz
  have hge := Lib.indexByte_ge s.data.toList 93
  rw [← hz] at hge
  by_cases hm : z = -1
  · have HM : Hid (Lib.indexByte s.data.toList 93 = -1) := by show _ = _; rw [← hz]; exact hm
    clear hz
    subst hm
    have D : Hid (∀ w, Calls Try.prog 109 #[.string s, .string ⟨#[93]⟩] w fun e w' => e = .returned (.tuple #[.string s, .string ⟨#[]⟩, .bool false]) ∧ ∃ k, w' = w.drewN k) := by
      intro w
      go_enter Try.func109, Try.ntmps109
      go_wp2_with fail
      refine (C.out _).mono ?_
      rintro e w1 ⟨rfl, rfl⟩
      go_wp2
      (try simp only [Exit.inBlock, Exit.then])
      refine bodyPost_ret (results_tmp3 rfl _ _ _) rfl ?_
      exact ⟨rfl, 0, rfl⟩
    go_enter Try.func100, Try.ntmps100
    go_wp2_with fail
    refine (D.out _).mono ?_
    rintro e w1 ⟨rfl, k, rfl⟩
    go_wp2
    (try simp only [Exit.inBlock, Exit.then])
    refine bodyPost_ret (results_tmp3 rfl _ _ _) rfl ?_
    exact ⟨⟨k, rfl⟩, .inl ⟨HM.out, rfl⟩⟩
  · obtain ⟨i, hi⟩ : ∃ i : Nat, z = (i : Int) := ⟨z.toNat, by omega⟩
    have hlt : i < s.size := by
      have := (Lib.indexByte_some (hz.symm.trans hi)).1
      have := (List.getElem?_eq_some_iff.1 this).1
      simpa using this
    have HI : Hid (Lib.indexByte s.data.toList 93 = (i : Int)) := hz.symm.trans hi
    clear hz hm HZ hge
    subst hi
    have i1 : (i : Int) ≤ (s.size : Int) := by omega
    have i2 : (i : Int) + 1 ≤ (s.size : Int) := by omega
    have D : Hid (∀ w, Calls Try.prog 109 #[.string s, .string ⟨#[93]⟩] w fun e w' => e = .returned (.tuple #[.string (s.extract 0 i), .string (s.extract (i + 1) s.size), .bool true]) ∧ ∃ k, w' = w.drewN k) := by
      intro w
      go_enter Try.func109, Try.ntmps109
      go_wp2_with fail
      refine (C.out _).mono ?_
      rintro e w1 ⟨rfl, rfl⟩
      go_wp2_with fail
      go_quiet (fail)
      go_wp2
      (try simp only [Exit.inBlock, Exit.then])
      refine bodyPost_ret (results_tmp3 rfl _ _ _) rfl ?_
      exact ⟨rfl, _, rfl⟩
    go_enter Try.func100, Try.ntmps100
    go_wp2_with fail
    refine (D.out _).mono ?_
    rintro e w1 ⟨rfl, k, rfl⟩
    go_wp2
    (try simp only [Exit.inBlock, Exit.then])
    refine bodyPost_ret (results_tmp3 rfl _ _ _) rfl ?_
    exact ⟨⟨k, rfl⟩, .inr ⟨i, HI.out, hlt, rfl⟩⟩
end PartShelfP
section PartShelfX
end PartShelfX
end Go.Proofs.Ytlnmbahakdmkgaa
