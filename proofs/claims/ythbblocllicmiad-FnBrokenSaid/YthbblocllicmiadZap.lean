/- The specification of CodeOk: names; what an instruction takes and puts; its arg. The contract of the library's IndexByte, laid at this program; Index and Cut at one byte. -/
import Derived.Test.YthbblocllicmiadZad
import Derived.Test.YthbblocllicmiadZag
import Derived.Test.YthbblocllicmiadZao
import Derived.Shelf.Strings.Search1
import Derived.Test.YthbblocllicmiadProg
import Derived.WalkKit
import Derived.WalkSpells
import Derived.WalkLawsBesides
import Derived.Handy
import Derived.Lib.Strings
import Derived.Lib.IndexLaws
import Derived.BigQuiet
import Derived.Deep.QuietTactic
import Derived.OwnWalk
namespace Go.Proofs.Ythbblocllicmiad
section PartCdA
open Go.RowKit

namespace Cd
theorem nm_no {s : ByteArray} {j : Nat} (h : j < s.size) (hl : Tk.letter s[j] = false) : nm s.data.toList = false := by
  unfold nm
  have : s.data.toList.all Tk.letter = false := by
    rw [List.all_eq_false]
    refine ⟨s[j], ?_, by rw [hl]; simp⟩
    have := lst_at s j h
    rw [← this]
    exact List.getElem_mem _
  rw [this]
  rfl
theorem nm_yes {s : ByteArray} (h : ∀ j, ∀ h : j < s.size, Tk.letter s[j] = true) : nm s.data.toList = decide ((1 : Int) ≤ (s.size : Int) ∧ (s.size : Int) ≤ 8) := by
  unfold nm
  have h2 : s.data.toList.all Tk.letter = true := by
    rw [List.all_eq_true]
    intro b hb
    obtain ⟨i, hi, e⟩ := List.mem_iff_getElem.1 hb
    have hi2 : i < s.size := by simpa using hi
    have := lst_at s i hi2
    rw [← e, this]
    exact h i hi2
  have hsl : s.data.toList.length = s.size := by simp
  rw [h2, hsl, Bool.true_and, decide_eq_decide]
  omega
end Cd

theorem InsAt.cell {w : World} {ad : Option Addr} {n cap : Nat} {xs : List Ins} (h : InsAt w (.slice ad n cap) xs) (hn : n = xs.length) {j : Nat} (hj : j < n) : ∃ b o, ad = some ⟨b, o, none⟩ ∧ b < w.heap.size ∧ w.cell? ⟨b, o + j * 2, none⟩ = some (.int .i64 (xs.getD j Ins.no).op) ∧ w.cell? ⟨b, o + j * 2 + 1, none⟩ = some (.int .i64 (xs.getD j Ins.no).arg) := by
  subst hn
  obtain ⟨a, c, e, f⟩ := h
  simp only [Value.slice.injEq] at e
  obtain ⟨rfl, -, -⟩ := e
  obtain ⟨b, o, rfl, hb, hc⟩ := f (by omega)
  exact ⟨b, o, rfl, hb, hc j hj⟩

theorem TsAt.cell {w : World} {ad : Option Addr} {n cap : Nat} {ts : List ByteArray} (h : TsAt w (.slice ad n cap) ts) (hn : n = ts.length) {j : Nat} (hj : j < n) : ∃ b o, ad = some ⟨b, o, none⟩ ∧ w.cell? ⟨b, o + j, none⟩ = some (.string (ts.getD j ByteArray.empty)) := by
  subst hn
  obtain ⟨a, c, e, f⟩ := h
  simp only [Value.slice.injEq] at e
  obtain ⟨rfl, -, -⟩ := e
  obtain ⟨b, o, rfl, _, hc⟩ := f (by omega)
  exact ⟨b, o, rfl, hc j hj⟩

end PartCdA
section PartShelfP
open Go.Shelf
def Try.lays217_ren : Go.Shelf.Ren := ⟨fun | 217 => 41 | 266 => 48 | n => n, fun | 9 => 9 | 5 => 5 | 3 => 3 | n => n, fun | n => n⟩
set_option maxRecDepth 100000 in
theorem Try.lays217 : Go.Proofs.Lays.n217 Try.prog Try.lays217_ren := {
  mixed := by kernel_rfl
  f217 := Try.func41.trans (congrArg some (by kernel_rfl))
  f266 := Try.func48.trans (congrArg some (by kernel_rfl))
  t3 := Try.underlying3
  a3 := Try.isAgg3
  z3 := Try.sizeOf3
  v3 := Try.zeroValue3
  t5 := Try.underlying5
  a5 := Try.isAgg5
  z5 := Try.sizeOf5
  v5 := Try.zeroValue5
  t9 := Try.underlying9
  a9 := Try.isAgg9
  z9 := Try.sizeOf9
  v9 := Try.zeroValue9 }
set_option maxRecDepth 100000 in
open Go.RowKit Go.Lib in
theorem Try.stringslite_IndexByte (s : ByteArray) (c : Int) (w : World) :
    Calls Try.prog 41 #[.string s, .int .u8 c] w fun e w' => e = .returned (.int .i64 (Lib.indexByte s.data.toList c.toNat.toUInt8)) ∧ w' = w := Any.stringslite_IndexByte Try.lays217 s c w
open Go.RowKit

theorem toU8 (c : UInt8) : ((c.toNat : Int)).toNat.toUInt8 = c := by simp

set_option maxRecDepth 100000 in
set_option maxHeartbeats 400000 in
theorem indexByte_any (s : ByteArray) (c : UInt8) (w : World) :
    Calls Try.prog 36 #[.string s, .int .u8 (c.toNat : Int)] w fun e w' => e = .returned (.int .i64 (Lib.indexByte s.data.toList c)) ∧ w' = w := by
  have C : Hid (∀ w, Calls Try.prog 41 #[.string s, .int .u8 (c.toNat : Int)] w fun e w' => e = .returned (.int .i64 (Lib.indexByte s.data.toList c)) ∧ w' = w) := by
    intro w
    have := Try.stringslite_IndexByte s (c.toNat : Int) w
    rwa [toU8] at this
  go_enter Try.func36, Try.ntmps36
  go_wp2_with (go_at_call 41; refine (C.out _).mono ?_; rintro e w' ⟨rfl, rfl⟩)
  go_ret
  exact ⟨rfl, rfl⟩

set_option maxRecDepth 100000 in
set_option maxHeartbeats 400000 in
theorem index93_any (s : ByteArray) (w : World) :
    Calls Try.prog 51 #[.string s, .string ⟨#[93]⟩] w fun e w' => e = .returned (.int .i64 (Lib.indexByte s.data.toList 93)) ∧ w' = w := by
  have C : Hid (∀ w, Calls Try.prog 41 #[.string s, .int .u8 93] w fun e w' => e = .returned (.int .i64 (Lib.indexByte s.data.toList 93)) ∧ w' = w) := fun w => Try.stringslite_IndexByte s 93 w
  go_enter Try.func51, Try.ntmps51
  go_wp2_with (go_at_call 41; refine (C.out _).mono ?_; rintro e w' ⟨rfl, rfl⟩)
  · have h : ([93] == s.toList) = true := by assumption
    go_ret
    refine ⟨?_, rfl⟩
    have e : s.data.toList = [93] := by rw [← Lib.toList_data]; exact (beq_iff_eq.1 h).symm
    rw [e]
    simp [Lib.indexByte]
  · go_ret
    exact ⟨rfl, rfl⟩

set_option maxRecDepth 100000 in
set_option maxHeartbeats 400000 in
/-- Cut at the sign that closes a set. -/
theorem cut93_any (s : ByteArray) (w : World) (hs : s.size ≤ 1000000) :
    Calls Try.prog 49 #[.string s, .string ⟨#[93]⟩] w fun e w' => (∃ k, w' = w.drewN k) ∧
      ((Lib.indexByte s.data.toList 93 = -1 ∧ e = .returned (.tuple #[.string s, .string ⟨#[]⟩, .bool false])) ∨
       ∃ i : Nat, Lib.indexByte s.data.toList 93 = (i : Int) ∧ i < s.size ∧ e = .returned (.tuple #[.string (s.extract 0 i), .string (s.extract (i + 1) s.size), .bool true])) := by
  obtain ⟨z, hz⟩ : ∃ z, z = Lib.indexByte s.data.toList 93 := ⟨_, rfl⟩
  have C : Hid (∀ w, Calls Try.prog 51 #[.string s, .string ⟨#[93]⟩] w fun e w' => e = .returned (.int .i64 z) ∧ w' = w) := fun w => by rw [hz]; exact index93_any s w
  have HZ : Hid (z = Lib.indexByte s.data.toList 93) := hz
  have hge := Lib.indexByte_ge s.data.toList 93
  rw [← hz] at hge
  by_cases hm : z = -1
  · have HM : Hid (Lib.indexByte s.data.toList 93 = -1) := by show _ = _; rw [← hz]; exact hm
    clear hz
    subst hm
    have D : Hid (∀ w, Calls Try.prog 50 #[.string s, .string ⟨#[93]⟩] w fun e w' => e = .returned (.tuple #[.string s, .string ⟨#[]⟩, .bool false]) ∧ ∃ k, w' = w.drewN k) := by
      intro w
      go_enter Try.func50, Try.ntmps50
      go_wp2_with fail
      refine (C.out _).mono ?_
      rintro e w1 ⟨rfl, rfl⟩
      go_wp2
      (try simp only [Exit.inBlock, Exit.then])
      refine bodyPost_ret (results_tmp3 rfl _ _ _) rfl ?_
      exact ⟨rfl, 0, rfl⟩
    go_enter Try.func49, Try.ntmps49
    go_wp2_with fail
    refine (D.out _).mono ?_
    rintro e w1 ⟨rfl, k, rfl⟩
    go_wp2
    (try simp only [Exit.inBlock, Exit.then])
    refine bodyPost_ret (results_tmp3 rfl _ _ _) rfl ?_
    exact ⟨⟨k, rfl⟩, .inl ⟨HM.out, rfl⟩⟩
  · obtain ⟨i, hi⟩ : ∃ i : Nat, z = (i : Int) := ⟨z.toNat, by omega⟩
    have hlt : i < s.size := by
      have := (Lib.indexByte_some (hz.symm.trans hi)).1
      have := (List.getElem?_eq_some_iff.1 this).1
      simpa using this
    have HI : Hid (Lib.indexByte s.data.toList 93 = (i : Int)) := hz.symm.trans hi
    clear hz hm HZ hge
    subst hi
    have i1 : (i : Int) ≤ (s.size : Int) := by omega
    have i2 : (i : Int) + 1 ≤ (s.size : Int) := by omega
    have D : Hid (∀ w, Calls Try.prog 50 #[.string s, .string ⟨#[93]⟩] w fun e w' => e = .returned (.tuple #[.string (s.extract 0 i), .string (s.extract (i + 1) s.size), .bool true]) ∧ ∃ k, w' = w.drewN k) := by
      intro w
      go_enter Try.func50, Try.ntmps50
      go_wp2_with fail
      refine (C.out _).mono ?_
      rintro e w1 ⟨rfl, rfl⟩
      go_wp2_with fail
      go_quiet (fail)
      go_wp2
      (try simp only [Exit.inBlock, Exit.then])
      refine bodyPost_ret (results_tmp3 rfl _ _ _) rfl ?_
      exact ⟨rfl, _, rfl⟩
    go_enter Try.func49, Try.ntmps49
    go_wp2_with fail
    refine (D.out _).mono ?_
    rintro e w1 ⟨rfl, k, rfl⟩
    go_wp2
    (try simp only [Exit.inBlock, Exit.then])
    refine bodyPost_ret (results_tmp3 rfl _ _ _) rfl ?_
    exact ⟨⟨k, rfl⟩, .inr ⟨i, HI.out, hlt, rfl⟩⟩
end PartShelfP
end Go.Proofs.Ythbblocllicmiad
