/- The contract of the library's trimLeftByte, laid at this program, and what TrimLeft answers where one blank is to go: the same bytes without the blanks ahead. -/
import Derived.Shelf.Lays
import Derived.Shelf.Strings.Trim
import Derived.Test.YtchieahfellcbaaDoorVNum
namespace Go.Proofs.YtchieahfellcbaaDoor
open Go.Shelf
def Tryd.lays231_ren : Go.Shelf.Ren := ⟨fun | 231 => 71 | n => n, fun | n => n, fun | n => n⟩
theorem Tryd.lays231 : Go.Proofs.Lays.n231 Tryd.prog Tryd.lays231_ren := {
  mixed := by kernel_rfl
  f231 := Tryd.func71.trans (congrArg some (by kernel_rfl))
  t3 := Tryd.underlying3
  a3 := Tryd.isAgg3
  z3 := Tryd.sizeOf3
  v3 := Tryd.zeroValue3
  t4 := Tryd.underlying4
  a4 := Tryd.isAgg4
  z4 := Tryd.sizeOf4
  v4 := Tryd.zeroValue4
  t5 := Tryd.underlying5
  a5 := Tryd.isAgg5
  z5 := Tryd.sizeOf5
  v5 := Tryd.zeroValue5
  t9 := Tryd.underlying9
  a9 := Tryd.isAgg9
  z9 := Tryd.sizeOf9
  v9 := Tryd.zeroValue9 }
open Go.RowKit in
theorem trimByte_any (s : ByteArray) (w : World) :
    Calls Tryd.prog 71 #[.string s, .int .u8 32] w fun e w' => e = .returned (.string ⟨(Pv.skip s.data.toList).toArray⟩) ∧ w' = w := Any.strings_trimLeftByte Tryd.lays231 s 32 w
open Go.RowKit in
set_option maxHeartbeats 400000 in
set_option maxRecDepth 100000 in
theorem trimLeft_any (s : ByteArray) (w : World) :
    Calls Tryd.prog 67 #[.string s, .string ⟨#[32]⟩] w fun e w' => e = .returned (.string ⟨(Pv.skip s.data.toList).toArray⟩) ∧ w' = w := by
  by_cases h0 : 0 < s.size
  · have e0 := str_ne s h0
    have C : Hid (∀ w, Calls Tryd.prog 71 #[.string s, .int .u8 32] w fun e w' => e = .returned (.string ⟨(Pv.skip s.data.toList).toArray⟩) ∧ w' = w) := trimByte_any s
    generalize (⟨(Pv.skip s.data.toList).toArray⟩ : ByteArray) = t at *
    go_enter Tryd.func67, Tryd.ntmps67
    go_wp2_with (go_at_call 71; refine (C.out _).mono ?_; rintro e w' ⟨rfl, rfl⟩)
    go_ret
    exact ⟨rfl, rfl⟩
  · obtain rfl := str_nil s h0
    go_enter Tryd.func67, Tryd.ntmps67
    go_wp2
    go_ret
    exact ⟨rfl, rfl⟩
#print axioms trimLeft_any
end Go.Proofs.YtchieahfellcbaaDoor
