/- What the program's Cut answers, at every text: its first forty bytes, in memory of its own. -/
import Derived.Test.YtjbodcakhnkggarProg
import Derived.Test.YtjbodcakhnkggarPV
import Derived.WalkKit
import Derived.WalkSpells
import Derived.WalkLawsBesides
import Derived.Handy
import Derived.Lib.Strings
import Derived.Test.YtjbodcakhnkggarShelfC
namespace Go.Proofs.Ytjbodcakhnkggar
open Go.RowKit

theorem take_str (s : ByteArray) (n : Nat) (_h : n ≤ s.size) : s.extract 0 n = ⟨(s.data.toList.take n).toArray⟩ := by
  rw [Lib.extract_eq s 0 n]
  simp
theorem mk_str (s : ByteArray) : (⟨s.data.toList.toArray⟩ : ByteArray) = s := by
  apply ByteArray.ext; simp

set_option maxHeartbeats 400000 in
theorem implCut_any (s : ByteArray) (w : World) (hs : s.size ≤ 2097152) :
    Calls Try.prog 27 #[.string s] w fun e w' => e = .returned (.string ⟨(Pv.cut s.data.toList).toArray⟩) ∧ Below w.heap.size w w' := by
  have el : s.data.toList.length = s.size := by simp
  have C : Hid (∀ w, Calls Try.prog 25 #[.string ⟨(Pv.cut s.data.toList).toArray⟩] w fun e w' => e = .returned (.string ⟨(Pv.cut s.data.toList).toArray⟩) ∧ Below w.heap.size w w') :=
    fun w => clone_any _ w (by have := Pv.cut_len s.data.toList; show (Pv.cut s.data.toList).toArray.size ≤ _; rw [List.size_toArray]; omega)
  by_cases h : 40 < s.size
  · have HE : s.extract 0 40 = ⟨(Pv.cut s.data.toList).toArray⟩ := take_str s 40 (by omega)
    have hmin : min (s.size : Int) 40 = 40 := by omega
    clear el
    go_enter Try.func27, Try.ntmps27
    go_wp2_with (go_at_call 25; refine (C.out _).mono ?_; rintro e w' ⟨rfl, hb⟩)
    go_ret
    exact ⟨rfl, hb⟩
  · have HE : s.extract 0 s.size = ⟨(Pv.cut s.data.toList).toArray⟩ := by
      rw [take_str s s.size (Nat.le_refl _), Pv.cut_short _ (by omega), List.take_of_length_le (by omega)]
    have hmin : min (s.size : Int) 40 = (s.size : Int) := by omega
    clear el
    go_enter Try.func27, Try.ntmps27
    go_wp2_with (go_at_call 25; refine (C.out _).mono ?_; rintro e w' ⟨rfl, hb⟩)
    go_ret
    exact ⟨rfl, hb⟩
#print axioms implCut_any
end Go.Proofs.Ytjbodcakhnkggar
