/- What is said behind what was said: the program's outWith. -/
import Derived.Test.YtnlbbomejpopnaaRwD
namespace Go.Proofs.Ytnlbbomejpopnaa
open Go.RowKit

/-- What stands behind: nothing changes where nothing is said. -/
def St.outW (o p : ByteArray) : ByteArray := if p.size = 0 then o else St.cut3 (o ++ p)
theorem St.outW_no (o p : ByteArray) (h : p.size = 0) : St.outW o p = o := by unfold St.outW; rw [if_pos h]
theorem St.outW_yes (o p : ByteArray) (h : p.size ≠ 0) : St.outW o p = St.cut3 (o ++ p) := by unfold St.outW; rw [if_neg h]
theorem ba_nil_of {p : ByteArray} (h : p.size = 0) : p = ByteArray.empty := by
  apply ByteArray.ext
  have h1 : p.data.size = 0 := h
  have : p.data = #[] := Array.eq_empty_of_size_eq_zero h1
  rw [this]; rfl
theorem ba_list_ne {p : ByteArray} (h : p.size ≠ 0) : (p.toList == []) = false := by
  have h1 : p.toList = p.data.toList := by simp only [Lib.toList_data]
  cases hh : p.toList with
  | nil =>
    exfalso
    apply h
    rw [h1] at hh
    have : p.data.size = 0 := by rw [← Array.length_toList, hh]; rfl
    exact this
  | cons a l => rfl

set_option maxRecDepth 100000 in
set_option maxHeartbeats 1000000 in
theorem outWith_any (o p : ByteArray) (w : World) (ho : o.size ≤ 1000000000000000) (hp : p.size ≤ 1000000000000000) :
    Calls Try.prog 55 #[.string o, .string p] w fun e w' => e = .returned (.string (St.outW o p)) ∧ Below w.heap.size w w' := by
  by_cases h0 : p.size = 0
  · rw [St.outW_no o p h0]
    obtain rfl := ba_nil_of h0
    clear h0 hp
    go_enter Try.func55, Try.ntmps55
    go_wp2
    go_ret
    exact ⟨rfl, Below.refl _ _⟩
  · rw [St.outW_yes o p h0]
    have hne := ba_list_ne h0
    have hsz : (o ++ p).size = o.size + p.size := ByteArray.size_append
    have hno : ¬ 9223372036854775807 < o.size + p.size := by omega
    have hno2 : ¬ ((9223372036854775807 : Int) < (o.size : Int) + (p.size : Int)) := by omega
    by_cases hb : 3000 < (o ++ p).size
    · have hmin2 : min ((o.size : Int) + (p.size : Int)) 3000 = 3000 := by omega
      have hle : (3000 : Int) ≤ (o.size : Int) + (p.size : Int) := by omega
      have hle2 : 3000 ≤ o.size + p.size := by omega
      have HC : St.cut3 (o ++ p) = (o ++ p).extract 0 3000 := by unfold St.cut3; rw [if_pos hb]
      rw [HC]
      clear HC hb h0
      go_enter Try.func55, Try.ntmps55
      go_wp2
      go_ret
      exact ⟨rfl, Below.refl _ _⟩
    · have hmin2 : min ((o.size : Int) + (p.size : Int)) 3000 = (o.size : Int) + (p.size : Int) := by omega
      have hp0 : (0 : Int) ≤ (o.size : Int) + (p.size : Int) := by omega
      have hpt : ((o.size : Int) + (p.size : Int)).toNat = o.size + p.size := by omega
      have HC : St.cut3 (o ++ p) = (o ++ p).extract 0 (o.size + p.size) := by unfold St.cut3; rw [if_neg hb, ← hsz, ext_whole]
      rw [HC]
      clear HC hb h0
      go_enter Try.func55, Try.ntmps55
      go_wp2
      go_ret
      exact ⟨rfl, Below.refl _ _⟩
#print axioms outWith_any
end Go.Proofs.Ytnlbbomejpopnaa
