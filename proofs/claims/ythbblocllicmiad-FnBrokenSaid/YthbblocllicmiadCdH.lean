/- The specification of CodeOk. -/
import Derived.Test.YthbblocllicmiadZau
namespace Go.Proofs.Ythbblocllicmiad
open Go.RowKit

namespace Cd
theorem ok_text {ts : List ByteArray} {xs : List Ins} {bg ln en : Int} {i : Nat} (hi : i < ts.length) (h : 30 < (ts.getD i ByteArray.empty).size) : ok ts xs bg ln en = false := by
  unfold ok
  have : ts.all (fun t => decide (t.size ≤ 30)) = false := by
    rw [List.all_eq_false]
    refine ⟨ts[i], List.getElem_mem _, ?_⟩
    rw [List.getD_eq_getElem?_getD, List.getElem?_eq_getElem hi] at h
    simpa using h
  rw [this, Bool.false_and]
theorem ok_rest {ts : List ByteArray} {xs : List Ins} {bg ln en : Int} (h : ∀ i, i < ts.length → (ts.getD i ByteArray.empty).size ≤ 30) : ok ts xs bg ln en =
    (decide (ts.length ≤ 60) && (decide (xs.length ≤ 250) && (decide (bg = 0) && (decide (0 ≤ ln ∧ ln ≤ (xs.length : Int)) && (decide (ln ≤ en ∧ en ≤ (xs.length : Int)) &&
  (part ts xs 0 ln.toNat && (part ts xs ln.toNat en.toNat && part ts xs en.toNat xs.length))))))) := by
  unfold ok
  have : ts.all (fun t => decide (t.size ≤ 30)) = true := by
    rw [List.all_eq_true]
    intro t ht
    obtain ⟨i, hi, e⟩ := List.mem_iff_getElem.1 ht
    have := h i hi
    rw [List.getD_eq_getElem?_getD, List.getElem?_eq_getElem hi] at this
    rw [← e]
    simpa using this
  rw [this, Bool.true_and]
end Cd

end Go.Proofs.Ythbblocllicmiad
