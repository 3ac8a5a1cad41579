/- The specification of CodeOk. Code in bytes: the specification of CodeText. -/
import Derived.Test.YtdkenmpdgadcpaaDoorMPRmZao
import Derived.Test.YtdkenmpdgadcpaaDoorMPRmBwA
namespace Go.Proofs.YtdkenmpdgadcpaaDoor
section PartCdH
open Go.RowKit

namespace Cd
end Cd

end PartCdH
section PartCtA
open Go.RowKit

namespace Cd
def short (t : ByteArray) : List UInt8 := Pl.vb 8 t.size ++ t.data.toList
def two (x : Ins) : List UInt8 := [UInt8.ofNat x.op.toNat, UInt8.ofNat x.arg.toNat]
/-- The bytes of right code. -/
def bytes (ts : List ByteArray) (xs : List Ins) (ln en : Int) : List UInt8 :=
  Pl.vb 8 ts.length ++ ts.flatMap short ++ Pl.vb 8 xs.length ++ xs.flatMap two ++ Pl.vb 8 ln.toNat ++ Pl.vb 8 en.toNat
/-- What CodeText answers. -/
def text? (ts : List ByteArray) (xs : List Ins) (bg ln en : Int) : Value :=
  if ok ts xs bg ln en = true then .tuple #[.string ⟨(bytes ts xs ln en).toArray⟩, .bool true] else .tuple #[.string ⟨#[]⟩, .bool false]
theorem take_flat {α : Type} (f : α → List UInt8) (l : List α) (d : α) (k : Nat) (h : k < l.length) : (l.take (k + 1)).flatMap f = (l.take k).flatMap f ++ f (l.getD k d) := by
  rw [List.take_add_one, List.getElem?_eq_getElem h, List.flatMap_append]
  congr 1
  simp [h]
/-- What right code holds. -/
theorem ok_facts {ts : List ByteArray} {xs : List Ins} {bg ln en : Int} (h : ok ts xs bg ln en = true) :
    (∀ i, i < ts.length → (ts.getD i ByteArray.empty).size ≤ 30) ∧ ts.length ≤ 60 ∧ xs.length ≤ 250 ∧ bg = 0 ∧ (0 ≤ ln ∧ ln ≤ (xs.length : Int)) ∧ (ln ≤ en ∧ en ≤ (xs.length : Int)) ∧
    part ts xs 0 ln.toNat = true ∧ part ts xs ln.toNat en.toNat = true ∧ part ts xs en.toNat xs.length = true := by
  unfold ok at h
  simp only [Bool.and_eq_true, decide_eq_true_eq, List.all_eq_true] at h
  obtain ⟨h1, h2, h3, h4, h5, h6, h7, h8, h9⟩ := h
  refine ⟨fun i hi => ?_, h2, h3, h4, h5, h6, h7, h8, h9⟩
  rw [List.getD_eq_getElem?_getD, List.getElem?_eq_getElem hi]
  exact h1 _ (List.getElem_mem _)
end Cd

end PartCtA
end Go.Proofs.YtdkenmpdgadcpaaDoor
