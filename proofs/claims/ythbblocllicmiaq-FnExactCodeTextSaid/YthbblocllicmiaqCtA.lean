/- Code in bytes: the specification of CodeText. -/
import Derived.Test.YthbblocllicmiaqZan
import Derived.Test.YthbblocllicmiaqBwA
namespace Go.Proofs.Ythbblocllicmiaq
open Go.RowKit

namespace Cd
def short (t : ByteArray) : List UInt8 := Pl.vb 8 t.size ++ t.data.toList
def two (x : Ins) : List UInt8 := [UInt8.ofNat x.op.toNat, UInt8.ofNat x.arg.toNat]
/-- The bytes of right code. -/
def bytes (ts : List ByteArray) (xs : List Ins) (ln en : Int) : List UInt8 :=
  Pl.vb 8 ts.length ++ ts.flatMap short ++ Pl.vb 8 xs.length ++ xs.flatMap two ++ Pl.vb 8 ln.toNat ++ Pl.vb 8 en.toNat
/-- What CodeText answers. -/
def text? (ts : List ByteArray) (xs : List Ins) (bg ln en : Int) : Value :=
  if ok ts xs bg ln en = true then .tuple #[.string ⟨(bytes ts xs ln en).toArray⟩, .bool true] else .tuple #[.string ⟨#[]⟩, .bool false]
theorem take_flat {α : Type} (f : α → List UInt8) (l : List α) (d : α) (k : Nat) (h : k < l.length) : (l.take (k + 1)).flatMap f = (l.take k).flatMap f ++ f (l.getD k d) := by
  rw [List.take_add_one, List.getElem?_eq_getElem h, List.flatMap_append]
  congr 1
  simp [h]
theorem flat_le {α : Type} (f : α → List UInt8) (m : Nat) : ∀ (l : List α), (∀ x ∈ l, (f x).length ≤ m) → (l.flatMap f).length ≤ m * l.length
  | [], _ => by simp
  | x :: l, h => by
    have h1 := h x (by simp)
    have h2 := flat_le f m l (fun y hy => h y (by simp [hy]))
    simp only [List.flatMap_cons, List.length_append, List.length_cons]
    rw [Nat.mul_add]
    omega
/-- What right code holds. -/
theorem ok_facts {ts : List ByteArray} {xs : List Ins} {bg ln en : Int} (h : ok ts xs bg ln en = true) :
    (∀ i, i < ts.length → (ts.getD i ByteArray.empty).size ≤ 30) ∧ ts.length ≤ 60 ∧ xs.length ≤ 250 ∧ bg = 0 ∧ (0 ≤ ln ∧ ln ≤ (xs.length : Int)) ∧ (ln ≤ en ∧ en ≤ (xs.length : Int)) ∧
    part ts xs 0 ln.toNat = true ∧ part ts xs ln.toNat en.toNat = true ∧ part ts xs en.toNat xs.length = true := by
  unfold ok at h
  simp only [Bool.and_eq_true, decide_eq_true_eq, List.all_eq_true] at h
  obtain ⟨h1, h2, h3, h4, h5, h6, h7, h8, h9⟩ := h
  refine ⟨fun i hi => ?_, h2, h3, h4, h5, h6, h7, h8, h9⟩
  rw [List.getD_eq_getElem?_getD, List.getElem?_eq_getElem hi]
  exact h1 _ (List.getElem_mem _)
theorem allI_at {ts : List ByteArray} {xs : List Ins} {to : Nat} : ∀ (f a : Nat), allI ts xs to f a = true → ∀ k, a ≤ k → k < a + f → ins ts (xs.getD k Ins.no) (k : Int) (to : Int) = true
  | 0, a, _, k, h1, h2 => by omega
  | f + 1, a, h, k, h1, h2 => by
    simp only [allI, Bool.and_eq_true] at h
    by_cases e : k = a
    · subst e; exact h.1
    · exact allI_at f (a + 1) h.2 k (by omega) (by omega)
theorem part_at {ts : List ByteArray} {xs : List Ins} {fr to : Nat} (hf : fr ≤ to) (h : part ts xs fr to = true) : ∀ k, fr ≤ k → k < to → ins ts (xs.getD k Ins.no) (k : Int) (to : Int) = true := by
  rw [part_same ts xs fr to hf] at h
  unfold partI at h
  simp only [Bool.and_eq_true] at h
  intro k h1 h2
  exact allI_at _ _ h.1 k h1 (by omega)
theorem ok_ins {ts : List ByteArray} {xs : List Ins} {bg ln en : Int} (h : ok ts xs bg ln en = true) (k : Nat) (hk : k < xs.length) : (0 ≤ (xs.getD k Ins.no).op ∧ (xs.getD k Ins.no).op ≤ 255) ∧ 0 ≤ (xs.getD k Ins.no).arg ∧ (xs.getD k Ins.no).arg ≤ 255 := by
  obtain ⟨_, _, _, _, h5, h6, h7, h8, h9⟩ := ok_facts h
  have key : ∃ to : Nat, ins ts (xs.getD k Ins.no) (k : Int) (to : Int) = true := by
    by_cases h1 : (k : Int) < ln
    · exact ⟨_, part_at (by omega) h7 k (by omega) (by omega)⟩
    · by_cases h2 : (k : Int) < en
      · exact ⟨_, part_at (by omega) h8 k (by omega) (by omega)⟩
      · exact ⟨_, part_at (by omega) h9 k (by omega) hk⟩
  obtain ⟨to, hi⟩ := key
  unfold ins at hi
  simp only [Bool.and_eq_true, decide_eq_true_eq] at hi
  omega
end Cd

set_option maxHeartbeats 1000000 in
set_option maxRecDepth 100000 in
theorem spShort7 (s : ByteArray) (w : World) (hs : s.size ≤ 20000) :
    Calls Try.prog 29 #[.string s] w fun e w' => e = .returned (.string ⟨(Cd.short s).toArray⟩) ∧ Below w.heap.size w w' := by
  have C : Hid (∀ W, Calls Try.prog 28 #[.int .i64 (s.size : Int)] W fun e w' => e = .returned (.string ⟨(Pl.vb 8 s.size).toArray⟩) ∧ Below W.heap.size W w') := fun W => l01Var_any s.size W (by omega)
  have hv := l01_bytes s.size
  have HS : Hid ((⟨(Pl.vb 8 s.size).toArray⟩ ++ s : ByteArray) = ⟨(Cd.short s).toArray⟩) := cat_list _ _
  generalize Pl.vb 8 s.size = V at *
  go_enter Try.func29, Try.ntmps29
  go_wp2_with (go_at_call 28; refine (C.out _).mono ?_; rintro e w2 ⟨rfl, hb2⟩)
  go_ret
  exact ⟨by rw [← HS.out]; rfl, hb2⟩
#print axioms spShort7
end Go.Proofs.Ythbblocllicmiaq
