/- What ShortText and ReadShort answer, the program's and the specification's, and that the laws on ReadVar, ShortText and ReadShort answer true. The program's writer of bytes: a strings.Builder that lies within a struct of the program's own. Code in bytes: the specification of CodeText. -/
import Derived.Test.YtohhhhkhkgmanaaZac
import Derived.Test.YtohhhhkhkgmanaaZaw
import Derived.Test.YtohhhhkhkgmanaaZaa
import Derived.Lib.Builder
import Derived.Lib.AppendStr
import Derived.Lib.AppendIntMem
import Derived.Shelf.Strings.Builder1
import Derived.Test.YtohhhhkhkgmanaaZav
namespace Go.Proofs.Ytohhhhkhkgmanaa
section PartVrD
open Go.RowKit

end PartVrD
section PartBwA
open Go.RowKit

/-- What lies in rows of another kind than bytes, but for block b, is as it was. -/
def Ok5 (b : Nat) (w w' : World) : Prop := ∀ (j : Nat) (arr : Array Value) (t : TypeId) (fr : Nat × Nat), w.heap[j]? = some (.cells arr t fr) → t ≠ 5 → j ≠ b → w'.heap[j]? = some (.cells arr t fr)
theorem Ok5.refl (b : Nat) (w : World) : Ok5 b w w := fun _ _ _ _ h _ _ => h
theorem Ok5.set {b : Nat} {w w' : World} (h : Ok5 b w w') (k : Nat) (u : Value) : Ok5 b w (w'.setCell ⟨b, k, none⟩ u) := fun j arr t fr h1 h2 h3 => by
  rw [Below.heap_setCell _ _ _ _ (by exact h3)]
  exact h j arr t fr h1 h2 h3
theorem cat_list (a : List UInt8) (s : ByteArray) : (⟨a.toArray⟩ ++ s : ByteArray) = ⟨(a ++ s.data.toList).toArray⟩ := by
  apply ByteArray.ext
  simp
theorem l01_bytes (n : Nat) : (Pl.vb 8 n).length ≤ 9 := by
  suffices h : ∀ f n, (Pl.vb f n).length ≤ f + 1 from h 8 n
  intro f
  induction f with
  | zero => intro n; simp [Pl.vb]
  | succ f ih =>
    intro n
    by_cases h : 127 < n
    · rw [Pl.vb_more f n h]
      have := ih (n / 128)
      simp
      omega
    · rw [Pl.vb_last (f + 1) n h]
      simp

end PartBwA
section PartCtA
open Go.RowKit

namespace Cd
def short (t : ByteArray) : List UInt8 := Pl.vb 8 t.size ++ t.data.toList
def two (x : Ins) : List UInt8 := [UInt8.ofNat x.op.toNat, UInt8.ofNat x.arg.toNat]
/-- The bytes of right code. -/
def bytes (ts : List ByteArray) (xs : List Ins) (ln en : Int) : List UInt8 :=
  Pl.vb 8 ts.length ++ ts.flatMap short ++ Pl.vb 8 xs.length ++ xs.flatMap two ++ Pl.vb 8 ln.toNat ++ Pl.vb 8 en.toNat
/-- What CodeText answers. -/
def text? (ts : List ByteArray) (xs : List Ins) (bg ln en : Int) : Value :=
  if ok ts xs bg ln en = true then .tuple #[.string ⟨(bytes ts xs ln en).toArray⟩, .bool true] else .tuple #[.string ⟨#[]⟩, .bool false]
theorem take_flat {α : Type} (f : α → List UInt8) (l : List α) (d : α) (k : Nat) (h : k < l.length) : (l.take (k + 1)).flatMap f = (l.take k).flatMap f ++ f (l.getD k d) := by
  rw [List.take_add_one, List.getElem?_eq_getElem h, List.flatMap_append]
  congr 1
  simp [h]
theorem flat_le {α : Type} (f : α → List UInt8) (m : Nat) : ∀ (l : List α), (∀ x ∈ l, (f x).length ≤ m) → (l.flatMap f).length ≤ m * l.length
  | [], _ => by simp
  | x :: l, h => by
    have h1 := h x (by simp)
    have h2 := flat_le f m l (fun y hy => h y (by simp [hy]))
    simp only [List.flatMap_cons, List.length_append, List.length_cons]
    rw [Nat.mul_add]
    omega
end Cd

set_option maxHeartbeats 1000000 in
set_option maxRecDepth 100000 in
theorem spShort7 (s : ByteArray) (w : World) (hs : s.size ≤ 20000) :
    Calls Try.prog 51 #[.string s] w fun e w' => e = .returned (.string ⟨(Cd.short s).toArray⟩) ∧ Below w.heap.size w w' := by
  have C : Hid (∀ W, Calls Try.prog 50 #[.int .i64 (s.size : Int)] W fun e w' => e = .returned (.string ⟨(Pl.vb 8 s.size).toArray⟩) ∧ Below W.heap.size W w') := fun W => l01Var_any s.size W (by omega)
  have hv := l01_bytes s.size
  have HS : Hid ((⟨(Pl.vb 8 s.size).toArray⟩ ++ s : ByteArray) = ⟨(Cd.short s).toArray⟩) := cat_list _ _
  generalize Pl.vb 8 s.size = V at *
  go_enter Try.func51, Try.ntmps51
  go_wp2_with (go_at_call 50; refine (C.out _).mono ?_; rintro e w2 ⟨rfl, hb2⟩)
  go_ret
  exact ⟨by rw [← HS.out]; rfl, hb2⟩
end PartCtA
end Go.Proofs.Ytohhhhkhkgmanaa
