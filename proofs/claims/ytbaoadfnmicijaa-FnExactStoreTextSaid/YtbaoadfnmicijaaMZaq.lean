/- Code in bytes: the specification of CodeText. Plain facts, without the program: the sixteen figures, a text in figures, and back. -/
import Derived.Test.YtbaoadfnmicijaaMZap
import Derived.Test.YtbaoadfnmicijaaMBwA
import Derived.Test.YtbaoadfnmicijaaMZak
namespace Go.Proofs.Ytbaoadfnmicijaa
section PartCtA
open Go.RowKit

namespace Cd
def short (t : ByteArray) : List UInt8 := Pl.vb 8 t.size ++ t.data.toList
def two (x : Ins) : List UInt8 := [UInt8.ofNat x.op.toNat, UInt8.ofNat x.arg.toNat]
/-- The bytes of right code. -/
def bytes (ts : List ByteArray) (xs : List Ins) (ln en : Int) : List UInt8 :=
  Pl.vb 8 ts.length ++ ts.flatMap short ++ Pl.vb 8 xs.length ++ xs.flatMap two ++ Pl.vb 8 ln.toNat ++ Pl.vb 8 en.toNat
/-- What CodeText answers. -/
def text? (ts : List ByteArray) (xs : List Ins) (bg ln en : Int) : Value :=
  if ok ts xs bg ln en = true then .tuple #[.string ⟨(bytes ts xs ln en).toArray⟩, .bool true] else .tuple #[.string ⟨#[]⟩, .bool false]
theorem take_flat {α : Type} (f : α → List UInt8) (l : List α) (d : α) (k : Nat) (h : k < l.length) : (l.take (k + 1)).flatMap f = (l.take k).flatMap f ++ f (l.getD k d) := by
  rw [List.take_add_one, List.getElem?_eq_getElem h, List.flatMap_append]
  congr 1
  simp [h]
theorem flat_le {α : Type} (f : α → List UInt8) (m : Nat) : ∀ (l : List α), (∀ x ∈ l, (f x).length ≤ m) → (l.flatMap f).length ≤ m * l.length
  | [], _ => by simp
  | x :: l, h => by
    have h1 := h x (by simp)
    have h2 := flat_le f m l (fun y hy => h y (by simp [hy]))
    simp only [List.flatMap_cons, List.length_append, List.length_cons]
    rw [Nat.mul_add]
    omega
end Cd

set_option maxHeartbeats 1000000 in
set_option maxRecDepth 100000 in
theorem spShort7 (s : ByteArray) (w : World) (hs : s.size ≤ 20000) :
    Calls Try.prog 23 #[.string s] w fun e w' => e = .returned (.string ⟨(Cd.short s).toArray⟩) ∧ Below w.heap.size w w' := by
  have C : Hid (∀ W, Calls Try.prog 22 #[.int .i64 (s.size : Int)] W fun e w' => e = .returned (.string ⟨(Pl.vb 8 s.size).toArray⟩) ∧ Below W.heap.size W w') := fun W => l01Var_any s.size W (by omega)
  have hv := l01_bytes s.size
  have HS : Hid ((⟨(Pl.vb 8 s.size).toArray⟩ ++ s : ByteArray) = ⟨(Cd.short s).toArray⟩) := cat_list _ _
  generalize Pl.vb 8 s.size = V at *
  go_enter Try.func23, Try.ntmps23
  go_wp2_with (go_at_call 22; refine (C.out _).mono ?_; rintro e w2 ⟨rfl, hb2⟩)
  go_ret
  exact ⟨by rw [← HS.out]; rfl, hb2⟩
end PartCtA
section PartPlainC
namespace Pl

theorem take_all (s : ByteArray) (k : Nat) (h : s.size ≤ k) : s.data.toList.take k = s.data.toList := List.take_of_length_le (by simpa using h)
end Pl
end PartPlainC
end Go.Proofs.Ytbaoadfnmicijaa
