/- Plain facts, without the program: the sixteen figures, a text in figures, and back. -/
import Derived.Test.YtmobohkcocidhaaPlainA
namespace Go.Proofs.Ytmobohkcocidhaa
namespace Pl

/-- The figure of x (below 16). -/
def fig (x : Nat) : UInt8 := UInt8.ofNat (if x < 10 then 48 + x else 87 + x)
theorem fig_low (x : Nat) (h : x < 10) : (fig x).toNat = 48 + x := by unfold fig; rw [if_pos h]; exact small _ (by omega)
theorem fig_high (x : Nat) (h1 : ¬ x < 10) (h : x < 16) : (fig x).toNat = 87 + x := by unfold fig; rw [if_neg h1]; exact small _ (by omega)

def figures : ByteArray := ⟨#[48, 49, 50, 51, 52, 53, 54, 55, 56, 57, 97, 98, 99, 100, 101, 102]⟩
theorem figures_at (x : Nat) (h : x < 16) (h2 : x < figures.size) : figures[x] = fig x := by
  have : ∀ y : Fin 16, figures[y.val]'(by have := y.isLt; exact this) = fig y.val := by decide
  exact this ⟨x, h⟩

/-- A text in figures, two a byte. -/
def hexL : List UInt8 → List UInt8
  | [] => []
  | b :: l => fig (b.toNat / 16) :: fig (b.toNat % 16) :: hexL l
theorem hexL_snoc (l : List UInt8) (b : UInt8) : hexL (l ++ [b]) = hexL l ++ [fig (b.toNat / 16), fig (b.toNat % 16)] := by
  induction l with
  | nil => rfl
  | cons a l ih => simp [hexL, ih]
theorem hexL_len (l : List UInt8) : (hexL l).length = 2 * l.length := by
  induction l with
  | nil => rfl
  | cons a l ih => simp [hexL, ih]; omega
theorem take_snoc (s : ByteArray) (k : Nat) (h : k < s.size) : s.data.toList.take (k + 1) = s.data.toList.take k ++ [s[k]] := by
  rw [List.take_succ_eq_append_getElem (by simpa using h)]; rfl
theorem take_all (s : ByteArray) (k : Nat) (h : s.size ≤ k) : s.data.toList.take k = s.data.toList := List.take_of_length_le (by simpa using h)
theorem take_len (s : ByteArray) (k : Nat) (h : k ≤ s.size) : (s.data.toList.take k).length = k := by simp; omega
theorem hex_more (s : ByteArray) (k : Nat) (h : k < s.size) : hexL (s.data.toList.take k) ++ [fig ((s[k].toNat : Int) / 16).toNat, fig ((s[k].toNat : Int) % 16).toNat] = hexL (s.data.toList.take (k + 1)) := by
  rw [take_snoc s k h, hexL_snoc]
  have e1 : ((s[k].toNat : Int) / 16).toNat = s[k].toNat / 16 := by omega
  have e2 : ((s[k].toNat : Int) % 16).toNat = s[k].toNat % 16 := by omega
  rw [e1, e2]
#print axioms figures_at
end Pl
end Go.Proofs.Ytmobohkcocidhaa
