/- Code in bytes: the specification of CodeText. Plain facts: what is read of the bytes of code. Plain facts, without the program: the sixteen figures, a text in figures, and back. Plain facts, without the program: what each figure of a text is worth, which is its place among the figures. -/
import Derived.Test.YtbaoadfnmicijaaMPRsZah
import Derived.Test.YtbaoadfnmicijaaMPRsBwA
import Derived.Test.YtbaoadfnmicijaaMPRsPlainB
import Derived.Test.YtbaoadfnmicijaaMPRsZaf
namespace Go.Proofs.Ytbaoadfnmicijaa
section PartCtA
open Go.RowKit

namespace Cd
def short (t : ByteArray) : List UInt8 := Pl.vb 8 t.size ++ t.data.toList
def two (x : Ins) : List UInt8 := [UInt8.ofNat x.op.toNat, UInt8.ofNat x.arg.toNat]
/-- The bytes of right code. -/
def bytes (ts : List ByteArray) (xs : List Ins) (ln en : Int) : List UInt8 :=
  Pl.vb 8 ts.length ++ ts.flatMap short ++ Pl.vb 8 xs.length ++ xs.flatMap two ++ Pl.vb 8 ln.toNat ++ Pl.vb 8 en.toNat
/-- What CodeText answers. -/
def text? (ts : List ByteArray) (xs : List Ins) (bg ln en : Int) : Value :=
  if ok ts xs bg ln en = true then .tuple #[.string ⟨(bytes ts xs ln en).toArray⟩, .bool true] else .tuple #[.string ⟨#[]⟩, .bool false]
theorem take_flat {α : Type} (f : α → List UInt8) (l : List α) (d : α) (k : Nat) (h : k < l.length) : (l.take (k + 1)).flatMap f = (l.take k).flatMap f ++ f (l.getD k d) := by
  rw [List.take_add_one, List.getElem?_eq_getElem h, List.flatMap_append]
  congr 1
  simp [h]
theorem flat_le {α : Type} (f : α → List UInt8) (m : Nat) : ∀ (l : List α), (∀ x ∈ l, (f x).length ≤ m) → (l.flatMap f).length ≤ m * l.length
  | [], _ => by simp
  | x :: l, h => by
    have h1 := h x (by simp)
    have h2 := flat_le f m l (fun y hy => h y (by simp [hy]))
    simp only [List.flatMap_cons, List.length_append, List.length_cons]
    rw [Nat.mul_add]
    omega
end Cd

set_option maxHeartbeats 1000000 in
set_option maxRecDepth 100000 in
theorem spShort7 (s : ByteArray) (w : World) (hs : s.size ≤ 20000) :
    Calls Try.prog 23 #[.string s] w fun e w' => e = .returned (.string ⟨(Cd.short s).toArray⟩) ∧ Below w.heap.size w w' := by
  have C : Hid (∀ W, Calls Try.prog 22 #[.int .i64 (s.size : Int)] W fun e w' => e = .returned (.string ⟨(Pl.vb 8 s.size).toArray⟩) ∧ Below W.heap.size W w') := fun W => l01Var_any s.size W (by omega)
  have hv := l01_bytes s.size
  have HS : Hid ((⟨(Pl.vb 8 s.size).toArray⟩ ++ s : ByteArray) = ⟨(Cd.short s).toArray⟩) := cat_list _ _
  generalize Pl.vb 8 s.size = V at *
  go_enter Try.func23, Try.ntmps23
  go_wp2_with (go_at_call 22; refine (C.out _).mono ?_; rintro e w2 ⟨rfl, hb2⟩)
  go_ret
  exact ⟨by rw [← HS.out]; rfl, hb2⟩
end PartCtA
section PartRcP
namespace Pl
/-- What is read is what its number is written as. -/
theorem rvF_bytes (f : Nat) (pre r : List UInt8) (n k : Nat) (hp : Goes pre) (hf : pre.length + f ≤ 9) (h : rvF f pre r = some (n, k)) : pre.length < k ∧ pre ++ r.take (k - pre.length) = vb 8 n := by
  induction f generalizing pre r with
  | zero => simp [rvF] at h
  | succ f ih =>
    cases r with
    | nil => simp [rvF] at h
    | cons b r =>
      by_cases hb : b.toNat < 128
      · by_cases h2 : (b.toNat = 0 ∧ 0 < pre.length) ∨ 1000000000 < val (pre ++ [b])
        · rw [rvF_bad f pre b r hb h2] at h; cases h
        · rw [rvF_end f pre b r hb h2] at h
          simp only [Option.some.injEq, Prod.mk.injEq] at h
          obtain ⟨rfl, rfl⟩ := h
          refine ⟨by omega, ?_⟩
          have := (vb_val 8 pre b hp hb (by omega)).2 (fun h => h2 (.inl h))
          rw [this, show pre.length + 1 - pre.length = 1 by omega]
          rfl
      · rw [rvF_on f pre b r (by omega)] at h
        obtain ⟨h1, h2⟩ := ih (pre ++ [b]) r (hp.snoc (by omega)) (by simp; omega) h
        simp only [List.length_append, List.length_singleton] at h1 h2
        refine ⟨by omega, ?_⟩
        rw [← h2, show k - pre.length = (k - (pre.length + 1)) + 1 by omega, List.take_succ_cons, List.append_assoc]
        rfl
end Pl

namespace Rc
/-- A number at a place, and the place behind it. -/
def rv (L : List UInt8) (a : Nat) : Option (Nat × Nat) := (Pl.rvF 5 [] (L.drop a)).map fun r => (r.1, a + r.2)
/-- A short text at a place. -/
def rs (L : List UInt8) (a : Nat) : Option (List UInt8 × Nat) :=
  match rv L a with
  | none => none
  | some (m, k) => if m ≤ 20000 ∧ k + m ≤ L.length then some ((L.drop k).take m, k + m) else none
theorem rv_bytes {L : List UInt8} {a n k : Nat} (ha : a ≤ L.length) (h : rv L a = some (n, k)) : a < k ∧ k ≤ L.length ∧ L.take k = L.take a ++ Pl.vb 8 n ∧ n ≤ 1000000000 := by
  unfold rv at h
  obtain ⟨⟨n', j⟩, h1, h2⟩ := Option.map_eq_some_iff.1 h
  simp only [Prod.mk.injEq] at h2
  obtain ⟨rfl, rfl⟩ := h2
  obtain ⟨h3, h4⟩ := Pl.rvF_some _ _ _ _ _ h1
  obtain ⟨h5, h6⟩ := Pl.rvF_bytes 5 [] _ _ _ (fun _ h => by cases h) (by simp) h1
  simp only [List.length_nil, List.length_drop, Nat.zero_add, Nat.sub_zero, List.nil_append] at h4 h5 h6
  refine ⟨by omega, by omega, ?_, h3⟩
  rw [← h6, List.take_add]
theorem rs_bytes {L t : List UInt8} {a k : Nat} (ha : a ≤ L.length) (h : rs L a = some (t, k)) : a < k ∧ k ≤ L.length ∧ t.length ≤ 20000 ∧ L.take k = L.take a ++ (Pl.vb 8 t.length ++ t) := by
  unfold rs at h
  cases hr : rv L a with
  | none => rw [hr] at h; cases h
  | some r =>
    obtain ⟨m, j⟩ := r
    rw [hr] at h
    simp only at h
    split at h
    · rename_i hc
      simp only [Option.some.injEq, Prod.mk.injEq] at h
      obtain ⟨rfl, rfl⟩ := h
      obtain ⟨h1, h2, h3, h4⟩ := rv_bytes ha hr
      have hl : ((L.drop j).take m).length = m := by rw [List.length_take, List.length_drop]; omega
      refine ⟨by omega, by omega, by omega, ?_⟩
      rw [hl, List.take_add, h3, List.append_assoc]
    · cases h
end Rc
end PartRcP
section PartPlainC
namespace Pl

theorem take_all (s : ByteArray) (k : Nat) (h : s.size ≤ k) : s.data.toList.take k = s.data.toList := List.take_of_length_le (by simpa using h)
end Pl
end PartPlainC
section PartPlainD
namespace Pl

theorem drop_at (s : ByteArray) (k : Nat) (h : k < s.size) : s.data.toList.drop k = s[k] :: s.data.toList.drop (k + 1) := by
  rw [List.drop_eq_getElem_cons (by simpa using h)]; rfl
end Pl
end PartPlainD
end Go.Proofs.Ytbaoadfnmicijaa
