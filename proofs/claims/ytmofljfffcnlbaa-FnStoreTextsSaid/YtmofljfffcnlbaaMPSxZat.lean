/- Plain facts, without the program: what a figure of sixteen is worth, and bytes out of pairs of such. Plain facts, without the program: what VarText, ShortText, Hex and Decimal write is read back. Are two stores the same: the library's Equal at Vars and at Cells, the program's SameStore. Plain facts: a store in bytes, and that no two small stores have the same bytes. -/
import Derived.Test.YtmofljfffcnlbaaMPSxZah
import Derived.Test.YtmofljfffcnlbaaMPSxZar
import Derived.Test.YtmofljfffcnlbaaMPSxZab
import Derived.WalkLawsBesides
import Derived.Laws.StructEq
import Derived.Test.YtmofljfffcnlbaaMPSxZas
import Derived.Test.YtmofljfffcnlbaaMPSxZae
namespace Go.Proofs.Ytmofljfffcnlbaa
section PartPlainE
namespace Pl

end Pl
end PartPlainE
section PartPlainH
namespace Pl

theorem rvF_vb (g f m : Nat) (pre r : List UInt8) (hp : Goes pre) (hg : m < 128 ^ (g + 1)) (hf : m < 128 ^ f) (h1 : 1 ≤ f) (h0 : m = 0 → pre = []) (ht : val pre + 128 ^ pre.length * m ≤ 1000000000) :
    rvF f pre (vb g m ++ r) = some (val pre + 128 ^ pre.length * m, pre.length + (vb g m).length) := by
  induction g generalizing f m pre with
  | zero =>
    obtain ⟨f, rfl⟩ : ∃ k, f = k + 1 := ⟨f - 1, by omega⟩
    have hm : m < 128 := by simpa using hg
    have hb : (UInt8.ofNat m).toNat = m := small m (by omega)
    have hv : val (pre ++ [UInt8.ofNat m]) = val pre + 128 ^ pre.length * m := by rw [val_snoc, hb, Nat.mod_eq_of_lt hm]
    rw [vb_last 0 m (by omega), List.singleton_append, rvF_end f pre _ r (by omega) ?_, hv]
    · simp
    · rw [hv, hb]
      rintro (⟨e, hl⟩ | h)
      · rw [h0 e] at hl; simp at hl
      · omega
  | succ g ih =>
    obtain ⟨f, rfl⟩ : ∃ k, f = k + 1 := ⟨f - 1, by omega⟩
    by_cases hm : 127 < m
    · have hbn := hb_nat m
      have hd : m / 128 ≠ 0 := by omega
      have hf2 : m / 128 < 128 ^ f := by rw [Nat.pow_succ] at hf; omega
      have hf1 : 1 ≤ f := by
        rcases Nat.eq_zero_or_pos f with e | e
        · subst e; simp at hf2; omega
        · exact e
      have hval : val (pre ++ [hb m]) = val pre + 128 ^ pre.length * (m % 128) := by rw [val_snoc, hb_nat, Nat.add_mod_right, Nat.mod_mod]
      have htot : val (pre ++ [hb m]) + 128 ^ (pre ++ [hb m]).length * (m / 128) = val pre + 128 ^ pre.length * m := by
        rw [hval, List.length_append, List.length_singleton, Nat.pow_succ, Nat.mul_assoc, Nat.add_assoc, ← Nat.mul_add, Nat.add_comm (m % 128), Nat.div_add_mod]
      rw [vb_more g m hm, List.cons_append, rvF_on f pre _ _ (by omega), ih f (m / 128) (pre ++ [hb m]) (hp.snoc (by omega)) (by rw [Nat.pow_succ] at hg; omega) hf2 hf1 (fun e => absurd e hd) (by rw [htot]; exact ht), htot]
      simp
      omega
    · have hb : (UInt8.ofNat m).toNat = m := small m (by omega)
      have hv : val (pre ++ [UInt8.ofNat m]) = val pre + 128 ^ pre.length * m := by rw [val_snoc, hb, Nat.mod_eq_of_lt (by omega)]
      rw [vb_last _ m hm, List.singleton_append, rvF_end f pre _ r (by omega) ?_, hv]
      · simp
      · rw [hv, hb]
        rintro (⟨e, hl⟩ | h)
        · rw [h0 e] at hl; simp at hl
        · omega
theorem rv_back (m : Nat) (r : List UInt8) (h : m ≤ 1000000000) : rvF 5 [] (vb 8 m ++ r) = some (m, (vb 8 m).length) := by
  have := rvF_vb 8 5 m [] r (fun _ h => by cases h) (by show m < 128 ^ 9; omega) (by show m < 128 ^ 5; omega) (by omega) (fun _ => rfl) (by simp [val]; exact h)
  simpa [val] using this

end Pl
end PartPlainH
section PartEqA
open Go.RowKit

namespace St
theorem all_yes {n : Nat} {p : Nat → Bool} (h : ∀ q, q < n → p q = true) : (List.range n).all p = true := List.all_eq_true.2 fun q hq => h q (List.mem_range.1 hq)
theorem all_no {n k : Nat} {p : Nat → Bool} (hk : k < n) (h : p k = false) : (List.range n).all p = false := List.all_eq_false.2 ⟨k, List.mem_range.2 hk, by rw [h]; simp⟩
def eqVr (x y : Vr) : Bool := (x.name.toList == y.name.toList) && (x.val.toList == y.val.toList)
def eqCl (x y : Cl) : Bool := (x.name.toList == y.name.toList) && ((x.key.toList == y.key.toList) && (x.val.toList == y.val.toList))
def eqVrs (a b : List Vr) : Bool := decide (a.length = b.length) && (List.range a.length).all fun i => eqVr (a.getD i Vr.no) (b.getD i Vr.no)
def eqCls (a b : List Cl) : Bool := decide (a.length = b.length) && (List.range a.length).all fun i => eqCl (a.getD i Cl.no) (b.getD i Cl.no)
/-- Are two stores the same. -/
def same (a b : List Vr) (c d : List Cl) (o p : ByteArray) : Bool := eqVrs a b && (eqCls c d && (o.toList == p.toList))
end St

/-- The model's '!=' at two of them. -/
theorem neqVr (x y : Vr) (w : World) : (binOp .neq 47 (.agg #[.string x.name, .string x.val]) (.agg #[.string y.name, .string y.val])).run Try.prog w = .ok (.bool (!St.eqVr x y)) w := by
  have u9 := Try.underlying9
  have a9 := Try.isAgg9
  have z9 := Try.sizeOf9
  have hS : Try.prog.underlying 47 = some (.struct (Try.prog.fieldsOf 47)) := by kernel_rfl
  have hp : Try.prog.stoodInHeld 47 = false := by kernel_rfl
  rw [run_neq_struct, show (10000 : Nat) = 9999 + 1 from rfl, run_equalIn_agg w 9999 47 _ _ hS hp]
  simp only [Program.fieldsOf, Try.underlying47]
  unfold St.eqVr
  cases h0 : (x.name.toList == y.name.toList) <;> cases h1 : (x.val.toList == y.val.toList)
  all_goals
    go_simp
theorem guardVr (op : BinOp) (a b : Operand) (xs ys : Array Value) (w : World) : (eqGuard op 47 a b (.agg xs) (.agg ys)).run Try.prog w = .ok () w := run_eqGuard_agg w op 47 a b xs ys (by kernel_rfl)

/-- The model's '!=' at two of them. -/
theorem neqCl (x y : Cl) (w : World) : (binOp .neq 50 (.agg #[.string x.name, .string x.key, .string x.val]) (.agg #[.string y.name, .string y.key, .string y.val])).run Try.prog w = .ok (.bool (!St.eqCl x y)) w := by
  have u9 := Try.underlying9
  have a9 := Try.isAgg9
  have z9 := Try.sizeOf9
  have hS : Try.prog.underlying 50 = some (.struct (Try.prog.fieldsOf 50)) := by kernel_rfl
  have hp : Try.prog.stoodInHeld 50 = false := by kernel_rfl
  rw [run_neq_struct, show (10000 : Nat) = 9999 + 1 from rfl, run_equalIn_agg w 9999 50 _ _ hS hp]
  simp only [Program.fieldsOf, Try.underlying50]
  unfold St.eqCl
  cases h0 : (x.name.toList == y.name.toList) <;> cases h1 : (x.key.toList == y.key.toList) <;> cases h2 : (x.val.toList == y.val.toList)
  all_goals
    go_simp
theorem guardCl (op : BinOp) (a b : Operand) (xs ys : Array Value) (w : World) : (eqGuard op 50 a b (.agg xs) (.agg ys)).run Try.prog w = .ok () w := run_eqGuard_agg w op 50 a b xs ys (by kernel_rfl)

end PartEqA
section PartStB
namespace Pl
theorem vb_free {m n : Nat} {a b : List UInt8} (hm : m ≤ 1000000000) (hn : n ≤ 1000000000) (h : vb 8 m ++ a = vb 8 n ++ b) : m = n ∧ a = b := by
  have h1 := rv_back m a hm
  have h2 := rv_back n b hn
  rw [h, h2] at h1
  simp only [Option.some.injEq, Prod.mk.injEq] at h1
  obtain ⟨rfl, -⟩ := h1
  exact ⟨rfl, List.append_cancel_left h⟩
end Pl
namespace Cd
theorem short_free {s t : ByteArray} {a b : List UInt8} (hs : s.size ≤ 1000000000) (ht : t.size ≤ 1000000000) (h : short s ++ a = short t ++ b) : s = t ∧ a = b := by
  unfold short at h
  rw [List.append_assoc, List.append_assoc] at h
  obtain ⟨h1, h2⟩ := Pl.vb_free hs ht h
  have l1 : s.data.toList.length = s.size := by simp
  have l2 : t.data.toList.length = t.size := by simp
  obtain ⟨h3, h4⟩ := List.append_inj h2 (by omega)
  refine ⟨?_, h4⟩
  cases s; cases t
  simp only [ByteArray.mk.injEq] at *
  exact Array.toList_inj.1 h3
end Cd
namespace St
def vbytes (x : Vr) : List UInt8 := Cd.short x.name ++ Cd.short x.val
def cbytes (x : Cl) : List UInt8 := Cd.short x.name ++ (Cd.short x.key ++ Cd.short x.val)
/-- The bytes of a store. -/
def bytes (vs : List Vr) (cs : List Cl) (o : ByteArray) : List UInt8 :=
  Pl.vb 8 vs.length ++ vs.flatMap vbytes ++ Pl.vb 8 cs.length ++ cs.flatMap cbytes ++ Cd.short o
/-- What StoreText answers. -/
def text? (vs : List Vr) (cs : List Cl) (o : ByteArray) : Value :=
  if ok vs cs o = true then .tuple #[.string ⟨(bytes vs cs o).toArray⟩, .bool true] else .tuple #[.string ⟨#[]⟩, .bool false]

theorem flatV_free : ∀ {vs us : List Vr} {a b : List UInt8}, vs.length = us.length → (∀ x ∈ vs, x.name.size ≤ 1000000000 ∧ x.val.size ≤ 1000000000) → (∀ x ∈ us, x.name.size ≤ 1000000000 ∧ x.val.size ≤ 1000000000) → vs.flatMap vbytes ++ a = us.flatMap vbytes ++ b → vs = us ∧ a = b
  | [], [], a, b, _, _, _, h => ⟨rfl, by simpa using h⟩
  | x :: vs, y :: us, a, b, hl, h1, h2, h => by
    simp only [List.flatMap_cons, vbytes, List.append_assoc] at h
    obtain ⟨q1, q2⟩ := h1 x (by simp)
    obtain ⟨r1, r2⟩ := h2 y (by simp)
    obtain ⟨e1, h⟩ := Cd.short_free q1 r1 h
    obtain ⟨e2, h⟩ := Cd.short_free q2 r2 h
    obtain ⟨e3, e4⟩ := flatV_free (by simpa using hl) (fun z hz => h1 z (by simp [hz])) (fun z hz => h2 z (by simp [hz])) h
    refine ⟨?_, e4⟩
    cases x; cases y
    simp only at e1 e2
    rw [e1, e2, e3]
theorem flatC_free : ∀ {vs us : List Cl} {a b : List UInt8}, vs.length = us.length → (∀ x ∈ vs, x.name.size ≤ 1000000000 ∧ x.key.size ≤ 1000000000 ∧ x.val.size ≤ 1000000000) → (∀ x ∈ us, x.name.size ≤ 1000000000 ∧ x.key.size ≤ 1000000000 ∧ x.val.size ≤ 1000000000) → vs.flatMap cbytes ++ a = us.flatMap cbytes ++ b → vs = us ∧ a = b
  | [], [], a, b, _, _, _, h => ⟨rfl, by simpa using h⟩
  | x :: vs, y :: us, a, b, hl, h1, h2, h => by
    simp only [List.flatMap_cons, cbytes, List.append_assoc] at h
    obtain ⟨q1, q2, q3⟩ := h1 x (by simp)
    obtain ⟨r1, r2, r3⟩ := h2 y (by simp)
    obtain ⟨e1, h⟩ := Cd.short_free q1 r1 h
    obtain ⟨e2, h⟩ := Cd.short_free q2 r2 h
    obtain ⟨e0, h⟩ := Cd.short_free q3 r3 h
    obtain ⟨e3, e4⟩ := flatC_free (by simpa using hl) (fun z hz => h1 z (by simp [hz])) (fun z hz => h2 z (by simp [hz])) h
    refine ⟨?_, e4⟩
    cases x; cases y
    simp only at e1 e2 e0
    rw [e1, e2, e0, e3]
theorem small_memV {vs : List Vr} (h : VrSmall vs vs.length) : ∀ x ∈ vs, x.name.size ≤ 1000000000 ∧ x.val.size ≤ 1000000000 := by
  intro x hx
  obtain ⟨i, hi, rfl⟩ := List.mem_iff_getElem.1 hx
  have := h i hi
  rw [List.getD_eq_getElem?_getD, List.getElem?_eq_getElem hi] at this
  simp only [Option.getD_some] at this
  omega
theorem small_memC {vs : List Cl} (h : ClSmall vs vs.length) : ∀ x ∈ vs, x.name.size ≤ 1000000000 ∧ x.key.size ≤ 1000000000 ∧ x.val.size ≤ 1000000000 := by
  intro x hx
  obtain ⟨i, hi, rfl⟩ := List.mem_iff_getElem.1 hx
  have := h i hi
  rw [List.getD_eq_getElem?_getD, List.getElem?_eq_getElem hi] at this
  simp only [Option.getD_some] at this
  omega
/-- Small stores with the same bytes are the same. -/
theorem bytes_free {vs us : List Vr} {cs ds : List Cl} {o p : ByteArray} (h1 : StSmall vs cs o) (h2 : StSmall us ds p) (h : bytes vs cs o = bytes us ds p) : vs = us ∧ cs = ds ∧ o = p := by
  obtain ⟨a1, a2, a3, a4, a5⟩ := h1
  obtain ⟨b1, b2, b3, b4, b5⟩ := h2
  unfold bytes at h
  simp only [List.append_assoc] at h
  obtain ⟨e1, h⟩ := Pl.vb_free (by omega) (by omega) h
  obtain ⟨e2, h⟩ := flatV_free e1 (small_memV (by assumption)) (small_memV (by assumption)) h
  obtain ⟨e3, h⟩ := Pl.vb_free (by omega) (by omega) h
  obtain ⟨e4, h⟩ := flatC_free e3 (small_memC (by assumption)) (small_memC (by assumption)) h
  have h' : Cd.short o ++ [] = Cd.short p ++ [] := by simpa using h
  exact ⟨e2, e4, (Cd.short_free (by omega) (by omega) h').1⟩
theorem same_refl (vs : List Vr) (cs : List Cl) (o : ByteArray) : same vs vs cs cs o o = true := by
  unfold same eqVrs eqCls eqVr eqCl
  simp
end St
end PartStB
end Go.Proofs.Ytmofljfffcnlbaa
