/- Plain facts: a store in bytes, and that no two small stores have the same bytes. Contracts of the library, laid at this program: what is less of texts. -/
import Derived.Test.YtohhhhkhkgmanaaZax
import Derived.Test.YtohhhhkhkgmanaaZay
import Derived.Test.YtohhhhkhkgmanaaZab
import Derived.Test.YtohhhhkhkgmanaaEqA
import Derived.Test.YtohhhhkhkgmanaaZaf
import Derived.Shelf.Small.Utf8
import Derived.Shelf.Small.Strs
import Derived.Shelf.LaysM
import Derived.Shelf.Strconv.Clone
import Derived.Shelf.Strings.Search1
import Derived.Test.YtohhhhkhkgmanaaProg
namespace Go.Proofs.Ytohhhhkhkgmanaa
section PartStB
namespace Pl
theorem vb_free {m n : Nat} {a b : List UInt8} (hm : m ≤ 1000000000) (hn : n ≤ 1000000000) (h : vb 8 m ++ a = vb 8 n ++ b) : m = n ∧ a = b := by
  have h1 := rv_back m a hm
  have h2 := rv_back n b hn
  rw [h, h2] at h1
  simp only [Option.some.injEq, Prod.mk.injEq] at h1
  obtain ⟨rfl, -⟩ := h1
  exact ⟨rfl, List.append_cancel_left h⟩
end Pl
namespace Cd
theorem short_free {s t : ByteArray} {a b : List UInt8} (hs : s.size ≤ 1000000000) (ht : t.size ≤ 1000000000) (h : short s ++ a = short t ++ b) : s = t ∧ a = b := by
  unfold short at h
  rw [List.append_assoc, List.append_assoc] at h
  obtain ⟨h1, h2⟩ := Pl.vb_free hs ht h
  have l1 : s.data.toList.length = s.size := by simp
  have l2 : t.data.toList.length = t.size := by simp
  obtain ⟨h3, h4⟩ := List.append_inj h2 (by omega)
  refine ⟨?_, h4⟩
  cases s; cases t
  simp only [ByteArray.mk.injEq] at *
  exact Array.toList_inj.1 h3
end Cd
namespace St
def vbytes (x : Vr) : List UInt8 := Cd.short x.name ++ Cd.short x.val
def cbytes (x : Cl) : List UInt8 := Cd.short x.name ++ (Cd.short x.key ++ Cd.short x.val)
/-- The bytes of a store. -/
def bytes (vs : List Vr) (cs : List Cl) (o : ByteArray) : List UInt8 :=
  Pl.vb 8 vs.length ++ vs.flatMap vbytes ++ Pl.vb 8 cs.length ++ cs.flatMap cbytes ++ Cd.short o
/-- What StoreText answers. -/
def text? (vs : List Vr) (cs : List Cl) (o : ByteArray) : Value :=
  if ok vs cs o = true then .tuple #[.string ⟨(bytes vs cs o).toArray⟩, .bool true] else .tuple #[.string ⟨#[]⟩, .bool false]

theorem flatV_free : ∀ {vs us : List Vr} {a b : List UInt8}, vs.length = us.length → (∀ x ∈ vs, x.name.size ≤ 1000000000 ∧ x.val.size ≤ 1000000000) → (∀ x ∈ us, x.name.size ≤ 1000000000 ∧ x.val.size ≤ 1000000000) → vs.flatMap vbytes ++ a = us.flatMap vbytes ++ b → vs = us ∧ a = b
  | [], [], a, b, _, _, _, h => ⟨rfl, by simpa using h⟩
  | x :: vs, y :: us, a, b, hl, h1, h2, h => by
    simp only [List.flatMap_cons, vbytes, List.append_assoc] at h
    obtain ⟨q1, q2⟩ := h1 x (by simp)
    obtain ⟨r1, r2⟩ := h2 y (by simp)
    obtain ⟨e1, h⟩ := Cd.short_free q1 r1 h
    obtain ⟨e2, h⟩ := Cd.short_free q2 r2 h
    obtain ⟨e3, e4⟩ := flatV_free (by simpa using hl) (fun z hz => h1 z (by simp [hz])) (fun z hz => h2 z (by simp [hz])) h
    refine ⟨?_, e4⟩
    cases x; cases y
    simp only at e1 e2
    rw [e1, e2, e3]
theorem flatC_free : ∀ {vs us : List Cl} {a b : List UInt8}, vs.length = us.length → (∀ x ∈ vs, x.name.size ≤ 1000000000 ∧ x.key.size ≤ 1000000000 ∧ x.val.size ≤ 1000000000) → (∀ x ∈ us, x.name.size ≤ 1000000000 ∧ x.key.size ≤ 1000000000 ∧ x.val.size ≤ 1000000000) → vs.flatMap cbytes ++ a = us.flatMap cbytes ++ b → vs = us ∧ a = b
  | [], [], a, b, _, _, _, h => ⟨rfl, by simpa using h⟩
  | x :: vs, y :: us, a, b, hl, h1, h2, h => by
    simp only [List.flatMap_cons, cbytes, List.append_assoc] at h
    obtain ⟨q1, q2, q3⟩ := h1 x (by simp)
    obtain ⟨r1, r2, r3⟩ := h2 y (by simp)
    obtain ⟨e1, h⟩ := Cd.short_free q1 r1 h
    obtain ⟨e2, h⟩ := Cd.short_free q2 r2 h
    obtain ⟨e0, h⟩ := Cd.short_free q3 r3 h
    obtain ⟨e3, e4⟩ := flatC_free (by simpa using hl) (fun z hz => h1 z (by simp [hz])) (fun z hz => h2 z (by simp [hz])) h
    refine ⟨?_, e4⟩
    cases x; cases y
    simp only at e1 e2 e0
    rw [e1, e2, e0, e3]
theorem small_memV {vs : List Vr} (h : VrSmall vs vs.length) : ∀ x ∈ vs, x.name.size ≤ 1000000000 ∧ x.val.size ≤ 1000000000 := by
  intro x hx
  obtain ⟨i, hi, rfl⟩ := List.mem_iff_getElem.1 hx
  have := h i hi
  rw [List.getD_eq_getElem?_getD, List.getElem?_eq_getElem hi] at this
  simp only [Option.getD_some] at this
  omega
theorem small_memC {vs : List Cl} (h : ClSmall vs vs.length) : ∀ x ∈ vs, x.name.size ≤ 1000000000 ∧ x.key.size ≤ 1000000000 ∧ x.val.size ≤ 1000000000 := by
  intro x hx
  obtain ⟨i, hi, rfl⟩ := List.mem_iff_getElem.1 hx
  have := h i hi
  rw [List.getD_eq_getElem?_getD, List.getElem?_eq_getElem hi] at this
  simp only [Option.getD_some] at this
  omega
/-- Small stores with the same bytes are the same. -/
theorem bytes_free {vs us : List Vr} {cs ds : List Cl} {o p : ByteArray} (h1 : StSmall vs cs o) (h2 : StSmall us ds p) (h : bytes vs cs o = bytes us ds p) : vs = us ∧ cs = ds ∧ o = p := by
  obtain ⟨a1, a2, a3, a4, a5⟩ := h1
  obtain ⟨b1, b2, b3, b4, b5⟩ := h2
  unfold bytes at h
  simp only [List.append_assoc] at h
  obtain ⟨e1, h⟩ := Pl.vb_free (by omega) (by omega) h
  obtain ⟨e2, h⟩ := flatV_free e1 (small_memV (by assumption)) (small_memV (by assumption)) h
  obtain ⟨e3, h⟩ := Pl.vb_free (by omega) (by omega) h
  obtain ⟨e4, h⟩ := flatC_free e3 (small_memC (by assumption)) (small_memC (by assumption)) h
  have h' : Cd.short o ++ [] = Cd.short p ++ [] := by simpa using h
  exact ⟨e2, e4, (Cd.short_free (by omega) (by omega) h').1⟩
theorem same_refl (vs : List Vr) (cs : List Cl) (o : ByteArray) : same vs vs cs cs o o = true := by
  unfold same eqVrs eqCls eqVr eqCl
  simp
theorem bytes_inj (a b : ByteArray) (h : a.toList = b.toList) : a = b := by
  have h1 : a.data.toList = b.data.toList := by simpa [ByteArray.toList_eq] using h
  cases a; cases b
  simp only [ByteArray.mk.injEq] at *
  exact Array.toList_inj.1 h1
theorem same_iff {vs us : List Vr} {cs ds : List Cl} {o p : ByteArray} : same vs us cs ds o p = true ↔ vs = us ∧ cs = ds ∧ o = p := by
  constructor
  · intro h
    unfold same eqVrs eqCls at h
    simp only [Bool.and_eq_true, decide_eq_true_eq, List.all_eq_true, List.mem_range] at h
    obtain ⟨⟨l1, h1⟩, ⟨l2, h2⟩, h3⟩ := h
    refine ⟨?_, ?_, bytes_inj _ _ (by simpa using h3)⟩
    · refine List.ext_getElem l1 fun i hi hj => ?_
      have := h1 i hi
      simp only [eqVr, Bool.and_eq_true, beq_iff_eq, List.getD_eq_getElem?_getD, List.getElem?_eq_getElem hi, List.getElem?_eq_getElem hj, Option.getD_some] at this
      have e1 := bytes_inj _ _ this.1
      have e2 := bytes_inj _ _ this.2
      generalize vs[i] = x at *
      generalize us[i] = y at *
      cases x; cases y
      simp only at e1 e2
      rw [e1, e2]
    · refine List.ext_getElem l2 fun i hi hj => ?_
      have := h2 i hi
      simp only [eqCl, Bool.and_eq_true, beq_iff_eq, List.getD_eq_getElem?_getD, List.getElem?_eq_getElem hi, List.getElem?_eq_getElem hj, Option.getD_some] at this
      have e1 := bytes_inj _ _ this.1
      have e2 := bytes_inj _ _ this.2.1
      have e3 := bytes_inj _ _ this.2.2
      generalize cs[i] = x at *
      generalize ds[i] = y at *
      cases x; cases y
      simp only at e1 e2 e3
      rw [e1, e2, e3]
  · rintro ⟨rfl, rfl, rfl⟩
    exact same_refl _ _ _
theorem same_comm (vs us : List Vr) (cs ds : List Cl) (o p : ByteArray) : same vs us cs ds o p = same us vs ds cs p o := by
  rw [Bool.eq_iff_iff, same_iff, same_iff]
  constructor
  · rintro ⟨rfl, rfl, rfl⟩; exact ⟨rfl, rfl, rfl⟩
  · rintro ⟨rfl, rfl, rfl⟩; exact ⟨rfl, rfl, rfl⟩
/-- Small stores are the same just when their bytes are. -/
theorem same_bytes {vs us : List Vr} {cs ds : List Cl} {o p : ByteArray} (h1 : StSmall vs cs o) (h2 : StSmall us ds p) : same vs us cs ds o p = (bytes vs cs o == bytes us ds p) := by
  rw [Bool.eq_iff_iff, same_iff, beq_iff_eq]
  constructor
  · rintro ⟨rfl, rfl, rfl⟩; rfl
  · exact bytes_free h1 h2
end St
end PartStB
section PartShelfO
open Go.Shelf Go.Proofs
def Try.lays106_ren : Go.Shelf.Ren := ⟨fun | 106 => 79 | 213 => 92 | 265 => 103 | n => n, fun | 9 => 9 | 3 => 3 | n => n, fun | n => n⟩
theorem Try.lays106 : Go.Proofs.Lays.n106 Try.prog Try.lays106_ren := {
  mixed := by kernel_rfl
  f106 := Try.func79.trans (congrArg some (by kernel_rfl))
  f213 := Try.func92.trans (congrArg some (by kernel_rfl))
  f265 := Try.func103.trans (congrArg some (by kernel_rfl))
  t3 := Try.underlying3
  a3 := Try.isAgg3
  z3 := Try.sizeOf3
  v3 := Try.zeroValue3
  t9 := Try.underlying9
  a9 := Try.isAgg9
  z9 := Try.sizeOf9
  v9 := Try.zeroValue9 }
open Go.RowKit in
theorem Try.strings_Compare (a b : ByteArray) (w : World) :
    Calls Try.prog 79 #[.string a, .string b] w fun e w' => e = .returned (.int .i64 (Lib.compareBytes a.data.toList b.data.toList)) ∧ w' = w := Any.strings_Compare Try.lays106 a b w
end PartShelfO
end Go.Proofs.Ytohhhhkhkgmanaa
