/- Plain facts: a store in bytes, and that no two small stores have the same bytes. strings.Compare What is found by: foundBy of a Var and of a Cell; the first one of a list. When a store is right: how the program compares keys, and whether a list ascends. -/
import Derived.Test.YtehagonaacbmiaaGreatMPRjZal
import Derived.Test.YtehagonaacbmiaaGreatMPRjZam
import Derived.Test.YtehagonaacbmiaaGreatMPRjZag
import Derived.Shelf.Small.Utf8
import Derived.Shelf.Small.Strs
import Derived.Shelf.LaysM
import Derived.Shelf.Strconv.Clone
import Derived.Shelf.Strings.Search1
import Derived.Shelf.Strings.Search2
import Derived.Shelf.Strings.Cut
import Derived.Shelf.Strings.Shaped
import Derived.Shelf.Strings.Runes
import Derived.Shelf.Bits.Mul64
import Derived.Ground.Names2Prog
import Derived.Shelf.Slices.SearchI
import Derived.Test.YtehagonaacbmiaaGreatProg
import Derived.Laws.StructEq
import Derived.Deep.RegionWith
namespace Go.Proofs.YtehagonaacbmiaaGreat
section PartStB
namespace Pl
theorem vb_free {m n : Nat} {a b : List UInt8} (hm : m ≤ 1000000000) (hn : n ≤ 1000000000) (h : vb 8 m ++ a = vb 8 n ++ b) : m = n ∧ a = b := by
  have h1 := rv_back m a hm
  have h2 := rv_back n b hn
  rw [h, h2] at h1
  simp only [Option.some.injEq, Prod.mk.injEq] at h1
  obtain ⟨rfl, -⟩ := h1
  exact ⟨rfl, List.append_cancel_left h⟩
end Pl
namespace Cd
theorem short_free {s t : ByteArray} {a b : List UInt8} (hs : s.size ≤ 1000000000) (ht : t.size ≤ 1000000000) (h : short s ++ a = short t ++ b) : s = t ∧ a = b := by
  unfold short at h
  rw [List.append_assoc, List.append_assoc] at h
  obtain ⟨h1, h2⟩ := Pl.vb_free hs ht h
  have l1 : s.data.toList.length = s.size := by simp
  have l2 : t.data.toList.length = t.size := by simp
  obtain ⟨h3, h4⟩ := List.append_inj h2 (by omega)
  refine ⟨?_, h4⟩
  cases s; cases t
  simp only [ByteArray.mk.injEq] at *
  exact Array.toList_inj.1 h3
end Cd
namespace St
def vbytes (x : Vr) : List UInt8 := Cd.short x.name ++ Cd.short x.val
def cbytes (x : Cl) : List UInt8 := Cd.short x.name ++ (Cd.short x.key ++ Cd.short x.val)
/-- The bytes of a store. -/
def bytes (vs : List Vr) (cs : List Cl) (o : ByteArray) : List UInt8 :=
  Pl.vb 8 vs.length ++ vs.flatMap vbytes ++ Pl.vb 8 cs.length ++ cs.flatMap cbytes ++ Cd.short o
/-- What StoreText answers. -/
def text? (vs : List Vr) (cs : List Cl) (o : ByteArray) : Value :=
  if ok vs cs o = true then .tuple #[.string ⟨(bytes vs cs o).toArray⟩, .bool true] else .tuple #[.string ⟨#[]⟩, .bool false]

theorem flatV_free : ∀ {vs us : List Vr} {a b : List UInt8}, vs.length = us.length → (∀ x ∈ vs, x.name.size ≤ 1000000000 ∧ x.val.size ≤ 1000000000) → (∀ x ∈ us, x.name.size ≤ 1000000000 ∧ x.val.size ≤ 1000000000) → vs.flatMap vbytes ++ a = us.flatMap vbytes ++ b → vs = us ∧ a = b
  | [], [], a, b, _, _, _, h => ⟨rfl, by simpa using h⟩
  | x :: vs, y :: us, a, b, hl, h1, h2, h => by
    simp only [List.flatMap_cons, vbytes, List.append_assoc] at h
    obtain ⟨q1, q2⟩ := h1 x (by simp)
    obtain ⟨r1, r2⟩ := h2 y (by simp)
    obtain ⟨e1, h⟩ := Cd.short_free q1 r1 h
    obtain ⟨e2, h⟩ := Cd.short_free q2 r2 h
    obtain ⟨e3, e4⟩ := flatV_free (by simpa using hl) (fun z hz => h1 z (by simp [hz])) (fun z hz => h2 z (by simp [hz])) h
    refine ⟨?_, e4⟩
    cases x; cases y
    simp only at e1 e2
    rw [e1, e2, e3]
theorem flatC_free : ∀ {vs us : List Cl} {a b : List UInt8}, vs.length = us.length → (∀ x ∈ vs, x.name.size ≤ 1000000000 ∧ x.key.size ≤ 1000000000 ∧ x.val.size ≤ 1000000000) → (∀ x ∈ us, x.name.size ≤ 1000000000 ∧ x.key.size ≤ 1000000000 ∧ x.val.size ≤ 1000000000) → vs.flatMap cbytes ++ a = us.flatMap cbytes ++ b → vs = us ∧ a = b
  | [], [], a, b, _, _, _, h => ⟨rfl, by simpa using h⟩
  | x :: vs, y :: us, a, b, hl, h1, h2, h => by
    simp only [List.flatMap_cons, cbytes, List.append_assoc] at h
    obtain ⟨q1, q2, q3⟩ := h1 x (by simp)
    obtain ⟨r1, r2, r3⟩ := h2 y (by simp)
    obtain ⟨e1, h⟩ := Cd.short_free q1 r1 h
    obtain ⟨e2, h⟩ := Cd.short_free q2 r2 h
    obtain ⟨e0, h⟩ := Cd.short_free q3 r3 h
    obtain ⟨e3, e4⟩ := flatC_free (by simpa using hl) (fun z hz => h1 z (by simp [hz])) (fun z hz => h2 z (by simp [hz])) h
    refine ⟨?_, e4⟩
    cases x; cases y
    simp only at e1 e2 e0
    rw [e1, e2, e0, e3]
theorem small_memV {vs : List Vr} (h : VrSmall vs vs.length) : ∀ x ∈ vs, x.name.size ≤ 1000000000 ∧ x.val.size ≤ 1000000000 := by
  intro x hx
  obtain ⟨i, hi, rfl⟩ := List.mem_iff_getElem.1 hx
  have := h i hi
  rw [List.getD_eq_getElem?_getD, List.getElem?_eq_getElem hi] at this
  simp only [Option.getD_some] at this
  omega
theorem small_memC {vs : List Cl} (h : ClSmall vs vs.length) : ∀ x ∈ vs, x.name.size ≤ 1000000000 ∧ x.key.size ≤ 1000000000 ∧ x.val.size ≤ 1000000000 := by
  intro x hx
  obtain ⟨i, hi, rfl⟩ := List.mem_iff_getElem.1 hx
  have := h i hi
  rw [List.getD_eq_getElem?_getD, List.getElem?_eq_getElem hi] at this
  simp only [Option.getD_some] at this
  omega
/-- Small stores with the same bytes are the same. -/
theorem bytes_free {vs us : List Vr} {cs ds : List Cl} {o p : ByteArray} (h1 : StSmall vs cs o) (h2 : StSmall us ds p) (h : bytes vs cs o = bytes us ds p) : vs = us ∧ cs = ds ∧ o = p := by
  obtain ⟨a1, a2, a3, a4, a5⟩ := h1
  obtain ⟨b1, b2, b3, b4, b5⟩ := h2
  unfold bytes at h
  simp only [List.append_assoc] at h
  obtain ⟨e1, h⟩ := Pl.vb_free (by omega) (by omega) h
  obtain ⟨e2, h⟩ := flatV_free e1 (small_memV (by assumption)) (small_memV (by assumption)) h
  obtain ⟨e3, h⟩ := Pl.vb_free (by omega) (by omega) h
  obtain ⟨e4, h⟩ := flatC_free e3 (small_memC (by assumption)) (small_memC (by assumption)) h
  have h' : Cd.short o ++ [] = Cd.short p ++ [] := by simpa using h
  exact ⟨e2, e4, (Cd.short_free (by omega) (by omega) h').1⟩
end St
end PartStB
section PartShelfO
open Go.Shelf Go.Proofs
def Tryz.lays106_ren : Go.Shelf.Ren := ⟨fun | 106 => 105 | 213 => 111 | 265 => 122 | n => n, fun | 9 => 9 | 3 => 3 | n => n, fun | n => n⟩
theorem Tryz.lays106 : Go.Proofs.Lays.n106 Tryz.prog Tryz.lays106_ren := {
  mixed := by kernel_rfl
  f106 := Tryz.func105.trans (congrArg some (by kernel_rfl))
  f213 := Tryz.func111.trans (congrArg some (by kernel_rfl))
  f265 := Tryz.func122.trans (congrArg some (by kernel_rfl))
  t3 := Tryz.underlying3
  a3 := Tryz.isAgg3
  z3 := Tryz.sizeOf3
  v3 := Tryz.zeroValue3
  t9 := Tryz.underlying9
  a9 := Tryz.isAgg9
  z9 := Tryz.sizeOf9
  v9 := Tryz.zeroValue9 }
open Go.RowKit in
theorem Tryz.strings_Compare (a b : ByteArray) (w : World) :
    Calls Tryz.prog 105 #[.string a, .string b] w fun e w' => e = .returned (.int .i64 (Lib.compareBytes a.data.toList b.data.toList)) ∧ w' = w := Any.strings_Compare Tryz.lays106 a b w
end PartShelfO
section PartFbA
open Go.RowKit

set_option maxHeartbeats 800000 in
theorem foundVar (x0 x1 : ByteArray) (w : World) :
    Calls Tryz.prog 160 #[.agg #[.string x0, .string x1]] w fun e w' => e = .returned (.agg #[.string x0, .string ByteArray.empty]) ∧ Below w.heap.size w w' := by
  go_enter Tryz.func160, Tryz.ntmps160
  go_wp2_with fail
  refine bodyPost_ret (results_cell_row (p := 2) (ty := 133) rfl _ _ (w.heap.size + 1) 133 _ (0, 0) _ rfl (s2_1 _ _ _) Tryz.underlying133 rfl (by kernel_rfl)) rfl ?_
  exact ⟨rfl, ((Below.refl _ _).alloc (Nat.le_refl _) _).alloc (by simp) _⟩
set_option maxHeartbeats 800000 in
theorem foundCell (x0 x1 x2 : ByteArray) (w : World) :
    Calls Tryz.prog 162 #[.agg #[.string x0, .string x1, .string x2]] w fun e w' => e = .returned (.agg #[.string x0, .string x1]) ∧ Below w.heap.size w w' := by
  go_enter Tryz.func162, Tryz.ntmps162
  go_wp2_with fail
  refine bodyPost_ret (results_cell_row (p := 2) (ty := 133) rfl _ _ (w.heap.size + 1) 133 _ (0, 0) _ rfl (s2_1 _ _ _) Tryz.underlying133 rfl (by kernel_rfl)) rfl ?_
  exact ⟨rfl, ((Below.refl _ _).alloc (Nat.le_refl _) _).alloc (by simp) _⟩


end PartFbA
section PartOkB
open Go.RowKit

set_option maxHeartbeats 800000 in
theorem orInt (x y : Int) (b : Nat) (w : World) (h : w.heap[b]? = some (.cells #[.int .i64 x, .int .i64 y] 3 (0, 0))) :
    Calls Tryz.prog 104 #[.slice (some ⟨b, 0, none⟩) 2 2] w fun e w' => e = .returned (.int .i64 (if x = 0 then y else x)) ∧ w' = w := by
  have c0 := blk_cell h 0
  have c1 := blk_cell h 1
  simp only [List.getElem?_toArray, List.getElem?_cons_zero, List.getElem?_cons_succ] at c0 c1
  clear h
  by_cases hx : x = 0
  · subst hx
    by_cases hy : y = 0
    · subst hy
      go_enter Tryz.func104, Tryz.ntmps104
      go_wp2
      refine wp_loop_rounds 3 ?_
      rw [rounds_succ]
      go_wp2
      rw [rounds_succ]
      go_wp2
      rw [rounds_succ]
      go_wp2
      go_ret
      exact ⟨rfl, rfl⟩
    · have d : (y != 0) = true := by simpa using hy
      go_enter Tryz.func104, Tryz.ntmps104
      go_wp2
      refine wp_loop_rounds 3 ?_
      rw [rounds_succ]
      go_wp2
      rw [rounds_succ]
      go_wp2
      go_ret
      exact ⟨rfl, rfl⟩
  · have d : (x != 0) = true := by simpa using hx
    have HX : Hid (¬ x = 0) := hx
    clear hx
    go_enter Tryz.func104, Tryz.ntmps104
    go_wp2
    refine wp_loop_rounds 3 ?_
    rw [rounds_succ]
    go_wp2
    go_ret
    exact ⟨rfl, rfl⟩

set_option maxRecDepth 100000 in
set_option maxHeartbeats 1600000 in
theorem compKey (a0 a1 b0 b1 : ByteArray) (w : World) :
    Calls Tryz.prog 90 #[.agg #[.string a0, .string a1], .agg #[.string b0, .string b1]] w fun e w' => e = .returned (.int .i64 (St.cmp2 a0 a1 b0 b1)) ∧ Below w.heap.size w w' := by
  have C0 : Hid (∀ W, Calls Tryz.prog 105 #[.string a0, .string b0] W fun e w' => e = .returned (.int .i64 (Lib.compareBytes a0.data.toList b0.data.toList)) ∧ w' = W) := fun W => Tryz.strings_Compare a0 b0 W
  have C1 : Hid (∀ W, Calls Tryz.prog 105 #[.string a1, .string b1] W fun e w' => e = .returned (.int .i64 (Lib.compareBytes a1.data.toList b1.data.toList)) ∧ w' = W) := fun W => Tryz.strings_Compare a1 b1 W
  obtain ⟨R, hR⟩ : ∃ R, R = St.cmp2 a0 a1 b0 b1 := ⟨_, rfl⟩
  obtain ⟨X, hX⟩ : ∃ X, X = Lib.compareBytes a0.data.toList b0.data.toList := ⟨_, rfl⟩
  obtain ⟨Y, hY⟩ : ∃ Y, Y = Lib.compareBytes a1.data.toList b1.data.toList := ⟨_, rfl⟩
  have HR : Hid (R = if X = 0 then Y else X) := by rw [hR, hX, hY]; rfl
  rw [← hX] at C0
  rw [← hY] at C1
  rw [← hR]
  clear hX hY hR
  have CO : Hid (∀ b W, W.heap[b]? = some (.cells #[.int .i64 X, .int .i64 Y] 3 (0, 0)) → Calls Tryz.prog 104 #[.slice (some ⟨b, 0, none⟩) 2 2] W fun e w' => e = .returned (.int .i64 R) ∧ w' = W) := fun b W h => by rw [HR.out]; exact orInt X Y b W h
  clear HR
  have HB : Hid (Below w.heap.size w ((w.alloc (.cells #[.string a0, .string a1] 133)).alloc (.cells #[.string b0, .string b1] 133))) := ((Below.refl _ _).alloc (Nat.le_refl _) _).alloc (by simp) _
  have q0 := s2_0 w (.cells #[.string a0, .string a1] 133) (.cells #[.string b0, .string b1] 133)
  have q1 := s2_1 w (.cells #[.string a0, .string a1] 133) (.cells #[.string b0, .string b1] 133)
  have z0 := blk_cell q0 0
  have z1 := blk_cell q0 1
  have z2 := blk_cell q1 0
  have z3 := blk_cell q1 1
  simp only [List.getElem?_toArray, List.getElem?_cons_zero, List.getElem?_cons_succ] at z0 z1 z2 z3
  clear q0 q1
  go_enter Tryz.func90, Tryz.ntmps90
  go_wp2_with fail
  generalize (w.alloc (.cells #[.string a0, .string a1] 133)).alloc (.cells #[.string b0, .string b1] 133) = W0 at *
  go_region_held3 (fun W => W.cell? ⟨w.heap.size, 0, none⟩ = some (.string a0) ∧ W.cell? ⟨w.heap.size, 1, none⟩ = some (.string a1) ∧ W.cell? ⟨w.heap.size + 1, 0, none⟩ = some (.string b0) ∧ W.cell? ⟨w.heap.size + 1, 1, none⟩ = some (.string b1)) (first | go_keep | assumption) ((first
    | (go_at_call_of 105 (Value.string a0); refine (C0.out _).mono ?_; rintro e w1 ⟨rfl, rfl⟩)
    | (go_at_call_of 105 (Value.string a1); refine (C1.out _).mono ?_; rintro e w1 ⟨rfl, rfl⟩)
    | (go_at_call 104; refine (CO.out W0.heap.size (W0.drew.alloc (.cells #[.int .i64 X, .int .i64 Y] 3)) (heap_alloc_new W0.drew (.cells #[.int .i64 X, .int .i64 Y] 3))).mono ?_; rintro e w1 ⟨rfl, rfl⟩)))
  all_goals
    go_wp2
    go_ret
    exact ⟨rfl, (HB.out.alloc HB.out.size _).drew⟩
end PartOkB
end Go.Proofs.YtehagonaacbmiaaGreat
