/- At every draw: code that goes back, takes what is not there, or leaves something, is none. -/
import Derived.Test.YthbblocllicmiadCdI
import Derived.Test.YthbblocllicmiadZaw
import Derived.Test.YthbblocllicmiadZax
import Derived.Test.YthbblocllicmiadBig
namespace Go.Proofs.Ythbblocllicmiad
open Go.RowKit

/-- Several new blocks. -/
def allocs (w : World) : List Obj → World
  | [] => w
  | o :: os => allocs (w.alloc o) os
theorem allocs_size (w : World) : ∀ os : List Obj, (allocs w os).heap.size = w.heap.size + os.length := by
  intro os
  induction os generalizing w with
  | nil => rfl
  | cons o os ih => rw [allocs, ih]; simp; omega
theorem allocs_old (w : World) (os : List Obj) (j : Nat) (hj : j < w.heap.size) : (allocs w os).heap[j]? = w.heap[j]? := by
  induction os generalizing w with
  | nil => rfl
  | cons o os ih =>
    rw [allocs, ih (w.alloc o) (by simp; omega)]
    exact ((Below.refl w.heap.size w).alloc (Nat.le_refl _) o).block j hj
theorem allocs_get (w : World) (os : List Obj) (i : Nat) (o : Obj) (h : os[i]? = some o) : (allocs w os).heap[w.heap.size + i]? = some o := by
  induction os generalizing w i with
  | nil => simp at h
  | cons p os ih =>
    cases i with
    | zero =>
      simp at h
      subst h
      rw [allocs, allocs_old _ _ _ (by simp), Nat.add_zero]
      exact heap_alloc_new w p
    | succ i =>
      have := ih (w.alloc p) i (by simpa using h)
      rw [World.size_alloc] at this
      rw [allocs, show w.heap.size + (i + 1) = w.heap.size + 1 + i by omega]
      exact this
theorem allocs_below (w : World) (os : List Obj) : Below w.heap.size w (allocs w os) := by
  induction os generalizing w with
  | nil => exact Below.refl _ _
  | cons o os ih => exact ((Below.refl w.heap.size w).alloc (Nat.le_refl _) o).trans ((ih (w.alloc o)).mono (by simp))
theorem insLit {W : World} {g n c : Nat} {arr : Array Value} (xs : List Ins) (h : W.heap[g]? = some (.cells arr 26 (0, 0))) (ha : arr = (xs.flatMap fun x => [.int .i64 x.op, .int .i64 x.arg]).toArray) (hn : n = xs.length := by rfl) : InsAt W (.slice (some ⟨g, 0, none⟩) n c) xs := by
  subst hn ha
  refine ⟨_, _, rfl, fun _ => ⟨g, 0, rfl, blk_lt h, fun i hi => ?_⟩⟩
  have key : ∀ (xs : List Ins) (i : Nat), i < xs.length → (xs.flatMap fun x => [Value.int .i64 x.op, Value.int .i64 x.arg])[i * 2]? = some (.int .i64 (xs.getD i Ins.no).op) ∧ (xs.flatMap fun x => [Value.int .i64 x.op, Value.int .i64 x.arg])[i * 2 + 1]? = some (.int .i64 (xs.getD i Ins.no).arg) := by
    intro xs
    induction xs with
    | nil => intro i hi; simp at hi
    | cons x xs ih =>
      intro i hi
      cases i with
      | zero => exact ⟨rfl, rfl⟩
      | succ i =>
        have := ih i (by simpa using hi)
        rw [show (i + 1) * 2 = i * 2 + 2 by omega]
        exact this
  rw [blk_cell h, blk_cell h, Nat.zero_add]
  simpa using key xs i hi
theorem Br.small : TsSmall [Br.x] ([Br.x] : List ByteArray).length := by
  intro i hi
  have : i = 0 := by simpa using hi
  subst this
  decide

set_option maxHeartbeats 4000000 in
set_option maxRecDepth 100000 in
theorem lawBroken (ad : Option Addr) (n cap : Nat) (w : World) (hc : n ≤ 1048576 → Code w ad n) :
    Calls Try.prog 3 #[.slice ad n cap] w fun e w' => e = .returned (.bool true) ∧ Below w.heap.size w w' := by
  by_cases hbig : 1048576 < n
  · have CB : Hid (∀ w, Calls Try.prog 4 #[.slice ad n cap] w fun e w' => e = .returned (.bool true) ∧ w' = w) := big_yes ad n cap hbig
    clear hc
    go_enter Try.func3, Try.ntmps3
    go_wp2_with fail
    refine (CB.out _).mono ?_
    rintro e w' ⟨rfl, rfl⟩
    go_wp2
    go_ret
    exact ⟨rfl, Below.refl _ _⟩
  have CB : Hid (∀ w, Calls Try.prog 4 #[.slice ad n cap] w fun e w' => e = .returned (.bool false) ∧ w' = w) := big_no ad n cap hbig
  have HC : Hid (Code w ad n) := hc (by omega)
  have hn : n ≤ 1048576 := by omega
  clear hc hbig
  go_enter Try.func3, Try.ntmps3
  go_wp2_with fail
  refine (CB.out _).mono ?_
  rintro e w0 ⟨rfl, rfl⟩
  clear CB
  go_wp2_with fail
  obtain ⟨U, hU⟩ : ∃ U, U = ((((((((((w0.alloc (.cells #[.string ⟨#[120]⟩] 9)).alloc (.cells #[.int .i64 1, .int .i64 0, .int .i64 17, .int .i64 0] 26)).alloc (.cells #[.slice (some ⟨w0.heap.size, 0, none⟩) 1 1, .slice (some ⟨w0.heap.size + 1, 0, none⟩) 2 2, .int .i64 0, .int .i64 2, .int .i64 2] 29)).alloc (.cells #[.slice (some ⟨w0.heap.size, 0, none⟩) 1 1, .slice (some ⟨w0.heap.size + 1 + 1 + 1 + 1, 0, none⟩) 1 1, .int .i64 0, .int .i64 1, .int .i64 1] 29)).alloc (.cells #[.int .i64 17, .int .i64 0] 26)).alloc (.cells #[.slice (some ⟨w0.heap.size, 0, none⟩) 1 1, .slice (some ⟨w0.heap.size + 1 + 1 + 1 + 1 + 1 + 1, 0, none⟩) 1 1, .int .i64 0, .int .i64 1, .int .i64 1] 29)).alloc (.cells #[.int .i64 1, .int .i64 0] 26)).alloc (.cells #[.slice (some ⟨w0.heap.size, 0, none⟩) 1 1, .slice (some ⟨w0.heap.size + 1 + 1 + 1 + 1 + 1 + 1 + 1 + 1, 0, none⟩) 2 2, .int .i64 0, .int .i64 2, .int .i64 2] 29)).alloc (.cells #[.int .i64 1, .int .i64 0, .int .i64 21, .int .i64 0] 26)).alloc (.cells #[.slice (some ⟨w0.heap.size, 0, none⟩) 1 1, .slice (some ⟨w0.heap.size + 1, 0, none⟩) 2 2, .int .i64 0, .int .i64 2, .int .i64 2] 29)) := ⟨_, rfl⟩
  have hUa : U = allocs w0 [.cells #[.string ⟨#[120]⟩] 9, .cells #[.int .i64 1, .int .i64 0, .int .i64 17, .int .i64 0] 26, .cells #[.slice (some ⟨w0.heap.size, 0, none⟩) 1 1, .slice (some ⟨w0.heap.size + 1, 0, none⟩) 2 2, .int .i64 0, .int .i64 2, .int .i64 2] 29, .cells #[.slice (some ⟨w0.heap.size, 0, none⟩) 1 1, .slice (some ⟨w0.heap.size + 1 + 1 + 1 + 1, 0, none⟩) 1 1, .int .i64 0, .int .i64 1, .int .i64 1] 29, .cells #[.int .i64 17, .int .i64 0] 26, .cells #[.slice (some ⟨w0.heap.size, 0, none⟩) 1 1, .slice (some ⟨w0.heap.size + 1 + 1 + 1 + 1 + 1 + 1, 0, none⟩) 1 1, .int .i64 0, .int .i64 1, .int .i64 1] 29, .cells #[.int .i64 1, .int .i64 0] 26, .cells #[.slice (some ⟨w0.heap.size, 0, none⟩) 1 1, .slice (some ⟨w0.heap.size + 1 + 1 + 1 + 1 + 1 + 1 + 1 + 1, 0, none⟩) 2 2, .int .i64 0, .int .i64 2, .int .i64 2] 29, .cells #[.int .i64 1, .int .i64 0, .int .i64 21, .int .i64 0] 26, .cells #[.slice (some ⟨w0.heap.size, 0, none⟩) 1 1, .slice (some ⟨w0.heap.size + 1, 0, none⟩) 2 2, .int .i64 0, .int .i64 2, .int .i64 2] 29] := hU
  have hUs : U.heap.size = w0.heap.size + 10 := by rw [hUa, allocs_size]; rfl
  have HBU : Hid (Below w0.heap.size w0 U) := by rw [hUa]; exact allocs_below _ _
  have B0 : U.heap[w0.heap.size]? = some (.cells #[.string ⟨#[120]⟩] 9 (0, 0)) := by
    rw [hUa]
    exact allocs_get w0 _ 0 _ rfl
  have B1 : U.heap[w0.heap.size + 1]? = some (.cells #[.int .i64 1, .int .i64 0, .int .i64 17, .int .i64 0] 26 (0, 0)) := by
    rw [hUa]
    exact allocs_get w0 _ 1 _ rfl
  have B2 : U.heap[w0.heap.size + 1 + 1]? = some (.cells #[.slice (some ⟨w0.heap.size, 0, none⟩) 1 1, .slice (some ⟨w0.heap.size + 1, 0, none⟩) 2 2, .int .i64 0, .int .i64 2, .int .i64 2] 29 (0, 0)) := by
    rw [hUa]
    exact allocs_get w0 _ 2 _ rfl
  have B3 : U.heap[w0.heap.size + 1 + 1 + 1]? = some (.cells #[.slice (some ⟨w0.heap.size, 0, none⟩) 1 1, .slice (some ⟨w0.heap.size + 1 + 1 + 1 + 1, 0, none⟩) 1 1, .int .i64 0, .int .i64 1, .int .i64 1] 29 (0, 0)) := by
    rw [hUa]
    exact allocs_get w0 _ 3 _ rfl
  have B4 : U.heap[w0.heap.size + 1 + 1 + 1 + 1]? = some (.cells #[.int .i64 17, .int .i64 0] 26 (0, 0)) := by
    rw [hUa]
    exact allocs_get w0 _ 4 _ rfl
  have B5 : U.heap[w0.heap.size + 1 + 1 + 1 + 1 + 1]? = some (.cells #[.slice (some ⟨w0.heap.size, 0, none⟩) 1 1, .slice (some ⟨w0.heap.size + 1 + 1 + 1 + 1 + 1 + 1, 0, none⟩) 1 1, .int .i64 0, .int .i64 1, .int .i64 1] 29 (0, 0)) := by
    rw [hUa]
    exact allocs_get w0 _ 5 _ rfl
  have B6 : U.heap[w0.heap.size + 1 + 1 + 1 + 1 + 1 + 1]? = some (.cells #[.int .i64 1, .int .i64 0] 26 (0, 0)) := by
    rw [hUa]
    exact allocs_get w0 _ 6 _ rfl
  have B7 : U.heap[w0.heap.size + 1 + 1 + 1 + 1 + 1 + 1 + 1]? = some (.cells #[.slice (some ⟨w0.heap.size, 0, none⟩) 1 1, .slice (some ⟨w0.heap.size + 1 + 1 + 1 + 1 + 1 + 1 + 1 + 1, 0, none⟩) 2 2, .int .i64 0, .int .i64 2, .int .i64 2] 29 (0, 0)) := by
    rw [hUa]
    exact allocs_get w0 _ 7 _ rfl
  have B8 : U.heap[w0.heap.size + 1 + 1 + 1 + 1 + 1 + 1 + 1 + 1]? = some (.cells #[.int .i64 1, .int .i64 0, .int .i64 21, .int .i64 0] 26 (0, 0)) := by
    rw [hUa]
    exact allocs_get w0 _ 8 _ rfl
  have B9 : U.heap[w0.heap.size + 1 + 1 + 1 + 1 + 1 + 1 + 1 + 1 + 1]? = some (.cells #[.slice (some ⟨w0.heap.size, 0, none⟩) 1 1, .slice (some ⟨w0.heap.size + 1, 0, none⟩) 2 2, .int .i64 0, .int .i64 2, .int .i64 2] 29 (0, 0)) := by
    rw [hUa]
    exact allocs_get w0 _ 9 _ rfl
  have HBL : Hid (U.heap[w0.heap.size]? = some (.cells #[.string ⟨#[120]⟩] 9 (0, 0)) ∧ U.heap[w0.heap.size + 1]? = some (.cells #[.int .i64 1, .int .i64 0, .int .i64 17, .int .i64 0] 26 (0, 0)) ∧ U.heap[w0.heap.size + 1 + 1]? = some (.cells #[.slice (some ⟨w0.heap.size, 0, none⟩) 1 1, .slice (some ⟨w0.heap.size + 1, 0, none⟩) 2 2, .int .i64 0, .int .i64 2, .int .i64 2] 29 (0, 0)) ∧ U.heap[w0.heap.size + 1 + 1 + 1]? = some (.cells #[.slice (some ⟨w0.heap.size, 0, none⟩) 1 1, .slice (some ⟨w0.heap.size + 1 + 1 + 1 + 1, 0, none⟩) 1 1, .int .i64 0, .int .i64 1, .int .i64 1] 29 (0, 0)) ∧ U.heap[w0.heap.size + 1 + 1 + 1 + 1]? = some (.cells #[.int .i64 17, .int .i64 0] 26 (0, 0)) ∧ U.heap[w0.heap.size + 1 + 1 + 1 + 1 + 1]? = some (.cells #[.slice (some ⟨w0.heap.size, 0, none⟩) 1 1, .slice (some ⟨w0.heap.size + 1 + 1 + 1 + 1 + 1 + 1, 0, none⟩) 1 1, .int .i64 0, .int .i64 1, .int .i64 1] 29 (0, 0)) ∧ U.heap[w0.heap.size + 1 + 1 + 1 + 1 + 1 + 1]? = some (.cells #[.int .i64 1, .int .i64 0] 26 (0, 0)) ∧ U.heap[w0.heap.size + 1 + 1 + 1 + 1 + 1 + 1 + 1]? = some (.cells #[.slice (some ⟨w0.heap.size, 0, none⟩) 1 1, .slice (some ⟨w0.heap.size + 1 + 1 + 1 + 1 + 1 + 1 + 1 + 1, 0, none⟩) 2 2, .int .i64 0, .int .i64 2, .int .i64 2] 29 (0, 0)) ∧ U.heap[w0.heap.size + 1 + 1 + 1 + 1 + 1 + 1 + 1 + 1]? = some (.cells #[.int .i64 1, .int .i64 0, .int .i64 21, .int .i64 0] 26 (0, 0)) ∧ U.heap[w0.heap.size + 1 + 1 + 1 + 1 + 1 + 1 + 1 + 1 + 1]? = some (.cells #[.slice (some ⟨w0.heap.size, 0, none⟩) 1 1, .slice (some ⟨w0.heap.size + 1, 0, none⟩) 2 2, .int .i64 0, .int .i64 2, .int .i64 2] 29 (0, 0))) := ⟨B0, B1, B2, B3, B4, B5, B6, B7, B8, B9⟩
  clear B0 B1 B2 B3 B4 B5 B6 B7 B8 B9 hUa
  rw [← hU]
  clear hU
  refine (drawPlaces_any ad n cap U hn (HC.out.keep HBU.out)).mono ?_
  rintro e w2 ⟨g, c, zs, -, hlt, rfl, hgu, hgl, hcell, b2⟩
  have hc0 := hcell 0 (by omega)
  have hp0 := hlt 0
  generalize zs.getD 0 0 = p0 at *
  have HB2 : Hid (Below U.heap.size U w2) := b2
  have hs2 := b2.size
  clear hcell hlt b2 HC
  have B9 := (HB2.out.block (w0.heap.size + 1 + 1 + 1 + 1 + 1 + 1 + 1 + 1 + 1) (by omega)).trans HBL.out.2.2.2.2.2.2.2.2.2
  have f1 := blk_free B9 1
  have f0 := blk_cell B9 1
  simp only [List.getElem?_toArray, List.getElem?_cons_zero, List.getElem?_cons_succ] at f0
  have hg0 : g ≠ w0.heap.size + 1 + 1 + 1 + 1 + 1 + 1 + 1 + 1 + 1 := by omega
  obtain ⟨Z, hZ⟩ : ∃ Z : Int, Z = 1 + (p0 : Int) % 200 := ⟨_, rfl⟩
  have hZ1 : 1 ≤ Z := by omega
  have hZ2 : Z ≤ 200 := by omega
  have hZe : 1 + (p0 : Int) % 200 = Z := hZ.symm
  clear hZ B9
  have e9 := (((Below.refl w2.heap.size w2).alloc (Nat.le_refl _) (.cells #[.int .i64 1, .int .i64 0, .int .i64 17, .int .i64 Z] 26)).block (w0.heap.size + 1 + 1 + 1 + 1 + 1 + 1 + 1 + 1 + 1) (by omega)).trans ((HB2.out.block (w0.heap.size + 1 + 1 + 1 + 1 + 1 + 1 + 1 + 1 + 1) (by omega)).trans HBL.out.2.2.2.2.2.2.2.2.2)
  have k1 := blk_free e9 1
  have k0 := blk_cell e9 1
  simp only [List.getElem?_toArray, List.getElem?_cons_zero, List.getElem?_cons_succ] at k0
  clear e9
  obtain ⟨U2, hU2⟩ : ∃ U2, U2 = (w2.alloc (.cells #[.int .i64 1, .int .i64 0, .int .i64 17, .int .i64 Z] 26)).setCell ⟨w0.heap.size + 1 + 1 + 1 + 1 + 1 + 1 + 1 + 1 + 1, 1, none⟩ (.slice (some ⟨w2.heap.size, 0, none⟩) 2 2) := ⟨_, rfl⟩
  have hs3 : U2.heap.size = w2.heap.size + 1 := by rw [hU2]; simp [World.setCell]
  have HO : Hid (∀ j X, j ≠ w0.heap.size + 1 + 1 + 1 + 1 + 1 + 1 + 1 + 1 + 1 → j < U.heap.size → U.heap[j]? = X → U2.heap[j]? = X) := fun j X h1 h2 h3 => by
    rw [hU2, Below.heap_setCell _ _ _ _ (by exact h1), ((Below.refl w2.heap.size w2).alloc (Nat.le_refl _) _).block j (by omega), HB2.out.block j h2]
    exact h3
  have HF9 : Hid (U2.heap[w0.heap.size + 1 + 1 + 1 + 1 + 1 + 1 + 1 + 1 + 1]? = some (.cells #[.slice (some ⟨w0.heap.size, 0, none⟩) 1 1, .slice (some ⟨w2.heap.size, 0, none⟩) 2 2, .int .i64 0, .int .i64 2, .int .i64 2] 29 (0, 0))) := by
    show _ = _
    rw [hU2]
    have e := (((Below.refl w2.heap.size w2).alloc (Nat.le_refl _) (.cells #[.int .i64 1, .int .i64 0, .int .i64 17, .int .i64 Z] 26)).block (w0.heap.size + 1 + 1 + 1 + 1 + 1 + 1 + 1 + 1 + 1) (by omega)).trans ((HB2.out.block (w0.heap.size + 1 + 1 + 1 + 1 + 1 + 1 + 1 + 1 + 1) (by omega)).trans HBL.out.2.2.2.2.2.2.2.2.2)
    rw [blk_set e 1 _]
    rfl
  have HF10 : Hid (U2.heap[w2.heap.size]? = some (.cells #[.int .i64 1, .int .i64 0, .int .i64 17, .int .i64 Z] 26 (0, 0))) := by
    show _ = _
    rw [hU2, Below.heap_setCell _ _ _ _ (by show w2.heap.size ≠ w0.heap.size + 1 + 1 + 1 + 1 + 1 + 1 + 1 + 1 + 1; omega)]
    exact heap_alloc_new _ _
  have HBE : Hid (∀ W, Below U2.heap.size U2 W → Below w0.heap.size w0 W) := fun W hb => by
    refine Below.trans ?_ (hb.mono (by omega))
    rw [hU2]
    exact ((HBU.out.trans (HB2.out.mono (by omega))).alloc (by omega) _).setCell (by show w0.heap.size ≤ w0.heap.size + 1 + 1 + 1 + 1 + 1 + 1 + 1 + 1 + 1; omega) _
  have HTS : Hid (∀ W, Below U2.heap.size U2 W → TsAt W (.slice (some ⟨w0.heap.size, 0, none⟩) 1 1) [Br.x]) := fun W hb => TsBlk.at (ts := [Br.x]) ((hb.block _ (by omega)).trans (HO.out (w0.heap.size) _ (by omega) (by omega) HBL.out.1)) 1
  have Ca : Hid (∀ W, Below U2.heap.size U2 W → Calls Try.prog 6 #[.agg #[.slice (some ⟨w0.heap.size, 0, none⟩) 1 1, .slice (some ⟨w0.heap.size + 1, 0, none⟩) 2 2, .int .i64 0, .int .i64 2, .int .i64 2]] W fun e w' => e = .returned (.bool true) ∧ Below W.heap.size W w') := fun W hb => by
    have hI : InsAt W (.slice (some ⟨w0.heap.size + 1, 0, none⟩) 2 2) ([⟨1, 0⟩, ⟨17, 0⟩] : List Ins) := insLit ([⟨1, 0⟩, ⟨17, 0⟩] : List Ins) ((hb.block _ (by omega)).trans (HO.out (w0.heap.size + 1) _ (by omega) (by omega) HBL.out.2.1)) rfl
    have := implCodeOk _ _ 0 2 2 [Br.x] ([⟨1, 0⟩, ⟨17, 0⟩] : List Ins) W (HTS.out W hb) hI Br.small (by simp) (by simp)
    rw [Br.ok_a] at this
    exact this
  have Fa : Hid (∀ W, Below U2.heap.size U2 W → W.heap[w0.heap.size + 1 + 1]? = some (.cells #[.slice (some ⟨w0.heap.size, 0, none⟩) 1 1, .slice (some ⟨w0.heap.size + 1, 0, none⟩) 2 2, .int .i64 0, .int .i64 2, .int .i64 2] 29 (0, 0))) := fun W hb => (hb.block _ (by omega)).trans (HO.out (w0.heap.size + 1 + 1) _ (by omega) (by omega) HBL.out.2.2.1)
  have Cb : Hid (∀ W, Below U2.heap.size U2 W → Calls Try.prog 6 #[.agg #[.slice (some ⟨w0.heap.size, 0, none⟩) 1 1, .slice (some ⟨w0.heap.size + 1 + 1 + 1 + 1, 0, none⟩) 1 1, .int .i64 0, .int .i64 1, .int .i64 1]] W fun e w' => e = .returned (.bool false) ∧ Below W.heap.size W w') := fun W hb => by
    have hI : InsAt W (.slice (some ⟨w0.heap.size + 1 + 1 + 1 + 1, 0, none⟩) 1 1) ([⟨17, 0⟩] : List Ins) := insLit ([⟨17, 0⟩] : List Ins) ((hb.block _ (by omega)).trans (HO.out (w0.heap.size + 1 + 1 + 1 + 1) _ (by omega) (by omega) HBL.out.2.2.2.2.1)) rfl
    have := implCodeOk _ _ 0 1 1 [Br.x] ([⟨17, 0⟩] : List Ins) W (HTS.out W hb) hI Br.small (by simp) (by simp)
    rw [Br.ok_b] at this
    exact this
  have Fb : Hid (∀ W, Below U2.heap.size U2 W → W.heap[w0.heap.size + 1 + 1 + 1]? = some (.cells #[.slice (some ⟨w0.heap.size, 0, none⟩) 1 1, .slice (some ⟨w0.heap.size + 1 + 1 + 1 + 1, 0, none⟩) 1 1, .int .i64 0, .int .i64 1, .int .i64 1] 29 (0, 0))) := fun W hb => (hb.block _ (by omega)).trans (HO.out (w0.heap.size + 1 + 1 + 1) _ (by omega) (by omega) HBL.out.2.2.2.1)
  have Cd : Hid (∀ W, Below U2.heap.size U2 W → Calls Try.prog 6 #[.agg #[.slice (some ⟨w0.heap.size, 0, none⟩) 1 1, .slice (some ⟨w0.heap.size + 1 + 1 + 1 + 1 + 1 + 1, 0, none⟩) 1 1, .int .i64 0, .int .i64 1, .int .i64 1]] W fun e w' => e = .returned (.bool false) ∧ Below W.heap.size W w') := fun W hb => by
    have hI : InsAt W (.slice (some ⟨w0.heap.size + 1 + 1 + 1 + 1 + 1 + 1, 0, none⟩) 1 1) ([⟨1, 0⟩] : List Ins) := insLit ([⟨1, 0⟩] : List Ins) ((hb.block _ (by omega)).trans (HO.out (w0.heap.size + 1 + 1 + 1 + 1 + 1 + 1) _ (by omega) (by omega) HBL.out.2.2.2.2.2.2.1)) rfl
    have := implCodeOk _ _ 0 1 1 [Br.x] ([⟨1, 0⟩] : List Ins) W (HTS.out W hb) hI Br.small (by simp) (by simp)
    rw [Br.ok_d] at this
    exact this
  have Fd : Hid (∀ W, Below U2.heap.size U2 W → W.heap[w0.heap.size + 1 + 1 + 1 + 1 + 1]? = some (.cells #[.slice (some ⟨w0.heap.size, 0, none⟩) 1 1, .slice (some ⟨w0.heap.size + 1 + 1 + 1 + 1 + 1 + 1, 0, none⟩) 1 1, .int .i64 0, .int .i64 1, .int .i64 1] 29 (0, 0))) := fun W hb => (hb.block _ (by omega)).trans (HO.out (w0.heap.size + 1 + 1 + 1 + 1 + 1) _ (by omega) (by omega) HBL.out.2.2.2.2.2.1)
  have Ce : Hid (∀ W, Below U2.heap.size U2 W → Calls Try.prog 6 #[.agg #[.slice (some ⟨w0.heap.size, 0, none⟩) 1 1, .slice (some ⟨w0.heap.size + 1 + 1 + 1 + 1 + 1 + 1 + 1 + 1, 0, none⟩) 2 2, .int .i64 0, .int .i64 2, .int .i64 2]] W fun e w' => e = .returned (.bool false) ∧ Below W.heap.size W w') := fun W hb => by
    have hI : InsAt W (.slice (some ⟨w0.heap.size + 1 + 1 + 1 + 1 + 1 + 1 + 1 + 1, 0, none⟩) 2 2) ([⟨1, 0⟩, ⟨21, 0⟩] : List Ins) := insLit ([⟨1, 0⟩, ⟨21, 0⟩] : List Ins) ((hb.block _ (by omega)).trans (HO.out (w0.heap.size + 1 + 1 + 1 + 1 + 1 + 1 + 1 + 1) _ (by omega) (by omega) HBL.out.2.2.2.2.2.2.2.2.1)) rfl
    have := implCodeOk _ _ 0 2 2 [Br.x] ([⟨1, 0⟩, ⟨21, 0⟩] : List Ins) W (HTS.out W hb) hI Br.small (by simp) (by simp)
    rw [Br.ok_e] at this
    exact this
  have Fe : Hid (∀ W, Below U2.heap.size U2 W → W.heap[w0.heap.size + 1 + 1 + 1 + 1 + 1 + 1 + 1]? = some (.cells #[.slice (some ⟨w0.heap.size, 0, none⟩) 1 1, .slice (some ⟨w0.heap.size + 1 + 1 + 1 + 1 + 1 + 1 + 1 + 1, 0, none⟩) 2 2, .int .i64 0, .int .i64 2, .int .i64 2] 29 (0, 0))) := fun W hb => (hb.block _ (by omega)).trans (HO.out (w0.heap.size + 1 + 1 + 1 + 1 + 1 + 1 + 1) _ (by omega) (by omega) HBL.out.2.2.2.2.2.2.2.1)
  have Cf : Hid (∀ W, Below U2.heap.size U2 W → Calls Try.prog 6 #[.agg #[.slice (some ⟨w0.heap.size, 0, none⟩) 1 1, .slice (some ⟨w2.heap.size, 0, none⟩) 2 2, .int .i64 0, .int .i64 2, .int .i64 2]] W fun e w' => e = .returned (.bool false) ∧ Below W.heap.size W w') := fun W hb => by
    have hI : InsAt W (.slice (some ⟨w2.heap.size, 0, none⟩) 2 2) ([⟨1, 0⟩, ⟨17, Z⟩] : List Ins) := insLit ([⟨1, 0⟩, ⟨17, Z⟩] : List Ins) ((hb.block _ (by omega)).trans (HF10.out)) rfl
    have := implCodeOk _ _ 0 2 2 [Br.x] ([⟨1, 0⟩, ⟨17, Z⟩] : List Ins) W (HTS.out W hb) hI Br.small (by simp) (by simp)
    rw [Br.ok_f Z hZ1] at this
    exact this
  have Ff : Hid (∀ W, Below U2.heap.size U2 W → W.heap[w0.heap.size + 1 + 1 + 1 + 1 + 1 + 1 + 1 + 1 + 1]? = some (.cells #[.slice (some ⟨w0.heap.size, 0, none⟩) 1 1, .slice (some ⟨w2.heap.size, 0, none⟩) 2 2, .int .i64 0, .int .i64 2, .int .i64 2] 29 (0, 0))) := fun W hb => (hb.block _ (by omega)).trans (HF9.out)
  have C0 : Hid (∀ W, Calls Try.prog 6 #[.agg #[.slice none 0 0, .slice none 0 0, .int .i64 0, .int .i64 0, .int .i64 0]] W fun e w' => e = .returned (.bool true) ∧ Below W.heap.size W w') := fun W => by
    have := implCodeOk (.slice none 0 0) (.slice none 0 0) 0 0 0 [] [] W ⟨none, 0, rfl, fun h => by simp at h⟩ ⟨none, 0, rfl, fun h => by simp at h⟩ (fun i hi => by simp at hi) (by simp) (by simp)
    rw [Br.ok_0] at this
    exact this
  clear HO HF9 HF10 HBL HTS HB2 HBU
  have z := Fa.out U2 (Below.refl _ _)
  rw [hU2] at z
  have z0 := blk_cell z 0
  have z1 := blk_cell z 1
  have z2 := blk_cell z 2
  have z3 := blk_cell z 3
  have z4 := blk_cell z 4
  simp only [List.getElem?_toArray, List.getElem?_cons_zero, List.getElem?_cons_succ] at z0 z1 z2 z3 z4
  clear z
  have HU2 : Hid (U2 = (w2.alloc (.cells #[.int .i64 1, .int .i64 0, .int .i64 17, .int .i64 Z] 26)).setCell ⟨w0.heap.size + 1 + 1 + 1 + 1 + 1 + 1 + 1 + 1 + 1, 1, none⟩ (.slice (some ⟨w2.heap.size, 0, none⟩) 2 2)) := hU2
  clear hU2
  go_wp2_with fail
  rw [← HU2.out]
  refine (Ca.out _ (Below.refl _ _)).mono ?_
  rintro e w3 ⟨rfl, hb3⟩
  have H3 : Hid (Below U2.heap.size U2 w3) := hb3
  clear hb3 z0 z1 z2 z3 z4 Ca Fa HU2 hc0 f0 f1 k0 k1
  have z := Fb.out w3 H3.out
  have z0 := blk_cell z 0
  have z1 := blk_cell z 1
  have z2 := blk_cell z 2
  have z3 := blk_cell z 3
  have z4 := blk_cell z 4
  simp only [List.getElem?_toArray, List.getElem?_cons_zero, List.getElem?_cons_succ] at z0 z1 z2 z3 z4
  clear z
  go_wp2_with fail
  refine (Cb.out _ H3.out).mono ?_
  rintro e w4 ⟨rfl, hb4⟩
  have H4 : Hid (Below U2.heap.size U2 w4) := H3.out.trans (hb4.mono H3.out.size)
  clear hb4 z0 z1 z2 z3 z4 Cb Fb H3
  have z := Fd.out w4 H4.out
  have z0 := blk_cell z 0
  have z1 := blk_cell z 1
  have z2 := blk_cell z 2
  have z3 := blk_cell z 3
  have z4 := blk_cell z 4
  simp only [List.getElem?_toArray, List.getElem?_cons_zero, List.getElem?_cons_succ] at z0 z1 z2 z3 z4
  clear z
  go_wp2_with fail
  refine (Cd.out _ H4.out).mono ?_
  rintro e w5 ⟨rfl, hb5⟩
  have H5 : Hid (Below U2.heap.size U2 w5) := H4.out.trans (hb5.mono H4.out.size)
  clear hb5 z0 z1 z2 z3 z4 Cd Fd H4
  have z := Fe.out w5 H5.out
  have z0 := blk_cell z 0
  have z1 := blk_cell z 1
  have z2 := blk_cell z 2
  have z3 := blk_cell z 3
  have z4 := blk_cell z 4
  simp only [List.getElem?_toArray, List.getElem?_cons_zero, List.getElem?_cons_succ] at z0 z1 z2 z3 z4
  clear z
  go_wp2_with fail
  refine (Ce.out _ H5.out).mono ?_
  rintro e w6 ⟨rfl, hb6⟩
  have H6 : Hid (Below U2.heap.size U2 w6) := H5.out.trans (hb6.mono H5.out.size)
  clear hb6 z0 z1 z2 z3 z4 Ce Fe H5
  have z := Ff.out w6 H6.out
  have z0 := blk_cell z 0
  have z1 := blk_cell z 1
  have z2 := blk_cell z 2
  have z3 := blk_cell z 3
  have z4 := blk_cell z 4
  simp only [List.getElem?_toArray, List.getElem?_cons_zero, List.getElem?_cons_succ] at z0 z1 z2 z3 z4
  clear z
  go_wp2_with fail
  refine (Cf.out _ H6.out).mono ?_
  rintro e w7 ⟨rfl, hb7⟩
  have H7 : Hid (Below U2.heap.size U2 w7) := H6.out.trans (hb7.mono H6.out.size)
  clear hb7 z0 z1 z2 z3 z4 Cf Ff H6
  go_wp2_with fail
  refine (C0.out _).mono ?_
  rintro e w8 ⟨rfl, hb8⟩
  have H8 : Hid (Below w0.heap.size w0 w8) := HBE.out _ (H7.out.trans (hb8.mono H7.out.size))
  clear hb8 C0
  go_wp2
  go_ret
  exact ⟨rfl, H8.out⟩
#print axioms lawBroken
end Go.Proofs.Ythbblocllicmiad
