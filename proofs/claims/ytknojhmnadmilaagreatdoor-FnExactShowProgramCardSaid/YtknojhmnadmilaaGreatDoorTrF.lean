/- Trees: the tree of a node, its kids being trees. -/
import Derived.Test.YtknojhmnadmilaaGreatDoorTrC
namespace Go.Proofs.YtknojhmnadmilaaGreatDoor
open Go.RowKit

/-- The tree of an expression's node. -/
def exTree (op : Int) (t : ByteArray) (kt : List (TypeId × Value)) : TypeId × Value :=
  if op = 1 then (78, .agg #[.string t])
  else if op = 2 then (80, .agg #[.string t])
  else if op = 3 then (82, .agg #[.string t])
  else if op = 4 then (84, .agg #[.string t, tv (kt.getD 0 tno)])
  else if op = 5 then (87, .agg #[tv (kt.getD 0 tno)])
  else if op = 6 then (89, .agg #[])
  else if op = 7 then (90, .agg #[])
  else if op = 8 then (91, .agg #[tv (kt.getD 0 tno)])
  else if op = 16 then (96, .agg #[tv (kt.getD 0 tno), .string t])
  else (93, .agg #[.int .i64 op, tv (kt.getD 0 tno), tv (kt.getD 1 tno)])
/-- The tree of a statement's node; v is the row of its kids. -/
def stTree (op : Int) (t : ByteArray) (v : Value) (kt : List (TypeId × Value)) : TypeId × Value :=
  if op = 17 then (108, .agg #[v])
  else if op = 18 ∨ op = 19 then (110, .agg #[.int .i64 op, .string t, tv (kt.getD 0 tno)])
  else if op = 20 ∨ op = 21 then (112, .agg #[.int .i64 op, .string t, tv (kt.getD 0 tno), tv (kt.getD 1 tno)])
  else if op = 22 then (114, .agg #[tv (kt.getD 0 tno), tv (kt.getD 1 tno), if 2 < kt.length then tv (kt.getD 2 tno) else .nilIface])
  else if op = 24 then (116, .agg #[v])
  else if op = 25 then (117, .agg #[.string t])
  else (118, .agg #[])

set_option maxRecDepth 100000 in
set_option maxHeartbeats 1600000 in
theorem exOf1 {X : Nat} (t : ByteArray) (na : Option Addr) (nl nc : Nat) (v : Value) (kt : List (TypeId × Value)) (w : World) (h : TreesAt X w v kt) :
    Calls Tryz.prog 35 #[.agg #[.int .i64 1, .string t, .slice na nl nc], v] w fun e w' => e = .returned (tv (exTree 1 t kt)) ∧ Below w.heap.size w w' := by
  obtain ⟨a, c, rfl, f⟩ := h
  have HB : Hid (Below w.heap.size w (w.alloc (.cells #[.int .i64 1, .string t, .slice na nl nc] 67))) := (Below.refl _ _).alloc (Nat.le_refl _) _
  have eT : exTree 1 t kt = (78, .agg #[.string t]) := by simp [exTree]
  rw [eT]
  unfold tv
  clear f eT
  go_enter Tryz.func35, Tryz.ntmps35
  go_wp2

  go_ret
  first
    | exact ⟨rfl, HB.out⟩
    | exact ⟨rfl, HB.out.alloc (by simp) _⟩
    | exact ⟨rfl, below_drewN HB.out _⟩

set_option maxRecDepth 100000 in
set_option maxHeartbeats 1600000 in
theorem exOf2 {X : Nat} (t : ByteArray) (na : Option Addr) (nl nc : Nat) (v : Value) (kt : List (TypeId × Value)) (w : World) (h : TreesAt X w v kt) :
    Calls Tryz.prog 35 #[.agg #[.int .i64 2, .string t, .slice na nl nc], v] w fun e w' => e = .returned (tv (exTree 2 t kt)) ∧ Below w.heap.size w w' := by
  obtain ⟨a, c, rfl, f⟩ := h
  have HB : Hid (Below w.heap.size w (w.alloc (.cells #[.int .i64 2, .string t, .slice na nl nc] 67))) := (Below.refl _ _).alloc (Nat.le_refl _) _
  have eT : exTree 2 t kt = (80, .agg #[.string t]) := by simp [exTree]
  rw [eT]
  unfold tv
  clear f eT
  go_enter Tryz.func35, Tryz.ntmps35
  go_wp2

  go_ret
  first
    | exact ⟨rfl, HB.out⟩
    | exact ⟨rfl, HB.out.alloc (by simp) _⟩
    | exact ⟨rfl, below_drewN HB.out _⟩

set_option maxRecDepth 100000 in
set_option maxHeartbeats 1600000 in
theorem exOf3 {X : Nat} (t : ByteArray) (na : Option Addr) (nl nc : Nat) (v : Value) (kt : List (TypeId × Value)) (w : World) (h : TreesAt X w v kt) :
    Calls Tryz.prog 35 #[.agg #[.int .i64 3, .string t, .slice na nl nc], v] w fun e w' => e = .returned (tv (exTree 3 t kt)) ∧ Below w.heap.size w w' := by
  obtain ⟨a, c, rfl, f⟩ := h
  have HB : Hid (Below w.heap.size w (w.alloc (.cells #[.int .i64 3, .string t, .slice na nl nc] 67))) := (Below.refl _ _).alloc (Nat.le_refl _) _
  have eT : exTree 3 t kt = (82, .agg #[.string t]) := by simp [exTree]
  rw [eT]
  unfold tv
  clear f eT
  go_enter Tryz.func35, Tryz.ntmps35
  go_wp2

  go_ret
  first
    | exact ⟨rfl, HB.out⟩
    | exact ⟨rfl, HB.out.alloc (by simp) _⟩
    | exact ⟨rfl, below_drewN HB.out _⟩

set_option maxRecDepth 100000 in
set_option maxHeartbeats 1600000 in
theorem exOf4 {X : Nat} (t : ByteArray) (na : Option Addr) (nl nc : Nat) (v : Value) (kt : List (TypeId × Value)) (w : World) (h : TreesAt X w v kt) (hk : kt.length = 1) :
    Calls Tryz.prog 35 #[.agg #[.int .i64 4, .string t, .slice na nl nc], v] w fun e w' => e = .returned (tv (exTree 4 t kt)) ∧ Below w.heap.size w w' := by
  obtain ⟨a, c, rfl, f⟩ := h
  obtain ⟨b, o, rfl, -, hb, hc⟩ := f (by omega)
  have HB : Hid (Below w.heap.size w (w.alloc (.cells #[.int .i64 4, .string t, .slice na nl nc] 67))) := (Below.refl _ _).alloc (Nat.le_refl _) _
  have c0 := (HB.out.cell hb).trans (hc 0 (by omega))
  rw [Nat.add_zero] at c0
  rw [hk]
  have eT : exTree 4 t kt = (84, .agg #[.string t, tv (kt.getD 0 tno)]) := by simp [exTree]
  rw [eT]
  obtain ⟨T0, x0, h0⟩ : ∃ T x, kt.getD 0 tno = (T, x) := ⟨_, _, rfl⟩
  rw [h0] at c0 ⊢
  unfold tv at c0 ⊢
  simp only at c0 ⊢
  clear hc f eT h0
  go_enter Tryz.func35, Tryz.ntmps35
  go_wp2_with fail
  go_quiet (fail)
  go_wp2

  go_ret
  first
    | exact ⟨rfl, HB.out⟩
    | exact ⟨rfl, HB.out.alloc (by simp) _⟩
    | exact ⟨rfl, below_drewN HB.out _⟩

set_option maxRecDepth 100000 in
set_option maxHeartbeats 1600000 in
theorem exOf5 {X : Nat} (t : ByteArray) (na : Option Addr) (nl nc : Nat) (v : Value) (kt : List (TypeId × Value)) (w : World) (h : TreesAt X w v kt) (hk : kt.length = 1) :
    Calls Tryz.prog 35 #[.agg #[.int .i64 5, .string t, .slice na nl nc], v] w fun e w' => e = .returned (tv (exTree 5 t kt)) ∧ Below w.heap.size w w' := by
  obtain ⟨a, c, rfl, f⟩ := h
  obtain ⟨b, o, rfl, -, hb, hc⟩ := f (by omega)
  have HB : Hid (Below w.heap.size w (w.alloc (.cells #[.int .i64 5, .string t, .slice na nl nc] 67))) := (Below.refl _ _).alloc (Nat.le_refl _) _
  have c0 := (HB.out.cell hb).trans (hc 0 (by omega))
  rw [Nat.add_zero] at c0
  rw [hk]
  have eT : exTree 5 t kt = (87, .agg #[tv (kt.getD 0 tno)]) := by simp [exTree]
  rw [eT]
  obtain ⟨T0, x0, h0⟩ : ∃ T x, kt.getD 0 tno = (T, x) := ⟨_, _, rfl⟩
  rw [h0] at c0 ⊢
  unfold tv at c0 ⊢
  simp only at c0 ⊢
  clear hc f eT h0
  go_enter Tryz.func35, Tryz.ntmps35
  go_wp2

  go_ret
  first
    | exact ⟨rfl, HB.out⟩
    | exact ⟨rfl, HB.out.alloc (by simp) _⟩
    | exact ⟨rfl, below_drewN HB.out _⟩

set_option maxRecDepth 100000 in
set_option maxHeartbeats 1600000 in
theorem exOf6 {X : Nat} (t : ByteArray) (na : Option Addr) (nl nc : Nat) (v : Value) (kt : List (TypeId × Value)) (w : World) (h : TreesAt X w v kt) :
    Calls Tryz.prog 35 #[.agg #[.int .i64 6, .string t, .slice na nl nc], v] w fun e w' => e = .returned (tv (exTree 6 t kt)) ∧ Below w.heap.size w w' := by
  obtain ⟨a, c, rfl, f⟩ := h
  have HB : Hid (Below w.heap.size w (w.alloc (.cells #[.int .i64 6, .string t, .slice na nl nc] 67))) := (Below.refl _ _).alloc (Nat.le_refl _) _
  have eT : exTree 6 t kt = (89, .agg #[]) := by simp [exTree]
  rw [eT]
  unfold tv
  clear f eT
  go_enter Tryz.func35, Tryz.ntmps35
  go_wp2

  go_ret
  first
    | exact ⟨rfl, HB.out⟩
    | exact ⟨rfl, HB.out.alloc (by simp) _⟩
    | exact ⟨rfl, below_drewN HB.out _⟩

set_option maxRecDepth 100000 in
set_option maxHeartbeats 1600000 in
theorem exOf7 {X : Nat} (t : ByteArray) (na : Option Addr) (nl nc : Nat) (v : Value) (kt : List (TypeId × Value)) (w : World) (h : TreesAt X w v kt) :
    Calls Tryz.prog 35 #[.agg #[.int .i64 7, .string t, .slice na nl nc], v] w fun e w' => e = .returned (tv (exTree 7 t kt)) ∧ Below w.heap.size w w' := by
  obtain ⟨a, c, rfl, f⟩ := h
  have HB : Hid (Below w.heap.size w (w.alloc (.cells #[.int .i64 7, .string t, .slice na nl nc] 67))) := (Below.refl _ _).alloc (Nat.le_refl _) _
  have eT : exTree 7 t kt = (90, .agg #[]) := by simp [exTree]
  rw [eT]
  unfold tv
  clear f eT
  go_enter Tryz.func35, Tryz.ntmps35
  go_wp2

  go_ret
  first
    | exact ⟨rfl, HB.out⟩
    | exact ⟨rfl, HB.out.alloc (by simp) _⟩
    | exact ⟨rfl, below_drewN HB.out _⟩

set_option maxRecDepth 100000 in
set_option maxHeartbeats 1600000 in
theorem exOf8 {X : Nat} (t : ByteArray) (na : Option Addr) (nl nc : Nat) (v : Value) (kt : List (TypeId × Value)) (w : World) (h : TreesAt X w v kt) (hk : kt.length = 1) :
    Calls Tryz.prog 35 #[.agg #[.int .i64 8, .string t, .slice na nl nc], v] w fun e w' => e = .returned (tv (exTree 8 t kt)) ∧ Below w.heap.size w w' := by
  obtain ⟨a, c, rfl, f⟩ := h
  obtain ⟨b, o, rfl, -, hb, hc⟩ := f (by omega)
  have HB : Hid (Below w.heap.size w (w.alloc (.cells #[.int .i64 8, .string t, .slice na nl nc] 67))) := (Below.refl _ _).alloc (Nat.le_refl _) _
  have c0 := (HB.out.cell hb).trans (hc 0 (by omega))
  rw [Nat.add_zero] at c0
  rw [hk]
  have eT : exTree 8 t kt = (91, .agg #[tv (kt.getD 0 tno)]) := by simp [exTree]
  rw [eT]
  obtain ⟨T0, x0, h0⟩ : ∃ T x, kt.getD 0 tno = (T, x) := ⟨_, _, rfl⟩
  rw [h0] at c0 ⊢
  unfold tv at c0 ⊢
  simp only at c0 ⊢
  clear hc f eT h0
  go_enter Tryz.func35, Tryz.ntmps35
  go_wp2

  go_ret
  first
    | exact ⟨rfl, HB.out⟩
    | exact ⟨rfl, HB.out.alloc (by simp) _⟩
    | exact ⟨rfl, below_drewN HB.out _⟩

set_option maxRecDepth 100000 in
set_option maxHeartbeats 1600000 in
theorem exOf16 {X : Nat} (t : ByteArray) (na : Option Addr) (nl nc : Nat) (v : Value) (kt : List (TypeId × Value)) (w : World) (h : TreesAt X w v kt) (hk : kt.length = 1) :
    Calls Tryz.prog 35 #[.agg #[.int .i64 16, .string t, .slice na nl nc], v] w fun e w' => e = .returned (tv (exTree 16 t kt)) ∧ Below w.heap.size w w' := by
  obtain ⟨a, c, rfl, f⟩ := h
  obtain ⟨b, o, rfl, -, hb, hc⟩ := f (by omega)
  have HB : Hid (Below w.heap.size w (w.alloc (.cells #[.int .i64 16, .string t, .slice na nl nc] 67))) := (Below.refl _ _).alloc (Nat.le_refl _) _
  have c0 := (HB.out.cell hb).trans (hc 0 (by omega))
  rw [Nat.add_zero] at c0
  rw [hk]
  have eT : exTree 16 t kt = (96, .agg #[tv (kt.getD 0 tno), .string t]) := by simp [exTree]
  rw [eT]
  obtain ⟨T0, x0, h0⟩ : ∃ T x, kt.getD 0 tno = (T, x) := ⟨_, _, rfl⟩
  rw [h0] at c0 ⊢
  unfold tv at c0 ⊢
  simp only at c0 ⊢
  clear hc f eT h0
  go_enter Tryz.func35, Tryz.ntmps35
  go_wp2_with fail
  go_quiet (fail)
  go_wp2

  go_ret
  first
    | exact ⟨rfl, HB.out⟩
    | exact ⟨rfl, HB.out.alloc (by simp) _⟩
    | exact ⟨rfl, below_drewN HB.out _⟩

set_option maxRecDepth 100000 in
set_option maxHeartbeats 1600000 in
theorem exOf9 {X : Nat} (t : ByteArray) (na : Option Addr) (nl nc : Nat) (v : Value) (kt : List (TypeId × Value)) (w : World) (h : TreesAt X w v kt) (hk : kt.length = 2) :
    Calls Tryz.prog 35 #[.agg #[.int .i64 9, .string t, .slice na nl nc], v] w fun e w' => e = .returned (tv (exTree 9 t kt)) ∧ Below w.heap.size w w' := by
  obtain ⟨a, c, rfl, f⟩ := h
  obtain ⟨b, o, rfl, -, hb, hc⟩ := f (by omega)
  have HB : Hid (Below w.heap.size w (w.alloc (.cells #[.int .i64 9, .string t, .slice na nl nc] 67))) := (Below.refl _ _).alloc (Nat.le_refl _) _
  have c0 := (HB.out.cell hb).trans (hc 0 (by omega))
  have c1 := (HB.out.cell hb).trans (hc 1 (by omega))
  rw [Nat.add_zero] at c0
  rw [hk]
  have eT : exTree 9 t kt = (93, .agg #[.int .i64 9, tv (kt.getD 0 tno), tv (kt.getD 1 tno)]) := by simp [exTree]
  rw [eT]
  obtain ⟨T0, x0, h0⟩ : ∃ T x, kt.getD 0 tno = (T, x) := ⟨_, _, rfl⟩
  rw [h0] at c0 ⊢
  obtain ⟨T1, x1, h1⟩ : ∃ T x, kt.getD 1 tno = (T, x) := ⟨_, _, rfl⟩
  rw [h1] at c1 ⊢
  unfold tv at c0 c1 ⊢
  simp only at c0 c1 ⊢
  clear hc f eT h0 h1
  go_enter Tryz.func35, Tryz.ntmps35
  go_wp2_with fail
  go_quiet (fail)
  go_wp2

  go_ret
  first
    | exact ⟨rfl, HB.out⟩
    | exact ⟨rfl, HB.out.alloc (by simp) _⟩
    | exact ⟨rfl, below_drewN HB.out _⟩

set_option maxRecDepth 100000 in
set_option maxHeartbeats 1600000 in
theorem exOf10 {X : Nat} (t : ByteArray) (na : Option Addr) (nl nc : Nat) (v : Value) (kt : List (TypeId × Value)) (w : World) (h : TreesAt X w v kt) (hk : kt.length = 2) :
    Calls Tryz.prog 35 #[.agg #[.int .i64 10, .string t, .slice na nl nc], v] w fun e w' => e = .returned (tv (exTree 10 t kt)) ∧ Below w.heap.size w w' := by
  obtain ⟨a, c, rfl, f⟩ := h
  obtain ⟨b, o, rfl, -, hb, hc⟩ := f (by omega)
  have HB : Hid (Below w.heap.size w (w.alloc (.cells #[.int .i64 10, .string t, .slice na nl nc] 67))) := (Below.refl _ _).alloc (Nat.le_refl _) _
  have c0 := (HB.out.cell hb).trans (hc 0 (by omega))
  have c1 := (HB.out.cell hb).trans (hc 1 (by omega))
  rw [Nat.add_zero] at c0
  rw [hk]
  have eT : exTree 10 t kt = (93, .agg #[.int .i64 10, tv (kt.getD 0 tno), tv (kt.getD 1 tno)]) := by simp [exTree]
  rw [eT]
  obtain ⟨T0, x0, h0⟩ : ∃ T x, kt.getD 0 tno = (T, x) := ⟨_, _, rfl⟩
  rw [h0] at c0 ⊢
  obtain ⟨T1, x1, h1⟩ : ∃ T x, kt.getD 1 tno = (T, x) := ⟨_, _, rfl⟩
  rw [h1] at c1 ⊢
  unfold tv at c0 c1 ⊢
  simp only at c0 c1 ⊢
  clear hc f eT h0 h1
  go_enter Tryz.func35, Tryz.ntmps35
  go_wp2_with fail
  go_quiet (fail)
  go_wp2

  go_ret
  first
    | exact ⟨rfl, HB.out⟩
    | exact ⟨rfl, HB.out.alloc (by simp) _⟩
    | exact ⟨rfl, below_drewN HB.out _⟩

set_option maxRecDepth 100000 in
set_option maxHeartbeats 1600000 in
theorem exOf11 {X : Nat} (t : ByteArray) (na : Option Addr) (nl nc : Nat) (v : Value) (kt : List (TypeId × Value)) (w : World) (h : TreesAt X w v kt) (hk : kt.length = 2) :
    Calls Tryz.prog 35 #[.agg #[.int .i64 11, .string t, .slice na nl nc], v] w fun e w' => e = .returned (tv (exTree 11 t kt)) ∧ Below w.heap.size w w' := by
  obtain ⟨a, c, rfl, f⟩ := h
  obtain ⟨b, o, rfl, -, hb, hc⟩ := f (by omega)
  have HB : Hid (Below w.heap.size w (w.alloc (.cells #[.int .i64 11, .string t, .slice na nl nc] 67))) := (Below.refl _ _).alloc (Nat.le_refl _) _
  have c0 := (HB.out.cell hb).trans (hc 0 (by omega))
  have c1 := (HB.out.cell hb).trans (hc 1 (by omega))
  rw [Nat.add_zero] at c0
  rw [hk]
  have eT : exTree 11 t kt = (93, .agg #[.int .i64 11, tv (kt.getD 0 tno), tv (kt.getD 1 tno)]) := by simp [exTree]
  rw [eT]
  obtain ⟨T0, x0, h0⟩ : ∃ T x, kt.getD 0 tno = (T, x) := ⟨_, _, rfl⟩
  rw [h0] at c0 ⊢
  obtain ⟨T1, x1, h1⟩ : ∃ T x, kt.getD 1 tno = (T, x) := ⟨_, _, rfl⟩
  rw [h1] at c1 ⊢
  unfold tv at c0 c1 ⊢
  simp only at c0 c1 ⊢
  clear hc f eT h0 h1
  go_enter Tryz.func35, Tryz.ntmps35
  go_wp2_with fail
  go_quiet (fail)
  go_wp2

  go_ret
  first
    | exact ⟨rfl, HB.out⟩
    | exact ⟨rfl, HB.out.alloc (by simp) _⟩
    | exact ⟨rfl, below_drewN HB.out _⟩

set_option maxRecDepth 100000 in
set_option maxHeartbeats 1600000 in
theorem exOf12 {X : Nat} (t : ByteArray) (na : Option Addr) (nl nc : Nat) (v : Value) (kt : List (TypeId × Value)) (w : World) (h : TreesAt X w v kt) (hk : kt.length = 2) :
    Calls Tryz.prog 35 #[.agg #[.int .i64 12, .string t, .slice na nl nc], v] w fun e w' => e = .returned (tv (exTree 12 t kt)) ∧ Below w.heap.size w w' := by
  obtain ⟨a, c, rfl, f⟩ := h
  obtain ⟨b, o, rfl, -, hb, hc⟩ := f (by omega)
  have HB : Hid (Below w.heap.size w (w.alloc (.cells #[.int .i64 12, .string t, .slice na nl nc] 67))) := (Below.refl _ _).alloc (Nat.le_refl _) _
  have c0 := (HB.out.cell hb).trans (hc 0 (by omega))
  have c1 := (HB.out.cell hb).trans (hc 1 (by omega))
  rw [Nat.add_zero] at c0
  rw [hk]
  have eT : exTree 12 t kt = (93, .agg #[.int .i64 12, tv (kt.getD 0 tno), tv (kt.getD 1 tno)]) := by simp [exTree]
  rw [eT]
  obtain ⟨T0, x0, h0⟩ : ∃ T x, kt.getD 0 tno = (T, x) := ⟨_, _, rfl⟩
  rw [h0] at c0 ⊢
  obtain ⟨T1, x1, h1⟩ : ∃ T x, kt.getD 1 tno = (T, x) := ⟨_, _, rfl⟩
  rw [h1] at c1 ⊢
  unfold tv at c0 c1 ⊢
  simp only at c0 c1 ⊢
  clear hc f eT h0 h1
  go_enter Tryz.func35, Tryz.ntmps35
  go_wp2_with fail
  go_quiet (fail)
  go_wp2

  go_ret
  first
    | exact ⟨rfl, HB.out⟩
    | exact ⟨rfl, HB.out.alloc (by simp) _⟩
    | exact ⟨rfl, below_drewN HB.out _⟩

set_option maxRecDepth 100000 in
set_option maxHeartbeats 1600000 in
theorem exOf13 {X : Nat} (t : ByteArray) (na : Option Addr) (nl nc : Nat) (v : Value) (kt : List (TypeId × Value)) (w : World) (h : TreesAt X w v kt) (hk : kt.length = 2) :
    Calls Tryz.prog 35 #[.agg #[.int .i64 13, .string t, .slice na nl nc], v] w fun e w' => e = .returned (tv (exTree 13 t kt)) ∧ Below w.heap.size w w' := by
  obtain ⟨a, c, rfl, f⟩ := h
  obtain ⟨b, o, rfl, -, hb, hc⟩ := f (by omega)
  have HB : Hid (Below w.heap.size w (w.alloc (.cells #[.int .i64 13, .string t, .slice na nl nc] 67))) := (Below.refl _ _).alloc (Nat.le_refl _) _
  have c0 := (HB.out.cell hb).trans (hc 0 (by omega))
  have c1 := (HB.out.cell hb).trans (hc 1 (by omega))
  rw [Nat.add_zero] at c0
  rw [hk]
  have eT : exTree 13 t kt = (93, .agg #[.int .i64 13, tv (kt.getD 0 tno), tv (kt.getD 1 tno)]) := by simp [exTree]
  rw [eT]
  obtain ⟨T0, x0, h0⟩ : ∃ T x, kt.getD 0 tno = (T, x) := ⟨_, _, rfl⟩
  rw [h0] at c0 ⊢
  obtain ⟨T1, x1, h1⟩ : ∃ T x, kt.getD 1 tno = (T, x) := ⟨_, _, rfl⟩
  rw [h1] at c1 ⊢
  unfold tv at c0 c1 ⊢
  simp only at c0 c1 ⊢
  clear hc f eT h0 h1
  go_enter Tryz.func35, Tryz.ntmps35
  go_wp2_with fail
  go_quiet (fail)
  go_wp2

  go_ret
  first
    | exact ⟨rfl, HB.out⟩
    | exact ⟨rfl, HB.out.alloc (by simp) _⟩
    | exact ⟨rfl, below_drewN HB.out _⟩

set_option maxRecDepth 100000 in
set_option maxHeartbeats 1600000 in
theorem exOf14 {X : Nat} (t : ByteArray) (na : Option Addr) (nl nc : Nat) (v : Value) (kt : List (TypeId × Value)) (w : World) (h : TreesAt X w v kt) (hk : kt.length = 2) :
    Calls Tryz.prog 35 #[.agg #[.int .i64 14, .string t, .slice na nl nc], v] w fun e w' => e = .returned (tv (exTree 14 t kt)) ∧ Below w.heap.size w w' := by
  obtain ⟨a, c, rfl, f⟩ := h
  obtain ⟨b, o, rfl, -, hb, hc⟩ := f (by omega)
  have HB : Hid (Below w.heap.size w (w.alloc (.cells #[.int .i64 14, .string t, .slice na nl nc] 67))) := (Below.refl _ _).alloc (Nat.le_refl _) _
  have c0 := (HB.out.cell hb).trans (hc 0 (by omega))
  have c1 := (HB.out.cell hb).trans (hc 1 (by omega))
  rw [Nat.add_zero] at c0
  rw [hk]
  have eT : exTree 14 t kt = (93, .agg #[.int .i64 14, tv (kt.getD 0 tno), tv (kt.getD 1 tno)]) := by simp [exTree]
  rw [eT]
  obtain ⟨T0, x0, h0⟩ : ∃ T x, kt.getD 0 tno = (T, x) := ⟨_, _, rfl⟩
  rw [h0] at c0 ⊢
  obtain ⟨T1, x1, h1⟩ : ∃ T x, kt.getD 1 tno = (T, x) := ⟨_, _, rfl⟩
  rw [h1] at c1 ⊢
  unfold tv at c0 c1 ⊢
  simp only at c0 c1 ⊢
  clear hc f eT h0 h1
  go_enter Tryz.func35, Tryz.ntmps35
  go_wp2_with fail
  go_quiet (fail)
  go_wp2

  go_ret
  first
    | exact ⟨rfl, HB.out⟩
    | exact ⟨rfl, HB.out.alloc (by simp) _⟩
    | exact ⟨rfl, below_drewN HB.out _⟩

set_option maxRecDepth 100000 in
set_option maxHeartbeats 1600000 in
theorem exOf15 {X : Nat} (t : ByteArray) (na : Option Addr) (nl nc : Nat) (v : Value) (kt : List (TypeId × Value)) (w : World) (h : TreesAt X w v kt) (hk : kt.length = 2) :
    Calls Tryz.prog 35 #[.agg #[.int .i64 15, .string t, .slice na nl nc], v] w fun e w' => e = .returned (tv (exTree 15 t kt)) ∧ Below w.heap.size w w' := by
  obtain ⟨a, c, rfl, f⟩ := h
  obtain ⟨b, o, rfl, -, hb, hc⟩ := f (by omega)
  have HB : Hid (Below w.heap.size w (w.alloc (.cells #[.int .i64 15, .string t, .slice na nl nc] 67))) := (Below.refl _ _).alloc (Nat.le_refl _) _
  have c0 := (HB.out.cell hb).trans (hc 0 (by omega))
  have c1 := (HB.out.cell hb).trans (hc 1 (by omega))
  rw [Nat.add_zero] at c0
  rw [hk]
  have eT : exTree 15 t kt = (93, .agg #[.int .i64 15, tv (kt.getD 0 tno), tv (kt.getD 1 tno)]) := by simp [exTree]
  rw [eT]
  obtain ⟨T0, x0, h0⟩ : ∃ T x, kt.getD 0 tno = (T, x) := ⟨_, _, rfl⟩
  rw [h0] at c0 ⊢
  obtain ⟨T1, x1, h1⟩ : ∃ T x, kt.getD 1 tno = (T, x) := ⟨_, _, rfl⟩
  rw [h1] at c1 ⊢
  unfold tv at c0 c1 ⊢
  simp only at c0 c1 ⊢
  clear hc f eT h0 h1
  go_enter Tryz.func35, Tryz.ntmps35
  go_wp2_with fail
  go_quiet (fail)
  go_wp2

  go_ret
  first
    | exact ⟨rfl, HB.out⟩
    | exact ⟨rfl, HB.out.alloc (by simp) _⟩
    | exact ⟨rfl, below_drewN HB.out _⟩

set_option maxRecDepth 100000 in
set_option maxHeartbeats 1600000 in
theorem stOf17 {X : Nat} (t : ByteArray) (na : Option Addr) (nl nc : Nat) (v : Value) (kt : List (TypeId × Value)) (w : World) (h : TreesAt X w v kt) :
    Calls Tryz.prog 36 #[.agg #[.int .i64 17, .string t, .slice na nl nc], v] w fun e w' => e = .returned (tv (stTree 17 t v kt)) ∧ Below w.heap.size w w' := by
  obtain ⟨a, c, rfl, f⟩ := h
  have HB : Hid (Below w.heap.size w (w.alloc (.cells #[.int .i64 17, .string t, .slice na nl nc] 67))) := (Below.refl _ _).alloc (Nat.le_refl _) _
  have eT : stTree 17 t (.slice a kt.length c) kt = (108, .agg #[.slice a kt.length c]) := by simp [stTree]
  rw [eT]
  unfold tv
  clear f eT
  go_enter Tryz.func36, Tryz.ntmps36
  go_wp2

  go_ret
  first
    | exact ⟨rfl, HB.out⟩
    | exact ⟨rfl, HB.out.alloc (by simp) _⟩
    | exact ⟨rfl, below_drewN HB.out _⟩

set_option maxRecDepth 100000 in
set_option maxHeartbeats 1600000 in
theorem stOf18 {X : Nat} (t : ByteArray) (na : Option Addr) (nl nc : Nat) (v : Value) (kt : List (TypeId × Value)) (w : World) (h : TreesAt X w v kt) (hk : kt.length = 1) :
    Calls Tryz.prog 36 #[.agg #[.int .i64 18, .string t, .slice na nl nc], v] w fun e w' => e = .returned (tv (stTree 18 t v kt)) ∧ Below w.heap.size w w' := by
  obtain ⟨a, c, rfl, f⟩ := h
  obtain ⟨b, o, rfl, -, hb, hc⟩ := f (by omega)
  have HB : Hid (Below w.heap.size w (w.alloc (.cells #[.int .i64 18, .string t, .slice na nl nc] 67))) := (Below.refl _ _).alloc (Nat.le_refl _) _
  have c0 := (HB.out.cell hb).trans (hc 0 (by omega))
  rw [Nat.add_zero] at c0
  rw [hk]
  have eT : stTree 18 t (.slice (some ⟨b, o, none⟩) 1 c) kt = (110, .agg #[.int .i64 18, .string t, tv (kt.getD 0 tno)]) := by simp [stTree]
  rw [eT]
  obtain ⟨T0, x0, h0⟩ : ∃ T x, kt.getD 0 tno = (T, x) := ⟨_, _, rfl⟩
  rw [h0] at c0 ⊢
  unfold tv at c0 ⊢
  simp only at c0 ⊢
  clear hc f eT h0
  go_enter Tryz.func36, Tryz.ntmps36
  go_wp2_with fail
  go_quiet (fail)
  go_wp2

  go_ret
  first
    | exact ⟨rfl, HB.out⟩
    | exact ⟨rfl, HB.out.alloc (by simp) _⟩
    | exact ⟨rfl, below_drewN HB.out _⟩

set_option maxRecDepth 100000 in
set_option maxHeartbeats 1600000 in
theorem stOf19 {X : Nat} (t : ByteArray) (na : Option Addr) (nl nc : Nat) (v : Value) (kt : List (TypeId × Value)) (w : World) (h : TreesAt X w v kt) (hk : kt.length = 1) :
    Calls Tryz.prog 36 #[.agg #[.int .i64 19, .string t, .slice na nl nc], v] w fun e w' => e = .returned (tv (stTree 19 t v kt)) ∧ Below w.heap.size w w' := by
  obtain ⟨a, c, rfl, f⟩ := h
  obtain ⟨b, o, rfl, -, hb, hc⟩ := f (by omega)
  have HB : Hid (Below w.heap.size w (w.alloc (.cells #[.int .i64 19, .string t, .slice na nl nc] 67))) := (Below.refl _ _).alloc (Nat.le_refl _) _
  have c0 := (HB.out.cell hb).trans (hc 0 (by omega))
  rw [Nat.add_zero] at c0
  rw [hk]
  have eT : stTree 19 t (.slice (some ⟨b, o, none⟩) 1 c) kt = (110, .agg #[.int .i64 19, .string t, tv (kt.getD 0 tno)]) := by simp [stTree]
  rw [eT]
  obtain ⟨T0, x0, h0⟩ : ∃ T x, kt.getD 0 tno = (T, x) := ⟨_, _, rfl⟩
  rw [h0] at c0 ⊢
  unfold tv at c0 ⊢
  simp only at c0 ⊢
  clear hc f eT h0
  go_enter Tryz.func36, Tryz.ntmps36
  go_wp2_with fail
  go_quiet (fail)
  go_wp2

  go_ret
  first
    | exact ⟨rfl, HB.out⟩
    | exact ⟨rfl, HB.out.alloc (by simp) _⟩
    | exact ⟨rfl, below_drewN HB.out _⟩

set_option maxRecDepth 100000 in
set_option maxHeartbeats 1600000 in
theorem stOf20 {X : Nat} (t : ByteArray) (na : Option Addr) (nl nc : Nat) (v : Value) (kt : List (TypeId × Value)) (w : World) (h : TreesAt X w v kt) (hk : kt.length = 2) :
    Calls Tryz.prog 36 #[.agg #[.int .i64 20, .string t, .slice na nl nc], v] w fun e w' => e = .returned (tv (stTree 20 t v kt)) ∧ Below w.heap.size w w' := by
  obtain ⟨a, c, rfl, f⟩ := h
  obtain ⟨b, o, rfl, -, hb, hc⟩ := f (by omega)
  have HB : Hid (Below w.heap.size w (w.alloc (.cells #[.int .i64 20, .string t, .slice na nl nc] 67))) := (Below.refl _ _).alloc (Nat.le_refl _) _
  have c0 := (HB.out.cell hb).trans (hc 0 (by omega))
  have c1 := (HB.out.cell hb).trans (hc 1 (by omega))
  rw [Nat.add_zero] at c0
  rw [hk]
  have eT : stTree 20 t (.slice (some ⟨b, o, none⟩) 2 c) kt = (112, .agg #[.int .i64 20, .string t, tv (kt.getD 0 tno), tv (kt.getD 1 tno)]) := by simp [stTree]
  rw [eT]
  obtain ⟨T0, x0, h0⟩ : ∃ T x, kt.getD 0 tno = (T, x) := ⟨_, _, rfl⟩
  rw [h0] at c0 ⊢
  obtain ⟨T1, x1, h1⟩ : ∃ T x, kt.getD 1 tno = (T, x) := ⟨_, _, rfl⟩
  rw [h1] at c1 ⊢
  unfold tv at c0 c1 ⊢
  simp only at c0 c1 ⊢
  clear hc f eT h0 h1
  go_enter Tryz.func36, Tryz.ntmps36
  go_wp2_with fail
  go_quiet (fail)
  go_wp2

  go_ret
  first
    | exact ⟨rfl, HB.out⟩
    | exact ⟨rfl, HB.out.alloc (by simp) _⟩
    | exact ⟨rfl, below_drewN HB.out _⟩

set_option maxRecDepth 100000 in
set_option maxHeartbeats 1600000 in
theorem stOf21 {X : Nat} (t : ByteArray) (na : Option Addr) (nl nc : Nat) (v : Value) (kt : List (TypeId × Value)) (w : World) (h : TreesAt X w v kt) (hk : kt.length = 2) :
    Calls Tryz.prog 36 #[.agg #[.int .i64 21, .string t, .slice na nl nc], v] w fun e w' => e = .returned (tv (stTree 21 t v kt)) ∧ Below w.heap.size w w' := by
  obtain ⟨a, c, rfl, f⟩ := h
  obtain ⟨b, o, rfl, -, hb, hc⟩ := f (by omega)
  have HB : Hid (Below w.heap.size w (w.alloc (.cells #[.int .i64 21, .string t, .slice na nl nc] 67))) := (Below.refl _ _).alloc (Nat.le_refl _) _
  have c0 := (HB.out.cell hb).trans (hc 0 (by omega))
  have c1 := (HB.out.cell hb).trans (hc 1 (by omega))
  rw [Nat.add_zero] at c0
  rw [hk]
  have eT : stTree 21 t (.slice (some ⟨b, o, none⟩) 2 c) kt = (112, .agg #[.int .i64 21, .string t, tv (kt.getD 0 tno), tv (kt.getD 1 tno)]) := by simp [stTree]
  rw [eT]
  obtain ⟨T0, x0, h0⟩ : ∃ T x, kt.getD 0 tno = (T, x) := ⟨_, _, rfl⟩
  rw [h0] at c0 ⊢
  obtain ⟨T1, x1, h1⟩ : ∃ T x, kt.getD 1 tno = (T, x) := ⟨_, _, rfl⟩
  rw [h1] at c1 ⊢
  unfold tv at c0 c1 ⊢
  simp only at c0 c1 ⊢
  clear hc f eT h0 h1
  go_enter Tryz.func36, Tryz.ntmps36
  go_wp2_with fail
  go_quiet (fail)
  go_wp2

  go_ret
  first
    | exact ⟨rfl, HB.out⟩
    | exact ⟨rfl, HB.out.alloc (by simp) _⟩
    | exact ⟨rfl, below_drewN HB.out _⟩

set_option maxRecDepth 100000 in
set_option maxHeartbeats 1600000 in
theorem stOf22_2 {X : Nat} (t : ByteArray) (na : Option Addr) (nl nc : Nat) (v : Value) (kt : List (TypeId × Value)) (w : World) (h : TreesAt X w v kt) (hk : kt.length = 2) :
    Calls Tryz.prog 36 #[.agg #[.int .i64 22, .string t, .slice na nl nc], v] w fun e w' => e = .returned (tv (stTree 22 t v kt)) ∧ Below w.heap.size w w' := by
  obtain ⟨a, c, rfl, f⟩ := h
  obtain ⟨b, o, rfl, -, hb, hc⟩ := f (by omega)
  have HB : Hid (Below w.heap.size w (w.alloc (.cells #[.int .i64 22, .string t, .slice na nl nc] 67))) := (Below.refl _ _).alloc (Nat.le_refl _) _
  have c0 := (HB.out.cell hb).trans (hc 0 (by omega))
  have c1 := (HB.out.cell hb).trans (hc 1 (by omega))
  rw [Nat.add_zero] at c0
  rw [hk]
  have eT : stTree 22 t (.slice (some ⟨b, o, none⟩) 2 c) kt = (114, .agg #[tv (kt.getD 0 tno), tv (kt.getD 1 tno), .nilIface]) := by simp [stTree, hk]
  rw [eT]
  obtain ⟨T0, x0, h0⟩ : ∃ T x, kt.getD 0 tno = (T, x) := ⟨_, _, rfl⟩
  rw [h0] at c0 ⊢
  obtain ⟨T1, x1, h1⟩ : ∃ T x, kt.getD 1 tno = (T, x) := ⟨_, _, rfl⟩
  rw [h1] at c1 ⊢
  unfold tv at c0 c1 ⊢
  simp only at c0 c1 ⊢
  clear hc f eT h0 h1
  go_enter Tryz.func36, Tryz.ntmps36
  go_wp2_with fail
  go_region

  all_goals
    go_wp2
    go_ret
    exact ⟨rfl, (HB.out.alloc (by simp) _).drew⟩

set_option maxRecDepth 100000 in
set_option maxHeartbeats 1600000 in
theorem stOf22_3 {X : Nat} (t : ByteArray) (na : Option Addr) (nl nc : Nat) (v : Value) (kt : List (TypeId × Value)) (w : World) (h : TreesAt X w v kt) (hk : kt.length = 3) :
    Calls Tryz.prog 36 #[.agg #[.int .i64 22, .string t, .slice na nl nc], v] w fun e w' => e = .returned (tv (stTree 22 t v kt)) ∧ Below w.heap.size w w' := by
  obtain ⟨a, c, rfl, f⟩ := h
  obtain ⟨b, o, rfl, -, hb, hc⟩ := f (by omega)
  have HB : Hid (Below w.heap.size w (w.alloc (.cells #[.int .i64 22, .string t, .slice na nl nc] 67))) := (Below.refl _ _).alloc (Nat.le_refl _) _
  have c0 := (HB.out.cell hb).trans (hc 0 (by omega))
  have c1 := (HB.out.cell hb).trans (hc 1 (by omega))
  have c2 := (HB.out.cell hb).trans (hc 2 (by omega))
  rw [Nat.add_zero] at c0
  rw [hk]
  have eT : stTree 22 t (.slice (some ⟨b, o, none⟩) 3 c) kt = (114, .agg #[tv (kt.getD 0 tno), tv (kt.getD 1 tno), tv (kt.getD 2 tno)]) := by simp [stTree, hk]
  rw [eT]
  obtain ⟨T0, x0, h0⟩ : ∃ T x, kt.getD 0 tno = (T, x) := ⟨_, _, rfl⟩
  rw [h0] at c0 ⊢
  obtain ⟨T1, x1, h1⟩ : ∃ T x, kt.getD 1 tno = (T, x) := ⟨_, _, rfl⟩
  rw [h1] at c1 ⊢
  obtain ⟨T2, x2, h2⟩ : ∃ T x, kt.getD 2 tno = (T, x) := ⟨_, _, rfl⟩
  rw [h2] at c2 ⊢
  unfold tv at c0 c1 c2 ⊢
  simp only at c0 c1 c2 ⊢
  clear hc f eT h0 h1 h2
  go_enter Tryz.func36, Tryz.ntmps36
  go_wp2_with fail
  go_region

  all_goals
    go_wp2
    go_ret
    exact ⟨rfl, (HB.out.alloc (by simp) _).drew⟩

set_option maxRecDepth 100000 in
set_option maxHeartbeats 1600000 in
theorem stOf24 {X : Nat} (t : ByteArray) (na : Option Addr) (nl nc : Nat) (v : Value) (kt : List (TypeId × Value)) (w : World) (h : TreesAt X w v kt) :
    Calls Tryz.prog 36 #[.agg #[.int .i64 24, .string t, .slice na nl nc], v] w fun e w' => e = .returned (tv (stTree 24 t v kt)) ∧ Below w.heap.size w w' := by
  obtain ⟨a, c, rfl, f⟩ := h
  have HB : Hid (Below w.heap.size w (w.alloc (.cells #[.int .i64 24, .string t, .slice na nl nc] 67))) := (Below.refl _ _).alloc (Nat.le_refl _) _
  have eT : stTree 24 t (.slice a kt.length c) kt = (116, .agg #[.slice a kt.length c]) := by simp [stTree]
  rw [eT]
  unfold tv
  clear f eT
  go_enter Tryz.func36, Tryz.ntmps36
  go_wp2

  go_ret
  first
    | exact ⟨rfl, HB.out⟩
    | exact ⟨rfl, HB.out.alloc (by simp) _⟩
    | exact ⟨rfl, below_drewN HB.out _⟩

set_option maxRecDepth 100000 in
set_option maxHeartbeats 1600000 in
theorem stOf25 {X : Nat} (t : ByteArray) (na : Option Addr) (nl nc : Nat) (v : Value) (kt : List (TypeId × Value)) (w : World) (h : TreesAt X w v kt) :
    Calls Tryz.prog 36 #[.agg #[.int .i64 25, .string t, .slice na nl nc], v] w fun e w' => e = .returned (tv (stTree 25 t v kt)) ∧ Below w.heap.size w w' := by
  obtain ⟨a, c, rfl, f⟩ := h
  have HB : Hid (Below w.heap.size w (w.alloc (.cells #[.int .i64 25, .string t, .slice na nl nc] 67))) := (Below.refl _ _).alloc (Nat.le_refl _) _
  have eT : stTree 25 t (.slice a kt.length c) kt = (117, .agg #[.string t]) := by simp [stTree]
  rw [eT]
  unfold tv
  clear f eT
  go_enter Tryz.func36, Tryz.ntmps36
  go_wp2

  go_ret
  first
    | exact ⟨rfl, HB.out⟩
    | exact ⟨rfl, HB.out.alloc (by simp) _⟩
    | exact ⟨rfl, below_drewN HB.out _⟩

set_option maxRecDepth 100000 in
set_option maxHeartbeats 1600000 in
theorem stOf23 {X : Nat} (t : ByteArray) (na : Option Addr) (nl nc : Nat) (v : Value) (kt : List (TypeId × Value)) (w : World) (h : TreesAt X w v kt) :
    Calls Tryz.prog 36 #[.agg #[.int .i64 23, .string t, .slice na nl nc], v] w fun e w' => e = .returned (tv (stTree 23 t v kt)) ∧ Below w.heap.size w w' := by
  obtain ⟨a, c, rfl, f⟩ := h
  have HB : Hid (Below w.heap.size w (w.alloc (.cells #[.int .i64 23, .string t, .slice na nl nc] 67))) := (Below.refl _ _).alloc (Nat.le_refl _) _
  have eT : stTree 23 t (.slice a kt.length c) kt = (118, .agg #[]) := by simp [stTree]
  rw [eT]
  unfold tv
  clear f eT
  go_enter Tryz.func36, Tryz.ntmps36
  go_wp2

  go_ret
  first
    | exact ⟨rfl, HB.out⟩
    | exact ⟨rfl, HB.out.alloc (by simp) _⟩
    | exact ⟨rfl, below_drewN HB.out _⟩

end Go.Proofs.YtknojhmnadmilaaGreatDoor
