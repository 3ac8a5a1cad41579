/- The program's writer of nodes: what a tree of each type adds. -/
import Derived.Test.YtkfkbdgfnopokaaGreatDoorZao
import Derived.OwnWalk
namespace Go.Proofs.YtkfkbdgfnopokaaGreatDoor
open Go.RowKit
theorem meth_of {P : Program} {T : TypeId} {i : TypeInfo} {m : Method} {F : FuncId} {fs : Array Field} {name : String} (hi : ∀ w, (typeInfo T).run P w = .ok i w) (hm : i.methods.find? (·.name == name) = some m) (hp : m.path = #[]) (hf : m.func = some (F, false)) (hu : P.underlying T = some (.struct fs)) (x : Value) :
  ∀ n w, (method (n + 1) T x name).run P w = .ok (F, x) w := by
 intro n w
 simp [method, hi, hm, hp, hf, follow, receiverAt, run_underlying hu, Place.get]
theorem call_of {P : Program} {f : FuncId} {fn : Func} (hf : P.funcs[f]? = some fn) (hname : (fn.name == "runtime.NumGoroutine") = false) (hb : fn.body.isNone = false) (args : Array Value) (w : World) :
  (callFunc f args).run P w = .ok (.enter f args) w := by
 have h1 : fn.name ≠ "runtime.NumGoroutine" := by simpa using hname
 obtain ⟨c, hc⟩ : ∃ c, fn.body = some c := Option.isSome_iff_exists.1 (by simpa using hb)
 simp [callFunc, hf, h1, hc]
def Adds (R : Nat → Prop) (w : World) (k : TypeId × Value) (G : Nat → List Pi) : Prop :=
 (∀ b, R b → b < w.heap.size) ∧ ∀ B h w', (∀ b, R b → b < h ∧ w'.heap[b]? = w.heap[b]?) → AddC B h w' k G
theorem Adds.keep {R : Nat → Prop} {w w' : World} {k : TypeId × Value} {G : Nat → List Pi} (h : Adds R w k G) (hs : w.heap.size ≤ w'.heap.size) (hk : ∀ b, R b → w'.heap[b]? = w.heap[b]?) : Adds R w' k G :=
 ⟨fun b hb => Nat.lt_of_lt_of_le (h.1 b hb) hs, fun B hh w2 h2 => h.2 B hh w2 (fun b hb => ⟨(h2 b hb).1, (h2 b hb).2.trans (hk b hb)⟩)⟩
theorem tcells4 {w : World} {g : Nat} {a b c d : Value} {ty : TypeId} (h : w.heap[g]? = some (.cells #[a, b, c, d] ty (0, 0))) : w.cell? ⟨g, 0, none⟩ = some a ∧ w.cell? ⟨g, 1, none⟩ = some b ∧ w.cell? ⟨g, 2, none⟩ = some c ∧ w.cell? ⟨g, 3, none⟩ = some d := by
 simp [World.cell?, h]
def or2 (R S : Nat → Prop) : Nat → Prop := fun b => R b ∨ S b
theorem meth_num (x : Value) : ∀ n w, (method (n + 1) 121 x "loop.example/g00237/impl.asNode").run Tryz.prog w = .ok (203, x) w :=
 meth_of (i := Tryz.t121) (m := (Tryz.t121.methods.find? (·.name == "loop.example/g00237/impl.asNode")).getD default) (fun w => by simp [go_sem]) (by kernel_rfl) (by kernel_rfl) (by kernel_rfl) Tryz.underlying121 x
set_option maxHeartbeats 1000000 in
set_option maxRecDepth 100000 in
theorem asN_num (t : List UInt8) (w : World) :
  Calls Tryz.prog 203 #[.agg #[.string ⟨t.toArray⟩]] w fun e w' => e = .returned (.tuple #[.int .i64 1, .string ⟨t.toArray⟩, .slice none 0 0]) ∧ Below w.heap.size w w' := by
 generalize (⟨t.toArray⟩ : ByteArray) = S at *
 have m0 := (wcell (heap_alloc_new w (.cells #[.string S] 121))).1
 have hz : (w.alloc (.cells #[.string S] 121)).heap.size = w.heap.size + 1 := by simp
 have HB0 : Hid (Below w.heap.size w (w.alloc (.cells #[.string S] 121))) := (Below.refl _ _).alloc (Nat.le_refl _) _
 go_enter Tryz.func203, Tryz.ntmps203
 go_wp2
 generalize w.alloc (.cells #[.string S] 121) = w1 at *
 go_region
 go_wp2
 go_ret3
 exact ⟨rfl, HB0.out.drew⟩
theorem adds_num (t : List UInt8) (w : World) : Adds (fun _ => False) w (121, .agg #[.string ⟨t.toArray⟩]) (Fl.node 1 t []) := by
 refine ⟨fun b hb => hb.elim, fun B h w' _ Xs W nv qs hlo hw hlen => ?_⟩
 refine addC_node B h 1 121 (.agg #[.string ⟨t.toArray⟩]) 203 t [] [] w' W Xs nv qs (meth_num _) (fun w => call_of Tryz.func203 (by kernel_rfl) (by kernel_rfl) _ w) hlo hw rfl (by simp) (by unfold Fl.node at hlen; simp only [List.length_append, List.length_cons, List.length_nil] at hlen; omega) (fun i hi => by simp at hi) ?_
 refine (asN_num t W).mono ?_
 rintro e w2 ⟨rfl, hb⟩
 exact ⟨none, 0, rfl, hb, fun h0 => by simp at h0⟩
theorem meth_text (x : Value) : ∀ n w, (method (n + 1) 123 x "loop.example/g00237/impl.asNode").run Tryz.prog w = .ok (204, x) w :=
 meth_of (i := Tryz.t123) (m := (Tryz.t123.methods.find? (·.name == "loop.example/g00237/impl.asNode")).getD default) (fun w => by simp [go_sem]) (by kernel_rfl) (by kernel_rfl) (by kernel_rfl) Tryz.underlying123 x
set_option maxHeartbeats 1000000 in
set_option maxRecDepth 100000 in
theorem asN_text (t : List UInt8) (w : World) :
  Calls Tryz.prog 204 #[.agg #[.string ⟨t.toArray⟩]] w fun e w' => e = .returned (.tuple #[.int .i64 2, .string ⟨t.toArray⟩, .slice none 0 0]) ∧ Below w.heap.size w w' := by
 generalize (⟨t.toArray⟩ : ByteArray) = S at *
 have m0 := (wcell (heap_alloc_new w (.cells #[.string S] 123))).1
 have hz : (w.alloc (.cells #[.string S] 123)).heap.size = w.heap.size + 1 := by simp
 have HB0 : Hid (Below w.heap.size w (w.alloc (.cells #[.string S] 123))) := (Below.refl _ _).alloc (Nat.le_refl _) _
 go_enter Tryz.func204, Tryz.ntmps204
 go_wp2
 generalize w.alloc (.cells #[.string S] 123) = w1 at *
 go_region
 go_wp2
 go_ret3
 exact ⟨rfl, HB0.out.drew⟩
theorem adds_text (t : List UInt8) (w : World) : Adds (fun _ => False) w (123, .agg #[.string ⟨t.toArray⟩]) (Fl.node 2 t []) := by
 refine ⟨fun b hb => hb.elim, fun B h w' _ Xs W nv qs hlo hw hlen => ?_⟩
 refine addC_node B h 2 123 (.agg #[.string ⟨t.toArray⟩]) 204 t [] [] w' W Xs nv qs (meth_text _) (fun w => call_of Tryz.func204 (by kernel_rfl) (by kernel_rfl) _ w) hlo hw rfl (by simp) (by unfold Fl.node at hlen; simp only [List.length_append, List.length_cons, List.length_nil] at hlen; omega) (fun i hi => by simp at hi) ?_
 refine (asN_text t W).mono ?_
 rintro e w2 ⟨rfl, hb⟩
 exact ⟨none, 0, rfl, hb, fun h0 => by simp at h0⟩
theorem meth_name (x : Value) : ∀ n w, (method (n + 1) 125 x "loop.example/g00237/impl.asNode").run Tryz.prog w = .ok (205, x) w :=
 meth_of (i := Tryz.t125) (m := (Tryz.t125.methods.find? (·.name == "loop.example/g00237/impl.asNode")).getD default) (fun w => by simp [go_sem]) (by kernel_rfl) (by kernel_rfl) (by kernel_rfl) Tryz.underlying125 x
set_option maxHeartbeats 1000000 in
set_option maxRecDepth 100000 in
theorem asN_name (t : List UInt8) (w : World) :
  Calls Tryz.prog 205 #[.agg #[.string ⟨t.toArray⟩]] w fun e w' => e = .returned (.tuple #[.int .i64 3, .string ⟨t.toArray⟩, .slice none 0 0]) ∧ Below w.heap.size w w' := by
 generalize (⟨t.toArray⟩ : ByteArray) = S at *
 have m0 := (wcell (heap_alloc_new w (.cells #[.string S] 125))).1
 have hz : (w.alloc (.cells #[.string S] 125)).heap.size = w.heap.size + 1 := by simp
 have HB0 : Hid (Below w.heap.size w (w.alloc (.cells #[.string S] 125))) := (Below.refl _ _).alloc (Nat.le_refl _) _
 go_enter Tryz.func205, Tryz.ntmps205
 go_wp2
 generalize w.alloc (.cells #[.string S] 125) = w1 at *
 go_region
 go_wp2
 go_ret3
 exact ⟨rfl, HB0.out.drew⟩
theorem adds_name (t : List UInt8) (w : World) : Adds (fun _ => False) w (125, .agg #[.string ⟨t.toArray⟩]) (Fl.node 3 t []) := by
 refine ⟨fun b hb => hb.elim, fun B h w' _ Xs W nv qs hlo hw hlen => ?_⟩
 refine addC_node B h 3 125 (.agg #[.string ⟨t.toArray⟩]) 205 t [] [] w' W Xs nv qs (meth_name _) (fun w => call_of Tryz.func205 (by kernel_rfl) (by kernel_rfl) _ w) hlo hw rfl (by simp) (by unfold Fl.node at hlen; simp only [List.length_append, List.length_cons, List.length_nil] at hlen; omega) (fun i hi => by simp at hi) ?_
 refine (asN_name t W).mono ?_
 rintro e w2 ⟨rfl, hb⟩
 exact ⟨none, 0, rfl, hb, fun h0 => by simp at h0⟩
theorem meth_cell (x : Value) : ∀ n w, (method (n + 1) 127 x "loop.example/g00237/impl.asNode").run Tryz.prog w = .ok (206, x) w :=
 meth_of (i := Tryz.t127) (m := (Tryz.t127.methods.find? (·.name == "loop.example/g00237/impl.asNode")).getD default) (fun w => by simp [go_sem]) (by kernel_rfl) (by kernel_rfl) (by kernel_rfl) Tryz.underlying127 x
set_option maxHeartbeats 1000000 in
set_option maxRecDepth 100000 in
theorem asN_cell (t : List UInt8) (T0 : TypeId) (x0 : Value) (w : World) :
  Calls Tryz.prog 206 #[.agg #[.string ⟨t.toArray⟩, .iface T0 x0]] w fun e w' => ∃ q, e = .returned (.tuple #[.int .i64 4, .string ⟨t.toArray⟩, .slice (some ⟨q, 0, none⟩) 1 1]) ∧ Below w.heap.size w w' ∧ w.heap.size ≤ q ∧ q < w'.heap.size ∧ w'.cell? ⟨q, 0, none⟩ = some (.iface T0 x0) := by
 generalize (⟨t.toArray⟩ : ByteArray) = S at *
 obtain ⟨m0, m1⟩ := tcells2 (heap_alloc_new w (.cells #[.string S, .iface T0 x0] 127))
 have hz : (w.alloc (.cells #[.string S, .iface T0 x0] 127)).heap.size = w.heap.size + 1 := by simp
 have HB0 : Hid (Below w.heap.size w (w.alloc (.cells #[.string S, .iface T0 x0] 127))) := (Below.refl _ _).alloc (Nat.le_refl _) _
 go_enter Tryz.func206, Tryz.ntmps206
 go_wp2
 generalize w.alloc (.cells #[.string S, .iface T0 x0] 127) = w1 at *
 go_region
 go_wp2
 go_ret3
 have hb : Below w.heap.size w ((w1.alloc (.cells #[.iface T0 x0] 77)).drew) := HB0.out.trans ((((Below.refl _ _).alloc (Nat.le_refl _) _).drew).mono HB0.out.size)
 have hq : ((w1.alloc (.cells #[.iface T0 x0] 77)).drew).heap[w1.heap.size]? = some (.cells #[.iface T0 x0] 77 (0, 0)) := heap_alloc_new w1 _
 rw [hz] at hq
 refine ⟨w.heap.size + 1, rfl, hb, by omega, (Array.getElem?_eq_some_iff.1 hq).1, ?_⟩
 ·exact (wcell hq).1
theorem adds_cell (t : List UInt8) (T0 : TypeId) (x0 : Value) (R : Nat → Prop) (G : Nat → List Pi) (w : World) (k0 : Adds R w (T0, x0) G) : Adds R w (127, .agg #[.string ⟨t.toArray⟩, .iface T0 x0]) (Fl.node 4 t [G]) := by
 refine ⟨k0.1, fun B h w' hR Xs W nv qs hlo hw hlen => ?_⟩
 refine addC_node B h 4 127 (.agg #[.string ⟨t.toArray⟩, .iface T0 x0]) 206 t [(T0, x0)] [G] w' W Xs nv qs (meth_cell _) (fun w => call_of Tryz.func206 (by kernel_rfl) (by kernel_rfl) _ w) hlo hw rfl (by simp) (by unfold Fl.node at hlen; simp only [List.length_append, List.length_cons, List.length_nil] at hlen; omega) (fun i hi => ?_) ?_
 ·obtain rfl : i = 0 := by simp at hi; omega
  exact k0.2 B h w' hR
 refine (asN_cell t T0 x0 W).mono ?_
 rintro e w2 ⟨q, rfl, hb, h1, h2, c0⟩
 refine ⟨_, _, rfl, hb, fun _ => ⟨q, 0, rfl, .inr h1, h2, fun i hi => ?_⟩⟩
 obtain rfl : i = 0 := by simp at hi; omega
 exact c0
theorem meth_field (x : Value) : ∀ n w, (method (n + 1) 130 x "loop.example/g00237/impl.asNode").run Tryz.prog w = .ok (207, x) w :=
 meth_of (i := Tryz.t130) (m := (Tryz.t130.methods.find? (·.name == "loop.example/g00237/impl.asNode")).getD default) (fun w => by simp [go_sem]) (by kernel_rfl) (by kernel_rfl) (by kernel_rfl) Tryz.underlying130 x
set_option maxHeartbeats 1000000 in
set_option maxRecDepth 100000 in
theorem asN_field (T0 : TypeId) (x0 : Value) (w : World) :
  Calls Tryz.prog 207 #[.agg #[.iface T0 x0]] w fun e w' => ∃ q, e = .returned (.tuple #[.int .i64 5, .string ⟨#[]⟩, .slice (some ⟨q, 0, none⟩) 1 1]) ∧ Below w.heap.size w w' ∧ w.heap.size ≤ q ∧ q < w'.heap.size ∧ w'.cell? ⟨q, 0, none⟩ = some (.iface T0 x0) := by
 have m0 := (wcell (heap_alloc_new w (.cells #[.iface T0 x0] 130))).1
 have hz : (w.alloc (.cells #[.iface T0 x0] 130)).heap.size = w.heap.size + 1 := by simp
 have HB0 : Hid (Below w.heap.size w (w.alloc (.cells #[.iface T0 x0] 130))) := (Below.refl _ _).alloc (Nat.le_refl _) _
 go_enter Tryz.func207, Tryz.ntmps207
 go_wp2
 generalize w.alloc (.cells #[.iface T0 x0] 130) = w1 at *
 go_region
 go_wp2
 go_ret3
 have hb : Below w.heap.size w ((w1.alloc (.cells #[.iface T0 x0] 77)).drew) := HB0.out.trans ((((Below.refl _ _).alloc (Nat.le_refl _) _).drew).mono HB0.out.size)
 have hq : ((w1.alloc (.cells #[.iface T0 x0] 77)).drew).heap[w1.heap.size]? = some (.cells #[.iface T0 x0] 77 (0, 0)) := heap_alloc_new w1 _
 rw [hz] at hq
 refine ⟨w.heap.size + 1, rfl, hb, by omega, (Array.getElem?_eq_some_iff.1 hq).1, ?_⟩
 ·exact (wcell hq).1
theorem adds_field (T0 : TypeId) (x0 : Value) (R : Nat → Prop) (G : Nat → List Pi) (w : World) (k0 : Adds R w (T0, x0) G) : Adds R w (130, .agg #[.iface T0 x0]) (Fl.node 5 [] [G]) := by
 refine ⟨k0.1, fun B h w' hR Xs W nv qs hlo hw hlen => ?_⟩
 refine addC_node B h 5 130 (.agg #[.iface T0 x0]) 207 [] [(T0, x0)] [G] w' W Xs nv qs (meth_field _) (fun w => call_of Tryz.func207 (by kernel_rfl) (by kernel_rfl) _ w) hlo hw rfl (by simp) (by unfold Fl.node at hlen; simp only [List.length_append, List.length_cons, List.length_nil] at hlen; omega) (fun i hi => ?_) ?_
 ·obtain rfl : i = 0 := by simp at hi; omega
  exact k0.2 B h w' hR
 refine (asN_field T0 x0 W).mono ?_
 rintro e w2 ⟨q, rfl, hb, h1, h2, c0⟩
 refine ⟨_, _, rfl, hb, fun _ => ⟨q, 0, rfl, .inr h1, h2, fun i hi => ?_⟩⟩
 obtain rfl : i = 0 := by simp at hi; omega
 exact c0
theorem meth_fields (x : Value) : ∀ n w, (method (n + 1) 131 x "loop.example/g00237/impl.asNode").run Tryz.prog w = .ok (208, x) w :=
 meth_of (i := Tryz.t131) (m := (Tryz.t131.methods.find? (·.name == "loop.example/g00237/impl.asNode")).getD default) (fun w => by simp [go_sem]) (by kernel_rfl) (by kernel_rfl) (by kernel_rfl) Tryz.underlying131 x
set_option maxHeartbeats 1000000 in
set_option maxRecDepth 100000 in
theorem asN_fields (w : World) :
  Calls Tryz.prog 208 #[.agg #[]] w fun e w' => e = .returned (.tuple #[.int .i64 6, .string ⟨#[]⟩, .slice none 0 0]) ∧ Below w.heap.size w w' := by
 have hz : (w.alloc (.cells #[] 131)).heap.size = w.heap.size + 1 := by simp
 have HB0 : Hid (Below w.heap.size w (w.alloc (.cells #[] 131))) := (Below.refl _ _).alloc (Nat.le_refl _) _
 go_enter Tryz.func208, Tryz.ntmps208
 go_wp2
 go_ret3
 exact ⟨rfl, HB0.out⟩
theorem adds_fields (w : World) : Adds (fun _ => False) w (131, .agg #[]) (Fl.node 6 [] []) := by
 refine ⟨fun b hb => hb.elim, fun B h w' _ Xs W nv qs hlo hw hlen => ?_⟩
 refine addC_node B h 6 131 (.agg #[]) 208 [] [] [] w' W Xs nv qs (meth_fields _) (fun w => call_of Tryz.func208 (by kernel_rfl) (by kernel_rfl) _ w) hlo hw rfl (by simp) (by unfold Fl.node at hlen; simp only [List.length_append, List.length_cons, List.length_nil] at hlen; omega) (fun i hi => by simp at hi) ?_
 refine (asN_fields W).mono ?_
 rintro e w2 ⟨rfl, hb⟩
 exact ⟨none, 0, rfl, hb, fun h0 => by simp at h0⟩
theorem meth_line (x : Value) : ∀ n w, (method (n + 1) 132 x "loop.example/g00237/impl.asNode").run Tryz.prog w = .ok (209, x) w :=
 meth_of (i := Tryz.t132) (m := (Tryz.t132.methods.find? (·.name == "loop.example/g00237/impl.asNode")).getD default) (fun w => by simp [go_sem]) (by kernel_rfl) (by kernel_rfl) (by kernel_rfl) Tryz.underlying132 x
set_option maxHeartbeats 1000000 in
set_option maxRecDepth 100000 in
theorem asN_line (w : World) :
  Calls Tryz.prog 209 #[.agg #[]] w fun e w' => e = .returned (.tuple #[.int .i64 7, .string ⟨#[]⟩, .slice none 0 0]) ∧ Below w.heap.size w w' := by
 have hz : (w.alloc (.cells #[] 132)).heap.size = w.heap.size + 1 := by simp
 have HB0 : Hid (Below w.heap.size w (w.alloc (.cells #[] 132))) := (Below.refl _ _).alloc (Nat.le_refl _) _
 go_enter Tryz.func209, Tryz.ntmps209
 go_wp2
 go_ret3
 exact ⟨rfl, HB0.out⟩
theorem adds_line (w : World) : Adds (fun _ => False) w (132, .agg #[]) (Fl.node 7 [] []) := by
 refine ⟨fun b hb => hb.elim, fun B h w' _ Xs W nv qs hlo hw hlen => ?_⟩
 refine addC_node B h 7 132 (.agg #[]) 209 [] [] [] w' W Xs nv qs (meth_line _) (fun w => call_of Tryz.func209 (by kernel_rfl) (by kernel_rfl) _ w) hlo hw rfl (by simp) (by unfold Fl.node at hlen; simp only [List.length_append, List.length_cons, List.length_nil] at hlen; omega) (fun i hi => by simp at hi) ?_
 refine (asN_line W).mono ?_
 rintro e w2 ⟨rfl, hb⟩
 exact ⟨none, 0, rfl, hb, fun h0 => by simp at h0⟩
theorem meth_long (x : Value) : ∀ n w, (method (n + 1) 133 x "loop.example/g00237/impl.asNode").run Tryz.prog w = .ok (210, x) w :=
 meth_of (i := Tryz.t133) (m := (Tryz.t133.methods.find? (·.name == "loop.example/g00237/impl.asNode")).getD default) (fun w => by simp [go_sem]) (by kernel_rfl) (by kernel_rfl) (by kernel_rfl) Tryz.underlying133 x
set_option maxHeartbeats 1000000 in
set_option maxRecDepth 100000 in
theorem asN_long (T0 : TypeId) (x0 : Value) (w : World) :
  Calls Tryz.prog 210 #[.agg #[.iface T0 x0]] w fun e w' => ∃ q, e = .returned (.tuple #[.int .i64 8, .string ⟨#[]⟩, .slice (some ⟨q, 0, none⟩) 1 1]) ∧ Below w.heap.size w w' ∧ w.heap.size ≤ q ∧ q < w'.heap.size ∧ w'.cell? ⟨q, 0, none⟩ = some (.iface T0 x0) := by
 have m0 := (wcell (heap_alloc_new w (.cells #[.iface T0 x0] 133))).1
 have hz : (w.alloc (.cells #[.iface T0 x0] 133)).heap.size = w.heap.size + 1 := by simp
 have HB0 : Hid (Below w.heap.size w (w.alloc (.cells #[.iface T0 x0] 133))) := (Below.refl _ _).alloc (Nat.le_refl _) _
 go_enter Tryz.func210, Tryz.ntmps210
 go_wp2
 generalize w.alloc (.cells #[.iface T0 x0] 133) = w1 at *
 go_region
 go_wp2
 go_ret3
 have hb : Below w.heap.size w ((w1.alloc (.cells #[.iface T0 x0] 77)).drew) := HB0.out.trans ((((Below.refl _ _).alloc (Nat.le_refl _) _).drew).mono HB0.out.size)
 have hq : ((w1.alloc (.cells #[.iface T0 x0] 77)).drew).heap[w1.heap.size]? = some (.cells #[.iface T0 x0] 77 (0, 0)) := heap_alloc_new w1 _
 rw [hz] at hq
 refine ⟨w.heap.size + 1, rfl, hb, by omega, (Array.getElem?_eq_some_iff.1 hq).1, ?_⟩
 ·exact (wcell hq).1
theorem adds_long (T0 : TypeId) (x0 : Value) (R : Nat → Prop) (G : Nat → List Pi) (w : World) (k0 : Adds R w (T0, x0) G) : Adds R w (133, .agg #[.iface T0 x0]) (Fl.node 8 [] [G]) := by
 refine ⟨k0.1, fun B h w' hR Xs W nv qs hlo hw hlen => ?_⟩
 refine addC_node B h 8 133 (.agg #[.iface T0 x0]) 210 [] [(T0, x0)] [G] w' W Xs nv qs (meth_long _) (fun w => call_of Tryz.func210 (by kernel_rfl) (by kernel_rfl) _ w) hlo hw rfl (by simp) (by unfold Fl.node at hlen; simp only [List.length_append, List.length_cons, List.length_nil] at hlen; omega) (fun i hi => ?_) ?_
 ·obtain rfl : i = 0 := by simp at hi; omega
  exact k0.2 B h w' hR
 refine (asN_long T0 x0 W).mono ?_
 rintro e w2 ⟨q, rfl, hb, h1, h2, c0⟩
 refine ⟨_, _, rfl, hb, fun _ => ⟨q, 0, rfl, .inr h1, h2, fun i hi => ?_⟩⟩
 obtain rfl : i = 0 := by simp at hi; omega
 exact c0
theorem meth_two (x : Value) : ∀ n w, (method (n + 1) 135 x "loop.example/g00237/impl.asNode").run Tryz.prog w = .ok (211, x) w :=
 meth_of (i := Tryz.t135) (m := (Tryz.t135.methods.find? (·.name == "loop.example/g00237/impl.asNode")).getD default) (fun w => by simp [go_sem]) (by kernel_rfl) (by kernel_rfl) (by kernel_rfl) Tryz.underlying135 x
set_option maxHeartbeats 1000000 in
set_option maxRecDepth 100000 in
theorem asN_two (op : Nat) (T0 : TypeId) (x0 : Value) (T1 : TypeId) (x1 : Value) (w : World) :
  Calls Tryz.prog 211 #[.agg #[.int .i64 (op : Int), .iface T0 x0, .iface T1 x1]] w fun e w' => ∃ q, e = .returned (.tuple #[.int .i64 (op : Int), .string ⟨#[]⟩, .slice (some ⟨q, 0, none⟩) 2 2]) ∧ Below w.heap.size w w' ∧ w.heap.size ≤ q ∧ q < w'.heap.size ∧ w'.cell? ⟨q, 0, none⟩ = some (.iface T0 x0) ∧ w'.cell? ⟨q, 1, none⟩ = some (.iface T1 x1) := by
 obtain ⟨m0, m1, m2⟩ := tcells3 (heap_alloc_new w (.cells #[.int .i64 (op : Int), .iface T0 x0, .iface T1 x1] 135))
 have hz : (w.alloc (.cells #[.int .i64 (op : Int), .iface T0 x0, .iface T1 x1] 135)).heap.size = w.heap.size + 1 := by simp
 have HB0 : Hid (Below w.heap.size w (w.alloc (.cells #[.int .i64 (op : Int), .iface T0 x0, .iface T1 x1] 135))) := (Below.refl _ _).alloc (Nat.le_refl _) _
 go_enter Tryz.func211, Tryz.ntmps211
 go_wp2
 generalize w.alloc (.cells #[.int .i64 (op : Int), .iface T0 x0, .iface T1 x1] 135) = w1 at *
 go_region
 go_wp2
 go_ret3
 have hb : Below w.heap.size w ((w1.alloc (.cells #[.iface T0 x0, .iface T1 x1] 77)).drew) := HB0.out.trans ((((Below.refl _ _).alloc (Nat.le_refl _) _).drew).mono HB0.out.size)
 have hq : ((w1.alloc (.cells #[.iface T0 x0, .iface T1 x1] 77)).drew).heap[w1.heap.size]? = some (.cells #[.iface T0 x0, .iface T1 x1] 77 (0, 0)) := heap_alloc_new w1 _
 rw [hz] at hq
 refine ⟨w.heap.size + 1, rfl, hb, by omega, (Array.getElem?_eq_some_iff.1 hq).1, ?_, ?_⟩
 ·exact (tcells2 hq).1
 ·exact (tcells2 hq).2
theorem adds_two (op : Nat) (T0 : TypeId) (x0 : Value) (T1 : TypeId) (x1 : Value) (R S : Nat → Prop) (G H : Nat → List Pi) (w : World) (k0 : Adds R w (T0, x0) G) (k1 : Adds S w (T1, x1) H) : Adds (or2 R S) w (135, .agg #[.int .i64 (op : Int), .iface T0 x0, .iface T1 x1]) (Fl.node op [] [G, H]) := by
 refine ⟨fun b hb => hb.elim (k0.1 b) (k1.1 b), fun B h w' hR Xs W nv qs hlo hw hlen => ?_⟩
 refine addC_node B h op 135 (.agg #[.int .i64 (op : Int), .iface T0 x0, .iface T1 x1]) 211 [] [(T0, x0), (T1, x1)] [G, H] w' W Xs nv qs (meth_two _) (fun w => call_of Tryz.func211 (by kernel_rfl) (by kernel_rfl) _ w) hlo hw rfl (by simp) (by unfold Fl.node at hlen; simp only [List.length_append, List.length_cons, List.length_nil] at hlen; omega) (fun i hi => ?_) ?_
 ·have h01 : i = 0 ∨ i = 1 := by simp at hi; omega
  rcases h01 with rfl | rfl
  ·exact k0.2 B h w' (fun b hb => hR b (.inl hb))
  ·exact k1.2 B h w' (fun b hb => hR b (.inr hb))
 refine (asN_two op T0 x0 T1 x1 W).mono ?_
 rintro e w2 ⟨q, rfl, hb, h1, h2, c0, c1⟩
 refine ⟨_, _, rfl, hb, fun _ => ⟨q, 0, rfl, .inr h1, h2, fun i hi => ?_⟩⟩
 have h01 : i = 0 ∨ i = 1 := by simp at hi; omega
 rcases h01 with rfl | rfl
 ·exact c0
 ·exact c1
theorem meth_has (x : Value) : ∀ n w, (method (n + 1) 138 x "loop.example/g00237/impl.asNode").run Tryz.prog w = .ok (212, x) w :=
 meth_of (i := Tryz.t138) (m := (Tryz.t138.methods.find? (·.name == "loop.example/g00237/impl.asNode")).getD default) (fun w => by simp [go_sem]) (by kernel_rfl) (by kernel_rfl) (by kernel_rfl) Tryz.underlying138 x
set_option maxHeartbeats 1000000 in
set_option maxRecDepth 100000 in
theorem asN_has (t : List UInt8) (T0 : TypeId) (x0 : Value) (w : World) :
  Calls Tryz.prog 212 #[.agg #[.iface T0 x0, .string ⟨t.toArray⟩]] w fun e w' => ∃ q, e = .returned (.tuple #[.int .i64 16, .string ⟨t.toArray⟩, .slice (some ⟨q, 0, none⟩) 1 1]) ∧ Below w.heap.size w w' ∧ w.heap.size ≤ q ∧ q < w'.heap.size ∧ w'.cell? ⟨q, 0, none⟩ = some (.iface T0 x0) := by
 generalize (⟨t.toArray⟩ : ByteArray) = S at *
 obtain ⟨m0, m1⟩ := tcells2 (heap_alloc_new w (.cells #[.iface T0 x0, .string S] 138))
 have hz : (w.alloc (.cells #[.iface T0 x0, .string S] 138)).heap.size = w.heap.size + 1 := by simp
 have HB0 : Hid (Below w.heap.size w (w.alloc (.cells #[.iface T0 x0, .string S] 138))) := (Below.refl _ _).alloc (Nat.le_refl _) _
 go_enter Tryz.func212, Tryz.ntmps212
 go_wp2
 generalize w.alloc (.cells #[.iface T0 x0, .string S] 138) = w1 at *
 go_region
 go_wp2
 go_ret3
 have hb : Below w.heap.size w ((w1.alloc (.cells #[.iface T0 x0] 77)).drew) := HB0.out.trans ((((Below.refl _ _).alloc (Nat.le_refl _) _).drew).mono HB0.out.size)
 have hq : ((w1.alloc (.cells #[.iface T0 x0] 77)).drew).heap[w1.heap.size]? = some (.cells #[.iface T0 x0] 77 (0, 0)) := heap_alloc_new w1 _
 rw [hz] at hq
 refine ⟨w.heap.size + 1, rfl, hb, by omega, (Array.getElem?_eq_some_iff.1 hq).1, ?_⟩
 ·exact (wcell hq).1
theorem adds_has (t : List UInt8) (T0 : TypeId) (x0 : Value) (R : Nat → Prop) (G : Nat → List Pi) (w : World) (k0 : Adds R w (T0, x0) G) : Adds R w (138, .agg #[.iface T0 x0, .string ⟨t.toArray⟩]) (Fl.node 16 t [G]) := by
 refine ⟨k0.1, fun B h w' hR Xs W nv qs hlo hw hlen => ?_⟩
 refine addC_node B h 16 138 (.agg #[.iface T0 x0, .string ⟨t.toArray⟩]) 212 t [(T0, x0)] [G] w' W Xs nv qs (meth_has _) (fun w => call_of Tryz.func212 (by kernel_rfl) (by kernel_rfl) _ w) hlo hw rfl (by simp) (by unfold Fl.node at hlen; simp only [List.length_append, List.length_cons, List.length_nil] at hlen; omega) (fun i hi => ?_) ?_
 ·obtain rfl : i = 0 := by simp at hi; omega
  exact k0.2 B h w' hR
 refine (asN_has t T0 x0 W).mono ?_
 rintro e w2 ⟨q, rfl, hb, h1, h2, c0⟩
 refine ⟨_, _, rfl, hb, fun _ => ⟨q, 0, rfl, .inr h1, h2, fun i hi => ?_⟩⟩
 obtain rfl : i = 0 := by simp at hi; omega
 exact c0
theorem meth_set (x : Value) : ∀ n w, (method (n + 1) 164 x "loop.example/g00237/impl.asNode").run Tryz.prog w = .ok (214, x) w :=
 meth_of (i := Tryz.t164) (m := (Tryz.t164.methods.find? (·.name == "loop.example/g00237/impl.asNode")).getD default) (fun w => by simp [go_sem]) (by kernel_rfl) (by kernel_rfl) (by kernel_rfl) Tryz.underlying164 x
set_option maxHeartbeats 1000000 in
set_option maxRecDepth 100000 in
theorem asN_set (op : Nat) (t : List UInt8) (T0 : TypeId) (x0 : Value) (w : World) :
  Calls Tryz.prog 214 #[.agg #[.int .i64 (op : Int), .string ⟨t.toArray⟩, .iface T0 x0]] w fun e w' => ∃ q, e = .returned (.tuple #[.int .i64 (op : Int), .string ⟨t.toArray⟩, .slice (some ⟨q, 0, none⟩) 1 1]) ∧ Below w.heap.size w w' ∧ w.heap.size ≤ q ∧ q < w'.heap.size ∧ w'.cell? ⟨q, 0, none⟩ = some (.iface T0 x0) := by
 generalize (⟨t.toArray⟩ : ByteArray) = S at *
 obtain ⟨m0, m1, m2⟩ := tcells3 (heap_alloc_new w (.cells #[.int .i64 (op : Int), .string S, .iface T0 x0] 164))
 have hz : (w.alloc (.cells #[.int .i64 (op : Int), .string S, .iface T0 x0] 164)).heap.size = w.heap.size + 1 := by simp
 have HB0 : Hid (Below w.heap.size w (w.alloc (.cells #[.int .i64 (op : Int), .string S, .iface T0 x0] 164))) := (Below.refl _ _).alloc (Nat.le_refl _) _
 go_enter Tryz.func214, Tryz.ntmps214
 go_wp2
 generalize w.alloc (.cells #[.int .i64 (op : Int), .string S, .iface T0 x0] 164) = w1 at *
 go_region
 go_wp2
 go_ret3
 have hb : Below w.heap.size w ((w1.alloc (.cells #[.iface T0 x0] 77)).drew) := HB0.out.trans ((((Below.refl _ _).alloc (Nat.le_refl _) _).drew).mono HB0.out.size)
 have hq : ((w1.alloc (.cells #[.iface T0 x0] 77)).drew).heap[w1.heap.size]? = some (.cells #[.iface T0 x0] 77 (0, 0)) := heap_alloc_new w1 _
 rw [hz] at hq
 refine ⟨w.heap.size + 1, rfl, hb, by omega, (Array.getElem?_eq_some_iff.1 hq).1, ?_⟩
 ·exact (wcell hq).1
theorem adds_set (op : Nat) (t : List UInt8) (T0 : TypeId) (x0 : Value) (R : Nat → Prop) (G : Nat → List Pi) (w : World) (k0 : Adds R w (T0, x0) G) : Adds R w (164, .agg #[.int .i64 (op : Int), .string ⟨t.toArray⟩, .iface T0 x0]) (Fl.node op t [G]) := by
 refine ⟨k0.1, fun B h w' hR Xs W nv qs hlo hw hlen => ?_⟩
 refine addC_node B h op 164 (.agg #[.int .i64 (op : Int), .string ⟨t.toArray⟩, .iface T0 x0]) 214 t [(T0, x0)] [G] w' W Xs nv qs (meth_set _) (fun w => call_of Tryz.func214 (by kernel_rfl) (by kernel_rfl) _ w) hlo hw rfl (by simp) (by unfold Fl.node at hlen; simp only [List.length_append, List.length_cons, List.length_nil] at hlen; omega) (fun i hi => ?_) ?_
 ·obtain rfl : i = 0 := by simp at hi; omega
  exact k0.2 B h w' hR
 refine (asN_set op t T0 x0 W).mono ?_
 rintro e w2 ⟨q, rfl, hb, h1, h2, c0⟩
 refine ⟨_, _, rfl, hb, fun _ => ⟨q, 0, rfl, .inr h1, h2, fun i hi => ?_⟩⟩
 obtain rfl : i = 0 := by simp at hi; omega
 exact c0
theorem meth_setc (x : Value) : ∀ n w, (method (n + 1) 166 x "loop.example/g00237/impl.asNode").run Tryz.prog w = .ok (215, x) w :=
 meth_of (i := Tryz.t166) (m := (Tryz.t166.methods.find? (·.name == "loop.example/g00237/impl.asNode")).getD default) (fun w => by simp [go_sem]) (by kernel_rfl) (by kernel_rfl) (by kernel_rfl) Tryz.underlying166 x
set_option maxHeartbeats 1000000 in
set_option maxRecDepth 100000 in
theorem asN_setc (op : Nat) (t : List UInt8) (T0 : TypeId) (x0 : Value) (T1 : TypeId) (x1 : Value) (w : World) :
  Calls Tryz.prog 215 #[.agg #[.int .i64 (op : Int), .string ⟨t.toArray⟩, .iface T0 x0, .iface T1 x1]] w fun e w' => ∃ q, e = .returned (.tuple #[.int .i64 (op : Int), .string ⟨t.toArray⟩, .slice (some ⟨q, 0, none⟩) 2 2]) ∧ Below w.heap.size w w' ∧ w.heap.size ≤ q ∧ q < w'.heap.size ∧ w'.cell? ⟨q, 0, none⟩ = some (.iface T0 x0) ∧ w'.cell? ⟨q, 1, none⟩ = some (.iface T1 x1) := by
 generalize (⟨t.toArray⟩ : ByteArray) = S at *
 obtain ⟨m0, m1, m2, m3⟩ := tcells4 (heap_alloc_new w (.cells #[.int .i64 (op : Int), .string S, .iface T0 x0, .iface T1 x1] 166))
 have hz : (w.alloc (.cells #[.int .i64 (op : Int), .string S, .iface T0 x0, .iface T1 x1] 166)).heap.size = w.heap.size + 1 := by simp
 have HB0 : Hid (Below w.heap.size w (w.alloc (.cells #[.int .i64 (op : Int), .string S, .iface T0 x0, .iface T1 x1] 166))) := (Below.refl _ _).alloc (Nat.le_refl _) _
 go_enter Tryz.func215, Tryz.ntmps215
 go_wp2
 generalize w.alloc (.cells #[.int .i64 (op : Int), .string S, .iface T0 x0, .iface T1 x1] 166) = w1 at *
 go_region
 go_wp2
 go_ret3
 have hb : Below w.heap.size w ((w1.alloc (.cells #[.iface T0 x0, .iface T1 x1] 77)).drew) := HB0.out.trans ((((Below.refl _ _).alloc (Nat.le_refl _) _).drew).mono HB0.out.size)
 have hq : ((w1.alloc (.cells #[.iface T0 x0, .iface T1 x1] 77)).drew).heap[w1.heap.size]? = some (.cells #[.iface T0 x0, .iface T1 x1] 77 (0, 0)) := heap_alloc_new w1 _
 rw [hz] at hq
 refine ⟨w.heap.size + 1, rfl, hb, by omega, (Array.getElem?_eq_some_iff.1 hq).1, ?_, ?_⟩
 ·exact (tcells2 hq).1
 ·exact (tcells2 hq).2
theorem adds_setc (op : Nat) (t : List UInt8) (T0 : TypeId) (x0 : Value) (T1 : TypeId) (x1 : Value) (R S : Nat → Prop) (G H : Nat → List Pi) (w : World) (k0 : Adds R w (T0, x0) G) (k1 : Adds S w (T1, x1) H) : Adds (or2 R S) w (166, .agg #[.int .i64 (op : Int), .string ⟨t.toArray⟩, .iface T0 x0, .iface T1 x1]) (Fl.node op t [G, H]) := by
 refine ⟨fun b hb => hb.elim (k0.1 b) (k1.1 b), fun B h w' hR Xs W nv qs hlo hw hlen => ?_⟩
 refine addC_node B h op 166 (.agg #[.int .i64 (op : Int), .string ⟨t.toArray⟩, .iface T0 x0, .iface T1 x1]) 215 t [(T0, x0), (T1, x1)] [G, H] w' W Xs nv qs (meth_setc _) (fun w => call_of Tryz.func215 (by kernel_rfl) (by kernel_rfl) _ w) hlo hw rfl (by simp) (by unfold Fl.node at hlen; simp only [List.length_append, List.length_cons, List.length_nil] at hlen; omega) (fun i hi => ?_) ?_
 ·have h01 : i = 0 ∨ i = 1 := by simp at hi; omega
  rcases h01 with rfl | rfl
  ·exact k0.2 B h w' (fun b hb => hR b (.inl hb))
  ·exact k1.2 B h w' (fun b hb => hR b (.inr hb))
 refine (asN_setc op t T0 x0 T1 x1 W).mono ?_
 rintro e w2 ⟨q, rfl, hb, h1, h2, c0, c1⟩
 refine ⟨_, _, rfl, hb, fun _ => ⟨q, 0, rfl, .inr h1, h2, fun i hi => ?_⟩⟩
 have h01 : i = 0 ∨ i = 1 := by simp at hi; omega
 rcases h01 with rfl | rfl
 ·exact c0
 ·exact c1
theorem meth_next (x : Value) : ∀ n w, (method (n + 1) 172 x "loop.example/g00237/impl.asNode").run Tryz.prog w = .ok (219, x) w :=
 meth_of (i := Tryz.t172) (m := (Tryz.t172.methods.find? (·.name == "loop.example/g00237/impl.asNode")).getD default) (fun w => by simp [go_sem]) (by kernel_rfl) (by kernel_rfl) (by kernel_rfl) Tryz.underlying172 x
set_option maxHeartbeats 1000000 in
set_option maxRecDepth 100000 in
theorem asN_next (w : World) :
  Calls Tryz.prog 219 #[.agg #[]] w fun e w' => e = .returned (.tuple #[.int .i64 23, .string ⟨#[]⟩, .slice none 0 0]) ∧ Below w.heap.size w w' := by
 have hz : (w.alloc (.cells #[] 172)).heap.size = w.heap.size + 1 := by simp
 have HB0 : Hid (Below w.heap.size w (w.alloc (.cells #[] 172))) := (Below.refl _ _).alloc (Nat.le_refl _) _
 go_enter Tryz.func219, Tryz.ntmps219
 go_wp2
 go_ret3
 exact ⟨rfl, HB0.out⟩
theorem adds_next (w : World) : Adds (fun _ => False) w (172, .agg #[]) (Fl.node 23 [] []) := by
 refine ⟨fun b hb => hb.elim, fun B h w' _ Xs W nv qs hlo hw hlen => ?_⟩
 refine addC_node B h 23 172 (.agg #[]) 219 [] [] [] w' W Xs nv qs (meth_next _) (fun w => call_of Tryz.func219 (by kernel_rfl) (by kernel_rfl) _ w) hlo hw rfl (by simp) (by unfold Fl.node at hlen; simp only [List.length_append, List.length_cons, List.length_nil] at hlen; omega) (fun i hi => by simp at hi) ?_
 refine (asN_next W).mono ?_
 rintro e w2 ⟨rfl, hb⟩
 exact ⟨none, 0, rfl, hb, fun h0 => by simp at h0⟩
theorem meth_dump (x : Value) : ∀ n w, (method (n + 1) 171 x "loop.example/g00237/impl.asNode").run Tryz.prog w = .ok (218, x) w :=
 meth_of (i := Tryz.t171) (m := (Tryz.t171.methods.find? (·.name == "loop.example/g00237/impl.asNode")).getD default) (fun w => by simp [go_sem]) (by kernel_rfl) (by kernel_rfl) (by kernel_rfl) Tryz.underlying171 x
set_option maxHeartbeats 1000000 in
set_option maxRecDepth 100000 in
theorem asN_dump (t : List UInt8) (w : World) :
  Calls Tryz.prog 218 #[.agg #[.string ⟨t.toArray⟩]] w fun e w' => e = .returned (.tuple #[.int .i64 25, .string ⟨t.toArray⟩, .slice none 0 0]) ∧ Below w.heap.size w w' := by
 generalize (⟨t.toArray⟩ : ByteArray) = S at *
 have m0 := (wcell (heap_alloc_new w (.cells #[.string S] 171))).1
 have hz : (w.alloc (.cells #[.string S] 171)).heap.size = w.heap.size + 1 := by simp
 have HB0 : Hid (Below w.heap.size w (w.alloc (.cells #[.string S] 171))) := (Below.refl _ _).alloc (Nat.le_refl _) _
 go_enter Tryz.func218, Tryz.ntmps218
 go_wp2
 generalize w.alloc (.cells #[.string S] 171) = w1 at *
 go_region
 go_wp2
 go_ret3
 exact ⟨rfl, HB0.out.drew⟩
theorem adds_dump (t : List UInt8) (w : World) : Adds (fun _ => False) w (171, .agg #[.string ⟨t.toArray⟩]) (Fl.node 25 t []) := by
 refine ⟨fun b hb => hb.elim, fun B h w' _ Xs W nv qs hlo hw hlen => ?_⟩
 refine addC_node B h 25 171 (.agg #[.string ⟨t.toArray⟩]) 218 t [] [] w' W Xs nv qs (meth_dump _) (fun w => call_of Tryz.func218 (by kernel_rfl) (by kernel_rfl) _ w) hlo hw rfl (by simp) (by unfold Fl.node at hlen; simp only [List.length_append, List.length_cons, List.length_nil] at hlen; omega) (fun i hi => by simp at hi) ?_
 refine (asN_dump t W).mono ?_
 rintro e w2 ⟨rfl, hb⟩
 exact ⟨none, 0, rfl, hb, fun h0 => by simp at h0⟩
end Go.Proofs.YtkfkbdgfnopokaaGreatDoor
