/- The program's writer of nodes: what a tree of each type adds. -/
import Derived.Test.YtoaipdckpecpoaaGreatDoorZao
import Derived.OwnWalk
namespace Go.Proofs.YtoaipdckpecpoaaGreatDoor
open Go.RowKit

theorem meth_of {P : Program} {T : TypeId} {i : TypeInfo} {m : Method} {F : FuncId} {fs : Array Field} {name : String} (hi : ∀ w, (typeInfo T).run P w = .ok i w) (hm : i.methods.find? (·.name == name) = some m) (hp : m.path = #[]) (hf : m.func = some (F, false)) (hu : P.underlying T = some (.struct fs)) (x : Value) :
    ∀ n w, (method (n + 1) T x name).run P w = .ok (F, x) w := by
  intro n w
  simp [method, hi, hm, hp, hf, follow, receiverAt, run_underlying hu, Place.get]
theorem call_of {P : Program} {f : FuncId} {fn : Func} (hf : P.funcs[f]? = some fn) (hname : (fn.name == "runtime.NumGoroutine") = false) (hb : fn.body.isNone = false) (args : Array Value) (w : World) :
    (callFunc f args).run P w = .ok (.enter f args) w := by
  have h1 : fn.name ≠ "runtime.NumGoroutine" := by simpa using hname
  obtain ⟨c, hc⟩ : ∃ c, fn.body = some c := Option.isSome_iff_exists.1 (by simpa using hb)
  simp [callFunc, hf, h1, hc]
/-- What is added of this tree; R: the blocks that it lies in. -/
def Adds (R : Nat → Prop) (w : World) (k : TypeId × Value) (G : Nat → List Pi) : Prop :=
  (∀ b, R b → b < w.heap.size) ∧ ∀ B h w', (∀ b, R b → b < h ∧ w'.heap[b]? = w.heap[b]?) → AddC B h w' k G
theorem Adds.keep {R : Nat → Prop} {w w' : World} {k : TypeId × Value} {G : Nat → List Pi} (h : Adds R w k G) (hs : w.heap.size ≤ w'.heap.size) (hk : ∀ b, R b → w'.heap[b]? = w.heap[b]?) : Adds R w' k G :=
  ⟨fun b hb => Nat.lt_of_lt_of_le (h.1 b hb) hs, fun B hh w2 h2 => h.2 B hh w2 (fun b hb => ⟨(h2 b hb).1, (h2 b hb).2.trans (hk b hb)⟩)⟩
theorem tcells4 {w : World} {g : Nat} {a b c d : Value} {ty : TypeId} (h : w.heap[g]? = some (.cells #[a, b, c, d] ty (0, 0))) : w.cell? ⟨g, 0, none⟩ = some a ∧ w.cell? ⟨g, 1, none⟩ = some b ∧ w.cell? ⟨g, 2, none⟩ = some c ∧ w.cell? ⟨g, 3, none⟩ = some d := by
  simp [World.cell?, h]
def or2 (R S : Nat → Prop) : Nat → Prop := fun b => R b ∨ S b

theorem meth_num (x : Value) : ∀ n w, (method (n + 1) 130 x "loop.example/g00237/impl.asNode").run Tryz.prog w = .ok (209, x) w :=
  meth_of (i := Tryz.t130) (m := (Tryz.t130.methods.find? (·.name == "loop.example/g00237/impl.asNode")).getD default) (fun w => by simp [go_sem]) (by kernel_rfl) (by kernel_rfl) (by kernel_rfl) Tryz.underlying130 x
set_option maxHeartbeats 1000000 in
set_option maxRecDepth 100000 in
theorem asN_num (t : List UInt8) (w : World) :
    Calls Tryz.prog 209 #[.agg #[.string ⟨t.toArray⟩]] w fun e w' => e = .returned (.tuple #[.int .i64 1, .string ⟨t.toArray⟩, .slice none 0 0]) ∧ Below w.heap.size w w' := by
  generalize (⟨t.toArray⟩ : ByteArray) = S at *
  have m0 := (wcell (heap_alloc_new w (.cells #[.string S] 130))).1
  have hz : (w.alloc (.cells #[.string S] 130)).heap.size = w.heap.size + 1 := by simp
  have HB0 : Hid (Below w.heap.size w (w.alloc (.cells #[.string S] 130))) := (Below.refl _ _).alloc (Nat.le_refl _) _
  go_enter Tryz.func209, Tryz.ntmps209
  go_wp2
  generalize w.alloc (.cells #[.string S] 130) = w1 at *
  go_region
  go_wp2
  go_ret3
  exact ⟨rfl, HB0.out.drew⟩

theorem adds_num (t : List UInt8) (w : World) : Adds (fun _ => False) w (130, .agg #[.string ⟨t.toArray⟩]) (Fl.node 1 t []) := by
  refine ⟨fun b hb => hb.elim, fun B h w' _ Xs W nv qs hlo hw hlen => ?_⟩
  refine addC_node B h 1 130 (.agg #[.string ⟨t.toArray⟩]) 209 t [] [] w' W Xs nv qs (meth_num _) (fun w => call_of Tryz.func209 (by kernel_rfl) (by kernel_rfl) _ w) hlo hw rfl (by simp) (by unfold Fl.node at hlen; simp only [List.length_append, List.length_cons, List.length_nil] at hlen; omega) (fun i hi => by simp at hi) ?_
  refine (asN_num t W).mono ?_
  rintro e w2 ⟨rfl, hb⟩
  exact ⟨none, 0, rfl, hb, fun h0 => by simp at h0⟩

theorem meth_text (x : Value) : ∀ n w, (method (n + 1) 132 x "loop.example/g00237/impl.asNode").run Tryz.prog w = .ok (210, x) w :=
  meth_of (i := Tryz.t132) (m := (Tryz.t132.methods.find? (·.name == "loop.example/g00237/impl.asNode")).getD default) (fun w => by simp [go_sem]) (by kernel_rfl) (by kernel_rfl) (by kernel_rfl) Tryz.underlying132 x
set_option maxHeartbeats 1000000 in
set_option maxRecDepth 100000 in
theorem asN_text (t : List UInt8) (w : World) :
    Calls Tryz.prog 210 #[.agg #[.string ⟨t.toArray⟩]] w fun e w' => e = .returned (.tuple #[.int .i64 2, .string ⟨t.toArray⟩, .slice none 0 0]) ∧ Below w.heap.size w w' := by
  generalize (⟨t.toArray⟩ : ByteArray) = S at *
  have m0 := (wcell (heap_alloc_new w (.cells #[.string S] 132))).1
  have hz : (w.alloc (.cells #[.string S] 132)).heap.size = w.heap.size + 1 := by simp
  have HB0 : Hid (Below w.heap.size w (w.alloc (.cells #[.string S] 132))) := (Below.refl _ _).alloc (Nat.le_refl _) _
  go_enter Tryz.func210, Tryz.ntmps210
  go_wp2
  generalize w.alloc (.cells #[.string S] 132) = w1 at *
  go_region
  go_wp2
  go_ret3
  exact ⟨rfl, HB0.out.drew⟩

theorem adds_text (t : List UInt8) (w : World) : Adds (fun _ => False) w (132, .agg #[.string ⟨t.toArray⟩]) (Fl.node 2 t []) := by
  refine ⟨fun b hb => hb.elim, fun B h w' _ Xs W nv qs hlo hw hlen => ?_⟩
  refine addC_node B h 2 132 (.agg #[.string ⟨t.toArray⟩]) 210 t [] [] w' W Xs nv qs (meth_text _) (fun w => call_of Tryz.func210 (by kernel_rfl) (by kernel_rfl) _ w) hlo hw rfl (by simp) (by unfold Fl.node at hlen; simp only [List.length_append, List.length_cons, List.length_nil] at hlen; omega) (fun i hi => by simp at hi) ?_
  refine (asN_text t W).mono ?_
  rintro e w2 ⟨rfl, hb⟩
  exact ⟨none, 0, rfl, hb, fun h0 => by simp at h0⟩

theorem meth_name (x : Value) : ∀ n w, (method (n + 1) 134 x "loop.example/g00237/impl.asNode").run Tryz.prog w = .ok (211, x) w :=
  meth_of (i := Tryz.t134) (m := (Tryz.t134.methods.find? (·.name == "loop.example/g00237/impl.asNode")).getD default) (fun w => by simp [go_sem]) (by kernel_rfl) (by kernel_rfl) (by kernel_rfl) Tryz.underlying134 x
set_option maxHeartbeats 1000000 in
set_option maxRecDepth 100000 in
theorem asN_name (t : List UInt8) (w : World) :
    Calls Tryz.prog 211 #[.agg #[.string ⟨t.toArray⟩]] w fun e w' => e = .returned (.tuple #[.int .i64 3, .string ⟨t.toArray⟩, .slice none 0 0]) ∧ Below w.heap.size w w' := by
  generalize (⟨t.toArray⟩ : ByteArray) = S at *
  have m0 := (wcell (heap_alloc_new w (.cells #[.string S] 134))).1
  have hz : (w.alloc (.cells #[.string S] 134)).heap.size = w.heap.size + 1 := by simp
  have HB0 : Hid (Below w.heap.size w (w.alloc (.cells #[.string S] 134))) := (Below.refl _ _).alloc (Nat.le_refl _) _
  go_enter Tryz.func211, Tryz.ntmps211
  go_wp2
  generalize w.alloc (.cells #[.string S] 134) = w1 at *
  go_region
  go_wp2
  go_ret3
  exact ⟨rfl, HB0.out.drew⟩

theorem adds_name (t : List UInt8) (w : World) : Adds (fun _ => False) w (134, .agg #[.string ⟨t.toArray⟩]) (Fl.node 3 t []) := by
  refine ⟨fun b hb => hb.elim, fun B h w' _ Xs W nv qs hlo hw hlen => ?_⟩
  refine addC_node B h 3 134 (.agg #[.string ⟨t.toArray⟩]) 211 t [] [] w' W Xs nv qs (meth_name _) (fun w => call_of Tryz.func211 (by kernel_rfl) (by kernel_rfl) _ w) hlo hw rfl (by simp) (by unfold Fl.node at hlen; simp only [List.length_append, List.length_cons, List.length_nil] at hlen; omega) (fun i hi => by simp at hi) ?_
  refine (asN_name t W).mono ?_
  rintro e w2 ⟨rfl, hb⟩
  exact ⟨none, 0, rfl, hb, fun h0 => by simp at h0⟩

theorem meth_cell (x : Value) : ∀ n w, (method (n + 1) 136 x "loop.example/g00237/impl.asNode").run Tryz.prog w = .ok (212, x) w :=
  meth_of (i := Tryz.t136) (m := (Tryz.t136.methods.find? (·.name == "loop.example/g00237/impl.asNode")).getD default) (fun w => by simp [go_sem]) (by kernel_rfl) (by kernel_rfl) (by kernel_rfl) Tryz.underlying136 x
set_option maxHeartbeats 1000000 in
set_option maxRecDepth 100000 in
theorem asN_cell (t : List UInt8) (T0 : TypeId) (x0 : Value) (w : World) :
    Calls Tryz.prog 212 #[.agg #[.string ⟨t.toArray⟩, .iface T0 x0]] w fun e w' => ∃ q, e = .returned (.tuple #[.int .i64 4, .string ⟨t.toArray⟩, .slice (some ⟨q, 0, none⟩) 1 1]) ∧ Below w.heap.size w w' ∧ w.heap.size ≤ q ∧ q < w'.heap.size ∧ w'.cell? ⟨q, 0, none⟩ = some (.iface T0 x0) := by
  generalize (⟨t.toArray⟩ : ByteArray) = S at *
  obtain ⟨m0, m1⟩ := tcells2 (heap_alloc_new w (.cells #[.string S, .iface T0 x0] 136))
  have hz : (w.alloc (.cells #[.string S, .iface T0 x0] 136)).heap.size = w.heap.size + 1 := by simp
  have HB0 : Hid (Below w.heap.size w (w.alloc (.cells #[.string S, .iface T0 x0] 136))) := (Below.refl _ _).alloc (Nat.le_refl _) _
  go_enter Tryz.func212, Tryz.ntmps212
  go_wp2
  generalize w.alloc (.cells #[.string S, .iface T0 x0] 136) = w1 at *
  go_region
  go_wp2
  go_ret3
  have hb : Below w.heap.size w ((w1.alloc (.cells #[.iface T0 x0] 84)).drew) := HB0.out.trans ((((Below.refl _ _).alloc (Nat.le_refl _) _).drew).mono HB0.out.size)
  have hq : ((w1.alloc (.cells #[.iface T0 x0] 84)).drew).heap[w1.heap.size]? = some (.cells #[.iface T0 x0] 84 (0, 0)) := heap_alloc_new w1 _
  rw [hz] at hq
  refine ⟨w.heap.size + 1, rfl, hb, by omega, (Array.getElem?_eq_some_iff.1 hq).1, ?_⟩
  · exact (wcell hq).1

theorem adds_cell (t : List UInt8) (T0 : TypeId) (x0 : Value) (R : Nat → Prop) (G : Nat → List Pi) (w : World) (k0 : Adds R w (T0, x0) G) : Adds R w (136, .agg #[.string ⟨t.toArray⟩, .iface T0 x0]) (Fl.node 4 t [G]) := by
  refine ⟨k0.1, fun B h w' hR Xs W nv qs hlo hw hlen => ?_⟩
  refine addC_node B h 4 136 (.agg #[.string ⟨t.toArray⟩, .iface T0 x0]) 212 t [(T0, x0)] [G] w' W Xs nv qs (meth_cell _) (fun w => call_of Tryz.func212 (by kernel_rfl) (by kernel_rfl) _ w) hlo hw rfl (by simp) (by unfold Fl.node at hlen; simp only [List.length_append, List.length_cons, List.length_nil] at hlen; omega) (fun i hi => ?_) ?_
  · obtain rfl : i = 0 := by simp at hi; omega
    exact k0.2 B h w' hR
  refine (asN_cell t T0 x0 W).mono ?_
  rintro e w2 ⟨q, rfl, hb, h1, h2, c0⟩
  refine ⟨_, _, rfl, hb, fun _ => ⟨q, 0, rfl, .inr h1, h2, fun i hi => ?_⟩⟩
  obtain rfl : i = 0 := by simp at hi; omega
  exact c0

theorem meth_field (x : Value) : ∀ n w, (method (n + 1) 139 x "loop.example/g00237/impl.asNode").run Tryz.prog w = .ok (213, x) w :=
  meth_of (i := Tryz.t139) (m := (Tryz.t139.methods.find? (·.name == "loop.example/g00237/impl.asNode")).getD default) (fun w => by simp [go_sem]) (by kernel_rfl) (by kernel_rfl) (by kernel_rfl) Tryz.underlying139 x
set_option maxHeartbeats 1000000 in
set_option maxRecDepth 100000 in
theorem asN_field (T0 : TypeId) (x0 : Value) (w : World) :
    Calls Tryz.prog 213 #[.agg #[.iface T0 x0]] w fun e w' => ∃ q, e = .returned (.tuple #[.int .i64 5, .string ⟨#[]⟩, .slice (some ⟨q, 0, none⟩) 1 1]) ∧ Below w.heap.size w w' ∧ w.heap.size ≤ q ∧ q < w'.heap.size ∧ w'.cell? ⟨q, 0, none⟩ = some (.iface T0 x0) := by
  have m0 := (wcell (heap_alloc_new w (.cells #[.iface T0 x0] 139))).1
  have hz : (w.alloc (.cells #[.iface T0 x0] 139)).heap.size = w.heap.size + 1 := by simp
  have HB0 : Hid (Below w.heap.size w (w.alloc (.cells #[.iface T0 x0] 139))) := (Below.refl _ _).alloc (Nat.le_refl _) _
  go_enter Tryz.func213, Tryz.ntmps213
  go_wp2
  generalize w.alloc (.cells #[.iface T0 x0] 139) = w1 at *
  go_region
  go_wp2
  go_ret3
  have hb : Below w.heap.size w ((w1.alloc (.cells #[.iface T0 x0] 84)).drew) := HB0.out.trans ((((Below.refl _ _).alloc (Nat.le_refl _) _).drew).mono HB0.out.size)
  have hq : ((w1.alloc (.cells #[.iface T0 x0] 84)).drew).heap[w1.heap.size]? = some (.cells #[.iface T0 x0] 84 (0, 0)) := heap_alloc_new w1 _
  rw [hz] at hq
  refine ⟨w.heap.size + 1, rfl, hb, by omega, (Array.getElem?_eq_some_iff.1 hq).1, ?_⟩
  · exact (wcell hq).1

theorem adds_field (T0 : TypeId) (x0 : Value) (R : Nat → Prop) (G : Nat → List Pi) (w : World) (k0 : Adds R w (T0, x0) G) : Adds R w (139, .agg #[.iface T0 x0]) (Fl.node 5 [] [G]) := by
  refine ⟨k0.1, fun B h w' hR Xs W nv qs hlo hw hlen => ?_⟩
  refine addC_node B h 5 139 (.agg #[.iface T0 x0]) 213 [] [(T0, x0)] [G] w' W Xs nv qs (meth_field _) (fun w => call_of Tryz.func213 (by kernel_rfl) (by kernel_rfl) _ w) hlo hw rfl (by simp) (by unfold Fl.node at hlen; simp only [List.length_append, List.length_cons, List.length_nil] at hlen; omega) (fun i hi => ?_) ?_
  · obtain rfl : i = 0 := by simp at hi; omega
    exact k0.2 B h w' hR
  refine (asN_field T0 x0 W).mono ?_
  rintro e w2 ⟨q, rfl, hb, h1, h2, c0⟩
  refine ⟨_, _, rfl, hb, fun _ => ⟨q, 0, rfl, .inr h1, h2, fun i hi => ?_⟩⟩
  obtain rfl : i = 0 := by simp at hi; omega
  exact c0

theorem meth_fields (x : Value) : ∀ n w, (method (n + 1) 140 x "loop.example/g00237/impl.asNode").run Tryz.prog w = .ok (214, x) w :=
  meth_of (i := Tryz.t140) (m := (Tryz.t140.methods.find? (·.name == "loop.example/g00237/impl.asNode")).getD default) (fun w => by simp [go_sem]) (by kernel_rfl) (by kernel_rfl) (by kernel_rfl) Tryz.underlying140 x
set_option maxHeartbeats 1000000 in
set_option maxRecDepth 100000 in
theorem asN_fields (w : World) :
    Calls Tryz.prog 214 #[.agg #[]] w fun e w' => e = .returned (.tuple #[.int .i64 6, .string ⟨#[]⟩, .slice none 0 0]) ∧ Below w.heap.size w w' := by
  have hz : (w.alloc (.cells #[] 140)).heap.size = w.heap.size + 1 := by simp
  have HB0 : Hid (Below w.heap.size w (w.alloc (.cells #[] 140))) := (Below.refl _ _).alloc (Nat.le_refl _) _
  go_enter Tryz.func214, Tryz.ntmps214
  go_wp2
  go_ret3
  exact ⟨rfl, HB0.out⟩

theorem adds_fields (w : World) : Adds (fun _ => False) w (140, .agg #[]) (Fl.node 6 [] []) := by
  refine ⟨fun b hb => hb.elim, fun B h w' _ Xs W nv qs hlo hw hlen => ?_⟩
  refine addC_node B h 6 140 (.agg #[]) 214 [] [] [] w' W Xs nv qs (meth_fields _) (fun w => call_of Tryz.func214 (by kernel_rfl) (by kernel_rfl) _ w) hlo hw rfl (by simp) (by unfold Fl.node at hlen; simp only [List.length_append, List.length_cons, List.length_nil] at hlen; omega) (fun i hi => by simp at hi) ?_
  refine (asN_fields W).mono ?_
  rintro e w2 ⟨rfl, hb⟩
  exact ⟨none, 0, rfl, hb, fun h0 => by simp at h0⟩

theorem meth_line (x : Value) : ∀ n w, (method (n + 1) 141 x "loop.example/g00237/impl.asNode").run Tryz.prog w = .ok (215, x) w :=
  meth_of (i := Tryz.t141) (m := (Tryz.t141.methods.find? (·.name == "loop.example/g00237/impl.asNode")).getD default) (fun w => by simp [go_sem]) (by kernel_rfl) (by kernel_rfl) (by kernel_rfl) Tryz.underlying141 x
set_option maxHeartbeats 1000000 in
set_option maxRecDepth 100000 in
theorem asN_line (w : World) :
    Calls Tryz.prog 215 #[.agg #[]] w fun e w' => e = .returned (.tuple #[.int .i64 7, .string ⟨#[]⟩, .slice none 0 0]) ∧ Below w.heap.size w w' := by
  have hz : (w.alloc (.cells #[] 141)).heap.size = w.heap.size + 1 := by simp
  have HB0 : Hid (Below w.heap.size w (w.alloc (.cells #[] 141))) := (Below.refl _ _).alloc (Nat.le_refl _) _
  go_enter Tryz.func215, Tryz.ntmps215
  go_wp2
  go_ret3
  exact ⟨rfl, HB0.out⟩

theorem adds_line (w : World) : Adds (fun _ => False) w (141, .agg #[]) (Fl.node 7 [] []) := by
  refine ⟨fun b hb => hb.elim, fun B h w' _ Xs W nv qs hlo hw hlen => ?_⟩
  refine addC_node B h 7 141 (.agg #[]) 215 [] [] [] w' W Xs nv qs (meth_line _) (fun w => call_of Tryz.func215 (by kernel_rfl) (by kernel_rfl) _ w) hlo hw rfl (by simp) (by unfold Fl.node at hlen; simp only [List.length_append, List.length_cons, List.length_nil] at hlen; omega) (fun i hi => by simp at hi) ?_
  refine (asN_line W).mono ?_
  rintro e w2 ⟨rfl, hb⟩
  exact ⟨none, 0, rfl, hb, fun h0 => by simp at h0⟩

theorem meth_long (x : Value) : ∀ n w, (method (n + 1) 142 x "loop.example/g00237/impl.asNode").run Tryz.prog w = .ok (216, x) w :=
  meth_of (i := Tryz.t142) (m := (Tryz.t142.methods.find? (·.name == "loop.example/g00237/impl.asNode")).getD default) (fun w => by simp [go_sem]) (by kernel_rfl) (by kernel_rfl) (by kernel_rfl) Tryz.underlying142 x
set_option maxHeartbeats 1000000 in
set_option maxRecDepth 100000 in
theorem asN_long (T0 : TypeId) (x0 : Value) (w : World) :
    Calls Tryz.prog 216 #[.agg #[.iface T0 x0]] w fun e w' => ∃ q, e = .returned (.tuple #[.int .i64 8, .string ⟨#[]⟩, .slice (some ⟨q, 0, none⟩) 1 1]) ∧ Below w.heap.size w w' ∧ w.heap.size ≤ q ∧ q < w'.heap.size ∧ w'.cell? ⟨q, 0, none⟩ = some (.iface T0 x0) := by
  have m0 := (wcell (heap_alloc_new w (.cells #[.iface T0 x0] 142))).1
  have hz : (w.alloc (.cells #[.iface T0 x0] 142)).heap.size = w.heap.size + 1 := by simp
  have HB0 : Hid (Below w.heap.size w (w.alloc (.cells #[.iface T0 x0] 142))) := (Below.refl _ _).alloc (Nat.le_refl _) _
  go_enter Tryz.func216, Tryz.ntmps216
  go_wp2
  generalize w.alloc (.cells #[.iface T0 x0] 142) = w1 at *
  go_region
  go_wp2
  go_ret3
  have hb : Below w.heap.size w ((w1.alloc (.cells #[.iface T0 x0] 84)).drew) := HB0.out.trans ((((Below.refl _ _).alloc (Nat.le_refl _) _).drew).mono HB0.out.size)
  have hq : ((w1.alloc (.cells #[.iface T0 x0] 84)).drew).heap[w1.heap.size]? = some (.cells #[.iface T0 x0] 84 (0, 0)) := heap_alloc_new w1 _
  rw [hz] at hq
  refine ⟨w.heap.size + 1, rfl, hb, by omega, (Array.getElem?_eq_some_iff.1 hq).1, ?_⟩
  · exact (wcell hq).1

theorem adds_long (T0 : TypeId) (x0 : Value) (R : Nat → Prop) (G : Nat → List Pi) (w : World) (k0 : Adds R w (T0, x0) G) : Adds R w (142, .agg #[.iface T0 x0]) (Fl.node 8 [] [G]) := by
  refine ⟨k0.1, fun B h w' hR Xs W nv qs hlo hw hlen => ?_⟩
  refine addC_node B h 8 142 (.agg #[.iface T0 x0]) 216 [] [(T0, x0)] [G] w' W Xs nv qs (meth_long _) (fun w => call_of Tryz.func216 (by kernel_rfl) (by kernel_rfl) _ w) hlo hw rfl (by simp) (by unfold Fl.node at hlen; simp only [List.length_append, List.length_cons, List.length_nil] at hlen; omega) (fun i hi => ?_) ?_
  · obtain rfl : i = 0 := by simp at hi; omega
    exact k0.2 B h w' hR
  refine (asN_long T0 x0 W).mono ?_
  rintro e w2 ⟨q, rfl, hb, h1, h2, c0⟩
  refine ⟨_, _, rfl, hb, fun _ => ⟨q, 0, rfl, .inr h1, h2, fun i hi => ?_⟩⟩
  obtain rfl : i = 0 := by simp at hi; omega
  exact c0

theorem meth_two (x : Value) : ∀ n w, (method (n + 1) 144 x "loop.example/g00237/impl.asNode").run Tryz.prog w = .ok (217, x) w :=
  meth_of (i := Tryz.t144) (m := (Tryz.t144.methods.find? (·.name == "loop.example/g00237/impl.asNode")).getD default) (fun w => by simp [go_sem]) (by kernel_rfl) (by kernel_rfl) (by kernel_rfl) Tryz.underlying144 x
set_option maxHeartbeats 1000000 in
set_option maxRecDepth 100000 in
theorem asN_two (op : Nat) (T0 : TypeId) (x0 : Value) (T1 : TypeId) (x1 : Value) (w : World) :
    Calls Tryz.prog 217 #[.agg #[.int .i64 (op : Int), .iface T0 x0, .iface T1 x1]] w fun e w' => ∃ q, e = .returned (.tuple #[.int .i64 (op : Int), .string ⟨#[]⟩, .slice (some ⟨q, 0, none⟩) 2 2]) ∧ Below w.heap.size w w' ∧ w.heap.size ≤ q ∧ q < w'.heap.size ∧ w'.cell? ⟨q, 0, none⟩ = some (.iface T0 x0) ∧ w'.cell? ⟨q, 1, none⟩ = some (.iface T1 x1) := by
  obtain ⟨m0, m1, m2⟩ := tcells3 (heap_alloc_new w (.cells #[.int .i64 (op : Int), .iface T0 x0, .iface T1 x1] 144))
  have hz : (w.alloc (.cells #[.int .i64 (op : Int), .iface T0 x0, .iface T1 x1] 144)).heap.size = w.heap.size + 1 := by simp
  have HB0 : Hid (Below w.heap.size w (w.alloc (.cells #[.int .i64 (op : Int), .iface T0 x0, .iface T1 x1] 144))) := (Below.refl _ _).alloc (Nat.le_refl _) _
  go_enter Tryz.func217, Tryz.ntmps217
  go_wp2
  generalize w.alloc (.cells #[.int .i64 (op : Int), .iface T0 x0, .iface T1 x1] 144) = w1 at *
  go_region
  go_wp2
  go_ret3
  have hb : Below w.heap.size w ((w1.alloc (.cells #[.iface T0 x0, .iface T1 x1] 84)).drew) := HB0.out.trans ((((Below.refl _ _).alloc (Nat.le_refl _) _).drew).mono HB0.out.size)
  have hq : ((w1.alloc (.cells #[.iface T0 x0, .iface T1 x1] 84)).drew).heap[w1.heap.size]? = some (.cells #[.iface T0 x0, .iface T1 x1] 84 (0, 0)) := heap_alloc_new w1 _
  rw [hz] at hq
  refine ⟨w.heap.size + 1, rfl, hb, by omega, (Array.getElem?_eq_some_iff.1 hq).1, ?_, ?_⟩
  · exact (tcells2 hq).1
  · exact (tcells2 hq).2

theorem adds_two (op : Nat) (T0 : TypeId) (x0 : Value) (T1 : TypeId) (x1 : Value) (R S : Nat → Prop) (G H : Nat → List Pi) (w : World) (k0 : Adds R w (T0, x0) G) (k1 : Adds S w (T1, x1) H) : Adds (or2 R S) w (144, .agg #[.int .i64 (op : Int), .iface T0 x0, .iface T1 x1]) (Fl.node op [] [G, H]) := by
  refine ⟨fun b hb => hb.elim (k0.1 b) (k1.1 b), fun B h w' hR Xs W nv qs hlo hw hlen => ?_⟩
  refine addC_node B h op 144 (.agg #[.int .i64 (op : Int), .iface T0 x0, .iface T1 x1]) 217 [] [(T0, x0), (T1, x1)] [G, H] w' W Xs nv qs (meth_two _) (fun w => call_of Tryz.func217 (by kernel_rfl) (by kernel_rfl) _ w) hlo hw rfl (by simp) (by unfold Fl.node at hlen; simp only [List.length_append, List.length_cons, List.length_nil] at hlen; omega) (fun i hi => ?_) ?_
  · have h01 : i = 0 ∨ i = 1 := by simp at hi; omega
    rcases h01 with rfl | rfl
    · exact k0.2 B h w' (fun b hb => hR b (.inl hb))
    · exact k1.2 B h w' (fun b hb => hR b (.inr hb))
  refine (asN_two op T0 x0 T1 x1 W).mono ?_
  rintro e w2 ⟨q, rfl, hb, h1, h2, c0, c1⟩
  refine ⟨_, _, rfl, hb, fun _ => ⟨q, 0, rfl, .inr h1, h2, fun i hi => ?_⟩⟩
  have h01 : i = 0 ∨ i = 1 := by simp at hi; omega
  rcases h01 with rfl | rfl
  · exact c0
  · exact c1

theorem meth_has (x : Value) : ∀ n w, (method (n + 1) 147 x "loop.example/g00237/impl.asNode").run Tryz.prog w = .ok (218, x) w :=
  meth_of (i := Tryz.t147) (m := (Tryz.t147.methods.find? (·.name == "loop.example/g00237/impl.asNode")).getD default) (fun w => by simp [go_sem]) (by kernel_rfl) (by kernel_rfl) (by kernel_rfl) Tryz.underlying147 x
set_option maxHeartbeats 1000000 in
set_option maxRecDepth 100000 in
theorem asN_has (t : List UInt8) (T0 : TypeId) (x0 : Value) (w : World) :
    Calls Tryz.prog 218 #[.agg #[.iface T0 x0, .string ⟨t.toArray⟩]] w fun e w' => ∃ q, e = .returned (.tuple #[.int .i64 16, .string ⟨t.toArray⟩, .slice (some ⟨q, 0, none⟩) 1 1]) ∧ Below w.heap.size w w' ∧ w.heap.size ≤ q ∧ q < w'.heap.size ∧ w'.cell? ⟨q, 0, none⟩ = some (.iface T0 x0) := by
  generalize (⟨t.toArray⟩ : ByteArray) = S at *
  obtain ⟨m0, m1⟩ := tcells2 (heap_alloc_new w (.cells #[.iface T0 x0, .string S] 147))
  have hz : (w.alloc (.cells #[.iface T0 x0, .string S] 147)).heap.size = w.heap.size + 1 := by simp
  have HB0 : Hid (Below w.heap.size w (w.alloc (.cells #[.iface T0 x0, .string S] 147))) := (Below.refl _ _).alloc (Nat.le_refl _) _
  go_enter Tryz.func218, Tryz.ntmps218
  go_wp2
  generalize w.alloc (.cells #[.iface T0 x0, .string S] 147) = w1 at *
  go_region
  go_wp2
  go_ret3
  have hb : Below w.heap.size w ((w1.alloc (.cells #[.iface T0 x0] 84)).drew) := HB0.out.trans ((((Below.refl _ _).alloc (Nat.le_refl _) _).drew).mono HB0.out.size)
  have hq : ((w1.alloc (.cells #[.iface T0 x0] 84)).drew).heap[w1.heap.size]? = some (.cells #[.iface T0 x0] 84 (0, 0)) := heap_alloc_new w1 _
  rw [hz] at hq
  refine ⟨w.heap.size + 1, rfl, hb, by omega, (Array.getElem?_eq_some_iff.1 hq).1, ?_⟩
  · exact (wcell hq).1

theorem adds_has (t : List UInt8) (T0 : TypeId) (x0 : Value) (R : Nat → Prop) (G : Nat → List Pi) (w : World) (k0 : Adds R w (T0, x0) G) : Adds R w (147, .agg #[.iface T0 x0, .string ⟨t.toArray⟩]) (Fl.node 16 t [G]) := by
  refine ⟨k0.1, fun B h w' hR Xs W nv qs hlo hw hlen => ?_⟩
  refine addC_node B h 16 147 (.agg #[.iface T0 x0, .string ⟨t.toArray⟩]) 218 t [(T0, x0)] [G] w' W Xs nv qs (meth_has _) (fun w => call_of Tryz.func218 (by kernel_rfl) (by kernel_rfl) _ w) hlo hw rfl (by simp) (by unfold Fl.node at hlen; simp only [List.length_append, List.length_cons, List.length_nil] at hlen; omega) (fun i hi => ?_) ?_
  · obtain rfl : i = 0 := by simp at hi; omega
    exact k0.2 B h w' hR
  refine (asN_has t T0 x0 W).mono ?_
  rintro e w2 ⟨q, rfl, hb, h1, h2, c0⟩
  refine ⟨_, _, rfl, hb, fun _ => ⟨q, 0, rfl, .inr h1, h2, fun i hi => ?_⟩⟩
  obtain rfl : i = 0 := by simp at hi; omega
  exact c0

theorem meth_set (x : Value) : ∀ n w, (method (n + 1) 173 x "loop.example/g00237/impl.asNode").run Tryz.prog w = .ok (220, x) w :=
  meth_of (i := Tryz.t173) (m := (Tryz.t173.methods.find? (·.name == "loop.example/g00237/impl.asNode")).getD default) (fun w => by simp [go_sem]) (by kernel_rfl) (by kernel_rfl) (by kernel_rfl) Tryz.underlying173 x
set_option maxHeartbeats 1000000 in
set_option maxRecDepth 100000 in
theorem asN_set (op : Nat) (t : List UInt8) (T0 : TypeId) (x0 : Value) (w : World) :
    Calls Tryz.prog 220 #[.agg #[.int .i64 (op : Int), .string ⟨t.toArray⟩, .iface T0 x0]] w fun e w' => ∃ q, e = .returned (.tuple #[.int .i64 (op : Int), .string ⟨t.toArray⟩, .slice (some ⟨q, 0, none⟩) 1 1]) ∧ Below w.heap.size w w' ∧ w.heap.size ≤ q ∧ q < w'.heap.size ∧ w'.cell? ⟨q, 0, none⟩ = some (.iface T0 x0) := by
  generalize (⟨t.toArray⟩ : ByteArray) = S at *
  obtain ⟨m0, m1, m2⟩ := tcells3 (heap_alloc_new w (.cells #[.int .i64 (op : Int), .string S, .iface T0 x0] 173))
  have hz : (w.alloc (.cells #[.int .i64 (op : Int), .string S, .iface T0 x0] 173)).heap.size = w.heap.size + 1 := by simp
  have HB0 : Hid (Below w.heap.size w (w.alloc (.cells #[.int .i64 (op : Int), .string S, .iface T0 x0] 173))) := (Below.refl _ _).alloc (Nat.le_refl _) _
  go_enter Tryz.func220, Tryz.ntmps220
  go_wp2
  generalize w.alloc (.cells #[.int .i64 (op : Int), .string S, .iface T0 x0] 173) = w1 at *
  go_region
  go_wp2
  go_ret3
  have hb : Below w.heap.size w ((w1.alloc (.cells #[.iface T0 x0] 84)).drew) := HB0.out.trans ((((Below.refl _ _).alloc (Nat.le_refl _) _).drew).mono HB0.out.size)
  have hq : ((w1.alloc (.cells #[.iface T0 x0] 84)).drew).heap[w1.heap.size]? = some (.cells #[.iface T0 x0] 84 (0, 0)) := heap_alloc_new w1 _
  rw [hz] at hq
  refine ⟨w.heap.size + 1, rfl, hb, by omega, (Array.getElem?_eq_some_iff.1 hq).1, ?_⟩
  · exact (wcell hq).1

theorem adds_set (op : Nat) (t : List UInt8) (T0 : TypeId) (x0 : Value) (R : Nat → Prop) (G : Nat → List Pi) (w : World) (k0 : Adds R w (T0, x0) G) : Adds R w (173, .agg #[.int .i64 (op : Int), .string ⟨t.toArray⟩, .iface T0 x0]) (Fl.node op t [G]) := by
  refine ⟨k0.1, fun B h w' hR Xs W nv qs hlo hw hlen => ?_⟩
  refine addC_node B h op 173 (.agg #[.int .i64 (op : Int), .string ⟨t.toArray⟩, .iface T0 x0]) 220 t [(T0, x0)] [G] w' W Xs nv qs (meth_set _) (fun w => call_of Tryz.func220 (by kernel_rfl) (by kernel_rfl) _ w) hlo hw rfl (by simp) (by unfold Fl.node at hlen; simp only [List.length_append, List.length_cons, List.length_nil] at hlen; omega) (fun i hi => ?_) ?_
  · obtain rfl : i = 0 := by simp at hi; omega
    exact k0.2 B h w' hR
  refine (asN_set op t T0 x0 W).mono ?_
  rintro e w2 ⟨q, rfl, hb, h1, h2, c0⟩
  refine ⟨_, _, rfl, hb, fun _ => ⟨q, 0, rfl, .inr h1, h2, fun i hi => ?_⟩⟩
  obtain rfl : i = 0 := by simp at hi; omega
  exact c0

theorem meth_setc (x : Value) : ∀ n w, (method (n + 1) 175 x "loop.example/g00237/impl.asNode").run Tryz.prog w = .ok (221, x) w :=
  meth_of (i := Tryz.t175) (m := (Tryz.t175.methods.find? (·.name == "loop.example/g00237/impl.asNode")).getD default) (fun w => by simp [go_sem]) (by kernel_rfl) (by kernel_rfl) (by kernel_rfl) Tryz.underlying175 x
set_option maxHeartbeats 1000000 in
set_option maxRecDepth 100000 in
theorem asN_setc (op : Nat) (t : List UInt8) (T0 : TypeId) (x0 : Value) (T1 : TypeId) (x1 : Value) (w : World) :
    Calls Tryz.prog 221 #[.agg #[.int .i64 (op : Int), .string ⟨t.toArray⟩, .iface T0 x0, .iface T1 x1]] w fun e w' => ∃ q, e = .returned (.tuple #[.int .i64 (op : Int), .string ⟨t.toArray⟩, .slice (some ⟨q, 0, none⟩) 2 2]) ∧ Below w.heap.size w w' ∧ w.heap.size ≤ q ∧ q < w'.heap.size ∧ w'.cell? ⟨q, 0, none⟩ = some (.iface T0 x0) ∧ w'.cell? ⟨q, 1, none⟩ = some (.iface T1 x1) := by
  generalize (⟨t.toArray⟩ : ByteArray) = S at *
  obtain ⟨m0, m1, m2, m3⟩ := tcells4 (heap_alloc_new w (.cells #[.int .i64 (op : Int), .string S, .iface T0 x0, .iface T1 x1] 175))
  have hz : (w.alloc (.cells #[.int .i64 (op : Int), .string S, .iface T0 x0, .iface T1 x1] 175)).heap.size = w.heap.size + 1 := by simp
  have HB0 : Hid (Below w.heap.size w (w.alloc (.cells #[.int .i64 (op : Int), .string S, .iface T0 x0, .iface T1 x1] 175))) := (Below.refl _ _).alloc (Nat.le_refl _) _
  go_enter Tryz.func221, Tryz.ntmps221
  go_wp2
  generalize w.alloc (.cells #[.int .i64 (op : Int), .string S, .iface T0 x0, .iface T1 x1] 175) = w1 at *
  go_region
  go_wp2
  go_ret3
  have hb : Below w.heap.size w ((w1.alloc (.cells #[.iface T0 x0, .iface T1 x1] 84)).drew) := HB0.out.trans ((((Below.refl _ _).alloc (Nat.le_refl _) _).drew).mono HB0.out.size)
  have hq : ((w1.alloc (.cells #[.iface T0 x0, .iface T1 x1] 84)).drew).heap[w1.heap.size]? = some (.cells #[.iface T0 x0, .iface T1 x1] 84 (0, 0)) := heap_alloc_new w1 _
  rw [hz] at hq
  refine ⟨w.heap.size + 1, rfl, hb, by omega, (Array.getElem?_eq_some_iff.1 hq).1, ?_, ?_⟩
  · exact (tcells2 hq).1
  · exact (tcells2 hq).2

theorem adds_setc (op : Nat) (t : List UInt8) (T0 : TypeId) (x0 : Value) (T1 : TypeId) (x1 : Value) (R S : Nat → Prop) (G H : Nat → List Pi) (w : World) (k0 : Adds R w (T0, x0) G) (k1 : Adds S w (T1, x1) H) : Adds (or2 R S) w (175, .agg #[.int .i64 (op : Int), .string ⟨t.toArray⟩, .iface T0 x0, .iface T1 x1]) (Fl.node op t [G, H]) := by
  refine ⟨fun b hb => hb.elim (k0.1 b) (k1.1 b), fun B h w' hR Xs W nv qs hlo hw hlen => ?_⟩
  refine addC_node B h op 175 (.agg #[.int .i64 (op : Int), .string ⟨t.toArray⟩, .iface T0 x0, .iface T1 x1]) 221 t [(T0, x0), (T1, x1)] [G, H] w' W Xs nv qs (meth_setc _) (fun w => call_of Tryz.func221 (by kernel_rfl) (by kernel_rfl) _ w) hlo hw rfl (by simp) (by unfold Fl.node at hlen; simp only [List.length_append, List.length_cons, List.length_nil] at hlen; omega) (fun i hi => ?_) ?_
  · have h01 : i = 0 ∨ i = 1 := by simp at hi; omega
    rcases h01 with rfl | rfl
    · exact k0.2 B h w' (fun b hb => hR b (.inl hb))
    · exact k1.2 B h w' (fun b hb => hR b (.inr hb))
  refine (asN_setc op t T0 x0 T1 x1 W).mono ?_
  rintro e w2 ⟨q, rfl, hb, h1, h2, c0, c1⟩
  refine ⟨_, _, rfl, hb, fun _ => ⟨q, 0, rfl, .inr h1, h2, fun i hi => ?_⟩⟩
  have h01 : i = 0 ∨ i = 1 := by simp at hi; omega
  rcases h01 with rfl | rfl
  · exact c0
  · exact c1

theorem meth_next (x : Value) : ∀ n w, (method (n + 1) 181 x "loop.example/g00237/impl.asNode").run Tryz.prog w = .ok (225, x) w :=
  meth_of (i := Tryz.t181) (m := (Tryz.t181.methods.find? (·.name == "loop.example/g00237/impl.asNode")).getD default) (fun w => by simp [go_sem]) (by kernel_rfl) (by kernel_rfl) (by kernel_rfl) Tryz.underlying181 x
set_option maxHeartbeats 1000000 in
set_option maxRecDepth 100000 in
theorem asN_next (w : World) :
    Calls Tryz.prog 225 #[.agg #[]] w fun e w' => e = .returned (.tuple #[.int .i64 23, .string ⟨#[]⟩, .slice none 0 0]) ∧ Below w.heap.size w w' := by
  have hz : (w.alloc (.cells #[] 181)).heap.size = w.heap.size + 1 := by simp
  have HB0 : Hid (Below w.heap.size w (w.alloc (.cells #[] 181))) := (Below.refl _ _).alloc (Nat.le_refl _) _
  go_enter Tryz.func225, Tryz.ntmps225
  go_wp2
  go_ret3
  exact ⟨rfl, HB0.out⟩

theorem adds_next (w : World) : Adds (fun _ => False) w (181, .agg #[]) (Fl.node 23 [] []) := by
  refine ⟨fun b hb => hb.elim, fun B h w' _ Xs W nv qs hlo hw hlen => ?_⟩
  refine addC_node B h 23 181 (.agg #[]) 225 [] [] [] w' W Xs nv qs (meth_next _) (fun w => call_of Tryz.func225 (by kernel_rfl) (by kernel_rfl) _ w) hlo hw rfl (by simp) (by unfold Fl.node at hlen; simp only [List.length_append, List.length_cons, List.length_nil] at hlen; omega) (fun i hi => by simp at hi) ?_
  refine (asN_next W).mono ?_
  rintro e w2 ⟨rfl, hb⟩
  exact ⟨none, 0, rfl, hb, fun h0 => by simp at h0⟩

theorem meth_dump (x : Value) : ∀ n w, (method (n + 1) 180 x "loop.example/g00237/impl.asNode").run Tryz.prog w = .ok (224, x) w :=
  meth_of (i := Tryz.t180) (m := (Tryz.t180.methods.find? (·.name == "loop.example/g00237/impl.asNode")).getD default) (fun w => by simp [go_sem]) (by kernel_rfl) (by kernel_rfl) (by kernel_rfl) Tryz.underlying180 x
set_option maxHeartbeats 1000000 in
set_option maxRecDepth 100000 in
theorem asN_dump (t : List UInt8) (w : World) :
    Calls Tryz.prog 224 #[.agg #[.string ⟨t.toArray⟩]] w fun e w' => e = .returned (.tuple #[.int .i64 25, .string ⟨t.toArray⟩, .slice none 0 0]) ∧ Below w.heap.size w w' := by
  generalize (⟨t.toArray⟩ : ByteArray) = S at *
  have m0 := (wcell (heap_alloc_new w (.cells #[.string S] 180))).1
  have hz : (w.alloc (.cells #[.string S] 180)).heap.size = w.heap.size + 1 := by simp
  have HB0 : Hid (Below w.heap.size w (w.alloc (.cells #[.string S] 180))) := (Below.refl _ _).alloc (Nat.le_refl _) _
  go_enter Tryz.func224, Tryz.ntmps224
  go_wp2
  generalize w.alloc (.cells #[.string S] 180) = w1 at *
  go_region
  go_wp2
  go_ret3
  exact ⟨rfl, HB0.out.drew⟩

theorem adds_dump (t : List UInt8) (w : World) : Adds (fun _ => False) w (180, .agg #[.string ⟨t.toArray⟩]) (Fl.node 25 t []) := by
  refine ⟨fun b hb => hb.elim, fun B h w' _ Xs W nv qs hlo hw hlen => ?_⟩
  refine addC_node B h 25 180 (.agg #[.string ⟨t.toArray⟩]) 224 t [] [] w' W Xs nv qs (meth_dump _) (fun w => call_of Tryz.func224 (by kernel_rfl) (by kernel_rfl) _ w) hlo hw rfl (by simp) (by unfold Fl.node at hlen; simp only [List.length_append, List.length_cons, List.length_nil] at hlen; omega) (fun i hi => by simp at hi) ?_
  refine (asN_dump t W).mono ?_
  rintro e w2 ⟨rfl, hb⟩
  exact ⟨none, 0, rfl, hb, fun h0 => by simp at h0⟩

end Go.Proofs.YtoaipdckpecpoaaGreatDoor
