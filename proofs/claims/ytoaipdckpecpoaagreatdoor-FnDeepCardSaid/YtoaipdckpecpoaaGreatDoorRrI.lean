/- The program's writer of nodes: what a row of trees adds. -/
import Derived.Test.YtoaipdckpecpoaaGreatDoorRrH
namespace Go.Proofs.YtoaipdckpecpoaaGreatDoor
open Go.RowKit

/-- The blocks of a row of trees, and of the trees in it. -/
def Rw (pa : Option Addr) (n : Nat) (Rs : Nat → Nat → Prop) : Nat → Prop := fun b => (0 < n ∧ pa.map (·.block) = some b) ∨ ∃ i, i < n ∧ Rs i b

theorem meth_print (x : Value) : ∀ n w, (method (n + 1) 171 x "loop.example/g00237/impl.asNode").run Tryz.prog w = .ok (219, x) w :=
  meth_of (i := Tryz.t171) (m := (Tryz.t171.methods.find? (·.name == "loop.example/g00237/impl.asNode")).getD default) (fun w => by simp [go_sem]) (by kernel_rfl) (by kernel_rfl) (by kernel_rfl) Tryz.underlying171 x
set_option maxHeartbeats 1000000 in
set_option maxRecDepth 100000 in
theorem asN_print (pa : Option Addr) (n pc : Nat) (w : World) :
    Calls Tryz.prog 219 #[.agg #[.slice pa n pc]] w fun e w' => e = .returned (.tuple #[.int .i64 17, .string ⟨#[]⟩, .slice pa n pc]) ∧ Below w.heap.size w w' := by
  have m0 := (wcell (heap_alloc_new w (.cells #[.slice pa n pc] 171))).1
  have hz : (w.alloc (.cells #[.slice pa n pc] 171)).heap.size = w.heap.size + 1 := by simp
  have HB0 : Hid (Below w.heap.size w (w.alloc (.cells #[.slice pa n pc] 171))) := (Below.refl _ _).alloc (Nat.le_refl _) _
  go_enter Tryz.func219, Tryz.ntmps219
  go_wp2
  generalize w.alloc (.cells #[.slice pa n pc] 171) = w1 at *
  go_region
  go_wp2
  go_ret3
  exact ⟨rfl, HB0.out.drew⟩
theorem adds_print (pa : Option Addr) (pc : Nat) (kt : List (TypeId × Value)) (Gs : List (Nat → List Pi)) (Rs : Nat → Nat → Prop) (w : World) (hgl : Gs.length = kt.length) (hkl : kt.length ≤ 1000)
    (hc : 0 < kt.length → ∃ pb po, pa = some ⟨pb, po, none⟩ ∧ pb < w.heap.size ∧ ∀ i, i < kt.length → w.cell? ⟨pb, po + i, none⟩ = some (.iface (kt.getD i tno).1 (kt.getD i tno).2))
    (hk : ∀ i, i < kt.length → Adds (Rs i) w (kt.getD i tno) (Gs.getD i Fl.no)) : Adds (Rw pa kt.length Rs) w (171, .agg #[.slice pa kt.length pc]) (Fl.node 17 [] Gs) := by
  refine ⟨fun b hb => ?_, fun B h w' hR Xs W nv qs hlo hw hlen => ?_⟩
  · rcases hb with ⟨h0, hb⟩ | ⟨i, hi, hb⟩
    · obtain ⟨pb, po, rfl, hp, -⟩ := hc h0
      obtain rfl : pb = b := by simpa using hb
      exact hp
    · exact (hk i hi).1 b hb
  refine addC_node B h 17 171 (.agg #[.slice pa kt.length pc]) 219 [] kt Gs w' W Xs nv qs (meth_print _) (fun w => call_of Tryz.func219 (by kernel_rfl) (by kernel_rfl) _ w) hlo hw hgl hkl (by unfold Fl.node at hlen; simp only [List.length_append, List.length_cons, List.length_nil] at hlen; omega) (fun i hi => ?_) ?_
  · exact (hk i hi).2 B h w' (fun b hb => hR b (.inr ⟨i, hi, hb⟩))
  refine (asN_print pa kt.length pc W).mono ?_
  rintro e w2 ⟨rfl, hb⟩
  refine ⟨_, _, rfl, hb, fun h0 => ?_⟩
  obtain ⟨pb, po, rfl, hp, hcc⟩ := hc h0
  obtain ⟨hph, hpw⟩ := hR pb (.inl ⟨h0, rfl⟩)
  have hpW : pb < W.heap.size := by have := hw.low; have := hw.sz; omega
  refine ⟨pb, po, rfl, .inl hph, Nat.lt_of_lt_of_le hpW hb.size, fun i hi => ?_⟩
  rw [cell_blk (hb.block pb hpW), cell_blk (hlo pb hph), cell_blk hpw]
  exact hcc i hi

theorem meth_block (x : Value) : ∀ n w, (method (n + 1) 179 x "loop.example/g00237/impl.asNode").run Tryz.prog w = .ok (223, x) w :=
  meth_of (i := Tryz.t179) (m := (Tryz.t179.methods.find? (·.name == "loop.example/g00237/impl.asNode")).getD default) (fun w => by simp [go_sem]) (by kernel_rfl) (by kernel_rfl) (by kernel_rfl) Tryz.underlying179 x
set_option maxHeartbeats 1000000 in
set_option maxRecDepth 100000 in
theorem asN_block (pa : Option Addr) (n pc : Nat) (w : World) :
    Calls Tryz.prog 223 #[.agg #[.slice pa n pc]] w fun e w' => e = .returned (.tuple #[.int .i64 24, .string ⟨#[]⟩, .slice pa n pc]) ∧ Below w.heap.size w w' := by
  have m0 := (wcell (heap_alloc_new w (.cells #[.slice pa n pc] 179))).1
  have hz : (w.alloc (.cells #[.slice pa n pc] 179)).heap.size = w.heap.size + 1 := by simp
  have HB0 : Hid (Below w.heap.size w (w.alloc (.cells #[.slice pa n pc] 179))) := (Below.refl _ _).alloc (Nat.le_refl _) _
  go_enter Tryz.func223, Tryz.ntmps223
  go_wp2
  generalize w.alloc (.cells #[.slice pa n pc] 179) = w1 at *
  go_region
  go_wp2
  go_ret3
  exact ⟨rfl, HB0.out.drew⟩
theorem adds_block (pa : Option Addr) (pc : Nat) (kt : List (TypeId × Value)) (Gs : List (Nat → List Pi)) (Rs : Nat → Nat → Prop) (w : World) (hgl : Gs.length = kt.length) (hkl : kt.length ≤ 1000)
    (hc : 0 < kt.length → ∃ pb po, pa = some ⟨pb, po, none⟩ ∧ pb < w.heap.size ∧ ∀ i, i < kt.length → w.cell? ⟨pb, po + i, none⟩ = some (.iface (kt.getD i tno).1 (kt.getD i tno).2))
    (hk : ∀ i, i < kt.length → Adds (Rs i) w (kt.getD i tno) (Gs.getD i Fl.no)) : Adds (Rw pa kt.length Rs) w (179, .agg #[.slice pa kt.length pc]) (Fl.node 24 [] Gs) := by
  refine ⟨fun b hb => ?_, fun B h w' hR Xs W nv qs hlo hw hlen => ?_⟩
  · rcases hb with ⟨h0, hb⟩ | ⟨i, hi, hb⟩
    · obtain ⟨pb, po, rfl, hp, -⟩ := hc h0
      obtain rfl : pb = b := by simpa using hb
      exact hp
    · exact (hk i hi).1 b hb
  refine addC_node B h 24 179 (.agg #[.slice pa kt.length pc]) 223 [] kt Gs w' W Xs nv qs (meth_block _) (fun w => call_of Tryz.func223 (by kernel_rfl) (by kernel_rfl) _ w) hlo hw hgl hkl (by unfold Fl.node at hlen; simp only [List.length_append, List.length_cons, List.length_nil] at hlen; omega) (fun i hi => ?_) ?_
  · exact (hk i hi).2 B h w' (fun b hb => hR b (.inr ⟨i, hi, hb⟩))
  refine (asN_block pa kt.length pc W).mono ?_
  rintro e w2 ⟨rfl, hb⟩
  refine ⟨_, _, rfl, hb, fun h0 => ?_⟩
  obtain ⟨pb, po, rfl, hp, hcc⟩ := hc h0
  obtain ⟨hph, hpw⟩ := hR pb (.inl ⟨h0, rfl⟩)
  have hpW : pb < W.heap.size := by have := hw.low; have := hw.sz; omega
  refine ⟨pb, po, rfl, .inl hph, Nat.lt_of_lt_of_le hpW hb.size, fun i hi => ?_⟩
  rw [cell_blk (hb.block pb hpW), cell_blk (hlo pb hph), cell_blk hpw]
  exact hcc i hi

end Go.Proofs.YtoaipdckpecpoaaGreatDoor
