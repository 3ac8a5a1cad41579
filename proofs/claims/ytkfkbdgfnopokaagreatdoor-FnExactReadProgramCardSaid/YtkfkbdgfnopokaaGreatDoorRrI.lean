/- The program's writer of nodes: what a row of trees adds. -/
import Derived.Test.YtkfkbdgfnopokaaGreatDoorRrH
namespace Go.Proofs.YtkfkbdgfnopokaaGreatDoor
open Go.RowKit
def Rw (pa : Option Addr) (n : Nat) (Rs : Nat → Nat → Prop) : Nat → Prop := fun b => (0 < n ∧ pa.map (·.block) = some b) ∨ ∃ i, i < n ∧ Rs i b
theorem meth_print (x : Value) : ∀ n w, (method (n + 1) 162 x "loop.example/g00237/impl.asNode").run Tryz.prog w = .ok (213, x) w :=
 meth_of (i := Tryz.t162) (m := (Tryz.t162.methods.find? (·.name == "loop.example/g00237/impl.asNode")).getD default) (fun w => by simp [go_sem]) (by kernel_rfl) (by kernel_rfl) (by kernel_rfl) Tryz.underlying162 x
set_option maxHeartbeats 1000000 in
set_option maxRecDepth 100000 in
theorem asN_print (pa : Option Addr) (n pc : Nat) (w : World) :
  Calls Tryz.prog 213 #[.agg #[.slice pa n pc]] w fun e w' => e = .returned (.tuple #[.int .i64 17, .string ⟨#[]⟩, .slice pa n pc]) ∧ Below w.heap.size w w' := by
 have m0 := (wcell (heap_alloc_new w (.cells #[.slice pa n pc] 162))).1
 have hz : (w.alloc (.cells #[.slice pa n pc] 162)).heap.size = w.heap.size + 1 := by simp
 have HB0 : Hid (Below w.heap.size w (w.alloc (.cells #[.slice pa n pc] 162))) := (Below.refl _ _).alloc (Nat.le_refl _) _
 go_enter Tryz.func213, Tryz.ntmps213
 go_wp2
 generalize w.alloc (.cells #[.slice pa n pc] 162) = w1 at *
 go_region
 go_wp2
 go_ret3
 exact ⟨rfl, HB0.out.drew⟩
theorem adds_print (pa : Option Addr) (pc : Nat) (kt : List (TypeId × Value)) (Gs : List (Nat → List Pi)) (Rs : Nat → Nat → Prop) (w : World) (hgl : Gs.length = kt.length) (hkl : kt.length ≤ 1000)
  (hc : 0 < kt.length → ∃ pb po, pa = some ⟨pb, po, none⟩ ∧ pb < w.heap.size ∧ ∀ i, i < kt.length → w.cell? ⟨pb, po + i, none⟩ = some (.iface (kt.getD i tno).1 (kt.getD i tno).2))
  (hk : ∀ i, i < kt.length → Adds (Rs i) w (kt.getD i tno) (Gs.getD i Fl.no)) : Adds (Rw pa kt.length Rs) w (162, .agg #[.slice pa kt.length pc]) (Fl.node 17 [] Gs) := by
 refine ⟨fun b hb => ?_, fun B h w' hR Xs W nv qs hlo hw hlen => ?_⟩
 ·rcases hb with ⟨h0, hb⟩ | ⟨i, hi, hb⟩
  ·obtain ⟨pb, po, rfl, hp, -⟩ := hc h0
   obtain rfl : pb = b := by simpa using hb
   exact hp
  ·exact (hk i hi).1 b hb
 refine addC_node B h 17 162 (.agg #[.slice pa kt.length pc]) 213 [] kt Gs w' W Xs nv qs (meth_print _) (fun w => call_of Tryz.func213 (by kernel_rfl) (by kernel_rfl) _ w) hlo hw hgl hkl (by unfold Fl.node at hlen; simp only [List.length_append, List.length_cons, List.length_nil] at hlen; omega) (fun i hi => ?_) ?_
 ·exact (hk i hi).2 B h w' (fun b hb => hR b (.inr ⟨i, hi, hb⟩))
 refine (asN_print pa kt.length pc W).mono ?_
 rintro e w2 ⟨rfl, hb⟩
 refine ⟨_, _, rfl, hb, fun h0 => ?_⟩
 obtain ⟨pb, po, rfl, hp, hcc⟩ := hc h0
 obtain ⟨hph, hpw⟩ := hR pb (.inl ⟨h0, rfl⟩)
 have hpW : pb < W.heap.size := by have := hw.low; have := hw.sz; omega
 refine ⟨pb, po, rfl, .inl hph, Nat.lt_of_lt_of_le hpW hb.size, fun i hi => ?_⟩
 rw [cell_blk (hb.block pb hpW), cell_blk (hlo pb hph), cell_blk hpw]
 exact hcc i hi
theorem meth_block (x : Value) : ∀ n w, (method (n + 1) 170 x "loop.example/g00237/impl.asNode").run Tryz.prog w = .ok (217, x) w :=
 meth_of (i := Tryz.t170) (m := (Tryz.t170.methods.find? (·.name == "loop.example/g00237/impl.asNode")).getD default) (fun w => by simp [go_sem]) (by kernel_rfl) (by kernel_rfl) (by kernel_rfl) Tryz.underlying170 x
set_option maxHeartbeats 1000000 in
set_option maxRecDepth 100000 in
theorem asN_block (pa : Option Addr) (n pc : Nat) (w : World) :
  Calls Tryz.prog 217 #[.agg #[.slice pa n pc]] w fun e w' => e = .returned (.tuple #[.int .i64 24, .string ⟨#[]⟩, .slice pa n pc]) ∧ Below w.heap.size w w' := by
 have m0 := (wcell (heap_alloc_new w (.cells #[.slice pa n pc] 170))).1
 have hz : (w.alloc (.cells #[.slice pa n pc] 170)).heap.size = w.heap.size + 1 := by simp
 have HB0 : Hid (Below w.heap.size w (w.alloc (.cells #[.slice pa n pc] 170))) := (Below.refl _ _).alloc (Nat.le_refl _) _
 go_enter Tryz.func217, Tryz.ntmps217
 go_wp2
 generalize w.alloc (.cells #[.slice pa n pc] 170) = w1 at *
 go_region
 go_wp2
 go_ret3
 exact ⟨rfl, HB0.out.drew⟩
theorem adds_block (pa : Option Addr) (pc : Nat) (kt : List (TypeId × Value)) (Gs : List (Nat → List Pi)) (Rs : Nat → Nat → Prop) (w : World) (hgl : Gs.length = kt.length) (hkl : kt.length ≤ 1000)
  (hc : 0 < kt.length → ∃ pb po, pa = some ⟨pb, po, none⟩ ∧ pb < w.heap.size ∧ ∀ i, i < kt.length → w.cell? ⟨pb, po + i, none⟩ = some (.iface (kt.getD i tno).1 (kt.getD i tno).2))
  (hk : ∀ i, i < kt.length → Adds (Rs i) w (kt.getD i tno) (Gs.getD i Fl.no)) : Adds (Rw pa kt.length Rs) w (170, .agg #[.slice pa kt.length pc]) (Fl.node 24 [] Gs) := by
 refine ⟨fun b hb => ?_, fun B h w' hR Xs W nv qs hlo hw hlen => ?_⟩
 ·rcases hb with ⟨h0, hb⟩ | ⟨i, hi, hb⟩
  ·obtain ⟨pb, po, rfl, hp, -⟩ := hc h0
   obtain rfl : pb = b := by simpa using hb
   exact hp
  ·exact (hk i hi).1 b hb
 refine addC_node B h 24 170 (.agg #[.slice pa kt.length pc]) 217 [] kt Gs w' W Xs nv qs (meth_block _) (fun w => call_of Tryz.func217 (by kernel_rfl) (by kernel_rfl) _ w) hlo hw hgl hkl (by unfold Fl.node at hlen; simp only [List.length_append, List.length_cons, List.length_nil] at hlen; omega) (fun i hi => ?_) ?_
 ·exact (hk i hi).2 B h w' (fun b hb => hR b (.inr ⟨i, hi, hb⟩))
 refine (asN_block pa kt.length pc W).mono ?_
 rintro e w2 ⟨rfl, hb⟩
 refine ⟨_, _, rfl, hb, fun h0 => ?_⟩
 obtain ⟨pb, po, rfl, hp, hcc⟩ := hc h0
 obtain ⟨hph, hpw⟩ := hR pb (.inl ⟨h0, rfl⟩)
 have hpW : pb < W.heap.size := by have := hw.low; have := hw.sz; omega
 refine ⟨pb, po, rfl, .inl hph, Nat.lt_of_lt_of_le hpW hb.size, fun i hi => ?_⟩
 rw [cell_blk (hb.block pb hpW), cell_blk (hlo pb hph), cell_blk hpw]
 exact hcc i hi
end Go.Proofs.YtkfkbdgfnopokaaGreatDoor
