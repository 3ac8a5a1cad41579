/- What is said behind what was said: the program's outWith. What is said: the program's Say. What is said: the specification's Say. -/
import Derived.Test.YtohhhhkhkgmanaaZal
namespace Go.Proofs.Ytohhhhkhkgmanaa
section PartOwA
open Go.RowKit

end PartOwA
section PartSyA
open Go.RowKit

/-- What is said stands behind what was said. -/
def St.said (o l : ByteArray) : ByteArray := St.cut3 (o ++ (l ++ ⟨#[10]⟩))

end PartSyA
section PartSyB
open Go.RowKit

set_option maxHeartbeats 800000 in
theorem l08Out_any (s : ByteArray) (w : World) : Calls Try.prog 72 #[.string s] w fun e w' => e = .returned (.string (St.cut3 s)) ∧ w' = w := by
  by_cases h : 3000 < s.size
  · have HE : Hid (St.cut3 s = s.extract 0 3000) := by show _ = _; unfold St.cut3; rw [if_pos h]
    have d : decide ((3000 : Int) < (s.size : Int)) = true := decide_eq_true (by omega)
    go_enter Try.func72, Try.ntmps72
    go_wp2
    go_ret
    exact ⟨by rw [HE.out]; rfl, rfl⟩
  · have HE : Hid (St.cut3 s = s) := by show _ = _; unfold St.cut3; rw [if_neg h]
    have d : decide ((3000 : Int) < (s.size : Int)) = false := decide_eq_false (by omega)
    go_enter Try.func72, Try.ntmps72
    go_wp2
    go_ret
    exact ⟨by rw [HE.out]; rfl, rfl⟩
set_option maxRecDepth 100000 in
set_option maxHeartbeats 2000000 in
theorem spSay (tv lv : Value) (o l : ByteArray) (vs : List Vr) (cs : List Cl) (w : World) (h1 : VrAt w tv vs) (h2 : ClAt w lv cs) (hs : StSmall vs cs o) (hl : l.size ≤ 1048576) :
    Calls Try.prog 56 #[.agg #[tv, lv, .string o], .string l] w fun e w' => ∃ u x, e = .returned (.agg #[u, x, .string (St.said o l)]) ∧ VrIn w.heap.size w'.heap.size w' u vs ∧ ClIn w.heap.size w'.heap.size w' x cs ∧ Below w.heap.size w w' := by
  have ho := hs.2.2.2.2
  have CW : Hid (∀ W, Below w.heap.size w W → Calls Try.prog 38 #[.agg #[tv, lv, .string o]] W fun e w' => ∃ u x, e = .returned (.agg #[u, x, .string o]) ∧ VrIn W.heap.size w'.heap.size w' u vs ∧ ClIn W.heap.size w'.heap.size w' x cs ∧ Below W.heap.size W w') := fun W hb => spCopy tv lv o vs cs W (h1.keep hb) (h2.keep hb) hs
  have CO : Hid (∀ W, Calls Try.prog 72 #[.string (o ++ l ++ ⟨#[10]⟩)] W fun e w' => e = .returned (.string (St.said o l)) ∧ w' = W) := fun W => by
    have hS : St.said o l = St.cut3 (o ++ l ++ ⟨#[10]⟩) := by unfold St.said; rw [ByteArray.append_assoc]
    rw [hS]
    exact l08Out_any _ W
  generalize St.said o l = O at *
  obtain ⟨ad, c, rfl, -⟩ := h1
  obtain ⟨bd, d, rfl, -⟩ := h2
  have hno : ¬ 9223372036854775807 < o.size + l.size := by omega
  have hno2 : ¬ ((9223372036854775807 : Int) < (o.size : Int) + (l.size : Int)) := by omega
  have hno3 : ¬ 9223372036854775807 < o.size + l.size + 1 := by omega
  have hno4 : ¬ ((9223372036854775807 : Int) < (o.size : Int) + (l.size : Int) + 1) := by omega
  have HB : Hid (Below w.heap.size w ((w.alloc (.cells #[.slice ad vs.length c, .slice bd cs.length d, .string o] 27)).alloc (.cells #[.slice none 0 0, .slice none 0 0, .string ByteArray.empty] 27))) := ((Below.refl _ _).alloc (Nat.le_refl _) _).alloc (by simp) _
  have q0 := s2_0 w (.cells #[.slice ad vs.length c, .slice bd cs.length d, .string o] 27) (.cells #[.slice none 0 0, .slice none 0 0, .string ByteArray.empty] 27)
  have q1 := s2_1 w (.cells #[.slice ad vs.length c, .slice bd cs.length d, .string o] 27) (.cells #[.slice none 0 0, .slice none 0 0, .string ByteArray.empty] 27)
  have hz : w.heap.size + 1 < ((w.alloc (.cells #[.slice ad vs.length c, .slice bd cs.length d, .string o] 27)).alloc (.cells #[.slice none 0 0, .slice none 0 0, .string ByteArray.empty] 27)).heap.size := by simp
  have HZ : Hid _ := And.intro q1 hz
  have HZ0 : Hid _ := q0
  clear q0 q1 hz hs
  go_enter Try.func56, Try.ntmps56
  go_wp2_with fail
  change Calls _ _ _ ((w.alloc (.cells #[.slice ad vs.length c, .slice bd cs.length d, .string o] 27)).alloc (.cells #[.slice none 0 0, .slice none 0 0, .string ByteArray.empty] 27)) _
  generalize ((w.alloc (.cells #[.slice ad vs.length c, .slice bd cs.length d, .string o] 27)).alloc (.cells #[.slice none 0 0, .slice none 0 0, .string ByteArray.empty] 27)) = W0 at *
  refine (CW.out W0 HB.out).mono ?_
  rintro e w1 ⟨u, x, rfl, hu, hx, hb1⟩
  have B1 : Hid (Below W0.heap.size W0 w1) := hb1
  have HU : Hid (VrIn W0.heap.size w1.heap.size w1 u vs) := hu
  have HX : Hid (ClIn W0.heap.size w1.heap.size w1 x cs) := hx
  obtain ⟨ua, uc, rfl, -⟩ := hu
  obtain ⟨xa, xc, rfl, -⟩ := hx
  have HSZ : Hid (w.heap.size + 1 < W0.heap.size ∧ W0.heap.size ≤ w1.heap.size) := ⟨HZ.out.2, B1.out.size⟩
  have hss := HSZ.out
  have G2 : Hid (Below w1.heap.size w1 (w1.alloc (.cells #[.slice ua vs.length uc, .slice xa cs.length xc, .string o] 27))) := (Below.refl _ _).alloc (Nat.le_refl _) _
  have R0 := (G2.out.block w.heap.size (by omega)).trans ((B1.out.block w.heap.size (by omega)).trans HZ0.out)
  have HR1 : Hid _ := (G2.out.block (w.heap.size + 1) (by omega)).trans ((B1.out.block (w.heap.size + 1) (by omega)).trans HZ.out.1)
  have R2 := heap_alloc_new w1 (.cells #[.slice ua vs.length uc, .slice xa cs.length xc, .string o] 27)
  have z2 : (w1.alloc (.cells #[.slice ua vs.length uc, .slice xa cs.length xc, .string o] 27)).cell? ⟨w.heap.size, 2, none⟩ = some (.string o) := (blk_cell R0 2).trans rfl
  have HR2 : Hid _ := R2
  clear R0 R2 hb1 CW hss
  go_wp2_with fail
  refine (CO.out _).mono ?_
  rintro e w2 ⟨rfl, rfl⟩
  have HB2 : Hid (Below w.heap.size w (w1.alloc (.cells #[.slice ua vs.length uc, .slice xa cs.length xc, .string o] 27))) := (HB.out.trans (B1.out.mono HB.out.size)).trans (G2.out.mono (by have := HSZ.out; omega))
  have HU2 : Hid (VrIn W0.heap.size w1.heap.size (w1.alloc (.cells #[.slice ua vs.length uc, .slice xa cs.length xc, .string o] 27)) (.slice ua vs.length uc) vs) := HU.out.keep (fun b _ hb => G2.out.block b hb)
  have HX2 : Hid (ClIn W0.heap.size w1.heap.size (w1.alloc (.cells #[.slice ua vs.length uc, .slice xa cs.length xc, .string o] 27)) (.slice xa cs.length xc) cs) := HX.out.keep (fun b _ hb => G2.out.block b hb)
  clear HU HX G2 CO z2
  generalize w1.alloc (.cells #[.slice ua vs.length uc, .slice xa cs.length xc, .string o] 27) = w2 at *
  have x0 : w2.cell? ⟨w1.heap.size, 0, none⟩ = some (.slice ua vs.length uc) := (blk_cell HR2.out 0).trans rfl
  have x1 : w2.cell? ⟨w1.heap.size, 1, none⟩ = some (.slice xa cs.length xc) := (blk_cell HR2.out 1).trans rfl
  have x2 : w2.cell? ⟨w1.heap.size, 2, none⟩ = some (.string o) := (blk_cell HR2.out 2).trans rfl
  have f2 := blk_free HR2.out 2
  have HK : Hid ((w2.setCell ⟨w1.heap.size, 2, none⟩ (.string O)).heap[w.heap.size + 1]? = _) := (Below.heap_setCell _ _ _ _ (by show w.heap.size + 1 ≠ w1.heap.size; have := HSZ.out; omega)).trans HR1.out
  have HM : Hid _ := blk_set HR2.out 2 (.string O)
  have y0 : (w2.setCell ⟨w1.heap.size, 2, none⟩ (.string O)).cell? ⟨w.heap.size + 1, 0, none⟩ = some (.slice none 0 0) := (blk_cell HK.out 0).trans rfl
  have y1 : (w2.setCell ⟨w1.heap.size, 2, none⟩ (.string O)).cell? ⟨w.heap.size + 1, 1, none⟩ = some (.slice none 0 0) := (blk_cell HK.out 1).trans rfl
  have y2 : (w2.setCell ⟨w1.heap.size, 2, none⟩ (.string O)).cell? ⟨w.heap.size + 1, 2, none⟩ = some (.string ByteArray.empty) := (blk_cell HK.out 2).trans rfl
  have g0 := blk_free HK.out 0
  have g1 := blk_free HK.out 1
  have g2 := blk_free HK.out 2
  have v0 : (w2.setCell ⟨w1.heap.size, 2, none⟩ (.string O)).cell? ⟨w1.heap.size, 0, none⟩ = some (.slice ua vs.length uc) := (blk_cell HM.out 0).trans rfl
  have v1 : (w2.setCell ⟨w1.heap.size, 2, none⟩ (.string O)).cell? ⟨w1.heap.size, 1, none⟩ = some (.slice xa cs.length xc) := (blk_cell HM.out 1).trans rfl
  have v2 : (w2.setCell ⟨w1.heap.size, 2, none⟩ (.string O)).cell? ⟨w1.heap.size, 2, none⟩ = some (.string O) := (blk_cell HM.out 2).trans rfl
  have hs2 : w1.heap.size < w2.heap.size := blk_lt HR2.out
  go_wp2_with fail
  refine bodyPost_ret (results_cell_row (p := 4) (ty := 27) rfl _ _ (w.heap.size + 1) 27 _ (0, 0) _ rfl (blk_set (blk_set (blk_set HK.out 0 _) 1 _) 2 _) Try.underlying27 rfl (by kernel_rfl)) rfl ?_
  have hsz := HSZ.out
  have hk : ∀ b, W0.heap.size ≤ b → b < w1.heap.size → ((((w2.setCell ⟨w1.heap.size, 2, none⟩ (.string O)).setCell ⟨w.heap.size + 1, 0, none⟩ (.slice ua vs.length uc)).setCell ⟨w.heap.size + 1, 1, none⟩ (.slice xa cs.length xc)).setCell ⟨w.heap.size + 1, 2, none⟩ (.string O)).heap[b]? = w2.heap[b]? := fun b hb hb2 => by
    rw [Below.heap_setCell _ _ _ _ (by show b ≠ w.heap.size + 1; omega), Below.heap_setCell _ _ _ _ (by show b ≠ w.heap.size + 1; omega), Below.heap_setCell _ _ _ _ (by show b ≠ w.heap.size + 1; omega), Below.heap_setCell _ _ _ _ (by show b ≠ w1.heap.size; omega)]
  refine ⟨_, _, rfl, ?_, ?_, ?_⟩
  · exact (HU2.out.keep (fun b hb hb2 => hk b hb hb2)).wide (by omega) (by simp [World.setCell]; omega)
  · exact (HX2.out.keep (fun b hb hb2 => hk b hb hb2)).wide (by omega) (by simp [World.setCell]; omega)
  · exact (((HB2.out.setCell (by show _ ≤ w1.heap.size; omega) _).setCell (by show _ ≤ w.heap.size + 1; omega) _).setCell (by show _ ≤ w.heap.size + 1; omega) _).setCell (by show _ ≤ w.heap.size + 1; omega) _
end PartSyB
end Go.Proofs.Ytohhhhkhkgmanaa
