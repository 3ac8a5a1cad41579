/- The specification of CodeOk: is a part of code right? -/
import Derived.Test.YtehagonaacbmiaaGreatMPRjCdA
import Derived.Test.YtehagonaacbmiaaGreatMPRjZRw
namespace Go.Proofs.YtehagonaacbmiaaGreat
open Go.RowKit

namespace Cd
theorem loopS_end {ts : List ByteArray} {xs : List Ins} {to : Nat} (hs : List Int) : loopS ts xs to (to - to) to hs = decide (hs.getD to (-1) ≤ 0) := by
  rw [Nat.sub_self]; rfl
theorem loopS_next {ts : List ByteArray} {xs : List Ins} {to a : Nat} (h : a < to) (hs : List Int) : loopS ts xs to (to - a) a hs =
    if ins ts (xs.getD a Ins.no) (a : Int) (to : Int) = false then false
    else if hs.getD a (-1) < 0 then loopS ts xs to (to - (a + 1)) (a + 1) hs
    else if hs.getD a (-1) < (needs (xs.getD a Ins.no)).1 ∨ 20 < hs.getD a (-1) - (needs (xs.getD a Ins.no)).1 + (needs (xs.getD a Ins.no)).2 then false
    else match mark hs (hs.getD a (-1) - (needs (xs.getD a Ins.no)).1 + (needs (xs.getD a Ins.no)).2) (next (xs.getD a Ins.no) a) with
      | none => false
      | some hs' => loopS ts xs to (to - (a + 1)) (a + 1) hs' := by
  rw [show to - a = (to - (a + 1)) + 1 by omega]
  rfl
theorem mark_next {hs : List Int} {n : Int} {nx : List Nat} {k : Nat} (h : k < nx.length) : mark hs n (nx.drop k) = if 0 ≤ hs.getD (nx.getD k 0) (-1) ∧ hs.getD (nx.getD k 0) (-1) ≠ n then none else mark (hs.set (nx.getD k 0) n) n (nx.drop (k + 1)) := by
  rw [List.drop_eq_getElem_cons h]
  simp [mark, h]
theorem next_len (x : Ins) (a : Nat) : (next x a).length ≤ 2 := by
  unfold next
  split <;> split <;> simp
/-- The first k are told to be -1. -/
def fill (to k : Nat) : List Int := List.replicate k (-1) ++ List.replicate (to + 1 - k) 0
theorem fill_len (to k : Nat) (h : k ≤ to + 1) : (fill to k).length = to + 1 := by simp [fill]; omega
theorem fill_set (to k : Nat) (h : k < to + 1) : (fill to k).set k (-1) = fill to (k + 1) := by
  unfold fill
  rw [List.set_append_right _ _ (by simp), List.length_replicate, Nat.sub_self, show to + 1 - k = (to + 1 - (k + 1)) + 1 by omega, List.replicate_succ, List.set_cons_zero, List.replicate_succ', List.append_assoc]
  rfl
theorem fill_all (to : Nat) : fill to (to + 1) = List.replicate (to + 1) (-1) := by simp [fill]
end Cd

theorem KidsBlk.cell {w : World} {g : Nat} {hs : List Int} (h : KidsBlk w g hs) {j : Nat} (hj : j < hs.length) (d : Int) : w.cell? ⟨g, j, none⟩ = some (.int .i64 (hs.getD j d)) := by
  rw [blk_cell h]
  simp [hj, iv]
theorem KidsBlk.set {w : World} {g : Nat} {hs : List Int} (h : KidsBlk w g hs) (j : Nat) (z : Int) : KidsBlk (w.setCell ⟨g, j, none⟩ (.int .i64 z)) g (hs.set j z) := by
  show _ = _
  rw [blk_set h]
  simp [iv]

set_option maxHeartbeats 2000000 in
set_option maxRecDepth 100000 in
theorem spPart (tv lv : Value) (bg ln en : Int) (ts : List ByteArray) (xs : List Ins) (fr to : Nat) (w : World) (h : TsAt w tv ts) (hl : InsAt w lv xs) (hs : TsSmall ts ts.length) (hk : ts.length ≤ 60) (hxl : xs.length ≤ 250) (hft : fr ≤ to) (hto : to ≤ xs.length) :
    Calls Tryz.prog 50 #[.agg #[tv, lv, .int .i64 bg, .int .i64 ln, .int .i64 en], .int .i64 (fr : Int), .int .i64 (to : Int)] w fun e w' => e = .returned (.bool (Cd.part ts xs fr to)) ∧ Below w.heap.size w w' := by
  obtain ⟨V, hV⟩ : ∃ V, V = Cd.part ts xs fr to := ⟨_, rfl⟩
  rw [← hV]
  have HV : Hid (V = Cd.loopS ts xs to (to - fr) fr (Cd.start fr to)) := hV
  clear hV
  have HT : Hid (∀ W, Below w.heap.size w W → TsAt W tv ts ∧ InsAt W lv xs) := fun W hb => ⟨h.keep hb, hl.keep hb⟩
  have HS : Hid (TsSmall ts ts.length) := hs
  obtain ⟨ta, tc, rfl, -⟩ := h
  obtain ⟨la, lc, rfl, -⟩ := hl
  clear hs
  obtain ⟨m, hm⟩ : ∃ m, m = xs.length := ⟨_, rfl⟩
  obtain ⟨n, hn⟩ : ∃ n, n = ts.length := ⟨_, rfl⟩
  have HM : Hid (m = xs.length ∧ n = ts.length) := ⟨hm, hn⟩
  rw [← hm] at hxl hto
  rw [← hn] at hk
  rw [← hm, ← hn] at HT ⊢
  clear hm hn
  obtain ⟨M, hM, hmk⟩ := makeI_run (to + 1) (by omega)
  have hmk2 : ∀ W : World, (Instr.makeSlice 97 (.int .i64 ((to : Int) + 1)) (.int .i64 ((to : Int) + 1))).run Tryz.prog W = .ok (.slice (some ⟨W.heap.size, 0, none⟩) (to + 1) (to + 1)) (W.alloc (.cells M 3)) := hmk
  have HB1 : Hid (Below w.heap.size w (w.alloc (.cells #[.slice ta n tc, .slice la m lc, .int .i64 bg, .int .i64 ln, .int .i64 en] 36))) := (Below.refl _ _).alloc (Nat.le_refl _) _
  have HR0 : Hid ((w.alloc (.cells #[.slice ta n tc, .slice la m lc, .int .i64 bg, .int .i64 ln, .int .i64 en] 36)).heap[w.heap.size]? = some (.cells #[.slice ta n tc, .slice la m lc, .int .i64 bg, .int .i64 ln, .int .i64 en] 36 (0, 0))) := heap_alloc_new _ _
  have hz1 : (w.alloc (.cells #[.slice ta n tc, .slice la m lc, .int .i64 bg, .int .i64 ln, .int .i64 en] 36)).heap.size = w.heap.size + 1 := by simp
  have HK0 : Hid (KidsBlk ((w.alloc (.cells #[.slice ta n tc, .slice la m lc, .int .i64 bg, .int .i64 ln, .int .i64 en] 36)).alloc (.cells M 3)) (w.heap.size + 1) (Cd.fill to 0)) := by
    show _ = _
    rw [alloc2_1, hM]
    simp [Cd.fill]
  clear hM hmk
  go_enter Tryz.func50, Tryz.ntmps50
  go_wp2
  generalize w.alloc (.cells #[.slice ta n tc, .slice la m lc, .int .i64 bg, .int .i64 ln, .int .i64 en] 36) = W1 at *
  go_loopw [8, 21] (fun _ i wr => ∃ k : Nat, i = .int .i64 (k : Int) ∧ k ≤ to + 1 ∧ w.heap.size + 2 ≤ wr.heap.size ∧ Hid (Below (w.heap.size + 1) W1 wr) ∧ Hid (KidsBlk wr (w.heap.size + 1) (Cd.fill to k))) (fun _ i _ => to + 1 - (intOf i).toNat)
  case atStart => exact ⟨0, rfl, by omega, by simp; omega, (Below.refl _ _).alloc (by omega) _, HK0.out⟩
  case round =>
    obtain ⟨k, rfl, hk2, hsz, HB, HK⟩ := hrel
    by_cases hlt : k < to + 1
    · have hi : (k : Int) < (to : Int) + 1 := by omega
      have d0 : decide ((k : Int) < (to : Int) + 1) = true := decide_eq_true hi
      have c0 := HK.out.cell (j := k) (by rw [Cd.fill_len to k (by omega)]; exact hlt) 0
      have f0 := blk_free HK.out k
      have HK2 : Hid (KidsBlk (wr.setCell ⟨w.heap.size + 1, k, none⟩ (.int .i64 (-1))) (w.heap.size + 1) (Cd.fill to (k + 1))) := by
        have := HK.out.set k (-1)
        rwa [Cd.fill_set to k hlt] at this
      clear HK
      go_wp2
      go_roundw
      case rel => exact ⟨k + 1, by go_num, by omega, by simpa [World.setCell] using hsz, HB.out.setCell (Nat.le_refl _) _, HK2.out⟩
      case measure => simp [intOf]; omega
    · have HKK : Hid (k = to + 1) := (by omega : k = to + 1)
      have d0 : decide ((k : Int) < (to : Int) + 1) = false := decide_eq_false (by omega)
      rw [HKK.out] at HK
      have c0 := HK.out.cell (j := fr) (by rw [Cd.fill_len to (to + 1) (by omega)]; omega) 0
      have f0 := blk_free HK.out fr
      have HK2 : Hid (KidsBlk (wr.setCell ⟨w.heap.size + 1, fr, none⟩ (.int .i64 0)) (w.heap.size + 1) (Cd.start fr to)) := by
        have := HK.out.set fr 0
        rwa [Cd.fill_all] at this
      have HB2 : Hid (Below (w.heap.size + 1) W1 (wr.setCell ⟨w.heap.size + 1, fr, none⟩ (.int .i64 0))) := HB.out.setCell (Nat.le_refl _) _
      have hsz2 : w.heap.size + 2 ≤ (wr.setCell ⟨w.heap.size + 1, fr, none⟩ (.int .i64 0)).heap.size := by simpa [World.setCell] using hsz
      clear HK HB HK0 hmk2 hsz
      go_wp2
      generalize wr.setCell ⟨w.heap.size + 1, fr, none⟩ (.int .i64 0) = W2 at *
      have HE : Hid (∀ W, Below (w.heap.size + 1) W1 W → Below w.heap.size w W) := fun W hb => HB1.out.trans (hb.mono (by omega))
      have HC : Hid (∀ W, Below (w.heap.size + 1) W1 W → W.heap[w.heap.size]? = some (.cells #[.slice ta n tc, .slice la m lc, .int .i64 bg, .int .i64 ln, .int .i64 en] 36 (0, 0))) := fun W hb => (hb.block _ (by omega)).trans HR0.out
      clear HR0 HB1
      have HI0 : Hid (Cd.Inv (Cd.start fr to) (-1) 20 ∧ (Cd.start fr to).length = to + 1) := ⟨Cd.start_inv fr to, Cd.start_len fr to⟩
      go_loopw [9, 10, 11, 12, 13, 14, 15] (fun i _ _ _ _ _ _ wr => ∃ (a : Nat) (hs : List Int), i = .int .i64 (a : Int) ∧ a ≤ to ∧ w.heap.size + 2 ≤ wr.heap.size ∧ Hid (Cd.Inv hs (-1) 20 ∧ hs.length = to + 1) ∧ Hid (Below (w.heap.size + 1) W1 wr) ∧ Hid (KidsBlk wr (w.heap.size + 1) hs) ∧ Hid (V = Cd.loopS ts xs to (to - a) a hs)) (fun i _ _ _ _ _ _ _ => to - (intOf i).toNat)
      case atStart => exact ⟨fr, _, rfl, hft, hsz2, HI0.out, HB2.out, HK2.out, HV.out⟩
      case round =>
        clear HI0 HB2 HK2 HV hsz2
        obtain ⟨a, hs, rfl, ha, hsz, HI, HB, HK, HV⟩ := hrel
        have R0 := HC.out _ HB.out
        have z1 := blk_cell R0 1
        simp only [List.getElem?_toArray, List.getElem?_cons_zero, List.getElem?_cons_succ] at z1
        by_cases hlt : a < to
        · have hi : (a : Int) < (to : Int) := by omega
          have d0 : decide ((a : Int) < (to : Int)) = true := decide_eq_true hi
          have ha1 : (a : Int) < (m : Int) := by omega
          obtain ⟨hTs, hIn⟩ := HT.out _ (HE.out _ HB.out)
          obtain ⟨lb, lo, rfl, hlb, x0, x1⟩ := hIn.cell HM.out.1 (show a < m by omega)
          have HV2 : Hid _ := HV.out.trans (Cd.loopS_next hlt hs)
          have HNK : Hid (Cd.ins ts (xs.getD a Ins.no) (a : Int) (to : Int) = true → ∀ k ∈ Cd.next (xs.getD a Ins.no) a, a < k ∧ k ≤ to) := fun h => Cd.next_ok h hlt
          have HND : Hid (Cd.ins ts (xs.getD a Ins.no) (a : Int) (to : Int) = true → _) := fun h => Cd.needs_ok h
          clear HV hIn
          generalize xs.getD a Ins.no = x at *
          obtain ⟨op, arg⟩ := x
          simp only at x0 x1
          have HTW : Hid (∀ W, Below (w.heap.size + 1) W1 W → TsAt W (.slice ta ts.length tc) ts) := fun W hb => by have := (HT.out _ (HE.out _ hb)).1; rw [HM.out.2] at this; exact this
          have HBX : Hid (Below (w.heap.size + 1) W1 (wr.alloc (.cells #[.int .i64 op, .int .i64 arg] 105))) := HB.out.alloc (by omega) _
          have RX := heap_alloc_new wr (.cells #[.int .i64 op, .int .i64 arg] 105)
          have HKX : Hid (KidsBlk (wr.alloc (.cells #[.int .i64 op, .int .i64 arg] 105)) (w.heap.size + 1) hs) := (((Below.refl _ _).alloc (Nat.le_refl _) _ : Below wr.heap.size wr (wr.alloc (.cells #[.int .i64 op, .int .i64 arg] 105))).block _ (by omega)).trans HK.out
          have hszx : w.heap.size + 3 ≤ (wr.alloc (.cells #[.int .i64 op, .int .i64 arg] 105)).heap.size := by simp; omega
          have hxx : wr.heap.size < (wr.alloc (.cells #[.int .i64 op, .int .i64 arg] 105)).heap.size := by simp
          clear hTs HK
          obtain ⟨A, hA⟩ : ∃ A, A = decide (1 ≤ op ∧ op ≤ 24) := ⟨_, rfl⟩
          obtain ⟨B, hB⟩ : ∃ B, B = decide (0 ≤ arg ∧ arg ≤ 255) := ⟨_, rfl⟩
          have CA : Hid (∀ W, Calls Tryz.prog 49 #[.int .i64 op, .int .i64 1, .int .i64 24] W fun e w' => e = .returned (.bool A) ∧ w' = W) := fun W => by rw [hA]; exact sIn_any _ _ _ W
          have CB : Hid (∀ W, Calls Tryz.prog 49 #[.int .i64 arg, .int .i64 0, .int .i64 255] W fun e w' => e = .returned (.bool B) ∧ w' = W) := fun W => by rw [hB]; exact sIn_any _ _ _ W
          have HIN : Hid (Cd.ins ts ⟨op, arg⟩ (a : Int) (to : Int) = (A && B && Cd.arg ts ⟨op, arg⟩ (a : Int) (to : Int))) := by rw [hA, hB]; rfl
          have HSN : Hid (TsSmall ts ts.length ∧ ts.length ≤ 1048576 ∧ n = ts.length) := ⟨HS.out, by rw [← HM.out.2]; omega, HM.out.2⟩
          have hxb : wr.heap.size ≠ w.heap.size + 1 := by omega
          clear HT HM HS HB
          have yx0 := blk_cell RX 0
          have yx1 := blk_cell RX 1
          have RP := HC.out _ HBX.out
          have p0 := blk_cell RP 0
          have p1 := blk_cell RP 1
          have p2 := blk_cell RP 2
          have p3 := blk_cell RP 3
          have p4 := blk_cell RP 4
          simp only [List.getElem?_toArray, List.getElem?_cons_zero, List.getElem?_cons_succ] at yx0 yx1 p0 p1 p2 p3 p4
          have HAB : Hid ((A = true → 1 ≤ op ∧ op ≤ 24) ∧ (B = true → 0 ≤ arg ∧ arg ≤ 255)) := ⟨fun h => of_decide_eq_true (hA.symm.trans h), fun h => of_decide_eq_true (hB.symm.trans h)⟩
          have HRX : Hid _ := RX
          clear RX RP R0 hA hB
          go_wp2_with fail
          generalize wr.alloc (.cells #[.int .i64 op, .int .i64 arg] 105) = U at *
          refine (CA.out _).mono ?_
          rintro e w2 ⟨rfl, hw2⟩
          rw [hw2]
          clear hw2 CA x0 x1 z1
          cases A
          · have HF : Hid (V = false) := by show _ = _; rw [HV2.out, if_pos (HIN.out.trans (by simp))]
            go_wp2
            go_ret
            exact ⟨by rw [HF.out]; rfl, HE.out _ HBX.out⟩
          go_wp2_with fail
          refine (CB.out _).mono ?_
          rintro e w2 ⟨rfl, hw2⟩
          rw [hw2]
          clear hw2 CB
          cases B
          · have HF : Hid (V = false) := by show _ = _; rw [HV2.out, if_pos (HIN.out.trans (by simp))]
            go_wp2
            go_ret
            exact ⟨by rw [HF.out]; rfl, HE.out _ HBX.out⟩
          obtain ⟨C, hC⟩ : ∃ C, C = Cd.arg ts ⟨op, arg⟩ (a : Int) (to : Int) := ⟨_, rfl⟩
          have CC : Hid (∀ W, Below (w.heap.size + 1) W1 W → Calls Tryz.prog 82 #[.agg #[.slice ta n tc, .slice (some ⟨lb, lo, none⟩) m lc, .int .i64 bg, .int .i64 ln, .int .i64 en], .agg #[.int .i64 op, .int .i64 arg], .int .i64 (a : Int), .int .i64 (to : Int)] W fun e w' => e = .returned (.bool C) ∧ Below W.heap.size W w') := fun W hb => by
            rw [hC, HSN.out.2.2]
            exact spArg ta tc _ bg ln en ts op arg a to W (HTW.out W hb) ⟨_, _, _, rfl⟩ HSN.out.1 HSN.out.2.1 (HAB.out.2 (by simp)).1 (HAB.out.2 (by simp)).2 (HAB.out.1 (by simp)).1 (HAB.out.1 (by simp)).2
          rw [← hC] at HIN
          have HAB2 : Hid (0 ≤ arg ∧ arg ≤ 255) := HAB.out.2 (by simp)
          clear hC HTW HSN HAB
          go_wp2_with fail
          refine (CC.out _ HBX.out).mono ?_
          rintro e w3 ⟨rfl, hb3⟩
          have HX3 : Hid (w3.heap[wr.heap.size]? = some (.cells #[.int .i64 op, .int .i64 arg] 105 (0, 0))) := (hb3.block _ hxx).trans HRX.out
          have HB3 : Hid (Below (w.heap.size + 1) W1 w3) := HBX.out.trans (hb3.mono (by omega))
          have HK3 : Hid (KidsBlk w3 (w.heap.size + 1) hs) := (hb3.block _ (by omega)).trans HKX.out
          have hs3 : w.heap.size + 3 ≤ w3.heap.size := Nat.le_trans hszx hb3.size
          have hx3 : wr.heap.size < w3.heap.size := Nat.lt_of_lt_of_le hxx hb3.size
          clear hb3 CC HKX HBX HRX yx0 yx1 p0 p1 p2 p3 p4 hszx hxx
          cases C
          · have HF : Hid (V = false) := by show _ = _; rw [HV2.out, if_pos (HIN.out.trans (by simp))]
            clear HV2 HNK HND
            go_wp2
            go_ret
            exact ⟨by rw [HF.out]; rfl, HE.out _ HB3.out⟩
          have hins : Cd.ins ts ⟨op, arg⟩ (a : Int) (to : Int) = true := HIN.out
          have HV3 : Hid _ := HV2.out.trans (if_neg (by rw [hins]; simp))
          have HNK2 : Hid (∀ k ∈ Cd.next ⟨op, arg⟩ a, a < k ∧ k ≤ to) := HNK.out hins
          have HND2 := HND.out hins
          clear HV2 HNK HND HIN hins
          have c0 := HK3.out.cell (j := a) (by rw [HI.out.2]; omega) (-1)
          have hyi := HI.out.1 a
          have yx0 := blk_cell HX3.out 0
          have yx1 := blk_cell HX3.out 1
          simp only [List.getElem?_toArray, List.getElem?_cons_zero, List.getElem?_cons_succ] at yx0 yx1
          have hat : (a : Int) < (to : Int) + 1 := by omega
          generalize hs.getD a (-1) = y at *
          by_cases hy0 : y < 0
          · have dy : decide (y < 0) = true := decide_eq_true hy0
            have HV4 : Hid (V = Cd.loopS ts xs to (to - (a + 1)) (a + 1) hs) := by show _ = _; rw [HV3.out, if_pos hy0]
            clear HV3 HNK2 HND2
            go_wp2
            go_roundw
            case rel => exact ⟨a + 1, hs, by go_num, by omega, by omega, HI.out, HB3.out, HK3.out, HV4.out⟩
            case measure => simp [intOf]; omega
          have dy : decide (y < 0) = false := decide_eq_false hy0
          have CN : Hid (∀ W, Calls Tryz.prog 83 #[.agg #[.int .i64 op, .int .i64 arg]] W fun e w' => e = .returned (.tuple #[.int .i64 (Cd.needs ⟨op, arg⟩).1, .int .i64 (Cd.needs ⟨op, arg⟩).2]) ∧ Below W.heap.size W w') := fun W => spNeeds op arg W
          have HV4 : Hid _ := HV3.out.trans (if_neg hy0)
          clear HV3
          obtain ⟨t1, t2, t3, t4, -⟩ := HND2
          generalize (Cd.needs ⟨op, arg⟩).1 = tk at *
          generalize (Cd.needs ⟨op, arg⟩).2 = pt at *
          go_wp2_with fail
          refine (CN.out _).mono ?_
          rintro e w4 ⟨rfl, hb4⟩
          have HX4 : Hid (w4.heap[wr.heap.size]? = some (.cells #[.int .i64 op, .int .i64 arg] 105 (0, 0))) := (hb4.block _ hx3).trans HX3.out
          have HB4 : Hid (Below (w.heap.size + 1) W1 w4) := HB3.out.trans (hb4.mono (by omega))
          have HK4 : Hid (KidsBlk w4 (w.heap.size + 1) hs) := (hb4.block _ (by omega)).trans HK3.out
          have hs4 : w.heap.size + 3 ≤ w4.heap.size := Nat.le_trans hs3 hb4.size
          have hx4 : wr.heap.size < w4.heap.size := Nat.lt_of_lt_of_le hx3 hb4.size
          have c4 := (hb4.cell (p := ⟨w.heap.size + 1, a, none⟩) (by show w.heap.size + 1 < _; omega)).trans c0
          clear hb4 CN HK3 HB3 HX3 yx0 yx1 c0 hs3 hx3
          by_cases htk : y < tk
          · have HF : Hid (V = false) := by show _ = _; rw [HV4.out, if_pos (.inl htk)]
            have d1 : decide (y < tk) = true := decide_eq_true htk
            clear HV4 HNK2
            go_wp2
            go_ret
            exact ⟨by rw [HF.out]; rfl, HE.out _ HB4.out⟩
          have d1 : decide (y < tk) = false := decide_eq_false htk
          by_cases hbig : 20 < y - tk + pt
          · have HF : Hid (V = false) := by show _ = _; rw [HV4.out, if_pos (.inr hbig)]
            have d2 : decide ((20 : Int) < y - tk + pt) = true := decide_eq_true hbig
            clear HV4 HNK2
            go_wp2
            go_ret
            exact ⟨by rw [HF.out]; rfl, HE.out _ HB4.out⟩
          have d2 : decide ((20 : Int) < y - tk + pt) = false := decide_eq_false hbig
          have HV5 : Hid _ := HV4.out.trans (if_neg (by rintro (h | h) <;> contradiction))
          obtain ⟨N, hN⟩ : ∃ N, N = y - tk + pt := ⟨_, rfl⟩
          have hN0 : -1 ≤ N := by omega
          have hN20 : N ≤ 20 := by omega
          rw [← hN] at HV5
          have HZ4 : Hid (ZRow w4.heap.size (w4.alloc (.cells #[] 3)) (.slice (some ⟨w4.heap.size, 0, none⟩) 0 0) []) := ZRow.made w4 (Nat.le_refl _)
          have HB5 : Hid (Below w4.heap.size w4 (w4.alloc (.cells #[] 3))) := (Below.refl _ _).alloc (Nat.le_refl _) _
          have hs5 : w4.heap.size ≤ (w4.alloc (.cells #[] 3)).heap.size := by simp
          have y5 := blk_cell ((HB5.out.block _ hx4).trans HX4.out) 0
          have y6 := blk_cell ((HB5.out.block _ hx4).trans HX4.out) 1
          simp only [List.getElem?_toArray, List.getElem?_cons_zero, List.getElem?_cons_succ] at y5 y6
          have yy0 := blk_cell HX4.out 0
          have yy1 := blk_cell HX4.out 1
          simp only [List.getElem?_toArray, List.getElem?_cons_zero, List.getElem?_cons_succ] at yy0 yy1
          clear HV4 htk hbig hy0 dy
          have HN : Hid (N = y - tk + pt) := hN
          rw [← hN] at d2
          have hNe : y - tk + pt = N := hN.symm
          clear hN
          by_cases o23 : op = 23
          · subst o23
            have HVN : Hid (V = Cd.loopS ts xs to (to - (a + 1)) (a + 1) hs) := by show _ = _; rw [HV5.out]; rfl
            clear HV5 HNK2
            go_wp2
            refine wp_loop_rounds 1 ?_
            rw [rounds_succ]
            go_wp2
            go_roundw
            case rel => exact ⟨a + 1, hs, by go_num, by omega, by simp; omega, HI.out, HB4.out.alloc (by omega) _, (HB5.out.block _ (by omega)).trans HK4.out, HVN.out⟩
            case measure => simp [intOf]; omega
          obtain ⟨z, rfl⟩ : ∃ z : Nat, arg = (z : Int) := ⟨arg.toNat, by have := HAB2.out; omega⟩
          by_cases o22 : op = 22
          · subst o22
            have HLST : Hid (Cd.next ⟨22, (z : Int)⟩ a = [z]) := by show _ = _; simp [Cd.next]
            go_wp2_with (at_builtin; go_must (refine HZ4.out.push rfl (.tmp 110) (.tmp 113) rfl rfl _ (z) ?hz (by first | rfl | (rw [World.size_alloc]; rfl)) ?hl ?hb ?_))
            case hz => first | rfl | omega
            case hl => simp
            case hb => exact hs5
            intro w6v w6 hrow hbel
            have HZ6 : Hid (ZRow w4.heap.size w6 w6v [z]) := hrow
            have HB6 : Hid (Below (w.heap.size + 1) W1 w6) := HB4.out.trans ((HB5.out.trans hbel).mono (by omega))
            have HK6 : Hid (KidsBlk w6 (w.heap.size + 1) hs) := ((HB5.out.trans hbel).block _ (by omega)).trans HK4.out
            have hs6 : w.heap.size + 2 ≤ w6.heap.size := Nat.le_trans (Nat.le_trans (by omega) hs5) hbel.size
            clear hrow hbel
            obtain ⟨sa, sc, rfl, fs⟩ := HZ6.out.form
            have HMK : Hid (V = match Cd.mark hs N ([z].drop 0) with | none => false | some hs' => Cd.loopS ts xs to (to - (a + 1)) (a + 1) hs') := by show _ = _; rw [HV5.out, HLST.out]; rfl
            obtain ⟨L, hL⟩ : ∃ L, L = [z] := ⟨_, rfl⟩
            have HNL : Hid (∀ j, j < L.length → ∃ sg, sa = some ⟨sg, 0, none⟩ ∧ w6.cell? ⟨sg, j, none⟩ = some (.int .i64 ((L.getD j 0 : Nat) : Int)) ∧ sg ≠ w.heap.size + 1 ∧ L.getD j 0 ≤ to) := by
              intro j hj
              rw [hL] at hj ⊢
              obtain ⟨sg, e1, e2⟩ := fs (by omega)
              refine ⟨sg, e1, e2 j hj, ?_, ?_⟩
              · have h1 := HZ6.out.2
                rcases h1 with ⟨h1, -⟩ | ⟨g2, _, _, h1, h2, _⟩
                · rw [e1] at h1; simp at h1
                · rw [e1] at h1; simp at h1; omega
              · refine (HNK2.out _ ?_).2
                rw [HLST.out, List.getD_eq_getElem?_getD, List.getElem?_eq_getElem hj]
                exact List.getElem_mem _
            rw [← hL] at HMK ⊢
            obtain ⟨q, hq⟩ : ∃ q, q = L.length := ⟨_, rfl⟩
            have HQ : Hid (q = L.length) := hq
            have hq2 : q ≤ 2 := by rw [hq, hL]; simp
            rw [← hq] at HNL ⊢
            clear hq hL fs HZ6 HV5 HLST
            go_wp2
            go_loopw [15] (fun kk wq => ∃ (k : Nat) (h2 : List Int), kk = .int .i64 (k : Int) ∧ k ≤ q ∧ w.heap.size + 2 ≤ wq.heap.size ∧ Hid (Cd.Inv h2 (-1) 20 ∧ h2.length = to + 1) ∧ Hid (Below (w.heap.size + 1) W1 wq) ∧ Hid (KidsBlk wq (w.heap.size + 1) h2) ∧ Hid (∀ j, j < q → ∃ sg, sa = some ⟨sg, 0, none⟩ ∧ wq.cell? ⟨sg, j, none⟩ = some (.int .i64 ((L.getD j 0 : Nat) : Int)) ∧ sg ≠ w.heap.size + 1 ∧ L.getD j 0 ≤ to) ∧ Hid (V = match Cd.mark h2 N (L.drop k) with | none => false | some hs' => Cd.loopS ts xs to (to - (a + 1)) (a + 1) hs')) (fun kk _ => q - (intOf kk).toNat)
            case atStart => exact ⟨0, hs, rfl, by omega, hs6, HI.out, HB6.out, HK6.out, HNL.out, HMK.out⟩
            case round =>
              clear HNL HMK HK6 HB6 hs6
              obtain ⟨k, h2, rfl, hkq, hsq, HI2, HBq, HKq, HNq, HVq⟩ := hrel
              by_cases hlq : k < q
              · have d0 : decide ((k : Int) < (q : Int)) = true := decide_eq_true (by omega)
                have hk1 : (k : Int) < (q : Int) := by omega
                obtain ⟨sg, rfl, c1, hne, hK⟩ := HNq.out k hlq
                have HMN := Cd.mark_next (hs := h2) (n := N) (nx := L) (k := k) (by rw [← HQ.out]; exact hlq)
                have HKS := fun z => HKq.out.set (L.getD k 0) z
                have HIS := Cd.Inv.set HI2.out.1 hN0 hN20 (L.getD k 0)
                generalize L.getD k 0 = K at *
                have c2 := HKq.out.cell (j := K) (by rw [HI2.out.2]; omega) (-1)
                have f2 := blk_free HKq.out K
                have hK1 : (K : Int) < (to : Int) + 1 := by omega
                have HVM : Hid (V = match (if 0 ≤ h2.getD K (-1) ∧ h2.getD K (-1) ≠ N then none else Cd.mark (h2.set K N) N (L.drop (k + 1))) with | none => false | some hs' => Cd.loopS ts xs to (to - (a + 1)) (a + 1) hs') := by show _ = _; rw [HVq.out, HMN]
                clear HMN HVq
                generalize h2.getD K (-1) = y2 at *
                by_cases hc : 0 ≤ y2 ∧ y2 ≠ N
                · have HF : Hid (V = false) := by show _ = _; rw [HVM.out, if_pos hc]
                  have d1 : decide ((0 : Int) ≤ y2) = true := decide_eq_true hc.1
                  have d2 : (y2 != N) = true := by simpa using hc.2
                  clear HVM HKS HIS hc
                  go_wp2
                  go_ret
                  exact ⟨by rw [HF.out]; rfl, HE.out _ HBq.out⟩
                · have HVN : Hid (V = match Cd.mark (h2.set K N) N (L.drop (k + 1)) with | none => false | some hs' => Cd.loopS ts xs to (to - (a + 1)) (a + 1) hs') := by show _ = _; rw [HVM.out, if_neg hc]
                  have HKN : Hid (KidsBlk (wr.setCell ⟨w.heap.size + 1, K, none⟩ (.int .i64 N)) (w.heap.size + 1) (h2.set K N)) := HKS N
                  have HNN : Hid (∀ j, j < q → ∃ sg', (some ⟨sg, 0, none⟩ : Option Addr) = some ⟨sg', 0, none⟩ ∧ (wr.setCell ⟨w.heap.size + 1, K, none⟩ (.int .i64 N)).cell? ⟨sg', j, none⟩ = some (.int .i64 ((L.getD j 0 : Nat) : Int)) ∧ sg' ≠ w.heap.size + 1 ∧ L.getD j 0 ≤ to) := by
                    intro j hj
                    obtain ⟨s2, e1, e2, e3, e4⟩ := HNq.out j hj
                    refine ⟨s2, e1, ?_, e3, e4⟩
                    rw [← e2]
                    unfold World.cell?
                    rw [Below.heap_setCell _ _ _ _ (by exact e3)]
                  have HIN2 : Hid (Cd.Inv (h2.set K N) (-1) 20 ∧ (h2.set K N).length = to + 1) := ⟨HIS, by rw [List.length_set]; exact HI2.out.2⟩
                  clear HVM HKS HIS HKq HNq
                  by_cases hy : y2 < 0
                  · have d1 : decide ((0 : Int) ≤ y2) = false := decide_eq_false (by omega)
                    clear hc
                    go_wp2
                    go_roundw
                    case rel => exact ⟨k + 1, h2.set K N, by go_num, by omega, by simpa [World.setCell] using hsq, HIN2.out, HBq.out.setCell (Nat.le_refl _) _, HKN.out, HNN.out, HVN.out⟩
                    case measure => simp [intOf]; omega
                  · have d1 : decide ((0 : Int) ≤ y2) = true := decide_eq_true (by omega)
                    have d2 : (y2 != N) = false := by
                      have : y2 = N := by omega
                      rw [this]; simp
                    clear hc hy
                    go_wp2
                    go_roundw
                    case rel => exact ⟨k + 1, h2.set K N, by go_num, by omega, by simpa [World.setCell] using hsq, HIN2.out, HBq.out.setCell (Nat.le_refl _) _, HKN.out, HNN.out, HVN.out⟩
                    case measure => simp [intOf]; omega
              · obtain rfl : k = q := by omega
                have d0 : decide ((k : Int) < (k : Int)) = false := decide_eq_false (by omega)
                have HVE : Hid (V = Cd.loopS ts xs to (to - (a + 1)) (a + 1) h2) := by
                  show _ = _
                  rw [HVq.out, HQ.out, List.drop_length]
                  rfl
                clear HVq HNq
                go_wp2
                go_roundw
                case rel => exact ⟨a + 1, h2, by go_num, by omega, hsq, HI2.out, HBq.out, HKq.out, HVE.out⟩
                case measure => simp [intOf]; omega
          by_cases o21 : op = 21
          · subst o21
            have HLST : Hid (Cd.next ⟨21, (z : Int)⟩ a = [a + 1, z]) := by show _ = _; simp [Cd.next]
            go_wp2_with (at_builtin; go_must (refine HZ4.out.push rfl (.tmp 97) (.tmp 100) rfl rfl _ (a + 1) ?hz (by first | rfl | (rw [World.size_alloc]; rfl)) ?hl ?hb ?_))
            case hz => first | rfl | omega
            case hl => simp
            case hb => exact hs5
            intro w5v w5 hrow hbel
            have yz0 := blk_cell ((hbel.block _ hx4).trans ((HB5.out.block _ hx4).trans HX4.out)) 0
            have yz1 := blk_cell ((hbel.block _ hx4).trans ((HB5.out.block _ hx4).trans HX4.out)) 1
            simp only [List.getElem?_toArray, List.getElem?_cons_zero, List.getElem?_cons_succ] at yz0 yz1
            have HZ5 : Hid (ZRow w4.heap.size w5 w5v [a + 1]) := hrow
            have HB55 : Hid (Below w4.heap.size w4 w5) := HB5.out.trans hbel
            have hs55 : w4.heap.size ≤ w5.heap.size := HB55.out.size
            clear hrow hbel
            go_wp2_with (at_builtin; go_must (refine HZ5.out.push rfl (.tmp 110) (.tmp 113) rfl rfl _ (z) ?hz (by first | rfl | (rw [World.size_alloc]; rfl)) ?hl ?hb ?_))
            case hz => first | rfl | omega
            case hl => simp
            case hb => exact hs55
            intro w6v w6 hrow hbel
            have HZ6 : Hid (ZRow w4.heap.size w6 w6v [a + 1, z]) := hrow
            have HB6 : Hid (Below (w.heap.size + 1) W1 w6) := HB4.out.trans ((HB55.out.trans hbel).mono (by omega))
            have HK6 : Hid (KidsBlk w6 (w.heap.size + 1) hs) := ((HB55.out.trans hbel).block _ (by omega)).trans HK4.out
            have hs6 : w.heap.size + 2 ≤ w6.heap.size := Nat.le_trans (Nat.le_trans (by omega) hs55) hbel.size
            clear hrow hbel
            obtain ⟨sa, sc, rfl, fs⟩ := HZ6.out.form
            have HMK : Hid (V = match Cd.mark hs N ([a + 1, z].drop 0) with | none => false | some hs' => Cd.loopS ts xs to (to - (a + 1)) (a + 1) hs') := by show _ = _; rw [HV5.out, HLST.out]; rfl
            obtain ⟨L, hL⟩ : ∃ L, L = [a + 1, z] := ⟨_, rfl⟩
            have HNL : Hid (∀ j, j < L.length → ∃ sg, sa = some ⟨sg, 0, none⟩ ∧ w6.cell? ⟨sg, j, none⟩ = some (.int .i64 ((L.getD j 0 : Nat) : Int)) ∧ sg ≠ w.heap.size + 1 ∧ L.getD j 0 ≤ to) := by
              intro j hj
              rw [hL] at hj ⊢
              obtain ⟨sg, e1, e2⟩ := fs (by omega)
              refine ⟨sg, e1, e2 j hj, ?_, ?_⟩
              · have h1 := HZ6.out.2
                rcases h1 with ⟨h1, -⟩ | ⟨g2, _, _, h1, h2, _⟩
                · rw [e1] at h1; simp at h1
                · rw [e1] at h1; simp at h1; omega
              · refine (HNK2.out _ ?_).2
                rw [HLST.out, List.getD_eq_getElem?_getD, List.getElem?_eq_getElem hj]
                exact List.getElem_mem _
            rw [← hL] at HMK ⊢
            obtain ⟨q, hq⟩ : ∃ q, q = L.length := ⟨_, rfl⟩
            have HQ : Hid (q = L.length) := hq
            have hq2 : q ≤ 2 := by rw [hq, hL]; simp
            rw [← hq] at HNL ⊢
            clear hq hL fs HZ6 HV5 HLST
            go_wp2
            go_loopw [15] (fun kk wq => ∃ (k : Nat) (h2 : List Int), kk = .int .i64 (k : Int) ∧ k ≤ q ∧ w.heap.size + 2 ≤ wq.heap.size ∧ Hid (Cd.Inv h2 (-1) 20 ∧ h2.length = to + 1) ∧ Hid (Below (w.heap.size + 1) W1 wq) ∧ Hid (KidsBlk wq (w.heap.size + 1) h2) ∧ Hid (∀ j, j < q → ∃ sg, sa = some ⟨sg, 0, none⟩ ∧ wq.cell? ⟨sg, j, none⟩ = some (.int .i64 ((L.getD j 0 : Nat) : Int)) ∧ sg ≠ w.heap.size + 1 ∧ L.getD j 0 ≤ to) ∧ Hid (V = match Cd.mark h2 N (L.drop k) with | none => false | some hs' => Cd.loopS ts xs to (to - (a + 1)) (a + 1) hs')) (fun kk _ => q - (intOf kk).toNat)
            case atStart => exact ⟨0, hs, rfl, by omega, hs6, HI.out, HB6.out, HK6.out, HNL.out, HMK.out⟩
            case round =>
              clear HNL HMK HK6 HB6 hs6
              obtain ⟨k, h2, rfl, hkq, hsq, HI2, HBq, HKq, HNq, HVq⟩ := hrel
              by_cases hlq : k < q
              · have d0 : decide ((k : Int) < (q : Int)) = true := decide_eq_true (by omega)
                have hk1 : (k : Int) < (q : Int) := by omega
                obtain ⟨sg, rfl, c1, hne, hK⟩ := HNq.out k hlq
                have HMN := Cd.mark_next (hs := h2) (n := N) (nx := L) (k := k) (by rw [← HQ.out]; exact hlq)
                have HKS := fun z => HKq.out.set (L.getD k 0) z
                have HIS := Cd.Inv.set HI2.out.1 hN0 hN20 (L.getD k 0)
                generalize L.getD k 0 = K at *
                have c2 := HKq.out.cell (j := K) (by rw [HI2.out.2]; omega) (-1)
                have f2 := blk_free HKq.out K
                have hK1 : (K : Int) < (to : Int) + 1 := by omega
                have HVM : Hid (V = match (if 0 ≤ h2.getD K (-1) ∧ h2.getD K (-1) ≠ N then none else Cd.mark (h2.set K N) N (L.drop (k + 1))) with | none => false | some hs' => Cd.loopS ts xs to (to - (a + 1)) (a + 1) hs') := by show _ = _; rw [HVq.out, HMN]
                clear HMN HVq
                generalize h2.getD K (-1) = y2 at *
                by_cases hc : 0 ≤ y2 ∧ y2 ≠ N
                · have HF : Hid (V = false) := by show _ = _; rw [HVM.out, if_pos hc]
                  have d1 : decide ((0 : Int) ≤ y2) = true := decide_eq_true hc.1
                  have d2 : (y2 != N) = true := by simpa using hc.2
                  clear HVM HKS HIS hc
                  go_wp2
                  go_ret
                  exact ⟨by rw [HF.out]; rfl, HE.out _ HBq.out⟩
                · have HVN : Hid (V = match Cd.mark (h2.set K N) N (L.drop (k + 1)) with | none => false | some hs' => Cd.loopS ts xs to (to - (a + 1)) (a + 1) hs') := by show _ = _; rw [HVM.out, if_neg hc]
                  have HKN : Hid (KidsBlk (wr.setCell ⟨w.heap.size + 1, K, none⟩ (.int .i64 N)) (w.heap.size + 1) (h2.set K N)) := HKS N
                  have HNN : Hid (∀ j, j < q → ∃ sg', (some ⟨sg, 0, none⟩ : Option Addr) = some ⟨sg', 0, none⟩ ∧ (wr.setCell ⟨w.heap.size + 1, K, none⟩ (.int .i64 N)).cell? ⟨sg', j, none⟩ = some (.int .i64 ((L.getD j 0 : Nat) : Int)) ∧ sg' ≠ w.heap.size + 1 ∧ L.getD j 0 ≤ to) := by
                    intro j hj
                    obtain ⟨s2, e1, e2, e3, e4⟩ := HNq.out j hj
                    refine ⟨s2, e1, ?_, e3, e4⟩
                    rw [← e2]
                    unfold World.cell?
                    rw [Below.heap_setCell _ _ _ _ (by exact e3)]
                  have HIN2 : Hid (Cd.Inv (h2.set K N) (-1) 20 ∧ (h2.set K N).length = to + 1) := ⟨HIS, by rw [List.length_set]; exact HI2.out.2⟩
                  clear HVM HKS HIS HKq HNq
                  by_cases hy : y2 < 0
                  · have d1 : decide ((0 : Int) ≤ y2) = false := decide_eq_false (by omega)
                    clear hc
                    go_wp2
                    go_roundw
                    case rel => exact ⟨k + 1, h2.set K N, by go_num, by omega, by simpa [World.setCell] using hsq, HIN2.out, HBq.out.setCell (Nat.le_refl _) _, HKN.out, HNN.out, HVN.out⟩
                    case measure => simp [intOf]; omega
                  · have d1 : decide ((0 : Int) ≤ y2) = true := decide_eq_true (by omega)
                    have d2 : (y2 != N) = false := by
                      have : y2 = N := by omega
                      rw [this]; simp
                    clear hc hy
                    go_wp2
                    go_roundw
                    case rel => exact ⟨k + 1, h2.set K N, by go_num, by omega, by simpa [World.setCell] using hsq, HIN2.out, HBq.out.setCell (Nat.le_refl _) _, HKN.out, HNN.out, HVN.out⟩
                    case measure => simp [intOf]; omega
              · obtain rfl : k = q := by omega
                have d0 : decide ((k : Int) < (k : Int)) = false := decide_eq_false (by omega)
                have HVE : Hid (V = Cd.loopS ts xs to (to - (a + 1)) (a + 1) h2) := by
                  show _ = _
                  rw [HVq.out, HQ.out, List.drop_length]
                  rfl
                clear HVq HNq
                go_wp2
                go_roundw
                case rel => exact ⟨a + 1, h2, by go_num, by omega, hsq, HI2.out, HBq.out, HKq.out, HVE.out⟩
                case measure => simp [intOf]; omega
          have HLST : Hid (Cd.next ⟨op, (z : Int)⟩ a = [a + 1]) := by show _ = _; simp [Cd.next, o23, o22, o21]
          have e23 : (op != 23) = true := by simpa using o23
          have e22 : (op != 22) = true := by simpa using o22
          have f21 : (op == 21) = false := beq_eq_false_iff_ne.2 o21
          have f22 : (op == 22) = false := beq_eq_false_iff_ne.2 o22
          clear o23 o22 o21
          go_wp2_with (at_builtin; go_must (refine HZ4.out.push rfl (.tmp 97) (.tmp 100) rfl rfl _ (a + 1) ?hz (by first | rfl | (rw [World.size_alloc]; rfl)) ?hl ?hb ?_))
          case hz => first | rfl | omega
          case hl => simp
          case hb => exact hs5
          intro w6v w6 hrow hbel
          have yz0 := blk_cell ((hbel.block _ hx4).trans ((HB5.out.block _ hx4).trans HX4.out)) 0
          simp only [List.getElem?_toArray, List.getElem?_cons_zero] at yz0
          have HZ6 : Hid (ZRow w4.heap.size w6 w6v [a + 1]) := hrow
          have HB6 : Hid (Below (w.heap.size + 1) W1 w6) := HB4.out.trans ((HB5.out.trans hbel).mono (by omega))
          have HK6 : Hid (KidsBlk w6 (w.heap.size + 1) hs) := ((HB5.out.trans hbel).block _ (by omega)).trans HK4.out
          have hs6 : w.heap.size + 2 ≤ w6.heap.size := Nat.le_trans (Nat.le_trans (by omega) hs5) hbel.size
          clear hrow hbel
          obtain ⟨sa, sc, rfl, fs⟩ := HZ6.out.form
          have HMK : Hid (V = match Cd.mark hs N ([a + 1].drop 0) with | none => false | some hs' => Cd.loopS ts xs to (to - (a + 1)) (a + 1) hs') := by show _ = _; rw [HV5.out, HLST.out]; rfl
          obtain ⟨L, hL⟩ : ∃ L, L = [a + 1] := ⟨_, rfl⟩
          have HNL : Hid (∀ j, j < L.length → ∃ sg, sa = some ⟨sg, 0, none⟩ ∧ w6.cell? ⟨sg, j, none⟩ = some (.int .i64 ((L.getD j 0 : Nat) : Int)) ∧ sg ≠ w.heap.size + 1 ∧ L.getD j 0 ≤ to) := by
            intro j hj
            rw [hL] at hj ⊢
            obtain ⟨sg, e1, e2⟩ := fs (by omega)
            refine ⟨sg, e1, e2 j hj, ?_, ?_⟩
            · have h1 := HZ6.out.2
              rcases h1 with ⟨h1, -⟩ | ⟨g2, _, _, h1, h2, _⟩
              · rw [e1] at h1; simp at h1
              · rw [e1] at h1; simp at h1; omega
            · refine (HNK2.out _ ?_).2
              rw [HLST.out, List.getD_eq_getElem?_getD, List.getElem?_eq_getElem hj]
              exact List.getElem_mem _
          rw [← hL] at HMK ⊢
          obtain ⟨q, hq⟩ : ∃ q, q = L.length := ⟨_, rfl⟩
          have HQ : Hid (q = L.length) := hq
          have hq2 : q ≤ 2 := by rw [hq, hL]; simp
          rw [← hq] at HNL ⊢
          clear hq hL fs HZ6 HV5 HLST
          go_wp2
          go_loopw [15] (fun kk wq => ∃ (k : Nat) (h2 : List Int), kk = .int .i64 (k : Int) ∧ k ≤ q ∧ w.heap.size + 2 ≤ wq.heap.size ∧ Hid (Cd.Inv h2 (-1) 20 ∧ h2.length = to + 1) ∧ Hid (Below (w.heap.size + 1) W1 wq) ∧ Hid (KidsBlk wq (w.heap.size + 1) h2) ∧ Hid (∀ j, j < q → ∃ sg, sa = some ⟨sg, 0, none⟩ ∧ wq.cell? ⟨sg, j, none⟩ = some (.int .i64 ((L.getD j 0 : Nat) : Int)) ∧ sg ≠ w.heap.size + 1 ∧ L.getD j 0 ≤ to) ∧ Hid (V = match Cd.mark h2 N (L.drop k) with | none => false | some hs' => Cd.loopS ts xs to (to - (a + 1)) (a + 1) hs')) (fun kk _ => q - (intOf kk).toNat)
          case atStart => exact ⟨0, hs, rfl, by omega, hs6, HI.out, HB6.out, HK6.out, HNL.out, HMK.out⟩
          case round =>
            clear HNL HMK HK6 HB6 hs6
            obtain ⟨k, h2, rfl, hkq, hsq, HI2, HBq, HKq, HNq, HVq⟩ := hrel
            by_cases hlq : k < q
            · have d0 : decide ((k : Int) < (q : Int)) = true := decide_eq_true (by omega)
              have hk1 : (k : Int) < (q : Int) := by omega
              obtain ⟨sg, rfl, c1, hne, hK⟩ := HNq.out k hlq
              have HMN := Cd.mark_next (hs := h2) (n := N) (nx := L) (k := k) (by rw [← HQ.out]; exact hlq)
              have HKS := fun z => HKq.out.set (L.getD k 0) z
              have HIS := Cd.Inv.set HI2.out.1 hN0 hN20 (L.getD k 0)
              generalize L.getD k 0 = K at *
              have c2 := HKq.out.cell (j := K) (by rw [HI2.out.2]; omega) (-1)
              have f2 := blk_free HKq.out K
              have hK1 : (K : Int) < (to : Int) + 1 := by omega
              have HVM : Hid (V = match (if 0 ≤ h2.getD K (-1) ∧ h2.getD K (-1) ≠ N then none else Cd.mark (h2.set K N) N (L.drop (k + 1))) with | none => false | some hs' => Cd.loopS ts xs to (to - (a + 1)) (a + 1) hs') := by show _ = _; rw [HVq.out, HMN]
              clear HMN HVq
              generalize h2.getD K (-1) = y2 at *
              by_cases hc : 0 ≤ y2 ∧ y2 ≠ N
              · have HF : Hid (V = false) := by show _ = _; rw [HVM.out, if_pos hc]
                have d1 : decide ((0 : Int) ≤ y2) = true := decide_eq_true hc.1
                have d2 : (y2 != N) = true := by simpa using hc.2
                clear HVM HKS HIS hc
                go_wp2
                go_ret
                exact ⟨by rw [HF.out]; rfl, HE.out _ HBq.out⟩
              · have HVN : Hid (V = match Cd.mark (h2.set K N) N (L.drop (k + 1)) with | none => false | some hs' => Cd.loopS ts xs to (to - (a + 1)) (a + 1) hs') := by show _ = _; rw [HVM.out, if_neg hc]
                have HKN : Hid (KidsBlk (wr.setCell ⟨w.heap.size + 1, K, none⟩ (.int .i64 N)) (w.heap.size + 1) (h2.set K N)) := HKS N
                have HNN : Hid (∀ j, j < q → ∃ sg', (some ⟨sg, 0, none⟩ : Option Addr) = some ⟨sg', 0, none⟩ ∧ (wr.setCell ⟨w.heap.size + 1, K, none⟩ (.int .i64 N)).cell? ⟨sg', j, none⟩ = some (.int .i64 ((L.getD j 0 : Nat) : Int)) ∧ sg' ≠ w.heap.size + 1 ∧ L.getD j 0 ≤ to) := by
                  intro j hj
                  obtain ⟨s2, e1, e2, e3, e4⟩ := HNq.out j hj
                  refine ⟨s2, e1, ?_, e3, e4⟩
                  rw [← e2]
                  unfold World.cell?
                  rw [Below.heap_setCell _ _ _ _ (by exact e3)]
                have HIN2 : Hid (Cd.Inv (h2.set K N) (-1) 20 ∧ (h2.set K N).length = to + 1) := ⟨HIS, by rw [List.length_set]; exact HI2.out.2⟩
                clear HVM HKS HIS HKq HNq
                by_cases hy : y2 < 0
                · have d1 : decide ((0 : Int) ≤ y2) = false := decide_eq_false (by omega)
                  clear hc
                  go_wp2
                  go_roundw
                  case rel => exact ⟨k + 1, h2.set K N, by go_num, by omega, by simpa [World.setCell] using hsq, HIN2.out, HBq.out.setCell (Nat.le_refl _) _, HKN.out, HNN.out, HVN.out⟩
                  case measure => simp [intOf]; omega
                · have d1 : decide ((0 : Int) ≤ y2) = true := decide_eq_true (by omega)
                  have d2 : (y2 != N) = false := by
                    have : y2 = N := by omega
                    rw [this]; simp
                  clear hc hy
                  go_wp2
                  go_roundw
                  case rel => exact ⟨k + 1, h2.set K N, by go_num, by omega, by simpa [World.setCell] using hsq, HIN2.out, HBq.out.setCell (Nat.le_refl _) _, HKN.out, HNN.out, HVN.out⟩
                  case measure => simp [intOf]; omega
            · obtain rfl : k = q := by omega
              have d0 : decide ((k : Int) < (k : Int)) = false := decide_eq_false (by omega)
              have HVE : Hid (V = Cd.loopS ts xs to (to - (a + 1)) (a + 1) h2) := by
                show _ = _
                rw [HVq.out, HQ.out, List.drop_length]
                rfl
              clear HVq HNq
              go_wp2
              go_roundw
              case rel => exact ⟨a + 1, h2, by go_num, by omega, hsq, HI2.out, HBq.out, HKq.out, HVE.out⟩
              case measure => simp [intOf]; omega
        · obtain rfl : a = to := by omega
          have d0 : decide ((a : Int) < (a : Int)) = false := decide_eq_false (by omega)
          have c0 := HK.out.cell (j := a) (by rw [HI.out.2]; omega) (-1)
          have HV2 : Hid (V = decide (hs.getD a (-1) ≤ 0)) := HV.out.trans (Cd.loopS_end hs)
          clear HV HK R0 z1
          generalize hs.getD a (-1) = y at *
          go_wp2
          go_ret
          exact ⟨by rw [HV2.out]; rfl, HE.out _ HB.out⟩
end Go.Proofs.YtehagonaacbmiaaGreat
