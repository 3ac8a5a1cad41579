/- What the program's Unhex answers, at every text. -/
import Derived.Test.YtnckjnkbpdfjpaaDoorIE
import Derived.Test.YtnckjnkbpdfjpaaDoorPlainE
import Derived.Test.YtnckjnkbpdfjpaaDoorID
namespace Go.Proofs.YtnckjnkbpdfjpaaDoor
open Go.RowKit

def unVal : Option (List UInt8) → Value
  | some vs => .tuple #[.string ⟨(Pl.prs vs).toArray⟩, .bool true]
  | none => .tuple #[.string ⟨#[]⟩, .bool false]

/-- What Unhex answers. -/
def unRes (s : ByteArray) : Value := if s.size ≤ 40000 ∧ s.size % 2 = 0 then unVal (Pl.vals Pl.figures.data.toList [] s.data.toList) else .tuple #[.string ⟨#[]⟩, .bool false]

set_option maxHeartbeats 800000 in
set_option maxRecDepth 100000 in
theorem implUnhex_any (s : ByteArray) (w : World) (hs : s.size ≤ 1048576) :
    Calls Tryd.prog 14 #[.string s] w fun e w' => e = .returned (unRes s) ∧ Below w.heap.size w w' := by
  by_cases h2 : s.size % 2 = 0
  · have d2 : ((s.size : Int) % 2 != 0) = false := by simp; omega
    by_cases h1 : 40000 < s.size
    · have hr : unRes s = .tuple #[.string ⟨#[]⟩, .bool false] := by unfold unRes; rw [if_neg (by omega)]
      rw [hr]
      have d1 : decide ((40000 : Int) < (s.size : Int)) = true := by simp; omega
      go_enter Tryd.func14, Tryd.ntmps14
      go_wp2
      go_ret2
      exact ⟨rfl, Below.refl _ _⟩
    · have d1 : decide ((40000 : Int) < (s.size : Int)) = false := by simp; omega
      have hr : unRes s = unVal (Pl.vals Pl.figures.data.toList [] s.data.toList) := by unfold unRes; rw [if_pos (by omega)]
      rw [hr]
      clear hr
      obtain ⟨n, hn⟩ : ∃ n, s.size = 2 * n := ⟨s.size / 2, by omega⟩
      have hn2 : 2 * n = s.size := hn.symm
      have hdiv : (s.size : Int) / 2 = (n : Int) := by omega
      clear hn h2
      obtain ⟨M, hMs, hMl, hmk⟩ := makeFull_run n (by omega)
      have hc := fun w => valuesOf_any s Pl.figures w hs (by decide)
      have HC : Hid _ := hc
      clear hc
      go_enter Tryd.func14, Tryd.ntmps14
      go_wp2_with fail
      refine (HC.out _).mono ?_
      rintro e w1 ⟨hb1, ⟨vs, v, hvs, rfl, hrow⟩ | ⟨hno, rfl⟩⟩
      · have HV : Hid (Pl.vals Pl.figures.data.toList [] s.data.toList = some vs) := hvs
        have hlen := Pl.vals_len _ _ _ _ hvs
        have hsm := Pl.vals_small _ _ _ _ (by decide) (by simp) hvs
        have HSM : Hid (∀ b ∈ vs, b.toNat < 16) := hsm
        have hvl : vs.length = s.size := by simpa using hlen
        have HVL : Hid (vs.length = s.size) := hvl
        have hbase : w.heap.size ≤ w1.heap.size := hb1.size
        by_cases hne : vs = []
        · have hn0 : n = 0 := by rw [hne] at hvl; simp at hvl; omega
          clear hvs hlen hsm hvl HSM HVL
          subst hn0
          subst hne
          have hmk0 : ∀ W : World, (Instr.makeSlice 22 (.int .i64 0) (.int .i64 0)).run Tryd.prog W = .ok (.slice (some ⟨W.heap.size, 0, none⟩) 0 0) (W.alloc (.cells M 5)) := hmk
          clear hmk
          have hfull := Row.full (B := w.heap.size) w1 hbase (by decide) hMs hMl
          have hst := hfull.str
          clear hfull
          go_wp2
          refine wp_loop_rounds 1 ?_
          rw [rounds_succ]
          go_wp2
          go_ret2
          exact ⟨by rw [HV.out]; rfl, hb1.alloc hbase _⟩
        · obtain ⟨g, cap, rfl, hgB, hgl⟩ := hrow.at hne
          rw [hvl] at hrow ⊢
          have hcell := fun j hj => hrow.cell hvl j hj
          have HCL : Hid (∀ j, j < s.size → w1.cell? ⟨g, j, none⟩ = some (.int .u8 ((vs.getD j 0).toNat : Int))) := hcell
          clear hvs hlen hsm hvl hcell hrow hne
          go_wp2
          clear hmk
          go_loopw [30] (fun i wr => ∃ (k : Nat) (bs : List UInt8), i = .int .i64 k ∧ k ≤ n ∧ Row w1.heap.size wr (.slice (some ⟨w1.heap.size, 0, none⟩) n n) bs ∧ Below w1.heap.size w1 wr ∧ Hid (bs.length = n) ∧ Hid (bs.take k = (Pl.prs vs).take k)) (fun i _ => n - (intOf i).toNat)
          case atStart => exact ⟨0, List.replicate n 0, rfl, by omega, Row.full w1 (Nat.le_refl _) (by unfold maxLen; omega) hMs hMl, (Below.refl _ _).alloc (Nat.le_refl _) _, (by show _ = _; simp), rfl⟩
          case round =>
            obtain ⟨k, bs, rfl, hk, hrow, hbel, HL, HT⟩ := hrel
            by_cases hlt : k < n
            · have hp16 : (vs.getD (2 * k) 0).toNat < 16 := by
                have hvl := HVL.out
                rw [List.getD_eq_getElem?_getD, List.getElem?_eq_getElem (by omega)]
                exact HSM.out _ (List.getElem_mem _)
              have hq16 : (vs.getD (2 * k + 1) 0).toNat < 16 := by
                have hvl := HVL.out
                rw [List.getD_eq_getElem?_getD, List.getElem?_eq_getElem (by omega)]
                exact HSM.out _ (List.getElem_mem _)
              obtain ⟨p, hp⟩ : ∃ p, p = (vs.getD (2 * k) 0).toNat := ⟨_, rfl⟩
              obtain ⟨q, hq⟩ : ∃ q, q = (vs.getD (2 * k + 1) 0).toNat := ⟨_, rfl⟩
              rw [← hp] at hp16
              rw [← hq] at hq16
              have hc1 : wr.cell? ⟨g, (2 * (k : Int)).toNat, none⟩ = some (.int .u8 (p : Int)) := by
                rw [show (2 * (k : Int)).toNat = 2 * k by omega, hp]; exact (hbel.cell (by exact hgl)).trans (HCL.out _ (by omega))
              have hc2 : wr.cell? ⟨g, (2 * (k : Int) + 1).toNat, none⟩ = some (.int .u8 (q : Int)) := by
                rw [show (2 * (k : Int) + 1).toNat = 2 * k + 1 by omega, hq]; exact (hbel.cell (by exact hgl)).trans (HCL.out _ (by omega))
              have HP : Hid (p = (vs.getD (2 * k) 0).toNat) := hp
              have HQ : Hid (q = (vs.getD (2 * k + 1) 0).toNat) := hq
              clear hp hq
              have hc3 := hrow.cell HL.out k hlt
              have hf3 := hrow.free HL.out k
              have hn1 : g ≠ w1.heap.size := by omega
              have i1 : (2 : Int) * (k : Int) < (s.size : Int) := by omega
              have i2 : (2 : Int) * (k : Int) + 1 < (s.size : Int) := by omega
              have i3 : (k : Int) < (n : Int) := by omega
              have i4 : (0 : Int) ≤ 2 * (k : Int) := by omega
              have i5 : (0 : Int) ≤ 2 * (k : Int) + 1 := by omega
              have hw1 : IntKind.i64.wrap (2 * (k : Int)) = 2 * (k : Int) := IntWalk.i64_in _ (by omega)
              have hw2 : IntKind.i64.wrap (2 * (k : Int) + 1) = 2 * (k : Int) + 1 := IntWalk.i64_in _ (by omega)
              have hw3 : IntKind.u8.wrap ((p : Int) * 16) = (p : Int) * 16 := IntWalk.u8_in _ (by omega)
              have hw4 : IntKind.u8.wrap ((p : Int) * 16 + (q : Int)) = (p : Int) * 16 + (q : Int) := IntWalk.u8_in _ (by omega)
              have ks1 : (wr.setCell ⟨w1.heap.size, k, none⟩ (.int .u8 ((p : Int) * 16 + (q : Int)))).cell? ⟨g, (2 * (k : Int)).toNat, none⟩ = some (.int .u8 (p : Int)) := (World.cell?_of_block (Below.heap_setCell _ _ _ _ hn1)).trans hc1
              have ks2 : (wr.setCell ⟨w1.heap.size, k, none⟩ (.int .u8 ((p : Int) * 16 + (q : Int)))).cell? ⟨g, (2 * (k : Int) + 1).toNat, none⟩ = some (.int .u8 (q : Int)) := (World.cell?_of_block (Below.heap_setCell _ _ _ _ hn1)).trans hc2
              go_wp2_with fail
              go_region_held3 (fun w' => w'.cell? ⟨g, (2 * (k : Int)).toNat, none⟩ = some (.int .u8 (p : Int)) ∧ w'.cell? ⟨g, (2 * (k : Int) + 1).toNat, none⟩ = some (.int .u8 (q : Int))) (go_keep) (fail)
              have hpb : ((Pl.pb p q).toNat : Int) = (p : Int) * 16 + (q : Int) := by have := Pl.pb_nat p q (by omega); omega
              have hrow2 := hrow.store HL.out k (Pl.pb p q)
              rw [hpb] at hrow2
              have hat : (Pl.prs vs)[k]? = some (Pl.pb p q) := by
                rw [Pl.prs_at vs n k (by have := HVL.out; omega) hlt, HP.out, HQ.out]
              have HT2 : Hid ((bs.set k (Pl.pb p q)).take (k + 1) = (Pl.prs vs).take (k + 1)) := Pl.take_set bs (Pl.prs vs) k _ HT.out (by have := HL.out; omega) hat
              clear hpb hat ks1 ks2 hc1 hc2 hc3 hf3 hrow
              go_wp2
              go_roundw
              case rel => exact ⟨k + 1, _, by go_num, by omega, hrow2, (hbel.setCell (Nat.le_refl _) _).drew, (by have := HL.out; show _ = _; simpa using this), HT2.out⟩
              case measure => simp [intOf]; omega
            · have hst := hrow.str
              go_wp2
              go_ret2
              have e : bs = Pl.prs vs := by
                have h3 := HT.out
                rw [List.take_of_length_le (by have := HL.out; omega), List.take_of_length_le (by rw [Pl.prs_len vs n (by have := HVL.out; omega)]; omega)] at h3
                exact h3
              exact ⟨by rw [HV.out, e]; rfl, hb1.trans (hbel.mono hbase)⟩
      · have HN : Hid (Pl.vals Pl.figures.data.toList [] s.data.toList = none) := hno
        clear hno
        go_wp2
        go_ret2
        exact ⟨by rw [HN.out]; rfl, hb1⟩
  · have hr : unRes s = .tuple #[.string ⟨#[]⟩, .bool false] := by unfold unRes; rw [if_neg (by omega)]
    rw [hr]
    have d2 : ((s.size : Int) % 2 != 0) = true := by simp; omega
    go_enter Tryd.func14, Tryd.ntmps14
    go_wp2
    go_ret2
    exact ⟨rfl, Below.refl _ _⟩

end Go.Proofs.YtnckjnkbpdfjpaaDoor
