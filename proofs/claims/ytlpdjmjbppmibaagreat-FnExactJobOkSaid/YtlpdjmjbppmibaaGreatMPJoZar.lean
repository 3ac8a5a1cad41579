/- A store in bytes: the specification of StoreText. A job: the specification of JobOk. The contract of the library's IndexByte, laid at this program; Index and Cut at one byte. -/
import Derived.Test.YtlpdjmjbppmibaaGreatMPJoZap
import Derived.Test.YtlpdjmjbppmibaaGreatMPJoOkD
import Derived.Test.YtlpdjmjbppmibaaGreatMPJoEqB
import Derived.Deep.RegionHeld3
import Derived.Test.YtlpdjmjbppmibaaGreatMPJoZah
import Derived.Test.YtlpdjmjbppmibaaGreatMPJoZan
import Derived.Shelf.Strings.Search1
import Derived.Test.YtlpdjmjbppmibaaGreatProg
import Derived.WalkKit
import Derived.WalkSpells
import Derived.WalkLawsBesides
import Derived.Handy
import Derived.Lib.Strings
import Derived.Lib.IndexLaws
import Derived.BigQuiet
import Derived.Deep.QuietTactic
import Derived.OwnWalk
namespace Go.Proofs.YtlpdjmjbppmibaaGreat
section PartStX
open Go.RowKit

namespace St
end St

end PartStX
section PartJbB
open Go.RowKit

set_option maxHeartbeats 4000000 in
set_option maxRecDepth 100000 in
theorem spJobOk (tv lv u x nv mv : Value) (j : Jb) (w : World) (h : Jb.At w tv lv u x nv mv j) (hs : Jb.Sm j) :
    Calls Tryz.prog 6 #[.agg (Jb.cells tv lv u x nv mv j)] w fun e w' => e = .returned (.bool j.ok) ∧ Below w.heap.size w w' := by
  have HA : Hid (∀ W, Below w.heap.size w W → Jb.At W tv lv u x nv mv j) := fun W hb => h.keep hb
  have HS : Hid (Jb.Sm j) := hs
  have CC : Hid (∀ W, Below w.heap.size w W → Calls Tryz.prog 18 #[.agg #[tv, lv, .int .i64 j.bg, .int .i64 j.ln, .int .i64 j.en]] W fun e w' => e = .returned (.bool (Cd.ok j.ts j.xs j.bg j.ln j.en)) ∧ Below W.heap.size W w') := fun W hb => spCodeOk tv lv j.bg j.ln j.en j.ts j.xs W (h.t.keep hb) (h.l.keep hb) hs.t hs.tl hs.xl
  have CT : Hid (∀ W, Below w.heap.size w W → Calls Tryz.prog 19 #[.agg #[u, x, .string j.o]] W fun e w' => e = .returned (.bool (St.ok j.vs j.cs j.o)) ∧ Below W.heap.size W w') := fun W hb => spStoreOk u x j.o j.vs j.cs W (h.u.keep hb) (h.x.keep hb) hs.s
  obtain ⟨A, hA⟩ : ∃ A, A = Cd.ok j.ts j.xs j.bg j.ln j.en := ⟨_, rfl⟩
  obtain ⟨B, hB⟩ : ∃ B, B = St.ok j.vs j.cs j.o := ⟨_, rfl⟩
  have HOK : Hid ((∀ i, i < j.ns.length → j.okN i = true) → (∀ i, i < j.ls.length → j.okL i = true) → j.ok = (A && (B && (decide (j.ns.length ≤ 20) && decide (j.ls.length ≤ 20))))) := by
    rw [hA, hB]
    exact Jb.ok_rest
  rw [← hA] at CC
  rw [← hB] at CT
  clear hA hB
  obtain ⟨na, nc, rfl, -⟩ := h.n
  obtain ⟨ma, mc, rfl, -⟩ := h.m
  obtain ⟨ta, tc, rfl, -⟩ := h.t
  obtain ⟨la, lc, rfl, -⟩ := h.l
  obtain ⟨ua, uc, rfl, -⟩ := h.u
  obtain ⟨xa, xc, rfl, -⟩ := h.x
  obtain ⟨n, hn⟩ : ∃ n, n = j.ns.length := ⟨_, rfl⟩
  obtain ⟨m, hm⟩ : ∃ m, m = j.ls.length := ⟨_, rfl⟩
  have HN : Hid (n = j.ns.length ∧ m = j.ls.length) := ⟨hn, hm⟩
  have hn9 : n ≤ 1048576 := by rw [hn]; exact hs.nl
  have hm9 : m ≤ 1048576 := by rw [hm]; exact hs.ml
  rw [← hn, ← hm] at HOK
  unfold Jb.cells
  rw [← hn, ← hm]
  obtain ⟨V, hV⟩ : ∃ V, V = j.ok := ⟨_, rfl⟩
  have HV : Hid (V = j.ok) := hV
  rw [← hV]
  clear hn hm h hs hV
  obtain ⟨CL, hCL⟩ : ∃ CL : Array Value, CL = #[.slice ta j.ts.length tc, .slice la j.xs.length lc, .int .i64 j.bg, .int .i64 j.ln, .int .i64 j.en, .slice ua j.vs.length uc, .slice xa j.cs.length xc, .string j.o, .slice na n nc, .slice ma m mc] := ⟨_, rfl⟩
  have HB0 : Hid (Below w.heap.size w (w.alloc (.cells CL 42))) := (Below.refl _ _).alloc (Nat.le_refl _) _
  have HR0 : Hid ((w.alloc (.cells CL 42)).heap[w.heap.size]? = some (.cells CL 42 (0, 0))) := heap_alloc_new _ _
  have hz : w.heap.size < (w.alloc (.cells CL 42)).heap.size := by simp
  rw [hCL] at HB0 HR0 hz
  clear hCL CL
  generalize j.ts.length = tn at *
  generalize j.xs.length = xn at *
  generalize j.vs.length = vn at *
  generalize j.cs.length = cn at *
  generalize j.bg = bg at *
  generalize j.ln = ln at *
  generalize j.en = en at *
  generalize j.o = o at *
  go_enter Tryz.func6, Tryz.ntmps6
  go_wp2_with fail
  generalize w.alloc (.cells #[.slice ta tn tc, .slice la xn lc, .int .i64 bg, .int .i64 ln, .int .i64 en, .slice ua vn uc, .slice xa cn xc, .string o, .slice na n nc, .slice ma m mc] 42) = W0 at *
  have HQ : Hid (∀ W, Below W0.heap.size W0 W → W.heap[w.heap.size]? = some (.cells #[.slice ta tn tc, .slice la xn lc, .int .i64 bg, .int .i64 ln, .int .i64 en, .slice ua vn uc, .slice xa cn xc, .string o, .slice na n nc, .slice ma m mc] 42 (0, 0)) ∧ Below w.heap.size w W) := fun W hb => ⟨(hb.block _ hz).trans HR0.out, HB0.out.trans (hb.mono HB0.out.size)⟩
  clear HR0 HB0 hz
  have HCS : Hid (∀ W, Below W0.heap.size W0 W → (W.cell? ⟨w.heap.size, 0, none⟩ = some (.slice ta tn tc) ∧ W.cell? ⟨w.heap.size, 1, none⟩ = some (.slice la xn lc) ∧ W.cell? ⟨w.heap.size, 2, none⟩ = some (.int .i64 bg) ∧ W.cell? ⟨w.heap.size, 3, none⟩ = some (.int .i64 ln) ∧ W.cell? ⟨w.heap.size, 4, none⟩ = some (.int .i64 en)) ∧ (W.cell? ⟨w.heap.size, 5, none⟩ = some (.slice ua vn uc) ∧ W.cell? ⟨w.heap.size, 6, none⟩ = some (.slice xa cn xc) ∧ W.cell? ⟨w.heap.size, 7, none⟩ = some (.string o)) ∧ W.cell? ⟨w.heap.size, 8, none⟩ = some (.slice na n nc) ∧ W.cell? ⟨w.heap.size, 9, none⟩ = some (.slice ma m mc)) := fun W hb => by
    have R := (HQ.out W hb).1
    exact ⟨⟨(blk_cell R 0).trans rfl, (blk_cell R 1).trans rfl, (blk_cell R 2).trans rfl, (blk_cell R 3).trans rfl, (blk_cell R 4).trans rfl⟩, ⟨(blk_cell R 5).trans rfl, (blk_cell R 6).trans rfl, (blk_cell R 7).trans rfl⟩, (blk_cell R 8).trans rfl, (blk_cell R 9).trans rfl⟩
  go_loopw [3] (fun i wr => ∃ k : Nat, i = .int .i64 (k : Int) ∧ k ≤ n ∧ Hid (Below W0.heap.size W0 wr) ∧ Hid (∀ q, q < k → j.okN q = true)) (fun i _ => n - (intOf i).toNat)
  case atStart => exact ⟨0, rfl, by omega, Below.refl _ _, fun q hq => by omega⟩
  case round =>
    obtain ⟨k, rfl, hk, HW, HJ⟩ := hrel
    obtain ⟨-, -, q8, -⟩ := HCS.out _ HW.out
    by_cases hlt : k < n
    · have d0 : decide ((k : Int) < (n : Int)) = true := decide_eq_true (by omega)
      have hk1 : (k : Int) < (n : Int) := by omega
      have hat := (HA.out _ (HQ.out _ HW.out).2).n
      rw [← HN.out.1] at hat
      obtain ⟨b, p, rfl, c0⟩ := TsAt.cell hat HN.out.1 hlt
      have hsz := HS.out.n k (by rw [← HN.out.1]; exact hlt)
      obtain ⟨Y, hY⟩ : ∃ Y, Y = j.okN k := ⟨_, rfl⟩
      have HY := hY
      have HYH : Hid (Y = j.okN k) := hY
      unfold Jb.okN at hY
      have CNm : Hid (∀ W, Calls Tryz.prog 17 #[.string (j.ns.getD k ByteArray.empty)] W fun e w' => e = .returned (.bool Y) ∧ w' = W) := fun W => by rw [hY]; exact spNm _ W hsz
      generalize j.ns.getD k ByteArray.empty = t at *
      clear hat hsz hY HY
      cases Y with
      | false =>
        have HF : Hid (V = false) := by show _ = _; rw [HV.out]; exact Jb.ok_noN (by rw [← HN.out.1]; exact hlt) HYH.out.symm
        go_wp2_with (go_at_call 17; refine (CNm.out _).mono ?_; rintro e w2 ⟨rfl, rfl⟩)
        go_ret
        exact ⟨by rw [HF.out]; rfl, (HQ.out _ HW.out).2⟩
      | true =>
        have HJ2 : Hid (∀ q, q < k + 1 → j.okN q = true) := fun q hq => by
          by_cases e : q = k
          · rw [e]; exact HYH.out.symm
          · exact HJ.out q (by omega)
        go_wp2_with (go_at_call 17; refine (CNm.out _).mono ?_; rintro e w2 ⟨rfl, rfl⟩)
        go_roundw
        case rel => exact ⟨k + 1, by go_num, by omega, HW.out, HJ2.out⟩
        case measure => simp [intOf]; omega
    · have d0 : decide ((k : Int) < (n : Int)) = false := decide_eq_false (by omega)
      have HJN : Hid (∀ q, q < n → j.okN q = true) := fun q hq => HJ.out q (by omega)
      clear HJ
      go_wp2_with fail
      clear q8
      obtain ⟨W1, hW1⟩ : ∃ W1, W1 = wr := ⟨_, rfl⟩
      subst hW1
      go_loopw [4] (fun i wr => ∃ k : Nat, i = .int .i64 (k : Int) ∧ k ≤ m ∧ Hid (Below W0.heap.size W0 wr) ∧ Hid (∀ q, q < k → j.okL q = true)) (fun i _ => m - (intOf i).toNat)
      case atStart => exact ⟨0, rfl, by omega, HW.out, fun q hq => by omega⟩
      case round =>
        clear HW
        obtain ⟨k2, rfl, hk2, HW, HJ⟩ := hrel
        obtain ⟨-, -, -, q9⟩ := HCS.out _ HW.out
        by_cases hlt2 : k2 < m
        · have d1 : decide ((k2 : Int) < (m : Int)) = true := decide_eq_true (by omega)
          have hk3 : (k2 : Int) < (m : Int) := by omega
          have hat := (HA.out _ (HQ.out _ HW.out).2).m
          rw [← HN.out.2] at hat
          obtain ⟨b, p, rfl, c0⟩ := TsAt.cell hat HN.out.2 hlt2
          have HYH : Hid (j.okL k2 = decide ((j.ls.getD k2 ByteArray.empty).size ≤ 200)) := rfl
          generalize j.ls.getD k2 ByteArray.empty = t at *
          clear hat
          by_cases h200 : t.size ≤ 200
          · have d2 : decide ((200 : Int) < (t.size : Int)) = false := decide_eq_false (by omega)
            have HJ2 : Hid (∀ q, q < k2 + 1 → j.okL q = true) := fun q hq => by
              by_cases e : q = k2
              · rw [e, HYH.out]; exact decide_eq_true h200
              · exact HJ.out q (by omega)
            go_wp2_with fail
            go_roundw
            case rel => exact ⟨k2 + 1, by go_num, by omega, HW.out, HJ2.out⟩
            case measure => simp [intOf]; omega
          · have d2 : decide ((200 : Int) < (t.size : Int)) = true := decide_eq_true (by omega)
            have HF : Hid (V = false) := by show _ = _; rw [HV.out]; exact Jb.ok_noL (by rw [← HN.out.2]; exact hlt2) (by rw [HYH.out]; exact decide_eq_false h200)
            go_wp2_with fail
            go_ret
            exact ⟨by rw [HF.out]; rfl, (HQ.out _ HW.out).2⟩
        · have d1 : decide ((k2 : Int) < (m : Int)) = false := decide_eq_false (by omega)
          have HVE : Hid (V = (A && (B && (decide (n ≤ 20) && decide (m ≤ 20))))) := by
            show _ = _
            rw [HV.out]
            exact HOK.out (fun q hq => HJN.out q hq) (fun q hq => HJ.out q (by omega))
          obtain ⟨⟨z0, z1, z2, z3, z4⟩, -⟩ := HCS.out _ HW.out
          have CC1 := hidOfJ (CC.out _ (HQ.out _ HW.out).2)
          clear HJ HJN HOK HV CC HA HS HN
          go_wp2_with fail
          refine CC1.out.mono ?_
          rintro e w3 ⟨rfl, hb3⟩
          have HW3 : Hid (Below W0.heap.size W0 w3) := HW.out.trans (hb3.mono HW.out.size)
          clear hb3 z0 z1 z2 z3 z4 q9 CC1
          obtain ⟨-, ⟨z5, z6, z7⟩, z8, z9⟩ := HCS.out _ HW3.out
          have CT1 := hidOfJ (CT.out _ (HQ.out _ HW3.out).2)
          cases A with
          | false =>
            clear CT CT1
            go_wp2_with fail
            go_ret
            exact ⟨by rw [HVE.out]; rfl, (HQ.out _ HW3.out).2⟩
          | true =>
            go_wp2_with fail
            refine CT1.out.mono ?_
            rintro e w4 ⟨rfl, hb4⟩
            have HW4 : Hid (Below W0.heap.size W0 w4) := HW3.out.trans (hb4.mono HW3.out.size)
            clear hb4 z5 z6 z7 z8 z9 CT1 CT
            obtain ⟨-, -, z8, z9⟩ := HCS.out _ HW4.out
            have e1 : decide ((n : Int) ≤ 20) = decide (n ≤ 20) := by rw [Bool.eq_iff_iff]; simp; omega
            have e2 : decide ((m : Int) ≤ 20) = decide (m ≤ 20) := by rw [Bool.eq_iff_iff]; simp; omega
            generalize decide (n ≤ 20) = D1 at *
            generalize decide (m ≤ 20) = D2 at *
            cases B <;> cases D1 <;> cases D2
            all_goals
              go_wp2_with fail
              go_ret
              exact ⟨by rw [HVE.out]; rfl, (HQ.out _ HW4.out).2⟩
end PartJbB
section PartShelfP
open Go.Shelf
def Tryz.lays217_ren : Go.Shelf.Ren := ⟨fun | 217 => 123 | 266 => 129 | n => n, fun | 9 => 9 | 5 => 5 | 3 => 3 | n => n, fun | n => n⟩
set_option maxRecDepth 100000 in
theorem Tryz.lays217 : Go.Proofs.Lays.n217 Tryz.prog Tryz.lays217_ren := {
  mixed := by kernel_rfl
  f217 := Tryz.func123.trans (congrArg some (by kernel_rfl))
  f266 := Tryz.func129.trans (congrArg some (by kernel_rfl))
  t3 := Tryz.underlying3
  a3 := Tryz.isAgg3
  z3 := Tryz.sizeOf3
  v3 := Tryz.zeroValue3
  t5 := Tryz.underlying5
  a5 := Tryz.isAgg5
  z5 := Tryz.sizeOf5
  v5 := Tryz.zeroValue5
  t9 := Tryz.underlying9
  a9 := Tryz.isAgg9
  z9 := Tryz.sizeOf9
  v9 := Tryz.zeroValue9 }
set_option maxRecDepth 100000 in
open Go.RowKit Go.Lib in
theorem Tryz.stringslite_IndexByte (s : ByteArray) (c : Int) (w : World) :
    Calls Tryz.prog 123 #[.string s, .int .u8 c] w fun e w' => e = .returned (.int .i64 (Lib.indexByte s.data.toList c.toNat.toUInt8)) ∧ w' = w := Any.stringslite_IndexByte Tryz.lays217 s c w
open Go.RowKit

theorem toU8 (c : UInt8) : ((c.toNat : Int)).toNat.toUInt8 = c := by simp

set_option maxRecDepth 100000 in
set_option maxHeartbeats 400000 in
theorem indexByte_any (s : ByteArray) (c : UInt8) (w : World) :
    Calls Tryz.prog 112 #[.string s, .int .u8 (c.toNat : Int)] w fun e w' => e = .returned (.int .i64 (Lib.indexByte s.data.toList c)) ∧ w' = w := by
  have C : Hid (∀ w, Calls Tryz.prog 123 #[.string s, .int .u8 (c.toNat : Int)] w fun e w' => e = .returned (.int .i64 (Lib.indexByte s.data.toList c)) ∧ w' = w) := by
    intro w
    have := Tryz.stringslite_IndexByte s (c.toNat : Int) w
    rwa [toU8] at this
  go_enter Tryz.func112, Tryz.ntmps112
  go_wp2_with (go_at_call 123; refine (C.out _).mono ?_; rintro e w' ⟨rfl, rfl⟩)
  go_ret
  exact ⟨rfl, rfl⟩

set_option maxRecDepth 100000 in
set_option maxHeartbeats 400000 in
theorem index93_any (s : ByteArray) (w : World) :
    Calls Tryz.prog 141 #[.string s, .string ⟨#[93]⟩] w fun e w' => e = .returned (.int .i64 (Lib.indexByte s.data.toList 93)) ∧ w' = w := by
  have C : Hid (∀ w, Calls Tryz.prog 123 #[.string s, .int .u8 93] w fun e w' => e = .returned (.int .i64 (Lib.indexByte s.data.toList 93)) ∧ w' = w) := fun w => Tryz.stringslite_IndexByte s 93 w
  go_enter Tryz.func141, Tryz.ntmps141
  go_wp2_with (go_at_call 123; refine (C.out _).mono ?_; rintro e w' ⟨rfl, rfl⟩)
  · have h : ([93] == s.toList) = true := by assumption
    go_ret
    refine ⟨?_, rfl⟩
    have e : s.data.toList = [93] := by rw [← Lib.toList_data]; exact (beq_iff_eq.1 h).symm
    rw [e]
    simp [Lib.indexByte]
  · go_ret
    exact ⟨rfl, rfl⟩

set_option maxRecDepth 100000 in
set_option maxHeartbeats 400000 in
/-- Cut at the sign that closes a set. -/
theorem cut93_any (s : ByteArray) (w : World) (hs : s.size ≤ 1000000) :
    Calls Tryz.prog 139 #[.string s, .string ⟨#[93]⟩] w fun e w' => (∃ k, w' = w.drewN k) ∧
      ((Lib.indexByte s.data.toList 93 = -1 ∧ e = .returned (.tuple #[.string s, .string ⟨#[]⟩, .bool false])) ∨
       ∃ i : Nat, Lib.indexByte s.data.toList 93 = (i : Int) ∧ i < s.size ∧ e = .returned (.tuple #[.string (s.extract 0 i), .string (s.extract (i + 1) s.size), .bool true])) := by
  obtain ⟨z, hz⟩ : ∃ z, z = Lib.indexByte s.data.toList 93 := ⟨_, rfl⟩
  have C : Hid (∀ w, Calls Tryz.prog 141 #[.string s, .string ⟨#[93]⟩] w fun e w' => e = .returned (.int .i64 z) ∧ w' = w) := fun w => by rw [hz]; exact index93_any s w
  have HZ : Hid (z = Lib.indexByte s.data.toList 93) := hz
  have hge := Lib.indexByte_ge s.data.toList 93
  rw [← hz] at hge
  by_cases hm : z = -1
  · have HM : Hid (Lib.indexByte s.data.toList 93 = -1) := by show _ = _; rw [← hz]; exact hm
    clear hz
    subst hm
    have D : Hid (∀ w, Calls Tryz.prog 140 #[.string s, .string ⟨#[93]⟩] w fun e w' => e = .returned (.tuple #[.string s, .string ⟨#[]⟩, .bool false]) ∧ ∃ k, w' = w.drewN k) := by
      intro w
      go_enter Tryz.func140, Tryz.ntmps140
      go_wp2_with fail
      refine (C.out _).mono ?_
      rintro e w1 ⟨rfl, rfl⟩
      go_wp2
      (try simp only [Exit.inBlock, Exit.then])
      refine bodyPost_ret (results_tmp3 rfl _ _ _) rfl ?_
      exact ⟨rfl, 0, rfl⟩
    go_enter Tryz.func139, Tryz.ntmps139
    go_wp2_with fail
    refine (D.out _).mono ?_
    rintro e w1 ⟨rfl, k, rfl⟩
    go_wp2
    (try simp only [Exit.inBlock, Exit.then])
    refine bodyPost_ret (results_tmp3 rfl _ _ _) rfl ?_
    exact ⟨⟨k, rfl⟩, .inl ⟨HM.out, rfl⟩⟩
  · obtain ⟨i, hi⟩ : ∃ i : Nat, z = (i : Int) := ⟨z.toNat, by omega⟩
    have hlt : i < s.size := by
      have := (Lib.indexByte_some (hz.symm.trans hi)).1
      have := (List.getElem?_eq_some_iff.1 this).1
      simpa using this
    have HI : Hid (Lib.indexByte s.data.toList 93 = (i : Int)) := hz.symm.trans hi
    clear hz hm HZ hge
    subst hi
    have i1 : (i : Int) ≤ (s.size : Int) := by omega
    have i2 : (i : Int) + 1 ≤ (s.size : Int) := by omega
    have D : Hid (∀ w, Calls Tryz.prog 140 #[.string s, .string ⟨#[93]⟩] w fun e w' => e = .returned (.tuple #[.string (s.extract 0 i), .string (s.extract (i + 1) s.size), .bool true]) ∧ ∃ k, w' = w.drewN k) := by
      intro w
      go_enter Tryz.func140, Tryz.ntmps140
      go_wp2_with fail
      refine (C.out _).mono ?_
      rintro e w1 ⟨rfl, rfl⟩
      go_wp2_with fail
      go_quiet (fail)
      go_wp2
      (try simp only [Exit.inBlock, Exit.then])
      refine bodyPost_ret (results_tmp3 rfl _ _ _) rfl ?_
      exact ⟨rfl, _, rfl⟩
    go_enter Tryz.func139, Tryz.ntmps139
    go_wp2_with fail
    refine (D.out _).mono ?_
    rintro e w1 ⟨rfl, k, rfl⟩
    go_wp2
    (try simp only [Exit.inBlock, Exit.then])
    refine bodyPost_ret (results_tmp3 rfl _ _ _) rfl ?_
    exact ⟨⟨k, rfl⟩, .inr ⟨i, HI.out, hlt, rfl⟩⟩
end PartShelfP
end Go.Proofs.YtlpdjmjbppmibaaGreat
