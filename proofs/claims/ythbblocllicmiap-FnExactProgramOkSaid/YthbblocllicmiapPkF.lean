/- When a program is right: what ProgramOk of the program answers, at every program. -/
import Derived.Test.YthbblocllicmiapPkE
namespace Go.Proofs.Ythbblocllicmiap
open Go.RowKit

set_option maxRecDepth 100000 in
set_option maxHeartbeats 4000000 in
theorem implProgOk (v rv : Value) (ps : List Pi) (rs : List Pg.Rl) (w : World) (h : PcsAt w v ps) (hr : RlsAt w rv rs) (hl : ps.length ≤ 1048576) (hl2 : rs.length ≤ 1048576) (hsm : Small ps ps.length) :
    Calls Try.prog 14 #[.agg #[v, rv]] w fun e w' => e = .returned (.bool (Pg.ok ps rs)) ∧ Below w.heap.size w w' := by
  have HC : Hid (∀ i W, i < ps.length → Below w.heap.size w W → Calls Try.prog 31 #[v, .int .i64 (i : Int)] W fun e w' => e = .returned (.bool (Pg.node ps i)) ∧ Below W.heap.size W w') := fun i W hi hb => nodeOk_any v ps i W (h.keep hb) hi hl hsm
  have HU : Hid (∀ r W, Below w.heap.size w W → Calls Try.prog 32 #[v, .agg #[.int .i64 r.when, .int .i64 r.cond, .int .i64 r.act]] W fun e w' => e = .returned (.bool (Pg.rule ps r)) ∧ Below W.heap.size W w') := fun r W hb => ruleOk_any v ps r W (h.keep hb) hl
  obtain ⟨va, vc, rfl, -⟩ := h
  obtain ⟨ra, rc, rfl, fr⟩ := hr
  obtain ⟨n, hn⟩ : ∃ n, n = ps.length := ⟨_, rfl⟩
  obtain ⟨k, hk⟩ : ∃ k, k = rs.length := ⟨_, rfl⟩
  obtain ⟨V, hV⟩ : ∃ V, V = Pg.ok ps rs := ⟨_, rfl⟩
  rw [← hV]
  have HV : Hid (V = (decide (n ≤ 200) && decide (k ≤ 12) && (List.range n).all (Pg.node ps) && rs.all (Pg.rule ps))) := by rw [hV, hn, hk]; rfl
  have HF : Hid (0 < rs.length → ∃ b o, ra = some ⟨b, o, none⟩ ∧ b < w.heap.size ∧ ∀ i, i < rs.length → w.cell? ⟨b, o + i * 3, none⟩ = some (.int .i64 (rs.getD i Pg.Rl.no).when) ∧ w.cell? ⟨b, o + i * 3 + 1, none⟩ = some (.int .i64 (rs.getD i Pg.Rl.no).cond) ∧ w.cell? ⟨b, o + i * 3 + 2, none⟩ = some (.int .i64 (rs.getD i Pg.Rl.no).act)) := fr
  rw [← hn] at HC HU hl ⊢
  rw [← hk] at HF hl2 ⊢
  have HK : Hid (k = rs.length) := hk
  clear hV hn hk hsm fr
  have HB : Hid (Below w.heap.size w (w.alloc (.cells #[.slice va n vc, .slice ra k rc] 37))) := (Below.refl _ _).alloc (Nat.le_refl _) _
  have q0 := heap_alloc_new w (.cells #[.slice va n vc, .slice ra k rc] 37)
  have hsz : w.heap.size < (w.alloc (.cells #[.slice va n vc, .slice ra k rc] 37)).heap.size := by simp
  by_cases h1 : 200 < n
  · have d1 : decide ((200 : Int) < (n : Int)) = true := decide_eq_true (by omega)
    have HR : Hid (V = false) := by show _ = _; rw [HV.out, decide_eq_false (by omega : ¬ n ≤ 200)]; rfl
    clear HV HC HU HF q0 h1
    go_enter Try.func14, Try.ntmps14
    go_wp2
    go_ret
    exact ⟨by rw [HR.out]; rfl, HB.out⟩
  have d1 : decide ((200 : Int) < (n : Int)) = false := decide_eq_false (by omega)
  by_cases h2 : 12 < k
  · have d2 : decide ((12 : Int) < (k : Int)) = true := decide_eq_true (by omega)
    have HR : Hid (V = false) := by show _ = _; rw [HV.out, decide_eq_false (by omega : ¬ k ≤ 12)]; simp
    clear HV HC HU HF q0 h1 h2
    go_enter Try.func14, Try.ntmps14
    go_wp2
    go_ret
    exact ⟨by rw [HR.out]; rfl, HB.out⟩
  have d2 : decide ((12 : Int) < (k : Int)) = false := decide_eq_false (by omega)
  have HV2 : Hid (V = ((List.range n).all (Pg.node ps) && rs.all (Pg.rule ps))) := by show _ = _; rw [HV.out, decide_eq_true (by omega : n ≤ 200), decide_eq_true (by omega : k ≤ 12)]; rfl
  clear HV h1 h2
  go_enter Try.func14, Try.ntmps14
  go_wp2
  generalize w.alloc (.cells #[.slice va n vc, .slice ra k rc] 37) = W0 at *
  have HQ : Hid (∀ wr, Below W0.heap.size W0 wr → wr.cell? ⟨w.heap.size, 0, none⟩ = some (.slice va n vc) ∧ wr.cell? ⟨w.heap.size, 1, none⟩ = some (.slice ra k rc)) := by
    intro wr hb
    have s0 := (hb.block _ hsz).trans q0
    have z0 := blk_cell s0 0
    have z1 := blk_cell s0 1
    simp only [List.getElem?_toArray, List.getElem?_cons_zero, List.getElem?_cons_succ] at z0 z1
    exact ⟨z0, z1⟩
  have HW : Hid (∀ W, Below W0.heap.size W0 W → Below w.heap.size w W) := fun W hb => HB.out.trans (hb.mono HB.out.size)
  clear q0 d1 d2 hsz
  go_loopw [19] (fun j wr => ∃ q : Nat, j = .int .i64 (q : Int) ∧ q ≤ n ∧ Hid (Below W0.heap.size W0 wr) ∧ Hid (∀ r, r < q → Pg.node ps r = true)) (fun j _ => n - (intOf j).toNat)
  case atStart => exact ⟨0, rfl, by omega, Below.refl _ _, fun q hq => by omega⟩
  case round =>
    obtain ⟨q, rfl, hq, HWQ, HJ⟩ := hrel
    obtain ⟨z0, z1⟩ := HQ.out _ HWQ.out
    by_cases hlt : q < n
    · have i1 : (q : Int) < (n : Int) := by omega
      have C := HC.out q wr hlt (HW.out _ HWQ.out)
      obtain ⟨B, hB⟩ : ∃ B, B = Pg.node ps q := ⟨_, rfl⟩
      rw [← hB] at C
      have C2 : Hid (Calls Try.prog 31 #[.slice va n vc, .int .i64 (q : Int)] wr fun e w' => e = .returned (.bool B) ∧ Below wr.heap.size wr w') := C
      have HBB : Hid (B = Pg.node ps q) := hB
      clear C hB
      cases B
      · have HR : Hid (V = false) := HV2.out.trans (by rw [List.all_eq_false.2 ⟨q, List.mem_range.2 hlt, by rw [← HBB.out]; decide⟩]; rfl)
        clear HV2 HBB HJ HC HU HF
        go_wp2_with fail
        refine C2.out.mono ?_
        rintro e w2 ⟨rfl, hb2⟩
        have HB2 : Hid (Below w.heap.size w w2) := HW.out _ (HWQ.out.trans (hb2.mono HWQ.out.size))
        clear hb2 C2
        go_wp2
        go_ret
        exact ⟨by rw [HR.out]; rfl, HB2.out⟩
      · have HN : Hid (∀ r, r < q + 1 → Pg.node ps r = true) := fun r hr => by
          by_cases e : r = q
          · subst e; exact HBB.out.symm
          · exact HJ.out r (by omega)
        clear HBB HJ
        go_wp2_with fail
        refine C2.out.mono ?_
        rintro e w2 ⟨rfl, hb2⟩
        have HB2 : Hid (Below W0.heap.size W0 w2) := HWQ.out.trans (hb2.mono HWQ.out.size)
        clear hb2 C2
        go_wp2
        go_roundw
        case rel => exact ⟨q + 1, by go_num, by omega, HB2.out, HN.out⟩
        case measure => simp [intOf]; omega
    · obtain rfl : q = n := by omega
      have HV3 : Hid (V = rs.all (Pg.rule ps)) := HV2.out.trans (by rw [List.all_eq_true.2 fun r hr => HJ.out r (List.mem_range.1 hr)]; rfl)
      clear HV2 HJ HC
      have i1 : ¬ ((q : Int) < (q : Int)) := by omega
      go_wp2
      obtain ⟨U, hU⟩ : ∃ U, U = wr := ⟨_, rfl⟩
      subst hU
      go_loopw [31] (fun j wr => ∃ p : Nat, j = .int .i64 (p : Int) ∧ p ≤ k ∧ Hid (Below W0.heap.size W0 wr) ∧ Hid (∀ r, r < p → Pg.rule ps (rs.getD r Pg.Rl.no) = true)) (fun j _ => k - (intOf j).toNat)
      case atStart => exact ⟨0, rfl, by omega, HWQ.out, fun r hr => by omega⟩
      case round =>
        obtain ⟨p, rfl, hp, HWP, HJ⟩ := hrel
        clear z0 z1
        obtain ⟨z0, z1⟩ := HQ.out _ HWP.out
        by_cases hpk : p < k
        · have i2 : (p : Int) < (k : Int) := by omega
          have i3 : (0 : Int) ≤ (p : Int) := by omega
          obtain ⟨b, o, rfl, hb, hc⟩ := HF.out (by omega)
          have hbw := HW.out _ HWP.out
          have c0 := (hbw.cell hb).trans (hc p hpk).1
          have c1 := (hbw.cell hb).trans (hc p hpk).2.1
          have c2 := (hbw.cell hb).trans (hc p hpk).2.2
          obtain ⟨r, hr⟩ : ∃ r, r = rs.getD p Pg.Rl.no := ⟨_, rfl⟩
          rw [← hr] at c0 c1 c2
          obtain ⟨B, hB⟩ : ∃ B, B = Pg.rule ps r := ⟨_, rfl⟩
          have HBA : Hid (Below W0.heap.size W0 (wr.alloc (.cells #[.int .i64 r.when, .int .i64 r.cond, .int .i64 r.act] 55))) := HWP.out.alloc HWP.out.size _
          have C := HU.out r _ (HW.out _ HBA.out)
          rw [← hB] at C
          have C2 : Hid (Calls Try.prog 32 #[.slice va q vc, .agg #[.int .i64 r.when, .int .i64 r.cond, .int .i64 r.act]] (wr.alloc (.cells #[.int .i64 r.when, .int .i64 r.cond, .int .i64 r.act] 55)) fun e w' => e = .returned (.bool B) ∧ Below (wr.alloc (.cells #[.int .i64 r.when, .int .i64 r.cond, .int .i64 r.act] 55)).heap.size (wr.alloc (.cells #[.int .i64 r.when, .int .i64 r.cond, .int .i64 r.act] 55)) w') := C
          have HBB : Hid (B = Pg.rule ps (rs.getD p Pg.Rl.no)) := by rw [hB, hr]; exact rfl
          have zz0 := (((Below.refl wr.heap.size wr).alloc (Nat.le_refl _) (.cells #[.int .i64 r.when, .int .i64 r.cond, .int .i64 r.act] 55)).cell (p := ⟨w.heap.size, 0, none⟩) (World.block_lt_of_cell? wr _ z0)).trans z0
          clear C hB hr hc hbw
          obtain ⟨ra, rb, rd⟩ := r
          simp only at c0 c1 c2 HBA C2 zz0
          cases B
          · have HR : Hid (V = false) := HV3.out.trans (by
              rw [List.all_eq_false]
              exact ⟨rs.getD p Pg.Rl.no, by rw [List.getD_eq_getElem?_getD, List.getElem?_eq_getElem (by rw [← HK.out]; exact hpk)]; exact List.getElem_mem _, by rw [← HBB.out]; decide⟩)
            clear HV3 HBB HJ HU HF
            go_wp2_with fail
            refine C2.out.mono ?_
            rintro e w2 ⟨rfl, hb2⟩
            have HB2 : Hid (Below w.heap.size w w2) := HW.out _ (HBA.out.trans (hb2.mono HBA.out.size))
            clear hb2 C2
            go_wp2
            go_ret
            exact ⟨by rw [HR.out]; rfl, HB2.out⟩
          · have HN : Hid (∀ r, r < p + 1 → Pg.rule ps (rs.getD r Pg.Rl.no) = true) := fun r hr => by
              by_cases e : r = p
              · subst e; exact HBB.out.symm
              · exact HJ.out r (by omega)
            clear HBB HJ
            go_wp2_with fail
            refine C2.out.mono ?_
            rintro e w2 ⟨rfl, hb2⟩
            have HB2 : Hid (Below W0.heap.size W0 w2) := HBA.out.trans (hb2.mono HBA.out.size)
            clear hb2 C2
            go_wp2
            go_roundw
            case rel => exact ⟨p + 1, by go_num, by omega, HB2.out, HN.out⟩
            case measure => simp [intOf]; omega
        · obtain rfl : p = k := by omega
          have HR : Hid (V = true) := HV3.out.trans (by
            rw [List.all_eq_true]
            intro x hx
            obtain ⟨r, hr, rfl⟩ := List.getElem_of_mem hx
            have := HJ.out r (by rw [HK.out]; exact hr)
            rwa [List.getD_eq_getElem?_getD, List.getElem?_eq_getElem hr] at this)
          have HBE : Hid (Below w.heap.size w wr) := HW.out _ HWP.out
          clear HV3 HJ HU HF
          have i2 : ¬ ((p : Int) < (p : Int)) := by omega
          go_wp2
          go_ret
          exact ⟨by rw [HR.out]; rfl, HBE.out⟩
#print axioms implProgOk
end Go.Proofs.Ythbblocllicmiap
