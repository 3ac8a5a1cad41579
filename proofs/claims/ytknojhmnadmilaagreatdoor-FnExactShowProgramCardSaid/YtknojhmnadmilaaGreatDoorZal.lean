/- Rows of numbers that the call itself made. The specification of ShowProgram: how many nodes its rules come to. The specification of ShowProgram: how many nodes its rules come to. -/
import Derived.Test.YtknojhmnadmilaaGreatDoorZac
import Derived.Test.YtknojhmnadmilaaGreatDoorPgF
namespace Go.Proofs.YtknojhmnadmilaaGreatDoor
section PartZRw
open Go.RowKit

def zvp (z : Nat) : Value := .int .i64 (z : Int)
theorem infoZ : (Tryz.prog.info? 3).map (fun i => (i.zero, i.size, i.bytes)) = some (some (.int .i64 0), 1, 8) := by kernel_rfl
/-- The row of the numbers zs, in the call's own memory from block B on. -/
def ZRow (B : Nat) (w : World) (v : Value) (zs : List Nat) : Prop := w.ownsRow B 3 1 v zs.length (zs.map zvp)
theorem ZRow.made {B : Nat} (w : World) (hb : B ≤ w.heap.size) : ZRow B (w.alloc (.cells #[] 3)) (.slice (some ⟨w.heap.size, 0, none⟩) 0 0) [] := World.ownsRow_made w #[] 0 hb (by decide) rfl
theorem ZRow.keep {B : Nat} {w w' : World} {v : Value} {zs : List Nat} (h : ZRow B w v zs) (hb : Below w.heap.size w w') : ZRow B w' v zs := by
  refine ⟨h.1, ?_⟩
  rcases h.2 with hn | ⟨g, cap, cur, rfl, h1, hg, rest⟩
  · exact .inl hn
  · refine .inr ⟨g, cap, cur, rfl, h1, ?_, rest⟩
    rw [hb.block g (Array.getElem?_eq_some_iff.1 hg).1]
    exact hg
theorem ZRow.push {ops : Array Oper} {rest : List Oper} {o : Oper} {a : Act} {Q : Exit → Act → World → Prop} {B : Nat} {w : World} {v : Value} {zs : List Nat}
    (hown : ZRow B w v zs) (hgd : o.guard = none) (s x : Operand)
    (ho : o.op = .call { callee := .builtin .append, args := #[s, x], argTypes := #[62, 62] })
    (hs : a.eval s = v) (z : Int) (c : Nat) (hz : z = (c : Int)) (hx : a.eval x = .slice (some ⟨w.heap.size, 0, none⟩) 1 1)
    (hlen : zs.length < 1000000) (hB : B ≤ w.heap.size)
    (h : ∀ v' w', ZRow B w' v' (zs ++ [c]) → Below B w w' → wpList Tryz.prog ops Q rest (a.put o.dst v') w') :
    wpList Tryz.prog ops Q (o :: rest) a (w.alloc (.cells #[.int .i64 z] 3)) := by
  subst hz
  obtain ⟨i0, hi, hz0, hz1, hz2⟩ := info_parts infoZ
  refine wpList_append_own _ hgd s x 62 ho B 3 i0 (.int .i64 0) 1 8 Tryz.underlying62 hi hz0 hz1 hz2 rfl (by decide) v zs.length (zs.map zvp) hs (World.ownsRow.alloc hown _) ⟨w.heap.size, 0, none⟩ 1 1 [zvp c] hx rfl (cell_one_new _ _ _) ?_ ?_ ?_ ?_ ?_
  · intro u hu; simp at hu; subst hu; rfl
  · unfold maxLen; omega
  · omega
  · simp; omega
  · intro v' w' h2 h3 _
    refine h v' w' ?_ ?_
    · unfold ZRow; simpa using h2
    · exact ((Below.refl B w).alloc hB _).grown h3 (by simp; omega) (fun k hk => (hown.lt k hk).1)
theorem ZRow.form {B : Nat} {w : World} {v : Value} {zs : List Nat} (h : ZRow B w v zs) : ∃ ad cap, v = .slice ad zs.length cap ∧ (0 < zs.length → ∃ g, ad = some ⟨g, 0, none⟩ ∧ ∀ j, j < zs.length → w.cell? ⟨g, j, none⟩ = some (.int .i64 ((zs.getD j 0 : Nat) : Int))) := by
  rcases h.2 with ⟨rfl, hn⟩ | ⟨g, cap, cur, rfl, h1, hg, _⟩
  · refine ⟨none, 0, by rw [hn], fun h0 => by omega⟩
  · refine ⟨_, cap, rfl, fun _ => ⟨g, rfl, fun j hj => ?_⟩⟩
    rw [World.ownsRow.cellAt h j (by omega)]
    simp [hj, zvp]
end PartZRw
section PartPgG
open Go.RowKit

namespace Pg
/-- How many nodes each of the first m nodes comes to, 2001 at most. -/
def szs (ps : List Pi) : Nat → List Nat
  | 0 => []
  | m + 1 => szs ps m ++ [min 2001 (1 + ((ps.getD m Pi.no).kids.map fun k => (szs ps m).getD k.toNat 0).sum)]
theorem szs_len (ps : List Pi) : ∀ m, (szs ps m).length = m := by
  intro m
  induction m with
  | zero => rfl
  | succ m ih => unfold szs; rw [List.length_append, ih]; rfl
theorem szs_le (ps : List Pi) : ∀ m, ∀ z ∈ szs ps m, z ≤ 2001 := by
  intro m
  induction m with
  | zero => intro z hz; cases hz
  | succ m ih =>
    intro z hz
    unfold szs at hz
    rcases List.mem_append.1 hz with h | h
    · exact ih z h
    · simp only [List.mem_singleton] at h
      omega
theorem szs_get (ps : List Pi) (m j : Nat) : (szs ps m).getD j 0 ≤ 2001 := by
  by_cases h : j < (szs ps m).length
  · rw [List.getD_eq_getElem?_getD, List.getElem?_eq_getElem h]
    exact szs_le ps m _ (List.getElem_mem _)
  · rw [List.getD_eq_getElem?_getD, List.getElem?_eq_none (by omega)]
    exact Nat.zero_le _
theorem node_kids {ps : List Pi} {i : Nat} (h : node ps i = true) : (ps.getD i Pi.no).kids.length ≤ 20 ∧ ∀ k, k < (ps.getD i Pi.no).kids.length → 0 ≤ (ps.getD i Pi.no).kids.getD k 0 ∧ (ps.getD i Pi.no).kids.getD k 0 ≤ (i : Int) - 1 := by
  unfold node at h
  simp only [Bool.and_eq_true, decide_eq_true_eq] at h
  obtain ⟨⟨_, h2⟩, h3⟩ := h
  refine ⟨?_, fun k hk => ?_⟩
  · have : (many (ps.getD i Pi.no).op).2 ≤ 20 := by
      unfold many
      repeat' split
      all_goals simp
    omega
  · have := List.all_eq_true.1 h3 k (List.mem_range.2 hk)
    unfold kid at this
    simp only [Bool.and_eq_true, decide_eq_true_eq] at this
    exact this.1
theorem take_sum (f : Int → Nat) (ks : List Int) (q : Nat) (h : q < ks.length) : ((ks.take (q + 1)).map f).sum = ((ks.take q).map f).sum + f (ks.getD q 0) := by
  have e : ks.take (q + 1) = ks.take q ++ [ks[q]] := by
    rw [List.take_add_one, List.getElem?_eq_getElem h]
    rfl
  have e2 : ks.getD q 0 = ks[q] := by simp [h]
  rw [e, e2, List.map_append, List.sum_append, List.map_singleton, List.sum_singleton]
theorem sum_le (f : Int → Nat) (ks : List Int) (hf : ∀ k, f k ≤ 2001) : (ks.map f).sum ≤ 2001 * ks.length := by
  induction ks with
  | nil => simp
  | cons k ks ih =>
    have := hf k
    simp only [List.map_cons, List.sum_cons, List.length_cons]
    omega
end Pg

end PartPgG
section PartPgH
open Go.RowKit

namespace Pg
def ruleSz (zs : List Nat) (r : Rl) : Nat := zs.getD r.act.toNat 0 + if 0 ≤ r.cond then zs.getD r.cond.toNat 0 else 0
/-- How many nodes the rules come to. -/
def total (ps : List Pi) (rs : List Rl) : Nat := (rs.map (ruleSz (szs ps ps.length))).sum
theorem rule_in {ps : List Pi} {r : Rl} (h : rule ps r = true) : (0 ≤ r.act ∧ r.act ≤ (ps.length : Int) - 1) ∧ (r.cond = -1 ∨ (0 ≤ r.cond ∧ r.cond ≤ (ps.length : Int) - 1)) := by
  unfold rule at h
  simp only [Bool.and_eq_true, Bool.or_eq_true, decide_eq_true_eq] at h
  exact ⟨h.1.1.2, h.2.imp id (fun k => k.1.2)⟩
theorem rtake_sum (f : Rl → Nat) (rs : List Rl) (q : Nat) (h : q < rs.length) : ((rs.take (q + 1)).map f).sum = ((rs.take q).map f).sum + f (rs.getD q Rl.no) := by
  have e : rs.take (q + 1) = rs.take q ++ [rs[q]] := by
    rw [List.take_add_one, List.getElem?_eq_getElem h]
    rfl
  have e2 : rs.getD q Rl.no = rs[q] := by simp [h]
  rw [e, e2, List.map_append, List.sum_append, List.map_singleton, List.sum_singleton]
end Pg

set_option maxHeartbeats 2000000 in
set_option maxRecDepth 100000 in
theorem spSize (v rv : Value) (ps : List Pi) (rs : List Pg.Rl) (w : World) (h : PcsAt w v ps) (hr : RlsAt w rv rs) (hl : ps.length ≤ 200) (hl2 : rs.length ≤ 12) (hnd : ∀ i, i < ps.length → Pg.node ps i = true) (hrl : ∀ r ∈ rs, Pg.rule ps r = true) :
    Calls Tryz.prog 12 #[.agg #[v, rv]] w fun e w' => e = .returned (.int .i64 (Pg.total ps rs : Int)) ∧ Below w.heap.size w w' := by
  have HR : Hid (∀ W, Below w.heap.size w W → RlsAt W rv rs) := fun W hb => hr.keep hb
  have HP : Hid (∀ W, Below w.heap.size w W → PcsAt W v ps) := fun W hb => h.keep hb
  obtain ⟨va, vc, rfl, -⟩ := h
  obtain ⟨ra, rc, rfl, -⟩ := hr
  obtain ⟨n, hn⟩ : ∃ n, n = ps.length := ⟨_, rfl⟩
  obtain ⟨k, hk⟩ : ∃ k, k = rs.length := ⟨_, rfl⟩
  obtain ⟨T, hT⟩ : ∃ T, T = Pg.total ps rs := ⟨_, rfl⟩
  have HT : Hid (T = (rs.map (Pg.ruleSz (Pg.szs ps n))).sum) := by rw [hT, hn]; rfl
  rw [← hT]
  have HND : Hid (∀ i, i < n → Pg.node ps i = true) := by rw [hn]; exact hnd
  have HRL : Hid (∀ r ∈ rs, Pg.rule ps r = true) := hrl
  rw [← hn] at HP hl
  rw [← hk] at HR hl2
  rw [← hn, ← hk]
  have HK : Hid (k = rs.length) := hk
  have HN : Hid (n = ps.length) := hn
  clear hn hk hnd hrl hT
  have HB0 : Hid (Below w.heap.size w ((w.alloc (.cells #[.slice va n vc, .slice ra k rc] 32)).alloc (.cells #[] 3))) := ((Below.refl _ _).alloc (Nat.le_refl _) _).alloc (by simp) _
  have q0 := alloc2_0 w (.cells #[.slice va n vc, .slice ra k rc] 32) (.cells #[] 3)
  have HZ0 : Hid (ZRow (w.heap.size + 1) ((w.alloc (.cells #[.slice va n vc, .slice ra k rc] 32)).alloc (.cells #[] 3)) (.slice (some ⟨w.heap.size + 1, 0, none⟩) 0 0) []) := by
    have := ZRow.made (B := w.heap.size + 1) (w.alloc (.cells #[.slice va n vc, .slice ra k rc] 32)) (by simp)
    rwa [show (w.alloc (.cells #[.slice va n vc, .slice ra k rc] 32)).heap.size = w.heap.size + 1 by simp] at this
  have hsz : w.heap.size + 2 ≤ ((w.alloc (.cells #[.slice va n vc, .slice ra k rc] 32)).alloc (.cells #[] 3)).heap.size := by simp
  go_enter Tryz.func12, Tryz.ntmps12
  go_wp2
  generalize (w.alloc (.cells #[.slice va n vc, .slice ra k rc] 32)).alloc (.cells #[] 3) = W0 at *
  have HQ : Hid (∀ wr, Below (w.heap.size + 1) W0 wr → wr.cell? ⟨w.heap.size, 0, none⟩ = some (.slice va n vc) ∧ wr.cell? ⟨w.heap.size, 1, none⟩ = some (.slice ra k rc)) := by
    intro wr hb
    have s0 := (hb.block _ (by omega)).trans q0
    have z0 := blk_cell s0 0
    have z1 := blk_cell s0 1
    simp only [List.getElem?_toArray, List.getElem?_cons_zero, List.getElem?_cons_succ] at z0 z1
    exact ⟨z0, z1⟩
  have HE : Hid (∀ wr, Below (w.heap.size + 1) W0 wr → Below w.heap.size w wr) := fun wr hb => HB0.out.trans (hb.mono (by omega))
  clear q0
  go_loopw [3, 4, 5, 6] (fun s i _ _ wr => ∃ j : Nat, i = .int .i64 (j : Int) ∧ j ≤ n ∧ w.heap.size + 2 ≤ wr.heap.size ∧ Hid (Below (w.heap.size + 1) W0 wr) ∧ Hid (ZRow (w.heap.size + 1) wr s (Pg.szs ps j))) (fun _ i _ _ _ => n - (intOf i).toNat)
  case atStart => exact ⟨0, rfl, by omega, hsz, Below.refl _ _, HZ0.out⟩
  case round =>
    clear HZ0
    obtain ⟨j, rfl, hj, hsw, HW, HZ⟩ := hrel
    obtain ⟨z0, z1⟩ := HQ.out wr HW.out
    by_cases hlt : j < n
    · have hj1 : (j : Int) < (n : Int) := by omega
      have dj : decide ((j : Int) < (n : Int)) = true := decide_eq_true hj1
      obtain ⟨_, _, e, fp⟩ := HP.out wr (HE.out wr HW.out)
      simp only [Value.slice.injEq] at e
      obtain ⟨rfl, -, -⟩ := e
      obtain ⟨b, o, rfl, hb, hc⟩ := fp (by rw [← HN.out]; omega)
      obtain ⟨kv, -, -, p2, ka, kc, rfl, fk⟩ := hc j (by rw [← HN.out]; exact hlt)
      obtain ⟨hk20, hkin⟩ := Pg.node_kids (HND.out j hlt)
      obtain ⟨sa, sc, rfl, fs⟩ := HZ.out.form
      rw [Pg.szs_len] at fs ⊢
      have HSZ : Hid (Pg.szs ps (j + 1) = Pg.szs ps j ++ [min 2001 (1 + ((ps.getD j Pi.no).kids.map fun k => (Pg.szs ps j).getD k.toNat 0).sum)]) := rfl
      generalize (ps.getD j Pi.no).kids = ks at *
      obtain ⟨m, hm⟩ : ∃ m, m = ks.length := ⟨_, rfl⟩
      rw [← hm] at p2 fk hk20 hkin
      obtain ⟨f, hf⟩ : ∃ f : Int → Nat, f = fun k => (Pg.szs ps j).getD k.toNat 0 := ⟨_, rfl⟩
      rw [← hf] at HSZ
      have hfle : ∀ k, f k ≤ 2001 := fun k => by rw [hf]; exact Pg.szs_get ps j _
      obtain ⟨S, hS⟩ : ∃ S : Nat → Nat, S = fun q => ((ks.take q).map f).sum := ⟨_, rfl⟩
      obtain ⟨F, hF⟩ : ∃ F : Nat → Nat, F = fun q => f (ks.getD q 0) := ⟨_, rfl⟩
      have HS : Hid (∀ q, S q ≤ 40020) := by
        intro q
        have h1 := Pg.sum_le f (ks.take q) hfle
        have h2 : (ks.take q).length ≤ 20 := by rw [List.length_take]; omega
        rw [hS]
        show ((ks.take q).map f).sum ≤ 40020
        omega
      have HSTEP : Hid (∀ q, q < m → S (q + 1) = S q + F q) := fun q hq => by rw [hS, hF]; exact Pg.take_sum f ks q (by rw [← hm]; exact hq)
      have HS0 : Hid (S 0 = 0) := by rw [hS]; rfl
      have HALL : Hid (S m = (ks.map f).sum) := by
        show _ = _
        rw [hS, hm]
        show ((ks.take ks.length).map f).sum = _
        rw [List.take_length]
      have HCELL : Hid (∀ q, q < m → ∃ kb ko sg, ∃ kn : Nat, ka = some ⟨kb, ko, none⟩ ∧ sa = some ⟨sg, 0, none⟩ ∧ kn < j ∧ F q ≤ 2001 ∧ wr.cell? ⟨kb, ko + q, none⟩ = some (.int .i64 (kn : Int)) ∧ wr.cell? ⟨sg, kn, none⟩ = some (.int .i64 (F q : Int))) := by
        intro q hq
        obtain ⟨kb, ko, e1, _, e2⟩ := fk (by omega)
        obtain ⟨h1, h2⟩ := hkin q hq
        obtain ⟨sg, e3, e4⟩ := fs (by omega)
        refine ⟨kb, ko, sg, (ks.getD q 0).toNat, e1, e3, by omega, by rw [hF]; exact hfle _, ?_, ?_⟩
        · rw [e2 q hq, Int.toNat_of_nonneg h1]
        · rw [e4 _ (by omega), hF, hf]
      have HSZ2 : Hid (Pg.szs ps (j + 1) = Pg.szs ps j ++ [min 2001 (1 + S m)]) := by
        show _ = _
        rw [HSZ.out, HALL.out]
      clear fp hc fk fs hkin hfle hm hf hS hF HSZ HALL
      go_wp2
      go_loopw [5, 6] (fun nn kk wq => ∃ q : Nat, kk = .int .i64 (q : Int) ∧ nn = .int .i64 (1 + (S q : Int)) ∧ q ≤ m ∧ Hid (Below wr.heap.size wr wq)) (fun _ kk _ => m - (intOf kk).toNat)
      case atStart => exact ⟨0, rfl, by rw [HS0.out]; rfl, by omega, Below.refl _ _⟩
      case round =>
        obtain ⟨q, rfl, rfl, hq, HWq⟩ := hrel
        have hz0 := (HWq.out.cell (World.block_lt_of_cell? _ _ z0)).trans z0
        have hp2 := (HWq.out.cell (World.block_lt_of_cell? _ _ p2)).trans p2
        have hSq := HS.out q
        by_cases hlq : q < m
        · have hq1 : (q : Int) < (m : Int) := by omega
          have dq : decide ((q : Int) < (m : Int)) = true := decide_eq_true hq1
          obtain ⟨kb, ko, sg, kn, rfl, rfl, hkn, hFq, c1, c2⟩ := HCELL.out q hlq
          have hc1 := (HWq.out.cell (World.block_lt_of_cell? _ _ c1)).trans c1
          have hc2 := (HWq.out.cell (World.block_lt_of_cell? _ _ c2)).trans c2
          have hkn1 : (kn : Int) < (j : Int) := by omega
          have HST : Hid (S (q + 1) = S q + F q) := HSTEP.out q hlq
          have hq20 : (q : Int) ≤ 20 := by omega
          clear c1 c2
          go_wp2
          go_roundw
          case rel =>
            refine ⟨q + 1, by go_num, ?_, by omega, HWq.out⟩
            rw [HST.out]
            congr 1
            omega
          case measure => simp [intOf]; omega
        · obtain rfl : q = m := by omega
          have dq : decide ((q : Int) < (q : Int)) = false := decide_eq_false (by omega)
          have HZq : Hid (ZRow (w.heap.size + 1) wr (.slice sa j sc) (Pg.szs ps j)) := by
            have := HZ.out.keep HWq.out
            rw [Pg.szs_len] at this
            exact this
          have HWw : Hid (Below (w.heap.size + 1) W0 wr) := HW.out.trans (HWq.out.mono (by omega))
          have hswr := Nat.le_trans hsw HWq.out.size
          by_cases h2001 : 2001 < 1 + S q
          · have d2 : decide ((2001 : Int) < 1 + (S q : Int)) = true := decide_eq_true (by omega)
            have HSZ3 : Hid (Pg.szs ps (j + 1) = Pg.szs ps j ++ [2001]) := by show _ = _; rw [HSZ2.out, Nat.min_eq_left (by omega)]
            clear HSZ2 h2001 HS HSTEP HS0 HCELL
            go_wp2_with (at_builtin; go_must (refine HZq.out.push rfl (.tmp 44) (.tmp 46) rfl rfl _ (2001) ?hz rfl ?hl ?hb ?_))
            case hz => first | rfl | omega
            case hl => rw [Pg.szs_len]; omega
            case hb => omega
            · intro v2 w2 hrow hbel
              have HR2 : Hid (ZRow (w.heap.size + 1) w2 v2 (Pg.szs ps (j + 1))) := by rw [HSZ3.out]; exact hrow
              have HW2 : Hid (Below (w.heap.size + 1) W0 w2) := HWw.out.trans hbel
              have hs2 := Nat.le_trans hswr hbel.size
              clear hrow hbel
              go_wp2
              go_roundw
              case rel => exact ⟨j + 1, by go_num, by omega, hs2, HW2.out, HR2.out⟩
              case measure => simp [intOf]; omega
          · have d2 : decide ((2001 : Int) < 1 + (S q : Int)) = false := decide_eq_false (by omega)
            have HSZ3 : Hid (Pg.szs ps (j + 1) = Pg.szs ps j ++ [1 + S q]) := by show _ = _; rw [HSZ2.out, Nat.min_eq_right (by omega)]
            clear HSZ2 h2001 HS HSTEP HS0 HCELL
            go_wp2_with (at_builtin; go_must (refine HZq.out.push rfl (.tmp 44) (.tmp 46) rfl rfl _ (1 + S q) ?hz rfl ?hl ?hb ?_))
            case hz => first | rfl | omega
            case hl => rw [Pg.szs_len]; omega
            case hb => omega
            · intro v2 w2 hrow hbel
              have HR2 : Hid (ZRow (w.heap.size + 1) w2 v2 (Pg.szs ps (j + 1))) := by rw [HSZ3.out]; exact hrow
              have HW2 : Hid (Below (w.heap.size + 1) W0 w2) := HWw.out.trans hbel
              have hs2 := Nat.le_trans hswr hbel.size
              clear hrow hbel
              go_wp2
              go_roundw
              case rel => exact ⟨j + 1, by go_num, by omega, hs2, HW2.out, HR2.out⟩
              case measure => simp [intOf]; omega
    · obtain rfl : j = n := by omega
      have dj : decide ((j : Int) < (j : Int)) = false := decide_eq_false (by omega)
      obtain ⟨sa, sc, rfl, fs⟩ := HZ.out.form
      rw [Pg.szs_len] at fs ⊢
      obtain ⟨G, hG⟩ : ∃ G : Nat → Nat, G = fun q => ((rs.take q).map (Pg.ruleSz (Pg.szs ps j))).sum := ⟨_, rfl⟩
      have HG0 : Hid (G 0 = 0) := by rw [hG]; rfl
      have HGS : Hid (∀ q, q < k → G (q + 1) = G q + Pg.ruleSz (Pg.szs ps j) (rs.getD q Pg.Rl.no)) := fun q hq => by rw [hG]; exact Pg.rtake_sum _ rs q (by rw [← HK.out]; exact hq)
      have HGT : Hid (T = G k) := by
        show _ = _
        rw [HT.out, hG, HK.out]
        show _ = ((rs.take rs.length).map _).sum
        rw [List.take_length]
      have HFS : Hid (0 < j → ∃ g, sa = some ⟨g, 0, none⟩ ∧ ∀ x, x < j → wr.cell? ⟨g, x, none⟩ = some (.int .i64 (((Pg.szs ps j).getD x 0 : Nat) : Int))) := fs
      have HGB : Hid (∀ q, q ≤ k → G q ≤ 4002 * q) := by
        intro q
        induction q with
        | zero => intro _; rw [HG0.out]; omega
        | succ q ih =>
          intro hq
          have h1 := ih (by omega)
          have h2 : Pg.ruleSz (Pg.szs ps j) (rs.getD q Pg.Rl.no) ≤ 4002 := by
            unfold Pg.ruleSz
            have a1 := Pg.szs_get ps j (rs.getD q Pg.Rl.no).act.toNat
            have a2 := Pg.szs_get ps j (rs.getD q Pg.Rl.no).cond.toNat
            split <;> omega
          rw [HGS.out q (by omega)]
          omega
      have HRW := HR.out wr (HE.out wr HW.out)
      obtain ⟨_, _, e, fr⟩ := HRW
      simp only [Value.slice.injEq] at e
      obtain ⟨rfl, -, rfl⟩ := e
      have HFR : Hid (0 < k → ∃ b o, ra = some ⟨b, o, none⟩ ∧ b < wr.heap.size ∧ ∀ i, i < k → wr.cell? ⟨b, o + i * 3, none⟩ = some (.int .i64 (rs.getD i Pg.Rl.no).when) ∧ wr.cell? ⟨b, o + i * 3 + 1, none⟩ = some (.int .i64 (rs.getD i Pg.Rl.no).cond) ∧ wr.cell? ⟨b, o + i * 3 + 2, none⟩ = some (.int .i64 (rs.getD i Pg.Rl.no).act)) := by rw [HK.out]; exact fr
      have HEW : Hid (Below w.heap.size w wr) := HE.out wr HW.out
      clear fs hG HT HND HZ fr HR HP HW HE HQ
      go_wp2
      go_loop [7, 8] (fun nn ii => ∃ q : Nat, ii = .int .i64 (q : Int) ∧ nn = .int .i64 (G q : Int) ∧ q ≤ k) (fun _ ii => k - (intOf ii).toNat)
      case atStart => exact ⟨0, rfl, by rw [HG0.out]; rfl, by omega⟩
      case round =>
        obtain ⟨q, rfl, rfl, hq⟩ := hrel
        have hGq := HGB.out q hq
        by_cases hlq : q < k
        · have hq1 : (q : Int) < (k : Int) := by omega
          have dq : decide ((q : Int) < (k : Int)) = true := decide_eq_true hq1
          obtain ⟨rb, ro, rfl, -, hrc⟩ := HFR.out (by omega)
          obtain ⟨-, c1, c2⟩ := hrc q hlq
          have hmem : rs.getD q Pg.Rl.no ∈ rs := by
            have hq2 : q < rs.length := by rw [← HK.out]; exact hlq
            rw [List.getD_eq_getElem?_getD, List.getElem?_eq_getElem hq2]
            exact List.getElem_mem _
          obtain ⟨hin1, hin2⟩ := Pg.rule_in (HRL.out _ hmem)
          rw [← HN.out] at hin1 hin2
          have HST := HGS.out q hlq
          unfold Pg.ruleSz at HST
          generalize rs.getD q Pg.Rl.no = rl at *
          obtain ⟨rw0, rc0, ra0⟩ := rl
          simp only at c1 c2 hin1 hin2 HST
          obtain ⟨an, rfl⟩ : ∃ an : Nat, ra0 = (an : Int) := ⟨ra0.toNat, by omega⟩
          have han : an < j := by omega
          have han1 : (an : Int) < (j : Int) := by omega
          obtain ⟨sg, rfl, hsc⟩ := HFS.out (by omega)
          have s1 := hsc an han
          have b1 := Pg.szs_get ps j an
          rw [show ((an : Int)).toNat = an by omega] at HST
          by_cases hm1 : rc0 = -1
          · have HST2 : Hid (G (q + 1) = G q + (Pg.szs ps j).getD an 0) := by show _ = _; rw [HST, if_neg (by omega)]; omega
            have dm : decide ((0 : Int) ≤ rc0) = false := decide_eq_false (by omega)
            generalize (Pg.szs ps j).getD an 0 = za at *
            clear hrc hmem hin1 hin2 HST hm1 hsc
            go_wp2
            go_round
            case rel =>
              refine ⟨q + 1, by go_num, ?_, by omega⟩
              rw [HST2.out]
              congr 1
            case measure => simp [intOf]; omega
          · obtain ⟨cn, rfl⟩ : ∃ cn : Nat, rc0 = (cn : Int) := ⟨rc0.toNat, by omega⟩
            have hcn : cn < j := by omega
            have hcn1 : (cn : Int) < (j : Int) := by omega
            have s2 := hsc cn hcn
            have b2 := Pg.szs_get ps j cn
            have HST2 : Hid (G (q + 1) = G q + (Pg.szs ps j).getD an 0 + (Pg.szs ps j).getD cn 0) := by show _ = _; rw [HST, if_pos (by omega), show ((cn : Int)).toNat = cn by omega]; omega
            have dm : decide ((0 : Int) ≤ (cn : Int)) = true := decide_eq_true (by omega)
            generalize (Pg.szs ps j).getD an 0 = za at *
            generalize (Pg.szs ps j).getD cn 0 = zc at *
            clear hrc hmem hin1 hin2 HST hm1 hsc
            go_wp2
            go_round
            case rel =>
              refine ⟨q + 1, by go_num, ?_, by omega⟩
              rw [HST2.out]
              congr 1
            case measure => simp [intOf]; omega
        · obtain rfl : q = k := by omega
          have dq : decide ((q : Int) < (q : Int)) = false := decide_eq_false (by omega)
          go_wp2
          go_ret
          exact ⟨by rw [HGT.out]; rfl, HEW.out⟩
end PartPgH
end Go.Proofs.YtknojhmnadmilaaGreatDoor
