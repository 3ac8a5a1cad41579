/- How many nodes a program's rules come to: what comesTo of the program answers. -/
import Derived.Test.YtknojhmnadmilaaGreatDoorZal
import Derived.Test.YtknojhmnadmilaaGreatDoorTrA
import Derived.Laws.MakeOwn
namespace Go.Proofs.YtknojhmnadmilaaGreatDoor
open Go.RowKit

theorem makeZ_run (n : Nat) (h : n ≤ 1000000000) : ∃ M : Array Value, M.size = n ∧ ∀ W : World, (Instr.makeSlice 62 (.int .i64 0) (.int .i64 (n : Int))).run Tryz.prog W = .ok (.slice (some ⟨W.heap.size, 0, none⟩) 0 n) (W.alloc (.cells M 3)) := by
  obtain ⟨i0, hi, hz0, hz1, hz2⟩ := info_parts infoZ
  refine ⟨madeCells (Value.int .i64 0).cells (((n : Nat) : Int).toNat * i0.size), ?_, fun W => ?_⟩
  · rw [size_madeCells, hz1]; simp
  · have h := run_make (P := Tryz.prog) W 62 3 i0 _ Tryz.underlying62 hi hz0 .i64 .i64 0 (n : Int) (by omega) (by omega) (by rw [hz2]; omega) (by omega)
    simpa using h

namespace Pg
/-- How many nodes each of the first m nodes comes to, 2002 at most. -/
def szc (ps : List Pi) : Nat → List Nat
  | 0 => []
  | m + 1 => szc ps m ++ [min 2002 (1 + ((ps.getD m Pi.no).kids.map fun k => (szc ps m).getD k.toNat 0).sum)]
theorem szc_len (ps : List Pi) : ∀ m, (szc ps m).length = m := by
  intro m
  induction m with
  | zero => rfl
  | succ m ih => unfold szc; rw [List.length_append, ih]; rfl
theorem szc_le (ps : List Pi) : ∀ m, ∀ z ∈ szc ps m, z ≤ 2002 := by
  intro m
  induction m with
  | zero => intro z hz; cases hz
  | succ m ih =>
    intro z hz
    unfold szc at hz
    rcases List.mem_append.1 hz with h | h
    · exact ih z h
    · simp only [List.mem_singleton] at h
      omega
theorem szc_get (ps : List Pi) (m j : Nat) : (szc ps m).getD j 0 ≤ 2002 := by
  by_cases h : j < (szc ps m).length
  · rw [List.getD_eq_getElem?_getD, List.getElem?_eq_getElem h]
    exact szc_le ps m _ (List.getElem_mem _)
  · rw [List.getD_eq_getElem?_getD, List.getElem?_eq_none (by omega)]
    exact Nat.zero_le _
theorem sumc_le (f : Int → Nat) (ks : List Int) (hf : ∀ k, f k ≤ 2002) : (ks.map f).sum ≤ 2002 * ks.length := by
  induction ks with
  | nil => simp
  | cons k ks ih =>
    have := hf k
    simp only [List.map_cons, List.sum_cons, List.length_cons]
    omega
theorem min_sum {α : Type} (f g : α → Nat) (h : ∀ x, g x = min 2001 (f x)) : ∀ l : List α, min 2001 ((l.map g).sum) = min 2001 ((l.map f).sum)
  | [] => rfl
  | x :: l => by
    have h1 := h x
    have h2 := min_sum f g h l
    simp only [List.map_cons, List.sum_cons]
    omega
theorem gd_left (xs ys : List Nat) (j : Nat) (h : j < xs.length) : (xs ++ ys).getD j 0 = xs.getD j 0 := by
  simp [List.getElem?_append_left h]
theorem gd_mid (xs : List Nat) (z j : Nat) (h : j = xs.length) : (xs ++ [z]).getD j 0 = z := by
  subst h
  simp
theorem gd_out (xs : List Nat) (z j : Nat) (h : xs.length < j) : (xs ++ [z]).getD j 0 = 0 := by
  rw [List.getD_eq_getElem?_getD, List.getElem?_eq_none (by simp; omega)]
  rfl
theorem szs_szc (ps : List Pi) : ∀ m j, (szs ps m).getD j 0 = min 2001 ((szc ps m).getD j 0) := by
  intro m
  induction m with
  | zero => intro j; simp [szs, szc]
  | succ m ih =>
    intro j
    have l1 := szs_len ps m
    have l2 := szc_len ps m
    have key := min_sum (fun k : Int => (szc ps m).getD k.toNat 0) (fun k : Int => (szs ps m).getD k.toNat 0) (fun k => ih k.toNat) (ps.getD m Pi.no).kids
    have ihj := ih j
    unfold szs szc
    generalize szs ps m = A at *
    generalize szc ps m = B at *
    generalize ((ps.getD m Pi.no).kids.map fun k => A.getD k.toNat 0).sum = x at *
    generalize ((ps.getD m Pi.no).kids.map fun k => B.getD k.toNat 0).sum = y at *
    rcases Nat.lt_trichotomy j m with h | h | h
    · rw [gd_left A _ j (by omega), gd_left B _ j (by omega)]
      exact ihj
    · rw [gd_mid A _ j (by omega), gd_mid B _ j (by omega)]
      omega
    · rw [gd_out A _ j (by omega), gd_out B _ j (by omega)]
      omega
/-- What comesTo answers. -/
def totc (ps : List Pi) (rs : List Rl) : Nat := (rs.map (ruleSz (szc ps ps.length))).sum
theorem totc_min (ps : List Pi) : ∀ rs : List Rl, min 2001 ((rs.map (ruleSz (szs ps ps.length))).sum) = min 2001 ((rs.map (ruleSz (szc ps ps.length))).sum)
  | [] => rfl
  | r :: rs => by
    have h1 := totc_min ps rs
    have h2 := szs_szc ps ps.length r.act.toNat
    have h3 := szs_szc ps ps.length r.cond.toNat
    simp only [List.map_cons, List.sum_cons]
    unfold ruleSz at *
    split <;> omega
theorem totc_iff (ps : List Pi) (rs : List Rl) : 2000 < totc ps rs ↔ 2000 < total ps rs := by
  have h := totc_min ps rs
  have e : total ps rs = (rs.map (ruleSz (szs ps ps.length))).sum := rfl
  unfold totc
  rw [e]
  omega
end Pg

set_option maxHeartbeats 1000000 in
set_option maxRecDepth 100000 in
theorem countsOf_any (v : Value) (ps : List Pi) (w : World) (h : PcsAt w v ps) (hl : ps.length ≤ 200) (hnd : ∀ i, i < ps.length → Pg.node ps i = true) :
    Calls Tryz.prog 33 #[v] w fun e w' => ∃ s, e = .returned s ∧ ZRow w.heap.size w' s (Pg.szc ps ps.length) ∧ Below w.heap.size w w' := by
  have HP : Hid (∀ W, Below w.heap.size w W → PcsAt W v ps) := fun W hb => h.keep hb
  obtain ⟨va, vc, rfl, -⟩ := h
  obtain ⟨n, hn⟩ : ∃ n, n = ps.length := ⟨_, rfl⟩
  have HND : Hid (∀ i, i < n → Pg.node ps i = true) := by rw [hn]; exact hnd
  rw [← hn] at HP hl
  rw [← hn]
  have HN : Hid (n = ps.length) := hn
  clear hn hnd
  obtain ⟨M, hM, hmk⟩ := makeZ_run n (by omega)
  have HB0 : Hid (Below w.heap.size w (w.alloc (.cells M 3))) := (Below.refl _ _).alloc (Nat.le_refl _) _
  have HZ0 : Hid (ZRow w.heap.size (w.alloc (.cells M 3)) (.slice (some ⟨w.heap.size, 0, none⟩) 0 n) []) :=
    World.ownsRow_made (base := w.heap.size) (e := 3) (size := 1) w M n (by omega) (by unfold maxLen; omega) (by rw [hM]; omega)
  have hsz : w.heap.size + 1 ≤ (w.alloc (.cells M 3)).heap.size := by simp
  go_enter Tryz.func33, Tryz.ntmps33
  go_wp2
  clear hmk hM
  generalize w.alloc (.cells M 3) = W0 at *
  have HE : Hid (∀ wr, Below w.heap.size W0 wr → Below w.heap.size w wr) := fun wr hb => HB0.out.trans hb
  go_loopw [14, 3] (fun i s wr => ∃ j : Nat, i = .int .i64 (j : Int) ∧ j ≤ n ∧ w.heap.size + 1 ≤ wr.heap.size ∧ Hid (Below w.heap.size W0 wr) ∧ Hid (ZRow w.heap.size wr s (Pg.szc ps j))) (fun i _ _ => n - (intOf i).toNat)
  case atStart => exact ⟨0, rfl, by omega, hsz, Below.refl _ _, HZ0.out⟩
  case round =>
    clear HZ0
    obtain ⟨j, rfl, hj, hsw, HW, HZ⟩ := hrel
    by_cases hlt : j < n
    · have hj1 : (j : Int) < (n : Int) := by omega
      have hj0 : (0 : Int) ≤ (j : Int) := by omega
      obtain ⟨_, _, e, fp⟩ := HP.out wr (HE.out wr HW.out)
      simp only [Value.slice.injEq] at e
      obtain ⟨rfl, -, -⟩ := e
      obtain ⟨b, o, rfl, hb, hc⟩ := fp (by rw [← HN.out]; omega)
      obtain ⟨kv, p0, p1, p2, ka, kc, rfl, fk⟩ := hc j (by rw [← HN.out]; exact hlt)
      obtain ⟨hk20, hkin⟩ := Pg.node_kids (HND.out j hlt)
      obtain ⟨sa, sc, rfl, fs⟩ := HZ.out.form
      rw [Pg.szc_len] at fs ⊢
      have HSZ : Hid (Pg.szc ps (j + 1) = Pg.szc ps j ++ [min 2002 (1 + ((ps.getD j Pi.no).kids.map fun k => (Pg.szc ps j).getD k.toNat 0).sum)]) := rfl
      generalize (ps.getD j Pi.no).op = op at *
      generalize (ps.getD j Pi.no).text = tx at *
      generalize (ps.getD j Pi.no).kids = ks at *
      obtain ⟨m, hm⟩ : ∃ m, m = ks.length := ⟨_, rfl⟩
      rw [← hm] at p2 fk hk20 hkin
      obtain ⟨f, hf⟩ : ∃ f : Int → Nat, f = fun k => (Pg.szc ps j).getD k.toNat 0 := ⟨_, rfl⟩
      rw [← hf] at HSZ
      have hfle : ∀ k, f k ≤ 2002 := fun k => by rw [hf]; exact Pg.szc_get ps j _
      obtain ⟨S, hS⟩ : ∃ S : Nat → Nat, S = fun q => ((ks.take q).map f).sum := ⟨_, rfl⟩
      obtain ⟨F, hF⟩ : ∃ F : Nat → Nat, F = fun q => f (ks.getD q 0) := ⟨_, rfl⟩
      have HS : Hid (∀ q, S q ≤ 40040) := by
        intro q
        have h1 := Pg.sumc_le f (ks.take q) hfle
        have h2 : (ks.take q).length ≤ 20 := by rw [List.length_take]; omega
        rw [hS]
        show ((ks.take q).map f).sum ≤ 40040
        omega
      have HSTEP : Hid (∀ q, q < m → S (q + 1) = S q + F q) := fun q hq => by rw [hS, hF]; exact Pg.take_sum f ks q (by rw [← hm]; exact hq)
      have HS0 : Hid (S 0 = 0) := by rw [hS]; rfl
      have HALL : Hid (S m = (ks.map f).sum) := by
        show _ = _
        rw [hS, hm]
        show ((ks.take ks.length).map f).sum = _
        rw [List.take_length]
      have HCELL : Hid (∀ q, q < m → ∃ kb ko sg, ∃ kn : Nat, ka = some ⟨kb, ko, none⟩ ∧ sa = some ⟨sg, 0, none⟩ ∧ kn < j ∧ F q ≤ 2002 ∧ wr.cell? ⟨kb, ko + q, none⟩ = some (.int .i64 (kn : Int)) ∧ wr.cell? ⟨sg, kn, none⟩ = some (.int .i64 (F q : Int))) := by
        intro q hq
        obtain ⟨kb, ko, e1, _, e2⟩ := fk (by omega)
        obtain ⟨h1, h2⟩ := hkin q hq
        obtain ⟨sg, e3, e4⟩ := fs (by omega)
        refine ⟨kb, ko, sg, (ks.getD q 0).toNat, e1, e3, by omega, by rw [hF]; exact hfle _, ?_, ?_⟩
        · rw [e2 q hq, Int.toNat_of_nonneg h1]
        · rw [e4 _ (by omega), hF, hf]
      have HSZ2 : Hid (Pg.szc ps (j + 1) = Pg.szc ps j ++ [min 2002 (1 + S m)]) := by
        show _ = _
        rw [HSZ.out, HALL.out]
      have HBA : Hid (Below wr.heap.size wr (wr.alloc (.cells #[.int .i64 op, .string tx, .slice ka m kc] 67))) := (Below.refl _ _).alloc (Nat.le_refl _) _
      clear fp hc fk fs hkin hfle hm hf hS hF HSZ HALL hb
      go_wp2
      generalize wr.alloc (.cells #[.int .i64 op, .string tx, .slice ka m kc] 67) = U at *
      clear p0 p1 p2
      go_loopw [21, 6] (fun kk nn wq => ∃ q : Nat, kk = .int .i64 (q : Int) ∧ nn = .int .i64 (1 + (S q : Int)) ∧ q ≤ m ∧ wq = U) (fun kk _ _ => m - (intOf kk).toNat)
      case atStart => exact ⟨0, rfl, by rw [HS0.out]; rfl, by omega, rfl⟩
      case round =>
        obtain ⟨q, rfl, rfl, hq, rfl⟩ := hrel
        have hSq := HS.out q
        by_cases hlq : q < m
        · have hq1 : (q : Int) < (m : Int) := by omega
          have hq0 : (0 : Int) ≤ (q : Int) := by omega
          obtain ⟨kb, ko, sg, kn, rfl, rfl, hkn, hFq, c1, c2⟩ := HCELL.out q hlq
          have hc1 := (HBA.out.cell (World.block_lt_of_cell? _ _ c1)).trans c1
          have hc2 := (HBA.out.cell (World.block_lt_of_cell? _ _ c2)).trans c2
          have hkn1 : (kn : Int) < (j : Int) := by omega
          have hkn0 : (0 : Int) ≤ (kn : Int) := by omega
          have HST : Hid (S (q + 1) = S q + F q) := HSTEP.out q hlq
          clear c1 c2
          go_wp2
          go_roundw
          case rel =>
            refine ⟨q + 1, by go_num, ?_, by omega, by first | rfl | trivial⟩
            rw [HST.out]
            congr 1
            omega
          case measure => simp [intOf]; omega
        · obtain rfl : q = m := by omega
          have dq : ¬ ((q : Int) < (q : Int)) := by omega
          have HZq : Hid (ZRow w.heap.size wr (.slice sa j sc) (Pg.szc ps j)) := by
            have := HZ.out.keep HBA.out
            rw [Pg.szc_len] at this
            exact this
          have HWw : Hid (Below w.heap.size W0 wr) := HW.out.trans (HBA.out.mono (by omega))
          have hswr := Nat.le_trans hsw HBA.out.size
          clear HS HSTEP HS0 HCELL
          by_cases h2002 : 2002 < 1 + S q
          · have d2 : (2002 : Int) < 1 + (S q : Int) := by omega
            have d3 : ¬ (1 + (S q : Int) ≤ 2002) := by omega
            have d4 : ¬ (1 + (S q : Int) < 2002) := by omega
            have HSZ3 : Hid (Pg.szc ps (j + 1) = Pg.szc ps j ++ [2002]) := by show _ = _; rw [HSZ2.out, Nat.min_eq_left (by omega)]
            clear HSZ2 h2002
            go_wp2_with (at_builtin; go_must (refine HZq.out.push rfl (.tmp 32) (.tmp 35) rfl rfl _ (2002) (by first | rfl | omega) rfl ?hl ?hb ?_))
            case hl => rw [Pg.szc_len]; omega
            case hb => omega
            · intro v2 w2 hrow hbel
              have HR2 : Hid (ZRow w.heap.size w2 v2 (Pg.szc ps (j + 1))) := by rw [HSZ3.out]; exact hrow
              have HW2 : Hid (Below w.heap.size W0 w2) := HWw.out.trans hbel
              have hs2 := Nat.le_trans hswr hbel.size
              clear hrow hbel
              go_wp2
              go_roundw
              case rel => exact ⟨j + 1, by go_num, by omega, hs2, HW2.out, HR2.out⟩
              case measure => simp [intOf]; omega
          · have d2 : ¬ ((2002 : Int) < 1 + (S q : Int)) := by omega
            have d3 : (1 + (S q : Int)) ≤ 2002 := by omega
            have HSZ3 : Hid (Pg.szc ps (j + 1) = Pg.szc ps j ++ [1 + S q]) := by show _ = _; rw [HSZ2.out, Nat.min_eq_right (by omega)]
            clear HSZ2 h2002
            go_wp2_with (at_builtin; go_must (refine HZq.out.push rfl (.tmp 32) (.tmp 35) rfl rfl _ (1 + S q) (by first | rfl | omega) rfl ?hl ?hb ?_))
            case hl => rw [Pg.szc_len]; omega
            case hb => omega
            · intro v2 w2 hrow hbel
              have HR2 : Hid (ZRow w.heap.size w2 v2 (Pg.szc ps (j + 1))) := by rw [HSZ3.out]; exact hrow
              have HW2 : Hid (Below w.heap.size W0 w2) := HWw.out.trans hbel
              have hs2 := Nat.le_trans hswr hbel.size
              clear hrow hbel
              go_wp2
              go_roundw
              case rel => exact ⟨j + 1, by go_num, by omega, hs2, HW2.out, HR2.out⟩
              case measure => simp [intOf]; omega
    · obtain rfl : j = n := by omega
      have dj : ¬ ((j : Int) < (j : Int)) := by omega
      have HEW : Hid (Below w.heap.size w wr) := HE.out wr HW.out
      go_wp2
      go_ret
      exact ⟨_, rfl, HZ.out, HEW.out⟩

set_option maxHeartbeats 1000000 in
set_option maxRecDepth 100000 in
theorem comesTo_any (v rv : Value) (ps : List Pi) (rs : List Pg.Rl) (w : World) (h : PcsAt w v ps) (hr : RlsAt w rv rs) (hl : ps.length ≤ 200) (hl2 : rs.length ≤ 12) (hnd : ∀ i, i < ps.length → Pg.node ps i = true) (hrl : ∀ r ∈ rs, Pg.rule ps r = true) :
    Calls Tryz.prog 18 #[.agg #[v, rv]] w fun e w' => e = .returned (.int .i64 (Pg.totc ps rs : Int)) ∧ Below w.heap.size w w' := by
  have HR : Hid (∀ W, Below w.heap.size w W → RlsAt W rv rs) := fun W hb => hr.keep hb
  have CC : Hid (∀ W, Below w.heap.size w W → Calls Tryz.prog 33 #[v] W fun e w' => ∃ s, e = .returned s ∧ ZRow W.heap.size w' s (Pg.szc ps ps.length) ∧ Below W.heap.size W w') := fun W hb => countsOf_any v ps W (h.keep hb) hl hnd
  obtain ⟨va, vc, rfl, -⟩ := h
  obtain ⟨ra, rc, rfl, -⟩ := hr
  obtain ⟨j, hj⟩ : ∃ j, j = ps.length := ⟨_, rfl⟩
  obtain ⟨k, hk⟩ : ∃ k, k = rs.length := ⟨_, rfl⟩
  obtain ⟨T, hT⟩ : ∃ T, T = Pg.totc ps rs := ⟨_, rfl⟩
  have HT : Hid (T = (rs.map (Pg.ruleSz (Pg.szc ps j))).sum) := by rw [hT, hj]; rfl
  rw [← hT]
  have HRL : Hid (∀ r ∈ rs, Pg.rule ps r = true) := hrl
  rw [← hj] at CC hl
  rw [← hk] at HR hl2
  rw [← hj, ← hk]
  have HK : Hid (k = rs.length) := hk
  have HN : Hid (j = ps.length) := hj
  clear hj hk hnd hrl hT
  have HB0 : Hid (Below w.heap.size w (w.alloc (.cells #[.slice va j vc, .slice ra k rc] 32))) := (Below.refl _ _).alloc (Nat.le_refl _) _
  have q0 := heap_alloc_new w (.cells #[.slice va j vc, .slice ra k rc] 32)
  have z0 := blk_cell q0 0
  simp only [List.getElem?_toArray, List.getElem?_cons_zero] at z0
  have hsz : w.heap.size + 1 ≤ (w.alloc (.cells #[.slice va j vc, .slice ra k rc] 32)).heap.size := by simp
  have HQ0 : Hid ((w.alloc (.cells #[.slice va j vc, .slice ra k rc] 32)).heap[w.heap.size]? = some (.cells #[.slice va j vc, .slice ra k rc] 32 (0, 0))) := q0
  clear q0
  go_enter Tryz.func18, Tryz.ntmps18
  go_wp2_with fail
  generalize w.alloc (.cells #[.slice va j vc, .slice ra k rc] 32) = W0 at *
  refine (CC.out _ HB0.out).mono ?_
  rintro e wr ⟨s, rfl, hz, hb⟩
  have HEW : Hid (Below w.heap.size w wr) := HB0.out.trans (hb.mono HB0.out.size)
  have HZ : Hid (ZRow W0.heap.size wr s (Pg.szc ps j)) := hz
  have z1 := blk_cell ((hb.block _ hsz).trans HQ0.out) 1
  simp only [List.getElem?_toArray, List.getElem?_cons_zero, List.getElem?_cons_succ] at z1
  clear hz hb z0 CC HQ0 hsz
  obtain ⟨sa, sc, rfl, fs⟩ := HZ.out.form
  rw [Pg.szc_len] at fs ⊢
  obtain ⟨G, hG⟩ : ∃ G : Nat → Nat, G = fun q => ((rs.take q).map (Pg.ruleSz (Pg.szc ps j))).sum := ⟨_, rfl⟩
  have HG0 : Hid (G 0 = 0) := by rw [hG]; rfl
  have HGS : Hid (∀ q, q < k → G (q + 1) = G q + Pg.ruleSz (Pg.szc ps j) (rs.getD q Pg.Rl.no)) := fun q hq => by rw [hG]; exact Pg.rtake_sum _ rs q (by rw [← HK.out]; exact hq)
  have HGT : Hid (T = G k) := by
    show _ = _
    rw [HT.out, hG, HK.out]
    show _ = ((rs.take rs.length).map _).sum
    rw [List.take_length]
  have HFS : Hid (0 < j → ∃ g, sa = some ⟨g, 0, none⟩ ∧ ∀ x, x < j → wr.cell? ⟨g, x, none⟩ = some (.int .i64 (((Pg.szc ps j).getD x 0 : Nat) : Int))) := fs
  have HGB : Hid (∀ q, q ≤ k → G q ≤ 4004 * q) := by
    intro q
    induction q with
    | zero => intro _; rw [HG0.out]; omega
    | succ q ih =>
      intro hq
      have h1 := ih (by omega)
      have h2 : Pg.ruleSz (Pg.szc ps j) (rs.getD q Pg.Rl.no) ≤ 4004 := by
        unfold Pg.ruleSz
        have a1 := Pg.szc_get ps j (rs.getD q Pg.Rl.no).act.toNat
        have a2 := Pg.szc_get ps j (rs.getD q Pg.Rl.no).cond.toNat
        split <;> omega
      rw [HGS.out q (by omega)]
      omega
  have HRW := HR.out wr HEW.out
  obtain ⟨_, _, e, fr⟩ := HRW
  simp only [Value.slice.injEq] at e
  obtain ⟨rfl, -, rfl⟩ := e
  have HFR : Hid (0 < k → ∃ b o, ra = some ⟨b, o, none⟩ ∧ b < wr.heap.size ∧ ∀ i, i < k → wr.cell? ⟨b, o + i * 3, none⟩ = some (.int .i64 (rs.getD i Pg.Rl.no).when) ∧ wr.cell? ⟨b, o + i * 3 + 1, none⟩ = some (.int .i64 (rs.getD i Pg.Rl.no).cond) ∧ wr.cell? ⟨b, o + i * 3 + 2, none⟩ = some (.int .i64 (rs.getD i Pg.Rl.no).act)) := by rw [HK.out]; exact fr
  clear fs hG HT HZ fr HR HB0
  go_wp2
  obtain ⟨U, hU⟩ : ∃ U, U = wr := ⟨_, rfl⟩
  subst hU
  go_loopw [13, 4] (fun ii nn W => ∃ q : Nat, ii = .int .i64 (q : Int) ∧ nn = .int .i64 (G q : Int) ∧ q ≤ k ∧ Hid (Below U.heap.size U W)) (fun ii _ _ => k - (intOf ii).toNat)
  case atStart => exact ⟨0, rfl, by rw [HG0.out]; rfl, by omega, Below.refl _ _⟩
  case round =>
    obtain ⟨q, rfl, rfl, hq, HWU⟩ := hrel
    have hGq := HGB.out q hq
    by_cases hlq : q < k
    · have hq1 : (q : Int) < (k : Int) := by omega
      have hq0 : (0 : Int) ≤ (q : Int) := by omega
      obtain ⟨rb, ro, rfl, -, hrc⟩ := HFR.out (by omega)
      obtain ⟨c0, c1, c2⟩ := hrc q hlq
      have hmem : rs.getD q Pg.Rl.no ∈ rs := by
        have hq2 : q < rs.length := by rw [← HK.out]; exact hlq
        rw [List.getD_eq_getElem?_getD, List.getElem?_eq_getElem hq2]
        exact List.getElem_mem _
      obtain ⟨hin1, hin2⟩ := Pg.rule_in (HRL.out _ hmem)
      rw [← HN.out] at hin1 hin2
      have HST := HGS.out q hlq
      unfold Pg.ruleSz at HST
      generalize rs.getD q Pg.Rl.no = rl at *
      obtain ⟨rw0, rc0, ra0⟩ := rl
      simp only at c0 c1 c2 hin1 hin2 HST
      obtain ⟨an, rfl⟩ : ∃ an : Nat, ra0 = (an : Int) := ⟨ra0.toNat, by omega⟩
      have han : an < j := by omega
      have han1 : (an : Int) < (j : Int) := by omega
      have han0 : (0 : Int) ≤ (an : Int) := by omega
      obtain ⟨sg, rfl, hsc⟩ := HFS.out (by omega)
      have s1 := hsc an han
      have b1 := Pg.szc_get ps j an
      rw [show ((an : Int)).toNat = an by omega] at HST
      have HBB : Hid (Below U.heap.size U (wr.alloc (.cells #[.int .i64 rw0, .int .i64 rc0, .int .i64 (an : Int)] 41))) := HWU.out.alloc HWU.out.size _
      have g0 := (HWU.out.cell (World.block_lt_of_cell? _ _ c0)).trans c0
      have g1 := (HWU.out.cell (World.block_lt_of_cell? _ _ c1)).trans c1
      have g2 := (HWU.out.cell (World.block_lt_of_cell? _ _ c2)).trans c2
      have t1 := (HBB.out.cell (World.block_lt_of_cell? _ _ s1)).trans s1
      by_cases hm1 : rc0 = -1
      · have HST2 : Hid (G (q + 1) = G q + (Pg.szc ps j).getD an 0) := by show _ = _; rw [HST, if_neg (by omega)]; omega
        have dm : (rc0 != -1) = false := by simpa using hm1
        generalize (Pg.szc ps j).getD an 0 = za at *
        clear hrc hmem hin1 hin2 HST hm1 hsc c0 c1 c2 s1
        go_wp2
        go_roundw
        case rel =>
          refine ⟨q + 1, by go_num, ?_, by omega, HBB.out⟩
          rw [HST2.out]
          congr 1
        case measure => simp [intOf]; omega
      · obtain ⟨cn, rfl⟩ : ∃ cn : Nat, rc0 = (cn : Int) := ⟨rc0.toNat, by omega⟩
        have hcn : cn < j := by omega
        have hcn1 : (cn : Int) < (j : Int) := by omega
        have hcn0 : (0 : Int) ≤ (cn : Int) := by omega
        have s2 := hsc cn hcn
        have t2 := (HBB.out.cell (World.block_lt_of_cell? _ _ s2)).trans s2
        have b2 := Pg.szc_get ps j cn
        have dm : ((cn : Int) != -1) = true := bne_iff_ne.2 (by omega)
        have HST2 : Hid (G (q + 1) = G q + (Pg.szc ps j).getD an 0 + (Pg.szc ps j).getD cn 0) := by show _ = _; rw [HST, if_pos (by omega), show ((cn : Int)).toNat = cn by omega]; omega
        generalize (Pg.szc ps j).getD an 0 = za at *
        generalize (Pg.szc ps j).getD cn 0 = zc at *
        clear hrc hmem hin1 hin2 HST hm1 hsc c0 c1 c2 s1 s2
        go_wp2
        go_roundw
        case rel =>
          refine ⟨q + 1, by go_num, ?_, by omega, HBB.out⟩
          rw [HST2.out]
          congr 1
          omega
        case measure => simp [intOf]; omega
    · obtain rfl : q = k := by omega
      have dq : ¬ ((q : Int) < (q : Int)) := by omega
      have HEND : Hid (Below w.heap.size w wr) := HEW.out.trans (HWU.out.mono HEW.out.size)
      clear HFR HFS HGS HGB HRL
      go_wp2
      go_ret
      exact ⟨by rw [HGT.out]; rfl, HEND.out⟩
#print axioms comesTo_any
end Go.Proofs.YtknojhmnadmilaaGreatDoor
