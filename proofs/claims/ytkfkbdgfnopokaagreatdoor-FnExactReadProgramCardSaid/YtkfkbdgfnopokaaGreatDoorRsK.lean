/- The program's writer of nodes: the program of some rules. -/
import Derived.Test.YtkfkbdgfnopokaaGreatDoorZat
namespace Go.Proofs.YtkfkbdgfnopokaaGreatDoor
open Go.RowKit
def noX : Nat → Prop := fun _ => False
theorem NP.other {B g a : Nat} {Xs : Nat → Prop} {w w' : World} {v : Value} {ps : List Pi} (h : NP B g Xs w v ps) (ha : a < B) (hi : ∀ i z, w.cell? ⟨a, i, none⟩ ≠ some (.int .i64 z)) (hs : w.heap.size ≤ w'.heap.size) (hk : ∀ k, k ≠ a → w'.heap[k]? = w.heap[k]?) : NP B g Xs w' v ps := by
 obtain ⟨cs, h1, h2, h3⟩ := h
 refine ⟨cs, NR.keep h1 (fun q e => hk q (by have := (World.ownsRow.lt h1 q e).1; omega)), h2, fun i hi2 => ?_⟩
 obtain ⟨a1, b1, u1, c1, d1⟩ := h3 i hi2
 refine ⟨a1, b1, u1, c1, ?_⟩
 obtain ⟨ka, kc, rfl, f⟩ := d1
 refine ⟨ka, kc, rfl, fun h0 => ?_⟩
 obtain ⟨b, rfl, hb, hg, hvv, hx, hc⟩ := f h0
 have hba : b ≠ a := fun e => hi 0 _ (e ▸ hc 0 h0)
 exact ⟨b, rfl, Nat.lt_of_lt_of_le hb hs, hg, hvv, hx, fun j hj => (cell_blk (hk b hba) j).trans (hc j hj)⟩
theorem NQ.other {B g a : Nat} {Xs : Nat → Prop} {w w' : World} {v : Value} {ps : List Pi} (h : NQ B g Xs w v ps) (ha : a < B) (hi : ∀ i z, w.cell? ⟨a, i, none⟩ ≠ some (.int .i64 z)) (hs : w.heap.size ≤ w'.heap.size) (hk : ∀ k, k ≠ a → w'.heap[k]? = w.heap[k]?) : NQ B g Xs w' v ps := by
 obtain ⟨cs, h1, h2, h3, h9⟩ := h
 refine ⟨cs, NR.keep h1 (fun q e => hk q (by have := (World.ownsRow.lt h1 q e).1; omega)), h2, fun i hi2 => ?_, h9.keep fun i b o n c e => hk b (by have := (h9.1 i b o n c e).1; omega)⟩
 obtain ⟨a1, b1, u1, c1, d1⟩ := h3 i hi2
 refine ⟨a1, b1, u1, c1, ?_⟩
 obtain ⟨ka, kc, rfl, f⟩ := d1
 refine ⟨ka, kc, rfl, fun h0 => ?_⟩
 obtain ⟨b, rfl, hb, hg, hvv, hx, hc⟩ := f h0
 have hba : b ≠ a := fun e => hi 0 _ (e ▸ hc 0 h0)
 exact ⟨b, rfl, Nat.lt_of_lt_of_le hb hs, hg, hvv, hx, fun j hj => (cell_blk (hk b hba) j).trans (hc j hj)⟩
structure Pw (w : World) (W : World) (nv u : Value) (q : List Pi × List Pg.Rl) : Prop where
 wr : Wr (w.heap.size + 2) (w.heap.size + 1) (and noX u) W nv q.1
 row : RRow (w.heap.size + 2) W u q.2
 res : W.heap[w.heap.size]? = some (.cells #[.slice none 0 0, .slice none 0 0] 25 (0, 0))
 low : Below w.heap.size w W
section
variable {w wr wr' : World} {nv nv' u : Value} {q : List Pi × List Pg.Rl}
theorem Pw.below (h : Pw w wr nv u q) (hb : Below wr.heap.size wr wr') : Pw w wr' nv u q :=
 ⟨h.wr.below hb, h.row.keep (fun k e => hb.block k (h.wr.xb k (.inr e)).2.1), (hb.block _ (blk_lt h.res)).trans h.res, h.low.trans (hb.mono h.low.size)⟩
theorem Pw.kb (h : Pw w wr nv u q) {qs : List Pi} (hw : Wr (w.heap.size + 2) (w.heap.size + 1) (and noX u) wr' nv' qs) (hk : KB (w.heap.size + 1) nv wr wr' nv') : Pw w wr' nv' u (qs, q.2) := by
 have own := h.wr.np.own
 have hsz := h.wr.sz
 refine ⟨hw, h.row.keep (fun k e => hk.2.2.1 k (h.wr.xb k (.inr e)).2.1 (fun e2 => by have := (h.wr.xb k (.inr e)).1; omega) (h.wr.xb k (.inr e)).2.2), (hk.2.2.1 _ (blk_lt h.res) (by omega) (fun e => by have := (own _ e).1; omega)).trans h.res, ?_⟩
 exact h.low.trans ⟨hk.1.1, hk.1.2.1, hk.1.2.2, hk.2.1, fun k hkk => hk.2.2.1 k (by omega) (by omega) (fun e => by have := (own _ e).1; omega)⟩
theorem Pw.adds (h : Pw w wr nv u q) {t : Tr} (ht : Adds t.R w t.k t.G) (hlen : q.1.length + (t.G q.1.length).length ≤ 1000) :
  Calls Tryz.prog 58 #[.pointer (some ⟨w.heap.size + 1, 0, none⟩), .iface t.k.1 t.k.2] wr fun e W' => ∃ nv', e = .returned (.int .i64 (((q.1.length + (t.G q.1.length).length : Nat) : Int) - 1)) ∧ Pw w W' nv' u (q.1 ++ t.G q.1.length, q.2) ∧ KB (w.heap.size + 1) nv wr W' nv' := by
 refine (ht.2 (w.heap.size + 2) (w.heap.size + 1) wr (fun b hb => ⟨by have := ht.1 b hb; omega, h.low.block b (ht.1 b hb)⟩) (and noX u) wr nv q.1 (fun _ _ => rfl) h.wr hlen).mono ?_
 rintro e W' ⟨nv', rfl, h1, h2⟩
 exact ⟨nv', rfl, h.kb h1 h2, h2⟩
end
set_option maxHeartbeats 4000000 in
set_option maxRecDepth 100000 in
theorem programOf_any (v : Value) (us : List Ru) (w : World) (B0 : Nat) (h : RRw B0 w v us) (ht : ∀ t ∈ us.flatMap Ru.trees, Adds t.R w t.k t.G) (hul : us.length ≤ 200) (hlen : (Fl.prog (us.map Ru.plain)).1.length ≤ 1000) :
  Calls Tryz.prog 23 #[v] w fun e w' => ∃ nv u, e = .returned (.agg #[nv, u]) ∧ NQ (w.heap.size + 2) (w.heap.size + 1) (and noX u) w' nv (Fl.prog (us.map Ru.plain)).1 ∧ RRow (w.heap.size + 2) w' u (Fl.prog (us.map Ru.plain)).2 ∧ (∀ x, u.ownBlock = some x → nv.ownBlock ≠ some x) ∧ Below w.heap.size w w' := by
 obtain ⟨ad, cap, rfl, hat⟩ := h.at
 have HAT := hidOf2 hat
 have HTR := hidOf2 ht
 have HLEN := hidOf2 hlen
 obtain ⟨n, hn⟩ : ∃ n, n = us.length := ⟨_, rfl⟩
 have HN := hidOf2 hn
 have hn200 : n ≤ 200 := by rw [hn]; exact hul
 rw [← hn]
 have hb0 : Below w.heap.size w ((w.alloc (.cells #[.slice none 0 0, .slice none 0 0] 25)).alloc (.cells #[.slice none 0 0] 102)) := ((Below.refl _ _).alloc (Nat.le_refl _) _).alloc (by simp) _
 have hz : ((w.alloc (.cells #[.slice none 0 0, .slice none 0 0] 25)).alloc (.cells #[.slice none 0 0] 102)).heap.size = w.heap.size + 2 := by simp
 have P0 : Pw w ((w.alloc (.cells #[.slice none 0 0, .slice none 0 0] 25)).alloc (.cells #[.slice none 0 0] 102)) (.slice none 0 0) (.slice none 0 0) ([], []) := by
  have q0 : ((w.alloc (.cells #[.slice none 0 0, .slice none 0 0] 25)).alloc (.cells #[.slice none 0 0] 102)).heap[w.heap.size]? = some (.cells #[.slice none 0 0, .slice none 0 0] 25 (0, 0)) := by
   show ((w.heap.push (.cells #[.slice none 0 0, .slice none 0 0] 25)).push (.cells #[.slice none 0 0] 102))[w.heap.size]? = _
   rw [Array.getElem?_push, if_neg (by simp), Array.getElem?_push]
   simp
  have q1 : ((w.alloc (.cells #[.slice none 0 0, .slice none 0 0] 25)).alloc (.cells #[.slice none 0 0] 102)).heap[w.heap.size + 1]? = some (.cells #[.slice none 0 0] 102 (0, 0)) := by
   show ((w.heap.push (.cells #[.slice none 0 0, .slice none 0 0] 25)).push (.cells #[.slice none 0 0] 102))[w.heap.size + 1]? = _
   rw [Array.getElem?_push]
   simp
  exact ⟨⟨q1, ⟨[], World.ownsRow_nil _ _ _ _, rfl, fun i hi => by simp at hi, fun i b o n c e => by simp at e, fun i j b o n c o' n' c' e => by simp at e⟩, by rw [hz]; exact Nat.le_refl _, by omega, fun x hx => hx.elim (fun e => e.elim) (fun e => by simp [Value.ownBlock] at e)⟩, World.ownsRow_nil _ _ _ _, q0, hb0⟩
 have HP0 : Hid (Pw w ((w.alloc (.cells #[.slice none 0 0, .slice none 0 0] 25)).alloc (.cells #[.slice none 0 0] 102)) (.slice none 0 0) (.slice none 0 0) (Fl.prog ((us.map Ru.plain).take 0))) := P0
 obtain ⟨Q, hQ⟩ : ∃ Q, Q = Fl.prog (us.map Ru.plain) := ⟨_, rfl⟩
 rw [← hQ]
 have HQ := hidOf2 hQ
 clear hat ht hlen hb0 hz P0 h hn hQ
 go_enter Tryz.func23, Tryz.ntmps23
 go_wp2_with fail
 generalize (w.alloc (.cells #[.slice none 0 0, .slice none 0 0] 25)).alloc (.cells #[.slice none 0 0] 102) = W0 at *
 go_loopw [4, 13] (fun uv iv wr => ∃ (i : Nat) (nv u : Value), u = uv ∧ iv = .int .i64 (i : Int) ∧ i ≤ n ∧ Hid (Pw w wr nv u (Fl.prog ((us.map Ru.plain).take i)))) (fun _ iv _ => n - (intOf iv).toNat)
 case atStart => exact ⟨0, _, _, rfl, rfl, by omega, HP0⟩
 case round =>
  clear HP0
  obtain ⟨i, nv, u, rfl, rfl, hi, HP⟩ := hrel
  by_cases hlt : i < n
  ·have d1 : decide ((i : Int) < (n : Int)) = true := decide_eq_true (by omega)
   have i1 : (i : Int) < (n : Int) := by omega
   have i0 : (0 : Int) ≤ (i : Int) := by omega
   have hiu : i < us.length := by rw [← HN.out]; exact hlt
   obtain ⟨rb, rfl, hrb, hcc⟩ := HAT.out (by omega)
   obtain ⟨c0, c1, c2⟩ := hcc i hiu
   rw [← HP.out.low.cell (p := ⟨rb, i * 3, none⟩) (by exact hrb)] at c0
   rw [← HP.out.low.cell (p := ⟨rb, i * 3 + 1, none⟩) (by exact hrb)] at c1
   rw [← HP.out.low.cell (p := ⟨rb, i * 3 + 2, none⟩) (by exact hrb)] at c2
   have hpt := Fl.prog_take (us.map Ru.plain) i (by simpa using hiu)
   have hple := Fl.prog_le (us.map Ru.plain) (i + 1)
   have hLL := HLEN.out
   have htest : ∀ t, (us[i]).test = some t → Adds t.R w t.k t.G := fun t e => HTR.out t (List.mem_flatMap.2 ⟨us[i], List.getElem_mem hiu, by unfold Ru.trees; rw [e]; simp⟩)
   have hdoo : Adds (us[i]).doo.R w (us[i]).doo.k (us[i]).doo.G := HTR.out _ (List.mem_flatMap.2 ⟨us[i], List.getElem_mem hiu, by unfold Ru.trees; simp⟩)
   have hmap : (us.map Ru.plain)[i]'(by simpa using hiu) = (us[i]).plain := by simp
   rw [hmap] at hpt
   obtain ⟨x, hx⟩ : ∃ x, x = us[i] := ⟨_, rfl⟩
   rw [← hx] at c0 c1 c2 hpt htest hdoo
   obtain ⟨q, hq⟩ : ∃ q, q = Fl.prog ((us.map Ru.plain).take i) := ⟨_, rfl⟩
   rw [← hq] at HP hpt
   rw [hpt] at hple
   have HPT := hidOf2 hpt
   have hrl : q.2.length = i := by
    rw [hq]
    unfold Fl.prog
    rw [Fl.prog_rl]
    simp
    omega
   clear hcc hpt hmap hx hq hiu
   obtain ⟨when, test, doo⟩ := x
   obtain ⟨⟨T, y⟩, R, G⟩ := doo
   simp only at c0 c1 c2 htest hdoo hple HPT
   unfold tv at c2
   simp only at c2
   cases test with
   | none =>
    unfold tvo at c1
    have hl1 : q.1.length + (G q.1.length).length ≤ 1000 := by
     have h9 : (q.1 ++ G q.1.length).length ≤ _ := hple
     rw [List.length_append] at h9
     omega
    obtain ⟨a2, ha2⟩ : ∃ a2 : Int, a2 = ((q.1.length + (G q.1.length).length : Nat) : Int) - 1 := ⟨_, rfl⟩
    have HA2 := hidOf2 ha2
    have PA := hidOf2 (HP.out.below ((Below.refl _ _).alloc (Nat.le_refl wr.heap.size) (.cells #[.int .i64 (when : Int), .nilIface, .iface T y] 104)))
    have qa := heap_alloc_new wr (.cells #[.int .i64 (when : Int), .nilIface, .iface T y] 104)
    have CA := hidOf2 (PA.out.adds (t := ⟨(T, y), R, G⟩) hdoo hl1)
    simp only at CA
    rw [← ha2] at CA
    clear ha2
    have hown : nv.ownBlock ≠ some wr.heap.size := fun e => by have := (HP.out.wr.np.own _ e).2; omega
    have hszz := HP.out.wr.sz
    have KA := hidOf2 (And.intro qa (And.intro hown hszz))
    clear HP qa hown hszz hple htest hdoo
    go_wp2_with fail
    generalize hWA : wr.alloc (.cells #[.int .i64 (when : Int), .nilIface, .iface T y] 104) = WA at *
    refine CA.out.mono ?_
    rintro e w5 ⟨nv5, rfl, hp5, hk5⟩
    have P5 := hidOf2 hp5
    have B5 : w5.heap[wr.heap.size]? = some (.cells #[.int .i64 (when : Int), .nilIface, .iface T y] 104 (0, 0)) := (hk5.2.2.1 _ (blk_lt KA.out.1) (by have := KA.out.2.2; omega) KA.out.2.1).trans KA.out.1
    obtain ⟨m0, m1, m2⟩ := tcells3 B5
    clear hp5 hk5 CA PA KA hWA B5 c0 c1 c2
    have hs5 := P5.out.wr.sz
    have HRO := hidOf2 (And.intro P5.out.row hrl)
    clear hrl
    go_wp2_with (at_builtin; go_must (refine HRO.out.1.pushR rfl _ _ rfl rfl ⟨(when : Int), -1, a2⟩ _ rfl rfl ?hl ?hb ?_))
    case hl => have h1 := HRO.out.2; omega
    case hb => exact hs5
    intro q6 cap6 w6 hrow hqq hq2 hsz2 hen hblk
    have HF6 : Hid (Pw w w6 nv5 (.slice (some ⟨q6, 0, none⟩) (q.2.length + 1) cap6) (Fl.prog ((us.map Ru.plain).take (i + 1)))) := by
     have own := P5.out.wr.xb
     show Pw _ _ _ _ _
     rw [HPT.out, show Fl.one q (Ru.plain ⟨when, none, ⟨(T, y), R, G⟩⟩) = (q.1 ++ G q.1.length, q.2 ++ [⟨(when : Int), -1, a2⟩]) by rw [HA2.out]; rfl]
     have hlow : Below w.heap.size w w6 := P5.out.low.trans ⟨hen.1, hen.2.1, hen.2.2, hsz2, fun k hk => hblk k (by omega) (fun e => by have := (own k (.inr e)).1; omega)⟩
     exact ⟨P5.out.wr.poke hsz2 hblk (fun q e => by
       obtain rfl : q6 = q := by simpa [Value.ownBlock] using e
       exact ⟨hqq, hq2⟩), hrow, (hblk _ (blk_lt P5.out.res) (fun e => by have := (own _ (.inr e)).1; omega)).trans P5.out.res, hlow⟩
    clear hrow hqq hq2 hsz2 hen hblk P5 HPT HRO hs5
    go_wp2
    go_roundw
    case rel => exact ⟨i + 1, nv5, _, rfl, by go_num, by omega, HF6⟩
    case measure => simp [intOf]; omega
   | some tt =>
    obtain ⟨⟨T2, y2⟩, R2, G2⟩ := tt
    unfold tvo tv at c1
    simp only at c1
    have htt := htest _ rfl
    simp only at htt
    have hl1 : q.1.length + (G2 q.1.length).length ≤ 1000 ∧ q.1.length + (G2 q.1.length).length + (G (q.1.length + (G2 q.1.length).length)).length ≤ 1000 := by
     have h9 : (q.1 ++ G2 q.1.length ++ G (q.1.length + (G2 q.1.length).length)).length ≤ _ := hple
     rw [List.length_append, List.length_append] at h9
     omega
    have PA := hidOf2 (HP.out.below ((Below.refl _ _).alloc (Nat.le_refl wr.heap.size) (.cells #[.int .i64 (when : Int), .iface T2 y2, .iface T y] 104)))
    have qa := heap_alloc_new wr (.cells #[.int .i64 (when : Int), .iface T2 y2, .iface T y] 104)
    have CA := hidOf2 (PA.out.adds (t := ⟨(T2, y2), R2, G2⟩) htt hl1.1)
    have hown : nv.ownBlock ≠ some wr.heap.size := fun e => by have := (HP.out.wr.np.own _ e).2; omega
    have hszz := HP.out.wr.sz
    have KA := hidOf2 (And.intro qa (And.intro hown hszz))
    have HDO := hidOf2 hdoo
    obtain ⟨a1, ha1⟩ : ∃ a1 : Int, a1 = ((q.1.length + (G2 q.1.length).length : Nat) : Int) - 1 := ⟨_, rfl⟩
    simp only at CA
    rw [← ha1] at CA
    have HA1 := hidOf2 ha1
    obtain ⟨m0, m1, m2⟩ := tcells3 qa
    clear HP qa hown hszz hple htest hdoo htt ha1
    go_wp2_with fail
    generalize hWA : wr.alloc (.cells #[.int .i64 (when : Int), .iface T2 y2, .iface T y] 104) = WA at *
    refine CA.out.mono ?_
    rintro e w4 ⟨nv4, rfl, hp4, hk4⟩
    have P4 := hidOf2 hp4
    have B4 : w4.heap[wr.heap.size]? = some (.cells #[.int .i64 (when : Int), .iface T2 y2, .iface T y] 104 (0, 0)) := (hk4.2.2.1 _ (blk_lt KA.out.1) (by have := KA.out.2.2; omega) KA.out.2.1).trans KA.out.1
    have hown4 : nv4.ownBlock ≠ some wr.heap.size := fun e => by
     rcases hk4.2.2.2 _ e with e2 | e2
     ·exact KA.out.2.1 e2
     ·have := blk_lt KA.out.1; omega
    have hl2 : (q.1 ++ G2 q.1.length).length + (G (q.1 ++ G2 q.1.length).length).length ≤ 1000 := by rw [List.length_append]; exact hl1.2
    have CB := hidOf2 (P4.out.adds (t := ⟨(T, y), R, G⟩) HDO.out hl2)
    simp only [List.length_append] at CB
    obtain ⟨a2, ha2⟩ : ∃ a2 : Int, a2 = ((q.1.length + (G2 q.1.length).length + (G (q.1.length + (G2 q.1.length).length)).length : Nat) : Int) - 1 := ⟨_, rfl⟩
    rw [← ha2] at CB
    have HA2 := hidOf2 ha2
    have KB4 := hidOf2 (And.intro B4 (And.intro hown4 KA.out.2.2))
    obtain ⟨n0, n1, n2⟩ := tcells3 B4
    clear hp4 hk4 CA PA KA hWA B4 c0 c1 c2 m0 m1 m2 hown4 ha2 HDO hl2
    go_wp2_with fail
    refine CB.out.mono ?_
    rintro e w5 ⟨nv5, rfl, hp5, hk5⟩
    have P5 := hidOf2 hp5
    have B5 : w5.heap[wr.heap.size]? = some (.cells #[.int .i64 (when : Int), .iface T2 y2, .iface T y] 104 (0, 0)) := (hk5.2.2.1 _ (blk_lt KB4.out.1) (by have := KB4.out.2.2; omega) KB4.out.2.1).trans KB4.out.1
    obtain ⟨m0, m1, m2⟩ := tcells3 B5
    clear hp5 hk5 CB P4 KB4 B5 n0 n1 n2
    have hs5 := P5.out.wr.sz
    have HRO := hidOf2 (And.intro P5.out.row hrl)
    clear hrl
    go_wp2_with (at_builtin; go_must (refine HRO.out.1.pushR rfl _ _ rfl rfl ⟨(when : Int), a1, a2⟩ _ rfl rfl ?hl ?hb ?_))
    case hl => have h1 := HRO.out.2; omega
    case hb => exact hs5
    intro q6 cap6 w6 hrow hqq hq2 hsz2 hen hblk
    have HF6 : Hid (Pw w w6 nv5 (.slice (some ⟨q6, 0, none⟩) (q.2.length + 1) cap6) (Fl.prog ((us.map Ru.plain).take (i + 1)))) := by
     have own := P5.out.wr.xb
     show Pw _ _ _ _ _
     rw [HPT.out, show Fl.one q (Ru.plain ⟨when, some ⟨(T2, y2), R2, G2⟩, ⟨(T, y), R, G⟩⟩) = (q.1 ++ G2 q.1.length ++ G (q.1.length + (G2 q.1.length).length), q.2 ++ [⟨(when : Int), a1, a2⟩]) by rw [HA1.out, HA2.out]; rfl]
     have hlow : Below w.heap.size w w6 := P5.out.low.trans ⟨hen.1, hen.2.1, hen.2.2, hsz2, fun k hk => hblk k (by omega) (fun e => by have := (own k (.inr e)).1; omega)⟩
     exact ⟨P5.out.wr.poke hsz2 hblk (fun q e => by
       obtain rfl : q6 = q := by simpa [Value.ownBlock] using e
       exact ⟨hqq, hq2⟩), hrow, (hblk _ (blk_lt P5.out.res) (fun e => by have := (own _ (.inr e)).1; omega)).trans P5.out.res, hlow⟩
    clear hrow hqq hq2 hsz2 hen hblk P5 HPT HRO hs5
    go_wp2
    go_roundw
    case rel => exact ⟨i + 1, nv5, _, rfl, by go_num, by omega, HF6⟩
    case measure => simp [intOf]; omega
  ·obtain rfl : i = n := by omega
   have dq : ¬ ((i : Int) < (i : Int)) := by omega
   have htk : (us.map Ru.plain).take i = us.map Ru.plain := by
    apply List.take_of_length_le
    rw [List.length_map, HN.out]
    exact Nat.le_refl _
   rw [htk, ← HQ.out] at HP
   have c0 := (wcell HP.out.wr.wr).1
   obtain ⟨k0, k1⟩ := tcells2 HP.out.res
   have f0 := blk_free HP.out.res 0
   have f1 := blk_free HP.out.res 1
   have HPP := hidOf2 HP.out
   obtain ⟨na, nc, hna⟩ : ∃ na nc, nv = .slice na Q.1.length nc := by
    obtain ⟨cs, hn, -⟩ := HP.out.wr.np
    rcases hn.2 with ⟨rfl, h0⟩ | ⟨b, cp, cur, rfl, -⟩
    ·exact ⟨none, 0, by rw [h0]⟩
    ·exact ⟨_, _, rfl⟩
   obtain ⟨ua, uc, hua⟩ : ∃ ua uc, u = .slice ua Q.2.length uc := by
    rcases HP.out.row.2 with ⟨rfl, h0⟩ | ⟨b, cp, cur, rfl, -⟩
    ·exact ⟨none, 0, by rw [h0]⟩
    ·exact ⟨_, _, rfl⟩
   subst hna hua
   clear HAT HTR HLEN htk HP
   go_wp2_with fail
   refine bodyPost_ret (results_cell_row (p := 2) (ty := 25) rfl _ _ w.heap.size 25 _ (0, 0) _ rfl (blk_set (blk_set HPP.out.res 0 _) 1 _) Tryz.underlying25 rfl (by kernel_rfl)) rfl ?_
   have hk : ∀ k, k ≠ w.heap.size → ((wr.setCell ⟨w.heap.size, 0, none⟩ (.slice na Q.1.length nc)).setCell ⟨w.heap.size, 1, none⟩ (.slice ua Q.2.length uc)).heap[k]? = wr.heap[k]? := fun k hk => by
    rw [Below.heap_setCell _ _ _ _ (by show k ≠ w.heap.size; exact hk), Below.heap_setCell _ _ _ _ (by show k ≠ w.heap.size; exact hk)]
   refine ⟨_, _, rfl, HPP.out.wr.nq.other (a := w.heap.size) (by omega) (fun i z e => ?_) (by simp [World.setCell]) hk, HPP.out.row.keep (fun x e => hk x (by have := (HPP.out.wr.xb x (.inr e)).1; omega)), fun x e e2 => (HPP.out.wr.xb x (.inr e)).2.2 e2, (HPP.out.low.setCell (by show _ ≤ w.heap.size; omega) _).setCell (by show _ ≤ w.heap.size; omega) _⟩
   rw [blk_cell HPP.out.res] at e
   match i, e with
   | 0, e => simp at e
   | 1, e => simp at e
   | i + 2, e => simp at e
end Go.Proofs.YtkfkbdgfnopokaaGreatDoor
