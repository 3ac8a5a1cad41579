/- One of the numbers of a list that is laid for the draw: some number of that list. The drawn patterns that are bent. -/
import Derived.Test.YtlnmbahakdmkgaaZbf
import Derived.Test.YtlnmbahakdmkgaaZae
import Derived.Test.YtlnmbahakdmkgaaZbd
import Derived.Test.YtlnmbahakdmkgaaZbl
import Derived.Test.YtlnmbahakdmkgaaZbg
namespace Go.Proofs.Ytlnmbahakdmkgaa
section PartDPk
open Go.RowKit

set_option maxHeartbeats 1000000 in
set_option maxRecDepth 100000 in
/-- One of the numbers of a list. -/
theorem pick_any (B g n cap : Nat) (ad : Option Addr) (q m : Nat) (zs : List Int) (w : World) (hd : Drw B w g ad n cap) (hq : q ≠ g) (hm : 0 < m) (hm2 : m ≤ 4294967296) (hl : zs.length = m)
    (hz : ∀ j, j < m → w.cell? ⟨q, j, none⟩ = some (.int .i64 (zs.getD j 0))) :
    Calls Try.prog 60 #[.pointer (some ⟨g, 0, none⟩), .slice (some ⟨q, 0, none⟩) m m] w fun e w' => ∃ z : Int, z ∈ zs ∧ e = .returned (.int .i64 z) ∧ Drw B w' g ad n cap ∧ w.grownBy w' (some g) := by
  have HD : Hid (Drw B w g ad n cap) := hd
  have HZ : Hid (∀ j, j < m → w.cell? ⟨q, j, none⟩ = some (.int .i64 (zs.getD j 0))) := hz
  clear hd hz
  go_enter Try.func60, Try.ntmps60
  go_wp2_with fail
  refine (below_any B g n cap ad m w HD.out hm hm2).mono ?_
  rintro e w1 ⟨x, hx, rfl, d1, g1⟩
  have D1 : Hid (Drw B w1 g ad n cap) := d1
  have G1 : Hid (w.grownBy w1 (some g)) := g1
  have hc1 : w1.cell? ⟨q, x, none⟩ = some (.int .i64 (zs.getD x 0)) := g1.cell (HZ.out x hx) (by intro e; apply hq; simpa using e)
  clear d1 g1
  have hx2 : (x : Int) < (m : Int) := by omega
  have HMEM : Hid (zs.getD x 0 ∈ zs) := by
    show _ ∈ _
    rw [List.getD_eq_getElem?_getD, List.getElem?_eq_getElem (by omega)]
    exact List.getElem_mem _
  generalize zs.getD x 0 = z at *
  go_wp2
  go_ret
  exact ⟨z, HMEM.out, rfl, D1.out, G1.out⟩

/-- The same, of a list that was just laid. -/
theorem pickI_any (B g n cap : Nat) (ad : Option Addr) (zs : List Int) (w : World) (hd : Drw B w g ad n cap) (hB : B ≤ w.heap.size) (hm : 0 < zs.length) (hm2 : zs.length ≤ 4294967296) :
    Calls Try.prog 60 #[.pointer (some ⟨g, 0, none⟩), .slice (some ⟨w.heap.size, 0, none⟩) zs.length zs.length] (w.alloc (.cells (zs.map (Value.int .i64)).toArray 3))
      fun e w' => ∃ z : Int, z ∈ zs ∧ e = .returned (.int .i64 z) ∧ Drw B w' g ad n cap ∧ w.grownBy w' (some g) := by
  have hl := hd.low
  have hb : Below B w (w.alloc (.cells (zs.map (Value.int .i64)).toArray 3)) := (Below.refl _ _).alloc hB _
  have hc : ∀ j, j < zs.length → (w.alloc (.cells (zs.map (Value.int .i64)).toArray 3)).cell? ⟨w.heap.size, j, none⟩ = some (.int .i64 (zs.getD j 0)) := by
    intro j hj
    rw [cell_of_row _ w.heap.size j _ 3 (0, 0) (heap_alloc_new w _)]
    simp [hj]
  refine (pick_any B g n cap ad w.heap.size zs.length zs _ (hd.keep hb) (by omega) hm hm2 rfl hc).mono ?_
  rintro e w' ⟨z, h1, h2, h3, h4⟩
  exact ⟨z, h1, h2, h3, grown_trans (World.grownBy_alloc w _ _) h4⟩
end PartDPk
section PartFnB
open Go.RowKit

theorem KidsAt.grown {w w' : World} {kv : Value} {ks : List Int} {row : Option Nat} (h : KidsAt w kv ks) (hg : w.grownBy w' row) (hne : ∀ q, kv.ownBlock = some q → some q ≠ row) : KidsAt w' kv ks := by
  obtain ⟨ka, kc, rfl, f⟩ := h
  refine ⟨ka, kc, rfl, fun h0 => ?_⟩
  obtain ⟨b, o, rfl, hl, hc⟩ := f h0
  exact ⟨b, o, rfl, Nat.lt_of_lt_of_le hl hg.size, fun i hi => hg.cell (a := ⟨b, o + i, none⟩) (hc i hi) (hne b rfl)⟩
theorem KidsAt.form {w : World} {kv : Value} {ks : List Int} (h : KidsAt w kv ks) : ∃ a l c, kv = .slice a l c := by
  obtain ⟨a, c, rfl, _⟩ := h
  exact ⟨a, _, c, rfl⟩
/-- Cells of n pieces, whatever they hold; no kids lie in block g, nor below M. -/
def Cs (M : Nat) (w : World) (g n : Nat) (cs : List Value) : Prop := ∀ i, i < n → ∃ (op : Int) (t : ByteArray) (ks : List Int) (kv : Value), cs[i * 3]? = some (.int .i64 op) ∧ cs[i * 3 + 1]? = some (.string t) ∧ cs[i * 3 + 2]? = some kv ∧ KidsAt w kv ks ∧ ks.length ≤ 1048576 ∧ t.size ≤ 1048576 ∧ ∀ q, kv.ownBlock = some q → q ≠ g ∧ M ≤ q
theorem Cs.grown {M : Nat} {w w' : World} {g n r : Nat} {cs : List Value} (h : Cs M w g n cs) (hg : w.grownBy w' (some r)) (hr : r = g ∨ r < M) : Cs M w' g n cs := by
  intro i hi
  obtain ⟨op, t, ks, kv, h1, h2, h3, h4, h5, h6, h7⟩ := h i hi
  refine ⟨op, t, ks, kv, h1, h2, h3, h4.grown hg fun q hq e => ?_, h5, h6, h7⟩
  obtain ⟨k1, k2⟩ := h7 q hq
  have : q = r := by simpa using e
  omega
theorem Cs.up {M : Nat} {w w' : World} {g n : Nat} {cs : List Value} (h : Cs M w g n cs) (hb : Below w.heap.size w w') : Cs M w' g n cs := by
  intro i hi
  obtain ⟨op, t, ks, kv, h1, h2, h3, h4, rest⟩ := h i hi
  exact ⟨op, t, ks, kv, h1, h2, h3, h4.keep hb, rest⟩
theorem Cs.setOp {M : Nat} {w : World} {g n : Nat} {cs : List Value} (h : Cs M w g n cs) (hl : cs.length = n * 3) (k : Nat) (hk : k < n) (op : Int) : Cs M w g n (cs.set (k * 3) (.int .i64 op)) := by
  intro i hi
  obtain ⟨op', t, ks, kv, h1, h2, h3, rest⟩ := h i hi
  by_cases e : k = i
  · subst e
    exact ⟨op, t, ks, kv, by rw [List.getElem?_set]; simp; omega, by rw [List.getElem?_set, if_neg (by omega)]; exact h2, by rw [List.getElem?_set, if_neg (by omega)]; exact h3, rest⟩
  · exact ⟨op', t, ks, kv, by rw [List.getElem?_set, if_neg (by omega)]; exact h1, by rw [List.getElem?_set, if_neg (by omega)]; exact h2, by rw [List.getElem?_set, if_neg (by omega)]; exact h3, rest⟩
theorem Cs.setText {M : Nat} {w : World} {g n : Nat} {cs : List Value} (h : Cs M w g n cs) (hl : cs.length = n * 3) (k : Nat) (hk : k < n) (t : ByteArray) (ht : t.size ≤ 1048576) : Cs M w g n (cs.set (k * 3 + 1) (.string t)) := by
  intro i hi
  obtain ⟨op', t', ks, kv, h1, h2, h3, h4, h5, h6, h7⟩ := h i hi
  by_cases e : k = i
  · subst e
    exact ⟨op', t, ks, kv, by rw [List.getElem?_set, if_neg (by omega)]; exact h1, by rw [List.getElem?_set]; simp; omega, by rw [List.getElem?_set, if_neg (by omega)]; exact h3, h4, h5, ht, h7⟩
  · exact ⟨op', t', ks, kv, by rw [List.getElem?_set, if_neg (by omega)]; exact h1, by rw [List.getElem?_set, if_neg (by omega)]; exact h2, by rw [List.getElem?_set, if_neg (by omega)]; exact h3, h4, h5, h6, h7⟩
theorem Cs.setKids {M : Nat} {w : World} {g n : Nat} {cs : List Value} (h : Cs M w g n cs) (hl : cs.length = n * 3) (k : Nat) (hk : k < n) (kv : Value) (ks : List Int) (hkv : KidsAt w kv ks) (hks : ks.length ≤ 1048576) (hq : ∀ q, kv.ownBlock = some q → q ≠ g ∧ M ≤ q) : Cs M w g n (cs.set (k * 3 + 2) kv) := by
  intro i hi
  obtain ⟨op', t', ks', kv', h1, h2, h3, h4, h5, h6, h7⟩ := h i hi
  by_cases e : k = i
  · subst e
    exact ⟨op', t', ks, kv, by rw [List.getElem?_set, if_neg (by omega)]; exact h1, by rw [List.getElem?_set, if_neg (by omega)]; exact h2, by rw [List.getElem?_set]; simp; omega, hkv, hks, h6, hq⟩
  · exact ⟨op', t', ks', kv', by rw [List.getElem?_set, if_neg (by omega)]; exact h1, by rw [List.getElem?_set, if_neg (by omega)]; exact h2, by rw [List.getElem?_set, if_neg (by omega)]; exact h3, h4, h5, h6, h7⟩
theorem Cs.pcs {M B : Nat} {w : World} {g n cap : Nat} {cs : List Value} (h : Cs M w g n cs) (hp : PR B w (.slice (some ⟨g, 0, none⟩) n cap) n cs) : ∃ ps : List Pi, PcsAt w (.slice (some ⟨g, 0, none⟩) n cap) ps ∧ ps.length = n ∧ Small ps ps.length := by
  have key : ∀ i, ∃ p : Pi, i < n → PieceAt w g (0 + i * 3) p ∧ p.kids.length ≤ 1048576 ∧ p.text.size ≤ 1048576 := by
    intro i
    by_cases hi : i < n
    · obtain ⟨op, t, ks, kv, h1, h2, h3, h4, h5, h6, h7⟩ := h i hi
      refine ⟨⟨op, t, ks⟩, fun _ => ⟨⟨kv, ?_, ?_, ?_, h4⟩, h5, h6⟩⟩
      · rw [Nat.zero_add, World.ownsRow.cellAt hp (i * 3) (by omega)]; exact h1
      · rw [Nat.zero_add, World.ownsRow.cellAt hp (i * 3 + 1) (by omega)]; exact h2
      · rw [Nat.zero_add, World.ownsRow.cellAt hp (i * 3 + 2) (by omega)]; exact h3
    · exact ⟨Pi.no, fun h => absurd h hi⟩
  obtain ⟨f, hf⟩ := Classical.axiomOfChoice key
  have hget : ∀ i, i < n → ((List.range n).map f).getD i Pi.no = f i := fun i hi => by simp [hi]
  refine ⟨(List.range n).map f, ⟨_, cap, by simp, fun _ => ⟨g, 0, rfl, (World.ownsRow.lt hp g rfl).2, fun i hi => ?_⟩⟩, by simp, fun i hi => ?_⟩
  · have hi2 : i < n := by simpa using hi
    rw [hget i hi2]
    exact (hf i hi2).1
  · have hi2 : i < n := by simpa using hi
    rw [hget i hi2]
    exact (hf i hi2).2
/-- The pieces, whatever happens to memory below M. -/
def PcsUp (M : Nat) (w : World) (v : Value) (ps : List Pi) : Prop := ∀ w' : World, (∀ k, M ≤ k → k < w.heap.size → w'.heap[k]? = w.heap[k]?) → w.heap.size ≤ w'.heap.size → PcsAt w' v ps
theorem KidsAt.keepM {M : Nat} {w w' : World} {kv : Value} {ks : List Int} (h : KidsAt w kv ks) (hq : ∀ q, kv.ownBlock = some q → M ≤ q) (hb : ∀ k, M ≤ k → k < w.heap.size → w'.heap[k]? = w.heap[k]?) (hs : w.heap.size ≤ w'.heap.size) : KidsAt w' kv ks := by
  obtain ⟨ka, kc, rfl, f⟩ := h
  refine ⟨ka, kc, rfl, fun h0 => ?_⟩
  obtain ⟨b, o, rfl, hl, hc⟩ := f h0
  exact ⟨b, o, rfl, Nat.lt_of_lt_of_le hl hs, fun i hi => (World.cell?_of_block (a := ⟨b, o + i, none⟩) (hb b (hq b rfl) hl)).trans (hc i hi)⟩
theorem Cs.pcsUp {M : Nat} {w : World} {g n cap : Nat} {cs : List Value} (h : Cs M w g n cs) (hp : PR M w (.slice (some ⟨g, 0, none⟩) n cap) n cs) : ∃ ps : List Pi, PcsUp M w (.slice (some ⟨g, 0, none⟩) n cap) ps ∧ ps.length = n ∧ Small ps ps.length := by
  obtain ⟨hg1, hg2⟩ := World.ownsRow.lt hp g rfl
  have key : ∀ i, ∃ p : Pi, i < n → (∀ w' : World, (∀ k, M ≤ k → k < w.heap.size → w'.heap[k]? = w.heap[k]?) → w.heap.size ≤ w'.heap.size → PieceAt w' g (0 + i * 3) p) ∧ p.kids.length ≤ 1048576 ∧ p.text.size ≤ 1048576 := by
    intro i
    by_cases hi : i < n
    · obtain ⟨op, t, ks, kv, h1, h2, h3, h4, h5, h6, h7⟩ := h i hi
      refine ⟨⟨op, t, ks⟩, fun _ => ⟨fun w' hb hs => ⟨kv, ?_, ?_, ?_, h4.keepM (fun q hq => (h7 q hq).2) hb hs⟩, h5, h6⟩⟩
      · rw [Nat.zero_add, World.cell?_of_block (hb g hg1 hg2), World.ownsRow.cellAt hp (i * 3) (by omega)]; exact h1
      · rw [Nat.zero_add, World.cell?_of_block (hb g hg1 hg2), World.ownsRow.cellAt hp (i * 3 + 1) (by omega)]; exact h2
      · rw [Nat.zero_add, World.cell?_of_block (hb g hg1 hg2), World.ownsRow.cellAt hp (i * 3 + 2) (by omega)]; exact h3
    · exact ⟨Pi.no, fun h => absurd h hi⟩
  obtain ⟨f, hf⟩ := Classical.axiomOfChoice key
  have hget : ∀ i, i < n → ((List.range n).map f).getD i Pi.no = f i := fun i hi => by simp [hi]
  refine ⟨(List.range n).map f, fun w' hb hs => ⟨_, cap, by simp, fun _ => ⟨g, 0, rfl, Nat.lt_of_lt_of_le hg2 hs, fun i hi => ?_⟩⟩, by simp, fun i hi => ?_⟩
  · have hi2 : i < n := by simpa using hi
    rw [hget i hi2]
    exact (hf i hi2).1 w' hb hs
  · have hi2 : i < n := by simpa using hi
    rw [hget i hi2]
    exact (hf i hi2).2
/-- The cells of a pattern that is read. -/
theorem RP.cs {B : Nat} {w : World} {v : Value} {ps : List Pp.Pc} (h : RP B w v ps) (hr : Pp.right ps = true) (h0 : 0 < ps.length) (G : Nat) (hG : w.heap.size ≤ G) : ∃ r c cs, v = .slice (some ⟨r, 0, none⟩) ps.length c ∧ PR B w v ps.length cs ∧ Cs B w G ps.length cs ∧ ∀ u ∈ cs, u.oneCell' = true := by
  have hsm := right_small hr
  obtain ⟨Q, cs, hp, hc, hm⟩ := h
  obtain ⟨r, c, rfl, hr, arr, ha, hs⟩ := RP.blk hp h0
  have key : Cs B w G ps.length cs := by
    intro i hi
    obtain ⟨h1, h2, h3, h4⟩ := hc i hi
    have hmem : ps.getD i Pp.no ∈ ps := by
      rw [List.getD_eq_getElem?_getD, List.getElem?_eq_getElem hi]
      exact List.getElem_mem _
    obtain ⟨k1, k2⟩ := hsm _ hmem
    refine ⟨_, _, (ps.getD i Pp.no).kids.map Int.ofNat, _, h1, h2, h3, ?_, by simpa using k1, by rw [show (⟨(ps.getD i Pp.no).text.toArray⟩ : ByteArray).size = (ps.getD i Pp.no).text.length by show (ps.getD i Pp.no).text.toArray.size = _; simp]; exact k2, ?_⟩
    · unfold kvOf
      by_cases he : (ps.getD i Pp.no).kids = []
      · rw [if_pos he, he]
        exact ⟨none, 0, rfl, fun h => by simp at h⟩
      · rw [if_neg he]
        have := (h4 he).2.2.at (ps.getD i Pp.no).kids.length
        rw [List.length_map] at this
        exact this
    · intro q hq
      unfold kvOf at hq
      by_cases he : (ps.getD i Pp.no).kids = []
      · rw [if_pos he] at hq
        cases hq
      · rw [if_neg he] at hq
        have e : Q i = q := by simpa [Value.ownBlock] using hq
        obtain ⟨k3, -, k4⟩ := h4 he
        have hlt : Q i < w.heap.size := blk_lt k4
        exact ⟨by omega, by omega⟩
  refine ⟨r, c, cs, rfl, hp, key, fun u hu => ?_⟩
  obtain ⟨j, hj, rfl⟩ := List.mem_iff_getElem.1 hu
  have hl : cs.length = ps.length * 3 := hp.1
  obtain ⟨op, t, ks, kv, h1, h2, h3, h4, -⟩ := key (j / 3) (by omega)
  obtain ⟨a, l, c', rfl⟩ := h4.form
  have e : cs[j]? = some cs[j] := List.getElem?_eq_getElem hj
  have hj3 : j = j / 3 * 3 ∨ j = j / 3 * 3 + 1 ∨ j = j / 3 * 3 + 2 := by omega
  rcases hj3 with hj3 | hj3 | hj3
  · rw [← hj3] at h1; rw [e] at h1; rw [Option.some.inj h1]; rfl
  · rw [← hj3] at h2; rw [e] at h2; rw [Option.some.inj h2]; rfl
  · rw [← hj3] at h3; rw [e] at h3; rw [Option.some.inj h3]; rfl

theorem res_one {fn : Func} {p : Tmp} (h : fn.results = #[.cell p 30]) (tmps : Array Value) (w : World) (g : Nat) (v : Value) (hp : tmps.getD p undef = .pointer (some ⟨g, 0, none⟩)) (hg : w.heap[g]? = some (.cells #[v] 30 (0, 0))) :
    (results fn tmps).run Try.prog w = .ok (.agg #[v]) w := by
  have e : (results fn tmps).run Try.prog w = ((asAddr (tmps.getD p undef)).run Try.prog w).andThen fun a w₁ => (loadVar 30 a).run Try.prog w₁ := by
    simp only [results, h]
    simp [Sem.run_bind, Result.andThen]
  rw [e, hp]
  simp only [asAddr, Sem.run_pure, Result.andThen_ok, run_loadVar_row w g 30 30 #[v] (0, 0) _ hg Try.underlying30 rfl (by kernel_rfl)]

set_option maxHeartbeats 1000000 in
set_option maxRecDepth 100000 in
theorem l04Pattern_any (B g n cap : Nat) (ad : Option Addr) (w : World) (hd : Drw B w g ad n cap) (hB : B ≤ w.heap.size) :
    Calls Try.prog 59 #[.pointer (some ⟨g, 0, none⟩)] w fun e w' => ∃ (v : Value) (ps : List Pp.Pc), e = .returned (.agg #[v]) ∧ RP w.heap.size w' v ps ∧ Pp.right ps = true ∧ 0 < ps.length ∧ ps.length ≤ 60 ∧ Drw B w' g ad n cap ∧ w.grownBy w' (some g) := by
  have HD : Hid (Drw B w g ad n cap) := hd
  clear hd
  go_enter Try.func59, Try.ntmps59
  go_wp2_with fail
  have hb0 : Below w.heap.size w (w.alloc (.cells #[.slice none 0 0] 30)) := (Below.refl _ _).alloc (Nat.le_refl _) _
  have hc0 : (w.alloc (.cells #[.slice none 0 0] 30)).heap[w.heap.size]? = some (.cells #[.slice none 0 0] 30 (0, 0)) := heap_alloc_new w _
  have hs0 : (w.alloc (.cells #[.slice none 0 0] 30)).heap.size = w.heap.size + 1 := by simp
  have D0 : Hid (Drw B (w.alloc (.cells #[.slice none 0 0] 30)) g ad n cap) := HD.out.keep (hb0.mono hB)
  have hgl : g < w.heap.size := HD.out.lt
  refine (l04Text_any B g n cap ad _ D0.out (by omega)).mono ?_
  rintro e w1 ⟨t, ht, rfl, d1, g1⟩
  have hc1 : w1.heap[w.heap.size]? = some (.cells #[.slice none 0 0] 30 (0, 0)) := (g1.block w.heap.size (by omega) (by simp; omega)).trans hc0
  replace g1 : w.grownBy w1 (some g) := grown_trans ⟨hb0.os, hb0.tape, hb0.output, hb0.size, fun k hk _ => hb0.block k hk⟩ g1
  obtain ⟨p, hp, hr, h0⟩ := oneT_of (okOne_all t ht)
  have lt := texts04_len t ht
  have CR : Hid (Calls Try.prog 35 #[.string ⟨t.toArray⟩] w1 fun e w' => Below w1.heap.size w1 w' ∧ ∃ v, e = .returned (.tuple #[.agg #[v], .bool true]) ∧ RP w1.heap.size w' v p ∧ 0 < p.length ∧ p.length ≤ 60) := by
    refine (specRead_any ⟨t.toArray⟩ w1 (by rw [lst_size]; omega)).mono ?_
    rintro e w' ⟨h1, h2⟩
    rw [show (⟨t.toArray⟩ : ByteArray).data.toList = t by simp, hp] at h2
    exact ⟨h1, h2⟩
  have D1 : Hid (Drw B w1 g ad n cap) := d1
  have G1 : Hid (w.grownBy w1 (some g)) := g1
  have HR : Hid (Pp.right p = true) := hr
  have s1 := g1.size
  have hs1 : w.heap.size < w1.heap.size := blk_lt hc1
  clear d1 g1 hr hp h0 ht D0 hc0 hb0
  generalize (⟨t.toArray⟩ : ByteArray) = tb at *
  go_wp2_with fail
  refine CR.out.mono ?_
  rintro e w2 ⟨b2, v, rfl, v1, v2, v3⟩
  have D2 : Hid (Drw B w2 g ad n cap) := D1.out.keep (b2.mono (by omega))
  have G2 : Hid (w.grownBy w2 (some g)) := grown_trans G1.out ⟨b2.os, b2.tape, b2.output, b2.size, fun k hk _ => b2.block k hk⟩
  have HP : Hid (RP (w.heap.size + 1) w2 v p) := v1.lower hs1
  obtain ⟨va, vn, vc, rfl⟩ := v1.form
  have s2 := b2.size
  have hc2 : w2.heap[w.heap.size]? = some (.cells #[.slice none 0 0] 30 (0, 0)) := (b2.block _ hs1).trans hc1
  have hs2 : w.heap.size < w2.heap.size := blk_lt hc2
  clear v1 b2 CR D1 G1 hc1
  have x0 : w2.cell? ⟨w.heap.size, 0, none⟩ = some (.slice none 0 0) := by rw [blk_cell hc2]; rfl
  have y0 : w2.frozen? ⟨w.heap.size, 0, none⟩ = false := blk_free hc2 0
  have HSET : Hid (Below w.heap.size w2 ((w2.setCell ⟨w.heap.size, 0, none⟩ (.slice va vn vc)).alloc (.cells #[.slice va vn vc] 30))) := ((Below.refl _ _).setCell (by exact Nat.le_refl _) _).alloc (by simp [World.setCell]; omega) _
  have HRS : Hid (((w2.setCell ⟨w.heap.size, 0, none⟩ (.slice va vn vc)).alloc (.cells #[.slice va vn vc] 30)).heap[w.heap.size]? = some (.cells #[.slice va vn vc] 30 (0, 0))) := by
    have e := ((Below.refl (w2.setCell ⟨w.heap.size, 0, none⟩ (.slice va vn vc)).heap.size (w2.setCell ⟨w.heap.size, 0, none⟩ (.slice va vn vc))).alloc (Nat.le_refl _) (.cells #[.slice va vn vc] 30)).block w.heap.size (by simp [World.setCell]; omega)
    exact e.trans (blk_set hc2 0 (.slice va vn vc))
  have HRP : Hid (RP (w.heap.size + 1) ((w2.setCell ⟨w.heap.size, 0, none⟩ (.slice va vn vc)).alloc (.cells #[.slice va vn vc] 30)) (.slice va vn vc) p) := (RP.setg HP.out (by omega) 0 _).up ((Below.refl _ _).alloc (Nat.le_refl _) _)
  clear HP
  go_wp2_with fail
  refine bodyPost_ret (res_one rfl _ _ w.heap.size (.slice va vn vc) rfl HRS.out) rfl ?_
  refine ⟨_, p, rfl, HRP.out.lower (by omega), HR.out, v2, v3, D2.out.keep (HSET.out.mono hB), ?_⟩
  refine ⟨HSET.out.os.trans G2.out.os, HSET.out.tape.trans G2.out.tape, HSET.out.output.trans G2.out.output, Nat.le_trans G2.out.size HSET.out.size, fun k hk hne => (HSET.out.block k hk).trans (G2.out.block k hk hne)⟩
end PartFnB
end Go.Proofs.Ytlnmbahakdmkgaa
