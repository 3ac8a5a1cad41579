/- What the laws on drawn patterns call. -/
import Derived.Test.YtibmagmdeacenacEnA
import Derived.Test.YtibmagmdeacenacRcC
import Derived.Test.YtibmagmdeacenacFnP
import Derived.Test.YtibmagmdeacenacIpO
import Derived.Test.YtibmagmdeacenacFnL
import Derived.Test.YtibmagmdeacenacRiG
namespace Go.Proofs.Ytibmagmdeacenac
section PartFnI
open Go.RowKit

/-- A row of numbers that is read alone. -/
def LAt (w : World) (y : Value) (l : List Nat) : Prop := ∃ ad cap, y = .slice ad l.length cap ∧ (0 < l.length → ∃ g, ad = some ⟨g, 0, none⟩ ∧ g < w.heap.size ∧ ∀ j, j < l.length → w.cell? ⟨g, j, none⟩ = some (.int .i64 ((l.getD j 0 : Nat) : Int)))
theorem LAt.keep {w w' : World} {y : Value} {l : List Nat} (h : LAt w y l) (hb : Below w.heap.size w w') : LAt w' y l := by
  obtain ⟨ad, cap, rfl, f⟩ := h
  refine ⟨ad, cap, rfl, fun h0 => ?_⟩
  obtain ⟨g, rfl, hg, hc⟩ := f h0
  exact ⟨g, rfl, Nat.lt_of_lt_of_le hg hb.size, fun j hj => (hb.cell (p := ⟨g, j, none⟩) hg).trans (hc j hj)⟩
theorem Ws.lat {B : Nat} {w : World} {y : Value} {l : List Nat} (h : Ws B w y l) : LAt w y l := by
  by_cases h0 : 0 < l.length
  · obtain ⟨g, cap, rfl, _, h2, h3⟩ := h.form h0
    exact ⟨_, cap, rfl, fun _ => ⟨g, rfl, h2, h3⟩⟩
  · rcases h.2 with ⟨rfl, hn⟩ | ⟨g, cap, cur, rfl, _⟩
    · exact ⟨none, 0, by rw [show l.length = 0 by omega], fun h => absurd h h0⟩
    · exact ⟨_, cap, rfl, fun h => absurd h h0⟩

end PartFnI
section PartFnQ
open Go.RowKit

theorem RP.blk {B : Nat} {w : World} {v : Value} {ps : List Pp.Pc} {cs : List Value} (hp : PR B w v ps.length cs) (h0 : 0 < ps.length) : ∃ r c, v = .slice (some ⟨r, 0, none⟩) ps.length c ∧ B ≤ r ∧ ∃ arr : Array Value, w.heap[r]? = some (.cells arr 69 (0, 0)) ∧ ps.length * 3 ≤ arr.size := by
  rcases hp.2 with ⟨_, hn⟩ | ⟨g, cap, cur, rfl, h1, hg, h3, h4, h5, htake⟩
  · omega
  · refine ⟨g, cap, rfl, h1, cur, hg, ?_⟩
    have e1 : cs.length = ps.length * 3 := hp.1
    have e2 := congrArg List.length htake
    simp at e2
    omega
theorem RP.pcs {B : Nat} {w : World} {v : Value} {ps : List Pp.Pc} (h : RP B w v ps) (h0 : 0 < ps.length) : PcsAt w v (ps.map tp) := by
  obtain ⟨Q, cs, hp, hc, hm⟩ := h
  obtain ⟨r, c, rfl, hr, arr, ha, hs⟩ := RP.blk hp h0
  refine ⟨_, c, by simp, fun _ => ⟨r, 0, rfl, blk_lt ha, fun i hi => ?_⟩⟩
  have hi2 : i < ps.length := by simpa using hi
  have hg : (ps.map tp).getD i Pi.no = tp (ps.getD i Pp.no) := by simp [hi2]
  rw [hg]
  obtain ⟨h1, h2, h3, h4⟩ := hc i hi2
  refine ⟨kvOf (Q i) (ps.getD i Pp.no).kids, ?_, ?_, ?_, ?_⟩
  · rw [Nat.zero_add, World.ownsRow.cellAt hp (i * 3) (by omega)]; exact h1
  · rw [Nat.zero_add, World.ownsRow.cellAt hp (i * 3 + 1) (by omega)]; exact h2
  · rw [Nat.zero_add, World.ownsRow.cellAt hp (i * 3 + 2) (by omega)]; exact h3
  · unfold kvOf
    by_cases he : (ps.getD i Pp.no).kids = []
    · rw [if_pos he]
      show KidsAt w _ ((ps.getD i Pp.no).kids.map Int.ofNat)
      rw [he]
      exact ⟨none, 0, rfl, fun h => by simp at h⟩
    · rw [if_neg he]
      show KidsAt w _ ((ps.getD i Pp.no).kids.map Int.ofNat)
      have := (h4 he).2.2.at (ps.getD i Pp.no).kids.length
      rw [List.length_map] at this
      exact this
theorem right_pat {p : List Pp.Pc} (hr : Pp.right p = true) (h0 : 0 < p.length) (h60 : p.length ≤ 60) : Pk.pat (p.map tp) = true := by
  unfold Pk.pat
  rw [List.length_map]
  simp only [Bool.and_eq_true, decide_eq_true_eq]
  refine ⟨by omega, ?_⟩
  unfold Pk.upto
  rw [List.all_eq_true]
  intro k hk
  rw [List.mem_range] at hk
  rw [tp_get p k hk]
  unfold Pp.right at hr
  rw [List.all_eq_true] at hr
  exact hr k (List.mem_range.2 hk)
theorem tp_small (p : List Pp.Pc) (h : ∀ x ∈ p, x.kids.length ≤ 1048576 ∧ x.text.length ≤ 1048576) : Small (p.map tp) (p.map tp).length := by
  intro i hi
  rw [List.length_map] at hi
  rw [tp_get p i hi]
  have e : p.getD i Pp.nul = p[i] := by simp [hi]
  rw [e]
  have := h p[i] (List.getElem_mem hi)
  refine ⟨by simpa [tp] using this.1, ?_⟩
  show p[i].text.toArray.size ≤ _
  simpa using this.2
theorem right_small {p : List Pp.Pc} (hr : Pp.right p = true) : ∀ x ∈ p, x.kids.length ≤ 1048576 ∧ x.text.length ≤ 1048576 := by
  intro x hx
  obtain ⟨i, hi, rfl⟩ := List.mem_iff_getElem.1 hx
  unfold Pp.right at hr
  rw [List.all_eq_true] at hr
  have h1 := hr i (List.mem_range.2 hi)
  have e : p.getD i Pp.nul = p[i] := by simp [hi]
  rw [e] at h1
  obtain ⟨k1, -, -, -, k5⟩ := Pk.piece_kids h1
  have k6 : p[i].kids.length = Pk.kw (tp p[i]).op := by simpa [tp] using k1
  have k7 : p[i].text.length ≤ 24 := by
    have : (tp p[i]).text.size = p[i].text.length := by show p[i].text.toArray.size = _; simp
    omega
  refine ⟨?_, by omega⟩
  rw [k6]
  unfold Pk.kw
  split
  · omega
  · split <;> omega
/-- What 'ends' answers of a pattern that is read. -/
noncomputable def el (p : List Pp.Pc) (s : ByteArray) (i : Nat) : List Nat := En.list (p.map tp) s (p.length - 1) i
theorem el_mem {p : List Pp.Pc} {s : ByteArray} {i j : Nat} (hi : i ≤ s.size) : j ∈ el p s i ↔ Em p s i j := by
  unfold el
  rw [En.mem_list]
  refine ⟨fun h => h.2, fun h => ⟨?_, h⟩⟩
  have := (En.Ends.le h).2 hi
  omega
theorem el_le {p : List Pp.Pc} {s : ByteArray} {i j : Nat} (h : j ∈ el p s i) : j ≤ s.size := by
  unfold el at h
  rw [En.mem_list] at h
  omega
theorem el_len (p : List Pp.Pc) (s : ByteArray) (i : Nat) : (el p s i).length ≤ s.size + 1 := by
  unfold el En.list
  exact Nat.le_trans (List.length_filter_le _ _) (by simp)

set_option maxHeartbeats 2000000 in
set_option maxRecDepth 100000 in
theorem ends_any (t s : ByteArray) (p : List Pp.Pc) (i : Nat) (w : World) (hp : Pp.read t.data.toList = some p) (hr : Pp.right p = true) (ht : t.size ≤ 1048576) (hs : s.size ≤ 1048576) (hi : i ≤ s.size) :
    Calls Try.prog 11 #[.string t, .string s, .int .i64 (i : Int)] w fun e w' => ∃ y, e = .returned y ∧ LAt w' y (el p s i) ∧ Below w.heap.size w w' := by
  have HRD : Hid (Calls Try.prog 13 #[.string t] w fun e w' => Below w.heap.size w w' ∧ ∃ v, e = .returned (.tuple #[.agg #[v], .bool true]) ∧ PcsAt w' v (p.map tp) ∧ 0 < p.length ∧ p.length ≤ 60) := by
    refine (specRead_any t w ht).mono ?_
    rintro e w' ⟨h1, h2⟩
    rw [hp] at h2
    obtain ⟨v, rfl, h3, h4, h5⟩ := h2
    exact ⟨h1, v, rfl, h3.pcs h4, h4, h5⟩
  obtain ⟨l, hl⟩ : ∃ l, l = el p s i := ⟨_, rfl⟩
  rw [← hl]
  obtain ⟨n, hn⟩ : ∃ n, n = p.length := ⟨_, rfl⟩
  have HEC : Hid (∀ v w', PcsAt w' v (p.map tp) → 0 < n → n ≤ 60 → Calls Try.prog 28 #[.agg #[v], .int .i64 ((n : Int) - 1), .string s, .int .i64 (i : Int)] w' (fun e w'' => ∃ y, e = .returned y ∧ LAt w'' y l ∧ Below w'.heap.size w' w'')) := by
    intro v w' h h0 h60
    have k := implEnds v (p.map tp) s ((n : Int) - 1) (i : Int) w' h (by simp; omega) (tp_small p (right_small hr)) hs
    have e : En.ans (p.map tp) s ((n : Int) - 1) (i : Int) = l := by
      unfold En.ans
      rw [if_pos ⟨right_pat hr (by omega) (by omega), by rw [List.length_map]; omega, by omega⟩, hl, hn]
      unfold el
      rw [Int.toNat_natCast, show ((p.length : Int) - 1).toNat = p.length - 1 by omega]
    rw [e] at k
    refine k.mono ?_
    rintro e w'' ⟨y, rfl, k1, k2⟩
    exact ⟨y, rfl, k1.lat, k2⟩
  rw [← hn] at HRD
  have HN : Hid (n = p.length) := hn
  clear hp hr hl hn
  go_enter Try.func11, Try.ntmps11
  go_wp2_with fail
  refine HRD.out.mono ?_
  rintro e w1 ⟨hb1, v, rfl, hpc, h0, h60⟩
  have HE : Hid (∀ A : Obj, Calls Try.prog 28 #[.agg #[v], .int .i64 ((n : Int) - 1), .string s, .int .i64 (i : Int)] (w1.alloc A) (fun e w'' => ∃ y, e = .returned y ∧ LAt w'' y l ∧ Below (w1.alloc A).heap.size (w1.alloc A) w'')) := fun A => HEC.out v _ (hpc.keep ((Below.refl _ _).alloc (Nat.le_refl _) _)) h0 h60
  obtain ⟨va, vc, rfl, -⟩ := hpc
  rw [List.length_map, ← HN.out] at HE ⊢
  have HB1 : Hid (Below w.heap.size w w1) := hb1
  clear hb1 HRD HEC
  go_wp2_with fail
  refine (HE.out _).mono ?_
  rintro e w2 ⟨y, rfl, y1, b2⟩
  have HY : Hid (LAt w2 y l) := y1
  have HB2 : Hid (Below w.heap.size w w2) := (HB1.out.alloc HB1.out.size _).trans (b2.mono (by have := HB1.out.size; simp; omega))
  clear y1 b2 HE HB1
  go_wp2_with fail
  go_ret
  exact ⟨y, rfl, HY.out, HB2.out⟩
end PartFnQ
section PartFnS
open Go.RowKit

/-- The program's ReadPattern of a text that is read. -/
theorem readC (t : ByteArray) (p : List Pp.Pc) (w : World) (hp : Pp.read t.data.toList = some p) (ht : t.size ≤ 1048576) :
    Calls Try.prog 8 #[.string t] w fun e w' => Below w.heap.size w w' ∧ ∃ v, e = .returned (.tuple #[.agg #[v], .bool true]) ∧ PcsAt w' v (p.map tp) ∧ 0 < p.length ∧ p.length ≤ 60 := by
  refine (implRead_any t w ht).mono ?_
  rintro e w' ⟨h1, h2⟩
  rw [hp] at h2
  obtain ⟨v, rfl, h3, h4, h5⟩ := h2
  exact ⟨h1, v, rfl, h3.pcs h4, h4, h5⟩
/-- It is right. -/
theorem okC (v : Value) (p : List Pp.Pc) (w : World) (h : PcsAt w v (p.map tp)) (hr : Pp.right p = true) (h0 : 0 < p.length) (h60 : p.length ≤ 60) :
    Calls Try.prog 15 #[.agg #[v]] w fun e w' => e = .returned (.bool true) ∧ Below w.heap.size w w' := by
  have k := implOk_any v (p.map tp) w h (by simp; omega) (tp_small p (right_small hr))
  rwa [right_pat hr h0 h60] at k
theorem app_list (a b : ByteArray) : (a ++ b).data.toList = a.data.toList ++ b.data.toList := by simp
end PartFnS
end Go.Proofs.Ytibmagmdeacenac
