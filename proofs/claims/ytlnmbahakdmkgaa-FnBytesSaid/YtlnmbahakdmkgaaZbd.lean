/- The law's own 'ends'. The cursor of a draw: what its byte answers, whatever the bytes of the draw are, and that nothing but the cursor is written. -/
import Derived.Test.YtlnmbahakdmkgaaZal
import Derived.Test.YtlnmbahakdmkgaaZaq
import Derived.Test.YtlnmbahakdmkgaaZbc
import Derived.Test.YtlnmbahakdmkgaaZae
import Derived.Test.YtlnmbahakdmkgaaZai
import Derived.BigQuiet
import Derived.Deep.QuietTactic
namespace Go.Proofs.Ytlnmbahakdmkgaa
section PartFnQ
open Go.RowKit

theorem RP.blk {B : Nat} {w : World} {v : Value} {ps : List Pp.Pc} {cs : List Value} (hp : PR B w v ps.length cs) (h0 : 0 < ps.length) : ∃ r c, v = .slice (some ⟨r, 0, none⟩) ps.length c ∧ B ≤ r ∧ ∃ arr : Array Value, w.heap[r]? = some (.cells arr 81 (0, 0)) ∧ ps.length * 3 ≤ arr.size := by
  rcases hp.2 with ⟨_, hn⟩ | ⟨g, cap, cur, rfl, h1, hg, h3, h4, h5, htake⟩
  · omega
  · refine ⟨g, cap, rfl, h1, cur, hg, ?_⟩
    have e1 : cs.length = ps.length * 3 := hp.1
    have e2 := congrArg List.length htake
    simp at e2
    omega
theorem RP.pcs {B : Nat} {w : World} {v : Value} {ps : List Pp.Pc} (h : RP B w v ps) (h0 : 0 < ps.length) : PcsAt w v (ps.map tp) := by
  obtain ⟨Q, cs, hp, hc, hm⟩ := h
  obtain ⟨r, c, rfl, hr, arr, ha, hs⟩ := RP.blk hp h0
  refine ⟨_, c, by simp, fun _ => ⟨r, 0, rfl, blk_lt ha, fun i hi => ?_⟩⟩
  have hi2 : i < ps.length := by simpa using hi
  have hg : (ps.map tp).getD i Pi.no = tp (ps.getD i Pp.no) := by simp [hi2]
  rw [hg]
  obtain ⟨h1, h2, h3, h4⟩ := hc i hi2
  refine ⟨kvOf (Q i) (ps.getD i Pp.no).kids, ?_, ?_, ?_, ?_⟩
  · rw [Nat.zero_add, World.ownsRow.cellAt hp (i * 3) (by omega)]; exact h1
  · rw [Nat.zero_add, World.ownsRow.cellAt hp (i * 3 + 1) (by omega)]; exact h2
  · rw [Nat.zero_add, World.ownsRow.cellAt hp (i * 3 + 2) (by omega)]; exact h3
  · unfold kvOf
    by_cases he : (ps.getD i Pp.no).kids = []
    · rw [if_pos he]
      show KidsAt w _ ((ps.getD i Pp.no).kids.map Int.ofNat)
      rw [he]
      exact ⟨none, 0, rfl, fun h => by simp at h⟩
    · rw [if_neg he]
      show KidsAt w _ ((ps.getD i Pp.no).kids.map Int.ofNat)
      have := (h4 he).2.2.at (ps.getD i Pp.no).kids.length
      rw [List.length_map] at this
      exact this
theorem right_pat {p : List Pp.Pc} (hr : Pp.right p = true) (h0 : 0 < p.length) (h60 : p.length ≤ 60) : Pk.pat (p.map tp) = true := by
  unfold Pk.pat
  rw [List.length_map]
  simp only [Bool.and_eq_true, decide_eq_true_eq]
  refine ⟨by omega, ?_⟩
  unfold Pk.upto
  rw [List.all_eq_true]
  intro k hk
  rw [List.mem_range] at hk
  rw [tp_get p k hk]
  unfold Pp.right at hr
  rw [List.all_eq_true] at hr
  exact hr k (List.mem_range.2 hk)
theorem tp_small (p : List Pp.Pc) (h : ∀ x ∈ p, x.kids.length ≤ 1048576 ∧ x.text.length ≤ 1048576) : Small (p.map tp) (p.map tp).length := by
  intro i hi
  rw [List.length_map] at hi
  rw [tp_get p i hi]
  have e : p.getD i Pp.nul = p[i] := by simp [hi]
  rw [e]
  have := h p[i] (List.getElem_mem hi)
  refine ⟨by simpa [tp] using this.1, ?_⟩
  show p[i].text.toArray.size ≤ _
  simpa using this.2
theorem right_small {p : List Pp.Pc} (hr : Pp.right p = true) : ∀ x ∈ p, x.kids.length ≤ 1048576 ∧ x.text.length ≤ 1048576 := by
  intro x hx
  obtain ⟨i, hi, rfl⟩ := List.mem_iff_getElem.1 hx
  unfold Pp.right at hr
  rw [List.all_eq_true] at hr
  have h1 := hr i (List.mem_range.2 hi)
  have e : p.getD i Pp.nul = p[i] := by simp [hi]
  rw [e] at h1
  obtain ⟨k1, -, -, -, k5⟩ := Pk.piece_kids h1
  have k6 : p[i].kids.length = Pk.kw (tp p[i]).op := by simpa [tp] using k1
  have k7 : p[i].text.length ≤ 24 := by
    have : (tp p[i]).text.size = p[i].text.length := by show p[i].text.toArray.size = _; simp
    omega
  refine ⟨?_, by omega⟩
  rw [k6]
  unfold Pk.kw
  split
  · omega
  · split <;> omega
/-- What 'ends' answers of a pattern that is read. -/
noncomputable def el (p : List Pp.Pc) (s : ByteArray) (i : Nat) : List Nat := En.list (p.map tp) s (p.length - 1) i
theorem el_mem {p : List Pp.Pc} {s : ByteArray} {i j : Nat} (hi : i ≤ s.size) : j ∈ el p s i ↔ Em p s i j := by
  unfold el
  rw [En.mem_list]
  refine ⟨fun h => h.2, fun h => ⟨?_, h⟩⟩
  have := (En.Ends.le h).2 hi
  omega
theorem el_le {p : List Pp.Pc} {s : ByteArray} {i j : Nat} (h : j ∈ el p s i) : j ≤ s.size := by
  unfold el at h
  rw [En.mem_list] at h
  omega
theorem el_len (p : List Pp.Pc) (s : ByteArray) (i : Nat) : (el p s i).length ≤ s.size + 1 := by
  unfold el En.list
  exact Nat.le_trans (List.length_filter_le _ _) (by simp)

set_option maxHeartbeats 2000000 in
set_option maxRecDepth 100000 in
theorem ends_any (t s : ByteArray) (p : List Pp.Pc) (i : Nat) (w : World) (hp : Pp.read t.data.toList = some p) (hr : Pp.right p = true) (ht : t.size ≤ 1048576) (hs : s.size ≤ 1048576) (hi : i ≤ s.size) :
    Calls Try.prog 14 #[.string t, .string s, .int .i64 (i : Int)] w fun e w' => ∃ y, e = .returned y ∧ LAt w' y (el p s i) ∧ Below w.heap.size w w' := by
  have HRD : Hid (Calls Try.prog 35 #[.string t] w fun e w' => Below w.heap.size w w' ∧ ∃ v, e = .returned (.tuple #[.agg #[v], .bool true]) ∧ PcsAt w' v (p.map tp) ∧ 0 < p.length ∧ p.length ≤ 60) := by
    refine (specRead_any t w ht).mono ?_
    rintro e w' ⟨h1, h2⟩
    rw [hp] at h2
    obtain ⟨v, rfl, h3, h4, h5⟩ := h2
    exact ⟨h1, v, rfl, h3.pcs h4, h4, h5⟩
  obtain ⟨l, hl⟩ : ∃ l, l = el p s i := ⟨_, rfl⟩
  rw [← hl]
  obtain ⟨n, hn⟩ : ∃ n, n = p.length := ⟨_, rfl⟩
  have HEC : Hid (∀ v w', PcsAt w' v (p.map tp) → 0 < n → n ≤ 60 → Calls Try.prog 36 #[.agg #[v], .int .i64 ((n : Int) - 1), .string s, .int .i64 (i : Int)] w' (fun e w'' => ∃ y, e = .returned y ∧ LAt w'' y l ∧ Below w'.heap.size w' w'')) := by
    intro v w' h h0 h60
    have k := implEnds v (p.map tp) s ((n : Int) - 1) (i : Int) w' h (by simp; omega) (tp_small p (right_small hr)) hs
    have e : En.ans (p.map tp) s ((n : Int) - 1) (i : Int) = l := by
      unfold En.ans
      rw [if_pos ⟨right_pat hr (by omega) (by omega), by rw [List.length_map]; omega, by omega⟩, hl, hn]
      unfold el
      rw [Int.toNat_natCast, show ((p.length : Int) - 1).toNat = p.length - 1 by omega]
    rw [e] at k
    refine k.mono ?_
    rintro e w'' ⟨y, rfl, k1, k2⟩
    exact ⟨y, rfl, k1.lat, k2⟩
  rw [← hn] at HRD
  have HN : Hid (n = p.length) := hn
  clear hp hr hl hn
  go_enter Try.func14, Try.ntmps14
  go_wp2_with fail
  refine HRD.out.mono ?_
  rintro e w1 ⟨hb1, v, rfl, hpc, h0, h60⟩
  have HE : Hid (∀ A : Obj, Calls Try.prog 36 #[.agg #[v], .int .i64 ((n : Int) - 1), .string s, .int .i64 (i : Int)] (w1.alloc A) (fun e w'' => ∃ y, e = .returned y ∧ LAt w'' y l ∧ Below (w1.alloc A).heap.size (w1.alloc A) w'')) := fun A => HEC.out v _ (hpc.keep ((Below.refl _ _).alloc (Nat.le_refl _) _)) h0 h60
  obtain ⟨va, vc, rfl, -⟩ := hpc
  rw [List.length_map, ← HN.out] at HE ⊢
  have HB1 : Hid (Below w.heap.size w w1) := hb1
  clear hb1 HRD HEC
  go_wp2_with fail
  refine (HE.out _).mono ?_
  rintro e w2 ⟨y, rfl, y1, b2⟩
  have HY : Hid (LAt w2 y l) := y1
  have HB2 : Hid (Below w.heap.size w w2) := (HB1.out.alloc HB1.out.size _).trans (b2.mono (by have := HB1.out.size; simp; omega))
  clear y1 b2 HE HB1
  go_wp2_with fail
  go_ret
  exact ⟨y, rfl, HY.out, HB2.out⟩
end PartFnQ
section PartDA
open Go.RowKit

theorem and_le (x : Int) (m : Nat) (hm : m < 2147483648) : 0 ≤ bits .and .i64 x (m : Int) ∧ bits .and .i64 x (m : Int) ≤ (m : Int) := by
  have e : bits .and .i64 x (m : Int) = IntKind.i64.wrap (((BitVec.ofInt 64 x &&& BitVec.ofInt 64 (m : Int)).toNat : Nat) : Int) := rfl
  have h1 : (BitVec.ofInt 64 x &&& BitVec.ofInt 64 (m : Int)).toNat ≤ m := by
    rw [BitVec.toNat_and]
    refine Nat.le_trans Nat.and_le_right ?_
    rw [BitVec.toNat_ofInt]
    omega
  rw [e, IntKind.wrap_i64]
  omega
theorem and_255 (x : Int) : 0 ≤ bits .and .i64 x 255 ∧ bits .and .i64 x 255 ≤ 255 := and_le x 255 (by decide)

/-- The cursor lies in block g, the bytes that it goes over in another; both below B. -/
structure Drw (B : Nat) (w : World) (g : Nat) (ad : Option Addr) (n cap : Nat) : Prop where
  cur : ∃ i : Nat, ∃ h : Int, i ≤ n ∧ w.heap[g]? = some (.cells #[.slice ad n cap, .int .i64 (i : Int), .int .i64 h] 99 (0, 0))
  low : g < B
  len : n ≤ 1048576
  code : 0 < n → ∃ b off, ad = some ⟨b, off, none⟩ ∧ b ≠ g ∧ b < B ∧ ∀ j, j < n → ∃ z : Nat, z < 256 ∧ w.cell? ⟨b, off + j, none⟩ = some (.int .u8 (z : Int))

theorem Drw.keep {B : Nat} {w w' : World} {g : Nat} {ad : Option Addr} {n cap : Nat} (h : Drw B w g ad n cap) (hb : Below B w w') : Drw B w' g ad n cap := by
  obtain ⟨⟨i, k, hi, hc⟩, hl, hn, hcode⟩ := h
  refine ⟨⟨i, k, hi, by rw [hb.block g hl]; exact hc⟩, hl, hn, fun h0 => ?_⟩
  obtain ⟨b, off, e, h1, h2, h3⟩ := hcode h0
  refine ⟨b, off, e, h1, h2, fun j hj => ?_⟩
  obtain ⟨z, hz, hc⟩ := h3 j hj
  exact ⟨z, hz, by rw [hb.cell (by exact h2)]; exact hc⟩
theorem Drw.low_of {B B' : Nat} {w : World} {g : Nat} {ad : Option Addr} {n cap : Nat} (h : Drw B w g ad n cap) (hB : B ≤ B') : Drw B' w g ad n cap := by
  obtain ⟨hc, hl, hn, hcode⟩ := h
  refine ⟨hc, by omega, hn, fun h0 => ?_⟩
  obtain ⟨b, off, e, h1, h2, h3⟩ := hcode h0
  exact ⟨b, off, e, h1, by omega, h3⟩

theorem grown_trans {w w1 w2 : World} {r : Option Nat} (h1 : w.grownBy w1 r) (h2 : w1.grownBy w2 r) : w.grownBy w2 r :=
  ⟨h2.os.trans h1.os, h2.tape.trans h1.tape, h2.output.trans h1.output, Nat.le_trans h1.size h2.size, fun k hk hne => (h2.block k (Nat.lt_of_lt_of_le hk h1.size) hne).trans (h1.block k hk hne)⟩
theorem grown_refl (w : World) (r : Option Nat) : w.grownBy w r := ⟨rfl, rfl, rfl, Nat.le_refl _, fun _ _ _ => rfl⟩
theorem grown_draw {w w1 : World} {r : Option Nat} (h : w.grownBy w1 r) (n : Nat) : w.grownBy (w1.drewN n) r := grown_trans h ⟨rfl, rfl, rfl, Nat.le_refl _, fun _ _ _ => rfl⟩
theorem grown_set {w w1 : World} {g : Nat} (h : w.grownBy w1 (some g)) (o : Nat) (u : Value) : w.grownBy (w1.setCell ⟨g, o, none⟩ u) (some g) :=
  grown_trans h ⟨rfl, rfl, rfl, by simp [World.setCell], fun k _ hne => Below.heap_setCell _ _ _ _ (by intro e; apply hne; rw [e])⟩

theorem cells3 {w : World} {g : Nat} {a b c : Value} {t : TypeId} (h : w.heap[g]? = some (.cells #[a, b, c] t (0, 0))) :
    w.cell? ⟨g, 0, none⟩ = some a ∧ w.cell? ⟨g, 1, none⟩ = some b ∧ w.cell? ⟨g, 2, none⟩ = some c ∧ w.frozen? ⟨g, 0, none⟩ = false ∧ w.frozen? ⟨g, 1, none⟩ = false ∧ w.frozen? ⟨g, 2, none⟩ = false := by
  refine ⟨?_, ?_, ?_, ?_, ?_, ?_⟩ <;> simp [World.cell?, World.frozen?, h]

theorem set2 {w : World} {g : Nat} {a b c : Value} {t : TypeId} (h : w.heap[g]? = some (.cells #[a, b, c] t (0, 0))) (u : Value) : (w.setCell ⟨g, 2, none⟩ u).heap[g]? = some (.cells #[a, b, u] t (0, 0)) := by
  simp [World.setCell, Array.getElem?_modify, h]
theorem set1 {w : World} {g : Nat} {a b c : Value} {t : TypeId} (h : w.heap[g]? = some (.cells #[a, b, c] t (0, 0))) (u : Value) : (w.setCell ⟨g, 1, none⟩ u).heap[g]? = some (.cells #[a, u, c] t (0, 0)) := by
  simp [World.setCell, Array.getElem?_modify, h]

theorem Drw.after {B : Nat} {w W : World} {g : Nat} {ad : Option Addr} {n cap : Nat} (hl : g < B) (hn : n ≤ 1048576)
    (hcode : 0 < n → ∃ b off, ad = some ⟨b, off, none⟩ ∧ b ≠ g ∧ b < B ∧ ∀ j, j < n → ∃ z : Nat, z < 256 ∧ w.cell? ⟨b, off + j, none⟩ = some (.int .u8 (z : Int)))
    (hg : w.grownBy W (some g)) (i : Nat) (h : Int) (hi : i ≤ n) (hc : W.heap[g]? = some (.cells #[.slice ad n cap, .int .i64 (i : Int), .int .i64 h] 99 (0, 0))) : Drw B W g ad n cap := by
  refine ⟨⟨i, h, hi, hc⟩, hl, hn, fun h0 => ?_⟩
  obtain ⟨b, off, e, h1, h2, h3⟩ := hcode h0
  refine ⟨b, off, e, h1, h2, fun j hj => ?_⟩
  obtain ⟨z, hz, hc⟩ := h3 j hj
  exact ⟨z, hz, hg.cell hc (by intro e; apply h1; simpa using e)⟩

set_option maxHeartbeats 1000000 in
set_option maxRecDepth 100000 in
theorem byte_any (B g n cap : Nat) (ad : Option Addr) (w : World) (hd : Drw B w g ad n cap) :
    Calls Try.prog 38 #[.pointer (some ⟨g, 0, none⟩)] w fun e w' => ∃ x : Nat, x < 256 ∧ e = .returned (.int .i64 (x : Int)) ∧ Drw B w' g ad n cap ∧ w.grownBy w' (some g) := by
  obtain ⟨⟨i, h, hi, hc⟩, hl, hn, hcode⟩ := hd
  obtain ⟨c0, c1, c2, f0, f1, f2⟩ := cells3 hc
  go_enter Try.func38, Try.ntmps38
  go_wp2
  obtain ⟨h2, hh2⟩ : ∃ h2, h2 = wrap64 (wrap64 (h * 6364136223846793005) + 1442695040888963407) := ⟨_, rfl⟩
  rw [← hh2]
  have hc2 := set2 hc (.int .i64 h2)
  have hg2 : w.grownBy (w.setCell ⟨g, 2, none⟩ (.int .i64 h2)) (some g) := grown_set (grown_refl _ _) 2 _
  obtain ⟨w2, hw2⟩ : ∃ w2, w2 = w.setCell ⟨g, 2, none⟩ (.int .i64 h2) := ⟨_, rfl⟩
  rw [← hw2] at hc2 hg2 ⊢
  clear hh2 hw2 c0 c1 c2 f0 f1 f2 hc
  obtain ⟨c0, c1, c2, f0, f1, f2⟩ := cells3 hc2
  have HG : Hid (w.grownBy w2 (some g)) := hg2
  clear hg2
  go_quiet (fail)
  go_wp2
  have hx := and_255 (bits .xor .i64 (h2 / 8589934592) (h2 / 35184372088832))
  generalize bits .and .i64 (bits .xor .i64 (h2 / 8589934592) (h2 / 35184372088832)) 255 = x at hx ⊢
  obtain ⟨x, rfl⟩ := Int.eq_ofNat_of_zero_le hx.1
  have hx2 : x ≤ 255 := by omega
  clear hx
  have HCO : Hid _ := hcode
  have hkeep : ∀ q, q < n → ∀ b off, ad = some ⟨b, off, none⟩ → b ≠ g → ∀ z : Value, w.cell? ⟨b, off + q, none⟩ = some z → w2.cell? ⟨b, off + q, none⟩ = some z := by
    intro q _ b off _ hbg z hz
    exact HG.out.cell hz (by intro e; apply hbg; simpa using e)
  by_cases hlt : i < n
  · obtain ⟨b, off, rfl, hbg, hbB, hz⟩ := hcode (by omega)
    obtain ⟨z, hz256, hzc⟩ := hz i hlt
    have hzc2 := hkeep i hlt b off rfl hbg _ hzc
    have hlt2 : (i : Int) < (n : Int) := by omega
    have HZ : Hid (∀ j, j < n → ∃ z : Nat, z < 256 ∧ w.cell? ⟨b, off + j, none⟩ = some (.int .u8 (z : Int))) := hz
    have HK : Hid _ := hkeep
    clear hcode hkeep hz hzc
    go_quiet (fail)
    go_wp2
    go_quiet (fail)
    go_wp2
    go_ret
    have hy := and_255 ((x : Int) + (z : Int))
    generalize bits .and .i64 ((x : Int) + (z : Int)) 255 = y at hy ⊢
    obtain ⟨y, rfl⟩ := Int.eq_ofNat_of_zero_le hy.1
    have hs := set1 hc2 (.int .i64 ((i : Int) + 1))
    exact ⟨y, by omega, rfl, Drw.after hl hn HCO.out (grown_set (grown_draw HG.out _) 1 _) (i + 1) h2 (by omega) hs, grown_set (grown_draw HG.out _) 1 _⟩
  · have hq : decide ((i : Int) < (n : Int)) = false := by simp; omega
    have HK : Hid _ := hkeep
    clear hcode hkeep
    go_quiet (fail)
    go_wp2
    go_ret
    exact ⟨x, by omega, rfl, Drw.after hl hn HCO.out (grown_draw (grown_draw HG.out _) _) i h2 hi hc2, grown_draw (grown_draw HG.out _) _⟩

set_option maxHeartbeats 1000000 in
set_option maxRecDepth 100000 in
/-- A number below m (m from 1 on). -/
theorem below_any (B g n cap : Nat) (ad : Option Addr) (m : Nat) (w : World) (hd : Drw B w g ad n cap) (hm : 0 < m) (hm2 : m ≤ 4294967296) :
    Calls Try.prog 39 #[.pointer (some ⟨g, 0, none⟩), .int .i64 (m : Int)] w fun e w' => ∃ x : Nat, x < m ∧ e = .returned (.int .i64 (x : Int)) ∧ Drw B w' g ad n cap ∧ w.grownBy w' (some g) := by
  have HD : Hid (Drw B w g ad n cap) := hd
  clear hd
  by_cases h256 : m ≤ 256
  · go_enter Try.func39, Try.ntmps39
    go_wp2_with fail
    refine (byte_any B g n cap ad w HD.out).mono ?_
    rintro e w1 ⟨x, hx, rfl, d1, g1⟩
    have D1 : Hid (Drw B w1 g ad n cap) := d1
    have G1 : Hid (w.grownBy w1 (some g)) := g1
    clear d1 g1
    have hmod : (x : Int) % (m : Int) = ((x % m : Nat) : Int) := by rw [Int.natCast_emod]
    have hlt := Nat.mod_lt x hm
    have HM : Hid ((x : Int) % (m : Int) = ((x % m : Nat) : Int)) := hmod
    clear hmod
    go_wp2
    go_ret
    exact ⟨x % m, hlt, (by show Ending.returned (.int .i64 ((x : Int) % (m : Int))) = _; rw [HM.out]), D1.out, G1.out⟩
  · go_enter Try.func39, Try.ntmps39
    go_wp2_with fail
    refine (byte_any B g n cap ad w HD.out).mono ?_
    rintro e w1 ⟨x1, hx1, rfl, d1, g1⟩
    have D1 : Hid (Drw B w1 g ad n cap) := d1
    have G1 : Hid (w.grownBy w1 (some g)) := g1
    clear d1 g1
    go_wp2_with fail
    refine (byte_any B g n cap ad w1 D1.out).mono ?_
    rintro e w2 ⟨x2, hx2, rfl, d2, g2⟩
    have D2 : Hid (Drw B w2 g ad n cap) := d2
    have G2 : Hid (w.grownBy w2 (some g)) := grown_trans G1.out g2
    clear d2 g2
    go_wp2_with fail
    refine (byte_any B g n cap ad w2 D2.out).mono ?_
    rintro e w3 ⟨x3, hx3, rfl, d3, g3⟩
    have D3 : Hid (Drw B w3 g ad n cap) := d3
    have G3 : Hid (w.grownBy w3 (some g)) := grown_trans G2.out g3
    clear d3 g3
    go_wp2_with fail
    refine (byte_any B g n cap ad w3 D3.out).mono ?_
    rintro e w4 ⟨x4, hx4, rfl, d4, g4⟩
    have D4 : Hid (Drw B w4 g ad n cap) := d4
    have G4 : Hid (w.grownBy w4 (some g)) := grown_trans G3.out g4
    clear d4 g4
    have HM : Hid (((x1 : Int) * 16777216 + (x2 : Int) * 65536 + (x3 : Int) * 256 + (x4 : Int)) % (m : Int) = (((x1 * 16777216 + x2 * 65536 + x3 * 256 + x4) % m : Nat) : Int)) := by
      show _ = _
      rw [Int.natCast_emod]
      congr 1
    have hlt := Nat.mod_lt (x1 * 16777216 + x2 * 65536 + x3 * 256 + x4) hm
    have HL : Hid _ := hlt
    clear hlt
    go_wp2
    go_ret
    exact ⟨(x1 * 16777216 + x2 * 65536 + x3 * 256 + x4) % m, HL.out, (by show Ending.returned (.int .i64 (((x1 : Int) * 16777216 + (x2 : Int) * 65536 + (x3 : Int) * 256 + (x4 : Int)) % (m : Int))) = _; rw [HM.out]), D4.out, G4.out⟩
end PartDA
end Go.Proofs.Ytlnmbahakdmkgaa
