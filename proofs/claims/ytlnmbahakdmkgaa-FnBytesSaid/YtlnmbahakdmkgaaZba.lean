/- Where a piece may end, by the program: 'ends', of every linked piece. The linked pieces, made. -/
import Derived.Test.YtlnmbahakdmkgaaZaz
namespace Go.Proofs.Ytlnmbahakdmkgaa
section PartIpL
open Go.RowKit Go.Maps

theorem OS.lt {w : World} {B : Nat} {ob : Option Nat} {S : Nat → Prop} (h : OS w B ob S) (b : Nat) (e : ob = some b) : b < w.heap.size := by
  rcases h with ⟨e2, _⟩ | ⟨b', e2, _, hE⟩
  · rw [e2] at e; cases e
  · rw [e2] at e; have := Option.some.inj e; have := hE.lt; omega

set_option maxHeartbeats 4000000 in
set_option maxRecDepth 100000 in
theorem kids_star (c : Im) (L : ILie c) (k : Nat) (hk : k < c.K) (hop : (c.pc k).op = 7) (hk0 : 0 < (c.pc k).kids.length) (hC0 : EndC c (En.kid (c.pc k) 0)) : KidC c k := by
  intro X w i hX h hi
  have hs := L.hs
  have hM : c.M1 ≤ w.heap.size := h.hi
  have HF : Hid (Fd c X w w.heap.size (w.alloc (.map #[] 0)) (fun _ => False)) := Fd.begin L hX h
  obtain ⟨p0', p2'⟩ := kid_ptr HF.out.mem k hk hk0
  rw [hop] at p0'
  have hmm := @run_makeMap Try.prog
  obtain ⟨w1, hup, u1, u2⟩ := single_map (w.alloc (.map #[] 0)) i (by omega)
  have hsz : (w.alloc (.map #[] 0)).heap.size = w.heap.size + 1 := by simp
  rw [hsz] at hup u1
  have hF1 := HF.out.up L hM (fun b hb => (hX b hb).1) u2
  have hw1 := hF1.fm.2.1
  have HA : Hid (Calls Try.prog 68 #[.pointer (some ⟨c.P (En.kid (c.pc k) 0), 0, none⟩), .string c.s, .map (some (w.heap.size + 1))] w1 (KPost c X (fun e => ∃ j, j = i ∧ En.Reach c.ps c.s (En.kid (c.pc k) 0) j e) w1)) :=
    again_any c L _ hC0 X w1 (fun b hb => ⟨(hX b hb).1, by have := (hX b hb).2; omega⟩) (hF1.mem.more (fun b hb => .inl (.inl hb))) _ _ 0 (.inr ⟨_, rfl, Nat.zero_le _, u1⟩) (fun j hj => by omega)
  have HFM : Hid (FM c.M0 c.M1 w w1) := hF1.fm
  have HE : Hid (∀ j, (∃ u, u = i ∧ En.Reach c.ps c.s (En.kid (c.pc k) 0) u j) ↔ En.Ends c.ps c.s k i j) := fun j => (by
    rw [En.star_iff hop]
    exact ⟨fun ⟨u, e, h⟩ => by rw [← e]; exact h, fun h => ⟨i, rfl, h⟩⟩)
  clear L hX h hC0 hop u1 u2 hsz hF1 HF
  go_enter Try.func48, Try.ntmps48
  go_wp2_with fail
  refine HA.out.mono ?_
  rintro e w2 ⟨b, rfl, q1, q2, q3, q4⟩
  have HP : Hid (KPost c X (En.Ends c.ps c.s k i) w (.returned (.map (some b))) w2) := ⟨b, rfl, by omega, q2.iff HE.out, q3, HFM.out.trans q4⟩
  clear q1 q2 q3 q4 HA p0' p2' hmm hup
  go_wp2_with fail
  go_ret
  exact HP.out

set_option maxHeartbeats 4000000 in
set_option maxRecDepth 100000 in
theorem kids_plus (c : Im) (L : ILie c) (k : Nat) (hk : k < c.K) (hop : (c.pc k).op = 8) (hk0 : 0 < (c.pc k).kids.length) (hC0 : EndC c (En.kid (c.pc k) 0)) : KidC c k := by
  intro X w i hX h hi
  have hM : c.M1 ≤ w.heap.size := h.hi
  have HF : Hid (Fd c X w w.heap.size (w.alloc (.map #[] 0)) (fun _ => False)) := Fd.begin L hX h
  obtain ⟨p0', p2'⟩ := kid_ptr HF.out.mem k hk hk0
  rw [hop] at p0'
  have HX : Hid (∀ b, X b → c.M1 ≤ b ∧ b < w.heap.size) := hX
  have HL : Hid (ILie c) := L
  have HC0 : Hid (EndC c (En.kid (c.pc k) 0)) := hC0
  have hmm := @run_makeMap Try.prog
  have HE : Hid (∀ j, (∃ u, En.Ends c.ps c.s (En.kid (c.pc k) 0) i u ∧ En.Reach c.ps c.s (En.kid (c.pc k) 0) u j) ↔ En.Ends c.ps c.s k i j) := fun j => (En.plus_iff hop).symm
  obtain ⟨W0, hW0⟩ : ∃ W0, W0 = w.alloc (.map #[] 0) := ⟨_, rfl⟩
  have H1 : Hid (∀ W : World, Below (w.alloc (.map #[] 0)).heap.size (w.alloc (.map #[] 0)) W → Calls Try.prog 26 #[.pointer (some ⟨c.P (En.kid (c.pc k) 0), 0, none⟩), .string c.s, .int .i64 (i : Int)] W (fun e w' => ∃ ob, e = .returned (.map ob) ∧ OS w' c.M1 ob (En.Ends c.ps c.s (En.kid (c.pc k) 0) i) ∧ Fd c X w w.heap.size w' (fun _ => False))) := by
    intro W hb
    have hF := HF.out.up HL.out hM (fun b hb => (HX.out b hb).1) hb
    refine (HC0.out _ W i (hF.low hM HX.out) hF.mem hi).mono ?_
    rintro e w1 ⟨ob, rfl, o1, o2, o3, o4⟩
    exact ⟨ob, rfl, o1, hF.called hM o3 o4⟩
  have H2 : Hid (∀ (W : World) (ob : Option Nat), OS W c.M1 ob (En.Ends c.ps c.s (En.kid (c.pc k) 0) i) → Fd c X w w.heap.size W (fun _ => False) → Calls Try.prog 68 #[.pointer (some ⟨c.P (En.kid (c.pc k) 0), 0, none⟩), .string c.s, .map ob] W (fun e w' => ∃ b, e = .returned (.map (some b)) ∧ KPost c X (En.Ends c.ps c.s k i) w (.returned (.map (some b))) w')) := by
    intro W ob o1 hF
    have hw := hF.fm.2.1
    refine (again_any c HL.out _ HC0.out X W (fun b hb => ⟨(HX.out b hb).1, by have := (HX.out b hb).2; omega⟩) (hF.mem.more (fun b hb => .inl (.inl hb))) ob _ _ o1 (fun j hj => by have := hj.le; omega)).mono ?_
    rintro e w2 ⟨b, rfl, q1, q2, q3, q4⟩
    exact ⟨b, rfl, b, rfl, by omega, q2.iff HE.out, q3, hF.fm.trans q4⟩
  have HKP : Hid (∀ W : World, Fd c X w w.heap.size W (fun _ => False) → W.cell? ⟨c.P k, 2, none⟩ = some (.pointer (some ⟨c.P (En.kid (c.pc k) 0), 0, none⟩))) := fun W hF => (kid_ptr hF.mem k hk hk0).2
  have HKQ : Hid (∀ (W : World) (b : Nat), KPost c X (En.Ends c.ps c.s k i) w (.returned (.map (some b))) W → W.cell? ⟨c.P k, 2, none⟩ = some (.pointer (some ⟨c.P (En.kid (c.pc k) 0), 0, none⟩))) := fun W b ⟨_, _, _, _, hm, _⟩ => (kid_ptr hm k hk hk0).2
  clear L hX h hC0 hop hW0
  clear W0
  go_enter Try.func48, Try.ntmps48
  go_wp2_with fail
  go_region_held3 (fun w' => w'.cell? ⟨c.P k, 2, none⟩ = some (.pointer (some ⟨c.P (En.kid (c.pc k) 0), 0, none⟩))) (first | go_keep | exact HKQ.out _ _ hp | exact HKP.out _ hf1) ((first | (go_at_call 26; refine (H1.out _ ((Below.refl _ _).drew)).mono ?_; rintro e w1 ⟨ob, rfl, o1, hf1⟩) | (go_at_call 68; refine (H2.out _ _ o1 hf1).mono ?_; rintro e w2 ⟨b, rfl, hp⟩)))
  go_wp2_with fail
  go_ret
  exact hp

/-- 'ends', of every linked piece. -/
theorem ends_all (c : Im) (L : ILie c) : ∀ k, k < c.K → EndC c k := by
  intro k
  induction k using Nat.strongRecOn with
  | _ k ih =>
    intro hk
    obtain ⟨h1, h2, h3, h4, -⟩ := Pk.piece_kids (L.pk k hk)
    have kid : ∀ j, j < (c.pc k).kids.length → EndC c (En.kid (c.pc k) j) := by
      intro j hj
      obtain ⟨a, _, e2, e3⟩ := h2 j hj
      rw [e3]
      exact ih a e2 (by omega)
    by_cases hk0 : (c.pc k).kids.length = 0
    · exact ends_plain c L k hk hk0
    · have hk1 : 0 < (c.pc k).kids.length := by omega
      refine ends_kids c L k hk hk1 ?_
      have hkw := h1
      unfold Pk.kw at hkw
      by_cases o5 : (c.pc k).op = 5
      · rw [if_pos (.inl o5)] at hkw
        exact kids_cat c L k hk o5 (by omega) (kid 0 (by omega)) (kid 1 (by omega))
      by_cases o6 : (c.pc k).op = 6
      · rw [if_pos (.inr o6)] at hkw
        exact kids_alt c L k hk o6 (by omega) (kid 0 (by omega)) (kid 1 (by omega))
      by_cases o7 : (c.pc k).op = 7
      · exact kids_star c L k hk o7 hk1 (kid 0 hk1)
      by_cases o8 : (c.pc k).op = 8
      · exact kids_plus c L k hk o8 hk1 (kid 0 hk1)
      by_cases o9 : (c.pc k).op = 9
      · exact kids_opt c L k hk o9 hk1 (kid 0 hk1)
      rw [if_neg (by omega), if_neg (by omega)] at hkw
      omega
end PartIpL
section PartIpM
open Go.RowKit Go.Maps

theorem Try.infoPL : (Try.prog.info? 54).map (fun i => (i.zero, i.size, i.bytes)) = some (some (.pointer none), 1, 8) := by kernel_rfl
set_option maxRecDepth 100000 in
/-- make of n pointers, all nil. -/
theorem makePL_run (n : Nat) (h : n ≤ 1000000000) : ∃ M : Array Value, M.size = n ∧ (∀ j, j < n → M[j]? = some (.pointer none)) ∧ ∀ W : World, (Instr.makeSlice 90 (.int .i64 (n : Int)) (.int .i64 (n : Int))).run Try.prog W = .ok (.slice (some ⟨W.heap.size, 0, none⟩) n n) (W.alloc (.cells M 54)) := by
  obtain ⟨i0, hi, hz0, hz1, hz2⟩ := info_parts Try.infoPL
  refine ⟨madeCells (Value.pointer none).cells (((n : Nat) : Int).toNat * i0.size), by rw [size_madeCells, hz1]; simp, fun j hj => ?_, fun W => ?_⟩
  · have e : (madeCells (Value.pointer none).cells (((n : Nat) : Int).toNat * i0.size)).toList = List.replicate n (.pointer none) := by
      rw [hz1]
      have := toList_madeCells_one (.pointer none) n
      simp only [Int.toNat_natCast, Nat.mul_one]
      exact this
    have e2 : (madeCells (Value.pointer none).cells (((n : Nat) : Int).toNat * i0.size))[j]? = (List.replicate n (Value.pointer none))[j]? := by rw [← e]; simp
    rw [e2]
    simp [hj]
  · have h := run_make (P := Try.prog) W 90 54 i0 (.pointer none) Try.underlying90 hi hz0 .i64 .i64 (n : Int) (n : Int) (by omega) (by omega) (by rw [hz2]; omega) (by omega)
    simpa using h

/-- The linked pieces that qs and bs tell. -/
def cI (w : World) (s : ByteArray) (ps : List Pi) (qs bs : List Nat) (M1 t : Nat) : Im := ⟨w.heap.size, M1, t, s, ps, fun j => qs.getD j 0, fun j => bs.getD j 0⟩
/-- Of n links t are made. -/
structure Lk (w : World) (s : ByteArray) (ps : List Pi) (g n t : Nat) (wr : World) (arr : Array Value) (qs bs : List Nat) : Prop where
  gb : wr.heap[g]? = some (.cells arr 54 (0, 0))
  gs : arr.size = n
  ga : ∀ j, j < n → arr[j]? = some (.pointer (if j < t then some ⟨qs.getD j 0, 0, none⟩ else none))
  lq : qs.length = t
  lb : bs.length = t
  lp : ∀ j, j < t → LpAt wr (qs.getD j 0) (ps.getD j Pi.no).op (ps.getD j Pi.no).text ((cI w s ps qs bs 0 0).f1 j) ((cI w s ps qs bs 0 0).f2 j) ((cI w s ps qs bs 0 0).kb j)
  kn : ∀ j, j < t → 0 < (ps.getD j Pi.no).kids.length → wr.heap[bs.getD j 0]? = some (.map #[] 0)
  lo : ∀ j, j < t → w.heap.size ≤ qs.getD j 0 ∧ (0 < (ps.getD j Pi.no).kids.length → w.heap.size ≤ bs.getD j 0)
  bb : ∀ i j, i < t → j < t → 0 < (ps.getD i Pi.no).kids.length → 0 < (ps.getD j Pi.no).kids.length → i ≠ j → bs.getD i 0 ≠ bs.getD j 0
  gl : w.heap.size ≤ g
  bel : Below w.heap.size w wr
theorem getD_old {l : List Nat} {x j : Nat} (h : j < l.length) : (l ++ [x]).getD j 0 = l.getD j 0 := by simp [List.getElem?_append_left h]
theorem getD_new {l : List Nat} {x : Nat} : (l ++ [x]).getD l.length 0 = x := by simp
theorem Lk.step {w wr w' : World} {s : ByteArray} {ps : List Pi} {g n t : Nat} {arr : Array Value} {qs bs : List Nat} (h : Lk w s ps g n t wr arr qs bs) (hpk : ∀ j, j < t + 1 → Pk.piece j (ps.getD j Pi.no) = true) (ht : t < n) (q b : Nat) (hq : wr.heap.size ≤ q) (hb : wr.heap.size ≤ b)
    (ho : ∀ x, x < wr.heap.size → x ≠ g → w'.heap[x]? = wr.heap[x]?) (hg : w'.heap[g]? = some (.cells (arr.setIfInBounds t (.pointer (some ⟨q, 0, none⟩))) 54 (0, 0)))
    (hL : LpAt w' q (ps.getD t Pi.no).op (ps.getD t Pi.no).text ((cI w s ps qs bs 0 0).f1 t) ((cI w s ps qs bs 0 0).f2 t) (if 0 < (ps.getD t Pi.no).kids.length then some b else none))
    (hB : 0 < (ps.getD t Pi.no).kids.length → w'.heap[b]? = some (.map #[] 0)) (hen : Env wr w') (hsz : wr.heap.size ≤ w'.heap.size) :
    Lk w s ps g n (t + 1) w' (arr.setIfInBounds t (.pointer (some ⟨q, 0, none⟩))) (qs ++ [q]) (bs ++ [b]) := by
  have hgl := blk_lt h.gb
  have kidlt : ∀ j, j < t + 1 → ∀ i, i < (ps.getD j Pi.no).kids.length → En.kid (ps.getD j Pi.no) i < t := by
    intro j hj i hi
    obtain ⟨-, h2, -⟩ := Pk.piece_kids (hpk j hj)
    obtain ⟨a, _, e2, e3⟩ := h2 i hi
    omega
  have f1e : ∀ j, j < t + 1 → (cI w s ps (qs ++ [q]) (bs ++ [b]) 0 0).f1 j = (cI w s ps qs bs 0 0).f1 j := by
    intro j hj
    show (if 0 < (ps.getD j Pi.no).kids.length then some (⟨(qs ++ [q]).getD (En.kid (ps.getD j Pi.no) 0) 0, 0, none⟩ : Addr) else none) = if 0 < (ps.getD j Pi.no).kids.length then some ⟨qs.getD (En.kid (ps.getD j Pi.no) 0) 0, 0, none⟩ else none
    by_cases hk : 0 < (ps.getD j Pi.no).kids.length
    · rw [if_pos hk, if_pos hk, getD_old (by rw [h.lq]; exact kidlt j hj 0 hk)]
    · rw [if_neg hk, if_neg hk]
  have f2e : ∀ j, j < t + 1 → (cI w s ps (qs ++ [q]) (bs ++ [b]) 0 0).f2 j = (cI w s ps qs bs 0 0).f2 j := by
    intro j hj
    show (if 1 < (ps.getD j Pi.no).kids.length then some (⟨(qs ++ [q]).getD (En.kid (ps.getD j Pi.no) 1) 0, 0, none⟩ : Addr) else none) = if 1 < (ps.getD j Pi.no).kids.length then some ⟨qs.getD (En.kid (ps.getD j Pi.no) 1) 0, 0, none⟩ else none
    by_cases hk : 1 < (ps.getD j Pi.no).kids.length
    · rw [if_pos hk, if_pos hk, getD_old (by rw [h.lq]; exact kidlt j hj 1 hk)]
    · rw [if_neg hk, if_neg hk]
  have kbo : ∀ j, j < t → (cI w s ps (qs ++ [q]) (bs ++ [b]) 0 0).kb j = (cI w s ps qs bs 0 0).kb j := by
    intro j hj
    show (if 0 < (ps.getD j Pi.no).kids.length then some ((bs ++ [b]).getD j 0) else none) = if 0 < (ps.getD j Pi.no).kids.length then some (bs.getD j 0) else none
    rw [getD_old (by rw [h.lb]; exact hj)]
  have qt : (qs ++ [q]).getD t 0 = q := by have := @getD_new qs q; rwa [h.lq] at this
  have bt : (bs ++ [b]).getD t 0 = b := by have := @getD_new bs b; rwa [h.lb] at this
  have qo : ∀ j, j < t → (qs ++ [q]).getD j 0 = qs.getD j 0 := fun j hj => getD_old (by rw [h.lq]; exact hj)
  have bo : ∀ j, j < t → (bs ++ [b]).getD j 0 = bs.getD j 0 := fun j hj => getD_old (by rw [h.lb]; exact hj)
  have ng : ∀ j, j < t → qs.getD j 0 ≠ g := fun j hj e => by
    have h1 := h.lp j hj
    unfold LpAt at h1
    exact type_ne h1 h.gb (by decide) e
  refine ⟨hg, by simpa using h.gs, fun j hj => ?_, by simp [h.lq], by simp [h.lb], fun j hj => ?_, fun j hj hk => ?_, fun j hj => ?_, fun i j hi hj hki hkj hij => ?_, h.gl, ?_⟩
  · rw [Array.getElem?_setIfInBounds]
    by_cases hjt : t = j
    · subst hjt
      rw [if_pos rfl, if_pos (by rw [h.gs]; exact hj), if_pos (by omega), qt]
    · rw [if_neg hjt, h.ga j hj]
      by_cases hjl : j < t
      · rw [if_pos hjl, if_pos (by omega), qo j hjl]
      · rw [if_neg hjl, if_neg (by omega)]
  · rw [f1e j hj, f2e j hj]
    by_cases hjt : j = t
    · subst hjt
      rw [qt]
      have e : (cI w s ps (qs ++ [q]) (bs ++ [b]) 0 0).kb j = if 0 < (ps.getD j Pi.no).kids.length then some b else none := by
        show (if 0 < (ps.getD j Pi.no).kids.length then some ((bs ++ [b]).getD j 0) else none) = _
        rw [bt]
      rw [e]
      exact hL
    · have hjl : j < t := by omega
      rw [qo j hjl, kbo j hjl]
      have h1 := h.lp j hjl
      exact (ho _ (blk_lt h1) (ng j hjl)).trans h1
  · by_cases hjt : j = t
    · subst hjt
      rw [bt]
      exact hB hk
    · have hjl : j < t := by omega
      rw [bo j hjl]
      have h1 := h.kn j hjl hk
      refine (ho _ (blk_lt h1) (fun e => ?_)).trans h1
      rw [e, h.gb] at h1
      cases h1
  · have hws := h.bel.size
    by_cases hjt : j = t
    · subst hjt
      rw [qt, bt]
      exact ⟨by omega, fun _ => by omega⟩
    · have hjl : j < t := by omega
      rw [qo j hjl, bo j hjl]
      exact h.lo j hjl
  · have old : ∀ j, j < t → 0 < (ps.getD j Pi.no).kids.length → bs.getD j 0 < wr.heap.size := fun j hj hk => blk_lt (h.kn j hj hk)
    by_cases hit : i = t
    · subst hit
      rw [bt, bo j (by omega)]
      have := old j (by omega) hkj
      omega
    · by_cases hjt : j = t
      · subst hjt
        rw [bt, bo i (by omega)]
        have := old i (by omega) hki
        omega
      · rw [bo i (by omega), bo j (by omega)]
        exact h.bb i j (by omega) (by omega) hki hkj hij
  · refine ⟨hen.1.trans h.bel.os, hen.2.1.trans h.bel.tape, hen.2.2.trans h.bel.output, Nat.le_trans h.bel.size hsz, fun x hx => ?_⟩
    have := h.gl
    have := h.bel.size
    exact (ho x (by omega) (by omega)).trans (h.bel.block x hx)
/-- At last. -/
theorem Lk.fin {w wr : World} {s : ByteArray} {ps : List Pi} {g n : Nat} {arr : Array Value} {qs bs : List Nat} (h : Lk w s ps g n n wr arr qs bs) (hpk : ∀ j, j < n → Pk.piece j (ps.getD j Pi.no) = true) (hs : s.size ≤ 1048576) :
    ILie (cI w s ps qs bs wr.heap.size n) ∧ IMemo (cI w s ps qs bs wr.heap.size n) (fun _ => False) wr := by
  refine ⟨⟨fun k hk => ⟨(h.lo k hk).1, blk_lt (h.lp k hk)⟩, fun k hk hk0 => ⟨(h.lo k hk).2 hk0, blk_lt (h.kn k hk hk0)⟩, fun k j hk hj hk0 hj0 hkj => h.bb k j hk hj hk0 hj0 hkj, hpk, hs⟩, ⟨h.lp, fun k hk hk0 => ?_, Nat.le_refl _⟩⟩
  refine ⟨.map [], ⟨#[], 0, h.kn k hk hk0, ⟨by simp, MapKept.stamped_empty 0, by simp⟩, Nat.le_refl _, rfl⟩, fun x hx => ?_⟩
  simp [Maps.has] at hx

end PartIpM
end Go.Proofs.Ytlnmbahakdmkgaa
