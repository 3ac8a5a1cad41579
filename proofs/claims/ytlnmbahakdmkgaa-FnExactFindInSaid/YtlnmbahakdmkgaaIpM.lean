/- The linked pieces, made. -/
import Derived.Test.YtlnmbahakdmkgaaIpL
namespace Go.Proofs.Ytlnmbahakdmkgaa
open Go.RowKit Go.Maps

theorem Try.infoPL : (Try.prog.info? 54).map (fun i => (i.zero, i.size, i.bytes)) = some (some (.pointer none), 1, 8) := by kernel_rfl
set_option maxRecDepth 100000 in
/-- make of n pointers, all nil. -/
theorem makePL_run (n : Nat) (h : n ≤ 1000000000) : ∃ M : Array Value, M.size = n ∧ (∀ j, j < n → M[j]? = some (.pointer none)) ∧ ∀ W : World, (Instr.makeSlice 90 (.int .i64 (n : Int)) (.int .i64 (n : Int))).run Try.prog W = .ok (.slice (some ⟨W.heap.size, 0, none⟩) n n) (W.alloc (.cells M 54)) := by
  obtain ⟨i0, hi, hz0, hz1, hz2⟩ := info_parts Try.infoPL
  refine ⟨madeCells (Value.pointer none).cells (((n : Nat) : Int).toNat * i0.size), by rw [size_madeCells, hz1]; simp, fun j hj => ?_, fun W => ?_⟩
  · have e : (madeCells (Value.pointer none).cells (((n : Nat) : Int).toNat * i0.size)).toList = List.replicate n (.pointer none) := by
      rw [hz1]
      have := toList_madeCells_one (.pointer none) n
      simp only [Int.toNat_natCast, Nat.mul_one]
      exact this
    have e2 : (madeCells (Value.pointer none).cells (((n : Nat) : Int).toNat * i0.size))[j]? = (List.replicate n (Value.pointer none))[j]? := by rw [← e]; simp
    rw [e2]
    simp [hj]
  · have h := run_make (P := Try.prog) W 90 54 i0 (.pointer none) Try.underlying90 hi hz0 .i64 .i64 (n : Int) (n : Int) (by omega) (by omega) (by rw [hz2]; omega) (by omega)
    simpa using h

/-- The linked pieces that qs and bs tell. -/
def cI (w : World) (s : ByteArray) (ps : List Pi) (qs bs : List Nat) (M1 t : Nat) : Im := ⟨w.heap.size, M1, t, s, ps, fun j => qs.getD j 0, fun j => bs.getD j 0⟩
/-- Of n links t are made. -/
structure Lk (w : World) (s : ByteArray) (ps : List Pi) (g n t : Nat) (wr : World) (arr : Array Value) (qs bs : List Nat) : Prop where
  gb : wr.heap[g]? = some (.cells arr 54 (0, 0))
  gs : arr.size = n
  ga : ∀ j, j < n → arr[j]? = some (.pointer (if j < t then some ⟨qs.getD j 0, 0, none⟩ else none))
  lq : qs.length = t
  lb : bs.length = t
  lp : ∀ j, j < t → LpAt wr (qs.getD j 0) (ps.getD j Pi.no).op (ps.getD j Pi.no).text ((cI w s ps qs bs 0 0).f1 j) ((cI w s ps qs bs 0 0).f2 j) ((cI w s ps qs bs 0 0).kb j)
  kn : ∀ j, j < t → 0 < (ps.getD j Pi.no).kids.length → wr.heap[bs.getD j 0]? = some (.map #[] 0)
  lo : ∀ j, j < t → w.heap.size ≤ qs.getD j 0 ∧ (0 < (ps.getD j Pi.no).kids.length → w.heap.size ≤ bs.getD j 0)
  bb : ∀ i j, i < t → j < t → 0 < (ps.getD i Pi.no).kids.length → 0 < (ps.getD j Pi.no).kids.length → i ≠ j → bs.getD i 0 ≠ bs.getD j 0
  gl : w.heap.size ≤ g
  bel : Below w.heap.size w wr
theorem getD_old {l : List Nat} {x j : Nat} (h : j < l.length) : (l ++ [x]).getD j 0 = l.getD j 0 := by simp [List.getElem?_append_left h]
theorem getD_new {l : List Nat} {x : Nat} : (l ++ [x]).getD l.length 0 = x := by simp
theorem Lk.step {w wr w' : World} {s : ByteArray} {ps : List Pi} {g n t : Nat} {arr : Array Value} {qs bs : List Nat} (h : Lk w s ps g n t wr arr qs bs) (hpk : ∀ j, j < t + 1 → Pk.piece j (ps.getD j Pi.no) = true) (ht : t < n) (q b : Nat) (hq : wr.heap.size ≤ q) (hb : wr.heap.size ≤ b)
    (ho : ∀ x, x < wr.heap.size → x ≠ g → w'.heap[x]? = wr.heap[x]?) (hg : w'.heap[g]? = some (.cells (arr.setIfInBounds t (.pointer (some ⟨q, 0, none⟩))) 54 (0, 0)))
    (hL : LpAt w' q (ps.getD t Pi.no).op (ps.getD t Pi.no).text ((cI w s ps qs bs 0 0).f1 t) ((cI w s ps qs bs 0 0).f2 t) (if 0 < (ps.getD t Pi.no).kids.length then some b else none))
    (hB : 0 < (ps.getD t Pi.no).kids.length → w'.heap[b]? = some (.map #[] 0)) (hen : Env wr w') (hsz : wr.heap.size ≤ w'.heap.size) :
    Lk w s ps g n (t + 1) w' (arr.setIfInBounds t (.pointer (some ⟨q, 0, none⟩))) (qs ++ [q]) (bs ++ [b]) := by
  have hgl := blk_lt h.gb
  have kidlt : ∀ j, j < t + 1 → ∀ i, i < (ps.getD j Pi.no).kids.length → En.kid (ps.getD j Pi.no) i < t := by
    intro j hj i hi
    obtain ⟨-, h2, -⟩ := Pk.piece_kids (hpk j hj)
    obtain ⟨a, _, e2, e3⟩ := h2 i hi
    omega
  have f1e : ∀ j, j < t + 1 → (cI w s ps (qs ++ [q]) (bs ++ [b]) 0 0).f1 j = (cI w s ps qs bs 0 0).f1 j := by
    intro j hj
    show (if 0 < (ps.getD j Pi.no).kids.length then some (⟨(qs ++ [q]).getD (En.kid (ps.getD j Pi.no) 0) 0, 0, none⟩ : Addr) else none) = if 0 < (ps.getD j Pi.no).kids.length then some ⟨qs.getD (En.kid (ps.getD j Pi.no) 0) 0, 0, none⟩ else none
    by_cases hk : 0 < (ps.getD j Pi.no).kids.length
    · rw [if_pos hk, if_pos hk, getD_old (by rw [h.lq]; exact kidlt j hj 0 hk)]
    · rw [if_neg hk, if_neg hk]
  have f2e : ∀ j, j < t + 1 → (cI w s ps (qs ++ [q]) (bs ++ [b]) 0 0).f2 j = (cI w s ps qs bs 0 0).f2 j := by
    intro j hj
    show (if 1 < (ps.getD j Pi.no).kids.length then some (⟨(qs ++ [q]).getD (En.kid (ps.getD j Pi.no) 1) 0, 0, none⟩ : Addr) else none) = if 1 < (ps.getD j Pi.no).kids.length then some ⟨qs.getD (En.kid (ps.getD j Pi.no) 1) 0, 0, none⟩ else none
    by_cases hk : 1 < (ps.getD j Pi.no).kids.length
    · rw [if_pos hk, if_pos hk, getD_old (by rw [h.lq]; exact kidlt j hj 1 hk)]
    · rw [if_neg hk, if_neg hk]
  have kbo : ∀ j, j < t → (cI w s ps (qs ++ [q]) (bs ++ [b]) 0 0).kb j = (cI w s ps qs bs 0 0).kb j := by
    intro j hj
    show (if 0 < (ps.getD j Pi.no).kids.length then some ((bs ++ [b]).getD j 0) else none) = if 0 < (ps.getD j Pi.no).kids.length then some (bs.getD j 0) else none
    rw [getD_old (by rw [h.lb]; exact hj)]
  have qt : (qs ++ [q]).getD t 0 = q := by have := @getD_new qs q; rwa [h.lq] at this
  have bt : (bs ++ [b]).getD t 0 = b := by have := @getD_new bs b; rwa [h.lb] at this
  have qo : ∀ j, j < t → (qs ++ [q]).getD j 0 = qs.getD j 0 := fun j hj => getD_old (by rw [h.lq]; exact hj)
  have bo : ∀ j, j < t → (bs ++ [b]).getD j 0 = bs.getD j 0 := fun j hj => getD_old (by rw [h.lb]; exact hj)
  have ng : ∀ j, j < t → qs.getD j 0 ≠ g := fun j hj e => by
    have h1 := h.lp j hj
    unfold LpAt at h1
    exact type_ne h1 h.gb (by decide) e
  refine ⟨hg, by simpa using h.gs, fun j hj => ?_, by simp [h.lq], by simp [h.lb], fun j hj => ?_, fun j hj hk => ?_, fun j hj => ?_, fun i j hi hj hki hkj hij => ?_, h.gl, ?_⟩
  · rw [Array.getElem?_setIfInBounds]
    by_cases hjt : t = j
    · subst hjt
      rw [if_pos rfl, if_pos (by rw [h.gs]; exact hj), if_pos (by omega), qt]
    · rw [if_neg hjt, h.ga j hj]
      by_cases hjl : j < t
      · rw [if_pos hjl, if_pos (by omega), qo j hjl]
      · rw [if_neg hjl, if_neg (by omega)]
  · rw [f1e j hj, f2e j hj]
    by_cases hjt : j = t
    · subst hjt
      rw [qt]
      have e : (cI w s ps (qs ++ [q]) (bs ++ [b]) 0 0).kb j = if 0 < (ps.getD j Pi.no).kids.length then some b else none := by
        show (if 0 < (ps.getD j Pi.no).kids.length then some ((bs ++ [b]).getD j 0) else none) = _
        rw [bt]
      rw [e]
      exact hL
    · have hjl : j < t := by omega
      rw [qo j hjl, kbo j hjl]
      have h1 := h.lp j hjl
      exact (ho _ (blk_lt h1) (ng j hjl)).trans h1
  · by_cases hjt : j = t
    · subst hjt
      rw [bt]
      exact hB hk
    · have hjl : j < t := by omega
      rw [bo j hjl]
      have h1 := h.kn j hjl hk
      refine (ho _ (blk_lt h1) (fun e => ?_)).trans h1
      rw [e, h.gb] at h1
      cases h1
  · have hws := h.bel.size
    by_cases hjt : j = t
    · subst hjt
      rw [qt, bt]
      exact ⟨by omega, fun _ => by omega⟩
    · have hjl : j < t := by omega
      rw [qo j hjl, bo j hjl]
      exact h.lo j hjl
  · have old : ∀ j, j < t → 0 < (ps.getD j Pi.no).kids.length → bs.getD j 0 < wr.heap.size := fun j hj hk => blk_lt (h.kn j hj hk)
    by_cases hit : i = t
    · subst hit
      rw [bt, bo j (by omega)]
      have := old j (by omega) hkj
      omega
    · by_cases hjt : j = t
      · subst hjt
        rw [bt, bo i (by omega)]
        have := old i (by omega) hki
        omega
      · rw [bo i (by omega), bo j (by omega)]
        exact h.bb i j (by omega) (by omega) hki hkj hij
  · refine ⟨hen.1.trans h.bel.os, hen.2.1.trans h.bel.tape, hen.2.2.trans h.bel.output, Nat.le_trans h.bel.size hsz, fun x hx => ?_⟩
    have := h.gl
    have := h.bel.size
    exact (ho x (by omega) (by omega)).trans (h.bel.block x hx)
/-- At last. -/
theorem Lk.fin {w wr : World} {s : ByteArray} {ps : List Pi} {g n : Nat} {arr : Array Value} {qs bs : List Nat} (h : Lk w s ps g n n wr arr qs bs) (hpk : ∀ j, j < n → Pk.piece j (ps.getD j Pi.no) = true) (hs : s.size ≤ 1048576) :
    ILie (cI w s ps qs bs wr.heap.size n) ∧ IMemo (cI w s ps qs bs wr.heap.size n) (fun _ => False) wr := by
  refine ⟨⟨fun k hk => ⟨(h.lo k hk).1, blk_lt (h.lp k hk)⟩, fun k hk hk0 => ⟨(h.lo k hk).2 hk0, blk_lt (h.kn k hk hk0)⟩, fun k j hk hj hk0 hj0 hkj => h.bb k j hk hj hk0 hj0 hkj, hpk, hs⟩, ⟨h.lp, fun k hk hk0 => ?_, Nat.le_refl _⟩⟩
  refine ⟨.map [], ⟨#[], 0, h.kn k hk hk0, ⟨by simp, MapKept.stamped_empty 0, by simp⟩, Nat.le_refl _, rfl⟩, fun x hx => ?_⟩
  simp [Maps.has] at hx

#print axioms Lk.step
#print axioms Lk.fin
end Go.Proofs.Ytlnmbahakdmkgaa
