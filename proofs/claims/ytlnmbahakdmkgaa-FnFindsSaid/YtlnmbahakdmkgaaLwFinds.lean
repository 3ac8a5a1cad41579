/- At every draw: what is found of a drawn pattern begins as early as may be, and ends as late as may be from there. -/
import Derived.Test.YtlnmbahakdmkgaaZae
import Derived.Test.YtlnmbahakdmkgaaZbd
import Derived.Test.YtlnmbahakdmkgaaZbl
import Derived.Test.YtlnmbahakdmkgaaZbn
import Derived.Test.YtlnmbahakdmkgaaIpP
namespace Go.Proofs.Ytlnmbahakdmkgaa
open Go.RowKit

set_option maxHeartbeats 8000000 in
set_option maxRecDepth 100000 in
theorem lawFinds (ad : Option Addr) (n cap : Nat) (w : World) (hc : n ≤ 1048576 → Code w ad n) :
    Calls Try.prog 4 #[.slice ad n cap] w fun e w' => e = .returned (.bool true) ∧ Below w.heap.size w w' := by
  by_cases hbig : 1048576 < n
  · have CB : Hid _ := big_yes ad n cap hbig
    clear hc
    go_enter Try.func4, Try.ntmps4
    go_wp2_with fail
    refine Calls.mono (CB.out _) ?_
    rintro e w' ⟨rfl, rfl⟩
    go_wp2
    go_ret
    exact ⟨rfl, Below.refl _ _⟩
  have CB : Hid (∀ w, Calls Try.prog 11 #[.slice ad n cap] w fun e w' => e = .returned (.bool false) ∧ w' = w) := big_no ad n cap hbig
  have HC : Hid (Code w ad n) := hc (by omega)
  have hn : n ≤ 1048576 := by omega
  clear hc hbig
  go_enter Try.func4, Try.ntmps4
  go_wp2_with fail
  refine (CB.out _).mono ?_
  rintro e w0 ⟨rfl, rfl⟩
  go_wp2_with fail
  refine (drawPatterns_any ad n cap w0 hn HC.out).mono ?_
  rintro e w1 ⟨a, b, s, ha, hb, hs, rfl, b1⟩
  have B1 : Hid (Below w0.heap.size w0 w1) := b1
  obtain ⟨p, hp, hr, h0⟩ := oneT_of (okOne_all a ha)
  have la := texts04_len a ha
  obtain ⟨A, hA⟩ : ∃ A : ByteArray, A = ⟨a.toArray⟩ := ⟨_, rfl⟩
  obtain ⟨B, hB⟩ : ∃ B : ByteArray, B = ⟨b.toArray⟩ := ⟨_, rfl⟩
  have sa : A.size ≤ 7 := by rw [hA, lst_size]; exact la
  have hs2 : s.size ≤ 1048576 := by omega
  have EA : Hid (∀ i w, i ≤ s.size → Calls Try.prog 14 #[.string A, .string s, .int .i64 (i : Int)] w fun e w' => ∃ y, e = .returned y ∧ LAt w' y (el p s i) ∧ Below w.heap.size w w') := fun i w hi => ends_any A s p i w (by rw [hA]; exact hp) hr (by omega) hs2 hi
  have HR : Hid (∀ w, Calls Try.prog 13 #[.string A] w fun e w' => Below w.heap.size w w' ∧ ∃ v, e = .returned (.tuple #[.agg #[v], .bool true]) ∧ PcsAt w' v (p.map tp) ∧ 0 < p.length ∧ p.length ≤ 60) := fun w => readC _ p w (by rw [hA]; exact hp) (by omega)
  have HF : Hid (∀ v w, PcsAt w v (p.map tp) → p.length ≤ 60 → Calls Try.prog 9 #[.agg #[v], .string s] w (fun e w' => ∃ (x y : Int) (f : Bool), e = .returned (.tuple #[.int .i64 x, .int .i64 y, .bool f]) ∧ En.FindIs (p.map tp) s x y f ∧ Below w.heap.size w w')) := fun v w h h60 => implFind v (p.map tp) s w h (by simp; omega) (tp_small p (right_small hr)) hs2
  have HPAT : Hid (p.length ≤ 60 → Pk.pat (p.map tp) = true) := fun h60 => right_pat hr h0 h60
  have HYES : Hid (p.length ≤ 60 → ∀ (k z : Nat) (us : List Nat), k ≤ s.size → el p s k = us ++ [z] → (∀ y, y < k → el p s y = []) → En.FindIs (p.map tp) s (k : Int) (z : Int) true) := by
    intro h60 k z us hk e hno
    have hz : z ∈ el p s k := by rw [e]; simp
    refine .inl ⟨rfl, HPAT.out h60, k, z, rfl, rfl, hk, ?_, fun j hj => ?_, fun y hy j hj => ?_⟩
    · rw [List.length_map]; exact (el_mem hk).1 hz
    · rw [List.length_map] at hj
      exact sorted_last (En.list_sorted _ _ _ _) us z e j ((el_mem hk).2 hj)
    · rw [List.length_map] at hj
      have := (el_mem (p := p) (i := y) (by omega)).2 hj
      rw [hno y hy] at this
      cases this
  have HNOT : Hid ((∀ y, y < s.size + 1 → el p s y = []) → En.FindIs (p.map tp) s 0 0 false) := by
    intro hno
    refine .inr ⟨rfl, rfl, rfl, .inr fun y hy j hj => ?_⟩
    rw [List.length_map] at hj
    have := (el_mem (p := p) (i := y) hy).2 hj
    rw [hno y (by omega)] at this
    cases this
  rw [← hA, ← hB]
  clear hp hr h0 la hA hB ha hb b1 CB
  go_wp2_with fail
  refine (HR.out _).mono ?_
  rintro e w2 ⟨b2, v, rfl, v1, -, h60⟩
  have B2 : Hid (Below w0.heap.size w0 w2) := B1.out.trans (b2.mono B1.out.size)
  have CF : Hid (∀ O : Obj, Calls Try.prog 9 #[.agg #[v], .string s] (w2.alloc O) (fun e w' => ∃ (x y : Int) (f : Bool), e = .returned (.tuple #[.int .i64 x, .int .i64 y, .bool f]) ∧ En.FindIs (p.map tp) s x y f ∧ Below (w2.alloc O).heap.size (w2.alloc O) w')) := fun O => HF.out v _ (v1.keep ((Below.refl _ _).alloc (Nat.le_refl _) _)) h60
  obtain ⟨va, vc, rfl, -⟩ := v1
  generalize (p.map tp).length = pl at *
  clear b2 B1 HR HF
  go_wp2_with fail
  refine (CF.out _).mono ?_
  rintro e w3 ⟨fx, fy, ff, rfl, hfi, b3⟩
  have B3 : Hid (Below w0.heap.size w0 w3) := (B2.out.alloc B2.out.size _).trans (b3.mono (by have := B2.out.size; simp; omega))
  have HFI : Hid (En.FindIs (p.map tp) s fx fy ff) := hfi
  clear b3 B2 CF hfi
  go_wp2
  go_loopw [11] (fun i wr => ∃ k : Nat, i = .int .i64 (k : Int) ∧ k ≤ s.size + 1 ∧ Hid (Below w0.heap.size w0 wr) ∧ Hid (∀ y, y < k → el p s y = [])) (fun i _ => s.size + 1 - (intOf i).toNat)
  case atStart => exact ⟨0, rfl, by omega, B3.out, fun y hy => absurd hy (by omega)⟩
  case round =>
    obtain ⟨k, rfl, hk, HB, HNO⟩ := hrel
    by_cases hlt : k ≤ s.size
    · have i1 : (k : Int) ≤ (s.size : Int) := by omega
      go_wp2_with fail
      refine (EA.out k wr hlt).mono ?_
      rintro e w4 ⟨y, rfl, y1, b4⟩
      have B4 : Hid (Below w0.heap.size w0 w4) := HB.out.trans (b4.mono HB.out.size)
      have hll := el_len p s k
      rcases List.eq_nil_or_concat (el p s k) with hl0 | ⟨us, z, hl0⟩
      · have HN2 : Hid (∀ y, y < k + 1 → el p s y = []) := by
          intro y hy
          by_cases e : y = k
          · subst e; exact hl0
          · exact HNO.out y (by omega)
        rw [hl0] at y1
        obtain ⟨ya, yc, rfl, -⟩ := y1
        clear b4 hl0 hll
        go_wp2_with fail
        go_roundw
        case rel => exact ⟨k + 1, by go_num, by omega, B4.out, HN2.out⟩
        case measure => simp [intOf]; omega
      · rw [List.concat_eq_append] at hl0
        obtain ⟨rfl, rfl, rfl⟩ := HFI.out.one (HYES.out h60 k z us hlt hl0 HNO.out)
        rw [hl0] at y1 hll
        obtain ⟨ya, yc, rfl, hyf⟩ := y1
        obtain ⟨g, rfl, -, hcell⟩ := hyf (by simp)
        have hcz := hcell us.length (by simp)
        have hgz : (us ++ [z]).getD us.length 0 = z := by simp
        rw [hgz] at hcz
        rw [List.length_append, List.length_singleton] at hll ⊢
        obtain ⟨m, hm⟩ : ∃ m, m = us.length := ⟨_, rfl⟩
        rw [← hm] at hcz hll ⊢
        clear b4 hl0 hcell hyf hgz hm HYES HNOT HNO HFI
        have m0 : ((m : Int) + 1 == 0) = false := by simp; omega
        have m1 : (m : Int) < ((m + 1 : Nat) : Int) := by omega
        have m2 : IntKind.i64.wrap ((m : Int) + 1 - 1) = (m : Int) := by rw [show (m : Int) + 1 - 1 = (m : Int) by omega]; exact IntWalk.i64_in _ (by omega)
        go_wp2_with fail
        go_ret
        exact ⟨rfl, B4.out⟩
    · obtain rfl : k = s.size + 1 := by omega
      obtain ⟨rfl, rfl, rfl⟩ := HFI.out.one (HNOT.out HNO.out)
      have HCW : Hid (Code wr ad n) := by
        intro hp
        obtain ⟨b, off, e1, e2, e3⟩ := HC.out hp
        exact ⟨b, off, e1, Nat.lt_of_lt_of_le e2 HB.out.size, fun j hj => by obtain ⟨z, hz, e⟩ := e3 j hj; exact ⟨z, hz, (HB.out.cell (p := ⟨b, off + j, none⟩) e2).trans e⟩⟩
      clear HYES HNOT HNO HFI EA
      go_wp2_with fail
      refine (drawFind_any ad n cap wr hn HCW.out).mono ?_
      rintro e w4 ⟨qv, qs, t, rfl, q1, q60, qsm, ht, b4⟩
      have B4 : Hid (Below w0.heap.size w0 w4) := HB.out.trans (b4.mono HB.out.size)
      have CI : Hid (∀ w', Below w4.heap.size w4 w' → Calls Try.prog 9 #[.agg #[qv], .string t] w' (fun e w'' => ∃ (x y : Int) (f : Bool), e = .returned (.tuple #[.int .i64 x, .int .i64 y, .bool f]) ∧ En.FindIs qs t x y f ∧ Below w'.heap.size w' w'')) := fun w' hb => implFind qv qs t w' (q1.keep hb) (by omega) qsm (by omega)
      have CS : Hid (∀ w', Below w4.heap.size w4 w' → Calls Try.prog 7 #[.agg #[qv], .string t] w' (fun e w'' => ∃ (x y : Int) (f : Bool), e = .returned (.tuple #[.int .i64 x, .int .i64 y, .bool f]) ∧ En.FindIs qs t x y f ∧ Below w'.heap.size w' w'')) := fun w' hb => spFind qv qs t w' (q1.keep hb) (by omega) qsm (by omega)
      have HA4 : Hid (∀ O : Obj, Below w4.heap.size w4 (w4.alloc O)) := fun O => (Below.refl _ _).alloc (Nat.le_refl _) _
      obtain ⟨qa, qc, rfl, -⟩ := q1
      generalize qs.length = ql at *
      clear b4 HB HCW
      go_wp2_with fail
      refine (CI.out _ (HA4.out _)).mono ?_
      rintro e w5 ⟨x, y, f, rfl, hf, b5⟩
      have HF5 : Hid (En.FindIs qs t x y f) := hf
      have B45 : Hid (Below w4.heap.size w4 w5) := (HA4.out _).trans (b5.mono (by simp))
      have cp5 : w5.cell? ⟨w4.heap.size, 0, none⟩ = some (.slice qa ql qc) := by
        rw [b5.cell (p := ⟨w4.heap.size, 0, none⟩) (by simp), blk_cell (heap_alloc_new w4 _)]
        rfl
      clear hf b5 CI HA4
      go_wp2_with fail
      refine (CS.out _ B45.out).mono ?_
      rintro e w6 ⟨x', y', f', rfl, hf', b6⟩
      obtain ⟨-, -, rfl⟩ := hf'.one HF5.out
      have B6 : Hid (Below w0.heap.size w0 w6) := B4.out.trans ((B45.out.trans (b6.mono B45.out.size)).mono B4.out.size)
      clear hf' b6 CS B45 cp5 HF5
      have df : (f' == f') = true := by simp
      go_wp2_with fail
      go_ret
      exact ⟨rfl, B6.out⟩
#print axioms lawFinds
end Go.Proofs.Ytlnmbahakdmkgaa
