/- Where a piece may end: the specification's EndsAt. What is found: the specification's FindIn. -/
import Derived.Test.YtlnmbahakdmkgaaSpQ
import Derived.Test.YtlnmbahakdmkgaaPtG
namespace Go.Proofs.Ytlnmbahakdmkgaa
section PartSpR
open Go.RowKit
open Classical in
/-- The places where piece k may end, from i on. -/
noncomputable def En.list (ps : List Pi) (s : ByteArray) (k i : Nat) : List Nat := (List.range (s.size + 1)).filter fun j => decide (En.Ends ps s k i j)
open Classical in
/-- What EndsAt answers. -/
noncomputable def En.ans (ps : List Pi) (s : ByteArray) (k i : Int) : List Nat := if Pk.pat ps = true ∧ (0 ≤ k ∧ k ≤ (ps.length : Int) - 1) ∧ (0 ≤ i ∧ i ≤ (s.size : Int)) then En.list ps s k.toNat i.toNat else []
theorem pat_pieces {ps : List Pi} (h : Pk.pat ps = true) : 0 < ps.length ∧ ps.length ≤ 60 ∧ ∀ k, k < ps.length → Pk.piece k (ps.getD k Pi.no) = true := by
  unfold Pk.pat at h
  simp only [Bool.and_eq_true, decide_eq_true_eq] at h
  refine ⟨by omega, by omega, fun k hk => ?_⟩
  have := h.2
  unfold Pk.upto at this
  rw [List.all_eq_true] at this
  exact this k (List.mem_range.2 hk)
/-- From a new memory on: where piece k may end. -/
theorem at_list {c : Mm} {w : World} {k i q : Nat} (h : BAt w q (c.s.size + 1) (En.Ends c.ps c.s k i)) : ∃ f : Nat → Bool, (∀ j, j < c.s.size + 1 → w.cell? ⟨q, j, none⟩ = some (.bool (f j))) ∧ (List.range (c.s.size + 1)).filter f = En.list c.ps c.s k i := by
  obtain ⟨f, hf⟩ := h.fn
  refine ⟨f, fun j hj => (hf j hj).1, List.filter_congr fun j hj => ?_⟩
  rw [List.mem_range] at hj
  have := (hf j hj).2
  rw [Bool.eq_iff_iff, this]
  simp

theorem Ws.low {B C : Nat} {w : World} {y : Value} {ws : List Nat} (h : Ws B w y ws) (hc : C ≤ B) : Ws C w y ws := by
  refine ⟨h.1, ?_⟩
  rcases h.2 with hn | ⟨g, cap, cur, rfl, h1, rest⟩
  · exact .inl hn
  · exact .inr ⟨g, cap, cur, rfl, Nat.le_trans hc h1, rest⟩

end PartSpR
section PartSpS
open Go.RowKit
/-- What FindIn answers. -/
def En.FindIs (ps : List Pi) (s : ByteArray) (a b : Int) (r : Bool) : Prop :=
  (r = true ∧ Pk.pat ps = true ∧ ∃ x e : Nat, a = (x : Int) ∧ b = (e : Int) ∧ x ≤ s.size ∧ En.Ends ps s (ps.length - 1) x e ∧ (∀ j, En.Ends ps s (ps.length - 1) x j → j ≤ e) ∧ ∀ y, y < x → ∀ j, ¬ En.Ends ps s (ps.length - 1) y j) ∨
  (r = false ∧ a = 0 ∧ b = 0 ∧ (Pk.pat ps = false ∨ ∀ y, y ≤ s.size → ∀ j, ¬ En.Ends ps s (ps.length - 1) y j))
theorem En.FindIs.one {ps : List Pi} {s : ByteArray} {a b a' b' : Int} {r r' : Bool} (h : En.FindIs ps s a b r) (k : En.FindIs ps s a' b' r') : a = a' ∧ b = b' ∧ r = r' := by
  rcases h with ⟨rfl, hp, x, e, rfl, rfl, h1, h2, h3, h4⟩ | ⟨rfl, rfl, rfl, h1⟩
  · rcases k with ⟨rfl, _, x', e', rfl, rfl, k1, k2, k3, k4⟩ | ⟨rfl, rfl, rfl, k1⟩
    · obtain rfl : x = x' := by
        rcases Nat.lt_trichotomy x x' with hl | hl | hl
        · exact absurd h2 (k4 x hl e)
        · exact hl
        · exact absurd k2 (h4 x' hl e')
      have := h3 _ k2
      have := k3 _ h2
      exact ⟨rfl, by omega, rfl⟩
    · rcases k1 with k1 | k1
      · rw [hp] at k1; cases k1
      · exact absurd h2 (k1 x h1 e)
  · rcases k with ⟨rfl, hp, x', e', rfl, rfl, k1, k2, k3, k4⟩ | ⟨rfl, rfl, rfl, k1⟩
    · rcases h1 with h1 | h1
      · rw [hp] at h1; cases h1
      · exact absurd k2 (h1 x' k1 e')
    · exact ⟨rfl, rfl, rfl⟩
theorem En.mem_list {ps : List Pi} {s : ByteArray} {k i j : Nat} : j ∈ En.list ps s k i ↔ j < s.size + 1 ∧ En.Ends ps s k i j := by
  unfold En.list
  rw [List.mem_filter, List.mem_range]
  simp
theorem En.list_sorted (ps : List Pi) (s : ByteArray) (k i : Nat) : (En.list ps s k i).Pairwise (· < ·) := by
  unfold En.list
  exact List.Pairwise.filter _ List.pairwise_lt_range
theorem sorted_last {l : List Nat} (h : l.Pairwise (· < ·)) (us : List Nat) (v : Nat) (e : l = us ++ [v]) : ∀ j, j ∈ l → j ≤ v := by
  subst e
  intro j hj
  rw [List.mem_append, List.mem_singleton] at hj
  rcases hj with hj | rfl
  · exact Nat.le_of_lt ((List.pairwise_append.1 h).2.2 j hj v (by simp))
  · exact Nat.le_refl _

set_option maxHeartbeats 4000000 in
set_option maxRecDepth 100000 in
theorem spFind (v : Value) (ps : List Pi) (s : ByteArray) (w : World) (h : PcsAt w v ps) (hl : ps.length ≤ 1048576) (hsm : Small ps ps.length) (hs : s.size ≤ 1048576) :
    Calls Try.prog 7 #[.agg #[v], .string s] w (fun e w' => ∃ (a b : Int) (r : Bool), e = .returned (.tuple #[.int .i64 a, .int .i64 b, .bool r]) ∧ En.FindIs ps s a b r ∧ Below w.heap.size w w') := by
  have CP : Hid (∀ w' : World, Below w.heap.size w w' → Calls Try.prog 19 #[.agg #[v]] w' fun e w'' => e = .returned (.bool (Pk.pat ps)) ∧ Below w'.heap.size w' w'') := fun w' hb => specOk_any v ps w' (h.keep hb) hl hsm
  have CN : Hid (Pk.pat ps = true → ∀ w' : World, Below w.heap.size w w' → Calls Try.prog 20 #[.agg #[v], .string s] w' (fun e w'' => ∃ c : Mm, e = .returned (.pointer (some ⟨c.m, 0, none⟩)) ∧ c.s = s ∧ c.ps = ps ∧ c.K = ps.length ∧ c.M0 = w'.heap.size + 1 ∧ c.M1 = w''.heap.size ∧ Lie c ∧ Memo c (fun _ => False) w'' ∧ Below w'.heap.size w' w'')) := fun hp w' hb => spNew v s ps w' (h.keep hb) (pat_pieces hp).1 (pat_pieces hp).2.1 hs
  obtain ⟨pt, hpt⟩ : ∃ pt, pt = Pk.pat ps := ⟨_, rfl⟩
  rw [← hpt] at CP CN
  have HPT : Hid (pt = Pk.pat ps) := hpt
  obtain ⟨va, vc, rfl, -⟩ := h
  obtain ⟨n, hn⟩ : ∃ n, n = ps.length := ⟨_, rfl⟩
  rw [← hn] at CP CN hl
  have HN : Hid (n = ps.length) := hn
  clear hpt hsm
  rw [← hn]
  clear hn
  have HB1 : Hid (∀ A : Obj, Below w.heap.size w (w.alloc A)) := fun A => (Below.refl _ _).alloc (Nat.le_refl _) _
  go_enter Try.func7, Try.ntmps7
  go_wp2_with fail
  refine (CP.out _ (HB1.out _)).mono ?_
  rintro e w1 ⟨rfl, b1⟩
  have HW1 : Hid (Below w.heap.size w w1) := (HB1.out _).trans (b1.mono (by simp))
  have cp : w1.cell? ⟨w.heap.size, 0, none⟩ = some (.slice va n vc) := by
    rw [b1.cell (p := ⟨w.heap.size, 0, none⟩) (by simp), blk_cell (heap_alloc_new w _)]
    rfl
  have hwl : w.heap.size + 1 ≤ w1.heap.size := by have := b1.size; simpa using this
  clear b1 CP
  cases pt with
  | false =>
    go_wp2_with fail
    go_ret3
    exact ⟨0, 0, false, rfl, .inr ⟨rfl, rfl, rfl, .inl HPT.out.symm⟩, HW1.out⟩
  | true =>
    obtain ⟨n0, n60, hpp⟩ := pat_pieces HPT.out.symm
    have HPP : Hid (∀ k, k < ps.length → Pk.piece k (ps.getD k Pi.no) = true) := hpp
    rw [← HN.out] at n0 n60
    clear hpp
    have dn : ((n : Int) == 0) = false := by simp; omega
    go_wp2_with fail
    refine (CN.out trivial _ HW1.out).mono ?_
    rintro e w4 ⟨c, rfl, e1, e2, e3, e4, e5, L, hm, b4⟩
    have HC : Hid (∀ (W : World) (x : Nat), Memo c (fun _ => False) W → x < s.size + 1 → Calls Try.prog 22 #[.pointer (some ⟨c.m, 0, none⟩), .int .i64 ((n : Int) - 1), .int .i64 (x : Int)] W (AtPost c (fun _ => False) (En.Ends c.ps c.s (ps.length - 1) x) W)) := by
      intro W x hM hx
      have e : (n : Int) - 1 = ((ps.length - 1 : Nat) : Int) := by have := HN.out; omega
      rw [e]
      exact spAt c L (fun k hk => by rw [e2]; exact HPP.out k (by rw [e3, HN.out] at hk; exact hk)) _ (by have := HN.out; omega) _ W x (fun _ h => h.elim) hM (by rw [e1]; omega)
    have HW4 : Hid (Below w.heap.size w w4) := HW1.out.trans (b4.mono (by omega))
    have HCC : Hid (c.s = s ∧ c.ps = ps ∧ w.heap.size + 1 ≤ c.M0 ∧ c.M0 ≤ w4.heap.size) := ⟨e1, e2, by omega, by have := L.hm; have := hm.2.2.2.2.2; omega⟩
    have cp4 : w4.cell? ⟨w.heap.size, 0, none⟩ = some (.slice va n vc) := (b4.cell (p := ⟨w.heap.size, 0, none⟩) (by show w.heap.size < w1.heap.size; omega)).trans cp
    have HM4 : Hid (Memo c (fun _ => False) w4) := hm
    have HLI : Hid (Lie c) := L
    clear e1 e2 e3 e4 e5 L hm b4 HPP CN HW1 cp
    go_wp2_with fail
    go_loopw [8] (fun j wr => ∃ t : Nat, j = .int .i64 (t : Int) ∧ t ≤ s.size + 1 ∧ Hid (Memo c (fun _ => False) wr) ∧ Hid (Below (w.heap.size + 1) w4 wr) ∧ Hid (c.M0 ≤ wr.heap.size) ∧ Hid (∀ y, y < t → ∀ j, ¬ En.Ends ps s (ps.length - 1) y j)) (fun j _ => s.size + 1 - (intOf j).toNat)
    case atStart => exact ⟨0, rfl, by omega, HM4.out, Below.refl _ _, HCC.out.2.2.2, fun y hy => absurd hy (by omega)⟩
    case round =>
      obtain ⟨t, rfl, ht, HM, HB, HM0, HNE⟩ := hrel
      clear HM4
      by_cases hlt : t < s.size + 1
      · have t1 : (t : Int) ≤ (s.size : Int) := by omega
        have cpr : wr.cell? ⟨w.heap.size, 0, none⟩ = some (.slice va n vc) := (HB.out.cell (p := ⟨w.heap.size, 0, none⟩) (by show w.heap.size < w.heap.size + 1; omega)).trans cp4
        have hn0 : 0 ≤ (n : Int) - 1 := by omega
        go_wp2_with fail
        refine (HC.out _ t HM.out hlt).mono ?_
        rintro e w5 ⟨q, cc, rfl, q1, q2, q3, q4, q5⟩
        obtain ⟨f, hf1, hf2⟩ := at_list q3
        rw [HCC.out.1] at hf1
        rw [HCC.out.1, HCC.out.2.1] at hf2
        rw [HCC.out.1]
        have HL : Hid (Calls Try.prog 21 #[.slice (some ⟨q, 0, none⟩) (s.size + 1) cc] w5 (fun e w' => ∃ y, e = .returned y ∧ y ≠ .slice none 0 0 ∧ Ws w5.heap.size w' y ((List.range (s.size + 1)).filter f) ∧ Below w5.heap.size w5 w')) := spList q (s.size + 1) cc f w5 q3.1 hf1 (by omega)
        have HB5 : Hid (Below (w.heap.size + 1) w4 w5) := HB.out.trans ((q5.below HM0.out).mono HCC.out.2.2.1)
        have HM5 : Hid (Memo c (fun _ => False) w5) := q4
        have HS5 : Hid (c.M0 ≤ w5.heap.size) := Nat.le_trans HM0.out q5.2.1
        have HFF : Hid ((List.range (s.size + 1)).filter f = En.list ps s (ps.length - 1) t) := hf2
        clear q1 q2 q3 q4 q5 hf1 hf2 HM HB cpr HM0
        go_wp2_with fail
        refine HL.out.mono ?_
        rintro e w6 ⟨y, rfl, y1, y2, y3⟩
        rw [HFF.out] at y2
        have HB6 : Hid (Below (w.heap.size + 1) w4 w6) := HB5.out.trans (y3.mono (by have := HS5.out; have := HCC.out.2.2.1; omega))
        have HM6 : Hid (Memo c (fun _ => False) w6) := HM5.out.up HLI.out (fun _ h => h.elim) y3
        have HS6 : Hid (c.M0 ≤ w6.heap.size) := Nat.le_trans HS5.out y3.size
        rcases List.eq_nil_or_concat (En.list ps s (ps.length - 1) t) with hl0 | ⟨us, z, hl0⟩
        · have HNE2 : Hid (∀ y, y < t + 1 → ∀ j, ¬ En.Ends ps s (ps.length - 1) y j) := by
            intro y hy j hj
            by_cases hyt : y = t
            · subst hyt
              have : j ∈ En.list ps s (ps.length - 1) y := En.mem_list.2 ⟨by have := hj.le; omega, hj⟩
              rw [hl0] at this
              cases this
            · exact HNE.out y (by omega) j hj
          rw [hl0] at y2
          obtain ⟨ya, yc, rfl⟩ : ∃ ya yc, y = .slice ya 0 yc := by
            rcases y2.2 with ⟨e, _⟩ | ⟨g, cap, cur, e, _⟩
            · exact ⟨none, 0, e⟩
            · exact ⟨_, cap, e⟩
          clear y1 y2 y3 HL HB5 HM5 HS5 HFF HNE hl0
          go_wp2_with fail
          go_roundw
          case rel => exact ⟨t + 1, by go_num, by omega, HM6.out, HB6.out, HS6.out, HNE2.out⟩
          case measure => simp [intOf]; omega
        · rw [List.concat_eq_append] at hl0
          have hz : z ∈ En.list ps s (ps.length - 1) t := by rw [hl0]; simp
          have HFI : Hid (En.FindIs ps s (t : Int) (z : Int) true) := .inl ⟨rfl, HPT.out.symm, t, z, rfl, rfl, by omega, (En.mem_list.1 hz).2, fun j hj => sorted_last (En.list_sorted _ _ _ _) us z hl0 j (En.mem_list.2 ⟨by have := hj.le; omega, hj⟩), HNE.out⟩
          rw [hl0] at y2
          obtain ⟨g, cap, rfl, -, -, hcell⟩ := y2.form (by simp)
          have hcz := hcell us.length (by simp)
          have hgz : (us ++ [z]).getD us.length 0 = z := by simp
          rw [hgz] at hcz
          rw [List.length_append, List.length_singleton]
          obtain ⟨m, hm⟩ : ∃ m, m = us.length := ⟨_, rfl⟩
          rw [← hm] at hcz ⊢
          have hmm : m ≤ 1048577 := by
            have h1 : (En.list ps s (ps.length - 1) t).length ≤ s.size + 1 := by
              unfold En.list
              refine Nat.le_trans (List.length_filter_le _ _) (by simp)
            rw [hl0, List.length_append, List.length_singleton] at h1
            omega
          have HW6 : Hid (Below w.heap.size w w6) := HW4.out.trans (HB6.out.mono (by omega))
          clear y1 y2 y3 HL HB5 HM5 HS5 HFF HNE hl0 hz hcell hgz hm HB6 HM6 HS6 HW4 HC
          have m1 : (m : Int) < ((m + 1 : Nat) : Int) := by omega
          have m2 : IntKind.i64.wrap ((m : Int) + 1 - 1) = (m : Int) := by rw [show (m : Int) + 1 - 1 = (m : Int) by omega]; exact IntWalk.i64_in _ (by omega)
          go_wp2_with fail
          go_quiet (fail)
          go_wp2_with fail
          go_ret3
          exact ⟨_, _, _, rfl, HFI.out, below_drewN HW6.out _⟩
      · obtain rfl : t = s.size + 1 := by omega
        have HW6 : Hid (Below w.heap.size w wr) := HW4.out.trans (HB.out.mono (by omega))
        go_wp2_with fail
        go_ret3
        exact ⟨_, _, _, rfl, .inr ⟨rfl, rfl, rfl, .inr fun y hy => HNE.out y (by omega)⟩, HW6.out⟩
end PartSpS
end Go.Proofs.Ytlnmbahakdmkgaa
