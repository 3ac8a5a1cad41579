/- When a pattern is right: what PatternOk of the specification answers, at every pattern. -/
import Derived.Test.YtlnmbahakdmkgaaZaa
namespace Go.Proofs.Ytlnmbahakdmkgaa
open Go.RowKit

set_option maxHeartbeats 400000 in
theorem in_yes (x b : Int) (w : World) (h0 : 0 ≤ x) (h1 : x ≤ b) : Calls Try.prog 41 #[.int .i64 x, .int .i64 0, .int .i64 b] w fun e w' => e = .returned (.bool true) ∧ w' = w := by
  have d1 : decide ((0 : Int) ≤ x) = true := by simpa using h0
  have d2 : decide (x ≤ b) = true := by simpa using h1
  clear h0 h1
  go_enter Try.func41, Try.ntmps41
  go_wp2
  go_ret
  exact ⟨rfl, rfl⟩
set_option maxHeartbeats 400000 in
theorem in_no (x b : Int) (w : World) (h : ¬ (0 ≤ x ∧ x ≤ b)) : Calls Try.prog 41 #[.int .i64 x, .int .i64 0, .int .i64 b] w fun e w' => e = .returned (.bool false) ∧ w' = w := by
  by_cases h0 : 0 ≤ x
  · have d1 : decide ((0 : Int) ≤ x) = true := by simpa using h0
    have d2 : decide (x ≤ b) = false := by simp; omega
    clear h0 h
    go_enter Try.func41, Try.ntmps41
    go_wp2
    go_ret
    exact ⟨rfl, rfl⟩
  · have d1 : decide ((0 : Int) ≤ x) = false := by simpa using h0
    clear h0 h
    go_enter Try.func41, Try.ntmps41
    go_wp2
    go_ret
    exact ⟨rfl, rfl⟩
set_option maxHeartbeats 400000 in
theorem in_len (n : Nat) (w : World) : Calls Try.prog 41 #[.int .i64 (n : Int), .int .i64 1, .int .i64 60] w fun e w' => e = .returned (.bool (decide (1 ≤ n ∧ n ≤ 60))) ∧ w' = w := by
  by_cases h0 : 1 ≤ n
  · have d1 : decide ((1 : Int) ≤ (n : Int)) = true := by simp; omega
    have e : decide (1 ≤ n ∧ n ≤ 60) = decide ((n : Int) ≤ 60) := by
      by_cases h : n ≤ 60
      · have h2 : decide ((n : Int) ≤ 60) = true := by simp; omega
        rw [h2]; simp; omega
      · have h2 : decide ((n : Int) ≤ 60) = false := by simp; omega
        rw [h2]; simp; omega
    rw [e]
    go_enter Try.func41, Try.ntmps41
    go_wp2
    go_ret
    exact ⟨rfl, rfl⟩
  · have d1 : decide ((1 : Int) ≤ (n : Int)) = false := by simp; omega
    have e : decide (1 ≤ n ∧ n ≤ 60) = false := by simp; omega
    rw [e]
    go_enter Try.func41, Try.ntmps41
    go_wp2
    go_ret
    exact ⟨rfl, rfl⟩

theorem two_of {ks : List Int} (h : ks.length = 2) : ∃ x y, ks = [x, y] := by
  match ks, h with
  | [x, y], _ => exact ⟨x, y, rfl⟩
theorem ahead0 {k : Nat} : Pk.ahead k [] = true := rfl
theorem ahead1 (k : Nat) (x : Int) (hx : 0 ≤ x ∧ x < (k : Int)) : Pk.ahead k [x] = true := by
  simp only [Pk.ahead, List.all_cons, List.all_nil, decide_eq_true hx]; rfl
theorem ahead2 (k : Nat) (x y : Int) (hx : 0 ≤ x ∧ x < (k : Int)) (hy : 0 ≤ y ∧ y < (k : Int)) : Pk.ahead k [x, y] = true := by
  simp only [Pk.ahead, List.all_cons, List.all_nil, decide_eq_true hx, decide_eq_true hy]; rfl

set_option maxHeartbeats 8000000 in
theorem specOk_any (v : Value) (ps : List Pi) (w : World) (h : PcsAt w v ps) (hl : ps.length ≤ 1048576) (hs : Small ps ps.length) :
    Calls Try.prog 19 #[.agg #[v]] w fun e w' => e = .returned (.bool (Pk.pat ps)) ∧ Below w.heap.size w w' := by
  obtain ⟨ad, c, rfl, f⟩ := h
  obtain ⟨n, hn⟩ : ∃ n, n = ps.length := ⟨_, rfl⟩
  obtain ⟨lb, hlb⟩ : ∃ lb, lb = decide (1 ≤ n ∧ n ≤ 60) := ⟨_, rfl⟩
  have HV : Hid (Pk.pat ps = (lb && Pk.upto ps n)) := by rw [hlb, hn]; rfl
  have CL : Hid (∀ w' : World, Calls Try.prog 41 #[.int .i64 (n : Int), .int .i64 1, .int .i64 60] w' fun e w'' => e = .returned (.bool lb) ∧ w'' = w') := by
    rw [hlb]
    exact fun w' => in_len n w'
  clear hlb
  have HS : Hid (Small ps n) := by rw [hn]; exact hs
  rw [← hn] at f hl ⊢
  have HFP : Hid (0 < n → ∃ b o, ad = some ⟨b, o, none⟩ ∧ b < w.heap.size ∧ ∀ i, i < n → PieceAt w b (o + i * 3) (ps.getD i Pi.no)) := f
  clear hs hn f
  go_enter Try.func19, Try.ntmps19
  go_wp2
  go_loopw [3] (fun i wr => ∃ k : Nat, i = .int .i64 (k : Int) ∧ k ≤ n ∧ Below w.heap.size w wr ∧ wr.cell? ⟨w.heap.size, 0, none⟩ = some (.slice ad n c) ∧ w.heap.size < wr.heap.size ∧ Hid (Pk.upto ps k = true)) (fun i _ => n - (intOf i).toNat)
  case atStart => exact ⟨0, rfl, by omega, (Below.refl _ _).alloc (Nat.le_refl _) _, by simp, by simp, rfl⟩
  case round =>
    obtain ⟨k, rfl, hk, hbel, cb, hsz, HU⟩ := hrel
    by_cases hlt : k < n
    · obtain ⟨b, o, rfl, hb, hc⟩ := HFP.out (by omega)
      have hpc := hc k hlt
      clear hc
      have hkl := (HS.out k hlt).1
      obtain ⟨p, hp⟩ : ∃ p, p = ps.getD k Pi.no := ⟨_, rfl⟩
      rw [← hp] at hpc hkl
      have HP : Hid (p = ps.getD k Pi.no) := hp
      clear hp
      obtain ⟨kv, c0, c1, c2, hkv⟩ := hpc
      have e0 := (hbel.cell hb).trans c0
      have e1 := (hbel.cell hb).trans c1
      have e2 := (hbel.cell hb).trans c2
      have hkv2 := hkv.keep hbel
      clear c0 c1 c2 hkv hb
      obtain ⟨op, t, ks⟩ := p
      simp only at e0 e1 hkv2 hkl
      obtain ⟨ka, kc, rfl, f⟩ := hkv2
      have HF : Hid (0 < ks.length → ∃ b o, ka = some ⟨b, o, none⟩ ∧ b < wr.heap.size ∧ ∀ j, j < ks.length → wr.cell? ⟨b, o + j, none⟩ = some (.int .i64 (ks.getD j 0))) := f
      clear f
      have i1 : (k : Int) < (n : Int) := by omega
      have hbel2 : Below w.heap.size w (wr.alloc (.cells #[.int .i64 op, .string t, .slice ka ks.length kc] 81)) := hbel.alloc (by omega) _
      have HBW : Hid (Below wr.heap.size wr (wr.alloc (.cells #[.int .i64 op, .string t, .slice ka ks.length kc] 81))) := (Below.refl _ _).alloc (Nat.le_refl _) _
      have cb2 := (HBW.out.cell (p := ⟨w.heap.size, 0, none⟩) hsz).trans cb
      have hsz2 : w.heap.size < (wr.alloc (.cells #[.int .i64 op, .string t, .slice ka ks.length kc] 81)).heap.size := by simp; omega
      have key : op = 5 ∨ op = 6 ∨ op = 7 ∨ op = 8 ∨ op = 9 ∨ op = 1 ∨ op = 3 ∨ op = 4 ∨ op = 2 ∨ op = 10 ∨ op = 11 ∨ op = 12 ∨ (op ≠ 5 ∧ op ≠ 6 ∧ op ≠ 7 ∧ op ≠ 8 ∧ op ≠ 9 ∧ op ≠ 1 ∧ op ≠ 3 ∧ op ≠ 4 ∧ op ≠ 2 ∧ op ≠ 10 ∧ op ≠ 11 ∧ op ≠ 12) := by omega
      rcases key with rfl | rfl | rfl | rfl | rfl | rfl | rfl | rfl | rfl | rfl | rfl | rfl | ⟨n5, n6, n7, n8, n9, n1, n3, n4, n2, n10, n11, n12⟩
      · have HQ : Hid (Pk.piece k ⟨5, t, ks⟩ = (Pk.ahead k ks && (decide (ks.length = 2) && decide (t.size = 0)))) := rfl
        by_cases hK : ks.length = 2
        · obtain ⟨x, y, rfl⟩ : ∃ x y, ks = [x, y] := two_of hK
          obtain ⟨bk, ok, rfl, lk, ck⟩ := HF.out (by simp)
          have x0 := (HBW.out.cell (p := ⟨bk, ok + 0, none⟩) lk).trans (ck 0 (by simp))
          have x1 := (HBW.out.cell (p := ⟨bk, ok + 1, none⟩) lk).trans (ck 1 (by simp))
          simp at x0 x1
          clear HF hK
          by_cases hT : 0 < t.size
          · have dT : decide ((0 : Int) < (t.size : Int)) = true := decide_eq_true (by omega)
            have HR : Hid (Pk.upto ps n = false) := Pk.upto_false ps n k hlt (by rw [← HP.out, HQ.out, decide_eq_false (show ¬ (t.size = 0) by omega), Bool.and_false, Bool.and_false])
            go_wp2
            go_ret
            rw [HV.out, HR.out, Bool.and_false]
            exact ⟨rfl, hbel2⟩
          · have dT : decide ((0 : Int) < (t.size : Int)) = false := decide_eq_false (by omega)
            go_wp2
            refine wp_loop_rounds 3 ?_
            rw [rounds_succ]
            by_cases hx : 0 ≤ x ∧ x < (k : Int)
            · have CI : Hid (∀ w' : World, Calls Try.prog 41 #[.int .i64 x, .int .i64 0, .int .i64 ((k : Int) - 1)] w' fun e w'' => e = .returned (.bool true) ∧ w'' = w') := fun w' => in_yes x ((k : Int) - 1) w' (by omega) (by omega)
              go_wp2_with fail
              refine (CI.out _).mono ?_
              rintro e w1 ⟨rfl, rfl⟩
              clear CI
              go_wp2
              rw [rounds_succ]
              by_cases hy : 0 ≤ y ∧ y < (k : Int)
              · have CI : Hid (∀ w' : World, Calls Try.prog 41 #[.int .i64 y, .int .i64 0, .int .i64 ((k : Int) - 1)] w' fun e w'' => e = .returned (.bool true) ∧ w'' = w') := fun w' => in_yes y ((k : Int) - 1) w' (by omega) (by omega)
                go_wp2_with fail
                refine (CI.out _).mono ?_
                rintro e w1 ⟨rfl, rfl⟩
                clear CI
                go_wp2
                rw [rounds_succ]
                have HR : Hid (Pk.upto ps (k + 1) = true) := by show _ = _; rw [Pk.upto_succ, HU.out, ← HP.out, HQ.out, decide_eq_true (show t.size = 0 by omega), ahead2 k x y hx hy]; rfl
                go_wp2
                go_roundw
                case rel => exact ⟨k + 1, by go_num, by omega, hbel2, cb2, hsz2, HR.out⟩
                case measure => simp [intOf]; omega
              · have CI : Hid (∀ w' : World, Calls Try.prog 41 #[.int .i64 y, .int .i64 0, .int .i64 ((k : Int) - 1)] w' fun e w'' => e = .returned (.bool false) ∧ w'' = w') := fun w' => in_no y ((k : Int) - 1) w' (by omega)
                have HR : Hid (Pk.upto ps n = false) := Pk.upto_false ps n k hlt (by rw [← HP.out, HQ.out, Pk.ahead_false k [x, y] 1 (by simp) hy, Bool.false_and])
                go_wp2_with fail
                refine (CI.out _).mono ?_
                rintro e w1 ⟨rfl, rfl⟩
                clear CI
                go_wp2
                go_ret
                rw [HV.out, HR.out, Bool.and_false]
                exact ⟨rfl, hbel2⟩
            · have CI : Hid (∀ w' : World, Calls Try.prog 41 #[.int .i64 x, .int .i64 0, .int .i64 ((k : Int) - 1)] w' fun e w'' => e = .returned (.bool false) ∧ w'' = w') := fun w' => in_no x ((k : Int) - 1) w' (by omega)
              have HR : Hid (Pk.upto ps n = false) := Pk.upto_false ps n k hlt (by rw [← HP.out, HQ.out, Pk.ahead_false k [x, y] 0 (by simp) hx, Bool.false_and])
              go_wp2_with fail
              refine (CI.out _).mono ?_
              rintro e w1 ⟨rfl, rfl⟩
              clear CI
              go_wp2
              go_ret
              rw [HV.out, HR.out, Bool.and_false]
              exact ⟨rfl, hbel2⟩
        · have dK : ((ks.length : Int) != 2) = true := by simp only [bne_iff_ne, ne_eq]; omega
          have HR : Hid (Pk.upto ps n = false) := Pk.upto_false ps n k hlt (by rw [← HP.out, HQ.out]; simp [hK])
          clear HF hK
          go_wp2
          go_ret
          rw [HV.out, HR.out, Bool.and_false]
          exact ⟨rfl, hbel2⟩
      · have HQ : Hid (Pk.piece k ⟨6, t, ks⟩ = (Pk.ahead k ks && (decide (ks.length = 2) && decide (t.size = 0)))) := rfl
        by_cases hK : ks.length = 2
        · obtain ⟨x, y, rfl⟩ : ∃ x y, ks = [x, y] := two_of hK
          obtain ⟨bk, ok, rfl, lk, ck⟩ := HF.out (by simp)
          have x0 := (HBW.out.cell (p := ⟨bk, ok + 0, none⟩) lk).trans (ck 0 (by simp))
          have x1 := (HBW.out.cell (p := ⟨bk, ok + 1, none⟩) lk).trans (ck 1 (by simp))
          simp at x0 x1
          clear HF hK
          by_cases hT : 0 < t.size
          · have dT : decide ((0 : Int) < (t.size : Int)) = true := decide_eq_true (by omega)
            have HR : Hid (Pk.upto ps n = false) := Pk.upto_false ps n k hlt (by rw [← HP.out, HQ.out, decide_eq_false (show ¬ (t.size = 0) by omega), Bool.and_false, Bool.and_false])
            go_wp2
            go_ret
            rw [HV.out, HR.out, Bool.and_false]
            exact ⟨rfl, hbel2⟩
          · have dT : decide ((0 : Int) < (t.size : Int)) = false := decide_eq_false (by omega)
            go_wp2
            refine wp_loop_rounds 3 ?_
            rw [rounds_succ]
            by_cases hx : 0 ≤ x ∧ x < (k : Int)
            · have CI : Hid (∀ w' : World, Calls Try.prog 41 #[.int .i64 x, .int .i64 0, .int .i64 ((k : Int) - 1)] w' fun e w'' => e = .returned (.bool true) ∧ w'' = w') := fun w' => in_yes x ((k : Int) - 1) w' (by omega) (by omega)
              go_wp2_with fail
              refine (CI.out _).mono ?_
              rintro e w1 ⟨rfl, rfl⟩
              clear CI
              go_wp2
              rw [rounds_succ]
              by_cases hy : 0 ≤ y ∧ y < (k : Int)
              · have CI : Hid (∀ w' : World, Calls Try.prog 41 #[.int .i64 y, .int .i64 0, .int .i64 ((k : Int) - 1)] w' fun e w'' => e = .returned (.bool true) ∧ w'' = w') := fun w' => in_yes y ((k : Int) - 1) w' (by omega) (by omega)
                go_wp2_with fail
                refine (CI.out _).mono ?_
                rintro e w1 ⟨rfl, rfl⟩
                clear CI
                go_wp2
                rw [rounds_succ]
                have HR : Hid (Pk.upto ps (k + 1) = true) := by show _ = _; rw [Pk.upto_succ, HU.out, ← HP.out, HQ.out, decide_eq_true (show t.size = 0 by omega), ahead2 k x y hx hy]; rfl
                go_wp2
                go_roundw
                case rel => exact ⟨k + 1, by go_num, by omega, hbel2, cb2, hsz2, HR.out⟩
                case measure => simp [intOf]; omega
              · have CI : Hid (∀ w' : World, Calls Try.prog 41 #[.int .i64 y, .int .i64 0, .int .i64 ((k : Int) - 1)] w' fun e w'' => e = .returned (.bool false) ∧ w'' = w') := fun w' => in_no y ((k : Int) - 1) w' (by omega)
                have HR : Hid (Pk.upto ps n = false) := Pk.upto_false ps n k hlt (by rw [← HP.out, HQ.out, Pk.ahead_false k [x, y] 1 (by simp) hy, Bool.false_and])
                go_wp2_with fail
                refine (CI.out _).mono ?_
                rintro e w1 ⟨rfl, rfl⟩
                clear CI
                go_wp2
                go_ret
                rw [HV.out, HR.out, Bool.and_false]
                exact ⟨rfl, hbel2⟩
            · have CI : Hid (∀ w' : World, Calls Try.prog 41 #[.int .i64 x, .int .i64 0, .int .i64 ((k : Int) - 1)] w' fun e w'' => e = .returned (.bool false) ∧ w'' = w') := fun w' => in_no x ((k : Int) - 1) w' (by omega)
              have HR : Hid (Pk.upto ps n = false) := Pk.upto_false ps n k hlt (by rw [← HP.out, HQ.out, Pk.ahead_false k [x, y] 0 (by simp) hx, Bool.false_and])
              go_wp2_with fail
              refine (CI.out _).mono ?_
              rintro e w1 ⟨rfl, rfl⟩
              clear CI
              go_wp2
              go_ret
              rw [HV.out, HR.out, Bool.and_false]
              exact ⟨rfl, hbel2⟩
        · have dK : ((ks.length : Int) != 2) = true := by simp only [bne_iff_ne, ne_eq]; omega
          have HR : Hid (Pk.upto ps n = false) := Pk.upto_false ps n k hlt (by rw [← HP.out, HQ.out]; simp [hK])
          clear HF hK
          go_wp2
          go_ret
          rw [HV.out, HR.out, Bool.and_false]
          exact ⟨rfl, hbel2⟩
      · have HQ : Hid (Pk.piece k ⟨7, t, ks⟩ = (Pk.ahead k ks && (decide (ks.length = 1) && decide (t.size = 0)))) := rfl
        by_cases hK : ks.length = 1
        · obtain ⟨x, rfl⟩ : ∃ x, ks = [x] := List.length_eq_one_iff.1 hK
          obtain ⟨bk, ok, rfl, lk, ck⟩ := HF.out (by simp)
          have x0 := (HBW.out.cell (p := ⟨bk, ok + 0, none⟩) lk).trans (ck 0 (by simp))
          simp at x0
          clear HF hK
          by_cases hT : 0 < t.size
          · have dT : decide ((0 : Int) < (t.size : Int)) = true := decide_eq_true (by omega)
            have HR : Hid (Pk.upto ps n = false) := Pk.upto_false ps n k hlt (by rw [← HP.out, HQ.out, decide_eq_false (show ¬ (t.size = 0) by omega), Bool.and_false, Bool.and_false])
            go_wp2
            go_ret
            rw [HV.out, HR.out, Bool.and_false]
            exact ⟨rfl, hbel2⟩
          · have dT : decide ((0 : Int) < (t.size : Int)) = false := decide_eq_false (by omega)
            go_wp2
            refine wp_loop_rounds 2 ?_
            rw [rounds_succ]
            by_cases hx : 0 ≤ x ∧ x < (k : Int)
            · have CI : Hid (∀ w' : World, Calls Try.prog 41 #[.int .i64 x, .int .i64 0, .int .i64 ((k : Int) - 1)] w' fun e w'' => e = .returned (.bool true) ∧ w'' = w') := fun w' => in_yes x ((k : Int) - 1) w' (by omega) (by omega)
              go_wp2_with fail
              refine (CI.out _).mono ?_
              rintro e w1 ⟨rfl, rfl⟩
              clear CI
              go_wp2
              rw [rounds_succ]
              have HR : Hid (Pk.upto ps (k + 1) = true) := by show _ = _; rw [Pk.upto_succ, HU.out, ← HP.out, HQ.out, decide_eq_true (show t.size = 0 by omega), ahead1 k x hx]; rfl
              go_wp2
              go_roundw
              case rel => exact ⟨k + 1, by go_num, by omega, hbel2, cb2, hsz2, HR.out⟩
              case measure => simp [intOf]; omega
            · have CI : Hid (∀ w' : World, Calls Try.prog 41 #[.int .i64 x, .int .i64 0, .int .i64 ((k : Int) - 1)] w' fun e w'' => e = .returned (.bool false) ∧ w'' = w') := fun w' => in_no x ((k : Int) - 1) w' (by omega)
              have HR : Hid (Pk.upto ps n = false) := Pk.upto_false ps n k hlt (by rw [← HP.out, HQ.out, Pk.ahead_false k [x] 0 (by simp) hx, Bool.false_and])
              go_wp2_with fail
              refine (CI.out _).mono ?_
              rintro e w1 ⟨rfl, rfl⟩
              clear CI
              go_wp2
              go_ret
              rw [HV.out, HR.out, Bool.and_false]
              exact ⟨rfl, hbel2⟩
        · have dK : ((ks.length : Int) != 1) = true := by simp only [bne_iff_ne, ne_eq]; omega
          have HR : Hid (Pk.upto ps n = false) := Pk.upto_false ps n k hlt (by rw [← HP.out, HQ.out]; simp [hK])
          clear HF hK
          go_wp2
          go_ret
          rw [HV.out, HR.out, Bool.and_false]
          exact ⟨rfl, hbel2⟩
      · have HQ : Hid (Pk.piece k ⟨8, t, ks⟩ = (Pk.ahead k ks && (decide (ks.length = 1) && decide (t.size = 0)))) := rfl
        by_cases hK : ks.length = 1
        · obtain ⟨x, rfl⟩ : ∃ x, ks = [x] := List.length_eq_one_iff.1 hK
          obtain ⟨bk, ok, rfl, lk, ck⟩ := HF.out (by simp)
          have x0 := (HBW.out.cell (p := ⟨bk, ok + 0, none⟩) lk).trans (ck 0 (by simp))
          simp at x0
          clear HF hK
          by_cases hT : 0 < t.size
          · have dT : decide ((0 : Int) < (t.size : Int)) = true := decide_eq_true (by omega)
            have HR : Hid (Pk.upto ps n = false) := Pk.upto_false ps n k hlt (by rw [← HP.out, HQ.out, decide_eq_false (show ¬ (t.size = 0) by omega), Bool.and_false, Bool.and_false])
            go_wp2
            go_ret
            rw [HV.out, HR.out, Bool.and_false]
            exact ⟨rfl, hbel2⟩
          · have dT : decide ((0 : Int) < (t.size : Int)) = false := decide_eq_false (by omega)
            go_wp2
            refine wp_loop_rounds 2 ?_
            rw [rounds_succ]
            by_cases hx : 0 ≤ x ∧ x < (k : Int)
            · have CI : Hid (∀ w' : World, Calls Try.prog 41 #[.int .i64 x, .int .i64 0, .int .i64 ((k : Int) - 1)] w' fun e w'' => e = .returned (.bool true) ∧ w'' = w') := fun w' => in_yes x ((k : Int) - 1) w' (by omega) (by omega)
              go_wp2_with fail
              refine (CI.out _).mono ?_
              rintro e w1 ⟨rfl, rfl⟩
              clear CI
              go_wp2
              rw [rounds_succ]
              have HR : Hid (Pk.upto ps (k + 1) = true) := by show _ = _; rw [Pk.upto_succ, HU.out, ← HP.out, HQ.out, decide_eq_true (show t.size = 0 by omega), ahead1 k x hx]; rfl
              go_wp2
              go_roundw
              case rel => exact ⟨k + 1, by go_num, by omega, hbel2, cb2, hsz2, HR.out⟩
              case measure => simp [intOf]; omega
            · have CI : Hid (∀ w' : World, Calls Try.prog 41 #[.int .i64 x, .int .i64 0, .int .i64 ((k : Int) - 1)] w' fun e w'' => e = .returned (.bool false) ∧ w'' = w') := fun w' => in_no x ((k : Int) - 1) w' (by omega)
              have HR : Hid (Pk.upto ps n = false) := Pk.upto_false ps n k hlt (by rw [← HP.out, HQ.out, Pk.ahead_false k [x] 0 (by simp) hx, Bool.false_and])
              go_wp2_with fail
              refine (CI.out _).mono ?_
              rintro e w1 ⟨rfl, rfl⟩
              clear CI
              go_wp2
              go_ret
              rw [HV.out, HR.out, Bool.and_false]
              exact ⟨rfl, hbel2⟩
        · have dK : ((ks.length : Int) != 1) = true := by simp only [bne_iff_ne, ne_eq]; omega
          have HR : Hid (Pk.upto ps n = false) := Pk.upto_false ps n k hlt (by rw [← HP.out, HQ.out]; simp [hK])
          clear HF hK
          go_wp2
          go_ret
          rw [HV.out, HR.out, Bool.and_false]
          exact ⟨rfl, hbel2⟩
      · have HQ : Hid (Pk.piece k ⟨9, t, ks⟩ = (Pk.ahead k ks && (decide (ks.length = 1) && decide (t.size = 0)))) := rfl
        by_cases hK : ks.length = 1
        · obtain ⟨x, rfl⟩ : ∃ x, ks = [x] := List.length_eq_one_iff.1 hK
          obtain ⟨bk, ok, rfl, lk, ck⟩ := HF.out (by simp)
          have x0 := (HBW.out.cell (p := ⟨bk, ok + 0, none⟩) lk).trans (ck 0 (by simp))
          simp at x0
          clear HF hK
          by_cases hT : 0 < t.size
          · have dT : decide ((0 : Int) < (t.size : Int)) = true := decide_eq_true (by omega)
            have HR : Hid (Pk.upto ps n = false) := Pk.upto_false ps n k hlt (by rw [← HP.out, HQ.out, decide_eq_false (show ¬ (t.size = 0) by omega), Bool.and_false, Bool.and_false])
            go_wp2
            go_ret
            rw [HV.out, HR.out, Bool.and_false]
            exact ⟨rfl, hbel2⟩
          · have dT : decide ((0 : Int) < (t.size : Int)) = false := decide_eq_false (by omega)
            go_wp2
            refine wp_loop_rounds 2 ?_
            rw [rounds_succ]
            by_cases hx : 0 ≤ x ∧ x < (k : Int)
            · have CI : Hid (∀ w' : World, Calls Try.prog 41 #[.int .i64 x, .int .i64 0, .int .i64 ((k : Int) - 1)] w' fun e w'' => e = .returned (.bool true) ∧ w'' = w') := fun w' => in_yes x ((k : Int) - 1) w' (by omega) (by omega)
              go_wp2_with fail
              refine (CI.out _).mono ?_
              rintro e w1 ⟨rfl, rfl⟩
              clear CI
              go_wp2
              rw [rounds_succ]
              have HR : Hid (Pk.upto ps (k + 1) = true) := by show _ = _; rw [Pk.upto_succ, HU.out, ← HP.out, HQ.out, decide_eq_true (show t.size = 0 by omega), ahead1 k x hx]; rfl
              go_wp2
              go_roundw
              case rel => exact ⟨k + 1, by go_num, by omega, hbel2, cb2, hsz2, HR.out⟩
              case measure => simp [intOf]; omega
            · have CI : Hid (∀ w' : World, Calls Try.prog 41 #[.int .i64 x, .int .i64 0, .int .i64 ((k : Int) - 1)] w' fun e w'' => e = .returned (.bool false) ∧ w'' = w') := fun w' => in_no x ((k : Int) - 1) w' (by omega)
              have HR : Hid (Pk.upto ps n = false) := Pk.upto_false ps n k hlt (by rw [← HP.out, HQ.out, Pk.ahead_false k [x] 0 (by simp) hx, Bool.false_and])
              go_wp2_with fail
              refine (CI.out _).mono ?_
              rintro e w1 ⟨rfl, rfl⟩
              clear CI
              go_wp2
              go_ret
              rw [HV.out, HR.out, Bool.and_false]
              exact ⟨rfl, hbel2⟩
        · have dK : ((ks.length : Int) != 1) = true := by simp only [bne_iff_ne, ne_eq]; omega
          have HR : Hid (Pk.upto ps n = false) := Pk.upto_false ps n k hlt (by rw [← HP.out, HQ.out]; simp [hK])
          clear HF hK
          go_wp2
          go_ret
          rw [HV.out, HR.out, Bool.and_false]
          exact ⟨rfl, hbel2⟩
      · have HQ : Hid (Pk.piece k ⟨1, t, ks⟩ = (Pk.ahead k ks && (decide (ks.length = 0) && decide (t.size = 1)))) := rfl
        by_cases hK : ks.length = 0
        · obtain rfl : ks = [] := List.eq_nil_of_length_eq_zero hK
          clear HF hK
          by_cases hT : 1 < t.size
          · have dT : decide ((1 : Int) < (t.size : Int)) = true := decide_eq_true (by omega)
            have HR : Hid (Pk.upto ps n = false) := Pk.upto_false ps n k hlt (by rw [← HP.out, HQ.out, decide_eq_false (show ¬ (t.size = 1) by omega), Bool.and_false, Bool.and_false])
            go_wp2
            go_ret
            rw [HV.out, HR.out, Bool.and_false]
            exact ⟨rfl, hbel2⟩
          · have dT : decide ((1 : Int) < (t.size : Int)) = false := decide_eq_false (by omega)
            by_cases hE : t.size = 0
            · have dE : t.toList.isEmpty = true := by rw [Pk.empty_of]; exact decide_eq_true hE
              have HR : Hid (Pk.upto ps n = false) := Pk.upto_false ps n k hlt (by rw [← HP.out, HQ.out, decide_eq_false (show ¬ (t.size = 1) by omega), Bool.and_false, Bool.and_false])
              go_wp2
              go_ret
              rw [HV.out, HR.out, Bool.and_false]
              exact ⟨rfl, hbel2⟩
            · have dE : t.toList.isEmpty = false := by rw [Pk.empty_of]; exact decide_eq_false hE
              go_wp2
              refine wp_loop_rounds 1 ?_
              rw [rounds_succ]
              have HR : Hid (Pk.upto ps (k + 1) = true) := by show _ = _; rw [Pk.upto_succ, HU.out, ← HP.out, HQ.out, decide_eq_true (show t.size = 1 by omega), ahead0]; rfl
              go_wp2
              go_roundw
              case rel => exact ⟨k + 1, by go_num, by omega, hbel2, cb2, hsz2, HR.out⟩
              case measure => simp [intOf]; omega
        · have dK : ((ks.length : Int) != 0) = true := by simp only [bne_iff_ne, ne_eq]; omega
          have HR : Hid (Pk.upto ps n = false) := Pk.upto_false ps n k hlt (by rw [← HP.out, HQ.out]; simp [hK])
          clear HF hK
          go_wp2
          go_ret
          rw [HV.out, HR.out, Bool.and_false]
          exact ⟨rfl, hbel2⟩
      · have HQ : Hid (Pk.piece k ⟨3, t, ks⟩ = (Pk.ahead k ks && (decide (ks.length = 0) && decide (1 ≤ t.size ∧ t.size ≤ 24)))) := rfl
        by_cases hK : ks.length = 0
        · obtain rfl : ks = [] := List.eq_nil_of_length_eq_zero hK
          clear HF hK
          by_cases hT : 24 < t.size
          · have dT : decide ((24 : Int) < (t.size : Int)) = true := decide_eq_true (by omega)
            have HR : Hid (Pk.upto ps n = false) := Pk.upto_false ps n k hlt (by rw [← HP.out, HQ.out, decide_eq_false (show ¬ (1 ≤ t.size ∧ t.size ≤ 24) by omega), Bool.and_false, Bool.and_false])
            go_wp2
            go_ret
            rw [HV.out, HR.out, Bool.and_false]
            exact ⟨rfl, hbel2⟩
          · have dT : decide ((24 : Int) < (t.size : Int)) = false := decide_eq_false (by omega)
            by_cases hE : t.size = 0
            · have dE : t.toList.isEmpty = true := by rw [Pk.empty_of]; exact decide_eq_true hE
              have HR : Hid (Pk.upto ps n = false) := Pk.upto_false ps n k hlt (by rw [← HP.out, HQ.out, decide_eq_false (show ¬ (1 ≤ t.size ∧ t.size ≤ 24) by omega), Bool.and_false, Bool.and_false])
              go_wp2
              go_ret
              rw [HV.out, HR.out, Bool.and_false]
              exact ⟨rfl, hbel2⟩
            · have dE : t.toList.isEmpty = false := by rw [Pk.empty_of]; exact decide_eq_false hE
              go_wp2
              refine wp_loop_rounds 1 ?_
              rw [rounds_succ]
              have HR : Hid (Pk.upto ps (k + 1) = true) := by show _ = _; rw [Pk.upto_succ, HU.out, ← HP.out, HQ.out, decide_eq_true (show 1 ≤ t.size ∧ t.size ≤ 24 by omega), ahead0]; rfl
              go_wp2
              go_roundw
              case rel => exact ⟨k + 1, by go_num, by omega, hbel2, cb2, hsz2, HR.out⟩
              case measure => simp [intOf]; omega
        · have dK : ((ks.length : Int) != 0) = true := by simp only [bne_iff_ne, ne_eq]; omega
          have HR : Hid (Pk.upto ps n = false) := Pk.upto_false ps n k hlt (by rw [← HP.out, HQ.out]; simp [hK])
          clear HF hK
          go_wp2
          go_ret
          rw [HV.out, HR.out, Bool.and_false]
          exact ⟨rfl, hbel2⟩
      · have HQ : Hid (Pk.piece k ⟨4, t, ks⟩ = (Pk.ahead k ks && (decide (ks.length = 0) && decide (1 ≤ t.size ∧ t.size ≤ 24)))) := rfl
        by_cases hK : ks.length = 0
        · obtain rfl : ks = [] := List.eq_nil_of_length_eq_zero hK
          clear HF hK
          by_cases hT : 24 < t.size
          · have dT : decide ((24 : Int) < (t.size : Int)) = true := decide_eq_true (by omega)
            have HR : Hid (Pk.upto ps n = false) := Pk.upto_false ps n k hlt (by rw [← HP.out, HQ.out, decide_eq_false (show ¬ (1 ≤ t.size ∧ t.size ≤ 24) by omega), Bool.and_false, Bool.and_false])
            go_wp2
            go_ret
            rw [HV.out, HR.out, Bool.and_false]
            exact ⟨rfl, hbel2⟩
          · have dT : decide ((24 : Int) < (t.size : Int)) = false := decide_eq_false (by omega)
            by_cases hE : t.size = 0
            · have dE : t.toList.isEmpty = true := by rw [Pk.empty_of]; exact decide_eq_true hE
              have HR : Hid (Pk.upto ps n = false) := Pk.upto_false ps n k hlt (by rw [← HP.out, HQ.out, decide_eq_false (show ¬ (1 ≤ t.size ∧ t.size ≤ 24) by omega), Bool.and_false, Bool.and_false])
              go_wp2
              go_ret
              rw [HV.out, HR.out, Bool.and_false]
              exact ⟨rfl, hbel2⟩
            · have dE : t.toList.isEmpty = false := by rw [Pk.empty_of]; exact decide_eq_false hE
              go_wp2
              refine wp_loop_rounds 1 ?_
              rw [rounds_succ]
              have HR : Hid (Pk.upto ps (k + 1) = true) := by show _ = _; rw [Pk.upto_succ, HU.out, ← HP.out, HQ.out, decide_eq_true (show 1 ≤ t.size ∧ t.size ≤ 24 by omega), ahead0]; rfl
              go_wp2
              go_roundw
              case rel => exact ⟨k + 1, by go_num, by omega, hbel2, cb2, hsz2, HR.out⟩
              case measure => simp [intOf]; omega
        · have dK : ((ks.length : Int) != 0) = true := by simp only [bne_iff_ne, ne_eq]; omega
          have HR : Hid (Pk.upto ps n = false) := Pk.upto_false ps n k hlt (by rw [← HP.out, HQ.out]; simp [hK])
          clear HF hK
          go_wp2
          go_ret
          rw [HV.out, HR.out, Bool.and_false]
          exact ⟨rfl, hbel2⟩
      · have HQ : Hid (Pk.piece k ⟨2, t, ks⟩ = (Pk.ahead k ks && (decide (ks.length = 0) && decide (t.size = 0)))) := rfl
        by_cases hK : ks.length = 0
        · obtain rfl : ks = [] := List.eq_nil_of_length_eq_zero hK
          clear HF hK
          by_cases hT : 0 < t.size
          · have dT : decide ((0 : Int) < (t.size : Int)) = true := decide_eq_true (by omega)
            have HR : Hid (Pk.upto ps n = false) := Pk.upto_false ps n k hlt (by rw [← HP.out, HQ.out, decide_eq_false (show ¬ (t.size = 0) by omega), Bool.and_false, Bool.and_false])
            go_wp2
            go_ret
            rw [HV.out, HR.out, Bool.and_false]
            exact ⟨rfl, hbel2⟩
          · have dT : decide ((0 : Int) < (t.size : Int)) = false := decide_eq_false (by omega)
            go_wp2
            refine wp_loop_rounds 1 ?_
            rw [rounds_succ]
            have HR : Hid (Pk.upto ps (k + 1) = true) := by show _ = _; rw [Pk.upto_succ, HU.out, ← HP.out, HQ.out, decide_eq_true (show t.size = 0 by omega), ahead0]; rfl
            go_wp2
            go_roundw
            case rel => exact ⟨k + 1, by go_num, by omega, hbel2, cb2, hsz2, HR.out⟩
            case measure => simp [intOf]; omega
        · have dK : ((ks.length : Int) != 0) = true := by simp only [bne_iff_ne, ne_eq]; omega
          have HR : Hid (Pk.upto ps n = false) := Pk.upto_false ps n k hlt (by rw [← HP.out, HQ.out]; simp [hK])
          clear HF hK
          go_wp2
          go_ret
          rw [HV.out, HR.out, Bool.and_false]
          exact ⟨rfl, hbel2⟩
      · have HQ : Hid (Pk.piece k ⟨10, t, ks⟩ = (Pk.ahead k ks && (decide (ks.length = 0) && decide (t.size = 0)))) := rfl
        by_cases hK : ks.length = 0
        · obtain rfl : ks = [] := List.eq_nil_of_length_eq_zero hK
          clear HF hK
          by_cases hT : 0 < t.size
          · have dT : decide ((0 : Int) < (t.size : Int)) = true := decide_eq_true (by omega)
            have HR : Hid (Pk.upto ps n = false) := Pk.upto_false ps n k hlt (by rw [← HP.out, HQ.out, decide_eq_false (show ¬ (t.size = 0) by omega), Bool.and_false, Bool.and_false])
            go_wp2
            go_ret
            rw [HV.out, HR.out, Bool.and_false]
            exact ⟨rfl, hbel2⟩
          · have dT : decide ((0 : Int) < (t.size : Int)) = false := decide_eq_false (by omega)
            go_wp2
            refine wp_loop_rounds 1 ?_
            rw [rounds_succ]
            have HR : Hid (Pk.upto ps (k + 1) = true) := by show _ = _; rw [Pk.upto_succ, HU.out, ← HP.out, HQ.out, decide_eq_true (show t.size = 0 by omega), ahead0]; rfl
            go_wp2
            go_roundw
            case rel => exact ⟨k + 1, by go_num, by omega, hbel2, cb2, hsz2, HR.out⟩
            case measure => simp [intOf]; omega
        · have dK : ((ks.length : Int) != 0) = true := by simp only [bne_iff_ne, ne_eq]; omega
          have HR : Hid (Pk.upto ps n = false) := Pk.upto_false ps n k hlt (by rw [← HP.out, HQ.out]; simp [hK])
          clear HF hK
          go_wp2
          go_ret
          rw [HV.out, HR.out, Bool.and_false]
          exact ⟨rfl, hbel2⟩
      · have HQ : Hid (Pk.piece k ⟨11, t, ks⟩ = (Pk.ahead k ks && (decide (ks.length = 0) && decide (t.size = 0)))) := rfl
        by_cases hK : ks.length = 0
        · obtain rfl : ks = [] := List.eq_nil_of_length_eq_zero hK
          clear HF hK
          by_cases hT : 0 < t.size
          · have dT : decide ((0 : Int) < (t.size : Int)) = true := decide_eq_true (by omega)
            have HR : Hid (Pk.upto ps n = false) := Pk.upto_false ps n k hlt (by rw [← HP.out, HQ.out, decide_eq_false (show ¬ (t.size = 0) by omega), Bool.and_false, Bool.and_false])
            go_wp2
            go_ret
            rw [HV.out, HR.out, Bool.and_false]
            exact ⟨rfl, hbel2⟩
          · have dT : decide ((0 : Int) < (t.size : Int)) = false := decide_eq_false (by omega)
            go_wp2
            refine wp_loop_rounds 1 ?_
            rw [rounds_succ]
            have HR : Hid (Pk.upto ps (k + 1) = true) := by show _ = _; rw [Pk.upto_succ, HU.out, ← HP.out, HQ.out, decide_eq_true (show t.size = 0 by omega), ahead0]; rfl
            go_wp2
            go_roundw
            case rel => exact ⟨k + 1, by go_num, by omega, hbel2, cb2, hsz2, HR.out⟩
            case measure => simp [intOf]; omega
        · have dK : ((ks.length : Int) != 0) = true := by simp only [bne_iff_ne, ne_eq]; omega
          have HR : Hid (Pk.upto ps n = false) := Pk.upto_false ps n k hlt (by rw [← HP.out, HQ.out]; simp [hK])
          clear HF hK
          go_wp2
          go_ret
          rw [HV.out, HR.out, Bool.and_false]
          exact ⟨rfl, hbel2⟩
      · have HQ : Hid (Pk.piece k ⟨12, t, ks⟩ = (Pk.ahead k ks && (decide (ks.length = 0) && decide (t.size = 0)))) := rfl
        by_cases hK : ks.length = 0
        · obtain rfl : ks = [] := List.eq_nil_of_length_eq_zero hK
          clear HF hK
          by_cases hT : 0 < t.size
          · have dT : decide ((0 : Int) < (t.size : Int)) = true := decide_eq_true (by omega)
            have HR : Hid (Pk.upto ps n = false) := Pk.upto_false ps n k hlt (by rw [← HP.out, HQ.out, decide_eq_false (show ¬ (t.size = 0) by omega), Bool.and_false, Bool.and_false])
            go_wp2
            go_ret
            rw [HV.out, HR.out, Bool.and_false]
            exact ⟨rfl, hbel2⟩
          · have dT : decide ((0 : Int) < (t.size : Int)) = false := decide_eq_false (by omega)
            go_wp2
            refine wp_loop_rounds 1 ?_
            rw [rounds_succ]
            have HR : Hid (Pk.upto ps (k + 1) = true) := by show _ = _; rw [Pk.upto_succ, HU.out, ← HP.out, HQ.out, decide_eq_true (show t.size = 0 by omega), ahead0]; rfl
            go_wp2
            go_roundw
            case rel => exact ⟨k + 1, by go_num, by omega, hbel2, cb2, hsz2, HR.out⟩
            case measure => simp [intOf]; omega
        · have dK : ((ks.length : Int) != 0) = true := by simp only [bne_iff_ne, ne_eq]; omega
          have HR : Hid (Pk.upto ps n = false) := Pk.upto_false ps n k hlt (by rw [← HP.out, HQ.out]; simp [hK])
          clear HF hK
          go_wp2
          go_ret
          rw [HV.out, HR.out, Bool.and_false]
          exact ⟨rfl, hbel2⟩
      · have HR : Hid (Pk.upto ps n = false) := Pk.upto_false ps n k hlt (by rw [← HP.out]; simp [Pk.piece]; omega)
        have d1 : (op == 5) = false := by simpa using n5
        have d2 : (op == 6) = false := by simpa using n6
        have d3 : (op == 7) = false := by simpa using n7
        have d4 : (op == 8) = false := by simpa using n8
        have d5 : (op == 9) = false := by simpa using n9
        have d6 : (op == 1) = false := by simpa using n1
        have d7 : (op == 3) = false := by simpa using n3
        have d8 : (op == 4) = false := by simpa using n4
        have d9 : (op == 2) = false := by simpa using n2
        have d10 : (op == 10) = false := by simpa using n10
        have d11 : (op == 11) = false := by simpa using n11
        have d12 : (op == 12) = false := by simpa using n12
        clear n5 n6 n7 n8 n9 n1 n3 n4 n2 n10 n11 n12
        go_wp2
        go_ret
        rw [HV.out, HR.out, Bool.and_false]
        exact ⟨rfl, hbel2⟩
    · obtain rfl : k = n := by omega
      go_wp2_with fail
      refine (CL.out _).mono ?_
      rintro e w1 ⟨rfl, rfl⟩
      go_wp2
      go_ret
      rw [HV.out, HU.out, Bool.and_true]
      exact ⟨rfl, hbel⟩
#print axioms specOk_any
end Go.Proofs.Ytlnmbahakdmkgaa
