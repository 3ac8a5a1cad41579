/- The specification of Tokens: one token. -/
import Derived.Test.YtbiknfhfpmomfapTkA
import Derived.Test.YtbiknfhfpmomfapRdK
namespace Go.Proofs.Ytbiknfhfpmomfap
open Go.RowKit

/-- A token as a value. -/
def tkv (t : Tk.Tok) : Value := .agg #[.int .i64 (t.kind : Int), .string ⟨t.text.toArray⟩]
def onev : Option (Tk.Tok × Nat) → Value
  | none => .tuple #[.agg #[.int .i64 0, .string ⟨#[]⟩], .int .i64 0]
  | some (t, n) => .tuple #[tkv t, .int .i64 (n : Int)]
theorem cut_val (s : ByteArray) (a b : Nat) : (⟨(Tk.cut s.data.toList a b).toArray⟩ : ByteArray) = s.extract a b := by
  apply ByteArray.ext
  apply Array.ext'
  simp [Tk.cut]
theorem ne_byte {c : UInt8} {k : Nat} (h : c ≠ UInt8.ofNat k) (hk : k < 256) : ((c.toNat : Int) == (k : Int)) = false := beq_eq_false_iff_ne.2 (fun e => h (UInt8.toNat_inj.1 (by rw [UInt8.toNat_ofNat']; omega)))

set_option maxRecDepth 100000 in
theorem res_tok {fn : Func} {p u : Tmp} (h : fn.results = #[.cell p 29, .tmp u]) (tmps : Array Value) (w : World) (g : Nat) (x y : Value) (hp : tmps.getD p undef = .pointer (some ⟨g, 0, none⟩)) (hg : w.heap[g]? = some (.cells #[x, y] 29 (0, 0))) :
    (results fn tmps).run Try.prog w = .ok (.tuple #[.agg #[x, y], tmps.getD u undef]) w := by
  rw [results_cell_tmp h, hp]
  simp only [asAddr, Sem.run_pure, Result.andThen_ok, run_loadVar_row w g 29 29 #[x, y] (0, 0) _ hg Try.underlying29 rfl (by kernel_rfl)]
theorem below2 (w : World) (A B : Obj) : Below w.heap.size w ((w.alloc A).alloc B) := ((Below.refl _ _).alloc (Nat.le_refl _) _).alloc (by simp) _

set_option maxHeartbeats 2000000 in
set_option maxRecDepth 100000 in
theorem spOne_end (s : ByteArray) (a : Nat) (lk : Int) (lt : ByteArray) (w : World) (ha : a < s.size) (hs : s.size ≤ 1048576) (hb : s[a] = 10 ∨ s[a] = 59) :
    Calls Try.prog 9 #[.string s, .int .i64 (a : Int), .agg #[.int .i64 lk, .string lt]] w fun e w' => e = .returned (onev (some (⟨6, [59]⟩, a + 1))) ∧ Below w.heap.size w w' := by
  have hi : (a : Int) < (s.size : Int) := by omega
  rcases hb with hb | hb
  · have hz : s[a].toNat = 10 := by rw [hb]; rfl
    clear hb
    go_enter Try.func9, Try.ntmps9
    go_wp2
    exact bodyPost_ret (res_tok rfl _ _ (w.heap.size + 1) _ _ rfl (alloc2_1 _ _ _)) rfl ⟨rfl, below2 _ _ _⟩
  · have hz : s[a].toNat = 59 := by rw [hb]; rfl
    clear hb
    go_enter Try.func9, Try.ntmps9
    go_wp2
    exact bodyPost_ret (res_tok rfl _ _ (w.heap.size + 1) _ _ rfl (alloc2_1 _ _ _)) rfl ⟨rfl, below2 _ _ _⟩

set_option maxHeartbeats 2000000 in
set_option maxRecDepth 100000 in
theorem spOne_letter (s : ByteArray) (a : Nat) (lk : Int) (lt : ByteArray) (w : World) (ha : a < s.size) (hs : s.size ≤ 1048576) (h1 : s[a] ≠ 10) (h2 : s[a] ≠ 59) (hl : Tk.letter s[a] = true) :
    Calls Try.prog 9 #[.string s, .int .i64 (a : Int), .agg #[.int .i64 lk, .string lt]] w fun e w' => e = .returned (onev (if 8 < Tk.run Tk.letter s.data.toList a - a then none else some (⟨1, Tk.cut s.data.toList a (Tk.run Tk.letter s.data.toList a)⟩, Tk.run Tk.letter s.data.toList a))) ∧ Below w.heap.size w w' := by
  have hi : (a : Int) < (s.size : Int) := by omega
  have d1 : ((s[a].toNat : Int) == 10) = false := ne_byte h1 (by decide)
  have d2 : ((s[a].toNat : Int) == 59) = false := ne_byte h2 (by decide)
  have CL : Hid (∀ w, Calls Try.prog 15 #[.int .u8 (s[a].toNat : Int)] w fun e w' => e = .returned (.bool true) ∧ w' = w) := by
    intro w
    have := spLetter s[a] w
    rwa [hl] at this
  obtain ⟨R, hR⟩ : ∃ R, R = Tk.run Tk.letter s.data.toList a := ⟨_, rfl⟩
  have HR : Hid (Tk.run Tk.letter s.data.toList a = R) := hR.symm
  have HSL : Hid (s.data.toList.length = s.size) := by show _ = _; simp
  rw [← hR]
  obtain ⟨V, hV⟩ : ∃ V, V = onev (if 8 < R - a then none else some (⟨1, Tk.cut s.data.toList a R⟩, R)) := ⟨_, rfl⟩
  rw [← hV]
  have HV : Hid (V = onev (if 8 < R - a then none else some (⟨1, Tk.cut s.data.toList a R⟩, R))) := hV
  clear h1 h2 hl hR hV
  go_enter Try.func9, Try.ntmps9
  go_wp2_with fail
  refine (CL.out _).mono ?_
  rintro e w1 ⟨rfl, rfl⟩
  go_wp2_with fail
  clear d1 d2 CL
  go_loop [9] (fun i => ∃ j : Nat, i = .int .i64 (j : Int) ∧ a ≤ j ∧ j ≤ s.size ∧ Hid (Tk.run Tk.letter s.data.toList j = R)) (fun i => s.size - (intOf i).toNat)
  case atStart => exact ⟨a, rfl, Nat.le_refl _, Nat.le_of_lt ha, HR.out⟩
  case round =>
    obtain ⟨j, rfl, haj, hj, HJ⟩ := hrel
    by_cases hlt : j < s.size
    · have hij : (j : Int) < (s.size : Int) := by omega
      have d0 : decide ((j : Int) < (s.size : Int)) = true := decide_eq_true hij
      by_cases hl : Tk.letter s[j] = true
      · have CJ : Hid (∀ w, Calls Try.prog 15 #[.int .u8 (s[j].toNat : Int)] w fun e w' => e = .returned (.bool true) ∧ w' = w) := by
          intro w
          have := spLetter s[j] w
          rwa [hl] at this
        have HN : Hid (Tk.run Tk.letter s.data.toList (j + 1) = R) := by
          show _ = _
          rw [← HJ.out]
          exact (Tk.run_step (by rw [HSL.out]; exact hlt) hl).symm
        clear HJ hl HR HV
        go_wp2_with (go_at_call 15; refine (CJ.out _).mono ?_; rintro e w2 ⟨rfl, rfl⟩)
        go_round
        case rel => exact ⟨j + 1, by go_num, by omega, by omega, HN.out⟩
        case measure => simp [intOf]; omega
      · have CJ : Hid (∀ w, Calls Try.prog 15 #[.int .u8 (s[j].toNat : Int)] w fun e w' => e = .returned (.bool false) ∧ w' = w) := by
          intro w
          have := spLetter s[j] w
          rwa [Bool.eq_false_iff.2 hl] at this
        have hRj : R = j := by
          rw [← HJ.out]
          exact Tk.run_stop (by rw [HSL.out]; exact hlt) (Bool.eq_false_iff.2 hl)
        clear HJ hl HR
        subst hRj
        by_cases h8 : 8 < R - a
        · have d8 : decide ((8 : Int) < (R : Int) - (a : Int)) = true := decide_eq_true (by omega)
          have HV2 : Hid (V = onev none) := by show _ = _; rw [HV.out, if_pos h8]
          clear h8 HV
          go_wp2_with (go_at_call 15; refine (CJ.out _).mono ?_; rintro e w2 ⟨rfl, rfl⟩)
          exact bodyPost_ret (res_tok rfl _ _ (w.heap.size + 1) _ _ rfl (alloc2_1 _ _ _)) rfl ⟨by rw [HV2.out]; rfl, below2 _ _ _⟩
        · have d8 : decide ((8 : Int) < (R : Int) - (a : Int)) = false := decide_eq_false (by omega)
          have HV2 : Hid (V = .tuple #[.agg #[.int .i64 1, .string (s.extract a R)], .int .i64 (R : Int)]) := by
            show _ = _
            rw [HV.out, if_neg h8, ← cut_val]
            rfl
          clear h8 HV
          go_wp2_with (go_at_call 15; refine (CJ.out _).mono ?_; rintro e w2 ⟨rfl, rfl⟩)
          exact bodyPost_ret (res_tok rfl _ _ (w.heap.size + 1) _ _ rfl (alloc2_1 _ _ _)) rfl ⟨by rw [HV2.out]; rfl, below2 _ _ _⟩
    · obtain rfl : j = s.size := by omega
      have d0 : decide ((s.size : Int) < (s.size : Int)) = false := decide_eq_false (by omega)
      have hRj : R = s.size := by
        rw [← HJ.out]
        exact Tk.run_end _ (by rw [HSL.out]; omega)
      clear HJ HR
      subst hRj
      by_cases h8 : 8 < s.size - a
      · have d8 : decide ((8 : Int) < (s.size : Int) - (a : Int)) = true := decide_eq_true (by omega)
        have HV2 : Hid (V = onev none) := by show _ = _; rw [HV.out, if_pos h8]
        clear h8 HV
        go_wp2
        exact bodyPost_ret (res_tok rfl _ _ (w.heap.size + 1) _ _ rfl (alloc2_1 _ _ _)) rfl ⟨by rw [HV2.out]; rfl, below2 _ _ _⟩
      · have d8 : decide ((8 : Int) < (s.size : Int) - (a : Int)) = false := decide_eq_false (by omega)
        have HV2 : Hid (V = .tuple #[.agg #[.int .i64 1, .string (s.extract a s.size)], .int .i64 (s.size : Int)]) := by
          show _ = _
          rw [HV.out, if_neg h8, ← cut_val]
          rfl
        clear h8 HV
        go_wp2
        exact bodyPost_ret (res_tok rfl _ _ (w.heap.size + 1) _ _ rfl (alloc2_1 _ _ _)) rfl ⟨by rw [HV2.out]; rfl, below2 _ _ _⟩

set_option maxHeartbeats 2000000 in
set_option maxRecDepth 100000 in
theorem spOne_figure (s : ByteArray) (a : Nat) (lk : Int) (lt : ByteArray) (w : World) (ha : a < s.size) (hs : s.size ≤ 1048576) (h1 : s[a] ≠ 10) (h2 : s[a] ≠ 59) (hn : Tk.letter s[a] = false) (hl : Tk.figure s[a] = true) :
    Calls Try.prog 9 #[.string s, .int .i64 (a : Int), .agg #[.int .i64 lk, .string lt]] w fun e w' => e = .returned (onev (if 6 < Tk.run Tk.figure s.data.toList a - a then none else some (⟨2, Tk.cut s.data.toList a (Tk.run Tk.figure s.data.toList a)⟩, Tk.run Tk.figure s.data.toList a))) ∧ Below w.heap.size w w' := by
  have hi : (a : Int) < (s.size : Int) := by omega
  have d1 : ((s[a].toNat : Int) == 10) = false := ne_byte h1 (by decide)
  have d2 : ((s[a].toNat : Int) == 59) = false := ne_byte h2 (by decide)
  have CN : Hid (∀ w, Calls Try.prog 15 #[.int .u8 (s[a].toNat : Int)] w fun e w' => e = .returned (.bool false) ∧ w' = w) := by
    intro w
    have := spLetter s[a] w
    rwa [hn] at this
  clear hn
  have CL : Hid (∀ w, Calls Try.prog 16 #[.int .u8 (s[a].toNat : Int)] w fun e w' => e = .returned (.bool true) ∧ w' = w) := by
    intro w
    have := spFigure s[a] w
    rwa [hl] at this
  obtain ⟨R, hR⟩ : ∃ R, R = Tk.run Tk.figure s.data.toList a := ⟨_, rfl⟩
  have HR : Hid (Tk.run Tk.figure s.data.toList a = R) := hR.symm
  have HSL : Hid (s.data.toList.length = s.size) := by show _ = _; simp
  rw [← hR]
  obtain ⟨V, hV⟩ : ∃ V, V = onev (if 6 < R - a then none else some (⟨2, Tk.cut s.data.toList a R⟩, R)) := ⟨_, rfl⟩
  rw [← hV]
  have HV : Hid (V = onev (if 6 < R - a then none else some (⟨2, Tk.cut s.data.toList a R⟩, R))) := hV
  clear h1 h2 hl hR hV
  go_enter Try.func9, Try.ntmps9
  go_wp2_with fail
  refine (CN.out _).mono ?_
  rintro e w1 ⟨rfl, rfl⟩
  go_wp2_with fail
  refine (CL.out _).mono ?_
  rintro e w1 ⟨rfl, rfl⟩
  go_wp2_with fail
  clear CN
  clear d1 d2 CL
  go_loop [9] (fun i => ∃ j : Nat, i = .int .i64 (j : Int) ∧ a ≤ j ∧ j ≤ s.size ∧ Hid (Tk.run Tk.figure s.data.toList j = R)) (fun i => s.size - (intOf i).toNat)
  case atStart => exact ⟨a, rfl, Nat.le_refl _, Nat.le_of_lt ha, HR.out⟩
  case round =>
    obtain ⟨j, rfl, haj, hj, HJ⟩ := hrel
    by_cases hlt : j < s.size
    · have hij : (j : Int) < (s.size : Int) := by omega
      have d0 : decide ((j : Int) < (s.size : Int)) = true := decide_eq_true hij
      by_cases hl : Tk.figure s[j] = true
      · have CJ : Hid (∀ w, Calls Try.prog 16 #[.int .u8 (s[j].toNat : Int)] w fun e w' => e = .returned (.bool true) ∧ w' = w) := by
          intro w
          have := spFigure s[j] w
          rwa [hl] at this
        have HN : Hid (Tk.run Tk.figure s.data.toList (j + 1) = R) := by
          show _ = _
          rw [← HJ.out]
          exact (Tk.run_step (by rw [HSL.out]; exact hlt) hl).symm
        clear HJ hl HR HV
        go_wp2_with (go_at_call 16; refine (CJ.out _).mono ?_; rintro e w2 ⟨rfl, rfl⟩)
        go_round
        case rel => exact ⟨j + 1, by go_num, by omega, by omega, HN.out⟩
        case measure => simp [intOf]; omega
      · have CJ : Hid (∀ w, Calls Try.prog 16 #[.int .u8 (s[j].toNat : Int)] w fun e w' => e = .returned (.bool false) ∧ w' = w) := by
          intro w
          have := spFigure s[j] w
          rwa [Bool.eq_false_iff.2 hl] at this
        have hRj : R = j := by
          rw [← HJ.out]
          exact Tk.run_stop (by rw [HSL.out]; exact hlt) (Bool.eq_false_iff.2 hl)
        clear HJ hl HR
        subst hRj
        by_cases h8 : 6 < R - a
        · have d8 : decide ((6 : Int) < (R : Int) - (a : Int)) = true := decide_eq_true (by omega)
          have HV2 : Hid (V = onev none) := by show _ = _; rw [HV.out, if_pos h8]
          clear h8 HV
          go_wp2_with (go_at_call 16; refine (CJ.out _).mono ?_; rintro e w2 ⟨rfl, rfl⟩)
          exact bodyPost_ret (res_tok rfl _ _ (w.heap.size + 1) _ _ rfl (alloc2_1 _ _ _)) rfl ⟨by rw [HV2.out]; rfl, below2 _ _ _⟩
        · have d8 : decide ((6 : Int) < (R : Int) - (a : Int)) = false := decide_eq_false (by omega)
          have HV2 : Hid (V = .tuple #[.agg #[.int .i64 2, .string (s.extract a R)], .int .i64 (R : Int)]) := by
            show _ = _
            rw [HV.out, if_neg h8, ← cut_val]
            rfl
          clear h8 HV
          go_wp2_with (go_at_call 16; refine (CJ.out _).mono ?_; rintro e w2 ⟨rfl, rfl⟩)
          exact bodyPost_ret (res_tok rfl _ _ (w.heap.size + 1) _ _ rfl (alloc2_1 _ _ _)) rfl ⟨by rw [HV2.out]; rfl, below2 _ _ _⟩
    · obtain rfl : j = s.size := by omega
      have d0 : decide ((s.size : Int) < (s.size : Int)) = false := decide_eq_false (by omega)
      have hRj : R = s.size := by
        rw [← HJ.out]
        exact Tk.run_end _ (by rw [HSL.out]; omega)
      clear HJ HR
      subst hRj
      by_cases h8 : 6 < s.size - a
      · have d8 : decide ((6 : Int) < (s.size : Int) - (a : Int)) = true := decide_eq_true (by omega)
        have HV2 : Hid (V = onev none) := by show _ = _; rw [HV.out, if_pos h8]
        clear h8 HV
        go_wp2
        exact bodyPost_ret (res_tok rfl _ _ (w.heap.size + 1) _ _ rfl (alloc2_1 _ _ _)) rfl ⟨by rw [HV2.out]; rfl, below2 _ _ _⟩
      · have d8 : decide ((6 : Int) < (s.size : Int) - (a : Int)) = false := decide_eq_false (by omega)
        have HV2 : Hid (V = .tuple #[.agg #[.int .i64 2, .string (s.extract a s.size)], .int .i64 (s.size : Int)]) := by
          show _ = _
          rw [HV.out, if_neg h8, ← cut_val]
          rfl
        clear h8 HV
        go_wp2
        exact bodyPost_ret (res_tok rfl _ _ (w.heap.size + 1) _ _ rfl (alloc2_1 _ _ _)) rfl ⟨by rw [HV2.out]; rfl, below2 _ _ _⟩

#print axioms spOne_figure
end Go.Proofs.Ytbiknfhfpmomfap
