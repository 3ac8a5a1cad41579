/- Where a piece may end, by the specification: whether a piece takes a byte. Where a piece may end, by the specification: a piece of one byte, or of none. -/
import Derived.Test.YtlnmbahakdmkgaaZaa
import Derived.Test.YtlnmbahakdmkgaaPtB
namespace Go.Proofs.Ytlnmbahakdmkgaa
section PartSpA
open Go.RowKit

theorem mem_take (t : ByteArray) (k : Nat) (b : UInt8) (h : k < t.size) : (b ∈ t.data.toList.take (k + 1)) ↔ (b ∈ t.data.toList.take k ∨ t[k].toNat = b.toNat) := by
  rw [List.take_succ_eq_append_getElem (by simpa using h), List.mem_append, List.mem_singleton]
  refine or_congr Iff.rfl ?_
  constructor
  · intro e; rw [e]; rfl
  · intro e; exact (UInt8.toNat_inj.1 e).symm

set_option maxHeartbeats 1000000 in
set_option maxRecDepth 100000 in
theorem spByte_any (p : Pi) (b : UInt8) (ka : Option Addr) (kl kc : Nat) (w : World) (hop : p.op = 1 ∨ p.op = 2 ∨ p.op = 3 ∨ p.op = 4) (ht : p.text.size ≤ 1048576) :
    Calls Try.prog 62 #[.agg #[.int .i64 p.op, .string p.text, .slice ka kl kc], .int .u8 (b.toNat : Int)] w fun e w' => e = .returned (.bool (En.takes p b)) ∧ Below w.heap.size w w' := by
  obtain ⟨op, t, ks⟩ := p
  simp only at hop ht ⊢
  have h256b : b.toNat < 256 := b.toNat_lt
  have HB : Hid (∀ o : Obj, Below w.heap.size w (w.alloc o)) := fun o => (Below.refl _ _).alloc (Nat.le_refl _) _
  have HT : Hid (∀ f : Bool, (f = true ↔ b ∈ t.data.toList) → (op = 1 → En.takes ⟨op, t, ks⟩ b = f) ∧ (op = 2 → En.takes ⟨op, t, ks⟩ b = true) ∧ (op = 3 → En.takes ⟨op, t, ks⟩ b = f) ∧ (op = 4 → En.takes ⟨op, t, ks⟩ b = !f)) := by
    intro f hf
    have e : f = decide (b ∈ t.data.toList) := by
      cases f with
      | true => exact (decide_eq_true (hf.1 rfl)).symm
      | false => exact (decide_eq_false (fun h => by have := hf.2 h; cases this)).symm
    rw [e]
    refine ⟨fun h => ?_, fun h => ?_, fun h => ?_, fun h => ?_⟩ <;> subst h <;> simp [En.takes]
  go_enter Try.func62, Try.ntmps62
  go_wp2_with fail
  go_loop [5, 6] (fun f i => ∃ (k : Nat) (fb : Bool), i = .int .i64 (k : Int) ∧ f = .bool fb ∧ k ≤ t.size ∧ Hid (fb = true ↔ b ∈ t.data.toList.take k)) (fun _ i => t.size - (intOf i).toNat)
  case atStart => exact ⟨0, false, rfl, rfl, by omega, by show _ ↔ _; simp⟩
  case round =>
    obtain ⟨k, fb, rfl, rfl, hk, HF⟩ := hrel
    by_cases hlt : k < t.size
    · have h256 : t[k].toNat < 256 := t[k].toNat_lt
      have hi : (k : Int) < (t.size : Int) := by omega
      have HM := mem_take t k b hlt
      cases fb with
      | true =>
        have HN : Hid ((true = true) ↔ b ∈ t.data.toList.take (k + 1)) := by
          show _ ↔ _
          rw [HM]
          exact ⟨fun _ => .inl (HF.out.1 rfl), fun _ => rfl⟩
        clear HM
        go_wp2
        go_round
        case rel => exact ⟨k + 1, true, by go_num, rfl, by omega, HN.out⟩
        case measure => simp [intOf]; omega
      | false =>
        have HN : Hid (((((t[k].toNat : Int) == (b.toNat : Int))) = true) ↔ b ∈ t.data.toList.take (k + 1)) := by
          show _ ↔ _
          rw [HM]
          constructor
          · intro h; right; have := beq_iff_eq.1 h; omega
          · intro h
            rcases h with h | h
            · have := HF.out.2 h; cases this
            · rw [h]; exact beq_self_eq_true _
        clear HM
        go_wp2
        go_round
        case rel => exact ⟨k + 1, _, by go_num, rfl, by omega, HN.out⟩
        case measure => simp [intOf]; omega
    · have HE : Hid ((op = 1 → En.takes ⟨op, t, ks⟩ b = fb) ∧ (op = 2 → En.takes ⟨op, t, ks⟩ b = true) ∧ (op = 3 → En.takes ⟨op, t, ks⟩ b = fb) ∧ (op = 4 → En.takes ⟨op, t, ks⟩ b = !fb)) := by
        refine HT.out fb ?_
        have := HF.out
        rwa [List.take_of_length_le (by simp; omega)] at this
      clear HF HT
      rcases hop with rfl | rfl | rfl | rfl
      · have E1 : Hid (En.takes ⟨1, t, ks⟩ b = (fb)) := HE.out.1 rfl
        clear HE
        go_wp2
        go_ret
        exact ⟨by rw [E1.out]; rfl, HB.out _⟩
      · have E1 : Hid (En.takes ⟨2, t, ks⟩ b = (true)) := HE.out.2.1 rfl
        clear HE
        go_wp2
        go_ret
        exact ⟨by rw [E1.out]; rfl, HB.out _⟩
      · have E1 : Hid (En.takes ⟨3, t, ks⟩ b = (fb)) := HE.out.2.2.1 rfl
        clear HE
        go_wp2
        go_ret
        exact ⟨by rw [E1.out]; rfl, HB.out _⟩
      · have E1 : Hid (En.takes ⟨4, t, ks⟩ b = (!fb)) := HE.out.2.2.2 rfl
        clear HE
        go_wp2
        go_ret
        exact ⟨by rw [E1.out]; rfl, HB.out _⟩
end PartSpA
section PartSpB
open Go.RowKit

/-- Block q holds n Booleans: where P holds. -/
def BAt (w : World) (q n : Nat) (P : Nat → Prop) : Prop := q < w.heap.size ∧ ∀ j, j < n → ∃ b : Bool, w.cell? ⟨q, j, none⟩ = some (.bool b) ∧ (b = true ↔ P j)
theorem BAt.keep {w w' : World} {q n : Nat} {P : Nat → Prop} (h : BAt w q n P) (hb : w'.heap[q]? = w.heap[q]?) : BAt w' q n P := by
  refine ⟨?_, fun j hj => ?_⟩
  · obtain ⟨o, ho⟩ : ∃ o, w.heap[q]? = some o := ⟨_, Array.getElem?_eq_getElem h.1⟩
    exact blk_lt (hb.trans ho)
  · obtain ⟨b, h1, h2⟩ := h.2 j hj
    refine ⟨b, ?_, h2⟩
    rw [← h1]
    simp [World.cell?, hb]
/-- Block q holds just these Booleans, and may be written. -/
def BBlk (w : World) (q n : Nat) (f : Nat → Bool) : Prop := ∃ arr : Array Value, w.heap[q]? = some (.cells arr 4 (0, 0)) ∧ arr.size = n ∧ ∀ j, j < n → arr[j]? = some (.bool (f j))
theorem BBlk.at {w : World} {q n : Nat} {f : Nat → Bool} (h : BBlk w q n f) (P : Nat → Prop) (hP : ∀ j, j < n → (f j = true ↔ P j)) : BAt w q n P := by
  obtain ⟨arr, ha, hs, hf⟩ := h
  exact ⟨blk_lt ha, fun j hj => ⟨f j, by rw [blk_cell ha]; exact hf j hj, hP j hj⟩⟩
theorem BBlk.set {w : World} {q n : Nat} {f : Nat → Bool} (h : BBlk w q n f) (i : Nat) (b : Bool) (_hi : i < n) : BBlk (w.setCell ⟨q, i, none⟩ (.bool b)) q n (fun j => if j = i then b else f j) := by
  obtain ⟨arr, ha, hs, hf⟩ := h
  refine ⟨_, blk_set ha i (.bool b), by simpa using hs, fun j hj => ?_⟩
  rw [Array.getElem?_setIfInBounds]
  by_cases hji : i = j
  · subst hji
    simp only [↓reduceIte]
    rw [if_pos (by omega)]
  · rw [if_neg hji, hf j hj]
    show some (Value.bool (f j)) = some (Value.bool (if j = i then b else f j))
    rw [if_neg (fun e => hji e.symm)]
theorem BBlk.cell {w : World} {q n : Nat} {f : Nat → Bool} (h : BBlk w q n f) (j : Nat) (hj : j < n) : w.cell? ⟨q, j, none⟩ = some (.bool (f j)) ∧ w.frozen? ⟨q, j, none⟩ = false := by
  obtain ⟨arr, ha, hs, hf⟩ := h
  exact ⟨by rw [blk_cell ha]; exact hf j hj, blk_free ha j⟩
theorem BBlk.keep {w w' : World} {q n : Nat} {f : Nat → Bool} (h : BBlk w q n f) (hb : w'.heap[q]? = w.heap[q]?) : BBlk w' q n f := by
  obtain ⟨arr, ha, hs, hf⟩ := h
  exact ⟨arr, hb.trans ha, hs, hf⟩
theorem BBlk.lt {w : World} {q n : Nat} {f : Nat → Bool} (h : BBlk w q n f) : q < w.heap.size := by obtain ⟨arr, ha, _⟩ := h; exact blk_lt ha

theorem Try.infoB : (Try.prog.info? 4).map (fun i => (i.zero, i.size, i.bytes)) = some (some (.bool false), 1, 1) := by kernel_rfl
set_option maxRecDepth 100000 in
/-- make of n Booleans, all false. -/
theorem makeB_run (n : Nat) (h : n ≤ 1000000000) : ∃ M : Array Value, (M.size = n ∧ ∀ j, j < n → M[j]? = some (.bool false)) ∧ (∀ W : World, BBlk (W.alloc (.cells M 4)) W.heap.size n (fun _ => false)) ∧ ∀ W : World, (Instr.makeSlice 51 (.int .i64 (n : Int)) (.int .i64 (n : Int))).run Try.prog W = .ok (.slice (some ⟨W.heap.size, 0, none⟩) n n) (W.alloc (.cells M 4)) := by
  obtain ⟨i0, hi, hz0, hz1, hz2⟩ := info_parts Try.infoB
  have hsz : (madeCells (Value.bool false).cells (((n : Nat) : Int).toNat * i0.size)).size = n := by rw [size_madeCells, hz1]; simp
  have hat : ∀ j, j < n → (madeCells (Value.bool false).cells (((n : Nat) : Int).toNat * i0.size))[j]? = some (.bool false) := by
    intro j hj
    have e : (madeCells (Value.bool false).cells (((n : Nat) : Int).toNat * i0.size)).toList = List.replicate n (.bool false) := by
      rw [hz1]
      have := toList_madeCells_one (.bool false) n
      simp only [Int.toNat_natCast, Nat.mul_one]
      exact this
    have e2 : (madeCells (Value.bool false).cells (((n : Nat) : Int).toNat * i0.size))[j]? = (List.replicate n (Value.bool false))[j]? := by rw [← e]; simp
    rw [e2]
    simp [hj]
  refine ⟨madeCells (Value.bool false).cells (((n : Nat) : Int).toNat * i0.size), ⟨hsz, hat⟩, fun W => ⟨_, heap_alloc_new W _, hsz, hat⟩, fun W => ?_⟩
  have h := run_make (P := Try.prog) W 51 4 i0 (.bool false) Try.underlying51 hi hz0 .i64 .i64 (n : Int) (n : Int) (by omega) (by omega) (by rw [hz2]; omega) (by omega)
  simpa using h

/-- Where a piece of one byte, or of none, may end. -/
def EndsOne (p : Pi) (s : ByteArray) (i j : Nat) : Prop :=
  ((p.op = 1 ∨ p.op = 2 ∨ p.op = 3 ∨ p.op = 4) ∧ (∃ h : i < s.size, En.takes p s[i] = true) ∧ j = i + 1) ∨ (p.op = 10 ∧ i = 0 ∧ j = i) ∨ (p.op = 11 ∧ i = s.size ∧ j = i) ∨ (p.op = 12 ∧ j = i)
theorem ends_one (ps : List Pi) (s : ByteArray) (k i j : Nat) (hop : (ps.getD k Pi.no).op ≠ 5 ∧ (ps.getD k Pi.no).op ≠ 6 ∧ (ps.getD k Pi.no).op ≠ 7 ∧ (ps.getD k Pi.no).op ≠ 8 ∧ (ps.getD k Pi.no).op ≠ 9) : En.Ends ps s k i j ↔ EndsOne (ps.getD k Pi.no) s i j := by
  constructor
  · intro h
    cases h with
    | one h ho ht => exact .inl ⟨ho, ⟨h, ht⟩, rfl⟩
    | begin ho h => exact .inr (.inl ⟨ho, h, rfl⟩)
    | fin ho h => exact .inr (.inr (.inl ⟨ho, h, rfl⟩))
    | none ho => exact .inr (.inr (.inr ⟨ho, rfl⟩))
    | cat ho => omega
    | altl ho => omega
    | altr ho => omega
    | opt0 ho => omega
    | opt1 ho => omega
    | star0 ho => omega
    | star1 ho => omega
    | plus0 ho => omega
    | plus1 ho => omega
  · rintro (⟨ho, ⟨h, ht⟩, rfl⟩ | ⟨ho, h, rfl⟩ | ⟨ho, h, rfl⟩ | ⟨ho, rfl⟩)
    · exact .one h ho ht
    · exact .begin ho h
    · exact .fin ho h
    · exact .none ho

set_option maxHeartbeats 2000000 in
set_option maxRecDepth 100000 in
theorem spOne_any (m i : Nat) (p : Pi) (s : ByteArray) (ka : Option Addr) (kl kc : Nat) (w : World) (c1 : w.cell? ⟨m, 1, none⟩ = some (.string s)) (hop : p.op = 1 ∨ p.op = 2 ∨ p.op = 3 ∨ p.op = 4 ∨ p.op = 10 ∨ p.op = 11 ∨ p.op = 12) (ht : p.text.size ≤ 1048576) (hs : s.size ≤ 1048576) (hi : i ≤ s.size) :
    Calls Try.prog 44 #[.pointer (some ⟨m, 0, none⟩), .agg #[.int .i64 p.op, .string p.text, .slice ka kl kc], .int .i64 (i : Int)] w fun e w' => ∃ q, e = .returned (.slice (some ⟨q, 0, none⟩) (s.size + 1) (s.size + 1)) ∧ w.heap.size ≤ q ∧ BAt w' q (s.size + 1) (EndsOne p s i) ∧ Below w.heap.size w w' := by
  obtain ⟨M, ⟨hMs, hMat⟩, hM, hmk⟩ := makeB_run (s.size + 1) (by omega)
  have hMi := hMat i (by omega)
  have hmk1 : ∀ W : World, (Instr.makeSlice 51 (.int .i64 ((s.size : Int) + 1)) (.int .i64 ((s.size : Int) + 1))).run Try.prog W = .ok (.slice (some ⟨W.heap.size, 0, none⟩) (s.size + 1) (s.size + 1)) (W.alloc (.cells M 4)) := hmk
  have HM : Hid (∀ W : World, BBlk (W.alloc (.cells M 4)) W.heap.size (s.size + 1) (fun _ => false)) := hM
  have hml : m < w.heap.size := World.block_lt_of_cell? w _ c1
  have c1' : ∀ o : Obj, (w.alloc o).cell? ⟨m, 1, none⟩ = some (.string s) := fun o => (((Below.refl w.heap.size w).alloc (Nat.le_refl _) o).cell (p := ⟨m, 1, none⟩) hml).trans c1
  obtain ⟨op, t, ks⟩ := p
  simp only at hop ht ⊢
  have HB2 : Hid (∀ A B : Obj, Below w.heap.size w ((w.alloc A).alloc B)) := fun A B => ((Below.refl _ _).alloc (Nat.le_refl _) _).alloc (by simp) _
  clear hM hmk
  have i0 : (i : Int) < ((s.size + 1 : Nat) : Int) := by omega
  have fin : ∀ (A : Obj) (b : Bool) (k : Nat) (P : Nat → Prop), k < s.size + 1 → (∀ j, P j ↔ (b = true ∧ j = k)) → BAt ((w.alloc A).alloc (.cells (M.setIfInBounds k (.bool b)) 4)) (w.heap.size + 1) (s.size + 1) P ∧ Below w.heap.size w ((w.alloc A).alloc (.cells (M.setIfInBounds k (.bool b)) 4)) := by
    intro A b k P hk hP
    refine ⟨?_, HB2.out _ _⟩
    have h1 : ((w.alloc A).alloc (.cells (M.setIfInBounds k (.bool b)) 4)).heap[w.heap.size + 1]? = some (.cells (M.setIfInBounds k (.bool b)) 4 (0, 0)) := by
      have := heap_alloc_new (w.alloc A) (.cells (M.setIfInBounds k (.bool b)) 4)
      rwa [show (w.alloc A).heap.size = w.heap.size + 1 by simp] at this
    refine ⟨blk_lt h1, fun j hj => ⟨if j = k then b else false, ?_, ?_⟩⟩
    · rw [blk_cell h1, Array.getElem?_setIfInBounds]
      by_cases hjk : k = j
      · subst hjk
        rw [if_pos rfl, if_pos (by omega), if_pos rfl]
      · rw [if_neg hjk, hMat j hj, if_neg (fun e => hjk e.symm)]
    · rw [hP j]
      by_cases hjk : j = k
      · simp [hjk]
      · simp [hjk]
  have HFIN : Hid _ := fin
  clear fin
  by_cases h10 : op = 10
  · subst h10
    have HP : Hid (∀ j, EndsOne ⟨10, t, ks⟩ s i j ↔ (((i : Int) == 0) = true ∧ j = i)) := by
      intro j
      unfold EndsOne
      simp
    clear hMat
    go_enter Try.func44, Try.ntmps44
    go_wp2_with fail
    go_ret
    exact ⟨_, rfl, by omega, (HFIN.out _ _ _ _ (by omega) HP.out).1, (HFIN.out _ _ _ (fun j => ((((i : Int) == 0)) = true ∧ j = i)) (by omega) (fun j => Iff.rfl)).2⟩
  by_cases h11 : op = 11
  · subst h11
    have HP : Hid (∀ j, EndsOne ⟨11, t, ks⟩ s i j ↔ (((i : Int) == (s.size : Int)) = true ∧ j = i)) := by
      intro j
      unfold EndsOne
      simp
      intro _
      omega
    clear hMat
    go_enter Try.func44, Try.ntmps44
    go_wp2_with fail
    go_ret
    exact ⟨_, rfl, by omega, (HFIN.out _ _ _ _ (by omega) HP.out).1, (HFIN.out _ _ _ (fun j => ((((i : Int) == (s.size : Int))) = true ∧ j = i)) (by omega) (fun j => Iff.rfl)).2⟩
  by_cases h12 : op = 12
  · subst h12
    have HP : Hid (∀ j, EndsOne ⟨12, t, ks⟩ s i j ↔ j = i) := by
      intro j
      unfold EndsOne
      simp
    clear hMat
    go_enter Try.func44, Try.ntmps44
    go_wp2_with fail
    go_ret
    exact ⟨_, rfl, by omega, (HFIN.out _ _ _ _ (by omega) (fun j => (HP.out j).trans ⟨fun h => ⟨rfl, h⟩, fun h => h.2⟩)).1, (HFIN.out _ _ _ (fun j => ((true) = true ∧ j = i)) (by omega) (fun j => Iff.rfl)).2⟩
  have hop4 : op = 1 ∨ op = 2 ∨ op = 3 ∨ op = 4 := by omega
  have d10 : (op == 10) = false := by simpa using h10
  have d11 : (op == 11) = false := by simpa using h11
  have d12 : (op == 12) = false := by simpa using h12
  have HZ : Hid (∀ A : Obj, (∀ j, ¬ EndsOne ⟨op, t, ks⟩ s i j) → BAt ((w.alloc A).alloc (.cells M 4)) (w.heap.size + 1) (s.size + 1) (EndsOne ⟨op, t, ks⟩ s i)) := by
    intro A hno
    have hb := HM.out (w.alloc A)
    rw [show (w.alloc A).heap.size = w.heap.size + 1 by simp] at hb
    exact hb.at _ (fun j hj => ⟨fun h => (by cases h), fun h => absurd h (hno j)⟩)
  by_cases hlt : i < s.size
  · have h256 : s[i].toNat < 256 := s[i].toNat_lt
    have hi1 : (i : Int) < (s.size : Int) := by omega
    have dlt : decide ((i : Int) < (s.size : Int)) = true := decide_eq_true hi1
    have dltN : decide (i < s.size) = true := decide_eq_true hlt
    have CB : Hid (∀ W : World, Calls Try.prog 62 #[.agg #[.int .i64 op, .string t, .slice ka kl kc], .int .u8 (s[i].toNat : Int)] W fun e w' => e = .returned (.bool (En.takes ⟨op, t, ks⟩ s[i])) ∧ Below W.heap.size W w') := fun W => spByte_any ⟨op, t, ks⟩ s[i] ka kl kc W hop4 ht
    obtain ⟨tk, htk⟩ : ∃ tk, tk = En.takes ⟨op, t, ks⟩ s[i] := ⟨_, rfl⟩
    rw [← htk] at CB
    have HTK : Hid (tk = En.takes ⟨op, t, ks⟩ s[i]) := htk
    have HE : Hid (∀ j, EndsOne ⟨op, t, ks⟩ s i j ↔ (tk = true ∧ j = i + 1)) := by
      intro j
      unfold EndsOne
      constructor
      · rintro (⟨_, ⟨h, h2⟩, h3⟩ | ⟨h, _⟩ | ⟨h, _⟩ | ⟨h, _⟩)
        · exact ⟨htk.trans h2, h3⟩
        · exact absurd h h10
        · exact absurd h h11
        · exact absurd h h12
      · rintro ⟨h1, h2⟩
        exact .inl ⟨hop4, ⟨hlt, htk.symm.trans h1⟩, h2⟩
    have hMi1 := hMat (i + 1) (by omega)
    have i2 : (i : Int) + 1 < ((s.size + 1 : Nat) : Int) := by omega
    have i3 : ((i : Int) + 1).toNat = i + 1 := by omega
    clear htk hMat h10 h11 h12 hop hop4
    go_enter Try.func44, Try.ntmps44
    go_wp2_with fail
    have c1'' : ∀ A B : Obj, ((w.alloc A).alloc B).cell? ⟨m, 1, none⟩ = some (.string s) := fun A B => ((HB2.out A B).cell (p := ⟨m, 1, none⟩) hml).trans c1
    have HKP : Hid (∀ (w' w'' : World), (w'.cell? ⟨w.heap.size, 0, none⟩ = some (.int .i64 op) ∧ w'.cell? ⟨w.heap.size, 1, none⟩ = some (.string t) ∧ w'.cell? ⟨w.heap.size, 2, none⟩ = some (.slice ka kl kc) ∧ w'.cell? ⟨m, 1, none⟩ = some (.string s)) → Below w'.heap.size w' w'' →
        (w''.cell? ⟨w.heap.size, 0, none⟩ = some (.int .i64 op) ∧ w''.cell? ⟨w.heap.size, 1, none⟩ = some (.string t) ∧ w''.cell? ⟨w.heap.size, 2, none⟩ = some (.slice ka kl kc) ∧ w''.cell? ⟨m, 1, none⟩ = some (.string s))) := by
      intro w' w'' ⟨h1, h2, h3, h4⟩ hb
      have hl : w.heap.size < w'.heap.size := World.block_lt_of_cell? w' _ h1
      have hl2 : m < w'.heap.size := World.block_lt_of_cell? w' _ h4
      exact ⟨(hb.cell hl).trans h1, (hb.cell hl).trans h2, (hb.cell hl).trans h3, (hb.cell hl2).trans h4⟩
    go_region_held3 (fun w' => w'.cell? ⟨w.heap.size, 0, none⟩ = some (.int .i64 op) ∧ w'.cell? ⟨w.heap.size, 1, none⟩ = some (.string t) ∧ w'.cell? ⟨w.heap.size, 2, none⟩ = some (.slice ka kl kc) ∧ w'.cell? ⟨m, 1, none⟩ = some (.string s)) (first | (refine HKP.out _ _ ?_ hb3; go_keep) | go_keep) ((go_at_call 62; refine (CB.out _).mono ?_; rintro e w3 ⟨rfl, hb3⟩))
    have hb0 := HM.out (w.alloc (.cells #[.int .i64 op, .string t, .slice ka kl kc] 81))
    rw [show (w.alloc (.cells #[.int .i64 op, .string t, .slice ka kl kc] 81)).heap.size = w.heap.size + 1 by simp] at hb0
    have hbb : BBlk w3 (w.heap.size + 1) (s.size + 1) (fun _ => false) := hb0.keep (hb3.block _ (by simp))
    have hbw : Below w.heap.size w w3 := (HB2.out _ _).drew.trans (hb3.mono (by simp; omega))
    clear hb0
    cases tk with
    | true =>
      obtain ⟨y1, y2⟩ := hbb.cell (i + 1) (by omega)
      have HS : Hid (BAt (w3.setCell ⟨w.heap.size + 1, i + 1, none⟩ (.bool true)) (w.heap.size + 1) (s.size + 1) (EndsOne ⟨op, t, ks⟩ s i)) := (hbb.set (i + 1) true (by omega)).at _ (fun j hj => by
        rw [HE.out j]
        by_cases hji : j = i + 1
        · simp [hji]
        · simp [hji])
      clear hbb
      go_wp2_with fail
      go_ret
      exact ⟨_, rfl, by omega, HS.out, hbw.setCell (by show _ ≤ w.heap.size + 1; omega) _⟩
    | false =>
      have HS : Hid (BAt w3 (w.heap.size + 1) (s.size + 1) (EndsOne ⟨op, t, ks⟩ s i)) := hbb.at _ (fun j hj => by
        rw [HE.out j]
        simp)
      clear hbb
      go_wp2_with fail
      go_ret
      exact ⟨_, rfl, by omega, HS.out, hbw⟩
  · have dlt : decide ((i : Int) < (s.size : Int)) = false := decide_eq_false (by omega)
    have dltN : decide (i < s.size) = false := decide_eq_false hlt
    have HN : Hid (∀ j, ¬ EndsOne ⟨op, t, ks⟩ s i j) := by
      intro j hj
      unfold EndsOne at hj
      rcases hj with ⟨_, ⟨h, _⟩, _⟩ | ⟨h, _⟩ | ⟨h, _⟩ | ⟨h, _⟩
      · exact hlt h
      · exact h10 h
      · exact h11 h
      · exact h12 h
    clear hMat h10 h11 h12 hop hop4
    go_enter Try.func44, Try.ntmps44
    go_wp2_with fail
    go_quiet (fail)
    go_wp2_with fail
    go_ret
    exact ⟨_, rfl, by omega, (HZ.out _ HN.out).keep rfl, below_drewN (HB2.out _ _) _⟩
end PartSpB
end Go.Proofs.Ytlnmbahakdmkgaa
