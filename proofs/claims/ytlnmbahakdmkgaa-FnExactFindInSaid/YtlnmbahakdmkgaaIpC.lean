/- Where a piece may end, by the program: a piece of one byte, or of none. -/
import Derived.Test.YtlnmbahakdmkgaaIpB
import Derived.Test.YtlnmbahakdmkgaaShelfX
namespace Go.Proofs.Ytlnmbahakdmkgaa
open Go.RowKit Go.Maps

/-- A set of places, or nil where there are none; it lies from block B on. -/
def OS (w : World) (B : Nat) (ob : Option Nat) (S : Nat → Prop) : Prop := (ob = none ∧ ∀ k, ¬ S k) ∨ ∃ b, ob = some b ∧ B ≤ b ∧ ES w b S
/-- A linked piece. -/
def LpAt (w : World) (g : Nat) (op : Int) (t : ByteArray) (f1 f2 : Option Addr) (kb : Option Nat) : Prop := w.heap[g]? = some (.cells #[.int .i64 op, .string t, .pointer f1, .pointer f2, .map kb] 93 (0, 0))
theorem LpAt.cells {w : World} {g : Nat} {op : Int} {t : ByteArray} {f1 f2 : Option Addr} {kb : Option Nat} (h : LpAt w g op t f1 f2 kb) : w.cell? ⟨g, 0, none⟩ = some (.int .i64 op) ∧ w.cell? ⟨g, 1, none⟩ = some (.string t) ∧ w.cell? ⟨g, 2, none⟩ = some (.pointer f1) ∧ w.cell? ⟨g, 3, none⟩ = some (.pointer f2) ∧ w.cell? ⟨g, 4, none⟩ = some (.map kb) :=
  ⟨by rw [blk_cell h]; rfl, by rw [blk_cell h]; rfl, by rw [blk_cell h]; rfl, by rw [blk_cell h]; rfl, by rw [blk_cell h]; rfl⟩

theorem index_mem (l : List UInt8) (c : UInt8) : (0 ≤ Lib.indexByte l c) ↔ c ∈ l := by
  constructor
  · intro h
    obtain ⟨o, ho⟩ : ∃ o : Nat, Lib.indexByte l c = (o : Int) := ⟨_, (Int.toNat_of_nonneg h).symm⟩
    exact List.mem_of_getElem? (Lib.indexByte_some ho).1
  · intro h
    obtain ⟨i, hi⟩ := List.getElem?_of_mem h
    rcases Int.lt_or_le (Lib.indexByte l c) 0 with hl | hl
    · exfalso
      have e : Lib.indexByte l c = -1 := by have := Lib.indexByte_ge l c; omega
      exact Lib.indexByte_none e i hi
    · exact hl

set_option maxHeartbeats 2000000 in
set_option maxRecDepth 100000 in
theorem takesByte_any (g : Nat) (p : Pi) (f1 f2 : Option Addr) (kb : Option Nat) (b : UInt8) (w : World) (h : LpAt w g p.op p.text f1 f2 kb) :
    Calls Try.prog 66 #[.pointer (some ⟨g, 0, none⟩), .int .u8 (b.toNat : Int)] w fun e w' => e = .returned (.bool (En.takes p b)) ∧ Below w.heap.size w w' := by
  obtain ⟨c0, c1, -⟩ := h.cells
  obtain ⟨op, t, ks⟩ := p
  simp only at c0 c1
  by_cases h2 : op = 2
  · subst h2
    go_enter Try.func66, Try.ntmps66
    go_wp2_with fail
    go_ret
    exact ⟨rfl, Below.refl _ _⟩
  · have d2 : (op == 2) = false := by simpa using h2
    have C : Hid (∀ w, Calls Try.prog 72 #[.string t, .int .u8 (b.toNat : Int)] w fun e w' => e = .returned (.int .i64 (Lib.indexByte t.data.toList b)) ∧ w' = w) := fun w => indexByte_any t b w
    go_enter Try.func66, Try.ntmps66
    go_wp2_with fail
    go_region_held3 (fun w' => w'.cell? ⟨g, 0, none⟩ = some (.int .i64 op) ∧ w'.cell? ⟨g, 1, none⟩ = some (.string t)) (go_keep) ((go_at_call 72; refine (C.out _).mono ?_; rintro e w3 ⟨rfl, rfl⟩))
    go_wp2_with fail
    go_ret
    refine ⟨?_, (Below.refl _ _).drew⟩
    show Ending.returned (.bool (decide (0 ≤ Lib.indexByte t.data.toList b) == (op != 4))) = _
    unfold En.takes
    rw [if_neg h2]
    have e1 : decide (0 ≤ Lib.indexByte t.data.toList b) = decide (b ∈ t.data.toList) := by rw [decide_eq_decide]; exact index_mem _ _
    have e2 : (op != 4) = decide (op ≠ 4) := by by_cases h4 : op = 4 <;> simp [h4]
    rw [e1, e2]

/-- endSet{k: {}}. -/
theorem single_map (W : World) (k : Nat) (hk : k ≤ 2000000) : ∃ w2, (Instr.mapUpdate 57 (.map (some W.heap.size)) (.int .i64 (k : Int)) (.agg #[])).run Try.prog (W.alloc (.map #[] 0)) = .ok () w2 ∧ ES w2 W.heap.size (fun j => j = k) ∧ Below W.heap.size W w2 := by
  have h0 : (W.alloc (.map #[] 0)).ownsMap (H := Unit) Try.prog 3 unitElem W.heap.size 0 (.map []) := World.ownsMap_made W Try.prog 3 unitElem
  obtain ⟨w2, h1, h2, h3⟩ := h0.update keyI under_eset (by unfold maxLen; omega) (keyOf_int_mk Try.underlying3 (small_wf hk)) unitElem_mk
  refine ⟨w2, h1, ES.iff (ES.put h2 isMap_empty (S := fun _ => False) (fun x => by simp [Maps.has])) (fun j => by simp), ?_⟩
  exact ((Below.refl W.heap.size W).alloc (Nat.le_refl _) _).grown h3 (by simp) (fun q hq => by cases hq; exact Nat.le_refl _)

set_option maxHeartbeats 4000000 in
set_option maxRecDepth 100000 in
theorem endOfOne_any (g : Nat) (p : Pi) (f1 f2 : Option Addr) (kb : Option Nat) (s : ByteArray) (i : Nat) (w : World) (h : LpAt w g p.op p.text f1 f2 kb) (hop : p.op = 1 ∨ p.op = 2 ∨ p.op = 3 ∨ p.op = 4 ∨ p.op = 10 ∨ p.op = 11 ∨ p.op = 12) (hs : s.size ≤ 1048576) (hi : i ≤ s.size) :
    Calls Try.prog 47 #[.pointer (some ⟨g, 0, none⟩), .string s, .int .i64 (i : Int)] w fun e w' => ∃ ob, e = .returned (.map ob) ∧ OS w' w.heap.size ob (EndsOne p s i) ∧ Below w.heap.size w w' := by
  obtain ⟨c0, c1, -⟩ := h.cells
  have HL : Hid (LpAt w g p.op p.text f1 f2 kb) := h
  have hmm := @run_makeMap Try.prog
  obtain ⟨op, t, ks⟩ := p
  simp only at c0 c1 hop HL ⊢
  by_cases h12 : op = 12
  · subst h12
    obtain ⟨w2, hup, u1, u2⟩ := single_map w i (by omega)
    have HF : Hid (OS w2 w.heap.size (some w.heap.size) (EndsOne ⟨12, t, ks⟩ s i)) := .inr ⟨_, rfl, Nat.le_refl _, u1.iff (fun j => by simp [EndsOne])⟩
    go_enter Try.func47, Try.ntmps47
    go_wp2_with fail
    go_ret
    exact ⟨_, rfl, HF.out, u2⟩
  by_cases h10 : op = 10
  · subst h10
    by_cases hi0 : i = 0
    · have di : ((i : Int) == 0) = true := by simp [hi0]
      obtain ⟨w2, hup, u1, u2⟩ := single_map w i (by omega)
      have HF : Hid (OS w2 w.heap.size (some w.heap.size) (EndsOne ⟨10, t, ks⟩ s i)) := .inr ⟨_, rfl, Nat.le_refl _, u1.iff (fun j => by simp [EndsOne, hi0])⟩
      clear hi0
      go_enter Try.func47, Try.ntmps47
      go_wp2_with fail
      go_ret
      exact ⟨_, rfl, HF.out, u2⟩
    · have di : ((i : Int) == 0) = false := by simp; omega
      have HF : Hid (OS w w.heap.size none (EndsOne ⟨10, t, ks⟩ s i)) := .inl ⟨rfl, fun j => by simp [EndsOne, hi0]⟩
      go_enter Try.func47, Try.ntmps47
      go_wp2_with fail
      go_ret
      exact ⟨_, rfl, HF.out, Below.refl _ _⟩
  by_cases h11 : op = 11
  · subst h11
    by_cases hi0 : i = s.size
    · have di : ((i : Int) == (s.size : Int)) = true := by simp [hi0]
      obtain ⟨w2, hup, u1, u2⟩ := single_map w i (by omega)
      have HF : Hid (OS w2 w.heap.size (some w.heap.size) (EndsOne ⟨11, t, ks⟩ s i)) := .inr ⟨_, rfl, Nat.le_refl _, u1.iff (fun j => by simp [EndsOne, hi0])⟩
      clear hi0
      go_enter Try.func47, Try.ntmps47
      go_wp2_with fail
      go_ret
      exact ⟨_, rfl, HF.out, u2⟩
    · have di : ((i : Int) == (s.size : Int)) = false := by simp; omega
      have HF : Hid (OS w w.heap.size none (EndsOne ⟨11, t, ks⟩ s i)) := .inl ⟨rfl, fun j => by simp [EndsOne, hi0]⟩
      clear hi0
      go_enter Try.func47, Try.ntmps47
      go_wp2_with fail
      go_ret
      exact ⟨_, rfl, HF.out, Below.refl _ _⟩
  have hop4 : op = 1 ∨ op = 2 ∨ op = 3 ∨ op = 4 := by omega
  have HE : Hid (∀ j, EndsOne ⟨op, t, ks⟩ s i j ↔ ∃ h : i < s.size, En.takes ⟨op, t, ks⟩ s[i] = true ∧ j = i + 1) := by
    intro j
    unfold EndsOne
    constructor
    · rintro (⟨_, ⟨h, h2⟩, h3⟩ | ⟨h, _⟩ | ⟨h, _⟩ | ⟨h, _⟩)
      · exact ⟨h, h2, h3⟩
      · exact absurd h h10
      · exact absurd h h11
      · exact absurd h h12
    · rintro ⟨h, h1, h2⟩
      exact .inl ⟨hop4, ⟨h, h1⟩, h2⟩
  have CB : Hid (∀ b : UInt8, Calls Try.prog 66 #[.pointer (some ⟨g, 0, none⟩), .int .u8 (b.toNat : Int)] w fun e w' => e = .returned (.bool (En.takes ⟨op, t, ks⟩ b)) ∧ Below w.heap.size w w') := fun b => takesByte_any g ⟨op, t, ks⟩ f1 f2 kb b w h
  obtain ⟨F, hF⟩ : ∃ F, F = En.takes ⟨op, t, ks⟩ := ⟨_, rfl⟩
  obtain ⟨E, hE⟩ : ∃ E, E = EndsOne ⟨op, t, ks⟩ s i := ⟨_, rfl⟩
  rw [← hF] at HE CB
  rw [← hE] at HE ⊢
  clear h h10 h11 h12 hop HL hF hE
  rcases hop4 with rfl | rfl | rfl | rfl
  all_goals
    by_cases hlt : i < s.size
    · have dlt : decide ((i : Int) < (s.size : Int)) = true := decide_eq_true (by omega)
      have dltN : decide (i < s.size) = true := decide_eq_true hlt
      have h256 : s[i].toNat < 256 := s[i].toNat_lt
      have CB1 := CB.out s[i]
      obtain ⟨tk, htk⟩ : ∃ tk, tk = F s[i] := ⟨_, rfl⟩
      rw [← htk] at CB1
      have HCB : Hid (Calls Try.prog 66 #[.pointer (some ⟨g, 0, none⟩), .int .u8 (s[i].toNat : Int)] w fun e w' => e = .returned (.bool tk) ∧ Below w.heap.size w w') := CB1
      have HTK : Hid (tk = F s[i]) := htk
      clear htk CB1
      go_enter Try.func47, Try.ntmps47
      go_wp2_with fail
      refine HCB.out.mono ?_
      rintro e w3 ⟨rfl, hb3⟩
      have hb3' : Hid (Below w.heap.size w w3) := hb3
      cases tk with
      | true =>
        obtain ⟨w2, hup, u1, u2⟩ := single_map w3 (i + 1) (by omega)
        have HF : Hid (OS w2 w.heap.size (some w3.heap.size) E) := .inr ⟨_, rfl, hb3.size, u1.iff (fun j => by
          rw [HE.out j]
          exact ⟨fun h => ⟨hlt, HTK.out.symm, h⟩, fun ⟨_, _, h⟩ => h⟩)⟩
        have HU : Hid (Below w.heap.size w w2) := hb3.trans (u2.mono hb3.size)
        have e1 : ((i + 1 : Nat) : Int) = (i : Int) + 1 := by omega
        rw [e1] at hup
        clear u1 u2 hb3 e1
        go_wp2_with fail
        go_ret
        exact ⟨_, rfl, HF.out, HU.out⟩
      | false =>
        have HF : Hid (OS w3 w.heap.size none E) := .inl ⟨rfl, fun j hj => by
          obtain ⟨_, h1, _⟩ := (HE.out j).1 hj
          rw [← HTK.out] at h1
          cases h1⟩
        go_wp2_with fail
        go_ret
        exact ⟨_, rfl, HF.out, hb3'.out⟩
    · have dlt : decide ((i : Int) < (s.size : Int)) = false := decide_eq_false (by omega)
      have dltN : decide (i < s.size) = false := decide_eq_false hlt
      have HF : Hid (OS w w.heap.size none E) := .inl ⟨rfl, fun j hj => by
        obtain ⟨h1, _⟩ := (HE.out j).1 hj
        exact hlt h1⟩
      go_enter Try.func47, Try.ntmps47
      go_wp2_with fail
      go_ret
      exact ⟨_, rfl, HF.out, Below.refl _ _⟩
#print axioms endOfOne_any
#print axioms takesByte_any
end Go.Proofs.Ytlnmbahakdmkgaa
