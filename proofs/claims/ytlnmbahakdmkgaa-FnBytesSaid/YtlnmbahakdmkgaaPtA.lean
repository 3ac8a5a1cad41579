/- Patterns in memory: what a row of pieces holds; how great a pattern is, as the law measures it. -/
import Derived.Test.YtlnmbahakdmkgaaProg
import Derived.WalkKit
import Derived.WalkSpells
import Derived.WalkLawsBesides
import Derived.Handy
import Derived.Lib.Strings
import Derived.BigQuiet
import Derived.Below
import Derived.Deep.QuietTactic
import Derived.Deep.RegionHeld3
namespace Go.Proofs.Ytlnmbahakdmkgaa
open Go.RowKit

/-- A piece: its kind, its text, its kids. -/
structure Pi where
  op : Int
  text : ByteArray
  kids : List Int
def Pi.no : Pi := ⟨0, ByteArray.empty, []⟩

/-- The slice v leads to the numbers ks. -/
def KidsAt (w : World) (v : Value) (ks : List Int) : Prop := ∃ (ka : Option Addr) (kc : Nat), v = .slice ka ks.length kc ∧
  (0 < ks.length → ∃ b o, ka = some ⟨b, o, none⟩ ∧ b < w.heap.size ∧ ∀ i, i < ks.length → w.cell? ⟨b, o + i, none⟩ = some (.int .i64 (ks.getD i 0)))
/-- Three cells hold the piece p. -/
def PieceAt (w : World) (b o : Nat) (p : Pi) : Prop := ∃ kv, w.cell? ⟨b, o, none⟩ = some (.int .i64 p.op) ∧ w.cell? ⟨b, o + 1, none⟩ = some (.string p.text) ∧ w.cell? ⟨b, o + 2, none⟩ = some kv ∧ KidsAt w kv p.kids
/-- The slice v leads to the pieces ps. -/
def PcsAt (w : World) (v : Value) (ps : List Pi) : Prop := ∃ (a : Option Addr) (c : Nat), v = .slice a ps.length c ∧
  (0 < ps.length → ∃ b o, a = some ⟨b, o, none⟩ ∧ b < w.heap.size ∧ ∀ i, i < ps.length → PieceAt w b (o + i * 3) (ps.getD i Pi.no))

theorem KidsAt.keep {w w' : World} {v : Value} {ks : List Int} (h : KidsAt w v ks) (hb : Below w.heap.size w w') : KidsAt w' v ks := by
  obtain ⟨ka, kc, rfl, f⟩ := h
  refine ⟨ka, kc, rfl, fun h0 => ?_⟩
  obtain ⟨b, o, rfl, hl, hc⟩ := f h0
  exact ⟨b, o, rfl, Nat.lt_of_lt_of_le hl hb.size, fun i hi => (hb.cell hl).trans (hc i hi)⟩
theorem PieceAt.keep {w w' : World} {b o : Nat} {p : Pi} (h : PieceAt w b o p) (hl : b < w.heap.size) (hb : Below w.heap.size w w') : PieceAt w' b o p := by
  obtain ⟨kv, c0, c1, c2, hk⟩ := h
  exact ⟨kv, (hb.cell hl).trans c0, (hb.cell hl).trans c1, (hb.cell hl).trans c2, hk.keep hb⟩
theorem PcsAt.keep {w w' : World} {v : Value} {ps : List Pi} (h : PcsAt w v ps) (hb : Below w.heap.size w w') : PcsAt w' v ps := by
  obtain ⟨ka, kc, rfl, f⟩ := h
  refine ⟨ka, kc, rfl, fun h0 => ?_⟩
  obtain ⟨b, o, rfl, hl, hc⟩ := f h0
  exact ⟨b, o, rfl, Nat.lt_of_lt_of_le hl hb.size, fun i hi => (hc i hi).keep hl hb⟩

set_option maxHeartbeats 400000 in
theorem szInts_any (v : Value) (ks : List Int) (l : Int) (w : World) (h : KidsAt w v ks) (hl0 : 0 ≤ l) (hl : l ≤ 1048576) (hk : ks.length ≤ maxLen) :
    Calls Try.prog 61 #[v, .int .i64 l] w fun e w' => w' = w ∧ ∃ r : Int, e = .returned (.int .i64 r) ∧ (r = -1 ∨ 0 ≤ r ∧ r ≤ l ∧ ks.length ≤ 1048576) := by
  obtain ⟨ka, kc, rfl, _⟩ := h
  unfold maxLen at hk
  by_cases hq : l - (ks.length : Int) < 0
  · have d : decide (l - (ks.length : Int) < 0) = true := by simpa using hq
    go_enter Try.func61, Try.ntmps61
    go_wp2
    go_ret
    exact ⟨rfl, -1, rfl, .inl rfl⟩
  · have d : decide (l - (ks.length : Int) < 0) = false := by simpa using hq
    go_enter Try.func61, Try.ntmps61
    go_wp2
    go_ret
    exact ⟨rfl, _, rfl, .inr ⟨by omega, by omega, by omega⟩⟩

set_option maxHeartbeats 400000 in
theorem szPiece_any (kv : Value) (p : Pi) (l : Int) (w : World) (h : KidsAt w kv p.kids) (hl0 : 0 ≤ l) (hl : l ≤ 1048576) (hk : p.kids.length ≤ maxLen) (ht : p.text.size ≤ maxLen) :
    Calls Try.prog 40 #[.agg #[.int .i64 p.op, .string p.text, kv], .int .i64 l] w fun e w' => Below w.heap.size w w' ∧ ∃ r : Int, e = .returned (.int .i64 r) ∧ (r = -1 ∨ 0 ≤ r ∧ r ≤ l ∧ p.kids.length ≤ 1048576 ∧ p.text.size ≤ 1048576) := by
  obtain ⟨op, t, ks⟩ := p
  simp only at h hk ht ⊢
  have ht2 := ht
  unfold maxLen at ht2
  by_cases hq : l - (t.size : Int) < 0
  · have d : decide (l - (t.size : Int) < 0) = true := by simpa using hq
    obtain ⟨ka, kc, rfl, _⟩ := h
    go_enter Try.func40, Try.ntmps40
    go_wp2
    go_ret
    exact ⟨(Below.refl _ _).alloc (Nat.le_refl _) _, -1, rfl, .inl rfl⟩
  · have d : decide (l - (t.size : Int) < 0) = false := by simpa using hq
    have C := fun w' (hb : Below w.heap.size w w') => szInts_any kv ks (l - (t.size : Int)) w' (h.keep hb) (by omega) (by omega) hk
    obtain ⟨ka, kc, rfl, _⟩ := h
    have HC : Hid (∀ w', Below w.heap.size w w' → Calls Try.prog 61 #[.slice ka ks.length kc, .int .i64 (l - (t.size : Int))] w' fun e w'' => w'' = w' ∧ ∃ r : Int, e = .returned (.int .i64 r) ∧ (r = -1 ∨ 0 ≤ r ∧ r ≤ l - (t.size : Int) ∧ ks.length ≤ 1048576)) := C
    clear C
    go_enter Try.func40, Try.ntmps40
    go_wp2_with fail
    refine (HC.out _ ((Below.refl _ _).alloc (Nat.le_refl _) _)).mono ?_
    rintro e w1 ⟨rfl, r, rfl, hr⟩
    rcases hr with rfl | ⟨hr0, hr1, hr2⟩
    · go_wp2
      go_ret
      exact ⟨(Below.refl _ _).alloc (Nat.le_refl _) _, -1, rfl, .inl rfl⟩
    · have d2 : decide (r < 0) = false := by simp; omega
      go_wp2
      go_ret
      exact ⟨(Below.refl _ _).alloc (Nat.le_refl _) _, _, rfl, .inr ⟨hr0, by omega, hr2, by omega⟩⟩

/-- No piece is too great. -/
def Small (ps : List Pi) (n : Nat) : Prop := ∀ i, i < n → (ps.getD i Pi.no).kids.length ≤ 1048576 ∧ (ps.getD i Pi.no).text.size ≤ 1048576
/-- Lengths that fit in memory. -/
def Fit (ps : List Pi) : Prop := ps.length ≤ maxLen ∧ ∀ i, i < ps.length → (ps.getD i Pi.no).kids.length ≤ maxLen ∧ (ps.getD i Pi.no).text.size ≤ maxLen

set_option maxHeartbeats 800000 in
theorem szPcs_any (v : Value) (ps : List Pi) (l : Int) (w : World) (h : PcsAt w v ps) (hl0 : 0 ≤ l) (hl : l ≤ 1048576) (hf : Fit ps) :
    Calls Try.prog 18 #[v, .int .i64 l] w fun e w' => Below w.heap.size w w' ∧ ∃ r : Int, e = .returned (.int .i64 r) ∧ (r = -1 ∨ 0 ≤ r ∧ r ≤ l ∧ ps.length ≤ 1048576 ∧ Small ps ps.length) := by
  have hf1 := hf.1
  unfold maxLen at hf1
  obtain ⟨ad, c, rfl, f⟩ := h
  obtain ⟨n, hn⟩ : ∃ n, n = ps.length := ⟨_, rfl⟩
  have HF : Hid (∀ i, i < n → (ps.getD i Pi.no).kids.length ≤ maxLen ∧ (ps.getD i Pi.no).text.size ≤ maxLen) := by rw [hn]; exact hf.2
  rw [← hn] at f hf1 ⊢
  clear hf
  by_cases hq : l - (n : Int) < 0
  · have d : decide (l - (n : Int) < 0) = true := by simpa using hq
    clear f hn
    go_enter Try.func18, Try.ntmps18
    go_wp2
    go_ret
    exact ⟨Below.refl _ _, -1, rfl, .inl rfl⟩
  · have d : decide (l - (n : Int) < 0) = false := by simpa using hq
    have hn2 : n ≤ 1048576 := by omega
    by_cases h0 : n = 0
    · subst h0
      clear f hn HF
      have d : decide (l - ((0 : Nat) : Int) < 0) = false := by simpa using hq
      go_enter Try.func18, Try.ntmps18
      go_wp2
      refine wp_loop_rounds 1 ?_
      rw [rounds_succ]
      go_wp2
      go_ret
      exact ⟨Below.refl _ _, _, rfl, .inr ⟨by omega, by omega, by omega, fun i hi => by omega⟩⟩
    · obtain ⟨b, o, rfl, hb, hc⟩ := f (by omega)
      have HC : Hid (∀ i, i < n → PieceAt w b (o + i * 3) (ps.getD i Pi.no)) := hc
      clear hc f hn
      go_enter Try.func18, Try.ntmps18
      go_wp2
      go_loopw [1, 5] (fun q i wr => ∃ (k : Nat) (r : Int), i = .int .i64 (k : Int) ∧ q = .int .i64 r ∧ 0 ≤ r ∧ r ≤ l ∧ k ≤ n ∧ Below w.heap.size w wr ∧ Hid (Small ps k)) (fun _ i _ => n - (intOf i).toNat)
      case atStart => exact ⟨0, _, rfl, rfl, by omega, by omega, by omega, Below.refl _ _, fun i hi => by omega⟩
      case round =>
        obtain ⟨k, r, rfl, rfl, hr0, hr1, hk, hbel, HS⟩ := hrel
        have hsz := hbel.size
        by_cases hlt : k < n
        · obtain ⟨p, hp⟩ : ∃ p, p = ps.getD k Pi.no := ⟨_, rfl⟩
          have hpc := HC.out k hlt
          rw [← hp] at hpc
          obtain ⟨kv, c0, c1, c2, hkv⟩ := hpc
          have e0 := (hbel.cell hb).trans c0
          have e1 := (hbel.cell hb).trans c1
          have e2 := (hbel.cell hb).trans c2
          have hkv2 := hkv.keep hbel
          have hkl := HF.out k hlt
          rw [← hp] at hkl
          have CC : Hid (Calls Try.prog 40 #[.agg #[.int .i64 p.op, .string p.text, kv], .int .i64 r] wr fun e w' => Below wr.heap.size wr w' ∧ ∃ r' : Int, e = .returned (.int .i64 r') ∧ (r' = -1 ∨ 0 ≤ r' ∧ r' ≤ r ∧ p.kids.length ≤ 1048576 ∧ p.text.size ≤ 1048576)) :=
            szPiece_any kv p r wr hkv2 hr0 (by omega) hkl.1 hkl.2
          have HP : Hid (p = ps.getD k Pi.no) := hp
          clear hp c0 c1 c2 hkl
          obtain ⟨op, t, ks⟩ := p
          obtain ⟨ka, kc, rfl, _⟩ := hkv2
          clear hkv
          have i1 : (k : Int) < (n : Int) := by omega
          go_wp2_with fail
          refine CC.out.mono ?_
          rintro e w1 ⟨hb1, r1, rfl, hr⟩
          rcases hr with rfl | ⟨h3, h4, h5, h6⟩
          · go_wp2
            go_ret
            exact ⟨hbel.trans (hb1.mono hsz), -1, rfl, .inl rfl⟩
          · have d2 : decide (r1 < 0) = false := by simp; omega
            go_wp2
            go_roundw
            case rel =>
              refine ⟨k + 1, r1, by go_num, rfl, h3, by omega, by omega, hbel.trans (hb1.mono hsz), ?_⟩
              intro i hi
              by_cases hik : i = k
              · subst hik
                rw [← HP.out]
                exact ⟨h5, h6⟩
              · exact HS.out i (by omega)
            case measure => simp [intOf]; omega
        · obtain rfl : k = n := by omega
          go_wp2
          go_ret
          exact ⟨hbel, _, rfl, .inr ⟨hr0, hr1, by omega, HS.out⟩⟩

set_option maxHeartbeats 800000 in
theorem szPat_any (v : Value) (ps : List Pi) (l : Int) (w : World) (h : PcsAt w v ps) (hl0 : 0 ≤ l) (hl : l ≤ 1048576) (hf : Fit ps) :
    Calls Try.prog 6 #[.agg #[v], .int .i64 l] w fun e w' => Below w.heap.size w w' ∧ ∃ r : Int, e = .returned (.int .i64 r) ∧ (r = -1 ∨ 0 ≤ r ∧ r ≤ l ∧ ps.length ≤ 1048576 ∧ Small ps ps.length) := by
  have HB : Hid (Below w.heap.size w (w.alloc (.cells #[v] 24))) := (Below.refl _ _).alloc (Nat.le_refl _) _
  have CC : Hid (Calls Try.prog 18 #[v, .int .i64 l] (w.alloc (.cells #[v] 24)) fun e w' => Below (w.alloc (.cells #[v] 24)).heap.size (w.alloc (.cells #[v] 24)) w' ∧ ∃ r : Int, e = .returned (.int .i64 r) ∧ (r = -1 ∨ 0 ≤ r ∧ r ≤ l ∧ ps.length ≤ 1048576 ∧ Small ps ps.length)) :=
    szPcs_any v ps l _ (h.keep HB.out) hl0 hl hf
  obtain ⟨ad, c, rfl, _⟩ := h
  go_enter Try.func6, Try.ntmps6
  go_wp2_with fail
  refine CC.out.mono ?_
  rintro e w1 ⟨hb1, r1, rfl, hr⟩
  have hb2 := HB.out.trans (hb1.mono (by simp))
  rcases hr with rfl | ⟨h3, h4⟩
  · go_wp2
    go_ret
    exact ⟨hb2, -1, rfl, .inl rfl⟩
  · have d2 : decide (r1 < 0) = false := by simp; omega
    go_wp2
    go_ret
    exact ⟨hb2, _, rfl, .inr ⟨h3, h4⟩⟩
#print axioms szPat_any
end Go.Proofs.Ytlnmbahakdmkgaa
