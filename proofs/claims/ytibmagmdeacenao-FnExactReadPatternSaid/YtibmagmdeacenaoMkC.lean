/- The law's own marks: patterns that a reader told. -/
import Derived.Test.YtibmagmdeacenaoMkB
import Derived.Test.YtibmagmdeacenaoRdK
import Derived.Test.YtibmagmdeacenaoPPc
import Derived.Test.YtibmagmdeacenaoPtC
namespace Go.Proofs.Ytibmagmdeacenao
open Go.RowKit

/-- The slice v of n pieces, in memory from block B on, that may be written; the first m are marked. -/
def Wv (B : Nat) (w : World) (v : Value) (n : Nat) (K Q : Nat → Nat) (m : Nat) : Prop :=
  ∃ ad c, v = .slice ad n c ∧ (0 < n → ∃ r, ad = some ⟨r, 0, none⟩ ∧ B ≤ r ∧ (∀ i, i < n → 0 < K i → B ≤ Q i) ∧ WK w r n K Q m)
theorem Wv.keep {B : Nat} {w w' : World} {v : Value} {n m : Nat} {K Q : Nat → Nat} (h : Wv B w v n K Q m) (hb : Below w.heap.size w w') : Wv B w' v n K Q m := by
  obtain ⟨ad, c, rfl, f⟩ := h
  refine ⟨ad, c, rfl, fun h0 => ?_⟩
  obtain ⟨r, rfl, h1, h2, h3⟩ := f h0
  exact ⟨r, rfl, h1, h2, h3.keep hb⟩

set_option maxRecDepth 100000 in
set_option maxHeartbeats 800000 in
theorem markPat_any (B n : Nat) (v : Value) (K Q : Nat → Nat) (w0 w : World) (h0 : Wv B w0 v n K Q 0) (hb0 : Below w0.heap.size w0 w) (hn2 : n ≤ 60) (hK : ∀ i, K i ≤ 2) :
    Calls Try.prog 20 #[.agg #[v], .int .i64 1] w fun e w' => e = .returned (.int .i64 (cn K n : Int)) ∧ Wv B w' v n K Q n ∧ FM B w0.heap.size w w' := by
  have h := h0.keep hb0
  have HB : Hid (Below w.heap.size w (w.alloc (.cells #[v] 34))) := (Below.refl _ _).alloc (Nat.le_refl _) _
  have h2 := h.keep HB.out
  have CC : Hid (Calls Try.prog 40 #[v, .int .i64 1] (w.alloc (.cells #[v] 34)) fun e w' => e = .returned (.int .i64 (cn K n : Int)) ∧ Wv B w' v n K Q n ∧ FM B w0.heap.size (w.alloc (.cells #[v] 34)) w') := by
    obtain ⟨ad, c, rfl, f⟩ := h2
    obtain ⟨_, _, e0, f0⟩ := h0
    by_cases h0 : n = 0
    · subst h0
      show Calls _ _ _ _ _
      go_enter Try.func40, Try.ntmps40
      go_wp2
      refine wp_loop_rounds 1 ?_
      rw [rounds_succ]
      go_wp2
      go_ret
      exact ⟨rfl, ⟨ad, c, rfl, fun h => by omega⟩, FM.refl _ _ _⟩
    · obtain ⟨r, rfl, h1, h3, h4⟩ := f (by omega)
      obtain ⟨r0, hr0, _, _, g4⟩ := f0 (by omega)
      have er : r = r0 := by
        rw [hr0] at e0
        simp at e0
        exact e0.1
      subst er
      obtain ⟨⟨_, ga, _⟩, _, g3, _⟩ := g4
      refine (markPcs_any B w0.heap.size r n c K Q _ h4 (by omega) hn2 hK h1 (blk_lt ga) (fun i hi hk => ⟨h3 i hi hk, by obtain ⟨_, _, g5, _⟩ := g3 i hi hk; exact blk_lt g5⟩)).mono ?_
      rintro e w' ⟨rfl, hw, hb⟩
      exact ⟨rfl, ⟨_, c, rfl, fun _ => ⟨r, rfl, h1, h3, hw⟩⟩, hb⟩
  obtain ⟨ad, c, rfl, _⟩ := h
  clear h2
  go_enter Try.func20, Try.ntmps20
  go_wp2_with fail
  refine CC.out.mono ?_
  rintro e w1 ⟨rfl, hw, hb1⟩
  have HW : Hid _ := hw
  have hb2 : FM B w0.heap.size w w1 := by
    have hsz := HB.out.size
    exact ⟨Env.trans ⟨HB.out.os, HB.out.tape, HB.out.output⟩ hb1.1, Nat.le_trans hsz hb1.2.1, fun k hk hkk => (hb1.2.2 k (by omega) hkk).trans (HB.out.block k hk)⟩
  clear hw
  go_wp2
  go_ret
  exact ⟨rfl, HW.out, hb2⟩

set_option maxRecDepth 100000 in
set_option maxHeartbeats 800000 in
theorem heldPat_any (B n : Nat) (v : Value) (K Q : Nat → Nat) (w : World) (h : Wv B w v n K Q n) (hn2 : n ≤ 60) (hK : ∀ i, K i ≤ 2) :
    Calls Try.prog 21 #[.agg #[v], .int .i64 1] w fun e w' => e = .returned (.int .i64 (cn K n : Int)) ∧ Below w.heap.size w w' := by
  have HB : Hid (Below w.heap.size w (w.alloc (.cells #[v] 34))) := (Below.refl _ _).alloc (Nat.le_refl _) _
  have h2 := h.keep HB.out
  have CC : Hid (Calls Try.prog 41 #[v, .int .i64 1] (w.alloc (.cells #[v] 34)) fun e w' => e = .returned (.int .i64 (cn K n : Int)) ∧ Below (w.alloc (.cells #[v] 34)).heap.size (w.alloc (.cells #[v] 34)) w') := by
    obtain ⟨ad, c, rfl, f⟩ := h2
    by_cases h0 : n = 0
    · subst h0
      show Calls _ _ _ _ _
      go_enter Try.func41, Try.ntmps41
      go_wp2
      refine wp_loop_rounds 1 ?_
      rw [rounds_succ]
      go_wp2
      go_ret
      exact ⟨rfl, Below.refl _ _⟩
    · obtain ⟨r, rfl, h1, h3, h4⟩ := f (by omega)
      exact heldPcs_any r n c K Q _ h4 (by omega) hn2 hK
  obtain ⟨ad, c, rfl, _⟩ := h
  clear h2
  obtain ⟨m, hm⟩ : ∃ m, m = cn K n := ⟨_, rfl⟩
  rw [← hm] at CC ⊢
  have dz : decide ((m : Int) < 0) = false := decide_eq_false (by omega)
  clear hm
  go_enter Try.func21, Try.ntmps21
  go_wp2_with fail
  refine CC.out.mono ?_
  rintro e w1 ⟨rfl, hb1⟩
  have hb2 : Below w.heap.size w w1 := HB.out.trans (hb1.mono (by simp))
  go_wp2
  go_ret
  exact ⟨rfl, hb2⟩

/-- A piece that was read, as memory holds it. -/
def toPi (p : Pp.Pc) : Pi := ⟨(p.op : Int), ⟨p.text.toArray⟩, p.kids.map Int.ofNat⟩
theorem RP.blk {B : Nat} {w : World} {v : Value} {ps : List Pp.Pc} {cs : List Value} (hp : PR B w v ps.length cs) (h0 : 0 < ps.length) : ∃ r c, v = .slice (some ⟨r, 0, none⟩) ps.length c ∧ B ≤ r ∧ ∃ arr : Array Value, w.heap[r]? = some (.cells arr 54 (0, 0)) ∧ ps.length * 3 ≤ arr.size := by
  rcases hp.2 with ⟨_, hn⟩ | ⟨g, cap, cur, rfl, h1, hg, h3, h4, h5, htake⟩
  · omega
  · refine ⟨g, cap, rfl, h1, cur, hg, ?_⟩
    have e1 : cs.length = ps.length * 3 := hp.1
    have e2 := congrArg List.length htake
    simp at e2
    omega
theorem RP.wv {B : Nat} {w : World} {v : Value} {ps : List Pp.Pc} (h : RP B w v ps) (h0 : 0 < ps.length) : ∃ Q, Wv B w v ps.length (fun i => (ps.getD i Pp.no).kids.length) Q 0 := by
  obtain ⟨Q, cs, hp, hc, hm⟩ := h
  obtain ⟨r, c, rfl, hr, arr, ha, hs⟩ := RP.blk hp h0
  have hne : ∀ i, 0 < (ps.getD i Pp.no).kids.length → (ps.getD i Pp.no).kids ≠ [] := fun i hi e => by rw [e] at hi; simp at hi
  refine ⟨Q, _, c, rfl, fun _ => ⟨r, rfl, hr, fun i hi hk => ((hc i hi).2.2.2 (hne i hk)).1, ⟨arr, ha, hs⟩, fun i hi => ?_, fun i hi hk => ?_, fun i j hij hj hi hk => ?_, fun i hi => by omega⟩⟩
  · rw [World.ownsRow.cellAt hp (i * 3 + 2) (by omega), (hc i hi).2.2.1]
    unfold kvOf kvK
    by_cases he : (ps.getD i Pp.no).kids = []
    · simp only [he, ↓reduceIte, List.length_nil]
    · have : ¬ (ps.getD i Pp.no).kids.length = 0 := fun e => he (List.eq_nil_of_length_eq_zero e)
      simp only [he, this, ↓reduceIte]
  · obtain ⟨k1, k2, k3⟩ := (hc i hi).2.2.2 (hne i hk)
    refine ⟨fun e => k2 (by rw [e]; rfl), _, k3, by simp⟩
  · have := hm i j hij hj (hne i hi) (hne j hk)
    omega
theorem RP.pcs {B : Nat} {w : World} {v : Value} {ps : List Pp.Pc} (h : RP B w v ps) (h0 : 0 < ps.length) : PcsAt w v (ps.map toPi) := by
  obtain ⟨Q, cs, hp, hc, hm⟩ := h
  obtain ⟨r, c, rfl, hr, arr, ha, hs⟩ := RP.blk hp h0
  refine ⟨_, c, by simp, fun _ => ⟨r, 0, rfl, blk_lt ha, fun i hi => ?_⟩⟩
  have hi2 : i < ps.length := by simpa using hi
  have hg : (ps.map toPi).getD i Pi.no = toPi (ps.getD i Pp.no) := by simp [hi2]
  rw [hg]
  obtain ⟨h1, h2, h3, h4⟩ := hc i hi2
  refine ⟨kvOf (Q i) (ps.getD i Pp.no).kids, ?_, ?_, ?_, ?_⟩
  · rw [Nat.zero_add, World.ownsRow.cellAt hp (i * 3) (by omega)]; exact h1
  · rw [Nat.zero_add, World.ownsRow.cellAt hp (i * 3 + 1) (by omega)]; exact h2
  · rw [Nat.zero_add, World.ownsRow.cellAt hp (i * 3 + 2) (by omega)]; exact h3
  · unfold kvOf
    by_cases he : (ps.getD i Pp.no).kids = []
    · rw [if_pos he]
      show KidsAt w _ ((ps.getD i Pp.no).kids.map Int.ofNat)
      rw [he]
      exact ⟨none, 0, rfl, fun h => by simp at h⟩
    · rw [if_neg he]
      show KidsAt w _ ((ps.getD i Pp.no).kids.map Int.ofNat)
      have := (h4 he).2.2.at (ps.getD i Pp.no).kids.length
      rw [List.length_map] at this
      exact this
#print axioms RP.pcs
end Go.Proofs.Ytibmagmdeacenao
