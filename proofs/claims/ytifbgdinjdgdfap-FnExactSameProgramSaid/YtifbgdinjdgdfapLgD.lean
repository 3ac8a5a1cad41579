/- Programs in memory: how great a program is, as the law measures it. -/
import Derived.Test.YtifbgdinjdgdfapLgA
import Derived.Test.YtifbgdinjdgdfapPgP
namespace Go.Proofs.Ytifbgdinjdgdfap
open Go.RowKit

set_option maxHeartbeats 400000 in
theorem szRules_any (v : Value) (rs : List Pg.Rl) (l : Int) (w : World) (h : RlsAt w v rs) (hl0 : 0 ≤ l) (hl : l ≤ 1048576) (hk : rs.length ≤ maxLen) :
    Calls Try.prog 25 #[v, .int .i64 l] w fun e w' => w' = w ∧ ∃ r : Int, e = .returned (.int .i64 r) ∧ (r = -1 ∨ 0 ≤ r ∧ r ≤ l ∧ rs.length ≤ 1048576) := by
  obtain ⟨ka, kc, rfl, _⟩ := h
  unfold maxLen at hk
  by_cases hq : l - (rs.length : Int) < 0
  · have d : decide (l - (rs.length : Int) < 0) = true := by simpa using hq
    go_enter Try.func25, Try.ntmps25
    go_wp2
    go_ret
    exact ⟨rfl, -1, rfl, .inl rfl⟩
  · have d : decide (l - (rs.length : Int) < 0) = false := by simpa using hq
    go_enter Try.func25, Try.ntmps25
    go_wp2
    go_ret
    exact ⟨rfl, _, rfl, .inr ⟨by omega, by omega, by omega⟩⟩

set_option maxHeartbeats 800000 in
theorem szProg_any (v rv : Value) (ps : List Pi) (rs : List Pg.Rl) (l : Int) (w : World) (h : PcsAt w v ps) (hr : RlsAt w rv rs) (hl0 : 0 ≤ l) (hl : l ≤ 1048576) (hf : Fit ps) (hfr : rs.length ≤ maxLen) :
    Calls Try.prog 11 #[.agg #[v, rv], .int .i64 l] w fun e w' => Below w.heap.size w w' ∧ ∃ r : Int, e = .returned (.int .i64 r) ∧ (r = -1 ∨ 0 ≤ r ∧ r ≤ l ∧ ps.length ≤ 1048576 ∧ Small ps ps.length ∧ rs.length ≤ 1048576) := by
  have HB : Hid (Below w.heap.size w (w.alloc (.cells #[v, rv] 31))) := (Below.refl _ _).alloc (Nat.le_refl _) _
  have CC : Hid (Calls Try.prog 24 #[v, .int .i64 l] (w.alloc (.cells #[v, rv] 31)) fun e w' => Below (w.alloc (.cells #[v, rv] 31)).heap.size (w.alloc (.cells #[v, rv] 31)) w' ∧ ∃ r : Int, e = .returned (.int .i64 r) ∧ (r = -1 ∨ 0 ≤ r ∧ r ≤ l ∧ ps.length ≤ 1048576 ∧ Small ps ps.length)) :=
    szNodes_any v ps l _ (h.keep HB.out) hl0 hl hf
  have CR : Hid (∀ W (r : Int), Below w.heap.size w W → 0 ≤ r → r ≤ l → Calls Try.prog 25 #[rv, .int .i64 r] W fun e w' => w' = W ∧ ∃ r' : Int, e = .returned (.int .i64 r') ∧ (r' = -1 ∨ 0 ≤ r' ∧ r' ≤ r ∧ rs.length ≤ 1048576)) :=
    fun W r hb h0 h1 => szRules_any rv rs r W (hr.keep hb) h0 (by omega) hfr
  obtain ⟨ad, c, rfl, _⟩ := h
  obtain ⟨ra, rc, rfl, _⟩ := hr
  go_enter Try.func11, Try.ntmps11
  go_wp2_with fail
  refine CC.out.mono ?_
  rintro e w1 ⟨hb1, r1, rfl, hr⟩
  have hb2 := HB.out.trans (hb1.mono (by simp))
  have c1 : w1.cell? ⟨w.heap.size, 1, none⟩ = some (.slice ra rs.length rc) := (hb1.cell (by simp)).trans (by simp)
  rcases hr with rfl | ⟨h3, h4, h5⟩
  · go_wp2
    go_ret
    exact ⟨hb2, -1, rfl, .inl rfl⟩
  · have d2 : decide (r1 < 0) = false := by simp; omega
    have H5 : Hid (ps.length ≤ 1048576 ∧ Small ps ps.length) := h5
    clear h5 hb1
    go_wp2_with fail
    refine (CR.out _ _ hb2 h3 h4).mono ?_
    rintro e w2 ⟨rfl, r2, rfl, hr⟩
    rcases hr with rfl | ⟨h6, h7, h8⟩
    · go_wp2
      go_ret
      exact ⟨hb2, -1, rfl, .inl rfl⟩
    · have d3 : decide (r2 < 0) = false := by simp; omega
      go_wp2
      go_ret
      exact ⟨hb2, _, rfl, .inr ⟨h6, by omega, H5.out.1, H5.out.2, h8⟩⟩
#print axioms szProg_any
end Go.Proofs.Ytifbgdinjdgdfap
