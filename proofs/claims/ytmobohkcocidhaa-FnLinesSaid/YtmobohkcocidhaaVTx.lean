/- The law's own helper over rows of texts: two rows of the same texts are told the same. -/
import Derived.Test.YtmobohkcocidhaaKS
namespace Go.Proofs.Ytmobohkcocidhaa
open Go.RowKit

set_option maxHeartbeats 800000 in
set_option maxRecDepth 100000 in
theorem sameTexts_any (v1 v2 : Value) (B1 B2 : Nat) (ws : List (List UInt8)) (w : World) (h1 : SRow B1 w v1 ws) (h2 : SRow B2 w v2 ws) (hl : ws.length ≤ 601) :
    Calls Try.prog 9 #[v1, v2] w fun e w' => e = .returned (.bool true) ∧ Below w.heap.size w w' := by
  obtain ⟨a1, c1, rfl, f1⟩ := h1.form
  obtain ⟨a2, c2, rfl, f2⟩ := h2.form
  clear h1 h2
  obtain ⟨n, hn⟩ : ∃ n, n = ws.length := ⟨_, rfl⟩
  rw [← hn] at f1 f2 hl ⊢
  have hq : ((n : Int) != (n : Int)) = false := by simp
  by_cases h0 : n = 0
  · subst h0
    clear f1 f2 hn
    go_enter Try.func9, Try.ntmps9
    go_wp2
    refine wp_loop_rounds 1 ?_
    rw [rounds_succ]
    go_wp2
    go_ret
    exact ⟨rfl, Below.refl _ _⟩
  · obtain ⟨g1, rfl, _, l1, k1, _⟩ := f1 (by omega)
    obtain ⟨g2, rfl, _, l2, k2, _⟩ := f2 (by omega)
    have K1 : Hid (∀ j, j < n → w.cell? ⟨g1, j, none⟩ = some (sv (ws.getD j []))) := k1
    have K2 : Hid (∀ j, j < n → w.cell? ⟨g2, j, none⟩ = some (sv (ws.getD j []))) := k2
    clear k1 k2 f1 f2 hn
    go_enter Try.func9, Try.ntmps9
    go_wp2
    go_loopw [5] (fun i wr => ∃ k : Nat, i = .int .i64 (k : Int) ∧ k ≤ n ∧ Below w.heap.size w wr) (fun i _ => n - (intOf i).toNat)
    case atStart => exact ⟨0, rfl, by omega, Below.refl _ _⟩
    case round =>
      obtain ⟨k, rfl, hk, hbel⟩ := hrel
      by_cases hlt : k < n
      · obtain ⟨x, hx⟩ : ∃ x : ByteArray, Value.string x = sv (ws.getD k []) := ⟨_, rfl⟩
        have c1 : wr.cell? ⟨g1, k, none⟩ = some (.string x) := by rw [hx]; exact (hbel.cell (by exact l1)).trans (K1.out k hlt)
        have c2 : wr.cell? ⟨g2, k, none⟩ = some (.string x) := by rw [hx]; exact (hbel.cell (by exact l2)).trans (K2.out k hlt)
        have i1 : (k : Int) < (n : Int) := by omega
        clear hx
        go_wp2_with fail
        go_quiet (fail)
        go_wp2
        go_roundw
        case rel => exact ⟨k + 1, by go_num, by omega, below_drewN hbel _⟩
        case measure => simp [intOf]; omega
      · go_wp2
        go_ret
        exact ⟨rfl, hbel⟩

#print axioms sameTexts_any
end Go.Proofs.Ytmobohkcocidhaa
