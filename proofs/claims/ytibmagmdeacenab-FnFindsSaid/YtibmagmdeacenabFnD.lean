/- What DrawFindIn answers: some pattern, and some text. -/
import Derived.Test.YtibmagmdeacenabFnC
namespace Go.Proofs.Ytibmagmdeacenab
open Go.RowKit

set_option maxHeartbeats 2000000 in
set_option maxRecDepth 100000 in
theorem drawFind_any (ad : Option Addr) (n cap : Nat) (w : World) (hn : n ≤ 1048576) (hc : Code w ad n) :
    Calls Try.prog 26 #[.slice ad n cap] w fun e w' => ∃ (v : Value) (ps : List Pi) (t : ByteArray), e = .returned (.tuple #[.agg #[v], .string t]) ∧ PcsAt w' v ps ∧ ps.length ≤ 60 ∧ Small ps ps.length ∧ t.size ≤ 16 ∧ Below w.heap.size w w' := by
  have HC : Hid (Code w ad n) := hc
  clear hc
  go_enter Try.func26, Try.ntmps26
  have hb0 : Below w.heap.size w (w.alloc (.cells #[.slice none 0 0] 38)) := (Below.refl _ _).alloc (Nat.le_refl _) _
  have hc0 : (w.alloc (.cells #[.slice none 0 0] 38)).heap[w.heap.size]? = some (.cells #[.slice none 0 0] 38 (0, 0)) := heap_alloc_new w _
  have hs0 : (w.alloc (.cells #[.slice none 0 0] 38)).heap.size = w.heap.size + 1 := by simp
  have HC0 : Hid (Code (w.alloc (.cells #[.slice none 0 0] 38)) ad n) := by
    intro hp
    obtain ⟨b, off, e1, e2, e3⟩ := HC.out hp
    exact ⟨b, off, e1, by omega, fun j hj => by obtain ⟨z, hz, e⟩ := e3 j hj; exact ⟨z, hz, (hb0.cell (p := ⟨b, off + j, none⟩) e2).trans e⟩⟩
  go_wp2_with fail
  refine (new_any ad n cap _ hn HC0.out).mono ?_
  rintro e w1 ⟨rfl, d1, s1, b1⟩
  rw [hs0] at d1 s1 b1 ⊢
  have D1 : Hid (Drw (w.heap.size + 2) w1 (w.heap.size + 1) ad n cap) := d1
  have B1 : Hid (Below w.heap.size w w1) := hb0.trans (b1.mono (by omega))
  have hc1 : w1.heap[w.heap.size]? = some (.cells #[.slice none 0 0] 38 (0, 0)) := (b1.block _ (by omega)).trans hc0
  clear d1 b1 hb0 hc0 HC0 HC
  go_wp2_with fail
  refine (l04Bent_any _ _ n cap ad w1 D1.out (by omega)).mono ?_
  rintro e w2 ⟨v, ps, rfl, hpu, h60, hsm, d2, g2⟩
  have D2 : Hid (Drw (w.heap.size + 2) w2 (w.heap.size + 1) ad n cap) := d2
  have B2 : Hid (Below w.heap.size w w2) := B1.out.trans ((below_of_grown g2 (Nat.le_refl _) (by omega)).mono (by omega))
  have s2 := g2.size
  have hc2 : w2.heap[w.heap.size]? = some (.cells #[.slice none 0 0] 38 (0, 0)) := (g2.block _ (by omega) (by simp)).trans hc1
  obtain ⟨va, vn, vc, rfl⟩ : ∃ va vn vc, v = .slice va vn vc := by
    obtain ⟨va, vc, rfl, -⟩ := hpu w2 (fun _ _ _ => rfl) (Nat.le_refl _)
    exact ⟨va, _, vc, rfl⟩
  have HPU : Hid (PcsUp (w1.heap.size + 1) w2 (.slice va vn vc) ps) := hpu
  have HSM : Hid (Small ps ps.length) := hsm
  clear d2 g2 D1 B1 hc1 hpu hsm
  go_wp2_with fail
  refine (l04Word_any _ _ n cap ad w2 D2.out (by omega)).mono ?_
  rintro e w3 ⟨t, ht, rfl, d3, g3⟩
  have B3 : Hid (Below w.heap.size w w3) := B2.out.trans ((below_of_grown g3 (Nat.le_refl _) (by omega)).mono (by omega))
  have s3 := g3.size
  have hc3 : w3.heap[w.heap.size]? = some (.cells #[.slice none 0 0] 38 (0, 0)) := (g3.block _ (by omega) (by simp)).trans hc2
  have r0 : w3.cell? ⟨w.heap.size, 0, none⟩ = some (.slice none 0 0) := by rw [blk_cell hc3]; rfl
  have r1 : w3.frozen? ⟨w.heap.size, 0, none⟩ = false := blk_free hc3 0
  have HRS : Hid ((w3.setCell ⟨w.heap.size, 0, none⟩ (.slice va vn vc)).heap[w.heap.size]? = some (.cells #[.slice va vn vc] 38 (0, 0))) := blk_set hc3 0 _
  have HPC : Hid (PcsAt (w3.setCell ⟨w.heap.size, 0, none⟩ (.slice va vn vc)) (.slice va vn vc) ps) := by
    refine HPU.out _ (fun k hk hk2 => ?_) (by simpa [World.setCell] using s3)
    rw [Below.heap_setCell _ _ _ _ (by show k ≠ w.heap.size; omega)]
    exact g3.block k hk2 (by simp; omega)
  have HBF : Hid (Below w.heap.size w (w3.setCell ⟨w.heap.size, 0, none⟩ (.slice va vn vc))) := B3.out.setCell (by exact Nat.le_refl _) _
  clear d3 g3 D2 B2 B3 hc2 hc3 HPU
  go_wp2_with fail
  refine bodyPost_ret (res_pat rfl _ _ w.heap.size (.slice va vn vc) rfl HRS.out) rfl ?_
  exact ⟨_, ps, t, rfl, HPC.out, h60, HSM.out, ht, HBF.out⟩
#print axioms drawFind_any
end Go.Proofs.Ytibmagmdeacenab
