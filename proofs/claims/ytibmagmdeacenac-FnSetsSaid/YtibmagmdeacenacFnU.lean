/- The draws of the law on sets. -/
import Derived.Test.YtibmagmdeacenacFnC
import Derived.Test.YtibmagmdeacenacDOn
import Derived.Test.YtibmagmdeacenacFnT
namespace Go.Proofs.Ytibmagmdeacenac
open Go.RowKit

def any04 : List (List UInt8) := [[], [42], [40], [41], [91], [91, 93], [97, 40], [92], [92, 97], [97, 42, 42], [97, 41], [91, 94, 93], [97, 97, 97, 97, 97, 97, 97, 97, 97, 97, 97, 97, 97, 97, 97, 97, 97, 97, 97, 97, 97, 97, 97, 97], [97, 97, 97, 97, 97, 97, 97, 97, 97, 97, 97, 97, 97, 97, 97, 97, 97, 97, 97, 97, 97, 97, 97, 97, 97]]
def all04 : List (List UInt8) := any04 ++ texts04
def Pp.okRead (t : List UInt8) : Bool := match Pp.read t with
  | some p => Pp.right p
  | none => true
set_option maxRecDepth 100000 in
theorem okRead_all : ∀ t ∈ all04, Pp.okRead t = true := by decide +kernel
theorem all04_len : ∀ t ∈ all04, t.length ≤ 25 := by decide +kernel

set_option maxHeartbeats 1000000 in
set_option maxRecDepth 100000 in
theorem l04Any_any (B g n cap : Nat) (ad : Option Addr) (w : World) (hd : Drw B w g ad n cap) (hB : B ≤ w.heap.size) :
    Calls Try.prog 29 #[.pointer (some ⟨g, 0, none⟩)] w fun e w' => ∃ t : List UInt8, t ∈ all04 ∧ e = .returned (.string ⟨t.toArray⟩) ∧ Drw B w' g ad n cap ∧ w.grownBy w' (some g) := by
  have HD : Hid (Drw B w g ad n cap) := hd
  clear hd
  go_enter Try.func29, Try.ntmps29
  go_wp2_with fail
  refine (once_any B g n cap ad 6 w HD.out (by decide) (by decide)).mono ?_
  rintro e w1 ⟨b, rfl, d1, g1⟩
  have s1 := g1.size
  have D1 : Hid (Drw B w1 g ad n cap) := d1
  have G1 : Hid (w.grownBy w1 (some g)) := g1
  clear d1 g1
  cases b with
  | true =>
    have C1 : Hid (Calls Try.prog 34 #[.pointer (some ⟨g, 0, none⟩), .slice (some ⟨w1.heap.size, 0, none⟩) 14 14] (w1.alloc (.cells (any04.map sv).toArray 9))
      fun e w' => ∃ t : List UInt8, t ∈ any04 ∧ e = .returned (.string ⟨t.toArray⟩) ∧ Drw B w' g ad n cap ∧ w1.grownBy w' (some g)) := pickL_any B g n cap ad any04 w1 D1.out (by omega) (by decide) (by decide)
    go_wp2_with fail
    refine C1.out.mono ?_
    rintro e w2 ⟨t, ht, rfl, d2, g2⟩
    have HF : Hid (t ∈ all04 ∧ Drw B w2 g ad n cap ∧ w.grownBy w2 (some g)) := ⟨List.mem_append.2 (.inl ht), d2, grown_trans G1.out g2⟩
    clear ht d2 g2 C1
    go_wp2_with fail
    go_ret
    exact ⟨t, HF.out.1, rfl, HF.out.2.1, HF.out.2.2⟩
  | false =>
    go_wp2_with fail
    refine (l04Text_any B g n cap ad w1 D1.out (by omega)).mono ?_
    rintro e w2 ⟨t, ht, rfl, d2, g2⟩
    have HF : Hid (t ∈ all04 ∧ Drw B w2 g ad n cap ∧ w.grownBy w2 (some g)) := ⟨List.mem_append.2 (.inr ht), d2, grown_trans G1.out g2⟩
    clear ht d2 g2
    go_wp2_with fail
    go_ret
    exact ⟨t, HF.out.1, rfl, HF.out.2.1, HF.out.2.2⟩

set_option maxHeartbeats 1000000 in
set_option maxRecDepth 100000 in
theorem drawRead_any (ad : Option Addr) (n cap : Nat) (w : World) (hn : n ≤ 1048576) (hc : Code w ad n) :
    Calls Try.prog 12 #[.slice ad n cap] w fun e w' => ∃ t : List UInt8, t ∈ all04 ∧ e = .returned (.string ⟨t.toArray⟩) ∧ Below w.heap.size w w' := by
  have HC : Hid (Code w ad n) := hc
  clear hc
  go_enter Try.func12, Try.ntmps12
  go_wp2_with fail
  refine (new_any ad n cap w hn HC.out).mono ?_
  rintro e w1 ⟨rfl, d1, s1, b1⟩
  have D1 : Hid (Drw (w.heap.size + 1) w1 w.heap.size ad n cap) := d1
  have B1 : Hid (Below w.heap.size w w1) := b1
  clear d1 b1
  go_wp2_with fail
  refine (l04Any_any _ _ n cap ad w1 D1.out (by omega)).mono ?_
  rintro e w2 ⟨t, ht, rfl, d2, g2⟩
  have HF : Hid (t ∈ all04 ∧ Below w.heap.size w w2) := ⟨ht, B1.out.trans (below_of_grown g2 (Nat.le_refl _) (by omega))⟩
  clear ht d2 g2
  go_wp2_with fail
  go_ret
  exact ⟨t, HF.out.1, rfl, HF.out.2⟩

set_option maxHeartbeats 2000000 in
set_option maxRecDepth 100000 in
theorem drawPok_any (ad : Option Addr) (n cap : Nat) (w : World) (hn : n ≤ 1048576) (hc : Code w ad n) :
    Calls Try.prog 14 #[.slice ad n cap] w fun e w' => ∃ (v : Value) (ps : List Pi), e = .returned (.agg #[v]) ∧ PcsAt w' v ps ∧ ps.length ≤ 60 ∧ Small ps ps.length ∧ Below w.heap.size w w' := by
  have HC : Hid (Code w ad n) := hc
  clear hc
  go_enter Try.func14, Try.ntmps14
  have hb0 : Below w.heap.size w (w.alloc (.cells #[.slice none 0 0] 30)) := (Below.refl _ _).alloc (Nat.le_refl _) _
  have hc0 : (w.alloc (.cells #[.slice none 0 0] 30)).heap[w.heap.size]? = some (.cells #[.slice none 0 0] 30 (0, 0)) := heap_alloc_new w _
  have hs0 : (w.alloc (.cells #[.slice none 0 0] 30)).heap.size = w.heap.size + 1 := by simp
  have HC0 : Hid (Code (w.alloc (.cells #[.slice none 0 0] 30)) ad n) := by
    intro hp
    obtain ⟨b, off, e1, e2, e3⟩ := HC.out hp
    exact ⟨b, off, e1, by omega, fun j hj => by obtain ⟨z, hz, e⟩ := e3 j hj; exact ⟨z, hz, (hb0.cell (p := ⟨b, off + j, none⟩) e2).trans e⟩⟩
  go_wp2_with fail
  refine (new_any ad n cap _ hn HC0.out).mono ?_
  rintro e w1 ⟨rfl, d1, s1, b1⟩
  rw [hs0] at d1 s1 b1 ⊢
  have D1 : Hid (Drw (w.heap.size + 2) w1 (w.heap.size + 1) ad n cap) := d1
  have B1 : Hid (Below w.heap.size w w1) := hb0.trans (b1.mono (by omega))
  have hc1 : w1.heap[w.heap.size]? = some (.cells #[.slice none 0 0] 30 (0, 0)) := (b1.block _ (by omega)).trans hc0
  clear d1 b1 hb0 hc0 HC0 HC
  go_wp2_with fail
  refine (l04Bent_any _ _ n cap ad w1 D1.out (by omega)).mono ?_
  rintro e w2 ⟨v, ps, rfl, hpu, h60, hsm, d2, g2⟩
  have B2 : Hid (Below w.heap.size w w2) := B1.out.trans ((below_of_grown g2 (Nat.le_refl _) (by omega)).mono (by omega))
  have s2 := g2.size
  have hc2 : w2.heap[w.heap.size]? = some (.cells #[.slice none 0 0] 30 (0, 0)) := (g2.block _ (by omega) (by simp)).trans hc1
  obtain ⟨va, vn, vc, rfl⟩ : ∃ va vn vc, v = .slice va vn vc := by
    obtain ⟨va, vc, rfl, -⟩ := hpu w2 (fun _ _ _ => rfl) (Nat.le_refl _)
    exact ⟨va, _, vc, rfl⟩
  have HSM : Hid (Small ps ps.length) := hsm
  have r0 : w2.cell? ⟨w.heap.size, 0, none⟩ = some (.slice none 0 0) := by rw [blk_cell hc2]; rfl
  have r1 : w2.frozen? ⟨w.heap.size, 0, none⟩ = false := blk_free hc2 0
  have HRS : Hid ((w2.setCell ⟨w.heap.size, 0, none⟩ (.slice va vn vc)).heap[w.heap.size]? = some (.cells #[.slice va vn vc] 30 (0, 0))) := blk_set hc2 0 _
  have HPC : Hid (PcsAt (w2.setCell ⟨w.heap.size, 0, none⟩ (.slice va vn vc)) (.slice va vn vc) ps) := by
    refine hpu _ (fun k hk hk2 => ?_) (by simp [World.setCell])
    rw [Below.heap_setCell _ _ _ _ (by show k ≠ w.heap.size; omega)]
  have HBF : Hid (Below w.heap.size w (w2.setCell ⟨w.heap.size, 0, none⟩ (.slice va vn vc))) := B2.out.setCell (by exact Nat.le_refl _) _
  clear d2 g2 D1 B1 hc1 hpu hsm B2 hc2
  go_wp2_with fail
  refine bodyPost_ret (res_one rfl _ _ w.heap.size (.slice va vn vc) rfl HRS.out) rfl ?_
  exact ⟨_, ps, rfl, HPC.out, h60, HSM.out, HBF.out⟩
#print axioms drawPok_any
end Go.Proofs.Ytibmagmdeacenac
