/- The law on FindIn: at every argument it answers as the specification, and leaves what it was handed as it was. -/
import Derived.Test.YtlnmbahakdmkgaaIpP
import Derived.Test.YtlnmbahakdmkgaaPtC
namespace Go.Proofs.Ytlnmbahakdmkgaa
open Go.RowKit

theorem PatCopy.pcs {w : World} {u : Value} {B : Nat} {ps : List Pi} (h : PatCopy w u B ps) : ∃ s, u = .agg #[.slice s ps.length ps.length] ∧ PcsAt w (.slice s ps.length ps.length) ps := by
  obtain ⟨g, rfl, _, hc⟩ := h
  exact ⟨_, rfl, hc.at _⟩

set_option maxHeartbeats 4000000 in
set_option maxRecDepth 100000 in
theorem lwFind_any (v : Value) (ps : List Pi) (s : ByteArray) (w : World) (h : PcsAt w v ps) (hf : Fit ps) :
    Calls Try.prog 3 #[.agg #[v], .string s] w fun e w' => e = .returned (.bool true) ∧ Below w.heap.size w w' := by
  have hv : ∃ ad c, v = .slice ad ps.length c := by obtain ⟨ad, c, e, _⟩ := h; exact ⟨ad, c, e⟩
  obtain ⟨ad, c, rfl⟩ := hv
  obtain ⟨n, hn⟩ : ∃ n, n = ps.length := ⟨_, rfl⟩
  rw [← hn] at h ⊢
  have HH : Hid (PcsAt w (.slice ad n c) ps) := h
  have HFT : Hid (Fit ps) := hf
  have HN : Hid (n = ps.length) := hn
  clear h hf hn
  have HB0 : Hid (Below w.heap.size w (w.alloc (.cells #[.slice ad n c] 24))) := (Below.refl _ _).alloc (Nat.le_refl _) _
  by_cases hs : (1048576 : Int) < (s.size : Int)
  · have d0 : decide ((1048576 : Int) < (s.size : Int)) = true := decide_eq_true hs
    have d0' : decide (1048576 < s.size) = true := decide_eq_true (by omega)
    go_enter Try.func3, Try.ntmps3
    go_wp2_with fail
    go_ret
    exact ⟨rfl, HB0.out⟩
  · have d0 : decide ((1048576 : Int) < (s.size : Int)) = false := decide_eq_false hs
    have d0' : decide (1048576 < s.size) = false := decide_eq_false (by omega)
    have hs2 : s.size ≤ 1048576 := by omega
    go_enter Try.func3, Try.ntmps3
    go_wp2_with fail
    refine (szPat_any _ ps _ _ (HH.out.keep HB0.out) (by omega) (by omega) HFT.out).mono ?_
    rintro e w1 ⟨hb1, r, rfl, hr⟩
    have B1 : Below w.heap.size w w1 := HB0.out.trans (hb1.mono (by simp))
    have hl1 : w.heap.size < w1.heap.size := by have := hb1.size; simp at this; omega
    have c1 : w1.cell? ⟨w.heap.size, 0, none⟩ = some (.slice ad n c) := (hb1.cell (by simp)).trans (by simp)
    clear hb1
    rcases hr with rfl | ⟨hr0, hr1, hlen, hsm⟩
    · go_wp2
      go_ret
      exact ⟨rfl, B1⟩
    · have d1 : decide (r < 0) = false := decide_eq_false (by omega)
      have HL : Hid (ps.length ≤ 1048576) := hlen
      have HSM : Hid (Small ps ps.length) := hsm
      clear hlen hsm
      go_wp2_with fail
      refine (toPat_any _ ps _ (HH.out.keep B1) HL.out HSM.out).mono ?_
      rintro e w2 ⟨u1, rfl, hb2, hc2⟩
      obtain ⟨s1, rfl, p2⟩ := hc2.pcs
      clear hc2
      rw [← HN.out] at p2 ⊢
      have HP2 : Hid (PcsAt w2 (.slice s1 n n) ps) := p2
      clear p2
      go_wp2_with fail
      refine (spFind _ ps s _ HP2.out HL.out HSM.out hs2).mono ?_
      rintro e w3 ⟨fa, fb, fr, rfl, hfi, hb3⟩
      have HFI : Hid (En.FindIs ps s fa fb fr) := hfi
      have B3 : Below w.heap.size w w3 := B1.trans ((hb2.trans (hb3.mono hb2.size)).mono (by omega))
      have c3 : w3.cell? ⟨w.heap.size, 0, none⟩ = some (.slice ad n c) := ((hb2.trans (hb3.mono hb2.size)).cell (by exact hl1)).trans c1
      have hl3 : w.heap.size < w3.heap.size := by have := hb2.size; have := hb3.size; omega
      clear hb2 hb3 HP2 c1 B1 hfi
      go_wp2_with fail
      refine (toPat_any _ ps _ (HH.out.keep B3) HL.out HSM.out).mono ?_
      rintro e w4 ⟨u2, rfl, hb4, hc4⟩
      obtain ⟨s2, rfl, p4⟩ := hc4.pcs
      clear hc4
      rw [← HN.out] at p4 ⊢
      have HP4 : Hid (PcsAt w4 (.slice s2 n n) ps) := p4
      have B4 : Below w.heap.size w w4 := B3.trans (hb4.mono (by omega))
      have c4 : w4.cell? ⟨w.heap.size, 0, none⟩ = some (.slice ad n c) := (hb4.cell (by exact hl3)).trans c3
      have hl4 : w.heap.size < w4.heap.size := by have := hb4.size; omega
      have HB5 : Hid (Below w4.heap.size w4 (w4.alloc (.cells #[.slice s2 n n] 30))) := (Below.refl _ _).alloc (Nat.le_refl _) _
      clear p4 hb4 c3 B3
      go_wp2_with fail
      refine (implFind _ ps s _ (HP4.out.keep HB5.out) HL.out HSM.out hs2).mono ?_
      rintro e w6 ⟨ga, gb, gr, rfl, hgi, hb6⟩
      obtain ⟨rfl, rfl, rfl⟩ := HFI.out.one hgi
      have hb46 : Below w4.heap.size w4 w6 := HB5.out.trans (hb6.mono (by simp))
      have c6 : w6.cell? ⟨w.heap.size, 0, none⟩ = some (.slice ad n c) := (hb46.cell (by exact hl4)).trans c4
      have x6 : w6.cell? ⟨w4.heap.size, 0, none⟩ = some (.slice s2 n n) := (hb6.cell (by simp)).trans (by simp)
      have hl6 : w4.heap.size < w6.heap.size := by have := hb6.size; simp at this; omega
      have HP6 : Hid (PcsAt w6 (.slice s2 n n) ps) := HP4.out.keep hb46
      have HB6 : Hid (Below w.heap.size w w6) := B4.trans (hb46.mono (by omega))
      clear HP4 hb46 hb6 c4 B4 HB5 hgi HFI
      have hq1 : (fa != fa) = false := by simp
      have hq2 : (fb != fb) = false := by simp
      have hq3 : (fr != fr) = false := by simp
      go_wp2_with fail
      have CT : Hid (∀ w', Below w6.heap.size w6 w' → Calls Try.prog 8 #[.agg #[.slice ad n c]] w' fun e w'' => ∃ s3, e = .returned (.agg #[.slice s3 n n]) ∧ Below w'.heap.size w' w'' ∧ PcsAt w'' (.slice s3 n n) ps) := by
        intro w' hb'
        refine (toPat_any _ ps _ (HH.out.keep (HB6.out.trans (hb'.mono HB6.out.size))) HL.out HSM.out).mono ?_
        rintro e w'' ⟨u3, rfl, hb7, hc7⟩
        obtain ⟨s3, rfl, p7⟩ := hc7.pcs
        rw [← HN.out] at p7 ⊢
        exact ⟨s3, rfl, hb7, p7⟩
      have CE : Hid (∀ w' s3, Below w6.heap.size w6 w' → PcsAt w' (.slice s3 n n) ps → Calls Try.prog 10 #[.agg #[.slice s2 n n], .agg #[.slice s3 n n]] w' fun e w'' => e = .returned (.bool true) ∧ Below w'.heap.size w' w'') :=
        fun w' s3 hb' hp => eqPat_any _ _ ps w' (HP6.out.keep hb') hp HL.out HSM.out
      clear HH HFT HN HB0 HL HSM hl1 hl3
      go_region_with ((first | (go_at_call 8; refine (CT.out _ (by first | exact Below.refl _ _ | exact (Below.refl _ _).drew)).mono ?_; rintro e w7 ⟨s3, rfl, hb7, p7⟩; have x7 := (hb7.cell (p := ⟨w4.heap.size, 0, none⟩) (by exact hl6)).trans x6) | (go_at_call 10; refine (CE.out _ _ ((Below.refl _ _).drew.trans hb7) p7).mono ?_; rintro e w8 ⟨rfl, hb8⟩)))
      all_goals
        have hb78 := ((Below.refl w6.heap.size w6).drew.trans hb7).trans (hb8.mono (((Below.refl w6.heap.size w6).drew.trans hb7).size))
        go_wp2
        go_ret
        exact ⟨rfl, HB6.out.trans (hb78.mono HB6.out.size)⟩
#print axioms lwFind_any
end Go.Proofs.Ytlnmbahakdmkgaa
