/- Where a piece may end, by the program: 'ends', of every linked piece. -/
import Derived.Test.YtlnmbahakdmkgaaIpK
namespace Go.Proofs.Ytlnmbahakdmkgaa
open Go.RowKit Go.Maps

theorem OS.lt {w : World} {B : Nat} {ob : Option Nat} {S : Nat → Prop} (h : OS w B ob S) (b : Nat) (e : ob = some b) : b < w.heap.size := by
  rcases h with ⟨e2, _⟩ | ⟨b', e2, _, hE⟩
  · rw [e2] at e; cases e
  · rw [e2] at e; have := Option.some.inj e; have := hE.lt; omega

set_option maxHeartbeats 4000000 in
set_option maxRecDepth 100000 in
theorem kids_star (c : Im) (L : ILie c) (k : Nat) (hk : k < c.K) (hop : (c.pc k).op = 7) (hk0 : 0 < (c.pc k).kids.length) (hC0 : EndC c (En.kid (c.pc k) 0)) : KidC c k := by
  intro X w i hX h hi
  have hs := L.hs
  have hM : c.M1 ≤ w.heap.size := h.hi
  have HF : Hid (Fd c X w w.heap.size (w.alloc (.map #[] 0)) (fun _ => False)) := Fd.begin L hX h
  obtain ⟨p0', p2'⟩ := kid_ptr HF.out.mem k hk hk0
  rw [hop] at p0'
  have hmm := @run_makeMap Try.prog
  obtain ⟨w1, hup, u1, u2⟩ := single_map (w.alloc (.map #[] 0)) i (by omega)
  have hsz : (w.alloc (.map #[] 0)).heap.size = w.heap.size + 1 := by simp
  rw [hsz] at hup u1
  have hF1 := HF.out.up L hM (fun b hb => (hX b hb).1) u2
  have hw1 := hF1.fm.2.1
  have HA : Hid (Calls Try.prog 68 #[.pointer (some ⟨c.P (En.kid (c.pc k) 0), 0, none⟩), .string c.s, .map (some (w.heap.size + 1))] w1 (KPost c X (fun e => ∃ j, j = i ∧ En.Reach c.ps c.s (En.kid (c.pc k) 0) j e) w1)) :=
    again_any c L _ hC0 X w1 (fun b hb => ⟨(hX b hb).1, by have := (hX b hb).2; omega⟩) (hF1.mem.more (fun b hb => .inl (.inl hb))) _ _ 0 (.inr ⟨_, rfl, Nat.zero_le _, u1⟩) (fun j hj => by omega)
  have HFM : Hid (FM c.M0 c.M1 w w1) := hF1.fm
  have HE : Hid (∀ j, (∃ u, u = i ∧ En.Reach c.ps c.s (En.kid (c.pc k) 0) u j) ↔ En.Ends c.ps c.s k i j) := fun j => (by
    rw [En.star_iff hop]
    exact ⟨fun ⟨u, e, h⟩ => by rw [← e]; exact h, fun h => ⟨i, rfl, h⟩⟩)
  clear L hX h hC0 hop u1 u2 hsz hF1 HF
  go_enter Try.func48, Try.ntmps48
  go_wp2_with fail
  refine HA.out.mono ?_
  rintro e w2 ⟨b, rfl, q1, q2, q3, q4⟩
  have HP : Hid (KPost c X (En.Ends c.ps c.s k i) w (.returned (.map (some b))) w2) := ⟨b, rfl, by omega, q2.iff HE.out, q3, HFM.out.trans q4⟩
  clear q1 q2 q3 q4 HA p0' p2' hmm hup
  go_wp2_with fail
  go_ret
  exact HP.out

set_option maxHeartbeats 4000000 in
set_option maxRecDepth 100000 in
theorem kids_plus (c : Im) (L : ILie c) (k : Nat) (hk : k < c.K) (hop : (c.pc k).op = 8) (hk0 : 0 < (c.pc k).kids.length) (hC0 : EndC c (En.kid (c.pc k) 0)) : KidC c k := by
  intro X w i hX h hi
  have hM : c.M1 ≤ w.heap.size := h.hi
  have HF : Hid (Fd c X w w.heap.size (w.alloc (.map #[] 0)) (fun _ => False)) := Fd.begin L hX h
  obtain ⟨p0', p2'⟩ := kid_ptr HF.out.mem k hk hk0
  rw [hop] at p0'
  have HX : Hid (∀ b, X b → c.M1 ≤ b ∧ b < w.heap.size) := hX
  have HL : Hid (ILie c) := L
  have HC0 : Hid (EndC c (En.kid (c.pc k) 0)) := hC0
  have hmm := @run_makeMap Try.prog
  have HE : Hid (∀ j, (∃ u, En.Ends c.ps c.s (En.kid (c.pc k) 0) i u ∧ En.Reach c.ps c.s (En.kid (c.pc k) 0) u j) ↔ En.Ends c.ps c.s k i j) := fun j => (En.plus_iff hop).symm
  obtain ⟨W0, hW0⟩ : ∃ W0, W0 = w.alloc (.map #[] 0) := ⟨_, rfl⟩
  have H1 : Hid (∀ W : World, Below (w.alloc (.map #[] 0)).heap.size (w.alloc (.map #[] 0)) W → Calls Try.prog 26 #[.pointer (some ⟨c.P (En.kid (c.pc k) 0), 0, none⟩), .string c.s, .int .i64 (i : Int)] W (fun e w' => ∃ ob, e = .returned (.map ob) ∧ OS w' c.M1 ob (En.Ends c.ps c.s (En.kid (c.pc k) 0) i) ∧ Fd c X w w.heap.size w' (fun _ => False))) := by
    intro W hb
    have hF := HF.out.up HL.out hM (fun b hb => (HX.out b hb).1) hb
    refine (HC0.out _ W i (hF.low hM HX.out) hF.mem hi).mono ?_
    rintro e w1 ⟨ob, rfl, o1, o2, o3, o4⟩
    exact ⟨ob, rfl, o1, hF.called hM o3 o4⟩
  have H2 : Hid (∀ (W : World) (ob : Option Nat), OS W c.M1 ob (En.Ends c.ps c.s (En.kid (c.pc k) 0) i) → Fd c X w w.heap.size W (fun _ => False) → Calls Try.prog 68 #[.pointer (some ⟨c.P (En.kid (c.pc k) 0), 0, none⟩), .string c.s, .map ob] W (fun e w' => ∃ b, e = .returned (.map (some b)) ∧ KPost c X (En.Ends c.ps c.s k i) w (.returned (.map (some b))) w')) := by
    intro W ob o1 hF
    have hw := hF.fm.2.1
    refine (again_any c HL.out _ HC0.out X W (fun b hb => ⟨(HX.out b hb).1, by have := (HX.out b hb).2; omega⟩) (hF.mem.more (fun b hb => .inl (.inl hb))) ob _ _ o1 (fun j hj => by have := hj.le; omega)).mono ?_
    rintro e w2 ⟨b, rfl, q1, q2, q3, q4⟩
    exact ⟨b, rfl, b, rfl, by omega, q2.iff HE.out, q3, hF.fm.trans q4⟩
  have HKP : Hid (∀ W : World, Fd c X w w.heap.size W (fun _ => False) → W.cell? ⟨c.P k, 2, none⟩ = some (.pointer (some ⟨c.P (En.kid (c.pc k) 0), 0, none⟩))) := fun W hF => (kid_ptr hF.mem k hk hk0).2
  have HKQ : Hid (∀ (W : World) (b : Nat), KPost c X (En.Ends c.ps c.s k i) w (.returned (.map (some b))) W → W.cell? ⟨c.P k, 2, none⟩ = some (.pointer (some ⟨c.P (En.kid (c.pc k) 0), 0, none⟩))) := fun W b ⟨_, _, _, _, hm, _⟩ => (kid_ptr hm k hk hk0).2
  clear L hX h hC0 hop hW0
  clear W0
  go_enter Try.func48, Try.ntmps48
  go_wp2_with fail
  go_region_held3 (fun w' => w'.cell? ⟨c.P k, 2, none⟩ = some (.pointer (some ⟨c.P (En.kid (c.pc k) 0), 0, none⟩))) (first | go_keep | exact HKQ.out _ _ hp | exact HKP.out _ hf1) ((first | (go_at_call 26; refine (H1.out _ ((Below.refl _ _).drew)).mono ?_; rintro e w1 ⟨ob, rfl, o1, hf1⟩) | (go_at_call 68; refine (H2.out _ _ o1 hf1).mono ?_; rintro e w2 ⟨b, rfl, hp⟩)))
  go_wp2_with fail
  go_ret
  exact hp

/-- 'ends', of every linked piece. -/
theorem ends_all (c : Im) (L : ILie c) : ∀ k, k < c.K → EndC c k := by
  intro k
  induction k using Nat.strongRecOn with
  | _ k ih =>
    intro hk
    obtain ⟨h1, h2, h3, h4, -⟩ := Pk.piece_kids (L.pk k hk)
    have kid : ∀ j, j < (c.pc k).kids.length → EndC c (En.kid (c.pc k) j) := by
      intro j hj
      obtain ⟨a, _, e2, e3⟩ := h2 j hj
      rw [e3]
      exact ih a e2 (by omega)
    by_cases hk0 : (c.pc k).kids.length = 0
    · exact ends_plain c L k hk hk0
    · have hk1 : 0 < (c.pc k).kids.length := by omega
      refine ends_kids c L k hk hk1 ?_
      have hkw := h1
      unfold Pk.kw at hkw
      by_cases o5 : (c.pc k).op = 5
      · rw [if_pos (.inl o5)] at hkw
        exact kids_cat c L k hk o5 (by omega) (kid 0 (by omega)) (kid 1 (by omega))
      by_cases o6 : (c.pc k).op = 6
      · rw [if_pos (.inr o6)] at hkw
        exact kids_alt c L k hk o6 (by omega) (kid 0 (by omega)) (kid 1 (by omega))
      by_cases o7 : (c.pc k).op = 7
      · exact kids_star c L k hk o7 hk1 (kid 0 hk1)
      by_cases o8 : (c.pc k).op = 8
      · exact kids_plus c L k hk o8 hk1 (kid 0 hk1)
      by_cases o9 : (c.pc k).op = 9
      · exact kids_opt c L k hk o9 hk1 (kid 0 hk1)
      rw [if_neg (by omega), if_neg (by omega)] at hkw
      omega
#print axioms ends_all
end Go.Proofs.Ytlnmbahakdmkgaa
