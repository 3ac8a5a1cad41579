/- Where a piece may end, by the program: 'endsOfKids': one behind the other. -/
import Derived.Test.YtlnmbahakdmkgaaIpF
namespace Go.Proofs.Ytlnmbahakdmkgaa
open Go.RowKit Go.Maps
section
variable {c : Im} {X : Nat → Prop} {w wr w2 : World} {b0 : Nat} {S T : Nat → Prop}
/-- A range begins: its place is one's own too. -/
theorem Fd.range (h : Fd c X w b0 wr S) (L : ILie c) (hM : c.M1 ≤ w.heap.size) (hX : ∀ b, X b → c.M1 ≤ b) (hg : wr.grownBy w2 none) : Fd c (fun b => X b ∨ b = wr.heap.size) w b0 w2 S := by
  have hb : Below wr.heap.size wr w2 := ⟨hg.os, hg.tape, hg.output, hg.size, fun k hk => hg.block k hk (by simp)⟩
  have h1 := h.fm.2.1
  refine ⟨h.es.keep (hb.block _ h.es.lt), h.bd, ?_, h.fm.up hb, h.hb⟩
  refine IMemo.up L (h.mem.more fun b hb => ?_) (fun b hb => ?_) hb
  · rcases hb with (hb | rfl) | hb
    · exact .inl (.inl hb)
    · exact .inr (Nat.le_refl _)
    · exact .inl (.inr hb)
  · rcases hb with (hb | rfl) | hb
    · exact hX b hb
    · omega
    · exact h.low1 hM hX b (.inr hb)
theorem Fd.iter {r : Nat} (h : Fd c X w b0 wr S) (L : ILie c) (hM : c.M1 ≤ w.heap.size) (hX : ∀ b, X b → c.M1 ≤ b) (hg : wr.grownBy w2 (some r)) (hr : X r) (hr2 : w.heap.size ≤ r) (hne : b0 ≠ r) : Fd c X w b0 w2 S :=
  ⟨h.es.keep (hg.block _ h.es.lt (fun e => hne (Option.some.inj e))), h.bd, h.mem.grown L (h.low1 hM hX) hg (.inl hr), h.fm.grown hg hr2, h.hb⟩
theorem Fd.post2 {Y : Nat → Prop} (h : Fd c Y w b0 wr S) (hXY : ∀ b, X b → Y b) (e : ∀ j, S j ↔ T j) : KPost c X T w (.returned (.map (some b0))) wr :=
  ⟨b0, rfl, h.hb, h.es.iff e, h.mem.more (fun b hb => .inl (.inl (hXY b hb))), h.fm⟩
end

set_option maxHeartbeats 4000000 in
set_option maxRecDepth 100000 in
theorem kids_cat (c : Im) (L : ILie c) (k : Nat) (hk : k < c.K) (hop : (c.pc k).op = 5) (hk1 : 1 < (c.pc k).kids.length) (hC0 : EndC c (En.kid (c.pc k) 0)) (hC1 : EndC c (En.kid (c.pc k) 1)) : KidC c k := by
  intro X w i hX h hi
  have hs := L.hs
  obtain ⟨p0, p2⟩ := kid_ptr h k hk (by omega)
  rw [hop] at p0
  have hM : c.M1 ≤ w.heap.size := h.hi
  have HX : Hid (∀ b, X b → c.M1 ≤ b ∧ b < w.heap.size) := hX
  have HL : Hid (ILie c) := L
  have HC0 : Hid (EndC c (En.kid (c.pc k) 0)) := hC0
  have HC1 : Hid (EndC c (En.kid (c.pc k) 1)) := hC1
  have HF : Hid (Fd c X w w.heap.size (w.alloc (.map #[] 0)) (fun _ => False)) := Fd.begin L hX h
  obtain ⟨p0', p2'⟩ := kid_ptr HF.out.mem k hk (by omega)
  rw [hop] at p0'
  have HE : Hid (∀ j, En.Ends c.ps c.s k i j ↔ ∃ u, En.Ends c.ps c.s (En.kid (c.pc k) 0) i u ∧ En.Ends c.ps c.s (En.kid (c.pc k) 1) u j) := fun j => En.cat2 hop
  have hmm := @run_makeMap Try.prog
  clear L hX h hC0 hC1 hop
  go_enter Try.func48, Try.ntmps48
  go_wp2_with fail
  refine (HC0.out _ _ i (HF.out.low hM HX.out) HF.out.mem hi).mono ?_
  rintro e w1 ⟨ob, rfl, o1, o2, o3, o4⟩
  have HF1 : Hid (Fd c X w w.heap.size w1 (fun _ => False)) := HF.out.called hM o3 o4
  have HNE : Hid (ob ≠ some w.heap.size) := fun e => o2 _ e (.inr rfl)
  clear o2 o3 o4 p0 p2 p0' p2' hmm HF
  rcases o1 with ⟨rfl, hno⟩ | ⟨bf, rfl, hbf, hE⟩
  · have HP : Hid (∀ o : Obj, KPost c X (En.Ends c.ps c.s k i) w (.returned (.map (some w.heap.size))) (w1.alloc o)) := by
      intro o
      refine (HF1.out.up HL.out hM (fun b hb => (HX.out b hb).1) ((Below.refl _ _).alloc (Nat.le_refl _) o)).post (fun j => ⟨fun h => h.elim, fun h => ?_⟩)
      obtain ⟨u, hu, _⟩ := (HE.out j).1 h
      exact hno u hu
    have hrg := run_range_nilMap (P := Try.prog) w1 57 3 64 under_eset
    have hnx : ∀ ty, (Instr.next (.pointer (some ⟨w1.heap.size, 0, none⟩)) false ty).run Try.prog (w1.alloc (.mapIter none 0 #[] 0)) = _ := fun ty => run_next_nilMap _ ty 0 0 #[]
    clear hno
    go_wp2_with fail
    refine wp_loop_rounds 1 ?_
    rw [rounds_succ]
    go_wp2_with fail
    go_ret
    exact HP.out _
  · obtain ⟨D, hD1, hD2⟩ := hE
    go_wp2_with (first | (at_range; refine wpList_range_own _ rfl _ 57 rfl 3 64 keyI under_eset _ bf _ D rfl hD1 ?_; intro w0 hrg0 hg0 hs0) | fail)
    go_frame
    obtain ⟨r, hr⟩ : ∃ r, r = w1.heap.size := ⟨_, rfl⟩
    rw [← hr] at hrg0 ⊢
    have HR0 : Hid (w0.ranges Try.prog 3 unitElem bf r (Maps.size D) D (Maps.has D) (Maps.size D)) := hrg0
    have HD2 : Hid (∀ x : Int, Maps.has D (.int .i64 x) = true ↔ ∃ u : Nat, x = (u : Int) ∧ En.Ends c.ps c.s (En.kid (c.pc k) 0) i u) := hD2
    have HF0 : Hid (Fd c (fun b => X b ∨ b = r) w w.heap.size w0 (fun j => ∃ u, (En.Ends c.ps c.s (En.kid (c.pc k) 0) i u ∧ Maps.has D (.int .i64 (u : Int)) = false) ∧ En.Ends c.ps c.s (En.kid (c.pc k) 1) u j)) := by
      rw [hr]
      refine (HF1.out.range HL.out hM (fun b hb => (HX.out b hb).1) hg0).iff (fun j => ⟨fun h => h.elim, ?_⟩)
      rintro ⟨u, ⟨h1, h2⟩, _⟩
      rw [(hD2 (u : Int)).2 ⟨u, rfl, h1⟩] at h2
      cases h2
    have HRR : Hid (w.heap.size < r ∧ c.M1 ≤ r ∧ w.heap.size ≠ bf ∧ c.M1 ≤ bf) := by
      have h1 := HF1.out.es.lt
      exact ⟨by omega, by omega, fun e => HNE.out (by rw [e]), hbf⟩
    have HXR : Hid (∀ b, (X b ∨ b = r) → c.M1 ≤ b) := by
      rintro b (hb | rfl)
      · exact (HX.out b hb).1
      · exact HRR.out.2.1
    clear hrg0 hg0 hs0 hD1 hD2 HF1 HNE hbf hr HC0
    go_loopw [8] (fun _ wr => ∃ (left : Lit → Bool) (cnt : Nat), Hid (wr.ranges Try.prog 3 unitElem bf r (Maps.size D) D left cnt) ∧ Hid (Fd c (fun b => X b ∨ b = r) w w.heap.size wr (fun j => ∃ u, (En.Ends c.ps c.s (En.kid (c.pc k) 0) i u ∧ left (.int .i64 (u : Int)) = false) ∧ En.Ends c.ps c.s (En.kid (c.pc k) 1) u j)))
      (fun _ wr => wr.rangeLeft bf r)
    case atStart => exact ⟨_, _, HR0.out, HF0.out⟩
    case round =>
      obtain ⟨left, cnt, HR, HF⟩ := hrel
      clear HR0 HF0
      go_wp2_with (first
        | (at_next; refine wpList_next_ranges _ rfl _ rfl 3 keyI unitElem encZ (fun _ : Unit => Value.agg #[]) (fun key kl hk => by obtain ⟨x, hx, _⟩ := Maps.keyOf_i64 Try.underlying3 hk; exact ⟨x, hx⟩) (fun v y hv => ⟨(), (unitElem_inv hv).1⟩) bf r _ _ _ _ rfl HR.out ?_ ?_)
        | fail)
      · intro hc0 hl0
        have HP : Hid (KPost c X (En.Ends c.ps c.s k i) w (.returned (.map (some w.heap.size))) wr) := HF.out.post2 (fun b hb => .inl hb) (fun j => by
          rw [HE.out j]
          constructor
          · rintro ⟨u, ⟨h1, _⟩, h2⟩; exact ⟨u, h1, h2⟩
          · rintro ⟨u, h1, h2⟩; exact ⟨u, ⟨h1, hl0 _⟩, h2⟩)
        clear hl0 hc0
        go_wp2_with fail
        go_ret
        exact HP.out
      · intro x kl yd yp w2 cnt2 hkey hlk hv hat hrg2 hlt hg2 hs2 hen
        obtain ⟨x', ex, rfl, _⟩ := Maps.keyOf_i64 Try.underlying3 hkey
        obtain rfl : x = x' := encZ_inj ex
        obtain ⟨u, rfl, hu⟩ := (HD2.out x).1 (has_true_of_atKey hat)
        have hul : u < c.s.size + 1 := by have := hu.le; omega
        have HR2 : Hid (w2.ranges Try.prog 3 unitElem bf r (Maps.size D) D (fun z => left z && !z.sameKey (.int .i64 (u : Int))) cnt2) := hrg2
        have HF2 : Hid (Fd c (fun b => X b ∨ b = r) w w.heap.size w2 (fun j => ∃ u, (En.Ends c.ps c.s (En.kid (c.pc k) 0) i u ∧ left (.int .i64 (u : Int)) = false) ∧ En.Ends c.ps c.s (En.kid (c.pc k) 1) u j)) := HF.out.iter HL.out hM HXR.out hg2 (.inr rfl) (by have := HRR.out.1; omega) (by have := HRR.out.1; omega)
        have HK : Hid (En.Ends c.ps c.s (En.kid (c.pc k) 0) i u ∧ cnt2 < cnt) := ⟨hu, hlt⟩
        have HLW : Hid (∀ b, ((X b ∨ b = r) ∨ b = w.heap.size) → c.M1 ≤ b ∧ b < w2.heap.size) := by
          intro b hb
          refine ⟨HF2.out.low1 hM HXR.out b hb, ?_⟩
          have h1 := HF2.out.es.lt
          have h2 := hrg2.lt
          rcases hb with (hb | rfl) | rfl
          · have := (HX.out b hb).2; omega
          · exact h2
          · exact h1
        have p3 := kid_ptr2 HF2.out.mem k hk hk1
        clear hg2 hs2 hat hlk hv hkey hrg2 hlt hu ex
        go_wp2_with fail
        refine (HC1.out _ _ u HLW.out HF2.out.mem hul).mono ?_
        rintro e w3 ⟨ob, rfl, o1, o2, o3, o4⟩
        have HR3 : Hid (w3.ranges Try.prog 3 unitElem bf r (Maps.size D) D (fun z => left z && !z.sameKey (.int .i64 (u : Int))) cnt2) := ranges_keep HR2.out (o4.2.2 _ HR2.out.owns.lt (.inr HRR.out.2.2.2)) (o4.2.2 _ HR2.out.lt (.inr HRR.out.2.1))
        have HA : Hid (Calls Try.prog 67 #[.map (some w.heap.size), .map ob] w3 fun e w' => e = .returned (.tuple #[]) ∧ Fd c (fun b => X b ∨ b = r) w w.heap.size w' (fun j => (∃ u, (En.Ends c.ps c.s (En.kid (c.pc k) 0) i u ∧ left (.int .i64 (u : Int)) = false) ∧ En.Ends c.ps c.s (En.kid (c.pc k) 1) u j) ∨ En.Ends c.ps c.s (En.kid (c.pc k) 1) u j) ∧ w3.grownBy w' (some w.heap.size)) :=
          (HF2.out.called hM o3 o4).add HL.out hM HXR.out o1 (fun e => o2 _ e (.inr rfl)) (fun j hj => by have := hj.le; omega)
        clear o1 o2 o3 o4 p3 HF2 HR2 HLW hen
        go_wp2_with fail
        refine HA.out.mono ?_
        rintro e w4 ⟨rfl, hf4, hg4⟩
        have HF4 : Hid (Fd c (fun b => X b ∨ b = r) w w.heap.size w4 (fun j => ∃ u', (En.Ends c.ps c.s (En.kid (c.pc k) 0) i u' ∧ (left (.int .i64 (u' : Int)) && !(Lit.int .i64 (u' : Int)).sameKey (.int .i64 (u : Int))) = false) ∧ En.Ends c.ps c.s (En.kid (c.pc k) 1) u' j)) := hf4.iff (fun j => by
          constructor
          · rintro (⟨u', ⟨h1, h2⟩, h3⟩ | h3)
            · exact ⟨u', ⟨h1, by rw [h2]; rfl⟩, h3⟩
            · exact ⟨u, ⟨HK.out.1, by simp [Lit.sameKey]⟩, h3⟩
          · rintro ⟨u', ⟨h1, h2⟩, h3⟩
            by_cases huu : u' = u
            · subst huu; exact .inr h3
            · refine .inl ⟨u', ⟨h1, ?_⟩, h3⟩
              have e : (Lit.int .i64 (u' : Int)).sameKey (.int .i64 (u : Int)) = false := sameKey_ne (fun e => huu (by simp at e; omega))
              simpa [e] using h2)
        have HR4 : Hid (w4.ranges Try.prog 3 unitElem bf r (Maps.size D) D (fun z => left z && !z.sameKey (.int .i64 (u : Int))) cnt2) := HR3.out.kept hg4 (fun e => HRR.out.2.2.1 (Option.some.inj e).symm) (fun e => by have := Option.some.inj e; have := HRR.out.1; omega)
        clear hf4 hg4 HA HR3
        go_wp2_with fail
        go_roundw
        case rel => exact ⟨_, _, HR4.out, HF4.out⟩
        case measure =>
          rw [HR4.out.left_eq, HR.out.left_eq]
          exact HK.out.2
#print axioms kids_cat
end Go.Proofs.Ytlnmbahakdmkgaa
