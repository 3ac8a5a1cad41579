/- Where a piece may end, by the program: 'endsOfKids': one behind the other. Contracts of the library, laid at this program: the keys of a map, collected, sorted, the greatest of them. -/
import Derived.Test.YtlnmbahakdmkgaaZaw
import Derived.Shelf.SlGeneric
import Derived.Shelf.SlIterI.Nil
import Derived.Shelf.SortM.Plain
import Derived.Shelf.SortM.SortNone
import Derived.Shelf.SlicesG.Turned
import Derived.Test.YtlnmbahakdmkgaaProg
namespace Go.Proofs.Ytlnmbahakdmkgaa
section PartIpG
open Go.RowKit Go.Maps
section
variable {c : Im} {X : Nat → Prop} {w wr w2 : World} {b0 : Nat} {S T : Nat → Prop}
/-- A range begins: its place is one's own too. -/
theorem Fd.range (h : Fd c X w b0 wr S) (L : ILie c) (hM : c.M1 ≤ w.heap.size) (hX : ∀ b, X b → c.M1 ≤ b) (hg : wr.grownBy w2 none) : Fd c (fun b => X b ∨ b = wr.heap.size) w b0 w2 S := by
  have hb : Below wr.heap.size wr w2 := ⟨hg.os, hg.tape, hg.output, hg.size, fun k hk => hg.block k hk (by simp)⟩
  have h1 := h.fm.2.1
  refine ⟨h.es.keep (hb.block _ h.es.lt), h.bd, ?_, h.fm.up hb, h.hb⟩
  refine IMemo.up L (h.mem.more fun b hb => ?_) (fun b hb => ?_) hb
  · rcases hb with (hb | rfl) | hb
    · exact .inl (.inl hb)
    · exact .inr (Nat.le_refl _)
    · exact .inl (.inr hb)
  · rcases hb with (hb | rfl) | hb
    · exact hX b hb
    · omega
    · exact h.low1 hM hX b (.inr hb)
theorem Fd.iter {r : Nat} (h : Fd c X w b0 wr S) (L : ILie c) (hM : c.M1 ≤ w.heap.size) (hX : ∀ b, X b → c.M1 ≤ b) (hg : wr.grownBy w2 (some r)) (hr : X r) (hr2 : w.heap.size ≤ r) (hne : b0 ≠ r) : Fd c X w b0 w2 S :=
  ⟨h.es.keep (hg.block _ h.es.lt (fun e => hne (Option.some.inj e))), h.bd, h.mem.grown L (h.low1 hM hX) hg (.inl hr), h.fm.grown hg hr2, h.hb⟩
theorem Fd.post2 {Y : Nat → Prop} (h : Fd c Y w b0 wr S) (hXY : ∀ b, X b → Y b) (e : ∀ j, S j ↔ T j) : KPost c X T w (.returned (.map (some b0))) wr :=
  ⟨b0, rfl, h.hb, h.es.iff e, h.mem.more (fun b hb => .inl (.inl (hXY b hb))), h.fm⟩
end

set_option maxHeartbeats 4000000 in
set_option maxRecDepth 100000 in
theorem kids_cat (c : Im) (L : ILie c) (k : Nat) (hk : k < c.K) (hop : (c.pc k).op = 5) (hk1 : 1 < (c.pc k).kids.length) (hC0 : EndC c (En.kid (c.pc k) 0)) (hC1 : EndC c (En.kid (c.pc k) 1)) : KidC c k := by
  intro X w i hX h hi
  have hs := L.hs
  obtain ⟨p0, p2⟩ := kid_ptr h k hk (by omega)
  rw [hop] at p0
  have hM : c.M1 ≤ w.heap.size := h.hi
  have HX : Hid (∀ b, X b → c.M1 ≤ b ∧ b < w.heap.size) := hX
  have HL : Hid (ILie c) := L
  have HC0 : Hid (EndC c (En.kid (c.pc k) 0)) := hC0
  have HC1 : Hid (EndC c (En.kid (c.pc k) 1)) := hC1
  have HF : Hid (Fd c X w w.heap.size (w.alloc (.map #[] 0)) (fun _ => False)) := Fd.begin L hX h
  obtain ⟨p0', p2'⟩ := kid_ptr HF.out.mem k hk (by omega)
  rw [hop] at p0'
  have HE : Hid (∀ j, En.Ends c.ps c.s k i j ↔ ∃ u, En.Ends c.ps c.s (En.kid (c.pc k) 0) i u ∧ En.Ends c.ps c.s (En.kid (c.pc k) 1) u j) := fun j => En.cat2 hop
  have hmm := @run_makeMap Try.prog
  clear L hX h hC0 hC1 hop
  go_enter Try.func48, Try.ntmps48
  go_wp2_with fail
  refine (HC0.out _ _ i (HF.out.low hM HX.out) HF.out.mem hi).mono ?_
  rintro e w1 ⟨ob, rfl, o1, o2, o3, o4⟩
  have HF1 : Hid (Fd c X w w.heap.size w1 (fun _ => False)) := HF.out.called hM o3 o4
  have HNE : Hid (ob ≠ some w.heap.size) := fun e => o2 _ e (.inr rfl)
  clear o2 o3 o4 p0 p2 p0' p2' hmm HF
  rcases o1 with ⟨rfl, hno⟩ | ⟨bf, rfl, hbf, hE⟩
  · have HP : Hid (∀ o : Obj, KPost c X (En.Ends c.ps c.s k i) w (.returned (.map (some w.heap.size))) (w1.alloc o)) := by
      intro o
      refine (HF1.out.up HL.out hM (fun b hb => (HX.out b hb).1) ((Below.refl _ _).alloc (Nat.le_refl _) o)).post (fun j => ⟨fun h => h.elim, fun h => ?_⟩)
      obtain ⟨u, hu, _⟩ := (HE.out j).1 h
      exact hno u hu
    have hrg := run_range_nilMap (P := Try.prog) w1 57 3 64 under_eset
    have hnx : ∀ ty, (Instr.next (.pointer (some ⟨w1.heap.size, 0, none⟩)) false ty).run Try.prog (w1.alloc (.mapIter none 0 #[] 0)) = _ := fun ty => run_next_nilMap _ ty 0 0 #[]
    clear hno
    go_wp2_with fail
    refine wp_loop_rounds 1 ?_
    rw [rounds_succ]
    go_wp2_with fail
    go_ret
    exact HP.out _
  · obtain ⟨D, hD1, hD2⟩ := hE
    go_wp2_with (first | (at_range; refine wpList_range_own _ rfl _ 57 rfl 3 64 keyI under_eset _ bf _ D rfl hD1 ?_; intro w0 hrg0 hg0 hs0) | fail)
    go_frame
    obtain ⟨r, hr⟩ : ∃ r, r = w1.heap.size := ⟨_, rfl⟩
    rw [← hr] at hrg0 ⊢
    have HR0 : Hid (w0.ranges Try.prog 3 unitElem bf r (Maps.size D) D (Maps.has D) (Maps.size D)) := hrg0
    have HD2 : Hid (∀ x : Int, Maps.has D (.int .i64 x) = true ↔ ∃ u : Nat, x = (u : Int) ∧ En.Ends c.ps c.s (En.kid (c.pc k) 0) i u) := hD2
    have HF0 : Hid (Fd c (fun b => X b ∨ b = r) w w.heap.size w0 (fun j => ∃ u, (En.Ends c.ps c.s (En.kid (c.pc k) 0) i u ∧ Maps.has D (.int .i64 (u : Int)) = false) ∧ En.Ends c.ps c.s (En.kid (c.pc k) 1) u j)) := by
      rw [hr]
      refine (HF1.out.range HL.out hM (fun b hb => (HX.out b hb).1) hg0).iff (fun j => ⟨fun h => h.elim, ?_⟩)
      rintro ⟨u, ⟨h1, h2⟩, _⟩
      rw [(hD2 (u : Int)).2 ⟨u, rfl, h1⟩] at h2
      cases h2
    have HRR : Hid (w.heap.size < r ∧ c.M1 ≤ r ∧ w.heap.size ≠ bf ∧ c.M1 ≤ bf) := by
      have h1 := HF1.out.es.lt
      exact ⟨by omega, by omega, fun e => HNE.out (by rw [e]), hbf⟩
    have HXR : Hid (∀ b, (X b ∨ b = r) → c.M1 ≤ b) := by
      rintro b (hb | rfl)
      · exact (HX.out b hb).1
      · exact HRR.out.2.1
    clear hrg0 hg0 hs0 hD1 hD2 HF1 HNE hbf hr HC0
    go_loopw [8] (fun _ wr => ∃ (left : Lit → Bool) (cnt : Nat), Hid (wr.ranges Try.prog 3 unitElem bf r (Maps.size D) D left cnt) ∧ Hid (Fd c (fun b => X b ∨ b = r) w w.heap.size wr (fun j => ∃ u, (En.Ends c.ps c.s (En.kid (c.pc k) 0) i u ∧ left (.int .i64 (u : Int)) = false) ∧ En.Ends c.ps c.s (En.kid (c.pc k) 1) u j)))
      (fun _ wr => wr.rangeLeft bf r)
    case atStart => exact ⟨_, _, HR0.out, HF0.out⟩
    case round =>
      obtain ⟨left, cnt, HR, HF⟩ := hrel
      clear HR0 HF0
      go_wp2_with (first
        | (at_next; refine wpList_next_ranges _ rfl _ rfl 3 keyI unitElem encZ (fun _ : Unit => Value.agg #[]) (fun key kl hk => by obtain ⟨x, hx, _⟩ := Maps.keyOf_i64 Try.underlying3 hk; exact ⟨x, hx⟩) (fun v y hv => ⟨(), (unitElem_inv hv).1⟩) bf r _ _ _ _ rfl HR.out ?_ ?_)
        | fail)
      · intro hc0 hl0
        have HP : Hid (KPost c X (En.Ends c.ps c.s k i) w (.returned (.map (some w.heap.size))) wr) := HF.out.post2 (fun b hb => .inl hb) (fun j => by
          rw [HE.out j]
          constructor
          · rintro ⟨u, ⟨h1, _⟩, h2⟩; exact ⟨u, h1, h2⟩
          · rintro ⟨u, h1, h2⟩; exact ⟨u, ⟨h1, hl0 _⟩, h2⟩)
        clear hl0 hc0
        go_wp2_with fail
        go_ret
        exact HP.out
      · intro x kl yd yp w2 cnt2 hkey hlk hv hat hrg2 hlt hg2 hs2 hen
        obtain ⟨x', ex, rfl, _⟩ := Maps.keyOf_i64 Try.underlying3 hkey
        obtain rfl : x = x' := encZ_inj ex
        obtain ⟨u, rfl, hu⟩ := (HD2.out x).1 (has_true_of_atKey hat)
        have hul : u < c.s.size + 1 := by have := hu.le; omega
        have HR2 : Hid (w2.ranges Try.prog 3 unitElem bf r (Maps.size D) D (fun z => left z && !z.sameKey (.int .i64 (u : Int))) cnt2) := hrg2
        have HF2 : Hid (Fd c (fun b => X b ∨ b = r) w w.heap.size w2 (fun j => ∃ u, (En.Ends c.ps c.s (En.kid (c.pc k) 0) i u ∧ left (.int .i64 (u : Int)) = false) ∧ En.Ends c.ps c.s (En.kid (c.pc k) 1) u j)) := HF.out.iter HL.out hM HXR.out hg2 (.inr rfl) (by have := HRR.out.1; omega) (by have := HRR.out.1; omega)
        have HK : Hid (En.Ends c.ps c.s (En.kid (c.pc k) 0) i u ∧ cnt2 < cnt) := ⟨hu, hlt⟩
        have HLW : Hid (∀ b, ((X b ∨ b = r) ∨ b = w.heap.size) → c.M1 ≤ b ∧ b < w2.heap.size) := by
          intro b hb
          refine ⟨HF2.out.low1 hM HXR.out b hb, ?_⟩
          have h1 := HF2.out.es.lt
          have h2 := hrg2.lt
          rcases hb with (hb | rfl) | rfl
          · have := (HX.out b hb).2; omega
          · exact h2
          · exact h1
        have p3 := kid_ptr2 HF2.out.mem k hk hk1
        clear hg2 hs2 hat hlk hv hkey hrg2 hlt hu ex
        go_wp2_with fail
        refine (HC1.out _ _ u HLW.out HF2.out.mem hul).mono ?_
        rintro e w3 ⟨ob, rfl, o1, o2, o3, o4⟩
        have HR3 : Hid (w3.ranges Try.prog 3 unitElem bf r (Maps.size D) D (fun z => left z && !z.sameKey (.int .i64 (u : Int))) cnt2) := ranges_keep HR2.out (o4.2.2 _ HR2.out.owns.lt (.inr HRR.out.2.2.2)) (o4.2.2 _ HR2.out.lt (.inr HRR.out.2.1))
        have HA : Hid (Calls Try.prog 67 #[.map (some w.heap.size), .map ob] w3 fun e w' => e = .returned (.tuple #[]) ∧ Fd c (fun b => X b ∨ b = r) w w.heap.size w' (fun j => (∃ u, (En.Ends c.ps c.s (En.kid (c.pc k) 0) i u ∧ left (.int .i64 (u : Int)) = false) ∧ En.Ends c.ps c.s (En.kid (c.pc k) 1) u j) ∨ En.Ends c.ps c.s (En.kid (c.pc k) 1) u j) ∧ w3.grownBy w' (some w.heap.size)) :=
          (HF2.out.called hM o3 o4).add HL.out hM HXR.out o1 (fun e => o2 _ e (.inr rfl)) (fun j hj => by have := hj.le; omega)
        clear o1 o2 o3 o4 p3 HF2 HR2 HLW hen
        go_wp2_with fail
        refine HA.out.mono ?_
        rintro e w4 ⟨rfl, hf4, hg4⟩
        have HF4 : Hid (Fd c (fun b => X b ∨ b = r) w w.heap.size w4 (fun j => ∃ u', (En.Ends c.ps c.s (En.kid (c.pc k) 0) i u' ∧ (left (.int .i64 (u' : Int)) && !(Lit.int .i64 (u' : Int)).sameKey (.int .i64 (u : Int))) = false) ∧ En.Ends c.ps c.s (En.kid (c.pc k) 1) u' j)) := hf4.iff (fun j => by
          constructor
          · rintro (⟨u', ⟨h1, h2⟩, h3⟩ | h3)
            · exact ⟨u', ⟨h1, by rw [h2]; rfl⟩, h3⟩
            · exact ⟨u, ⟨HK.out.1, by simp [Lit.sameKey]⟩, h3⟩
          · rintro ⟨u', ⟨h1, h2⟩, h3⟩
            by_cases huu : u' = u
            · subst huu; exact .inr h3
            · refine .inl ⟨u', ⟨h1, ?_⟩, h3⟩
              have e : (Lit.int .i64 (u' : Int)).sameKey (.int .i64 (u : Int)) = false := sameKey_ne (fun e => huu (by simp at e; omega))
              simpa [e] using h2)
        have HR4 : Hid (w4.ranges Try.prog 3 unitElem bf r (Maps.size D) D (fun z => left z && !z.sameKey (.int .i64 (u : Int))) cnt2) := HR3.out.kept hg4 (fun e => HRR.out.2.2.1 (Option.some.inj e).symm) (fun e => by have := Option.some.inj e; have := HRR.out.1; omega)
        clear hf4 hg4 HA HR3
        go_wp2_with fail
        go_roundw
        case rel => exact ⟨_, _, HR4.out, HF4.out⟩
        case measure =>
          rw [HR4.out.left_eq, HR.out.left_eq]
          exact HK.out.2
end PartIpG
section PartShIt
open Go.Shelf Go.Proofs
def Try.keysA_ren : Go.Shelf.Ren := ⟨fun | 7 => 29 | 10 => 50 | n => n, fun | 23 => 57 | 26 => 3 | 3 => 64 | 28 => 62 | 0 => 0 | 27 => 61 | 33 => 96 | 4 => 4 | n => n, fun | n => n⟩
theorem Try.keysA : Go.Proofs.SlLaysZI.n7 Try.prog Try.keysA_ren := {
  mixed := by kernel_rfl
  f7 := ⟨Try.f29.name, by decide, Try.func29.trans (congrArg some (by kernel_rfl))⟩
  f10 := ⟨Try.f50.name, by decide, Try.func50.trans (congrArg some (by kernel_rfl))⟩
  t0 := Try.underlying0
  a0 := Try.isAgg0
  z0 := Try.sizeOf0
  v0 := Try.zeroValue0
  t4 := Try.underlying4
  a4 := Try.isAgg4
  z4 := Try.sizeOf4
  v4 := Try.zeroValue4
  t23 := Try.underlying57
  a23 := Try.isAgg57
  z23 := Try.sizeOf57
  v23 := Try.zeroValue57
  t26 := Try.underlying3
  a26 := Try.isAgg3
  z26 := Try.sizeOf3
  v26 := Try.zeroValue3
  t27 := Try.underlying61
  a27 := Try.isAgg61
  z27 := Try.sizeOf61
  v27 := Try.zeroValue61
  t28 := Try.underlying62
  a28 := Try.isAgg62
  z28 := Try.sizeOf62
  v28 := Try.zeroValue62
  t33 := Try.underlying96
  a33 := Try.isAgg96
  z33 := Try.sizeOf96
  v33 := Try.zeroValue96 }
def Try.sortedA_ren : Go.Shelf.Ren := ⟨fun | 6 => 58 | 8 => 28 | 9 => 77 | 11 => 49 | 13 => 84 | 12 => 83 | 23 => 98 | 24 => 99 | 14 => 89 | 15 => 90 | 16 => 91 | 17 => 92 | 18 => 93 | 19 => 94 | 20 => 95 | 21 => 96 | 22 => 97 | 25 => 103 | 26 => 104 | 27 => 105 | 28 => 106 | 29 => 107 | 30 => 108 | 31 => 110 | n => n, fun | 26 => 3 | 28 => 62 | 24 => 40 | 0 => 0 | 3 => 3 | 37 => 110 | 48 => 138 | 50 => 140 | 4 => 4 | 40 => 131 | 39 => 130 | 45 => 72 | 5 => 5 | 9 => 9 | 51 => 143 | 55 => 147 | 57 => 149 | 58 => 150 | 33 => 96 | n => n, fun | n => n⟩
theorem Try.sortedA : Go.Proofs.SlLaysZI.n6 Try.prog Try.sortedA_ren := {
  mixed := by kernel_rfl
  f6 := ⟨Try.f58.name, by decide, Try.func58.trans (congrArg some (by kernel_rfl))⟩
  f8 := ⟨Try.f28.name, by decide, Try.func28.trans (congrArg some (by kernel_rfl))⟩
  f11 := ⟨Try.f49.name, by decide, Try.func49.trans (congrArg some (by kernel_rfl))⟩
  t0 := Try.underlying0
  a0 := Try.isAgg0
  z0 := Try.sizeOf0
  v0 := Try.zeroValue0
  t24 := Try.underlying40
  a24 := Try.isAgg40
  z24 := Try.sizeOf40
  v24 := Try.zeroValue40
  t26 := Try.underlying3
  a26 := Try.isAgg3
  z26 := Try.sizeOf3
  v26 := Try.zeroValue3
  t28 := Try.underlying62
  a28 := Try.isAgg62
  z28 := Try.sizeOf62
  v28 := Try.zeroValue62
  i26 := by kernel_rfl }
def Try.collectA_ren : Go.Shelf.Ren := ⟨fun | 8 => 28 | 11 => 49 | n => n, fun | 26 => 3 | 28 => 62 | 24 => 40 | 0 => 0 | 33 => 96 | 4 => 4 | n => n, fun | n => n⟩
theorem Try.collectA : Go.Proofs.SlLaysZI.n8 Try.prog Try.collectA_ren := {
  mixed := by kernel_rfl
  f8 := ⟨Try.f28.name, by decide, Try.func28.trans (congrArg some (by kernel_rfl))⟩
  f11 := ⟨Try.f49.name, by decide, Try.func49.trans (congrArg some (by kernel_rfl))⟩
  t0 := Try.underlying0
  a0 := Try.isAgg0
  z0 := Try.sizeOf0
  v0 := Try.zeroValue0
  t24 := Try.underlying40
  a24 := Try.isAgg40
  z24 := Try.sizeOf40
  v24 := Try.zeroValue40
  t26 := Try.underlying3
  a26 := Try.isAgg3
  z26 := Try.sizeOf3
  v26 := Try.zeroValue3
  t28 := Try.underlying62
  a28 := Try.isAgg62
  z28 := Try.sizeOf62
  v28 := Try.zeroValue62
  i26 := by kernel_rfl }
def Try.sortA_ren : Go.Shelf.Ren := ⟨fun | 5 => 77 | 8 => 84 | 7 => 83 | 19 => 98 | 20 => 99 | 10 => 89 | 11 => 90 | 12 => 91 | 13 => 92 | 14 => 93 | 15 => 94 | 16 => 95 | 17 => 96 | 18 => 97 | 30 => 103 | 31 => 104 | 32 => 105 | 33 => 106 | 34 => 107 | 35 => 108 | 40 => 110 | n => n, fun | 23 => 40 | 25 => 3 | 3 => 3 | 32 => 110 | 22 => 40 | 0 => 0 | 44 => 138 | 46 => 140 | 4 => 4 | 36 => 131 | 35 => 130 | 41 => 72 | 5 => 5 | 9 => 9 | 53 => 143 | 57 => 147 | 63 => 149 | 64 => 150 | n => n, fun | n => n⟩
theorem Try.sortA : Go.Proofs.SlLaysM.n5 Try.prog Try.sortA_ren := {
  mixed := by kernel_rfl
  f5 := ⟨Try.f77.name, by decide, Try.func77.trans (congrArg some (by kernel_rfl))⟩
  f7 := ⟨Try.f83.name, by decide, Try.func83.trans (congrArg some (by kernel_rfl))⟩
  f8 := Try.func84.trans (congrArg some (by kernel_rfl))
  f10 := ⟨Try.f89.name, by decide, Try.func89.trans (congrArg some (by kernel_rfl))⟩
  f11 := ⟨Try.f90.name, by decide, Try.func90.trans (congrArg some (by kernel_rfl))⟩
  f12 := ⟨Try.f91.name, by decide, Try.func91.trans (congrArg some (by kernel_rfl))⟩
  f13 := ⟨Try.f92.name, by decide, Try.func92.trans (congrArg some (by kernel_rfl))⟩
  f14 := ⟨Try.f93.name, by decide, Try.func93.trans (congrArg some (by kernel_rfl))⟩
  f15 := ⟨Try.f94.name, by decide, Try.func94.trans (congrArg some (by kernel_rfl))⟩
  f16 := ⟨Try.f95.name, by decide, Try.func95.trans (congrArg some (by kernel_rfl))⟩
  f17 := ⟨Try.f96.name, by decide, Try.func96.trans (congrArg some (by kernel_rfl))⟩
  f18 := ⟨Try.f97.name, by decide, Try.func97.trans (congrArg some (by kernel_rfl))⟩
  f19 := Try.func98.trans (congrArg some (by kernel_rfl))
  f20 := Try.func99.trans (congrArg some (by kernel_rfl))
  f30 := ⟨Try.f103.name, by decide, Try.func103.trans (congrArg some (by kernel_rfl))⟩
  f31 := Try.func104.trans (congrArg some (by kernel_rfl))
  f32 := Try.func105.trans (congrArg some (by kernel_rfl))
  f33 := ⟨Try.f106.name, by decide, Try.func106.trans (congrArg some (by kernel_rfl))⟩
  f34 := ⟨Try.f107.name, by decide, Try.func107.trans (congrArg some (by kernel_rfl))⟩
  f35 := ⟨Try.f108.name, by decide, Try.func108.trans (congrArg some (by kernel_rfl))⟩
  f40 := ⟨Try.f110.name, by decide, Try.func110.trans (congrArg some (by kernel_rfl))⟩
  t0 := Try.underlying0
  a0 := Try.isAgg0
  z0 := Try.sizeOf0
  v0 := Try.zeroValue0
  t3 := Try.underlying3
  a3 := Try.isAgg3
  z3 := Try.sizeOf3
  v3 := Try.zeroValue3
  t4 := Try.underlying4
  a4 := Try.isAgg4
  z4 := Try.sizeOf4
  v4 := Try.zeroValue4
  t5 := Try.underlying5
  a5 := Try.isAgg5
  z5 := Try.sizeOf5
  v5 := Try.zeroValue5
  t9 := Try.underlying9
  a9 := Try.isAgg9
  z9 := Try.sizeOf9
  v9 := Try.zeroValue9
  t22 := Try.underlying40
  a22 := Try.isAgg40
  z22 := Try.sizeOf40
  v22 := Try.zeroValue40
  t23 := Try.underlying40
  a23 := Try.isAgg40
  z23 := Try.sizeOf40
  v23 := Try.zeroValue40
  t25 := Try.underlying3
  a25 := Try.isAgg3
  z25 := Try.sizeOf3
  v25 := Try.zeroValue3
  t32 := Try.underlying110
  a32 := Try.isAgg110
  z32 := Try.sizeOf110
  v32 := Try.zeroValue110
  t35 := Try.underlying130
  a35 := Try.isAgg130
  z35 := Try.sizeOf130
  v35 := Try.zeroValue130
  t36 := Try.underlying131
  a36 := Try.isAgg131
  z36 := Try.sizeOf131
  v36 := Try.zeroValue131
  t41 := Try.underlying72
  a41 := Try.isAgg72
  z41 := Try.sizeOf72
  v41 := Try.zeroValue72
  t44 := Try.underlying138
  a44 := Try.isAgg138
  z44 := Try.sizeOf138
  v44 := Try.zeroValue138
  t46 := Try.underlying140
  a46 := Try.isAgg140
  z46 := Try.sizeOf140
  v46 := Try.zeroValue140
  t53 := Try.underlying143
  a53 := Try.isAgg143
  z53 := Try.sizeOf143
  v53 := Try.zeroValue143
  t57 := Try.underlying147
  a57 := Try.isAgg147
  z57 := Try.sizeOf147
  v57 := Try.zeroValue147
  t63 := Try.underlying149
  a63 := Try.isAgg149
  z63 := Try.sizeOf149
  v63 := Try.zeroValue149
  t64 := Try.underlying150
  a64 := Try.isAgg150
  z64 := Try.sizeOf150
  v64 := Try.zeroValue150 }
def Try.maxA_ren : Go.Shelf.Ren := ⟨fun | 37 => 27 | n => n, fun | 22 => 40 | 23 => 3 | 3 => 3 | 4 => 4 | 9 => 9 | 20 => 20 | 0 => 0 | n => n, fun | n => n⟩
theorem Try.maxA : Go.Proofs.SlLaysN.n37 Try.prog Try.maxA_ren := {
  mixed := by kernel_rfl
  f37 := ⟨Try.f27.name, by decide, Try.func27.trans (congrArg some (by kernel_rfl))⟩
  t0 := Try.underlying0
  a0 := Try.isAgg0
  z0 := Try.sizeOf0
  v0 := Try.zeroValue0
  t3 := Try.underlying3
  a3 := Try.isAgg3
  z3 := Try.sizeOf3
  v3 := Try.zeroValue3
  t4 := Try.underlying4
  a4 := Try.isAgg4
  z4 := Try.sizeOf4
  v4 := Try.zeroValue4
  t9 := Try.underlying9
  a9 := Try.isAgg9
  z9 := Try.sizeOf9
  v9 := Try.zeroValue9
  t20 := Try.underlying20
  a20 := Try.isAgg20
  z20 := Try.sizeOf20
  v20 := Try.zeroValue20
  t22 := Try.underlying40
  a22 := Try.isAgg40
  z22 := Try.sizeOf40
  v22 := Try.zeroValue40
  t23 := Try.underlying3
  a23 := Try.isAgg3
  z23 := Try.sizeOf3
  v23 := Try.zeroValue3 }
end PartShIt
end Go.Proofs.Ytlnmbahakdmkgaa
