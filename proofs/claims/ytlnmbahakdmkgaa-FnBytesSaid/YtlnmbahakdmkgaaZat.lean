/- Where a piece may end, by the program: sets of places, which are maps. Where a piece may end, by the program: one set taken up into another. -/
import Derived.Test.YtlnmbahakdmkgaaZas
import Derived.Maps.RangeWalk
import Derived.Lib.SlKeysI
namespace Go.Proofs.Ytlnmbahakdmkgaa
section PartIpA
open Go.RowKit Go.Maps

theorem keyI : Keyed Try.prog 3 := int_keyed Try.underlying3
theorem under_eset : Try.prog.underlying 57 = some (.map 3 64) := Try.underlying57
theorem small_wf {n : Nat} (h : n ≤ 2000000) : (Lit.int .i64 (n : Int)).wf = true := WalkArith.wf_i64 (by omega)
theorem isKey_int (x : Int) : WideAt.IsKeyLit (.int .i64 x) := by simp [WideAt.IsKeyLit]

/-- Block b of w is a set of places: those of S. -/
def ES (w : World) (b : Nat) (S : Nat → Prop) : Prop := ∃ D : DataW Unit, w.ownsMap Try.prog 3 unitElem b (Maps.size D) D ∧ ∀ x : Int, Maps.has D (.int .i64 x) = true ↔ ∃ k : Nat, x = (k : Int) ∧ S k
theorem ES.lt {w : World} {b : Nat} {S : Nat → Prop} (h : ES w b S) : b < w.heap.size := by
  obtain ⟨D, h1, _⟩ := h
  exact h1.lt
theorem own_keepM {H : Type} {w w' : World} {k : TypeId} {R : Value → Option (DataW H × List MemPlace)} {b n : Nat} {D : DataW H} (h : w.ownsMap Try.prog k R b n D) (hb : w'.heap[b]? = w.heap[b]?) : w'.ownsMap Try.prog k R b n D := by
  obtain ⟨es, clock, h1, h2⟩ := h
  exact ⟨es, clock, hb.trans h1, h2⟩
theorem own_tight {H : Type} {w : World} {k : TypeId} {R : Value → Option (DataW H × List MemPlace)} {b n : Nat} {D : DataW H} (h : w.ownsMap Try.prog k R b n D) : w.ownsMap Try.prog k R b (Maps.size D) D := by
  obtain ⟨es, clock, h1, h2, h3, h4⟩ := h
  refine ⟨es, clock, h1, h2, ?_, h4⟩
  rw [h4]
  simp [Maps.size, length_sorted]
theorem ES.keep {w w' : World} {b : Nat} {S : Nat → Prop} (h : ES w b S) (hb : w'.heap[b]? = w.heap[b]?) : ES w' b S := by
  obtain ⟨D, h1, h2⟩ := h
  exact ⟨D, own_keepM h1 hb, h2⟩
theorem ES.iff {w : World} {b : Nat} {S T : Nat → Prop} (h : ES w b S) (e : ∀ k, S k ↔ T k) : ES w b T := by
  obtain ⟨D, h1, h2⟩ := h
  exact ⟨D, h1, fun x => (h2 x).trans ⟨fun ⟨k, a, c⟩ => ⟨k, a, (e k).1 c⟩, fun ⟨k, a, c⟩ => ⟨k, a, (e k).2 c⟩⟩⟩
theorem ES.made (w : World) : ES (w.alloc (.map #[] 0)) w.heap.size (fun _ => False) := by
  refine ⟨.map [], World.ownsMap_made w Try.prog 3 unitElem, fun x => ?_⟩
  simp [Maps.has]
open Classical in
/-- The keys, in their order. -/
theorem ES.keys {w : World} {b : Nat} {S : Nat → Prop} {D : DataW Unit} (h1 : w.ownsMap Try.prog 3 unitElem b (Maps.size D) D) (h2 : ∀ x : Int, Maps.has D (.int .i64 x) = true ↔ ∃ k : Nat, x = (k : Int) ∧ S k) (N : Nat) (hN : ∀ k, S k → k < N) :
    (((List.range N).filter fun k => decide (S k)).map fun k : Nat => (k : Int)).Perm (intKeys D) := by
  obtain ⟨es, rfl, hpw, -⟩ := h1.entries keyI
  obtain ⟨es', hD', hko⟩ := h1.keysOf
  obtain rfl : es = es' := by simpa using hD'
  refine perm_intKeys hpw (fun p hp => by obtain ⟨v, hv⟩ := hko p hp; obtain ⟨x, _, hx, _⟩ := Maps.keyOf_i64 Try.underlying3 hv; exact ⟨x, hx⟩) ?_ (fun x => ?_)
  · refine List.pairwise_map.2 ?_
    refine List.Pairwise.imp (R := fun a b : Nat => a < b) (fun {a b} hab => by omega) ?_
    exact List.Pairwise.filter _ List.pairwise_lt_range
  · rw [h2 x, List.mem_map]
    constructor
    · rintro ⟨k, hk, rfl⟩
      rw [List.mem_filter] at hk
      exact ⟨k, rfl, by simpa using hk.2⟩
    · rintro ⟨k, rfl, hk⟩
      exact ⟨k, by rw [List.mem_filter, List.mem_range]; exact ⟨hN k hk, by simpa using hk⟩, rfl⟩
theorem keys_len {D : DataW Unit} (h : IsMap D) : (intKeys D).length = Maps.size D := by
  obtain ⟨es, rfl⟩ := h
  simp [intKeys, Maps.size]
/-- No more places than there are. -/
theorem ES.size {w : World} {b : Nat} {S : Nat → Prop} {D : DataW Unit} (h1 : w.ownsMap Try.prog 3 unitElem b (Maps.size D) D) (h2 : ∀ x : Int, Maps.has D (.int .i64 x) = true ↔ ∃ k : Nat, x = (k : Int) ∧ S k) (N : Nat) (hN : ∀ k, S k → k < N) : Maps.size D ≤ N := by
  have h := (ES.keys h1 h2 N hN).length_eq
  rw [keys_len h1.isMap, List.length_map] at h
  rw [← h]
  refine Nat.le_trans (List.length_filter_le _ _) (by simp)
/-- One place more. -/
theorem ES.put {w : World} {b n k : Nat} {S : Nat → Prop} {D : DataW Unit} (h1 : w.ownsMap Try.prog 3 unitElem b n (D.put (.int .i64 (k : Int)) (.agg []))) (hm : IsMap D) (h2 : ∀ x : Int, Maps.has D (.int .i64 x) = true ↔ ∃ j : Nat, x = (j : Int) ∧ S j) : ES w b (fun j => S j ∨ j = k) := by
  refine ⟨_, own_tight h1, fun x => ?_⟩
  by_cases hx : x = (k : Int)
  · subst hx
    rw [has_put_same hm (isKey_int _)]
    exact ⟨fun _ => ⟨k, rfl, .inr rfl⟩, fun _ => rfl⟩
  · rw [has_put_other (by simpa using hx), h2 x]
    constructor
    · rintro ⟨j, rfl, hj⟩; exact ⟨j, rfl, .inl hj⟩
    · rintro ⟨j, rfl, hj | rfl⟩
      · exact ⟨j, rfl, hj⟩
      · exact absurd rfl hx
end PartIpA
section PartIpB
open Go.RowKit Go.Maps

theorem ranges_keep {H : Type} {w w' : World} {k : TypeId} {R : Value → Option (DataW H × List MemPlace)} {b r n : Nat} {D : DataW H} {left : Lit → Bool} {cnt : Nat} (h : w.ranges Try.prog k R b r n D left cnt) (hb : w'.heap[b]? = w.heap[b]?) (hr : w'.heap[r]? = w.heap[r]?) : w'.ranges Try.prog k R b r n D left cnt := by
  obtain ⟨es, clock, since, seen, c0, h1, F, hs, hD, h2, rest⟩ := h
  exact ⟨es, clock, since, seen, c0, hb.trans h1, F, hs, hD, hr.trans h2, rest⟩

set_option maxHeartbeats 4000000 in
set_option maxRecDepth 100000 in
theorem add_any (be bo N : Nat) (S T : Nat → Prop) (w : World) (hS : ES w be S) (hT : ES w bo T) (hne : be ≠ bo) (hSN : ∀ k, S k → k < N) (hTN : ∀ k, T k → k < N) (hN : N ≤ 2000000) :
    Calls Try.prog 67 #[.map (some be), .map (some bo)] w fun e w' => e = .returned (.tuple #[]) ∧ ES w' be (fun k => S k ∨ T k) ∧ w.grownBy w' (some be) := by
  obtain ⟨D, hD1, hD2⟩ := hT
  have HS : Hid (ES w be S) := hS
  have hbl : be < w.heap.size := hS.lt
  clear hS
  go_enter Try.func67, Try.ntmps67
  go_wp2_with (first | (at_range; refine wpList_range_own _ rfl _ 57 rfl 3 64 keyI under_eset _ bo _ D rfl hD1 ?_; intro w0 hrg0 hg0 hs0) | fail)
  go_frame
  have HR0 : Hid (w0.ranges Try.prog 3 unitElem bo w.heap.size (Maps.size D) D (Maps.has D) (Maps.size D)) := hrg0
  have HD2 : Hid (∀ x : Int, Maps.has D (.int .i64 x) = true ↔ ∃ k : Nat, x = (k : Int) ∧ T k) := hD2
  have HE0 : Hid (ES w0 be (fun k => S k ∨ (T k ∧ Maps.has D (.int .i64 (k : Int)) = false))) := by
    refine ES.iff (HS.out.keep (hg0.block be hbl (by simp))) (fun k => ⟨.inl, ?_⟩)
    rintro (h | ⟨h1, h2⟩)
    · exact h
    · rw [(hD2 (k : Int)).2 ⟨k, rfl, h1⟩] at h2; cases h2
  have HG0 : Hid (w.grownBy w0 (some be)) := hg0.but _
  have HN : Hid ((∀ k, S k → k < N) ∧ (∀ k, T k → k < N)) := ⟨hSN, hTN⟩
  have HBO : Hid (bo < w.heap.size) := hD1.lt
  clear hrg0 hg0 hs0 hD1 hD2 hSN hTN HS
  go_loopw [4] (fun _ wr => ∃ (left : Lit → Bool) (cnt : Nat), Hid (wr.ranges Try.prog 3 unitElem bo w.heap.size (Maps.size D) D left cnt) ∧ Hid (ES wr be (fun k => S k ∨ (T k ∧ left (.int .i64 (k : Int)) = false))) ∧ Hid (w.grownBy wr (some be)))
    (fun _ wr => wr.rangeLeft bo w.heap.size)
  case atStart => exact ⟨_, _, HR0.out, HE0.out, HG0.out⟩
  case round =>
    obtain ⟨left, cnt, HR, HE, HG⟩ := hrel
    clear HR0 HE0 HG0
    go_wp2_with (first
      | (at_next; refine wpList_next_ranges _ rfl _ rfl 3 keyI unitElem encZ (fun _ : Unit => Value.agg #[]) (fun key kl hk => by obtain ⟨x, hx, _⟩ := Maps.keyOf_i64 Try.underlying3 hk; exact ⟨x, hx⟩) (fun v y hv => ⟨(), (unitElem_inv hv).1⟩) bo w.heap.size _ _ _ _ rfl HR.out ?_ ?_)
      | fail)
    · intro hc0 hl0
      have HF : Hid (ES wr be (fun k => S k ∨ T k)) := HE.out.iff (fun k => by rw [hl0]; simp)
      clear hl0 hc0
      go_wp2_with fail
      go_end0
      exact ⟨rfl, HF.out, HG.out⟩
    · intro x kl yd yp w2 cnt2 hkey hlk hv hat hrg2 hlt hg2 hs2 hen
      obtain ⟨x', ex, rfl, _⟩ := Maps.keyOf_i64 Try.underlying3 hkey
      obtain rfl : x = x' := encZ_inj ex
      obtain ⟨k, rfl, hk⟩ := (HD2.out x).1 (has_true_of_atKey hat)
      have hkN : k < N := HN.out.2 k hk
      have hE2 : ES w2 be (fun k => S k ∨ (T k ∧ left (.int .i64 (k : Int)) = false)) := HE.out.keep (hg2.block be HE.out.lt (fun e => by have := Option.some.inj e; omega))
      obtain ⟨De, hDe1, hDe2⟩ := hE2
      have hsz : Maps.size De ≤ N := ES.size hDe1 hDe2 N (fun j hj => by
        rcases hj with hj | hj
        · exact HN.out.1 j hj
        · exact HN.out.2 j hj.1)
      have HDE2 : Hid (∀ x : Int, Maps.has De (.int .i64 x) = true ↔ ∃ k : Nat, x = (k : Int) ∧ (S k ∨ (T k ∧ left (.int .i64 (k : Int)) = false))) := hDe2
      have HR2 : Hid (w2.ranges Try.prog 3 unitElem bo w.heap.size (Maps.size D) D (fun z => left z && !z.sameKey (.int .i64 (k : Int))) cnt2) := hrg2
      have HG2 : Hid (w.grownBy w2 (some be)) := HG.out.andThen hg2 (fun j hj => by cases hj; exact .inl (Nat.le_refl _))
      have HK : Hid (T k ∧ cnt2 < cnt) := ⟨hk, hlt⟩
      have HIM : Hid (IsMap De) := hDe1.isMap
      clear hg2 hs2 hat hlk hv hkey hDe2 hrg2 hlt hk ex
      go_wp2_with (first
        | (at_mapUpdate; refine wpList_mapUpdate_own _ rfl _ _ _ 57 rfl 3 64 keyI under_eset _ be _ _ rfl hDe1 (by unfold maxLen; omega) _ _ _ rfl rfl (keyOf_int_mk Try.underlying3 (small_wf (by omega))) _ [] unitElem_mk ?_; intro w3 hown3 hg3)
        | fail)
      have hr3 := HR2.out.kept hg3 (fun e => hne (Option.some.inj e).symm) (fun e => by have := Option.some.inj e; omega)
      go_frame
      go_roundw
      case rel =>
        refine ⟨_, _, hr3, ?_, HG2.out.andThen hg3 (fun j hj => .inr hj)⟩
        refine ES.iff (ES.put hown3 HIM.out HDE2.out) (fun j => ?_)
        by_cases hjk : j = k
        · subst hjk
          simp [Lit.sameKey, HK.out.1]
        · have e : (Lit.int .i64 (j : Int)).sameKey (.int .i64 (k : Int)) = false := sameKey_ne (fun e => hjk (by simp at e; omega))
          simp [e, hjk]
      case measure =>
        rw [hr3.left_eq, HR.out.left_eq]
        exact HK.out.2

set_option maxHeartbeats 4000000 in
set_option maxRecDepth 100000 in
theorem add_nil (be : Nat) (w : World) :
    Calls Try.prog 67 #[.map (some be), .map none] w fun e w' => e = .returned (.tuple #[]) ∧ Below w.heap.size w w' := by
  have hrg := run_range_nilMap (P := Try.prog) w 57 3 64 under_eset
  have hnx : ∀ ty, (Instr.next (.pointer (some ⟨w.heap.size, 0, none⟩)) false ty).run Try.prog (w.alloc (.mapIter none 0 #[] 0)) = _ := fun ty => run_next_nilMap _ ty 0 0 #[]
  go_enter Try.func67, Try.ntmps67
  go_wp2_with fail
  refine wp_loop_rounds 1 ?_
  rw [rounds_succ]
  go_wp2_with fail
  go_end0
  exact ⟨rfl, (Below.refl _ _).alloc (Nat.le_refl _) _⟩
end PartIpB
end Go.Proofs.Ytlnmbahakdmkgaa
