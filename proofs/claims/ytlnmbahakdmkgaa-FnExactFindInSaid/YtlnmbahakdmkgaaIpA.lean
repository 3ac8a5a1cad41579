/- Where a piece may end, by the program: sets of places, which are maps. -/
import Derived.Test.YtlnmbahakdmkgaaSpS
import Derived.Maps.RangeWalk
import Derived.Lib.SlKeysI
namespace Go.Proofs.Ytlnmbahakdmkgaa
open Go.RowKit Go.Maps

theorem keyI : Keyed Try.prog 3 := int_keyed Try.underlying3
theorem under_eset : Try.prog.underlying 57 = some (.map 3 64) := Try.underlying57
theorem small_wf {n : Nat} (h : n ≤ 2000000) : (Lit.int .i64 (n : Int)).wf = true := WalkArith.wf_i64 (by omega)
theorem isKey_int (x : Int) : WideAt.IsKeyLit (.int .i64 x) := by simp [WideAt.IsKeyLit]

/-- Block b of w is a set of places: those of S. -/
def ES (w : World) (b : Nat) (S : Nat → Prop) : Prop := ∃ D : DataW Unit, w.ownsMap Try.prog 3 unitElem b (Maps.size D) D ∧ ∀ x : Int, Maps.has D (.int .i64 x) = true ↔ ∃ k : Nat, x = (k : Int) ∧ S k
theorem ES.lt {w : World} {b : Nat} {S : Nat → Prop} (h : ES w b S) : b < w.heap.size := by
  obtain ⟨D, h1, _⟩ := h
  exact h1.lt
theorem own_keepM {H : Type} {w w' : World} {k : TypeId} {R : Value → Option (DataW H × List MemPlace)} {b n : Nat} {D : DataW H} (h : w.ownsMap Try.prog k R b n D) (hb : w'.heap[b]? = w.heap[b]?) : w'.ownsMap Try.prog k R b n D := by
  obtain ⟨es, clock, h1, h2⟩ := h
  exact ⟨es, clock, hb.trans h1, h2⟩
theorem own_tight {H : Type} {w : World} {k : TypeId} {R : Value → Option (DataW H × List MemPlace)} {b n : Nat} {D : DataW H} (h : w.ownsMap Try.prog k R b n D) : w.ownsMap Try.prog k R b (Maps.size D) D := by
  obtain ⟨es, clock, h1, h2, h3, h4⟩ := h
  refine ⟨es, clock, h1, h2, ?_, h4⟩
  rw [h4]
  simp [Maps.size, length_sorted]
theorem ES.keep {w w' : World} {b : Nat} {S : Nat → Prop} (h : ES w b S) (hb : w'.heap[b]? = w.heap[b]?) : ES w' b S := by
  obtain ⟨D, h1, h2⟩ := h
  exact ⟨D, own_keepM h1 hb, h2⟩
theorem ES.iff {w : World} {b : Nat} {S T : Nat → Prop} (h : ES w b S) (e : ∀ k, S k ↔ T k) : ES w b T := by
  obtain ⟨D, h1, h2⟩ := h
  exact ⟨D, h1, fun x => (h2 x).trans ⟨fun ⟨k, a, c⟩ => ⟨k, a, (e k).1 c⟩, fun ⟨k, a, c⟩ => ⟨k, a, (e k).2 c⟩⟩⟩
theorem ES.made (w : World) : ES (w.alloc (.map #[] 0)) w.heap.size (fun _ => False) := by
  refine ⟨.map [], World.ownsMap_made w Try.prog 3 unitElem, fun x => ?_⟩
  simp [Maps.has]
open Classical in
/-- The keys, in their order. -/
theorem ES.keys {w : World} {b : Nat} {S : Nat → Prop} {D : DataW Unit} (h1 : w.ownsMap Try.prog 3 unitElem b (Maps.size D) D) (h2 : ∀ x : Int, Maps.has D (.int .i64 x) = true ↔ ∃ k : Nat, x = (k : Int) ∧ S k) (N : Nat) (hN : ∀ k, S k → k < N) :
    (((List.range N).filter fun k => decide (S k)).map fun k : Nat => (k : Int)).Perm (intKeys D) := by
  obtain ⟨es, rfl, hpw, -⟩ := h1.entries keyI
  obtain ⟨es', hD', hko⟩ := h1.keysOf
  obtain rfl : es = es' := by simpa using hD'
  refine perm_intKeys hpw (fun p hp => by obtain ⟨v, hv⟩ := hko p hp; obtain ⟨x, _, hx, _⟩ := Maps.keyOf_i64 Try.underlying3 hv; exact ⟨x, hx⟩) ?_ (fun x => ?_)
  · refine List.pairwise_map.2 ?_
    refine List.Pairwise.imp (R := fun a b : Nat => a < b) (fun {a b} hab => by omega) ?_
    exact List.Pairwise.filter _ List.pairwise_lt_range
  · rw [h2 x, List.mem_map]
    constructor
    · rintro ⟨k, hk, rfl⟩
      rw [List.mem_filter] at hk
      exact ⟨k, rfl, by simpa using hk.2⟩
    · rintro ⟨k, rfl, hk⟩
      exact ⟨k, by rw [List.mem_filter, List.mem_range]; exact ⟨hN k hk, by simpa using hk⟩, rfl⟩
theorem keys_len {D : DataW Unit} (h : IsMap D) : (intKeys D).length = Maps.size D := by
  obtain ⟨es, rfl⟩ := h
  simp [intKeys, Maps.size]
/-- No more places than there are. -/
theorem ES.size {w : World} {b : Nat} {S : Nat → Prop} {D : DataW Unit} (h1 : w.ownsMap Try.prog 3 unitElem b (Maps.size D) D) (h2 : ∀ x : Int, Maps.has D (.int .i64 x) = true ↔ ∃ k : Nat, x = (k : Int) ∧ S k) (N : Nat) (hN : ∀ k, S k → k < N) : Maps.size D ≤ N := by
  have h := (ES.keys h1 h2 N hN).length_eq
  rw [keys_len h1.isMap, List.length_map] at h
  rw [← h]
  refine Nat.le_trans (List.length_filter_le _ _) (by simp)
/-- One place more. -/
theorem ES.put {w : World} {b n k : Nat} {S : Nat → Prop} {D : DataW Unit} (h1 : w.ownsMap Try.prog 3 unitElem b n (D.put (.int .i64 (k : Int)) (.agg []))) (hm : IsMap D) (h2 : ∀ x : Int, Maps.has D (.int .i64 x) = true ↔ ∃ j : Nat, x = (j : Int) ∧ S j) : ES w b (fun j => S j ∨ j = k) := by
  refine ⟨_, own_tight h1, fun x => ?_⟩
  by_cases hx : x = (k : Int)
  · subst hx
    rw [has_put_same hm (isKey_int _)]
    exact ⟨fun _ => ⟨k, rfl, .inr rfl⟩, fun _ => rfl⟩
  · rw [has_put_other (by simpa using hx), h2 x]
    constructor
    · rintro ⟨j, rfl, hj⟩; exact ⟨j, rfl, .inl hj⟩
    · rintro ⟨j, rfl, hj | rfl⟩
      · exact ⟨j, rfl, hj⟩
      · exact absurd rfl hx
#print axioms ES.put
#print axioms ES.size
end Go.Proofs.Ytlnmbahakdmkgaa
