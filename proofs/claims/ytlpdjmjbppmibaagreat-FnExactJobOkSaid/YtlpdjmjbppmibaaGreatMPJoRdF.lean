/- The specification's reader of a pattern: a set, and small laws on what a part leaves. -/
import Derived.Test.YtlpdjmjbppmibaaGreatMPJoZad
namespace Go.Proofs.YtlpdjmjbppmibaaGreat
open Go.RowKit

theorem conv1 (W : World) (c : UInt8) : (convert 139 9 (.slice (some ⟨W.heap.size, 0, none⟩) 1 1)).run Tryz.prog (W.alloc (.cells #[.int .u8 (c.toNat : Int)] 5)) = .ok (.string ⟨[c].toArray⟩) (W.alloc (.cells #[.int .u8 (c.toNat : Int)] 5)) := by
  have h : Row W.heap.size (W.alloc (.cells #[.int .u8 (c.toNat : Int)] 5)) (.slice (some ⟨W.heap.size, 0, none⟩) 1 1) [c] :=
    World.ownsRow_lit (base := W.heap.size) (e := 5) (size := 1) W #[.int .u8 (c.toNat : Int)] 1 (Nat.le_refl _) (by decide) rfl
  exact h.str

theorem ext_take (s : ByteArray) (b e : Nat) : s.extract b e = ⟨((s.data.toList.drop b).take (e - b)).toArray⟩ := by
  apply ByteArray.ext
  apply Array.ext'
  rw [ByteArray.data_extract, Array.toList_extract]

theorem RP.setg {B g : Nat} {w : World} {v : Value} {ps : List Pp.Pc} (h : RP B w v ps) (hg : g < B) (o : Nat) (u : Value) : RP B (w.setCell ⟨g, o, none⟩ u) v ps :=
  h.keep fun q hq _ => Below.heap_setCell _ _ _ _ (by show q ≠ g; omega)
theorem RP.draw {B : Nat} {w : World} {v : Value} {ps : List Pp.Pc} (h : RP B w v ps) (k : Nat) : RP B (w.drewN k) v ps := h.keep fun _ _ _ => rfl
theorem FB.setg {g B : Nat} {w w' : World} (h : FB g B w w') (o : Nat) (u : Value) : FB g B w (w'.setCell ⟨g, o, none⟩ u) :=
  ⟨by simpa [World.setCell] using h.1, fun k hk hkg => by rw [Below.heap_setCell _ _ _ _ (by show k ≠ g; exact hkg)]; exact h.2.1 k hk hkg, h.2.2⟩
theorem FB.draw {g B : Nat} {w w' : World} (h : FB g B w w') (k : Nat) : FB g B w (w'.drewN k) := h

theorem RdPost.ret {B g N : Nat} {s : ByteArray} {w w' : World} {R : Option (Nat × List Pp.Pc × Nat)} {e : Ending} (h : RdPost B g s w N R e w') : ∃ k : Int, e = .returned (.int .i64 k) := by
  obtain ⟨_, h⟩ := h
  cases R with
  | none => obtain ⟨k, _, _, _, _, e, _⟩ := h; exact ⟨k, e⟩
  | some r => exact ⟨_, h.1⟩
theorem RdPost.next {B g N N' : Nat} {s : ByteArray} {w w1 w' : World} {R R' : Option (Nat × List Pp.Pc × Nat)} {e : Ending} (h : RdPost B g s w1 N R e w') (hf : FB g B w w1) (hN : N ≤ N') (hR : R' = R) : RdPost B g s w N' R' e w' := by
  subst hR
  refine ⟨hf.trans h.1, ?_⟩
  have h2 := h.2
  cases R' with
  | none => obtain ⟨k, a, v, n, cs, h1, h2, h3, h4, h5⟩ := h2; exact ⟨k, a, v, n, cs, h1, h2, h3, h4, by omega⟩
  | some r => exact h2
/-- It went wrong. -/
theorem RdPost.bad {B g N a n : Nat} {s : ByteArray} {w w' : World} {v : Value} {cs : List Value} {R : Option (Nat × List Pp.Pc × Nat)} (hf : FB g B w w') (hR : Rd w' g s a true v) (hp : PR B w' v n cs) (hn : n ≤ N) (ha : a ≤ s.size) (hn0 : R = none) (k : Int) : RdPost B g s w N R (.returned (.int .i64 k)) w' := by
  subst hn0
  exact ⟨hf, k, a, v, n, cs, rfl, ha, hR, hp, hn⟩

/-- One piece without kids more. -/
theorem rdPut0 (B g a op : Nat) (s x : ByteArray) (t : List UInt8) (v : Value) (ps : List Pp.Pc) (w : World) (h : Rd w g s a false v) (hr : RP B w v ps) (hg : g < B) (hB : B ≤ w.heap.size) (ha : a ≤ s.size) (hn : ps.length ≤ 60) (hx : x = ⟨t.toArray⟩) :
    Calls Tryz.prog 118 #[.pointer (some ⟨g, 0, none⟩), .agg #[.int .i64 (op : Int), .string x, .slice none 0 0]] w (RdPost B g s w 61 ((Pp.put ps ⟨op, t, []⟩).map fun (o, k) => (a, o, k))) := by
  subst hx
  exact rdPutP B g a 0 s v ps ⟨op, t, []⟩ w w h hr (Below.refl _ _) hg hB ha hn (fun h => absurd rfl h)

set_option maxHeartbeats 1000000 in
theorem rdSetP (B g a : Nat) (s : ByteArray) (v : Value) (ps : List Pp.Pc) (w : World) (h : Rd w g s a false v) (hr : RP B w v ps) (hg : g < B) (hB : B ≤ w.heap.size) (ha : a < s.size) (hs : s.size ≤ 24) (hn : ps.length ≤ 60) :
    Calls Tryz.prog 133 #[.pointer (some ⟨g, 0, none⟩)] w (RdPost B g s w 61 (Pp.set s.data.toList (a + 1) ps)) := by
  obtain ⟨cs, hp⟩ := hr.pr
  have hlen : s.data.toList.length = s.size := by simp
  have key : ∀ (b op : Nat) (e : Ending) (w' : World), SetPost B g b ps.length op s v cs w e w' → RdPost B g s w 61 (if Pp.close (s.data.toList.drop b) b = s.data.toList.length ∨ Pp.close (s.data.toList.drop b) b = b then none
      else (Pp.put ps ⟨op, (s.data.toList.drop b).take (Pp.close (s.data.toList.drop b) b - b), []⟩).map fun (o, k) => (Pp.close (s.data.toList.drop b) b + 1, o, k)) e w' := by
    intro b op e w' hset
    rcases hset with ⟨hbad, rfl, ⟨a', ha', hR⟩, hP, hF⟩ | ⟨h1, h2, rfl, v', hR, hP, hF, hQ⟩
    · rw [if_pos (by rw [hlen]; exact hbad)]
      exact RdPost.bad (FB.fr hF hp hB) hR hP (by omega) ha' rfl 0
    · rw [if_neg (by rw [hlen]; omega)]
      refine ⟨FB.fr hF hp hB, ?_⟩
      by_cases h60 : 60 < ps.length + 1
      · simp only [Pp.put, if_pos h60, Option.map_none]
        simp only [h60, decide_true] at hR
        exact ⟨_, _, v', _, _, rfl, by omega, hR, hP, by omega⟩
      · simp only [Pp.put, if_neg h60, Option.map_some]
        simp only [h60, decide_false] at hR
        refine ⟨trivial, by omega, by simp; omega, v', hR, ?_⟩
        refine RP.put (p := ⟨op, _, []⟩) (q := 0) hr (Below.refl _ _) (fun h => absurd rfl h) hg hB hp hP ?_ (fun cs0 h0 => h0.unique hp fun _ _ => rfl) hF.2.1 hQ
        rw [ext_take]
        rfl
  refine (rdSet_any B g a ps.length s v cs w h hp hn hg hB ha hs).mono ?_
  intro e w' hpost
  unfold Pp.set
  by_cases hneg : s.data.toList[a + 1]? = some 94
  · rw [if_pos hneg] at hpost
    have e2 : (s.data.toList[a + 1]? == some 94) = true := by rw [hneg]; rfl
    simp only [e2, ↓reduceIte]
    exact key (a + 2) 4 e w' hpost
  · rw [if_neg hneg] at hpost
    have e2 : (s.data.toList[a + 1]? == some 94) = false := by simpa using hneg
    simp only [e2, Bool.false_eq_true, ↓reduceIte]
    exact key (a + 1) 3 e w' hpost
end Go.Proofs.YtlpdjmjbppmibaaGreat
