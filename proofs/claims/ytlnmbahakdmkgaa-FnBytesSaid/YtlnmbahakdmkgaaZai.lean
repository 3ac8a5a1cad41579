/- Small laws for the walks: a byte appended to a row of bytes that the call itself made, and the string of such a row. The specification's reader of a pattern: a set, and small laws on what a part leaves. -/
import Derived.Test.YtlnmbahakdmkgaaProg
import Derived.Test.YtlnmbahakdmkgaaZah
import Derived.WalkKit
import Derived.WalkSpells
import Derived.WalkLawsBesides
import Derived.Handy
import Derived.Laws.BytesArg
namespace Go.Proofs.Ytlnmbahakdmkgaa
section PartKit
open Go.RowKit

/-- A byte as a value. -/
def bv (b : UInt8) : Value := .int .u8 (b.toNat : Int)

theorem Try.infoU : (Try.prog.info? 5).map (fun i => (i.zero, i.size, i.bytes)) = some (some (.int .u8 0), 1, 1) := by kernel_rfl

/-- The row of bytes bs, in the call's own memory from block B on. -/
def Row (B : Nat) (w : World) (v : Value) (bs : List UInt8) : Prop := w.ownsRow B 5 1 v bs.length (bs.map bv)

theorem Row.nil (B : Nat) (w : World) : Row B w (.slice none 0 0) [] := World.ownsRow_nil _ _ _ _
theorem Row.made {B : Nat} (w : World) (cur : Array Value) (cap : Nat) (hb : B ≤ w.heap.size) (hm : cap ≤ maxLen) (hs : cur.size = cap) :
    Row B (w.alloc (.cells cur 5)) (.slice (some ⟨w.heap.size, 0, none⟩) 0 cap) [] := World.ownsRow_made w cur cap hb hm (by omega)
theorem Row.alloc {B : Nat} {w : World} {v : Value} {bs : List UInt8} (h : Row B w v bs) (o : Obj) : Row B (w.alloc o) v bs := World.ownsRow.alloc h o

set_option maxRecDepth 100000 in
/-- The string of such a row. -/
theorem Row.str {B : Nat} {w : World} {v : Value} {bs : List UInt8} (h : Row B w v bs) :
    (convert 34 9 v).run Try.prog w = .ok (.string ⟨bs.toArray⟩) w := by
  rcases h.2 with ⟨rfl, hn⟩ | ⟨g, cap, cur, rfl, _, hg, _, _, _, htake⟩
  · obtain rfl : bs = [] := by simpa using hn
    exact run_convert_bytes_nil w 34 5 Try.underlying34 Try.underlying5 0 0 9 Try.underlying9
  · have hc : ∀ j, j < bs.length → w.cell? ⟨g, 0 + j, none⟩ = some (.int .u8 ((bs.map fun b => (b.toNat : Int)).getD j 0)) := by
      intro j hj
      rw [Nat.zero_add, cell_of_row w g j cur 5 (0, 0) hg]
      have e : cur.toList[j]? = (bs.map bv)[j]? := by
        rw [← htake, List.getElem?_take, if_pos (by omega)]
      have e2 : (bs.map bv)[j]? = some (.int .u8 ((bs.map fun b => (b.toNat : Int)).getD j 0)) := by
        simp [hj, bv]
      rw [← e2, ← e]; simp
    have := run_convert_bytes_arg (P := Try.prog) w 34 5 Try.underlying34 Try.underlying5 g 0 bs.length cap (bs.map fun b => (b.toNat : Int)) (by simp) hc 9 Try.underlying9
    rw [this]
    have e3 : strOfNums (bs.map fun b => (b.toNat : Int)) = ⟨bs.toArray⟩ := by
      unfold strOfNums
      congr 2
      rw [List.map_map]
      conv => rhs; rw [← List.map_id bs]
      apply List.map_congr_left
      intro b _
      simp
    rw [e3]

set_option maxRecDepth 100000 in
/-- One byte more. -/
theorem Row.push {ops : Array Oper} {rest : List Oper} {o : Oper} {a : Act} {Q : Exit → Act → World → Prop} {B : Nat} {w : World} {v : Value} {bs : List UInt8}
    (hown : Row B w v bs) (hgd : o.guard = none) (s x : Operand)
    (ho : o.op = .call { callee := .builtin .append, args := #[s, x], argTypes := #[34, 34] })
    (hs : a.eval s = v) (z : Int) (c : UInt8) (hz : z = (c.toNat : Int)) (hx : a.eval x = .slice (some ⟨w.heap.size, 0, none⟩) 1 1)
    (hlen : bs.length < 140737488355328) (hB : B ≤ w.heap.size)
    (h : ∀ v' w', Row B w' v' (bs ++ [c]) → Below B w w' → wpList Try.prog ops Q rest (a.put o.dst v') w') :
    wpList Try.prog ops Q (o :: rest) a (w.alloc (.cells #[.int .u8 z] 5)) := by
  subst hz
  obtain ⟨i0, hi, hz0, hz1, hz2⟩ := info_parts Try.infoU
  refine wpList_append_own _ hgd s x 34 ho B 5 i0 (.int .u8 0) 1 1 Try.underlying34 hi hz0 hz1 hz2 rfl (by decide) v bs.length (bs.map bv) hs (hown.alloc _) ⟨w.heap.size, 0, none⟩ 1 1 [bv c] hx rfl (cell_one_new _ _ _) ?_ ?_ ?_ ?_ ?_
  · intro u hu; simp at hu; subst hu; rfl
  · unfold maxLen; omega
  · omega
  · simp; omega
  · intro v' w' h2 h3 _
    refine h v' w' ?_ ?_
    · unfold Row; simpa using h2
    · exact ((Below.refl B w).alloc hB _).grown h3 (by simp; omega) (fun k hk => (hown.lt k hk).1)

end PartKit
section PartRdF
open Go.RowKit

theorem conv1 (W : World) (c : UInt8) : (convert 34 9 (.slice (some ⟨W.heap.size, 0, none⟩) 1 1)).run Try.prog (W.alloc (.cells #[.int .u8 (c.toNat : Int)] 5)) = .ok (.string ⟨[c].toArray⟩) (W.alloc (.cells #[.int .u8 (c.toNat : Int)] 5)) := by
  have h : Row W.heap.size (W.alloc (.cells #[.int .u8 (c.toNat : Int)] 5)) (.slice (some ⟨W.heap.size, 0, none⟩) 1 1) [c] :=
    World.ownsRow_lit (base := W.heap.size) (e := 5) (size := 1) W #[.int .u8 (c.toNat : Int)] 1 (Nat.le_refl _) (by decide) rfl
  exact h.str

theorem ext_take (s : ByteArray) (b e : Nat) : s.extract b e = ⟨((s.data.toList.drop b).take (e - b)).toArray⟩ := by
  apply ByteArray.ext
  apply Array.ext'
  rw [ByteArray.data_extract, Array.toList_extract]

theorem RP.setg {B g : Nat} {w : World} {v : Value} {ps : List Pp.Pc} (h : RP B w v ps) (hg : g < B) (o : Nat) (u : Value) : RP B (w.setCell ⟨g, o, none⟩ u) v ps :=
  h.keep fun q hq _ => Below.heap_setCell _ _ _ _ (by show q ≠ g; omega)
theorem RP.draw {B : Nat} {w : World} {v : Value} {ps : List Pp.Pc} (h : RP B w v ps) (k : Nat) : RP B (w.drewN k) v ps := h.keep fun _ _ _ => rfl
theorem FB.setg {g B : Nat} {w w' : World} (h : FB g B w w') (o : Nat) (u : Value) : FB g B w (w'.setCell ⟨g, o, none⟩ u) :=
  ⟨by simpa [World.setCell] using h.1, fun k hk hkg => by rw [Below.heap_setCell _ _ _ _ (by show k ≠ g; exact hkg)]; exact h.2.1 k hk hkg, h.2.2⟩
theorem FB.draw {g B : Nat} {w w' : World} (h : FB g B w w') (k : Nat) : FB g B w (w'.drewN k) := h

theorem RdPost.ret {B g N : Nat} {s : ByteArray} {w w' : World} {R : Option (Nat × List Pp.Pc × Nat)} {e : Ending} (h : RdPost B g s w N R e w') : ∃ k : Int, e = .returned (.int .i64 k) := by
  obtain ⟨_, h⟩ := h
  cases R with
  | none => obtain ⟨k, _, _, _, _, e, _⟩ := h; exact ⟨k, e⟩
  | some r => exact ⟨_, h.1⟩
theorem RdPost.next {B g N N' : Nat} {s : ByteArray} {w w1 w' : World} {R R' : Option (Nat × List Pp.Pc × Nat)} {e : Ending} (h : RdPost B g s w1 N R e w') (hf : FB g B w w1) (hN : N ≤ N') (hR : R' = R) : RdPost B g s w N' R' e w' := by
  subst hR
  refine ⟨hf.trans h.1, ?_⟩
  have h2 := h.2
  cases R' with
  | none => obtain ⟨k, a, v, n, cs, h1, h2, h3, h4, h5⟩ := h2; exact ⟨k, a, v, n, cs, h1, h2, h3, h4, by omega⟩
  | some r => exact h2
/-- It went wrong. -/
theorem RdPost.bad {B g N a n : Nat} {s : ByteArray} {w w' : World} {v : Value} {cs : List Value} {R : Option (Nat × List Pp.Pc × Nat)} (hf : FB g B w w') (hR : Rd w' g s a true v) (hp : PR B w' v n cs) (hn : n ≤ N) (ha : a ≤ s.size) (hn0 : R = none) (k : Int) : RdPost B g s w N R (.returned (.int .i64 k)) w' := by
  subst hn0
  exact ⟨hf, k, a, v, n, cs, rfl, ha, hR, hp, hn⟩

/-- One piece without kids more. -/
theorem rdPut0 (B g a op : Nat) (s x : ByteArray) (t : List UInt8) (v : Value) (ps : List Pp.Pc) (w : World) (h : Rd w g s a false v) (hr : RP B w v ps) (hg : g < B) (hB : B ≤ w.heap.size) (ha : a ≤ s.size) (hn : ps.length ≤ 60) (hx : x = ⟨t.toArray⟩) :
    Calls Try.prog 76 #[.pointer (some ⟨g, 0, none⟩), .agg #[.int .i64 (op : Int), .string x, .slice none 0 0]] w (RdPost B g s w 61 ((Pp.put ps ⟨op, t, []⟩).map fun (o, k) => (a, o, k))) := by
  subst hx
  exact rdPutP B g a 0 s v ps ⟨op, t, []⟩ w w h hr (Below.refl _ _) hg hB ha hn (fun h => absurd rfl h)

set_option maxHeartbeats 1000000 in
theorem rdSetP (B g a : Nat) (s : ByteArray) (v : Value) (ps : List Pp.Pc) (w : World) (h : Rd w g s a false v) (hr : RP B w v ps) (hg : g < B) (hB : B ≤ w.heap.size) (ha : a < s.size) (hs : s.size ≤ 24) (hn : ps.length ≤ 60) :
    Calls Try.prog 101 #[.pointer (some ⟨g, 0, none⟩)] w (RdPost B g s w 61 (Pp.set s.data.toList (a + 1) ps)) := by
  obtain ⟨cs, hp⟩ := hr.pr
  have hlen : s.data.toList.length = s.size := by simp
  have key : ∀ (b op : Nat) (e : Ending) (w' : World), SetPost B g b ps.length op s v cs w e w' → RdPost B g s w 61 (if Pp.close (s.data.toList.drop b) b = s.data.toList.length ∨ Pp.close (s.data.toList.drop b) b = b then none
      else (Pp.put ps ⟨op, (s.data.toList.drop b).take (Pp.close (s.data.toList.drop b) b - b), []⟩).map fun (o, k) => (Pp.close (s.data.toList.drop b) b + 1, o, k)) e w' := by
    intro b op e w' hset
    rcases hset with ⟨hbad, rfl, ⟨a', ha', hR⟩, hP, hF⟩ | ⟨h1, h2, rfl, v', hR, hP, hF, hQ⟩
    · rw [if_pos (by rw [hlen]; exact hbad)]
      exact RdPost.bad (FB.fr hF hp hB) hR hP (by omega) ha' rfl 0
    · rw [if_neg (by rw [hlen]; omega)]
      refine ⟨FB.fr hF hp hB, ?_⟩
      by_cases h60 : 60 < ps.length + 1
      · simp only [Pp.put, if_pos h60, Option.map_none]
        simp only [h60, decide_true] at hR
        exact ⟨_, _, v', _, _, rfl, by omega, hR, hP, by omega⟩
      · simp only [Pp.put, if_neg h60, Option.map_some]
        simp only [h60, decide_false] at hR
        refine ⟨trivial, by omega, by simp; omega, v', hR, ?_⟩
        refine RP.put (p := ⟨op, _, []⟩) (q := 0) hr (Below.refl _ _) (fun h => absurd rfl h) hg hB hp hP ?_ (fun cs0 h0 => h0.unique hp fun _ _ => rfl) hF.2.1 hQ
        rw [ext_take]
        rfl
  refine (rdSet_any B g a ps.length s v cs w h hp hn hg hB ha hs).mono ?_
  intro e w' hpost
  unfold Pp.set
  by_cases hneg : s.data.toList[a + 1]? = some 94
  · rw [if_pos hneg] at hpost
    have e2 : (s.data.toList[a + 1]? == some 94) = true := by rw [hneg]; rfl
    simp only [e2, ↓reduceIte]
    exact key (a + 2) 4 e w' hpost
  · rw [if_neg hneg] at hpost
    have e2 : (s.data.toList[a + 1]? == some 94) = false := by simpa using hneg
    simp only [e2, Bool.false_eq_true, ↓reduceIte]
    exact key (a + 1) 3 e w' hpost
end PartRdF
end Go.Proofs.Ytlnmbahakdmkgaa
