/- Plain facts, without the program: the bytes that a number is written as (least seven bits first), and that a text of such bytes is the shortest one just when its last byte is no needless nought. Small laws for the walks: a byte appended to a row of bytes that the call itself made, and the string of such a row. The specification's reader of a pattern: a set, and small laws on what a part leaves. -/
import Derived.Test.YtknojhmnadmilaaGreatDoorProg
import Derived.WalkKit
import Derived.WalkSpells
import Derived.WalkLawsBesides
import Derived.Handy
import Derived.Laws.BytesArg
import Derived.Test.YtknojhmnadmilaaGreatDoorZah
namespace Go.Proofs.YtknojhmnadmilaaGreatDoor
section PartPlainA
namespace Pl

/-- The byte of n's least seven bits, marked as one that goes on. -/
def hb (n : Nat) : UInt8 := UInt8.ofNat (n % 128 + 128)

/-- The bytes of n, with room for f + 1 of them. -/
def vb : Nat → Nat → List UInt8
  | 0, n => [UInt8.ofNat n]
  | f + 1, n => if 127 < n then hb n :: vb f (n / 128) else [UInt8.ofNat n]

theorem vb_more (f n : Nat) (h : 127 < n) : vb (f + 1) n = hb n :: vb f (n / 128) := by
  rw [vb, if_pos h]
theorem vb_last (f n : Nat) (h : ¬ 127 < n) : vb f n = [UInt8.ofNat n] := by
  cases f with
  | zero => rfl
  | succ f => rw [vb, if_neg h]

theorem vb_len (f n : Nat) : (vb f n).length ≤ f + 1 := by
  induction f generalizing n with
  | zero => simp [vb]
  | succ f ih =>
    by_cases h : 127 < n
    · rw [vb_more f n h]; have := ih (n / 128); simp; omega
    · rw [vb_last _ n h]; simp

/-- The number of a text of bytes, seven bits of each, the least first. -/
def val : List UInt8 → Nat
  | [] => 0
  | b :: l => b.toNat % 128 + 128 * val l

theorem val_snoc (l : List UInt8) (b : UInt8) : val (l ++ [b]) = val l + 128 ^ l.length * (b.toNat % 128) := by
  induction l with
  | nil => simp [val]
  | cons a l ih =>
    simp only [List.cons_append, val, ih, List.length_cons, Nat.pow_succ]
    have : 128 * (128 ^ l.length * (b.toNat % 128)) = 128 ^ l.length * 128 * (b.toNat % 128) := by
      rw [Nat.mul_comm (128 ^ l.length) 128, Nat.mul_assoc]
    omega

theorem val_lt (l : List UInt8) : val l < 128 ^ l.length := by
  induction l with
  | nil => simp [val]
  | cons a l ih => simp only [val, List.length_cons, Nat.pow_succ]; omega

/-- Every byte of l goes on (is 128 or more). -/
def Goes (l : List UInt8) : Prop := ∀ b ∈ l, 128 ≤ b.toNat

theorem val_zero_last (l : List UInt8) (c : UInt8) (hc : c.toNat < 128) (h : val (l ++ [c]) = 0) : c.toNat = 0 := by
  rw [val_snoc] at h
  have h2 : 128 ^ l.length * (c.toNat % 128) = 0 := by omega
  rcases Nat.mul_eq_zero.1 h2 with h3 | h3
  · exact absurd h3 (Nat.ne_of_gt (Nat.pow_pos (by omega)))
  · omega

theorem small (k : Nat) (h : k < 256) : (UInt8.ofNat k).toNat = k := by simp [UInt8.toNat_ofNat']; omega

theorem hb_nat (n : Nat) : (hb n).toNat = n % 128 + 128 := small _ (by omega)
theorem ofNat_toNat (b : UInt8) (n : Nat) (h : n = b.toNat) : UInt8.ofNat n = b := by subst h; simp

/-- A text of bytes that go on and a last one that does not is what its number is written as, just when the last one is no nought behind others. -/
theorem vb_val (f : Nat) (l : List UInt8) (c : UInt8) (hl : Goes l) (hc : c.toNat < 128) (hf : l.length ≤ f) :
    vb f (val (l ++ [c])) = l ++ [c] ↔ ¬ (c.toNat = 0 ∧ 0 < l.length) := by
  induction l generalizing f with
  | nil =>
    have e : val ([] ++ [c]) = c.toNat := by simp [val]; omega
    rw [e, vb_last f _ (by omega)]
    simp
  | cons a l ih =>
    have ha : 128 ≤ a.toNat := hl a (by simp)
    have ha2 : a.toNat < 256 := a.toNat_lt
    obtain ⟨g, rfl⟩ : ∃ g, f = g + 1 := ⟨f - 1, by simp at hf; omega⟩
    have hi := ih g (fun b hb => hl b (by simp [hb])) (by simp at hf; omega)
    have e : val (a :: l ++ [c]) = a.toNat % 128 + 128 * val (l ++ [c]) := by simp [val]
    rw [e]
    by_cases hz : val (l ++ [c]) = 0
    · have h0 := val_zero_last l c hc hz
      rw [vb_last _ _ (by omega)]
      simp [h0]
    · rw [vb_more _ _ (by omega)]
      have e1 : (a.toNat % 128 + 128 * val (l ++ [c])) / 128 = val (l ++ [c]) := by omega
      have e2 : (a.toNat % 128 + 128 * val (l ++ [c])) % 128 + 128 = a.toNat := by omega
      rw [e1, show hb (a.toNat % 128 + 128 * val (l ++ [c])) = a from ofNat_toNat a _ e2]
      simp only [List.cons_append, List.cons.injEq, true_and, hi, List.length_cons]
      constructor
      · rintro h ⟨h0, _⟩
        apply h
        refine ⟨h0, ?_⟩
        cases l with
        | nil => simp [val] at hz; omega
        | cons => simp
      · rintro h ⟨h0, _⟩
        exact h ⟨h0, by omega⟩

end Pl
end PartPlainA
section PartKit
open Go.RowKit

/-- A byte as a value. -/
def bv (b : UInt8) : Value := .int .u8 (b.toNat : Int)

theorem Tryz.infoU : (Tryz.prog.info? 5).map (fun i => (i.zero, i.size, i.bytes)) = some (some (.int .u8 0), 1, 1) := by kernel_rfl

/-- The row of bytes bs, in the call's own memory from block B on. -/
def Row (B : Nat) (w : World) (v : Value) (bs : List UInt8) : Prop := w.ownsRow B 5 1 v bs.length (bs.map bv)

theorem Row.nil (B : Nat) (w : World) : Row B w (.slice none 0 0) [] := World.ownsRow_nil _ _ _ _
theorem Row.made {B : Nat} (w : World) (cur : Array Value) (cap : Nat) (hb : B ≤ w.heap.size) (hm : cap ≤ maxLen) (hs : cur.size = cap) :
    Row B (w.alloc (.cells cur 5)) (.slice (some ⟨w.heap.size, 0, none⟩) 0 cap) [] := World.ownsRow_made w cur cap hb hm (by omega)
theorem Row.alloc {B : Nat} {w : World} {v : Value} {bs : List UInt8} (h : Row B w v bs) (o : Obj) : Row B (w.alloc o) v bs := World.ownsRow.alloc h o

set_option maxRecDepth 100000 in
/-- The string of such a row. -/
theorem Row.str {B : Nat} {w : World} {v : Value} {bs : List UInt8} (h : Row B w v bs) :
    (convert 48 9 v).run Tryz.prog w = .ok (.string ⟨bs.toArray⟩) w := by
  rcases h.2 with ⟨rfl, hn⟩ | ⟨g, cap, cur, rfl, _, hg, _, _, _, htake⟩
  · obtain rfl : bs = [] := by simpa using hn
    exact run_convert_bytes_nil w 48 5 Tryz.underlying48 Tryz.underlying5 0 0 9 Tryz.underlying9
  · have hc : ∀ j, j < bs.length → w.cell? ⟨g, 0 + j, none⟩ = some (.int .u8 ((bs.map fun b => (b.toNat : Int)).getD j 0)) := by
      intro j hj
      rw [Nat.zero_add, cell_of_row w g j cur 5 (0, 0) hg]
      have e : cur.toList[j]? = (bs.map bv)[j]? := by
        rw [← htake, List.getElem?_take, if_pos (by omega)]
      have e2 : (bs.map bv)[j]? = some (.int .u8 ((bs.map fun b => (b.toNat : Int)).getD j 0)) := by
        simp [hj, bv]
      rw [← e2, ← e]; simp
    have := run_convert_bytes_arg (P := Tryz.prog) w 48 5 Tryz.underlying48 Tryz.underlying5 g 0 bs.length cap (bs.map fun b => (b.toNat : Int)) (by simp) hc 9 Tryz.underlying9
    rw [this]
    have e3 : strOfNums (bs.map fun b => (b.toNat : Int)) = ⟨bs.toArray⟩ := by
      unfold strOfNums
      congr 2
      rw [List.map_map]
      conv => rhs; rw [← List.map_id bs]
      apply List.map_congr_left
      intro b _
      simp
    rw [e3]

set_option maxRecDepth 100000 in
/-- One byte more. -/
theorem Row.push {ops : Array Oper} {rest : List Oper} {o : Oper} {a : Act} {Q : Exit → Act → World → Prop} {B : Nat} {w : World} {v : Value} {bs : List UInt8}
    (hown : Row B w v bs) (hgd : o.guard = none) (s x : Operand)
    (ho : o.op = .call { callee := .builtin .append, args := #[s, x], argTypes := #[48, 48] })
    (hs : a.eval s = v) (z : Int) (c : UInt8) (hz : z = (c.toNat : Int)) (hx : a.eval x = .slice (some ⟨w.heap.size, 0, none⟩) 1 1)
    (hlen : bs.length < 140737488355328) (hB : B ≤ w.heap.size)
    (h : ∀ v' w', Row B w' v' (bs ++ [c]) → Below B w w' → wpList Tryz.prog ops Q rest (a.put o.dst v') w') :
    wpList Tryz.prog ops Q (o :: rest) a (w.alloc (.cells #[.int .u8 z] 5)) := by
  subst hz
  obtain ⟨i0, hi, hz0, hz1, hz2⟩ := info_parts Tryz.infoU
  refine wpList_append_own _ hgd s x 48 ho B 5 i0 (.int .u8 0) 1 1 Tryz.underlying48 hi hz0 hz1 hz2 rfl (by decide) v bs.length (bs.map bv) hs (hown.alloc _) ⟨w.heap.size, 0, none⟩ 1 1 [bv c] hx rfl (cell_one_new _ _ _) ?_ ?_ ?_ ?_ ?_
  · intro u hu; simp at hu; subst hu; rfl
  · unfold maxLen; omega
  · omega
  · simp; omega
  · intro v' w' h2 h3 _
    refine h v' w' ?_ ?_
    · unfold Row; simpa using h2
    · exact ((Below.refl B w).alloc hB _).grown h3 (by simp; omega) (fun k hk => (hown.lt k hk).1)

end PartKit
section PartRdF
open Go.RowKit

theorem conv1 (W : World) (c : UInt8) : (convert 48 9 (.slice (some ⟨W.heap.size, 0, none⟩) 1 1)).run Tryz.prog (W.alloc (.cells #[.int .u8 (c.toNat : Int)] 5)) = .ok (.string ⟨[c].toArray⟩) (W.alloc (.cells #[.int .u8 (c.toNat : Int)] 5)) := by
  have h : Row W.heap.size (W.alloc (.cells #[.int .u8 (c.toNat : Int)] 5)) (.slice (some ⟨W.heap.size, 0, none⟩) 1 1) [c] :=
    World.ownsRow_lit (base := W.heap.size) (e := 5) (size := 1) W #[.int .u8 (c.toNat : Int)] 1 (Nat.le_refl _) (by decide) rfl
  exact h.str

theorem ext_take (s : ByteArray) (b e : Nat) : s.extract b e = ⟨((s.data.toList.drop b).take (e - b)).toArray⟩ := by
  apply ByteArray.ext
  apply Array.ext'
  rw [ByteArray.data_extract, Array.toList_extract]

theorem RP.setg {B g : Nat} {w : World} {v : Value} {ps : List Pp.Pc} (h : RP B w v ps) (hg : g < B) (o : Nat) (u : Value) : RP B (w.setCell ⟨g, o, none⟩ u) v ps :=
  h.keep fun q hq _ => Below.heap_setCell _ _ _ _ (by show q ≠ g; omega)
theorem RP.draw {B : Nat} {w : World} {v : Value} {ps : List Pp.Pc} (h : RP B w v ps) (k : Nat) : RP B (w.drewN k) v ps := h.keep fun _ _ _ => rfl
theorem FB.setg {g B : Nat} {w w' : World} (h : FB g B w w') (o : Nat) (u : Value) : FB g B w (w'.setCell ⟨g, o, none⟩ u) :=
  ⟨by simpa [World.setCell] using h.1, fun k hk hkg => by rw [Below.heap_setCell _ _ _ _ (by show k ≠ g; exact hkg)]; exact h.2.1 k hk hkg, h.2.2⟩
theorem FB.draw {g B : Nat} {w w' : World} (h : FB g B w w') (k : Nat) : FB g B w (w'.drewN k) := h

theorem RdPost.ret {B g N : Nat} {s : ByteArray} {w w' : World} {R : Option (Nat × List Pp.Pc × Nat)} {e : Ending} (h : RdPost B g s w N R e w') : ∃ k : Int, e = .returned (.int .i64 k) := by
  obtain ⟨_, h⟩ := h
  cases R with
  | none => obtain ⟨k, _, _, _, _, e, _⟩ := h; exact ⟨k, e⟩
  | some r => exact ⟨_, h.1⟩
theorem RdPost.next {B g N N' : Nat} {s : ByteArray} {w w1 w' : World} {R R' : Option (Nat × List Pp.Pc × Nat)} {e : Ending} (h : RdPost B g s w1 N R e w') (hf : FB g B w w1) (hN : N ≤ N') (hR : R' = R) : RdPost B g s w N' R' e w' := by
  subst hR
  refine ⟨hf.trans h.1, ?_⟩
  have h2 := h.2
  cases R' with
  | none => obtain ⟨k, a, v, n, cs, h1, h2, h3, h4, h5⟩ := h2; exact ⟨k, a, v, n, cs, h1, h2, h3, h4, by omega⟩
  | some r => exact h2
/-- It went wrong. -/
theorem RdPost.bad {B g N a n : Nat} {s : ByteArray} {w w' : World} {v : Value} {cs : List Value} {R : Option (Nat × List Pp.Pc × Nat)} (hf : FB g B w w') (hR : Rd w' g s a true v) (hp : PR B w' v n cs) (hn : n ≤ N) (ha : a ≤ s.size) (hn0 : R = none) (k : Int) : RdPost B g s w N R (.returned (.int .i64 k)) w' := by
  subst hn0
  exact ⟨hf, k, a, v, n, cs, rfl, ha, hR, hp, hn⟩

/-- One piece without kids more. -/
theorem rdPut0 (B g a op : Nat) (s x : ByteArray) (t : List UInt8) (v : Value) (ps : List Pp.Pc) (w : World) (h : Rd w g s a false v) (hr : RP B w v ps) (hg : g < B) (hB : B ≤ w.heap.size) (ha : a ≤ s.size) (hn : ps.length ≤ 60) (hx : x = ⟨t.toArray⟩) :
    Calls Tryz.prog 72 #[.pointer (some ⟨g, 0, none⟩), .agg #[.int .i64 (op : Int), .string x, .slice none 0 0]] w (RdPost B g s w 61 ((Pp.put ps ⟨op, t, []⟩).map fun (o, k) => (a, o, k))) := by
  subst hx
  exact rdPutP B g a 0 s v ps ⟨op, t, []⟩ w w h hr (Below.refl _ _) hg hB ha hn (fun h => absurd rfl h)

set_option maxHeartbeats 1000000 in
theorem rdSetP (B g a : Nat) (s : ByteArray) (v : Value) (ps : List Pp.Pc) (w : World) (h : Rd w g s a false v) (hr : RP B w v ps) (hg : g < B) (hB : B ≤ w.heap.size) (ha : a < s.size) (hs : s.size ≤ 24) (hn : ps.length ≤ 60) :
    Calls Tryz.prog 98 #[.pointer (some ⟨g, 0, none⟩)] w (RdPost B g s w 61 (Pp.set s.data.toList (a + 1) ps)) := by
  obtain ⟨cs, hp⟩ := hr.pr
  have hlen : s.data.toList.length = s.size := by simp
  have key : ∀ (b op : Nat) (e : Ending) (w' : World), SetPost B g b ps.length op s v cs w e w' → RdPost B g s w 61 (if Pp.close (s.data.toList.drop b) b = s.data.toList.length ∨ Pp.close (s.data.toList.drop b) b = b then none
      else (Pp.put ps ⟨op, (s.data.toList.drop b).take (Pp.close (s.data.toList.drop b) b - b), []⟩).map fun (o, k) => (Pp.close (s.data.toList.drop b) b + 1, o, k)) e w' := by
    intro b op e w' hset
    rcases hset with ⟨hbad, rfl, ⟨a', ha', hR⟩, hP, hF⟩ | ⟨h1, h2, rfl, v', hR, hP, hF, hQ⟩
    · rw [if_pos (by rw [hlen]; exact hbad)]
      exact RdPost.bad (FB.fr hF hp hB) hR hP (by omega) ha' rfl 0
    · rw [if_neg (by rw [hlen]; omega)]
      refine ⟨FB.fr hF hp hB, ?_⟩
      by_cases h60 : 60 < ps.length + 1
      · simp only [Pp.put, if_pos h60, Option.map_none]
        simp only [h60, decide_true] at hR
        exact ⟨_, _, v', _, _, rfl, by omega, hR, hP, by omega⟩
      · simp only [Pp.put, if_neg h60, Option.map_some]
        simp only [h60, decide_false] at hR
        refine ⟨trivial, by omega, by simp; omega, v', hR, ?_⟩
        refine RP.put (p := ⟨op, _, []⟩) (q := 0) hr (Below.refl _ _) (fun h => absurd rfl h) hg hB hp hP ?_ (fun cs0 h0 => h0.unique hp fun _ _ => rfl) hF.2.1 hQ
        rw [ext_take]
        rfl
  refine (rdSet_any B g a ps.length s v cs w h hp hn hg hB ha hs).mono ?_
  intro e w' hpost
  unfold Pp.set
  by_cases hneg : s.data.toList[a + 1]? = some 94
  · rw [if_pos hneg] at hpost
    have e2 : (s.data.toList[a + 1]? == some 94) = true := by rw [hneg]; rfl
    simp only [e2, ↓reduceIte]
    exact key (a + 2) 4 e w' hpost
  · rw [if_neg hneg] at hpost
    have e2 : (s.data.toList[a + 1]? == some 94) = false := by simpa using hneg
    simp only [e2, Bool.false_eq_true, ↓reduceIte]
    exact key (a + 1) 3 e w' hpost
end PartRdF
end Go.Proofs.YtknojhmnadmilaaGreatDoor
