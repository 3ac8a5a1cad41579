/- The specification's reader of a pattern: the pieces that it has read, one more of them, and what each of its parts leaves. Plain facts, without the program: the bytes that a number is written as (least seven bits first), and that a text of such bytes is the shortest one just when its last byte is no needless nought. Small laws for the walks: a byte appended to a row of bytes that the call itself made, and the string of such a row. The specification's reader of a pattern: a set, and small laws on what a part leaves. -/
import Derived.Test.YtmofljfffcnlbaaMPSxRdD
import Derived.Test.YtmofljfffcnlbaaProg
import Derived.WalkKit
import Derived.WalkSpells
import Derived.WalkLawsBesides
import Derived.Handy
import Derived.Laws.BytesArg
namespace Go.Proofs.Ytmofljfffcnlbaa
section PartRdE
open Go.RowKit

def Pp.no : Pp.Pc := ⟨0, [], []⟩
/-- What may have changed: the reader itself, and what lies from block B on. -/
def FB (g B : Nat) (w w' : World) : Prop := w.heap.size ≤ w'.heap.size ∧ (∀ k, k < B → k ≠ g → w'.heap[k]? = w.heap[k]?) ∧ Env w w'
theorem FB.refl (g B : Nat) (w : World) : FB g B w w := ⟨Nat.le_refl _, fun _ _ _ => rfl, rfl, rfl, rfl⟩
theorem FB.trans {g B : Nat} {w w1 w2 : World} (h1 : FB g B w w1) (h2 : FB g B w1 w2) : FB g B w w2 := ⟨Nat.le_trans h1.1 h2.1, fun k hk hg => (h2.2.1 k hk hg).trans (h1.2.1 k hk hg), h2.2.2.1.trans h1.2.2.1, h2.2.2.2.1.trans h1.2.2.2.1, h2.2.2.2.2.trans h1.2.2.2.2⟩
theorem FB.of {g B : Nat} {w w' : World} (h : Below B w w') : FB g B w w' := ⟨h.size, fun k hk _ => h.block k hk, h.os, h.tape, h.output⟩
end PartRdE
section PartPlainA
namespace Pl

/-- The byte of n's least seven bits, marked as one that goes on. -/
def hb (n : Nat) : UInt8 := UInt8.ofNat (n % 128 + 128)

/-- The bytes of n, with room for f + 1 of them. -/
def vb : Nat → Nat → List UInt8
  | 0, n => [UInt8.ofNat n]
  | f + 1, n => if 127 < n then hb n :: vb f (n / 128) else [UInt8.ofNat n]

theorem vb_more (f n : Nat) (h : 127 < n) : vb (f + 1) n = hb n :: vb f (n / 128) := by
  rw [vb, if_pos h]
theorem vb_last (f n : Nat) (h : ¬ 127 < n) : vb f n = [UInt8.ofNat n] := by
  cases f with
  | zero => rfl
  | succ f => rw [vb, if_neg h]

theorem vb_len (f n : Nat) : (vb f n).length ≤ f + 1 := by
  induction f generalizing n with
  | zero => simp [vb]
  | succ f ih =>
    by_cases h : 127 < n
    · rw [vb_more f n h]; have := ih (n / 128); simp; omega
    · rw [vb_last _ n h]; simp

/-- The number of a text of bytes, seven bits of each, the least first. -/
def val : List UInt8 → Nat
  | [] => 0
  | b :: l => b.toNat % 128 + 128 * val l

theorem val_snoc (l : List UInt8) (b : UInt8) : val (l ++ [b]) = val l + 128 ^ l.length * (b.toNat % 128) := by
  induction l with
  | nil => simp [val]
  | cons a l ih =>
    simp only [List.cons_append, val, ih, List.length_cons, Nat.pow_succ]
    have : 128 * (128 ^ l.length * (b.toNat % 128)) = 128 ^ l.length * 128 * (b.toNat % 128) := by
      rw [Nat.mul_comm (128 ^ l.length) 128, Nat.mul_assoc]
    omega

theorem val_lt (l : List UInt8) : val l < 128 ^ l.length := by
  induction l with
  | nil => simp [val]
  | cons a l ih => simp only [val, List.length_cons, Nat.pow_succ]; omega

/-- Every byte of l goes on (is 128 or more). -/
def Goes (l : List UInt8) : Prop := ∀ b ∈ l, 128 ≤ b.toNat

theorem val_zero_last (l : List UInt8) (c : UInt8) (hc : c.toNat < 128) (h : val (l ++ [c]) = 0) : c.toNat = 0 := by
  rw [val_snoc] at h
  have h2 : 128 ^ l.length * (c.toNat % 128) = 0 := by omega
  rcases Nat.mul_eq_zero.1 h2 with h3 | h3
  · exact absurd h3 (Nat.ne_of_gt (Nat.pow_pos (by omega)))
  · omega

theorem small (k : Nat) (h : k < 256) : (UInt8.ofNat k).toNat = k := by simp [UInt8.toNat_ofNat']; omega

theorem hb_nat (n : Nat) : (hb n).toNat = n % 128 + 128 := small _ (by omega)
theorem ofNat_toNat (b : UInt8) (n : Nat) (h : n = b.toNat) : UInt8.ofNat n = b := by subst h; simp

/-- A text of bytes that go on and a last one that does not is what its number is written as, just when the last one is no nought behind others. -/
theorem vb_val (f : Nat) (l : List UInt8) (c : UInt8) (hl : Goes l) (hc : c.toNat < 128) (hf : l.length ≤ f) :
    vb f (val (l ++ [c])) = l ++ [c] ↔ ¬ (c.toNat = 0 ∧ 0 < l.length) := by
  induction l generalizing f with
  | nil =>
    have e : val ([] ++ [c]) = c.toNat := by simp [val]; omega
    rw [e, vb_last f _ (by omega)]
    simp
  | cons a l ih =>
    have ha : 128 ≤ a.toNat := hl a (by simp)
    have ha2 : a.toNat < 256 := a.toNat_lt
    obtain ⟨g, rfl⟩ : ∃ g, f = g + 1 := ⟨f - 1, by simp at hf; omega⟩
    have hi := ih g (fun b hb => hl b (by simp [hb])) (by simp at hf; omega)
    have e : val (a :: l ++ [c]) = a.toNat % 128 + 128 * val (l ++ [c]) := by simp [val]
    rw [e]
    by_cases hz : val (l ++ [c]) = 0
    · have h0 := val_zero_last l c hc hz
      rw [vb_last _ _ (by omega)]
      simp [h0]
    · rw [vb_more _ _ (by omega)]
      have e1 : (a.toNat % 128 + 128 * val (l ++ [c])) / 128 = val (l ++ [c]) := by omega
      have e2 : (a.toNat % 128 + 128 * val (l ++ [c])) % 128 + 128 = a.toNat := by omega
      rw [e1, show hb (a.toNat % 128 + 128 * val (l ++ [c])) = a from ofNat_toNat a _ e2]
      simp only [List.cons_append, List.cons.injEq, true_and, hi, List.length_cons]
      constructor
      · rintro h ⟨h0, _⟩
        apply h
        refine ⟨h0, ?_⟩
        cases l with
        | nil => simp [val] at hz; omega
        | cons => simp
      · rintro h ⟨h0, _⟩
        exact h ⟨h0, by omega⟩

end Pl
end PartPlainA
section PartKit
open Go.RowKit

/-- A byte as a value. -/
def bv (b : UInt8) : Value := .int .u8 (b.toNat : Int)

theorem Try.infoU : (Try.prog.info? 5).map (fun i => (i.zero, i.size, i.bytes)) = some (some (.int .u8 0), 1, 1) := by kernel_rfl

/-- The row of bytes bs, in the call's own memory from block B on. -/
def Row (B : Nat) (w : World) (v : Value) (bs : List UInt8) : Prop := w.ownsRow B 5 1 v bs.length (bs.map bv)

theorem Row.nil (B : Nat) (w : World) : Row B w (.slice none 0 0) [] := World.ownsRow_nil _ _ _ _
theorem Row.made {B : Nat} (w : World) (cur : Array Value) (cap : Nat) (hb : B ≤ w.heap.size) (hm : cap ≤ maxLen) (hs : cur.size = cap) :
    Row B (w.alloc (.cells cur 5)) (.slice (some ⟨w.heap.size, 0, none⟩) 0 cap) [] := World.ownsRow_made w cur cap hb hm (by omega)
theorem Row.alloc {B : Nat} {w : World} {v : Value} {bs : List UInt8} (h : Row B w v bs) (o : Obj) : Row B (w.alloc o) v bs := World.ownsRow.alloc h o

set_option maxRecDepth 100000 in
/-- The string of such a row. -/
theorem Row.str {B : Nat} {w : World} {v : Value} {bs : List UInt8} (h : Row B w v bs) :
    (convert 22 9 v).run Try.prog w = .ok (.string ⟨bs.toArray⟩) w := by
  rcases h.2 with ⟨rfl, hn⟩ | ⟨g, cap, cur, rfl, _, hg, _, _, _, htake⟩
  · obtain rfl : bs = [] := by simpa using hn
    exact run_convert_bytes_nil w 22 5 Try.underlying22 Try.underlying5 0 0 9 Try.underlying9
  · have hc : ∀ j, j < bs.length → w.cell? ⟨g, 0 + j, none⟩ = some (.int .u8 ((bs.map fun b => (b.toNat : Int)).getD j 0)) := by
      intro j hj
      rw [Nat.zero_add, cell_of_row w g j cur 5 (0, 0) hg]
      have e : cur.toList[j]? = (bs.map bv)[j]? := by
        rw [← htake, List.getElem?_take, if_pos (by omega)]
      have e2 : (bs.map bv)[j]? = some (.int .u8 ((bs.map fun b => (b.toNat : Int)).getD j 0)) := by
        simp [hj, bv]
      rw [← e2, ← e]; simp
    have := run_convert_bytes_arg (P := Try.prog) w 22 5 Try.underlying22 Try.underlying5 g 0 bs.length cap (bs.map fun b => (b.toNat : Int)) (by simp) hc 9 Try.underlying9
    rw [this]
    have e3 : strOfNums (bs.map fun b => (b.toNat : Int)) = ⟨bs.toArray⟩ := by
      unfold strOfNums
      congr 2
      rw [List.map_map]
      conv => rhs; rw [← List.map_id bs]
      apply List.map_congr_left
      intro b _
      simp
    rw [e3]

set_option maxRecDepth 100000 in
/-- One byte more. -/
theorem Row.push {ops : Array Oper} {rest : List Oper} {o : Oper} {a : Act} {Q : Exit → Act → World → Prop} {B : Nat} {w : World} {v : Value} {bs : List UInt8}
    (hown : Row B w v bs) (hgd : o.guard = none) (s x : Operand)
    (ho : o.op = .call { callee := .builtin .append, args := #[s, x], argTypes := #[22, 22] })
    (hs : a.eval s = v) (z : Int) (c : UInt8) (hz : z = (c.toNat : Int)) (hx : a.eval x = .slice (some ⟨w.heap.size, 0, none⟩) 1 1)
    (hlen : bs.length < 140737488355328) (hB : B ≤ w.heap.size)
    (h : ∀ v' w', Row B w' v' (bs ++ [c]) → Below B w w' → wpList Try.prog ops Q rest (a.put o.dst v') w') :
    wpList Try.prog ops Q (o :: rest) a (w.alloc (.cells #[.int .u8 z] 5)) := by
  subst hz
  obtain ⟨i0, hi, hz0, hz1, hz2⟩ := info_parts Try.infoU
  refine wpList_append_own _ hgd s x 22 ho B 5 i0 (.int .u8 0) 1 1 Try.underlying22 hi hz0 hz1 hz2 rfl (by decide) v bs.length (bs.map bv) hs (hown.alloc _) ⟨w.heap.size, 0, none⟩ 1 1 [bv c] hx rfl (cell_one_new _ _ _) ?_ ?_ ?_ ?_ ?_
  · intro u hu; simp at hu; subst hu; rfl
  · unfold maxLen; omega
  · omega
  · simp; omega
  · intro v' w' h2 h3 _
    refine h v' w' ?_ ?_
    · unfold Row; simpa using h2
    · exact ((Below.refl B w).alloc hB _).grown h3 (by simp; omega) (fun k hk => (hown.lt k hk).1)

end PartKit
section PartRdF
open Go.RowKit

theorem ext_take (s : ByteArray) (b e : Nat) : s.extract b e = ⟨((s.data.toList.drop b).take (e - b)).toArray⟩ := by
  apply ByteArray.ext
  apply Array.ext'
  rw [ByteArray.data_extract, Array.toList_extract]

theorem FB.draw {g B : Nat} {w w' : World} (h : FB g B w w') (k : Nat) : FB g B w (w'.drewN k) := h

end PartRdF
end Go.Proofs.Ytmofljfffcnlbaa
