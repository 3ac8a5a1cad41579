/- Plain facts, without the program: the bytes that a number is written as (least seven bits first), and that a text of such bytes is the shortest one just when its last byte is no needless nought. Small laws for the walks: a byte appended to a row of bytes that the call itself made, and the string of such a row. -/
import Derived.Test.YthnmopldpgdenaaProg
import Derived.WalkKit
import Derived.WalkSpells
import Derived.WalkLawsBesides
import Derived.Handy
import Derived.Laws.BytesArg
namespace Go.Proofs.Ythnmopldpgdenaa
section PartPlainA
namespace Pl

/-- The byte of n's least seven bits, marked as one that goes on. -/
def hb (n : Nat) : UInt8 := UInt8.ofNat (n % 128 + 128)

/-- The number of a text of bytes, seven bits of each, the least first. -/
def val : List UInt8 → Nat
  | [] => 0
  | b :: l => b.toNat % 128 + 128 * val l

theorem small (k : Nat) (h : k < 256) : (UInt8.ofNat k).toNat = k := by simp [UInt8.toNat_ofNat']; omega

end Pl
end PartPlainA
section PartKit
open Go.RowKit

/-- A byte as a value. -/
def bv (b : UInt8) : Value := .int .u8 (b.toNat : Int)

theorem Try.infoU : (Try.prog.info? 5).map (fun i => (i.zero, i.size, i.bytes)) = some (some (.int .u8 0), 1, 1) := by kernel_rfl

/-- The row of bytes bs, in the call's own memory from block B on. -/
def Row (B : Nat) (w : World) (v : Value) (bs : List UInt8) : Prop := w.ownsRow B 5 1 v bs.length (bs.map bv)

theorem Row.nil (B : Nat) (w : World) : Row B w (.slice none 0 0) [] := World.ownsRow_nil _ _ _ _
theorem Row.alloc {B : Nat} {w : World} {v : Value} {bs : List UInt8} (h : Row B w v bs) (o : Obj) : Row B (w.alloc o) v bs := World.ownsRow.alloc h o

set_option maxRecDepth 100000 in
/-- The string of such a row. -/
theorem Row.str {B : Nat} {w : World} {v : Value} {bs : List UInt8} (h : Row B w v bs) :
    (convert 112 9 v).run Try.prog w = .ok (.string ⟨bs.toArray⟩) w := by
  rcases h.2 with ⟨rfl, hn⟩ | ⟨g, cap, cur, rfl, _, hg, _, _, _, htake⟩
  · obtain rfl : bs = [] := by simpa using hn
    exact run_convert_bytes_nil w 112 5 Try.underlying112 Try.underlying5 0 0 9 Try.underlying9
  · have hc : ∀ j, j < bs.length → w.cell? ⟨g, 0 + j, none⟩ = some (.int .u8 ((bs.map fun b => (b.toNat : Int)).getD j 0)) := by
      intro j hj
      rw [Nat.zero_add, cell_of_row w g j cur 5 (0, 0) hg]
      have e : cur.toList[j]? = (bs.map bv)[j]? := by
        rw [← htake, List.getElem?_take, if_pos (by omega)]
      have e2 : (bs.map bv)[j]? = some (.int .u8 ((bs.map fun b => (b.toNat : Int)).getD j 0)) := by
        simp [hj, bv]
      rw [← e2, ← e]; simp
    have := run_convert_bytes_arg (P := Try.prog) w 112 5 Try.underlying112 Try.underlying5 g 0 bs.length cap (bs.map fun b => (b.toNat : Int)) (by simp) hc 9 Try.underlying9
    rw [this]
    have e3 : strOfNums (bs.map fun b => (b.toNat : Int)) = ⟨bs.toArray⟩ := by
      unfold strOfNums
      congr 2
      rw [List.map_map]
      conv => rhs; rw [← List.map_id bs]
      apply List.map_congr_left
      intro b _
      simp
    rw [e3]

set_option maxRecDepth 100000 in
/-- One byte more. -/
theorem Row.push {ops : Array Oper} {rest : List Oper} {o : Oper} {a : Act} {Q : Exit → Act → World → Prop} {B : Nat} {w : World} {v : Value} {bs : List UInt8}
    (hown : Row B w v bs) (hgd : o.guard = none) (s x : Operand)
    (ho : o.op = .call { callee := .builtin .append, args := #[s, x], argTypes := #[112, 112] })
    (hs : a.eval s = v) (z : Int) (c : UInt8) (hz : z = (c.toNat : Int)) (hx : a.eval x = .slice (some ⟨w.heap.size, 0, none⟩) 1 1)
    (hlen : bs.length < 140737488355328) (hB : B ≤ w.heap.size)
    (h : ∀ v' w', Row B w' v' (bs ++ [c]) → Below B w w' → wpList Try.prog ops Q rest (a.put o.dst v') w') :
    wpList Try.prog ops Q (o :: rest) a (w.alloc (.cells #[.int .u8 z] 5)) := by
  subst hz
  obtain ⟨i0, hi, hz0, hz1, hz2⟩ := info_parts Try.infoU
  refine wpList_append_own _ hgd s x 112 ho B 5 i0 (.int .u8 0) 1 1 Try.underlying112 hi hz0 hz1 hz2 rfl (by decide) v bs.length (bs.map bv) hs (hown.alloc _) ⟨w.heap.size, 0, none⟩ 1 1 [bv c] hx rfl (cell_one_new _ _ _) ?_ ?_ ?_ ?_ ?_
  · intro u hu; simp at hu; subst hu; rfl
  · unfold maxLen; omega
  · omega
  · simp; omega
  · intro v' w' h2 h3 _
    refine h v' w' ?_ ?_
    · unfold Row; simpa using h2
    · exact ((Below.refl B w).alloc hB _).grown h3 (by simp; omega) (fun k hk => (hown.lt k hk).1)

end PartKit
end Go.Proofs.Ythnmopldpgdenaa
